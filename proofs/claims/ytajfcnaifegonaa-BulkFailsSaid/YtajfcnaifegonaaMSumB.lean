/- Sum: walks. -/
import Derived.Test.YtajfcnaifegonaaChecked
import Derived.Test.YtajfcnaifegonaaCrc
import Derived.WalkKit
import Derived.ProofKit
import Derived.Lib.Hide
namespace Go.Proofs.Ytajfcnaifegonaa
open Go.RowKit
theorem ret_int {k : IntKind} {a b : Int} (h : a = b) : Ending.returned (.int k a) = .returned (.int k b) := by rw [h]
theorem bits_xor8 (a b : Nat) (ha : a < 256) (hb : b < 256) : bits .xor .u8 (a : Int) (b : Int) = ((a ^^^ b : Nat) : Int) := by
  have h := Nat.xor_lt_two_pow (n := 8) ha hb
  simp only [bits, BitVec.ofInt_natCast, BitVec.toNat_xor, BitVec.toNat_ofNat]
  rw [Nat.mod_eq_of_lt (show a < 2 ^ IntKind.u8.bits from ha), Nat.mod_eq_of_lt (show b < 2 ^ IntKind.u8.bits from hb), IntKind.wrap_u8]
  omega
theorem bits_xor32 (a b : Nat) (ha : a < 4294967296) (hb : b < 4294967296) : bits .xor .u32 (a : Int) (b : Int) = ((a ^^^ b : Nat) : Int) := by
  have h := Nat.xor_lt_two_pow (n := 32) ha hb
  simp only [bits, BitVec.ofInt_natCast, BitVec.toNat_xor, BitVec.toNat_ofNat]
  rw [Nat.mod_eq_of_lt (show a < 2 ^ IntKind.u32.bits from ha), Nat.mod_eq_of_lt (show b < 2 ^ IntKind.u32.bits from hb), IntKind.wrap_u32]
  omega
set_option maxRecDepth 100000 in
theorem next_any (b : Nat) (r c : Nat) (w : World) (hr : r < 4294967296) (hc : c < 256)
    (hcell : ∀ i : Nat, i < 256 → w.cell? ⟨b, i, none⟩ = some (.int .u32 (Crc.d8 i : Nat))) :
    Calls Try.prog 90 #[.pointer (some ⟨b, 0, none⟩), .int .u32 r, .int .u8 c] w fun e w' => e = .returned (.int .u32 (Crc.step r c : Nat)) ∧ w = w' := by
  have hx : (r % 256 ^^^ c : Nat) < 256 := Nat.xor_lt_two_pow (n := 8) (by omega) hc
  have e1 : bits .xor .u8 ((r : Int) % 256) (c : Int) = ((r % 256 ^^^ c : Nat) : Int) := by
    rw [← bits_xor8 (r % 256) c (by omega) hc]; rfl
  have g := hcell _ hx
  have e2 : bits .xor .u32 ((r : Int) / 256) ((Crc.d8 (r % 256 ^^^ c) : Nat) : Int) = ((Crc.step r c : Nat) : Int) := by
    rw [Crc.step_table, ← bits_xor32 (r / 256) _ (by omega) (Crc.d8_lt (by omega))]; rfl
  generalize r % 256 ^^^ c = x at *
  generalize Crc.d8 x = d at *
  generalize Crc.step r c = s at *
  have hx0 : (x : Int) < 256 := by omega
  clear hcell hr hc hx
  go_enter Try.func90, Try.ntmps90
  go_wp2
  go_ret
  exact ⟨rfl, rfl⟩
end Go.Proofs.Ytajfcnaifegonaa
/- Sum: walks. -/
namespace Go.Proofs.Ytajfcnaifegonaa
open Go.RowKit
def d1s : Nat → Nat → Nat
  | 0, x => x
  | n + 1, x => Crc.d1 (d1s n x)
theorem d1s_8 (x : Nat) : d1s 8 x = Crc.d8 x := rfl
theorem d1s_lt {x : Nat} (h : x < 4294967296) : ∀ n, d1s n x < 4294967296
  | 0 => h
  | n + 1 => Crc.d1_lt (d1s_lt h n)
theorem and_one (a : Nat) (ha : a < 4294967296) : bits .and .u32 (a : Int) 1 = ((a % 2 : Nat) : Int) := by
  have h : ((1 : Nat) : Int) = (1 : Int) := rfl
  rw [← h]
  rw [(bits_nat .u32 32 (by decide) (fun n h0 h1 => by rw [IntKind.wrap_u32]; omega) a 1 (by omega) (by omega)).1, Nat.and_one_is_mod]
set_option maxRecDepth 100000 in
theorem eight_any (r : Nat) (w : World) (hr : r < 4294967296) :
    Calls Try.prog 94 #[.int .u32 r] w fun e w' => e = .returned (.int .u32 (Crc.d8 r : Nat)) ∧ w = w' := by
  have HR := Lib.hid hr; clear hr
  go_enter Try.func94, Try.ntmps94
  go_wp2
  go_loop [0, 4] (fun x i => ∃ k : Nat, k ≤ 8 ∧ i = .int .i64 k ∧ x = .int .u32 (d1s k r : Nat)) (fun _ i => 8 - (intOf i).toNat)
  case atStart => exact ⟨0, by omega, rfl, rfl⟩
  case round =>
    obtain ⟨k, hk, rfl, rfl⟩ := hrel
    by_cases hlt : k < 8
    · have e1 := and_one (d1s k r) (d1s_lt HR.out k)
      have e3 : bits .xor .u32 (((d1s k r : Nat) : Int) / 2) 2197175160 = ((d1s k r / 2 ^^^ 2197175160 : Nat) : Int) := by
        rw [← bits_xor32 _ _ (by have := d1s_lt HR.out k; omega) (by omega)]; rfl
      have hs : d1s (k + 1) r = if d1s k r % 2 = 1 then d1s k r / 2 ^^^ 2197175160 else d1s k r / 2 := rfl
      have HS := Lib.hid hs; clear hs
      rcases Nat.mod_two_eq_zero_or_one (d1s k r) with h | h
      all_goals
        rw [h] at e1
        have H := Lib.hid h; clear h
        go_wp2
        go_round
        case rel => exact ⟨k + 1, by omega, by go_num, by rw [HS.out, H.out]; rfl⟩
        case measure => simp [intOf]; omega
    · go_wp2
      go_ret
      obtain rfl : k = 8 := by omega
      exact ⟨rfl, rfl⟩
end Go.Proofs.Ytajfcnaifegonaa
