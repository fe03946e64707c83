/- Sum: walks. -/
import Derived.Test.YtjkbhlfgkpopdaaChecked
import Derived.Test.YtjkbhlfgkpopdaaCrc
import Derived.WalkKit
import Derived.ProofKit
import Derived.Lib.Hide
namespace Go.Proofs.Ytjkbhlfgkpopdaa
open Go.RowKit

theorem ret_int {k : IntKind} {a b : Int} (h : a = b) : Ending.returned (.int k a) = .returned (.int k b) := by rw [h]

theorem bits_xor8 (a b : Nat) (ha : a < 256) (hb : b < 256) : bits .xor .u8 (a : Int) (b : Int) = ((a ^^^ b : Nat) : Int) := by
  have h := Nat.xor_lt_two_pow (n := 8) ha hb
  simp only [bits, BitVec.ofInt_natCast, BitVec.toNat_xor, BitVec.toNat_ofNat]
  rw [Nat.mod_eq_of_lt (show a < 2 ^ IntKind.u8.bits from ha), Nat.mod_eq_of_lt (show b < 2 ^ IntKind.u8.bits from hb), IntKind.wrap_u8]
  omega
theorem bits_xor32 (a b : Nat) (ha : a < 4294967296) (hb : b < 4294967296) : bits .xor .u32 (a : Int) (b : Int) = ((a ^^^ b : Nat) : Int) := by
  have h := Nat.xor_lt_two_pow (n := 32) ha hb
  simp only [bits, BitVec.ofInt_natCast, BitVec.toNat_xor, BitVec.toNat_ofNat]
  rw [Nat.mod_eq_of_lt (show a < 2 ^ IntKind.u32.bits from ha), Nat.mod_eq_of_lt (show b < 2 ^ IntKind.u32.bits from hb), IntKind.wrap_u32]
  omega

set_option maxRecDepth 100000 in
theorem next_any (b : Nat) (r c : Nat) (w : World) (hr : r < 4294967296) (hc : c < 256)
    (hcell : ∀ i : Nat, i < 256 → w.cell? ⟨b, i, none⟩ = some (.int .u32 (Crc.d8 i : Nat))) :
    Calls Try.prog 36 #[.pointer (some ⟨b, 0, none⟩), .int .u32 r, .int .u8 c] w fun e w' => e = .returned (.int .u32 (Crc.step r c : Nat)) ∧ w = w' := by
  have hx : (r % 256 ^^^ c : Nat) < 256 := Nat.xor_lt_two_pow (n := 8) (by omega) hc
  have e1 : bits .xor .u8 ((r : Int) % 256) (c : Int) = ((r % 256 ^^^ c : Nat) : Int) := by
    rw [← bits_xor8 (r % 256) c (by omega) hc]; rfl
  have g := hcell _ hx
  have e2 : bits .xor .u32 ((r : Int) / 256) ((Crc.d8 (r % 256 ^^^ c) : Nat) : Int) = ((Crc.step r c : Nat) : Int) := by
    rw [Crc.step_table, ← bits_xor32 (r / 256) _ (by omega) (Crc.d8_lt (by omega))]; rfl
  generalize r % 256 ^^^ c = x at *
  generalize Crc.d8 x = d at *
  generalize Crc.step r c = s at *
  have hx0 : (x : Int) < 256 := by omega
  clear hcell hr hc hx
  go_enter Try.func36, Try.ntmps36
  go_wp2
  go_ret
  exact ⟨rfl, rfl⟩

end Go.Proofs.Ytjkbhlfgkpopdaa
