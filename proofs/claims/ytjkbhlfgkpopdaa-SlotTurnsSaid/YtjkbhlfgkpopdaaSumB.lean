/- Sum: walks. -/
import Derived.Test.YtjkbhlfgkpopdaaSumA
namespace Go.Proofs.Ytjkbhlfgkpopdaa
open Go.RowKit

def d1s : Nat → Nat → Nat
  | 0, x => x
  | n + 1, x => Crc.d1 (d1s n x)
theorem d1s_8 (x : Nat) : d1s 8 x = Crc.d8 x := rfl
theorem d1s_lt {x : Nat} (h : x < 4294967296) : ∀ n, d1s n x < 4294967296
  | 0 => h
  | n + 1 => Crc.d1_lt (d1s_lt h n)
theorem and_one (a : Nat) (ha : a < 4294967296) : bits .and .u32 (a : Int) 1 = ((a % 2 : Nat) : Int) := by
  have h : ((1 : Nat) : Int) = (1 : Int) := rfl
  rw [← h]
  rw [(bits_nat .u32 32 (by decide) (fun n h0 h1 => by rw [IntKind.wrap_u32]; omega) a 1 (by omega) (by omega)).1, Nat.and_one_is_mod]

set_option maxRecDepth 100000 in
theorem eight_any (r : Nat) (w : World) (hr : r < 4294967296) :
    Calls Try.prog 37 #[.int .u32 r] w fun e w' => e = .returned (.int .u32 (Crc.d8 r : Nat)) ∧ w = w' := by
  have HR := Lib.hid hr; clear hr
  go_enter Try.func37, Try.ntmps37
  go_wp2
  go_loop [0, 4] (fun x i => ∃ k : Nat, k ≤ 8 ∧ i = .int .i64 k ∧ x = .int .u32 (d1s k r : Nat)) (fun _ i => 8 - (intOf i).toNat)
  case atStart => exact ⟨0, by omega, rfl, rfl⟩
  case round =>
    obtain ⟨k, hk, rfl, rfl⟩ := hrel
    by_cases hlt : k < 8
    · have e1 := and_one (d1s k r) (d1s_lt HR.out k)
      have e3 : bits .xor .u32 (((d1s k r : Nat) : Int) / 2) 2197175160 = ((d1s k r / 2 ^^^ 2197175160 : Nat) : Int) := by
        rw [← bits_xor32 _ _ (by have := d1s_lt HR.out k; omega) (by omega)]; rfl
      have hs : d1s (k + 1) r = if d1s k r % 2 = 1 then d1s k r / 2 ^^^ 2197175160 else d1s k r / 2 := rfl
      have HS := Lib.hid hs; clear hs
      rcases Nat.mod_two_eq_zero_or_one (d1s k r) with h | h
      all_goals
        rw [h] at e1
        have H := Lib.hid h; clear h
        go_wp2
        go_round
        case rel => exact ⟨k + 1, by omega, by go_num, by rw [HS.out, H.out]; rfl⟩
        case measure => simp [intOf]; omega
    · go_wp2
      go_ret
      obtain rfl : k = 8 := by omega
      exact ⟨rfl, rfl⟩

end Go.Proofs.Ytjkbhlfgkpopdaa
