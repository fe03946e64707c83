/- Sum: walks: the document's sum. -/
import Derived.Test.YtjkbhlfgkpopdaaSumD
namespace Go.Proofs.Ytjkbhlfgkpopdaa
open Go.RowKit Go.By

theorem half_step (R x : Nat) : (if ((R % 2 != x % 2) : Bool) then R / 2 ^^^ 2197175160 else R / 2) ^^^ x / 2 = Crc.d1 (R ^^^ x) := by
  unfold Crc.d1
  rw [Crc.half_xor, Crc.odd_xor]
  rcases Nat.mod_two_eq_zero_or_one R with h | h <;> rcases Nat.mod_two_eq_zero_or_one x with g | g <;> rw [h, g]
  · rfl
  · show R / 2 ^^^ 2197175160 ^^^ x / 2 = R / 2 ^^^ x / 2 ^^^ 2197175160
    rw [Nat.xor_assoc, Nat.xor_comm 2197175160, Nat.xor_assoc]
  · show R / 2 ^^^ 2197175160 ^^^ x / 2 = R / 2 ^^^ x / 2 ^^^ 2197175160
    rw [Nat.xor_assoc, Nat.xor_comm 2197175160, Nat.xor_assoc]
  · rfl

set_option maxRecDepth 100000 in
theorem ref_any (v : Value) (l : List Nat) (w : World) (hv : Bytes w v l) :
    Calls Try.prog 23 #[v] w fun e w' => e = .returned (.int .u32 (Crc.sum l : Nat)) ∧ w = w' := by
  obtain ⟨p, cap, rfl, hc⟩ := hv.any
  have hs := hv.small
  have hm := hv.short
  clear hv
  unfold maxLen at hm
  have HC := Lib.hid hc; clear hc
  have HS := Lib.hid hs; clear hs
  go_enter Try.func23, Try.ntmps23
  go_wp2
  go_loop [3, 4] (fun x i => ∃ k : Nat, k ≤ l.length ∧ i = .int .i64 k ∧ x = .int .u32 (Crc.raw 4294967295 (l.take k) : Nat)) (fun _ i => l.length - (intOf i).toNat)
  case atStart => exact ⟨0, by omega, rfl, rfl⟩
  case round =>
    obtain ⟨k, hk, rfl, rfl⟩ := hrel
    have hlt4 := Crc.raw_lt (l.take k) 4294967295 (by omega) (fun c hc => HS.out c (List.mem_of_mem_take hc))
    by_cases hlt : k < l.length
    · obtain ⟨b, off, rfl, hcell⟩ := HC.out k hlt
      have hc : atB l k < 256 := HS.out _ (by rw [atB_of hlt]; exact List.getElem_mem hlt)
      have hr : Crc.raw 4294967295 (l.take (k + 1)) = Crc.step (Crc.raw 4294967295 (l.take k)) (atB l k) := by
        rw [List.take_succ_eq_append_getElem hlt, Crc.raw_snoc, atB_of hlt]
      have HR := Lib.hid hr; clear hr
      have H4 := Lib.hid hlt4; clear hlt4
      have HL := Lib.hid hlt
      go_wp2
      clear hcell
      have HCC := Lib.hid hc; clear hc
      go_loop [3, 5, 6] (fun x y i => ∃ j R : Nat, j ≤ 8 ∧ i = .int .i64 j ∧ y = .int .u32 (atB l k / 2 ^ j : Nat) ∧ x = .int .u32 R ∧ R < 4294967296 ∧ R ^^^ atB l k / 2 ^ j = d1s j (Crc.raw 4294967295 (l.take k) ^^^ atB l k)) (fun _ _ i => 8 - (intOf i).toNat)
      case atStart => exact ⟨0, _, by omega, rfl, by rw [Nat.pow_zero, Nat.div_one], rfl, H4.out, by rw [Nat.pow_zero, Nat.div_one]; rfl⟩
      case round =>
        obtain ⟨j, R, hj, rfl, rfl, rfl, hR, hd⟩ := hrel
        by_cases hj8 : j < 8
        · have hx : atB l k / 2 ^ j < 256 := Nat.lt_of_le_of_lt (Nat.div_le_self _ _) HCC.out
          have hx2 : atB l k / 2 ^ (j + 1) = atB l k / 2 ^ j / 2 := by rw [Nat.pow_succ, Nat.div_div_eq_div_mul]
          generalize atB l k / 2 ^ j = X at *
          have hd' : (if ((R % 2 != X % 2) : Bool) then R / 2 ^^^ 2197175160 else R / 2) ^^^ X / 2 = d1s (j + 1) (Crc.raw 4294967295 (l.take k) ^^^ atB l k) := by
            rw [half_step, hd]; rfl
          have HD := Lib.hid hd'; clear hd' hd
          have HXD := Lib.hid hx2; clear hx2
          have e3 : bits .xor .u32 ((R : Int) / 2) 2197175160 = ((R / 2 ^^^ 2197175160 : Nat) : Int) := by
            rw [← bits_xor32 _ _ (by omega) (by omega)]; rfl
          have hlt' : (R / 2 ^^^ 2197175160 : Nat) < 4294967296 := Nat.xor_lt_two_pow (n := 32) (by omega) (by omega)
          have HLT := Lib.hid hlt'; clear hlt'
          have hb : (((R : Int) % 2 != (X : Int) % 2) : Bool) = ((R % 2 != X % 2) : Bool) := by
            rw [Bool.eq_iff_iff]; simp; omega
          cases hbb : (R % 2 != X % 2) <;> rw [hbb] at hb
          · have HBB := Lib.hid hbb; clear hbb
            go_wp2
            go_round
            case rel => exact ⟨j + 1, R / 2, by omega, by go_num, by rw [HXD.out]; rfl, rfl, by omega, by have := HD.out; rw [HBB.out] at this; rw [HXD.out]; exact this⟩
            case measure => simp [intOf]; omega
          · have HBB := Lib.hid hbb; clear hbb
            go_wp2
            go_round
            case rel => exact ⟨j + 1, R / 2 ^^^ 2197175160, by omega, by go_num, by rw [HXD.out]; rfl, rfl, HLT.out, by have := HD.out; rw [HBB.out] at this; rw [HXD.out]; exact this⟩
            case measure => simp [intOf]; omega
        · obtain rfl : j = 8 := by omega
          have hr8 : R = Crc.raw 4294967295 (l.take (k + 1)) := by
            rw [HR.out]
            rw [show atB l k / 2 ^ 8 = 0 from Nat.div_eq_of_lt HCC.out, Nat.xor_zero, d1s_8] at hd
            exact hd
          have HR8 := Lib.hid hr8; clear hr8 hd
          go_wp2
          go_round
          case rel => exact ⟨k + 1, by omega, by go_num, by rw [HR8.out]⟩
          case measure => simp [intOf]; omega
    · obtain rfl : k = l.length := by omega
      rw [List.take_length] at hlt4 ⊢
      have e1 : bits .xor .u32 4294967295 ((Crc.raw 4294967295 l : Nat) : Int) = ((Crc.sum l : Nat) : Int) := by
        unfold Crc.sum
        rw [Nat.xor_comm, ← bits_xor32 _ _ (by omega) hlt4]; rfl
      have E1 := Lib.hid e1; clear e1
      clear hlt4
      go_wp2
      go_ret
      exact ⟨ret_int E1.out, rfl⟩
end Go.Proofs.Ytjkbhlfgkpopdaa
