/- The document's keys: what a pair was made of. -/
import Derived.Test.YtfebdgnojacoiaaRefL
namespace Go.Proofs.Ytfebdgnojacoiaa
open Go Go.RowKit Go.By

/-- b[i:]. -/
theorem tail_run {w : World} {p : Option Addr} {cap : Nat} {l : List Nat} (h : Bytes w (.slice p l.length cap) l) (i : Nat) (I : Int) (hI : I = i) (hi : i ≤ l.length) :
    ∃ q c, (∀ w0 : World, (Instr.slice 22 (.slice p l.length cap) (some (.int .i64 I)) none none).run Try.prog w0 = .ok (.slice q (l.length - i) c) w0) ∧ Bytes w (.slice q (l.length - i) c) (l.drop i) := by
  subst hI
  obtain ⟨q, c, hr, hq⟩ := piece_run h i (l.length - i) (by omega)
  have hcap := h.room.2
  refine ⟨q, c, fun w0 => ?_, ?_⟩
  · rw [← hr w0, run_slice_l (P := Try.prog) w0 22 p l.length cap (by kernel_rfl) .i64 (i : Int) (by omega) (by omega),
      run_slice_lh (P := Try.prog) w0 22 p l.length cap (by kernel_rfl) .i64 .i64 (i : Int) ((i : Int) + ((l.length - i : Nat) : Int)) (by omega) (by omega) (by omega)]
    have e : ((i : Int) + ((l.length - i : Nat) : Int)).toNat = l.length := by omega
    rw [e]
  · have e : pc l i (l.length - i) = l.drop i := by
      unfold pc
      rw [List.take_of_length_le (by rw [List.length_drop]; omega)]
    rw [← e]; exact hq

def pkName (l : List Nat) : ByteArray := if isPair l = true then strOf (l.take (l.length - 9)) else ByteArray.empty
def pkNum (l : List Nat) : Nat := if isPair l = true then numOf (l.drop (l.length - 8)) else 0

theorem isPair_short {l : List Nat} (h : l.length < 10) : isPair l = false := by
  unfold isPair
  rw [decide_eq_false (by omega)]; rfl

set_option maxRecDepth 100000 in
theorem refTake_any (v : Value) (l : List Nat) (w : World) (hv : Bytes w v l) :
    Calls Try.prog 10 #[v] w fun e w' => e = .returned (.tuple #[.string (pkName l), .int .i64 (pkNum l : Nat), .bool (isPair l)]) ∧ Below w.heap.size w w' := by
  obtain ⟨p, cap, rfl, _⟩ := hv.any
  have hm := hv.short
  unfold maxLen at hm
  by_cases h10 : (l.length : Int) < 10
  · have E := Lib.hid (isPair_short (l := l) (by omega))
    have E1 : Hid (pkName l = ByteArray.empty) := by unfold Hid pkName; rw [E.out]; rfl
    have E2 : Hid (pkNum l = 0) := by unfold Hid pkNum; rw [E.out]; rfl
    clear hv
    go_enter Try.func10, Try.ntmps10
    go_wp2
    go_ret3
    exact ⟨by rw [E.out, E1.out, E2.out]; rfl, Below.refl _ _⟩
  · have hle : 10 ≤ l.length := by omega
    obtain ⟨q, c, hr, hq⟩ := tail_run hv (l.length - 8) ((l.length : Int) - 8) (by omega) (by omega)
    have hu := fun w => upto_runI p l.length cap (l.length - 9) ((l.length : Int) - 9) (by omega) (by have := hv.room.2; omega) w
    have hts := fun nq => Bytes.toString (P := Try.prog) byT (bytes_drewN (hv.upto (n := l.length - 9) (by omega)) nq) (d := 9) (by kernel_rfl)
    have hs2 : ∀ n, Calls Try.prog 28 #[.slice q (l.length - (l.length - 8) : Nat) c] (w.drewN n) fun e w' => e = .returned (.int .u64 (numOf (l.drop (l.length - 8)) : Nat)) ∧ w' = w.drewN n := fun n =>
      (num_any _ _ _ (bytes_drewN hq n) (by rw [List.length_drop]; omega)).mono fun _ _ ⟨h1, h2⟩ => ⟨h1, h2.symm⟩
    have HS2 := Lib.hid hs2
    have hnl := numOf_lt (l.drop (l.length - 8)) (fun c hc => hv.small c (List.mem_of_mem_drop hc))
    rw [List.length_drop] at hnl
    have hnl : numOf (l.drop (l.length - 8)) < 18446744073709551616 := Nat.lt_of_lt_of_le hnl (Nat.le_trans (Nat.pow_le_pow_right (by omega) (show l.length - (l.length - 8) ≤ 8 by omega)) (by decide))
    obtain ⟨b1, o1, rfl, hcell⟩ := hv.spot (l.length - 9) (by omega)
    have hat := hv.at_lt (i := l.length - 9) (by omega)
    have hsm : ∀ c ∈ l.take (l.length - 9), c < 256 := fun c hc => hv.small c (List.mem_of_mem_take hc)
    have HNL := Lib.hid hnl; have HM := Lib.hid hsm
    clear hq hv hsm hs2 hnl
    go_enter Try.func10, Try.ntmps10
    go_wp2
    go_quiet ((go_at_call 28; exact Calls.quiet_of_same (HS2.out _)))
    have hBW : Below w.heap.size w (w.drewN nq) := below_drewN _ _
    have hcl : (w.drewN nq).cell? ⟨b1, o1 + (l.length - 9), none⟩ = some (.int .u8 (atB l (l.length - 9) : Nat)) := hcell
    have HW := Lib.hid hBW; have HCL := Lib.hid hcl
    clear hBW hcl HS2 hr hu hts hcell
    generalize w.drewN nq = W at *
    go_wp2_with fail
    refine (refMay_any (strOf (l.take (l.length - 9))) W (by
      rw [← natsOf_length, natsOf_strOf HM.out, List.length_take]; unfold maxLen; omega)).mono ?_
    rintro e w1 ⟨rfl, rfl⟩
    rw [natsOf_strOf HM.out]
    have H : isPair l = (mayNm (l.take (l.length - 9)) && (decide (atB l (l.length - 9) = 0) && decide (numOf (l.drop (l.length - 8)) ≤ 9223372036854775807))) := by
      unfold isPair; rw [decide_eq_true hle]; rfl
    have hN : isPair l = false → Hid (Value.tuple #[.string (pkName l), .int .i64 (pkNum l : Nat), .bool (isPair l)] = .tuple #[.string ⟨#[]⟩, .int .i64 0, .bool false]) := by
      intro h; unfold Hid pkName pkNum; rw [h]; rfl
    have hY : isPair l = true → Hid (Value.tuple #[.string (pkName l), .int .i64 (pkNum l : Nat), .bool (isPair l)] = .tuple #[.string (strOf (l.take (l.length - 9))), .int .i64 (numOf (l.drop (l.length - 8)) : Nat), .bool true]) := by
      intro h; unfold Hid pkName pkNum; rw [h]; rfl
    generalize numOf (l.drop (l.length - 8)) = n at *
    generalize atB l (l.length - 9) = x at *
    have hcl := HCL.out
    cases hmm : mayNm (l.take (l.length - 9)) with
    | false =>
      have EN := hN (by rw [H, hmm]; rfl)
      clear H hN hY HCL hcl
      go_wp2
      go_ret3
      exact ⟨by rw [EN.out]; rfl, HW.out⟩
    | true =>
      by_cases hx : x = 0
      · subst hx
        by_cases hn : n ≤ 9223372036854775807
        · have EY := hY (by rw [H, hmm, decide_eq_true hn]; rfl)
          have hn2 : (n : Int) ≤ 9223372036854775807 := by omega
          clear H hN hY HCL hn
          go_wp2
          go_ret3
          exact ⟨by rw [EY.out]; rfl, HW.out⟩
        · have EN := hN (by rw [H, hmm, decide_eq_false hn]; rfl)
          have hn2 : (9223372036854775807 : Int) < n := by omega
          clear H hN hY HCL hn
          go_wp2
          go_ret3
          exact ⟨by rw [EN.out]; rfl, HW.out⟩
      · have EN := hN (by rw [H, hmm, decide_eq_false hx]; rfl)
        have hx2 : (0 : Int) < x := by omega
        have hx3 : (((x : Int) == 0) : Bool) = false := by rw [beq_eq_false_iff_ne]; omega
        clear H hN hY HCL hx
        go_wp2
        go_ret3
        exact ⟨by rw [EN.out]; rfl, HW.out⟩
end Go.Proofs.Ytfebdgnojacoiaa

