/- The law HeadForms: every call of it returns true, and all that was there before the call is as it was. No condition. -/
import Derived.Test.YtoegkdfeonkgkaaRows
import Derived.Test.YtoegkdfeonkgkaaHdI
import Derived.Test.YtoegkdfeonkgkaaReg
namespace Go.Proofs.Ytoegkdfeonkgkaa
open Go Go.ChangeShapes Go.WideShapes Go.ChangeAt Go.RowKit Go.By

/-- So many bytes of nought. -/
def nul (n : Nat) : List Nat := List.replicate n 0
theorem nul_length (n : Nat) : (nul n).length = n := by simp [nul]
theorem nul_small (n : Nat) : ∀ c ∈ nul n, c < 256 := by
  intro c hc
  have := List.eq_of_mem_replicate hc
  omega
theorem nul_bytes (w : World) (n : Nat) (hn : n ≤ maxLen) : Bytes (w.alloc (.cells (zeros n) 5)) (.slice (some ⟨w.heap.size, 0, none⟩) n n) (nul n) := zeros_bytes w n hn
theorem nul_at (n i : Nat) : atB (nul n) i = 0 := by
  unfold atB nul
  rw [List.getD_eq_getElem?_getD, List.getElem?_replicate]
  split <;> rfl
theorem nul_take (n k : Nat) : numOf ((nul n).take k) = 0 := by
  unfold nul
  rw [List.take_replicate]
  generalize min k n = m
  induction m with
  | zero => rfl
  | succ m ih =>
    rw [List.replicate_succ', numOf_snoc, ih]
/-- Of noughts a head is told where there are seventeen. -/
theorem hd_nul {n : Nat} (hn : n ≠ 17) : takeHd (nul n) = none := by
  unfold takeHd
  rw [nul_length, if_neg (fun h => hn h.1)]
theorem hd_17 : takeHd (nul 17) = some ⟨0, 0, false⟩ := by decide +kernel
/-- None is an answer: none has no events. -/
theorem dn_nul (n : Nat) : takeDn (nul n) = none := by
  by_cases hn : n = 10
  · subst hn; decide +kernel
  · unfold takeDn
    rw [nul_length, if_neg (fun h => hn h.1)]
theorem mk_nul {n : Nat} (h : 8 ≤ n ∧ n ≤ 108) : ∃ m, takeMk (nul n) = some m := by
  unfold takeMk
  rw [nul_length, nul_at, if_pos ⟨h.1, h.2, by omega⟩]
  exact ⟨_, rfl⟩
theorem mk_nul_no {n : Nat} (h : ¬ (8 ≤ n ∧ n ≤ 108)) : takeMk (nul n) = none := by
  unfold takeMk
  rw [nul_length, if_neg (fun k => h ⟨k.1, k.2.1⟩)]
theorem of_8 : takeOf (nul 8) = some 0 := by decide +kernel
theorem of_nul {n : Nat} (hn : n ≠ 8) : takeOf (nul n) = none := by
  unfold takeOf
  rw [nul_length, if_neg (fun h => hn h.1)]
def rowB : List Nat := (nul 17).set 16 2
def rowC : List Nat := (nul 17).set 15 1
def rowD : List Nat := (nul 8).set 0 128
/-- A mark of a hundred and one bytes. -/
def BigMk (v : Value) (w : World) : Prop := ∃ p c, v = .agg #[.int .i64 0, .slice p (nul 101).length c] ∧ Bytes w (.slice p (nul 101).length c) (nul 101)
theorem BigMk.lasts (v : Value) (w w' : World) (h : BigMk v w) (hb : Below w.heap.size w w') : BigMk v w' := by
  obtain ⟨p, c, rfl, hy⟩ := h
  exact ⟨p, c, rfl, hy.below hb⟩

set_option maxRecDepth 100000 in
set_option maxHeartbeats 8000000 in
theorem forms_any (w : World) : Calls Try.prog 5 #[] w fun e w' => e = .returned (.bool true) ∧ Below w.heap.size w w' := by
  go_enter Try.func5, Try.ntmps5
  go_wp2_with fail
  refine (begun_any w).mono ?_
  rintro e w1 ⟨rfl, hb1⟩
  have HB1 := Lib.hid hb1
  clear hb1
  go_wp2_with fail
  refine (putHead_any 258 1 false w1 (by decide)).mono ?_
  rintro z w2 ⟨v2, rfl, ho2, hb2⟩
  rw [show putHd ⟨258, 1, false⟩ = [0, 0, 0, 0, 0, 0, 1, 2, 0, 0, 0, 0, 0, 0, 0, 1, 0] by decide +kernel] at ho2
  obtain ⟨p2, c2, rfl, hy2⟩ := row_bytes ho2 (by decide) (by decide)
  have hs2 := hy2.toString (P := Try.prog) byT (d := 9) (by kernel_rfl)
  rw [show strOf [0, 0, 0, 0, 0, 0, 1, 2, 0, 0, 0, 0, 0, 0, 0, 1, 0] = ⟨#[0, 0, 0, 0, 0, 0, 1, 2, 0, 0, 0, 0, 0, 0, 0, 1, 0]⟩ from rfl] at hs2
  rw [show ([0, 0, 0, 0, 0, 0, 1, 2, 0, 0, 0, 0, 0, 0, 0, 1, 0] : List Nat).length = 17 from rfl] at hs2 ⊢
  have HB2 : Hid (Below w.heap.size w w2) := HB1.out.trans (hb2.mono HB1.out.size)
  clear ho2 hy2 hb2 HB1
  go_wp2_with fail
  refine (putDone_any 1 258 false w2 (by decide)).mono ?_
  rintro z w3 ⟨v3, rfl, ho3, hb3⟩
  rw [show putDn ⟨1, 258, false⟩ = [0, 0, 0, 0, 0, 0, 0, 1, 1, 2] by decide +kernel] at ho3
  obtain ⟨p3, c3, rfl, hy3⟩ := row_bytes ho3 (by decide) (by decide)
  have hs3 := hy3.toString (P := Try.prog) byT (d := 9) (by kernel_rfl)
  rw [show strOf [0, 0, 0, 0, 0, 0, 0, 1, 1, 2] = ⟨#[0, 0, 0, 0, 0, 0, 0, 1, 1, 2]⟩ from rfl] at hs3
  rw [show ([0, 0, 0, 0, 0, 0, 0, 1, 1, 2] : List Nat).length = 10 from rfl] at hs3 ⊢
  have HB3 : Hid (Below w.heap.size w w3) := HB2.out.trans (hb3.mono HB2.out.size)
  clear ho3 hy3 hb3 HB2 hs2
  obtain ⟨w4, hw4⟩ : ∃ W, W = w3.alloc (.cells #[.int .u8 120] 5 (1, 2)) := ⟨_, rfl⟩
  have hb34 : Below w3.heap.size w3 w4 := by rw [hw4]; exact (Below.refl _ _).alloc (Nat.le_refl _) _
  have HL4 : Hid (Bytes w4 (.slice (some ⟨w3.heap.size, 0, none⟩) [120].length 1) [120]) := by unfold Hid; rw [hw4]; exact Bytes.lit [120] rfl rfl (by decide) (by decide)
  have HB4 : Hid (Below w.heap.size w w4) := HB3.out.trans (hb34.mono HB3.out.size)
  have HW4 := Lib.hid hw4
  clear hw4 hb34 HB3
  have hcv := Lib.run_convert_bytes_const (P := Try.prog) w3 26 5 #[.int .u8 120] 1 1 byT.slice byT.elem
  go_wp2_with fail
  clear hcv hs3
  rw [← HW4.out]
  clear HW4
  refine (putMark_any 1 (some ⟨w3.heap.size, 0, none⟩) 1 [120] w4 HL4.out (by decide)).mono ?_
  rintro z w5 ⟨v5, rfl, ho5, hb5⟩
  rw [show putMk ⟨1, [120]⟩ = [0, 0, 0, 0, 0, 0, 0, 1, 120] by decide +kernel] at ho5
  obtain ⟨p5, c5, rfl, hy5⟩ := row_bytes ho5 (by decide) (by decide)
  have hs5 := hy5.toString (P := Try.prog) byT (d := 9) (by kernel_rfl)
  rw [show strOf [0, 0, 0, 0, 0, 0, 0, 1, 120] = ⟨#[0, 0, 0, 0, 0, 0, 0, 1, 120]⟩ from rfl] at hs5
  rw [show ([0, 0, 0, 0, 0, 0, 0, 1, 120] : List Nat).length = 9 from rfl] at hs5 ⊢
  have HB5 : Hid (Below w.heap.size w w5) := HB4.out.trans (hb5.mono HB4.out.size)
  clear ho5 hy5 hb5 HB4 HL4
  go_wp2_with fail
  clear hs5
  rename_i Kc hKc
  refine wp_region_left (by kernel_rfl)
    [.is (.agg #[.int .i64 1, .int .i64 2, .bool false]),
     .bytes [],
     .is (.int .i64 0),
     .is (.agg #[.int .i64 (-1), .int .i64 (-1), .bool false]),
     .bytes [],
     .is (.int .i64 0),
     .is (.int .i64 0),
     .is (.agg #[.int .i64 0, .int .i64 0, .bool false]),
     .bytes [],
     .is (.int .i64 0),
     .is (.int .i64 0),
     .is (.agg #[.int .i64 0, .int .i64 65536, .bool false]),
     .bytes [],
     .is (.int .i64 0),
     .is (.int .i64 0),
     .is (.agg #[.int .i64 0, .int .i64 1, .bool true]),
     .bytes [],
     .is (.int .i64 0),
     .is (.int .i64 0),
     .is (.agg #[.int .i64 (-1), .slice none 0 0]),
     .bytes [],
     .is (.int .i64 0),
     .is (.int .i64 0),
     .bytes (nul 101),
     .ex BigMk BigMk.lasts,
     .bytes [],
     .is (.int .i64 0),
     .is (.int .i64 0),
     .bytes [],
     .is (.int .i64 0),
     .is (.int .i64 0),
     .is (.bool false)]
    [[], [0], [1], [], [3], [4], [2, 5], [], [7], [8], [6, 9], [], [11], [12], [10, 13], [], [15], [16], [14, 17], [], [19], [20], [18, 21], [], [23], [24], [25], [22, 26], [], [28], [27, 29], [30]] (by kernel_rfl) (by rfl) ?_ ?_
  · refine LeftOps.cons ?_ (LeftOps.cons ?_ (LeftOps.cons ?_ (LeftOps.cons ?_ (LeftOps.cons ?_ (LeftOps.cons ?_ (LeftOps.cons ?_ (LeftOps.cons ?_ (LeftOps.cons ?_ (LeftOps.cons ?_ (LeftOps.cons ?_ (LeftOps.cons ?_ (LeftOps.cons ?_ (LeftOps.cons ?_ (LeftOps.cons ?_ (LeftOps.cons ?_ (LeftOps.cons ?_ (LeftOps.cons ?_ (LeftOps.cons ?_ (LeftOps.cons ?_ (LeftOps.cons ?_ (LeftOps.cons ?_ (LeftOps.cons ?_ (LeftOps.cons ?_ (LeftOps.cons ?_ (LeftOps.cons ?_ (LeftOps.cons ?_ (LeftOps.cons ?_ (LeftOps.cons ?_ (LeftOps.cons ?_ (LeftOps.cons ?_ (LeftOps.cons ?_ (LeftOps.nil))))))))))))))))))))))))))))))))
    · intro wz hwz
      clear hKc
      refine withLeft_nil ?_
      refine lft_run rfl rfl ?_
      unfold LftRun
      go_wp2
      exact ⟨rfl, rfl, rfl, Below.refl _ _⟩
    · intro wz hwz
      clear hKc
      refine withLeft_is rfl rfl ?_
      refine withLeft_nil ?_
      simp only [Act.put, List.setIfInBounds_toArray, List.set_cons_zero, List.set_cons_succ]
      refine lft_run rfl rfl ?_
      unfold LftRun
      go_wp2_with fail
      refine (putHead_any 1 2 false wz (by decide)).mono ?_
      rintro e wq ⟨vq, rfl, hoq, hbq⟩
      rw [show putHd ⟨1, 2, false⟩ = [] by decide +kernel] at hoq
      have hyq := owns_bytes hoq (by simp) (by decide)
      clear hoq
      go_wp2
      exact ⟨rfl, hyq, rfl, hbq⟩
    · intro wz hwz
      clear hKc
      refine withLeft_bytes rfl rfl ?_
      intro vv hvv
      obtain ⟨pv, cv, rfl, _⟩ := hvv.any
      refine withLeft_nil ?_
      simp only [Act.put, List.setIfInBounds_toArray, List.set_cons_zero, List.set_cons_succ]
      refine lft_run rfl rfl ?_
      unfold LftRun
      go_wp2
      exact ⟨rfl, rfl, rfl, Below.refl _ _⟩
    · intro wz hwz
      clear hKc
      refine withLeft_nil ?_
      refine lft_run rfl rfl ?_
      unfold LftRun
      go_wp2
      exact ⟨rfl, rfl, rfl, Below.refl _ _⟩
    · intro wz hwz
      clear hKc
      refine withLeft_is rfl rfl ?_
      refine withLeft_nil ?_
      simp only [Act.put, List.setIfInBounds_toArray, List.set_cons_zero, List.set_cons_succ]
      refine lft_run rfl rfl ?_
      unfold LftRun
      go_wp2_with fail
      refine (putHead_any (-1) (-1) false wz (by decide)).mono ?_
      rintro e wq ⟨vq, rfl, hoq, hbq⟩
      rw [show putHd ⟨-1, -1, false⟩ = [] by decide +kernel] at hoq
      have hyq := owns_bytes hoq (by simp) (by decide)
      clear hoq
      go_wp2
      exact ⟨rfl, hyq, rfl, hbq⟩
    · intro wz hwz
      clear hKc
      refine withLeft_bytes rfl rfl ?_
      intro vv hvv
      obtain ⟨pv, cv, rfl, _⟩ := hvv.any
      refine withLeft_nil ?_
      simp only [Act.put, List.setIfInBounds_toArray, List.set_cons_zero, List.set_cons_succ]
      refine lft_run rfl rfl ?_
      unfold LftRun
      go_wp2
      exact ⟨rfl, rfl, rfl, Below.refl _ _⟩
    · intro wz hwz
      clear hKc
      refine withLeft_is rfl rfl ?_
      refine withLeft_is rfl rfl ?_
      refine withLeft_nil ?_
      simp only [Act.put, List.setIfInBounds_toArray, List.set_cons_zero, List.set_cons_succ]
      refine lft_run rfl rfl ?_
      unfold LftRun
      go_wp2
      exact ⟨rfl, rfl, rfl, Below.refl _ _⟩
    · intro wz hwz
      clear hKc
      refine withLeft_nil ?_
      refine lft_run rfl rfl ?_
      unfold LftRun
      go_wp2
      exact ⟨rfl, rfl, rfl, Below.refl _ _⟩
    · intro wz hwz
      clear hKc
      refine withLeft_is rfl rfl ?_
      refine withLeft_nil ?_
      simp only [Act.put, List.setIfInBounds_toArray, List.set_cons_zero, List.set_cons_succ]
      refine lft_run rfl rfl ?_
      unfold LftRun
      go_wp2_with fail
      refine (putDone_any 0 0 false wz (by decide)).mono ?_
      rintro e wq ⟨vq, rfl, hoq, hbq⟩
      rw [show putDn ⟨0, 0, false⟩ = [] by decide +kernel] at hoq
      have hyq := owns_bytes hoq (by simp) (by decide)
      clear hoq
      go_wp2
      exact ⟨rfl, hyq, rfl, hbq⟩
    · intro wz hwz
      clear hKc
      refine withLeft_bytes rfl rfl ?_
      intro vv hvv
      obtain ⟨pv, cv, rfl, _⟩ := hvv.any
      refine withLeft_nil ?_
      simp only [Act.put, List.setIfInBounds_toArray, List.set_cons_zero, List.set_cons_succ]
      refine lft_run rfl rfl ?_
      unfold LftRun
      go_wp2
      exact ⟨rfl, rfl, rfl, Below.refl _ _⟩
    · intro wz hwz
      clear hKc
      refine withLeft_is rfl rfl ?_
      refine withLeft_is rfl rfl ?_
      refine withLeft_nil ?_
      simp only [Act.put, List.setIfInBounds_toArray, List.set_cons_zero, List.set_cons_succ]
      refine lft_run rfl rfl ?_
      unfold LftRun
      go_wp2
      exact ⟨rfl, rfl, rfl, Below.refl _ _⟩
    · intro wz hwz
      clear hKc
      refine withLeft_nil ?_
      refine lft_run rfl rfl ?_
      unfold LftRun
      go_wp2
      exact ⟨rfl, rfl, rfl, Below.refl _ _⟩
    · intro wz hwz
      clear hKc
      refine withLeft_is rfl rfl ?_
      refine withLeft_nil ?_
      simp only [Act.put, List.setIfInBounds_toArray, List.set_cons_zero, List.set_cons_succ]
      refine lft_run rfl rfl ?_
      unfold LftRun
      go_wp2_with fail
      refine (putDone_any 0 65536 false wz (by decide)).mono ?_
      rintro e wq ⟨vq, rfl, hoq, hbq⟩
      rw [show putDn ⟨0, 65536, false⟩ = [] by decide +kernel] at hoq
      have hyq := owns_bytes hoq (by simp) (by decide)
      clear hoq
      go_wp2
      exact ⟨rfl, hyq, rfl, hbq⟩
    · intro wz hwz
      clear hKc
      refine withLeft_bytes rfl rfl ?_
      intro vv hvv
      obtain ⟨pv, cv, rfl, _⟩ := hvv.any
      refine withLeft_nil ?_
      simp only [Act.put, List.setIfInBounds_toArray, List.set_cons_zero, List.set_cons_succ]
      refine lft_run rfl rfl ?_
      unfold LftRun
      go_wp2
      exact ⟨rfl, rfl, rfl, Below.refl _ _⟩
    · intro wz hwz
      clear hKc
      refine withLeft_is rfl rfl ?_
      refine withLeft_is rfl rfl ?_
      refine withLeft_nil ?_
      simp only [Act.put, List.setIfInBounds_toArray, List.set_cons_zero, List.set_cons_succ]
      refine lft_run rfl rfl ?_
      unfold LftRun
      go_wp2
      exact ⟨rfl, rfl, rfl, Below.refl _ _⟩
    · intro wz hwz
      clear hKc
      refine withLeft_nil ?_
      refine lft_run rfl rfl ?_
      unfold LftRun
      go_wp2
      exact ⟨rfl, rfl, rfl, Below.refl _ _⟩
    · intro wz hwz
      clear hKc
      refine withLeft_is rfl rfl ?_
      refine withLeft_nil ?_
      simp only [Act.put, List.setIfInBounds_toArray, List.set_cons_zero, List.set_cons_succ]
      refine lft_run rfl rfl ?_
      unfold LftRun
      go_wp2_with fail
      refine (putDone_any 0 1 true wz (by decide)).mono ?_
      rintro e wq ⟨vq, rfl, hoq, hbq⟩
      rw [show putDn ⟨0, 1, true⟩ = [] by decide +kernel] at hoq
      have hyq := owns_bytes hoq (by simp) (by decide)
      clear hoq
      go_wp2
      exact ⟨rfl, hyq, rfl, hbq⟩
    · intro wz hwz
      clear hKc
      refine withLeft_bytes rfl rfl ?_
      intro vv hvv
      obtain ⟨pv, cv, rfl, _⟩ := hvv.any
      refine withLeft_nil ?_
      simp only [Act.put, List.setIfInBounds_toArray, List.set_cons_zero, List.set_cons_succ]
      refine lft_run rfl rfl ?_
      unfold LftRun
      go_wp2
      exact ⟨rfl, rfl, rfl, Below.refl _ _⟩
    · intro wz hwz
      clear hKc
      refine withLeft_is rfl rfl ?_
      refine withLeft_is rfl rfl ?_
      refine withLeft_nil ?_
      simp only [Act.put, List.setIfInBounds_toArray, List.set_cons_zero, List.set_cons_succ]
      refine lft_run rfl rfl ?_
      unfold LftRun
      go_wp2
      exact ⟨rfl, rfl, rfl, Below.refl _ _⟩
    · intro wz hwz
      clear hKc
      refine withLeft_nil ?_
      refine lft_run rfl rfl ?_
      unfold LftRun
      go_wp2
      exact ⟨rfl, rfl, rfl, Below.refl _ _⟩
    · intro wz hwz
      clear hKc
      refine withLeft_is rfl rfl ?_
      refine withLeft_nil ?_
      simp only [Act.put, List.setIfInBounds_toArray, List.set_cons_zero, List.set_cons_succ]
      refine lft_run rfl rfl ?_
      unfold LftRun
      go_wp2_with fail
      refine (putMark_any (-1) none 0 [] wz (Bytes.nil wz) (by decide)).mono ?_
      rintro e wq ⟨vq, rfl, hoq, hbq⟩
      rw [show putMk ⟨-1, []⟩ = [] by decide +kernel] at hoq
      have hyq := owns_bytes hoq (by simp) (by decide)
      clear hoq
      go_wp2
      exact ⟨rfl, hyq, rfl, hbq⟩
    · intro wz hwz
      clear hKc
      refine withLeft_bytes rfl rfl ?_
      intro vv hvv
      obtain ⟨pv, cv, rfl, _⟩ := hvv.any
      refine withLeft_nil ?_
      simp only [Act.put, List.setIfInBounds_toArray, List.set_cons_zero, List.set_cons_succ]
      refine lft_run rfl rfl ?_
      unfold LftRun
      go_wp2
      exact ⟨rfl, rfl, rfl, Below.refl _ _⟩
    · intro wz hwz
      clear hKc
      refine withLeft_is rfl rfl ?_
      refine withLeft_is rfl rfl ?_
      refine withLeft_nil ?_
      simp only [Act.put, List.setIfInBounds_toArray, List.set_cons_zero, List.set_cons_succ]
      refine lft_run rfl rfl ?_
      unfold LftRun
      go_wp2
      exact ⟨rfl, rfl, rfl, Below.refl _ _⟩
    · intro wz hwz
      clear hKc
      refine withLeft_nil ?_
      refine lft_run rfl rfl ?_
      have hmk := made_run 101 101 101 101 rfl rfl (Nat.le_refl _) (by omega) wz
      unfold LftRun
      go_wp2
      exact ⟨rfl, nul_bytes wz 101 (by decide), rfl, (Below.refl _ _).alloc (Nat.le_refl _) _⟩
    · intro wz hwz
      clear hKc
      refine withLeft_bytes rfl rfl ?_
      intro vv hvv
      refine withLeft_nil ?_
      simp only [Act.put, List.setIfInBounds_toArray, List.set_cons_zero, List.set_cons_succ]
      refine lft_run rfl rfl ?_
      obtain ⟨pv, cv, rfl, _⟩ := hvv.any
      unfold LftRun
      go_wp2
      exact ⟨rfl, ⟨pv, cv, rfl, hvv⟩, rfl, Below.refl _ _⟩
    · intro wz hwz
      clear hKc
      refine withLeft_ex rfl rfl ?_
      rintro vv ⟨pv, cv, rfl, hvv⟩
      refine withLeft_nil ?_
      simp only [Act.put, List.setIfInBounds_toArray, List.set_cons_zero, List.set_cons_succ]
      refine lft_run rfl rfl ?_
      unfold LftRun
      go_wp2_with fail
      refine (putMark_any 0 pv cv (nul 101) wz hvv (by decide)).mono ?_
      rintro e wq ⟨vq, rfl, hoq, hbq⟩
      rw [show putMk ⟨0, nul 101⟩ = [] by decide +kernel] at hoq
      have hyq := owns_bytes hoq (by simp) (by decide)
      clear hoq
      go_wp2
      exact ⟨rfl, hyq, rfl, hbq⟩
    · intro wz hwz
      clear hKc
      refine withLeft_bytes rfl rfl ?_
      intro vv hvv
      obtain ⟨pv, cv, rfl, _⟩ := hvv.any
      refine withLeft_nil ?_
      simp only [Act.put, List.setIfInBounds_toArray, List.set_cons_zero, List.set_cons_succ]
      refine lft_run rfl rfl ?_
      unfold LftRun
      go_wp2
      exact ⟨rfl, rfl, rfl, Below.refl _ _⟩
    · intro wz hwz
      clear hKc
      refine withLeft_is rfl rfl ?_
      refine withLeft_is rfl rfl ?_
      refine withLeft_nil ?_
      simp only [Act.put, List.setIfInBounds_toArray, List.set_cons_zero, List.set_cons_succ]
      refine lft_run rfl rfl ?_
      unfold LftRun
      go_wp2
      exact ⟨rfl, rfl, rfl, Below.refl _ _⟩
    · intro wz hwz
      clear hKc
      refine withLeft_nil ?_
      refine lft_run rfl rfl ?_
      unfold LftRun
      go_wp2_with fail
      refine (putOff_any (-1) wz (by decide)).mono ?_
      rintro e wq ⟨vq, rfl, hoq, hbq⟩
      rw [show putOf (-1) = [] by decide +kernel] at hoq
      have hyq := owns_bytes hoq (by simp) (by decide)
      clear hoq
      go_wp2
      exact ⟨rfl, hyq, rfl, hbq⟩
    · intro wz hwz
      clear hKc
      refine withLeft_bytes rfl rfl ?_
      intro vv hvv
      obtain ⟨pv, cv, rfl, _⟩ := hvv.any
      refine withLeft_nil ?_
      simp only [Act.put, List.setIfInBounds_toArray, List.set_cons_zero, List.set_cons_succ]
      refine lft_run rfl rfl ?_
      unfold LftRun
      go_wp2
      exact ⟨rfl, rfl, rfl, Below.refl _ _⟩
    · intro wz hwz
      clear hKc
      refine withLeft_is rfl rfl ?_
      refine withLeft_is rfl rfl ?_
      refine withLeft_nil ?_
      simp only [Act.put, List.setIfInBounds_toArray, List.set_cons_zero, List.set_cons_succ]
      refine lft_run rfl rfl ?_
      unfold LftRun
      go_wp2
      exact ⟨rfl, rfl, rfl, Below.refl _ _⟩
    · intro wz hwz
      clear hKc
      refine withLeft_is rfl rfl ?_
      refine withLeft_nil ?_
      simp only [Act.put, List.setIfInBounds_toArray, List.set_cons_zero, List.set_cons_succ]
      refine lft_run rfl rfl ?_
      unfold LftRun
      go_wp2
      exact ⟨rfl, rfl, rfl, Below.refl _ _⟩
  intro wz hwz
  refine LeftEnd.is (LeftEnd.bytes (fun _ _ => LeftEnd.is (LeftEnd.is (LeftEnd.bytes (fun _ _ => LeftEnd.is (LeftEnd.is (LeftEnd.is (LeftEnd.bytes (fun _ _ => LeftEnd.is (LeftEnd.is (LeftEnd.is (LeftEnd.bytes (fun _ _ => LeftEnd.is (LeftEnd.is (LeftEnd.is (LeftEnd.bytes (fun _ _ => LeftEnd.is (LeftEnd.is (LeftEnd.is (LeftEnd.bytes (fun _ _ => LeftEnd.is (LeftEnd.is (LeftEnd.bytes (fun _ _ => LeftEnd.ex (fun _ _ => LeftEnd.bytes (fun _ _ => LeftEnd.is (LeftEnd.is (LeftEnd.bytes (fun _ _ => LeftEnd.is (LeftEnd.is (LeftEnd.is (LeftEnd.nil ?_))))))))))))))))))))))))))))))))
  simp only [Act.put, List.setIfInBounds_toArray, List.set_cons_zero, List.set_cons_succ]
  have HB6 : Hid (Below w.heap.size w wz) := HB5.out.trans (hwz.mono HB5.out.size)
  clear hwz HB5
  refine hKc _ _ ?_
  clear hKc Kc
  go_wp2
  go_loopw [1] (fun i wr => ∃ n : Nat, n ≤ 130 ∧ i = .int .i64 n ∧ Below w.heap.size w wr) (fun i _ => 130 - (intOf i).toNat)
  case atStart => exact ⟨0, by omega, rfl, HB6.out⟩
  case round =>
    obtain ⟨n, hn, rfl, hbr⟩ := hrel
    clear HB6
    have HB := Lib.hid hbr
    clear hbr
    by_cases hn130 : n < 130
    · obtain ⟨w1, hw1⟩ : ∃ W, W = wr.alloc (.cells (zeros n) 5) := ⟨_, rfl⟩
      have hmk := made_run n n n n rfl rfl (Nat.le_refl _) (by omega) wr
      have hy1 := nul_bytes wr n (by unfold maxLen; omega)
      rw [← hw1] at hmk hy1
      have hb1 : Below wr.heap.size wr w1 := by rw [hw1]; exact (Below.refl _ _).alloc (Nat.le_refl _) _
      have HB1 : Hid (Below w.heap.size w w1) := HB.out.trans (hb1.mono HB.out.size)
      obtain ⟨G, hG⟩ : ∃ G, G = wr.heap.size := ⟨_, rfl⟩
      rw [← hG] at hmk hy1
      have HY1 := Lib.hid hy1
      clear hw1 hb1 hy1 HB hG
      go_wp2_with fail
      clear hmk
      refine (takeHead_any _ _ w1 HY1.out).mono ?_
      rintro z w2 ⟨rfl, hb2⟩
      rw [show hdV (nul n) = .tuple #[.agg #[.int .i64 (hdH (nul n)).nx, .int .i64 (hdH (nul n)).fi, .bool (hdH (nul n)).tb], .int .i64 (hdC (nul n))] from rfl]
      generalize (hdH (nul n)).nx = A1, (hdH (nul n)).fi = A2, (hdH (nul n)).tb = A3
      obtain ⟨w3, hw3⟩ : ∃ W, W = w2.alloc (.cells #[.int .i64 A1, .int .i64 A2, .bool A3] 23) := ⟨_, rfl⟩
      have hb23 : Below w2.heap.size w2 w3 := by rw [hw3]; exact (Below.refl _ _).alloc (Nat.le_refl _) _
      have hb13 := hb2.trans (hb23.mono hb2.size)
      have HY3 := Lib.hid (HY1.out.below hb13)
      have HB3 : Hid (Below w.heap.size w w3) := HB1.out.trans (hb13.mono HB1.out.size)
      have HW3 := Lib.hid hw3
      clear hb2 hb23 hb13 hw3 HB1 HY1
      go_wp2_with fail
      rw [← HW3.out]
      clear HW3
      refine (takeDone_any _ _ w3 HY3.out).mono ?_
      rintro z w4 ⟨rfl, hb4⟩
      rw [dnV_no (dn_nul n)]
      obtain ⟨w5, hw5⟩ : ∃ W, W = w4.alloc (.cells #[.int .i64 0, .int .i64 0, .bool false] 25) := ⟨_, rfl⟩
      have hb45 : Below w4.heap.size w4 w5 := by rw [hw5]; exact (Below.refl _ _).alloc (Nat.le_refl _) _
      have hb35 := hb4.trans (hb45.mono hb4.size)
      have HY5 := Lib.hid (HY3.out.below hb35)
      have HB5 : Hid (Below w.heap.size w w5) := HB3.out.trans (hb35.mono HB3.out.size)
      have HW5 := Lib.hid hw5
      clear hb4 hb45 hb35 hw5 HB3 HY3
      go_wp2_with fail
      rw [← HW5.out]
      clear HW5
      refine (takeMark_any _ _ w5 HY5.out).mono ?_
      rintro z w6 ⟨⟨u, rfl, hu⟩, hb6⟩
      obtain ⟨pu, cu, rfl, _⟩ := hu.any
      clear hu
      generalize (mkM (nul n)).at_ = A4, (mkM (nul n)).da.length = A5
      obtain ⟨w7, hw7⟩ : ∃ W, W = w6.alloc (.cells #[.int .i64 A4, .slice pu A5 cu] 28) := ⟨_, rfl⟩
      have hb67 : Below w6.heap.size w6 w7 := by rw [hw7]; exact (Below.refl _ _).alloc (Nat.le_refl _) _
      have hb57 := hb6.trans (hb67.mono hb6.size)
      have HY7 := Lib.hid (HY5.out.below hb57)
      have HB7 : Hid (Below w.heap.size w w7) := HB5.out.trans (hb57.mono HB5.out.size)
      have HW7 := Lib.hid hw7
      clear hb6 hb67 hb57 hw7 HB5 HY5
      go_wp2_with fail
      rw [← HW7.out]
      clear HW7
      refine (takeOff_any _ _ w7 HY7.out).mono ?_
      rintro z w8 ⟨rfl, hb8⟩
      rw [show ofV (nul n) = .tuple #[.int .i64 (ofN (nul n)), .int .i64 (ofC (nul n))] from rfl]
      generalize (ofN (nul n)) = A6
      have HB8 : Hid (Below w.heap.size w w8) := HB7.out.trans (hb8.mono HB7.out.size)
      clear hb8 HB7 HY7
      have key : (n = 8 ∧ hdC (nul n) = 2 ∧ mkC (nul n) = 0 ∧ ofC (nul n) = 0) ∨ (n = 17 ∧ hdC (nul n) = 0 ∧ mkC (nul n) = 0 ∧ ofC (nul n) = 2) ∨ (((8 : Int) ≤ n) ∧ ((n : Int) ≤ 108) ∧ ((n : Int) == 8) = false ∧ ((n : Int) == 17) = false ∧ hdC (nul n) = 2 ∧ mkC (nul n) = 0 ∧ ofC (nul n) = 2) ∨ (((n : Int) < 8) ∧ ((n : Int) == 8) = false ∧ ((n : Int) == 17) = false ∧ hdC (nul n) = 2 ∧ mkC (nul n) = 2 ∧ ofC (nul n) = 2) ∨ ((108 < (n : Int)) ∧ ((n : Int) == 8) = false ∧ ((n : Int) == 17) = false ∧ hdC (nul n) = 2 ∧ mkC (nul n) = 2 ∧ ofC (nul n) = 2) := by
        have a1 : n ≠ 17 → hdC (nul n) = 2 := fun h => by unfold hdC; rw [if_pos (hd_nul h)]
        have a2 : n = 17 → hdC (nul n) = 0 := fun h => by subst h; unfold hdC; rw [if_neg (by rw [hd_17]; intro h; cases h)]
        have a3 : 8 ≤ n ∧ n ≤ 108 → mkC (nul n) = 0 := fun h => by obtain ⟨m, hm⟩ := mk_nul h; exact (mk_yes hm).2
        have a4 : ¬ (8 ≤ n ∧ n ≤ 108) → mkC (nul n) = 2 := fun h => (mk_no (mk_nul_no h)).2
        have a5 : n = 8 → ofC (nul n) = 0 := fun h => by subst h; unfold ofC; rw [if_neg (by rw [of_8]; intro h; cases h)]
        have a6 : n ≠ 8 → ofC (nul n) = 2 := fun h => by unfold ofC; rw [if_pos (of_nul h)]
        by_cases h1 : n = 8
        · exact .inl ⟨h1, a1 (by omega), a3 (by omega), a5 h1⟩
        by_cases h2 : n = 17
        · exact .inr (.inl ⟨h2, a2 h2, a3 (by omega), a6 h1⟩)
        have e1 : ((n : Int) == 8) = false := by rw [beq_eq_false_iff_ne]; omega
        have e2 : ((n : Int) == 17) = false := by rw [beq_eq_false_iff_ne]; omega
        by_cases h3 : 8 ≤ n ∧ n ≤ 108
        · exact .inr (.inr (.inl ⟨by omega, by omega, e1, e2, a1 h2, a3 h3, a6 h1⟩))
        by_cases h4 : n < 8
        · exact .inr (.inr (.inr (.inl ⟨by omega, e1, e2, a1 h2, a4 h3, a6 h1⟩)))
        · exact .inr (.inr (.inr (.inr ⟨by omega, e1, e2, a1 h2, a4 h3, a6 h1⟩)))
      generalize hdC (nul n) = E1, mkC (nul n) = E2, ofC (nul n) = E3 at key ⊢
      rcases key with ⟨rfl, rfl, rfl, rfl⟩ | ⟨rfl, rfl, rfl, rfl⟩ | ⟨k1, k2, k3, k4, rfl, rfl, rfl⟩ | ⟨k1, k3, k4, rfl, rfl, rfl⟩ | ⟨k1, k3, k4, rfl, rfl, rfl⟩
      all_goals
        go_wp2
        go_roundw
      case rel =>
        exact ⟨9, by omega, by go_num, HB8.out⟩
      case measure => simp [intOf]
      case rel =>
        exact ⟨18, by omega, by go_num, HB8.out⟩
      case measure => simp [intOf]
      case rel =>
        exact ⟨n + 1, by omega, by go_num, HB8.out⟩
      case measure => simp [intOf]; omega
      case rel =>
        exact ⟨n + 1, by omega, by go_num, HB8.out⟩
      case measure => simp [intOf]; omega
      case rel =>
        exact ⟨n + 1, by omega, by go_num, HB8.out⟩
      case measure => simp [intOf]; omega
    · obtain rfl : n = 130 := by omega
      clear hn hn130
      obtain ⟨w1, hw1⟩ : ∃ W, W = wr.alloc (.cells (zeros 17) 5) := ⟨_, rfl⟩
      have hmk1 := made_run 17 17 17 17 rfl rfl (Nat.le_refl _) (by omega) wr
      have hf1 : Filled wr w1 (nul 17) := by rw [hw1]; exact ⟨heap_alloc_new wr _, (Below.refl _ _).alloc (Nat.le_refl _) _⟩
      obtain ⟨G1, hG1⟩ : ∃ G, G = wr.heap.size := ⟨_, rfl⟩
      have c1 := hf1.cell (i := 16) (by decide)
      have f1 := hf1.free 16
      have hf2 : Filled wr (w1.setCell ⟨wr.heap.size, 16, none⟩ (.int .u8 2)) ((nul 17).set 16 2) := hf1.set 16 2
      rw [← hw1] at hmk1
      obtain ⟨w2, hw2⟩ : ∃ W, W = w1.setCell ⟨wr.heap.size, 16, none⟩ (.int .u8 2) := ⟨_, rfl⟩
      rw [← hw2] at hf2
      obtain ⟨w3, hw3⟩ : ∃ W, W = w2.alloc (.cells (zeros 17) 5) := ⟨_, rfl⟩
      have hmk2 := made_run 17 17 17 17 rfl rfl (Nat.le_refl _) (by omega) w2
      have hf3 : Filled w2 w3 (nul 17) := by rw [hw3]; exact ⟨heap_alloc_new w2 _, (Below.refl _ _).alloc (Nat.le_refl _) _⟩
      obtain ⟨G2, hG2⟩ : ∃ G, G = w2.heap.size := ⟨_, rfl⟩
      have c2 := hf3.cell (i := 15) (by decide)
      have f2 := hf3.free 15
      have hf4 : Filled w2 (w3.setCell ⟨w2.heap.size, 15, none⟩ (.int .u8 1)) ((nul 17).set 15 1) := hf3.set 15 1
      rw [← hw3, ← hG2, hw2] at hmk2
      obtain ⟨w4, hw4⟩ : ∃ W, W = w3.setCell ⟨w2.heap.size, 15, none⟩ (.int .u8 1) := ⟨_, rfl⟩
      rw [← hw4] at hf4
      obtain ⟨w5, hw5⟩ : ∃ W, W = w4.alloc (.cells (zeros 8) 5) := ⟨_, rfl⟩
      have hmk3 := made_run 8 8 8 8 rfl rfl (Nat.le_refl _) (by omega) w4
      have hf5 : Filled w4 w5 (nul 8) := by rw [hw5]; exact ⟨heap_alloc_new w4 _, (Below.refl _ _).alloc (Nat.le_refl _) _⟩
      obtain ⟨G3, hG3⟩ : ∃ G, G = w4.heap.size := ⟨_, rfl⟩
      have c3 := hf5.cell (i := 0) (by decide)
      have f3 := hf5.free 0
      have hf6 : Filled w4 (w5.setCell ⟨w4.heap.size, 0, none⟩ (.int .u8 128)) ((nul 8).set 0 128) := hf5.set 0 128
      rw [← hw5, ← hG3, hw4] at hmk3
      obtain ⟨w6, hw6⟩ : ∃ W, W = w5.setCell ⟨w4.heap.size, 0, none⟩ (.int .u8 128) := ⟨_, rfl⟩
      rw [← hw6] at hf6
      have hD : Bytes w6 (.slice (some ⟨G3, 0, none⟩) 8 8) rowD := by rw [hG3]; exact owns_bytes (hf6.owns (by decide)) (by decide) (by decide)
      have hC : Bytes w6 (.slice (some ⟨G2, 0, none⟩) 17 17) rowC := by rw [hG2]; exact (owns_bytes (hf4.owns (by decide)) (by decide) (by decide) : Bytes w4 _ _).below hf6.2
      have h46 : Below w4.heap.size w4 w6 := hf6.2
      have h24 : Below w2.heap.size w2 w4 := hf4.2
      have h26 : Below w2.heap.size w2 w6 := h24.trans (h46.mono h24.size)
      have hB : Bytes w6 (.slice (some ⟨G1, 0, none⟩) 17 17) rowB := by rw [hG1]; exact (owns_bytes (hf2.owns (by decide)) (by decide) (by decide) : Bytes w2 _ _).below h26
      have h02 : Below wr.heap.size wr w2 := hf2.2
      have h06 : Below wr.heap.size wr w6 := h02.trans (h26.mono h02.size)
      have HB6 : Hid (Below w.heap.size w w6) := HB.out.trans (h06.mono HB.out.size)
      have HD := Lib.hid hD; have HC := Lib.hid hC; have HBB := Lib.hid hB
      rw [← hG1] at hmk1 c1 f1 hw2
      rw [← hG2] at c2 f2 hw4
      rw [← hG3] at c3 f3 hw6
      rw [← hG1] at hmk2
      rw [← hG2] at hmk3
      have HW6 := Lib.hid hw6
      rw [nul_at] at c1 c2 c3
      clear hD hC hB h46 h24 h26 h02 h06 hf1 hf2 hf3 hf4 hf5 hf6 hw1 hw2 hw3 hw4 hw5 hw6 hG1 hG2 hG3 HB
      go_wp2_with fail
      rw [← HW6.out]
      clear HW6 c1 c2 c3 f1 f2 f3 hmk1 hmk2 hmk3
      refine (takeHead_any _ _ w6 HBB.out).mono ?_
      rintro z w7 ⟨rfl, hb7⟩
      rw [hdV_no (by decide +kernel)]
      obtain ⟨w8, hw8⟩ : ∃ W, W = w7.alloc (.cells #[.int .i64 0, .int .i64 0, .bool false] 23) := ⟨_, rfl⟩
      have hb78 : Below w7.heap.size w7 w8 := by rw [hw8]; exact (Below.refl _ _).alloc (Nat.le_refl _) _
      have hb68 := hb7.trans (hb78.mono hb7.size)
      have HC8 := Lib.hid (HC.out.below hb68); have HD8 := Lib.hid (HD.out.below hb68)
      have HB8 : Hid (Below w.heap.size w w8) := HB6.out.trans (hb68.mono HB6.out.size)
      have HW8 := Lib.hid hw8
      clear hb7 hb78 hb68 hw8 HB6 HC HD HBB
      go_wp2_with fail
      rw [← HW8.out]
      clear HW8
      refine (takeHead_any _ _ w8 HC8.out).mono ?_
      rintro z w9 ⟨rfl, hb9⟩
      rw [hdV_no (by decide +kernel)]
      obtain ⟨x1, hx1⟩ : ∃ W, W = w9.alloc (.cells #[.int .i64 0, .int .i64 0, .bool false] 23) := ⟨_, rfl⟩
      have hb91 : Below w9.heap.size w9 x1 := by rw [hx1]; exact (Below.refl _ _).alloc (Nat.le_refl _) _
      have hb81 := hb9.trans (hb91.mono hb9.size)
      have HD1 := Lib.hid (HD8.out.below hb81)
      have HB1 : Hid (Below w.heap.size w x1) := HB8.out.trans (hb81.mono HB8.out.size)
      have HX1 := Lib.hid hx1
      clear hb9 hb91 hb81 hx1 HB8 HC8 HD8
      go_wp2_with fail
      rw [← HX1.out]
      clear HX1
      refine (takeOff_any _ _ x1 HD1.out).mono ?_
      rintro z x2 ⟨rfl, hb2⟩
      rw [ofV_no (by decide +kernel)]
      have HD2 := Lib.hid (HD1.out.below hb2)
      have HB2 : Hid (Below w.heap.size w x2) := HB1.out.trans (hb2.mono HB1.out.size)
      clear hb2 HD1 HB1
      go_wp2_with fail
      refine (takeMark_any _ _ x2 HD2.out).mono ?_
      rintro z x3 ⟨⟨u, rfl, hu⟩, hb3⟩
      obtain ⟨pu, cu, rfl, _⟩ := hu.any
      clear hu
      rw [(mk_no (by decide +kernel : takeMk rowD = none)).2]
      generalize (mkM rowD).at_ = A4, (mkM rowD).da.length = A5
      have HB3 : Hid (Below w.heap.size w (x3.alloc (.cells #[.int .i64 A4, .slice pu A5 cu] 28))) := (HB2.out.trans (hb3.mono HB2.out.size)).alloc (Nat.le_trans HB2.out.size hb3.size) _
      clear hb3 HD2 HB2
      go_wp2
      go_ret
      exact ⟨rfl, HB3.out⟩

set_option maxRecDepth 100000 in
theorem forms_lifted (os : Os) (started : os.Started) (H : Type) (enc : TypeId × Value → H) :
    ReturnsInHanded {} Try.checked os 5 .any (Rows.headFormsSpec.pre6 enc Try.prog Try.f5 Rows.headFormsRow.domain false) (Rows.headFormsSpec.post enc Try.prog Try.f5 false true false false) := by
  refine returnsInHanded_of_change (C := Try.checked) own_none started (by kernel_rfl) Try.func5
    (ChangeSpec.witness6 (enc := enc) (C := Try.checked) false ⟨#[], #[], []⟩ 8 (by kernel_rfl) (by kernel_rfl) (by kernel_rfl) (by kernel_rfl)) ?_
  intro W base args ds gs before hval0 hW hcnd _
  have hW' := hW
  obtain ⟨p, q, hA0, hV, rfl, hfz, hnd⟩ := hW
  have hA : DataW.TrodAll enc Try.prog W 0 (fun _ => true) true Try.f5.params.toList args.toList ds p := hA0
  have hp : Try.f5.params = #[] := by kernel_rfl
  rw [hp] at hA
  obtain ⟨rfl, rfl, rfl⟩ := trodAll_none hA
  obtain ⟨rfl, rfl⟩ := trodVars_none hV
  refine (forms_any W).mono fun e W' ⟨he, hb⟩ => ?_
  subst he
  exact ⟨_, rfl, law_post (tb := 4) laidOut (by rw [hp]; intro t ht; simp at ht) rfl rfl (by kernel_rfl) (by kernel_rfl) hW' hb⟩

theorem headForms_holds : Rows.HeadFormsSaid :=
  OpenClaim.holds_of_wide 5 Try.f5 rfl rfl rfl rfl rfl rfl rfl ⟨rfl, rfl, rfl, rfl, rfl⟩ rfl rfl rfl rfl rfl (by kernel_rfl) Try.func5 (by kernel_rfl)
    (of_decide_eq_true (by kernel_rfl)) (by unfold Func.isWrapper; rw [if_neg (by decide +kernel)]; exact ⟨rfl, rfl⟩)
    (fun os started H enc _ => forms_lifted os started H enc)
end Go.Proofs.Ytoegkdfeonkgkaa

