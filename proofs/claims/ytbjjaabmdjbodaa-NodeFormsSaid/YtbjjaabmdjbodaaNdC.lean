/- Nodes in a program: which may be. -/
import Derived.Test.YtbjjaabmdjbodaaNdB
namespace Go.By
open Go Go.RowKit
def leafOk (n : Nd) : Bool := decide (n.ks.length = 0) && (decide (n.kids.length = 0) && (decide (1 ≤ n.its.length ∧ n.its.length ≤ 8) && itsFrom [] n.its))
def innerOk (n : Nd) : Bool := decide (n.its.length = 0) && (decide (n.ks.length = n.kids.length) && (decide (2 ≤ n.kids.length ∧ n.kids.length ≤ 8) && (risesFrom [] n.ks && n.kids.all mayKd)))
theorem leafOk_eq (n : Nd) : mayLf n = leafOk n := by
  unfold mayLf leafOk
  rw [itsFrom_nil]
  have e1 : decide (n.ks = []) = decide (n.ks.length = 0) := decide_eq_decide.2 (by simp)
  have e2 : decide (n.kids = []) = decide (n.kids.length = 0) := decide_eq_decide.2 (by simp)
  rw [e1, e2]
  cases decide (n.ks.length = 0) <;> cases decide (n.kids.length = 0) <;> cases decide (1 ≤ n.its.length ∧ n.its.length ≤ 8) <;> cases n.its.all mayIt <;> cases risesN (n.its.map (·.k)) <;> rfl
theorem innerOk_eq (n : Nd) : mayIn n = innerOk n := by
  unfold mayIn innerOk
  rw [risesFrom_nil]
  have e1 : decide (n.its = []) = decide (n.its.length = 0) := decide_eq_decide.2 (by simp)
  rw [e1]
  cases decide (n.its.length = 0) <;> cases decide (n.ks.length = n.kids.length) <;> cases decide (2 ≤ n.kids.length ∧ n.kids.length ≤ 8) <;> cases n.ks.all mayK <;> cases risesN n.ks <;> cases n.kids.all mayKd <;> rfl
end Go.By
namespace Go.Proofs.Ytbjjaabmdjbodaa
open Go Go.RowKit Go.By

/-- The value of a node. -/
def ndVal (l : Bool) (pi : Option Addr) (ni ci : Nat) (pk : Option Addr) (nk ck : Nat) (pd : Option Addr) (nd cd : Nat) : Value := .agg #[.bool l, .slice pi ni ci, .slice pk nk ck, .slice pd nd cd]

set_option maxRecDepth 100000 in
theorem mayLeaf_any {w : World} {v : Value} {n : Nd} {pi pk pd : Option Addr} {ci ck cd : Nat} (h : IsNd w v n pi ci pk ck pd cd) :
    Calls Try.prog 15 #[v] w fun e w' => e = .returned (.bool (mayLf n)) ∧ Below w.heap.size w w' := by
  have hv := h.val
  subst hv
  have HB := Lib.hid ((Below.refl w.heap.size w).alloc (Nat.le_refl _) (.cells #[.bool n.leaf, .slice pi n.its.length ci, .slice pk n.ks.length ck, .slice pd n.kids.length cd] 26))
  have HC := Lib.hid (mayItems_any pi ci n.its _ (h.its.below HB.out))
  have HS := Lib.hid (fun W => soMany_any n.its.length 1 W)
  have HE : Hid (mayLf n = leafOk n) := leafOk_eq n
  unfold leafOk at HE
  have HN : Hid (soMany 1 n.its.length = decide (1 ≤ n.its.length ∧ n.its.length ≤ 8)) := rfl
  clear h
  cases h1 : ((n.ks.length : Int) == 0) with
  | false =>
    have E : Hid (mayLf n = false) := by unfold Hid; rw [HE.out, decide_eq_false (by rw [beq_eq_false_iff_ne] at h1; omega)]; rfl
    go_enter Try.func15, Try.ntmps15
    go_wp2
    go_ret
    exact ⟨by rw [E.out]; rfl, HB.out⟩
  | true =>
    cases h2 : ((n.kids.length : Int) == 0) with
    | false =>
      have E : Hid (mayLf n = false) := by unfold Hid; rw [HE.out, decide_eq_false (show ¬ n.kids.length = 0 by rw [beq_eq_false_iff_ne] at h2; omega)]; simp
      go_enter Try.func15, Try.ntmps15
      go_wp2
      go_ret
      exact ⟨by rw [E.out]; rfl, HB.out⟩
    | true =>
      go_enter Try.func15, Try.ntmps15
      go_wp2_with fail
      refine (HS.out _).mono ?_
      rintro e w1 ⟨rfl, rfl⟩
      cases h3 : soMany 1 n.its.length with
      | false =>
        have E : Hid (mayLf n = false) := by unfold Hid; rw [HE.out, ← HN.out, h3]; simp
        go_wp2
        go_ret
        exact ⟨by rw [E.out]; rfl, HB.out⟩
      | true =>
        have E : Hid (mayLf n = itsFrom [] n.its) := by
          unfold Hid
          rw [HE.out, ← HN.out, h3, decide_eq_true (show n.ks.length = 0 by rw [beq_iff_eq] at h1; omega), decide_eq_true (show n.kids.length = 0 by rw [beq_iff_eq] at h2; omega)]
          rfl
        go_wp2_with fail
        refine HC.out.mono ?_
        rintro e w2 ⟨rfl, hb2⟩
        have HB2 : Hid (Below w.heap.size w w2) := HB.out.trans (hb2.mono HB.out.size)
        clear hb2
        go_wp2
        go_ret
        exact ⟨by rw [E.out]; rfl, HB2.out⟩

set_option maxRecDepth 100000 in
theorem mayInner_any {w : World} {v : Value} {n : Nd} {pi pk pd : Option Addr} {ci ck cd : Nat} (h : IsNd w v n pi ci pk ck pd cd) :
    Calls Try.prog 16 #[v] w fun e w' => e = .returned (.bool (mayIn n)) ∧ Below w.heap.size w w' := by
  have hv := h.val
  subst hv
  obtain ⟨W, hW⟩ : ∃ W, W = w.alloc (.cells #[.bool n.leaf, .slice pi n.its.length ci, .slice pk n.ks.length ck, .slice pd n.kids.length cd] 26) := ⟨_, rfl⟩
  have hb : Below w.heap.size w W := by rw [hW]; exact (Below.refl w.heap.size w).alloc (Nat.le_refl _) _
  have hcW : W.heap[w.heap.size]? = some (.cells #[.bool n.leaf, .slice pi n.its.length ci, .slice pk n.ks.length ck, .slice pd n.kids.length cd] 26 (0, 0)) := by rw [hW]; exact heap_alloc_new w _
  have hsz : w.heap.size < W.heap.size := by rw [hW]; simp
  have HW := Lib.hid hW; have HB := Lib.hid hb; have HCW := Lib.hid hcW; have HSZ := Lib.hid hsz
  have c0 := cells_of hcW 0; have c1 := cells_of hcW 1; have c2 := cells_of hcW 2; have c3 := cells_of hcW 3
  simp only [List.getElem?_toArray, List.getElem?_cons_zero, List.getElem?_cons_succ] at c0 c1 c2 c3
  have HC := Lib.hid (mayKeys_any pk ck n.ks _ (h.ks.below hb))
  have HD := Lib.hid (fun W' (hb2 : Below W.heap.size W W') => mayKids_any pd cd n.kids W' ((h.kids.below hb).below hb2))
  have HS := Lib.hid (fun W => soMany_any n.kids.length 2 W)
  have HE : Hid (mayIn n = innerOk n) := innerOk_eq n
  unfold innerOk at HE
  have HN : Hid (soMany 2 n.kids.length = decide (2 ≤ n.kids.length ∧ n.kids.length ≤ 8)) := rfl
  clear h hW hb hcW hsz
  cases h1 : ((n.its.length : Int) == 0) with
  | false =>
    have E : Hid (mayIn n = false) := by unfold Hid; rw [HE.out, decide_eq_false (by rw [beq_eq_false_iff_ne] at h1; omega)]; rfl
    go_enter Try.func16, Try.ntmps16
    go_wp2
    rw [← HW.out]
    go_ret
    exact ⟨by rw [E.out]; rfl, HB.out⟩
  | true =>
    cases h2 : ((n.ks.length : Int) == (n.kids.length : Int)) with
    | false =>
      have E : Hid (mayIn n = false) := by unfold Hid; rw [HE.out, decide_eq_false (show ¬ n.ks.length = n.kids.length by rw [beq_eq_false_iff_ne] at h2; omega)]; simp
      go_enter Try.func16, Try.ntmps16
      go_wp2
      rw [← HW.out]
      go_ret
      exact ⟨by rw [E.out]; rfl, HB.out⟩
    | true =>
      go_enter Try.func16, Try.ntmps16
      go_wp2_with fail
      rw [← HW.out]
      refine (HS.out _).mono ?_
      rintro e w1 ⟨rfl, rfl⟩
      cases h3 : soMany 2 n.kids.length with
      | false =>
        have E : Hid (mayIn n = false) := by unfold Hid; rw [HE.out, ← HN.out, h3]; simp
        go_wp2
        go_ret
        exact ⟨by rw [E.out]; rfl, HB.out⟩
      | true =>
        have E : Hid (mayIn n = (risesFrom [] n.ks && n.kids.all mayKd)) := by
          unfold Hid
          rw [HE.out, ← HN.out, h3, decide_eq_true (show n.its.length = 0 by rw [beq_iff_eq] at h1; omega), decide_eq_true (show n.ks.length = n.kids.length by rw [beq_iff_eq] at h2; omega)]
          rfl
        go_wp2_with fail
        refine HC.out.mono ?_
        rintro e w2 ⟨rfl, hb2⟩
        have HB2 : Hid (Below w.heap.size w w2) := HB.out.trans (hb2.mono HB.out.size)
        cases h4 : risesFrom [] n.ks with
        | false =>
          have E2 : Hid (mayIn n = false) := by unfold Hid; rw [E.out, h4]; rfl
          clear hb2
          go_wp2
          go_ret
          exact ⟨by rw [E2.out]; rfl, HB2.out⟩
        | true =>
          have E2 : Hid (mayIn n = n.kids.all mayKd) := by unfold Hid; rw [E.out, h4]; rfl
          have hc2 := (hb2.block _ HSZ.out).trans HCW.out
          clear c0 c1 c2 c3
          have c3 := cells_of hc2 3
          simp only [List.getElem?_toArray, List.getElem?_cons_zero, List.getElem?_cons_succ] at c3
          have HD2 := Lib.hid (HD.out _ hb2)
          clear hb2 hc2
          go_wp2_with fail
          refine HD2.out.mono ?_
          rintro e w3 ⟨rfl, hb3⟩
          have HB3 : Hid (Below w.heap.size w w3) := HB2.out.trans (hb3.mono HB2.out.size)
          clear hb3
          go_wp2
          go_ret
          exact ⟨by rw [E2.out]; rfl, HB3.out⟩

set_option maxRecDepth 100000 in
theorem may_any {w : World} {v : Value} {n : Nd} {pi pk pd : Option Addr} {ci ck cd : Nat} (h : IsNd w v n pi ci pk ck pd cd) :
    Calls Try.prog 8 #[v] w fun e w' => e = .returned (.bool (mayNd n)) ∧ Below w.heap.size w w' := by
  have hv := h.val
  have hb := (Below.refl w.heap.size w).alloc (Nat.le_refl _) (.cells #[.bool n.leaf, .slice pi n.its.length ci, .slice pk n.ks.length ck, .slice pd n.kids.length cd] 26)
  have HL := Lib.hid (mayLeaf_any (h.below hb))
  have HI := Lib.hid (mayInner_any (h.below hb))
  have HB := Lib.hid hb
  subst hv
  clear hb h
  have HE : Hid (mayNd n = if n.leaf = true then mayLf n else mayIn n) := rfl
  generalize n.leaf = lf at *
  cases lf with
  | true =>
    go_enter Try.func8, Try.ntmps8
    go_wp2_with fail
    refine HL.out.mono ?_
    rintro e w1 ⟨rfl, hb1⟩
    have HB1 : Hid (Below w.heap.size w w1) := HB.out.trans (hb1.mono HB.out.size)
    clear hb1
    go_wp2
    go_ret
    exact ⟨by rw [HE.out]; rfl, HB1.out⟩
  | false =>
    go_enter Try.func8, Try.ntmps8
    go_wp2_with fail
    refine HI.out.mono ?_
    rintro e w1 ⟨rfl, hb1⟩
    have HB1 : Hid (Below w.heap.size w w1) := HB.out.trans (hb1.mono HB.out.size)
    clear hb1
    go_wp2
    go_ret
    exact ⟨by rw [HE.out]; rfl, HB1.out⟩
end Go.Proofs.Ytbjjaabmdjbodaa

