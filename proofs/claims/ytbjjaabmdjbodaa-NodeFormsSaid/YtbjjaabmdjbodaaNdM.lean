/- Nodes in a program: items, taken. -/
import Derived.Test.YtbjjaabmdjbodaaNdL
namespace Go.By
open Go Go.RowKit
/-- append, at a step of a region that draws its order, by its run equation. -/
theorem step_append_run {P : Program} {w : World} {ops : Array Oper} {o : Oper} {a : Act} {K : Act → World → Prop} {Q : Exit → Act → World → Prop} {E : Prop} (hgd : o.guard = none) (s x : Operand) (t t' : TypeId)
    (ho : o.op = .call { callee := .builtin .append, args := #[s, x], argTypes := #[t, t'] }) (v xv : Value) (hs : a.eval s = v) (hx : a.eval x = xv) (v' : Value) (w' : World) (hrun : (Builtin.append_ #[t, t'] o.type #[v, xv]).run P w = .ok v' w')
    (h : K (a.put o.dst v') w') :
    if Region.wanted o (yielded ops a.tmps) = true then Oper.wp P o a w K Q else E := by
  have hw : Region.wanted o (yielded ops a.tmps) = true := by simp [Region.wanted, hgd]
  rw [if_pos hw]
  unfold Oper.wp execOp
  simp only [ho, resolve, invoke, builtin, Sem.run_bind, Sem.run_pure, Result.andThen_ok, List.map_toArray, List.map_cons, List.map_nil, hs, hx, hrun]
  exact h
end Go.By
namespace Go.Proofs.Ytbjjaabmdjbodaa
open Go Go.RowKit Go.By

/-- A leaf is being read. -/
def LfSt (w0 : World) (b : Nat) (w : World) (sv : Value) (i : Nat) (fv : Value) (its : List NIt) : Prop :=
  ∃ iv, RdAt w b sv i true iv (.slice none 0 0) (.slice none 0 0) fv ∧ ItRow w b iv its ∧ Below w0.heap.size w0 w
def ItTold (w0 : World) (b : Nat) (sv : Value) (l : List Nat) (i : Nat) (fv : Value) (its : List NIt) (e : Ending) (w' : World) : Prop :=
  ∃ it i' ok, e = .returned (.bool ok) ∧ LfSt w0 b w' sv i' fv (its ++ [it]) ∧ i' ≤ l.length ∧ ((ok = true ∧ pIt (l.drop i) = some (it, l.drop i')) ∨ (ok = false ∧ pIt (l.drop i) = none))

theorem Txt.only2 {w w' : World} {B b t : Nat} {v : Value} {l : List Nat} {c c' : Array Value} {fr fr' : Nat × Nat} {T : TypeId} (h : Txt w B v l) (hb : w.heap[b]? = some (.cells c 47 fr)) (ht : w.heap[t]? = some (.cells c' T fr')) (hT : 5 ≠ T) (ho : Only2 b t w w') : Txt w' B v l :=
  ⟨owns_stay h.1 (fun k hk => ho.block k (h.1.lt k hk).2 (fun e => owns_ne h.1 hb ty_ne.1 (by rw [hk, e])) (fun e => owns_ne h.1 ht hT (by rw [hk, e]))), h.2⟩
/-- The item is appended: what the region leaves. -/
theorem item_push {w0 w : World} {b i : Nat} {sv iv a c fv : Value} {its : List NIt} {it : NIt} (hr : RdAt w b sv i true iv (.slice none 0 0) (.slice none 0 0) fv) (hi : ItRow w b iv its) (h0 : Below w0.heap.size w0 w) (hb : w0.heap.size ≤ b) (hn : its.length ≤ 1000000) (ha : Txt w b a it.k) (hc : Txt w b c it.v) :
    ∃ p' n' c' w', (Builtin.append_ #[22, 22] 22 #[iv, .slice (some ⟨w.heap.size, 0, none⟩) 1 1]).run Try.prog (w.drew.alloc (.cells #[a, c] 38)) = .ok (.slice p' n' c') w' ∧ RdAt w' b sv i true iv (.slice none 0 0) (.slice none 0 0) fv ∧ LfSt w0 b (w'.setCell ⟨b, 3, none⟩ (.slice p' n' c')) sv i fv (its ++ [it]) := by
  have hbz : Below w.heap.size w w.drew := (Below.refl _ _).drew
  have hi' : ItRow w.drew b iv its := hi.below' hbz
  have hrd : RdAt w.drew b sv i true iv (.slice none 0 0) (.slice none 0 0) fv := hr
  obtain ⟨v', w', hrun, hrow, hg⟩ := hi'.push hn (show b ≤ w.drew.heap.size from Nat.le_of_lt hr.lt) (ha.below' hbz) (hc.below' hbz)
  obtain ⟨cs, _, ho, _⟩ := hi'
  have hne : iv.ownBlock ≠ some b := owns_ne ho hrd ty_ne.2.1
  have hr' : RdAt w' b sv i true iv (.slice none 0 0) (.slice none 0 0) fv := (hg.block hrd.lt hne).trans hrd
  have hbl : Below w0.heap.size w0 w' := hg.below (h0.trans (hbz.mono h0.size)) (Nat.le_trans hb (Nat.le_of_lt hrd.lt)) (fun k hk => Nat.le_trans hb (ho.lt k hk).1)
  obtain ⟨p', c', rfl, -⟩ := hrow.at_
  exact ⟨_, _, _, w', hrun, hr', _, hr'.setIv _, hrow.only hr' (Only.set b 3 w' _), hbl.setCell hb _⟩

set_option maxRecDepth 100000 in
set_option maxHeartbeats 2000000 in
theorem takeItem_any (w0 : World) (b : Nat) (w : World) (sv : Value) (l : List Nat) (i : Nat) (fv : Value) (its : List NIt) (h : LfSt w0 b w sv i fv its) (hsv : Bytes w0 sv l) (hb : w0.heap.size ≤ b) (hi : i ≤ l.length) (hn : its.length ≤ 1000) :
    Calls Try.prog 34 #[.pointer (some ⟨b, 0, none⟩)] w (ItTold w0 b sv l i fv its) := by
  obtain ⟨iv, hr, hrow, h0⟩ := h
  have hba : Below w.heap.size w (w.alloc (.cells #[.slice none 0 0, .slice none 0 0] 38)) := (Below.refl _ _).alloc (Nat.le_refl _) _
  have hr0 := hr.below' hba
  have h00 := h0.trans (hba.mono h0.size)
  have hT1 := text_any w0 b w.heap.size 0 #[.slice none 0 0, .slice none 0 0] 38 _ sv l i true iv (.slice none 0 0) (.slice none 0 0) fv hr0 hsv h00 hb hi (heap_alloc_new w _) rfl hr.lt
  have HT1 := Lib.hid hT1; have HROW := Lib.hid hrow; have H0 := Lib.hid h0; have HB := Lib.hid hb; have HSV := Lib.hid hsv; have HR := Lib.hid hr; have HN := Lib.hid hn
  clear hba hr0 h00 hT1 hr hrow h0 hsv hb hi hn
  go_enter Try.func34, Try.ntmps34
  go_wp2_with fail
  refine HT1.out.mono ?_
  rintro e w1 ⟨v1, m1, i1, ok1, rfl, ht1, hc1, hr1, ho1, hi1, htold1⟩
  have hall1 : Only b w w1 := (Only.alloc b w _).then2 ho1 (Nat.le_refl _)
  have hrow1 := HROW.out.only HR.out hall1
  have h01 : Below w0.heap.size w0 w1 := Below.only H0.out HB.out (Nat.le_of_lt (Nat.lt_of_le_of_lt HB.out HR.out.lt)) hall1
  clear HT1
  rcases htold1 with ⟨rfl, hp1⟩ | ⟨rfl, hp1⟩
  · have hT2 := text_any w0 b w.heap.size 1 _ 38 w1 sv l i1 true iv (.slice none 0 0) (.slice none 0 0) fv hr1 HSV.out h01 HB.out hi1 hc1 rfl HR.out.lt
    have HT2 := Lib.hid hT2; have HROW1 := Lib.hid hrow1; have H01 := Lib.hid h01; have HC1 := Lib.hid hc1; have HR1 := Lib.hid hr1; have HP1 := Lib.hid hp1; have HTX1 := Lib.hid ht1; have HA1 := Lib.hid hall1
    clear hT2 hrow1 h01 hc1 hr1 hp1 ht1 hall1 ho1 hi1
    go_wp2_with fail
    refine HT2.out.mono ?_
    rintro e w2 ⟨v2, m2, i2, ok2, rfl, ht2, hc2, hr2, ho2, hi2, htold2⟩
    have ht12 : Txt w2 b v1 m1 := HTX1.out.only2 HR1.out HC1.out ty_ne.2.2.2.2.1 ho2
    have hall2 : Only b w w2 := HA1.out.then2 ho2 (Nat.le_refl _)
    have hrow2 := HROW.out.only HR.out hall2
    have h02 : Below w0.heap.size w0 w2 := Below.only H0.out HB.out (Nat.le_of_lt (Nat.lt_of_le_of_lt HB.out HR.out.lt)) hall2
    have htold : (ok2 = true ∧ pIt (l.drop i) = some (⟨m1, m2⟩, l.drop i2)) ∨ (ok2 = false ∧ pIt (l.drop i) = none) := by
      unfold pIt
      rw [HP1.out]
      dsimp only
      rcases htold2 with ⟨h1, h2⟩ | ⟨h1, h2⟩
      · rw [h2]; exact .inl ⟨h1, rfl⟩
      · rw [h2]; exact .inr ⟨h1, rfl⟩
    clear HT2 HROW1 H01 HC1 HR1 HTX1 HA1 htold2
    obtain ⟨p3, n3, c3, w3, hrun, hr3, hst⟩ := item_push (it := ⟨m1, m2⟩) hr2 hrow2 h02 HB.out (by have := HN.out; omega) ht12 ht2
    have HTOLD : Hid ((ok2 = true ∧ pIt (l.drop i) = some (⟨m1, m2⟩, l.drop i2)) ∨ (ok2 = false ∧ pIt (l.drop i) = none)) := htold
    have hv0 := cells_of hr2 3
    have e0 := cells_of hc2 0
    have e1 := cells_of hc2 1
    have g3 := cells_of hr3 3
    have gf := free_of hr3 3
    simp only [List.getElem?_toArray, List.getElem?_cons_zero, List.getElem?_cons_succ, List.setIfInBounds_toArray, List.set_cons_zero, List.set_cons_succ] at hv0 e0 e1 g3
    obtain ⟨pi, ci, rfl, -⟩ := hrow2.at_
    obtain ⟨pa, ca, rfl, -⟩ := ht12.bytes.any
    obtain ⟨pb, cb, rfl, -⟩ := ht2.bytes.any
    have hv1 : (w2.alloc (.cells #[.slice pa m1.length ca, .slice pb m2.length cb] 38)).cell? ⟨b, 3, none⟩ = some (.slice pi its.length ci) := (World.cell?_alloc_lt _ _ _ hr2.lt).trans hv0
    have HRUN := Lib.hid hrun; have HST := Lib.hid hst; have HI := Lib.hid hi2
    generalize its.length = NL at *
    clear ht12 ht2 hc2 hr2 ho2 hi2 hall2 hrow2 h02 htold hrun hst hr3
    go_wp2
    go_region_law ((refine step_append_run rfl (.tmp 18) (.tmp 20) 22 22 rfl (.slice pi NL ci) (.slice (some ⟨w2.heap.size, 0, none⟩) 1 1) rfl rfl (.slice p3 n3 c3) w3 HRUN.out ?_))
    all_goals
      go_wp2
      go_ret
      exact ⟨_, _, _, rfl, HST.out, HI.out, HTOLD.out⟩
  · have htold : pIt (l.drop i) = none := by
      unfold pIt
      rw [hp1]
    have hnil := Txt.nil w1 b
    obtain ⟨p3, n3, c3, w3, hrun, hr3, hst⟩ := item_push (it := ⟨m1, []⟩) hr1 hrow1 h01 HB.out (by have := HN.out; omega) ht1 hnil
    have HTOLD : Hid (pIt (l.drop i) = none) := htold
    have hv0 := cells_of hr1 3
    have e0 := cells_of hc1 0
    have e1 := cells_of hc1 1
    have g3 := cells_of hr3 3
    have gf := free_of hr3 3
    simp only [List.getElem?_toArray, List.getElem?_cons_zero, List.getElem?_cons_succ, List.setIfInBounds_toArray, List.set_cons_zero, List.set_cons_succ] at hv0 e0 e1 g3
    obtain ⟨pi, ci, rfl, -⟩ := hrow1.at_
    obtain ⟨pa, ca, rfl, -⟩ := ht1.bytes.any
    have hv1 : (w1.alloc (.cells #[.slice pa m1.length ca, .slice none 0 0] 38)).cell? ⟨b, 3, none⟩ = some (.slice pi its.length ci) := (World.cell?_alloc_lt _ _ _ hr1.lt).trans hv0
    have HRUN := Lib.hid hrun; have HST := Lib.hid hst; have HI := Lib.hid hi1
    generalize its.length = NL at *
    clear ht1 hc1 hr1 ho1 hi1 hp1 hall1 hrow1 h01 htold hrun hst hr3
    go_wp2
    go_region_law ((refine step_append_run rfl (.tmp 18) (.tmp 20) 22 22 rfl (.slice pi NL ci) (.slice (some ⟨w1.heap.size, 0, none⟩) 1 1) rfl rfl (.slice p3 n3 c3) w3 HRUN.out ?_))
    all_goals
      go_wp2
      go_ret
      exact ⟨_, _, _, rfl, HST.out, HI.out, .inr ⟨rfl, HTOLD.out⟩⟩
end Go.Proofs.Ytbjjaabmdjbodaa

