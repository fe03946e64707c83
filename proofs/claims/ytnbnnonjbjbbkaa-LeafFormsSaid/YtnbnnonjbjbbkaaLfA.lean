/- Rows of items in a program: keys that are sought; copies; one item more. -/
import Derived.Test.YtnbnnonjbjbbkaaLfQ
import Derived.Test.YtnbnnonjbjbbkaaItm
namespace Go.Proofs.Ytnbnnonjbjbbkaa
open Go Go.RowKit Go.By

set_option maxRecDepth 100000 in
theorem isAbove_any (v a b : Value) (k : List Nat) (i : NIt) (w : World) (hv : Bytes w v k) (ha : Bytes w a i.k) (hb : Bytes w b i.v) :
    Calls Try.prog 17 #[v, .agg #[a, b]] w fun e w' => e = .returned (.bool (isAb k i)) ∧ w' = w.alloc (.cells #[a, b] 36) := by
  have hbo := (Below.refl w.heap.size w).alloc (Nat.le_refl _) (.cells #[a, b] 36)
  have HC := Lib.hid (compare_any v a k i.k _ (hv.below hbo) (ha.below hbo))
  have HE : Hid (decide (0 < cmpN k i.k) = isAb k i) := cmpN_more hv.small ha.small
  obtain ⟨qa, ca, rfl, -⟩ := ha.any
  obtain ⟨qb, cb, rfl, -⟩ := hb.any
  obtain ⟨qv, cv, rfl, -⟩ := hv.any
  clear hv ha hb hbo
  generalize cmpN k i.k = x at *
  generalize k.length = l1 at *
  generalize i.k.length = l2 at *
  generalize i.v.length = l3 at *
  go_enter Try.func17, Try.ntmps17
  go_wp2_with fail
  refine HC.out.mono ?_
  rintro e w1 ⟨rfl, rfl⟩
  go_wp2
  go_ret
  exact ⟨by rw [← HE.out]; rfl, rfl⟩

set_option maxRecDepth 100000 in
theorem isOf_any (v a b : Value) (k : List Nat) (i : NIt) (w : World) (hv : Bytes w v k) (ha : Bytes w a i.k) (hb : Bytes w b i.v) :
    Calls Try.prog 18 #[v, .agg #[a, b]] w fun e w' => e = .returned (.bool (decide (k = i.k))) ∧ w' = w.alloc (.cells #[a, b] 36) := by
  have hbo := (Below.refl w.heap.size w).alloc (Nat.le_refl _) (.cells #[a, b] 36)
  have HC := Lib.hid (equal_any v a k i.k _ (hv.below hbo) (ha.below hbo))
  obtain ⟨qa, ca, rfl, -⟩ := ha.any
  obtain ⟨qb, cb, rfl, -⟩ := hb.any
  obtain ⟨qv, cv, rfl, -⟩ := hv.any
  clear hv ha hb hbo
  generalize decide (k = i.k) = x at *
  generalize k.length = l1 at *
  generalize i.k.length = l2 at *
  generalize i.v.length = l3 at *
  go_enter Try.func18, Try.ntmps18
  go_wp2_with fail
  refine HC.out.mono ?_
  rintro e w1 ⟨rfl, rfl⟩
  go_wp2
  go_ret
  exact ⟨rfl, rfl⟩

/-- A copy is told, new. -/
def Copied (B : Nat) (w : World) (l : List Nat) (e : Ending) (w' : World) : Prop := ∃ p c, e = .returned (.slice p l.length c) ∧ Txt w' B (.slice p l.length c) l ∧ Below w.heap.size w w'
set_option maxRecDepth 100000 in
theorem copied_any (v : Value) (l : List Nat) (B : Nat) (w : World) (hv : Bytes w v l) (hl : l.length ≤ 1000000) (hB : B ≤ w.heap.size) :
    Calls Try.prog 25 #[v] w (Copied B w l) := by
  obtain ⟨v1, w1, hrun, ho, hg⟩ := run_append_byt (P := Try.prog) 27 byT B (.slice none 0 0) 0 [] (World.ownsRow_nil _ _ _ _) v l hv (by omega) hB
  have hb := hg.below (Below.refl w.heap.size w) (Nat.le_refl _) (by intro k hk; simp [Value.ownBlock] at hk)
  have ho' : w1.ownsRow B 5 1 v1 l.length (cellsOf l) := by simpa using ho
  obtain ⟨p1, c1, rfl⟩ := shape_of ho'
  have HF : Hid (Copied B w l (.returned (.slice p1 l.length c1)) w1) := ⟨p1, c1, rfl, ⟨ho', hv.small, hv.short⟩, hb⟩
  obtain ⟨qv, cv, rfl, -⟩ := hv.any
  have HRUN := Lib.hid hrun
  clear hrun ho hg hb ho' hv
  go_enter Try.func25, Try.ntmps25
  go_wp2_with (at_builtin; refine Lib.wpList_append_run _ rfl (.const (.slice none 0 0)) (.tmp 3) 27 27 rfl _ _ rfl rfl _ w1 HRUN.out ?_)
  go_ret
  exact HF.out

def ShortIt (i : NIt) : Prop := i.k.length ≤ 1000000 ∧ i.v.length ≤ 1000000
/-- A row that is being made: what is left, what is made. -/
def RwAt (w : World) (r : Nat) (lv mv : Value) : Prop := w.heap[r]? = some (.cells #[lv, mv] 44 (0, 0))
theorem RwAt.lt {w : World} {r : Nat} {lv mv : Value} (h : RwAt w r lv mv) : r < w.heap.size := (Array.getElem?_eq_some_iff.1 h).1
theorem RwAt.below {w w' : World} {r : Nat} {lv mv : Value} (h : RwAt w r lv mv) (hb : Below w.heap.size w w') : RwAt w' r lv mv := (hb.block _ h.lt).trans h
def Made (w0 : World) (r : Nat) (lv : Value) (its : List NIt) (w : World) : Prop := ∃ mv, RwAt w r lv mv ∧ ItRow w w0.heap.size mv its ∧ Below w0.heap.size w0 w
/-- What is neither items nor at this place is as it was. -/
def KeptT (r : Nat) (w w' : World) : Prop := ∀ k cs T fr, k ≠ r → T ≠ 36 → w.heap[k]? = some (.cells cs T fr) → w'.heap[k]? = some (.cells cs T fr)
theorem KeptT.refl (r : Nat) (w : World) : KeptT r w w := fun _ _ _ _ _ _ h => h
theorem KeptT.trans {r : Nat} {w w1 w2 : World} (h : KeptT r w w1) (k : KeptT r w1 w2) : KeptT r w w2 := fun j cs T fr h1 h2 h3 => k j cs T fr h1 h2 (h j cs T fr h1 h2 h3)
theorem KeptT.of_below {r : Nat} {w w' : World} (h : Below w.heap.size w w') : KeptT r w w' := fun j _ _ _ _ _ h3 => (h.block j (Array.getElem?_eq_some_iff.1 h3).1).trans h3
theorem KeptT.set (r i : Nat) (w : World) (v : Value) : KeptT r w (w.setCell ⟨r, i, none⟩ v) := fun j _ _ _ h1 _ h3 => (heap_setCell_other w ⟨r, i, none⟩ j v h1).trans h3
def MadeIs (w0 : World) (r : Nat) (lv : Value) (its : List NIt) (w : World) (e : Ending) (w' : World) : Prop := e = .returned (.tuple #[]) ∧ Made w0 r lv its w' ∧ KeptT r w w'
theorem ty_lrow : 5 ≠ 44 ∧ 36 ≠ 44 := by decide

/-- append, at a step of a region that draws its order, by its run equation. -/
theorem step_append_run' {P : Program} {w : World} {ops : Array Oper} {o : Oper} {a : Act} {K : Act → World → Prop} {Q : Exit → Act → World → Prop} {E : Prop} (hgd : o.guard = none) (s x : Operand) (t t' : TypeId)
    (ho : o.op = .call { callee := .builtin .append, args := #[s, x], argTypes := #[t, t'] }) (v xv : Value) (hs : a.eval s = v) (hx : a.eval x = xv) (v' : Value) (w' : World) (hrun : (Builtin.append_ #[t, t'] o.type #[v, xv]).run P w = .ok v' w')
    (h : K (a.put o.dst v') w') :
    if Region.wanted o (yielded ops a.tmps) = true then Oper.wp P o a w K Q else E := by
  have hw : Region.wanted o (yielded ops a.tmps) = true := by simp [Region.wanted, hgd]
  rw [if_pos hw]
  unfold Oper.wp execOp
  simp only [ho, resolve, invoke, builtin, Sem.run_bind, Sem.run_pure, Result.andThen_ok, List.map_toArray, List.map_cons, List.map_nil, hs, hx, hrun]
  exact h
/-- The item is appended: what the region leaves. -/
theorem row_push {w0 w : World} {r : Nat} {lv mv a c : Value} {its : List NIt} {i : NIt} (hr : RwAt w r lv mv) (hi : ItRow w w0.heap.size mv its) (h0 : Below w0.heap.size w0 w) (hb : w0.heap.size ≤ r) (hn : its.length ≤ 1000000) (ha : Txt w w0.heap.size a i.k) (hc : Txt w w0.heap.size c i.v) :
    ∃ p' n' c' w', (Builtin.append_ #[33, 33] 33 #[mv, .slice (some ⟨w.heap.size, 0, none⟩) 1 1]).run Try.prog (w.alloc (.cells #[a, c] 36)) = .ok (.slice p' n' c') w' ∧ RwAt w' r lv mv ∧ Made w0 r lv (its ++ [i]) (w'.setCell ⟨r, 1, none⟩ (.slice p' n' c')) ∧ KeptT r w (w'.setCell ⟨r, 1, none⟩ (.slice p' n' c')) := by
  obtain ⟨v', w', hrun, hrow, hg⟩ := hi.push hn h0.size ha hc
  obtain ⟨cs, _, ho, _⟩ := hi
  have hne : mv.ownBlock ≠ some r := owns_ne ho hr ty_lrow.2
  have hr' : RwAt w' r lv mv := (hg.block hr.lt hne).trans hr
  have hbl : Below w0.heap.size w0 w' := hg.below h0 h0.size (fun k hk => (ho.lt k hk).1)
  obtain ⟨p', c', rfl, -⟩ := hrow.at_
  refine ⟨_, _, _, w', hrun, hr', ⟨_, set_heap hr' 1 _, hrow.onlyT hr' ty_lrow (Only.set r 1 w' _), hbl.setCell hb _⟩, KeptT.trans (fun j cs T fr _ h2 h3 => ?_) (KeptT.set r 1 w' _)⟩
  exact (hg.block (Array.getElem?_eq_some_iff.1 h3).1 (owns_ne ho h3 (fun e => h2 e.symm))).trans h3

set_option maxRecDepth 100000 in
set_option maxHeartbeats 1000000 in
theorem add_any (w0 : World) (r : Nat) (lv : Value) (its : List NIt) (i : NIt) (a b : Value) (w : World) (h : Made w0 r lv its w) (hr : w0.heap.size ≤ r) (ha : Bytes w0 a i.k) (hb : Bytes w0 b i.v) (hl : ShortIt i) (hn : its.length ≤ 1000000) :
    Calls Try.prog 22 #[.pointer (some ⟨r, 0, none⟩), a, b] w (MadeIs w0 r lv (its ++ [i]) w) := by
  obtain ⟨mv, h1, h2, h3⟩ := h
  have HK : Hid (∀ W, Below w.heap.size w W → Calls Try.prog 25 #[a] W (Copied w0.heap.size W i.k)) := fun W hW => copied_any a i.k w0.heap.size W ((ha.below h3).below hW) hl.1 (Nat.le_trans h3.size hW.size)
  have HV : Hid (∀ W, Below w.heap.size w W → Calls Try.prog 25 #[b] W (Copied w0.heap.size W i.v)) := fun W hW => copied_any b i.v w0.heap.size W ((hb.below h3).below hW) hl.2 (Nat.le_trans h3.size hW.size)
  have hc0 := cells_of h1 1
  simp only [List.getElem?_toArray, List.getElem?_cons_zero, List.getElem?_cons_succ] at hc0
  have HD : Hid (Below w.heap.size w w.drew) := (Below.refl _ _).drew
  have HB := Lib.hid h3; have H1 := Lib.hid h1; have H2 := Lib.hid h2; have HR := Lib.hid hr
  have HN : Hid (∀ x : List NIt, x = its → x.length ≤ 1000000) := fun x e => by rw [e]; exact hn
  obtain ⟨pm, cm, rfl, -⟩ := h2.at_
  generalize its.length = NI at *
  clear h1 h2 h3 ha hb hl hr hn
  go_enter Try.func22, Try.ntmps22
  go_wp2_with fail
  go_region_law (first
    | (go_simp; go_at_call 25; (with_reducible refine (HK.out _ HD.out).mono ?_); rintro e1 w1 ⟨p1, c1, rfl, t1, b1⟩; have HB1 := Lib.hid (HD.out.trans (b1.mono HD.out.size)); have HT1 := Lib.hid t1; have hc1 := cells_of (H1.out.below HB1.out) 1; simp only [List.getElem?_toArray, List.getElem?_cons_zero, List.getElem?_cons_succ] at hc1; clear t1 b1)
    | (go_simp; go_at_call 25; (with_reducible refine (HV.out _ HB1.out).mono ?_); rintro e2 w2 ⟨p2, c2, rfl, t2, b2⟩; have HB2 := Lib.hid (HB1.out.trans (b2.mono HB1.out.size)); obtain ⟨p3, n3, c3, w3, hrun, hr3, hm3, hk3⟩ := row_push (i := i) (H1.out.below HB2.out) (H2.out.below' HB2.out) (HB.out.trans (HB2.out.mono HB.out.size)) HR.out (HN.out _ rfl) (HT1.out.below' b2) t2; have HRUN := Lib.hid hrun; have HM3 := Lib.hid hm3; have HK3 := Lib.hid ((KeptT.of_below HB2.out).trans hk3); have hl2 := (H1.out.below HB2.out).lt; have hc2 := cells_of (H1.out.below HB2.out) 1; have hc3 := cells_of hr3 1; have hf3 := free_of hr3 1; simp only [List.getElem?_toArray, List.getElem?_cons_zero, List.getElem?_cons_succ] at hc2 hc3; clear t2 b2 hrun hr3 hm3 hk3)
    | (refine step_append_run' rfl (.tmp 10) (.tmp 16) 33 33 rfl (.slice pm NI cm) (.slice (some ⟨w2.heap.size, 0, none⟩) 1 1) rfl rfl (.slice p3 n3 c3) w3 HRUN.out ?_))
  all_goals
    go_wp2
    go_returns
    exact ⟨rfl, HM3.out, HK3.out⟩
end Go.Proofs.Ytnbnnonjbjbbkaa

