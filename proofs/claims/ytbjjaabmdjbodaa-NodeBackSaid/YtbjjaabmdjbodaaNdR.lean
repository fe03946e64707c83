/- Nodes in a program: what is taken. -/
import Derived.Test.YtbjjaabmdjbodaaNdQ
namespace Go.Proofs.Ytbjjaabmdjbodaa
open Go Go.RowKit Go.By

/-- A node has been read: where its rows lie. -/
def NdSt (w0 : World) (b : Nat) (w : World) (sv : Value) (i : Nat) (n : Nd) : Prop :=
  ∃ iv kv dv fv, RdAt w b sv i n.leaf iv kv dv fv ∧ ItRow w b iv n.its ∧ KyRow w b kv n.ks ∧ KdRow w b dv n.kids ∧ Below w0.heap.size w0 w
theorem LfSt.nd {w0 : World} {b : Nat} {w : World} {sv : Value} {i : Nat} {fv : Value} {its : List NIt} (h : LfSt w0 b w sv i fv its) : NdSt w0 b w sv i (lfOf its) := by
  obtain ⟨iv, h1, h2, h3⟩ := h
  exact ⟨iv, _, _, fv, h1, h2, KyRow.nil _ _, KdRow.nil _ _, h3⟩
theorem InSt.nd {w0 : World} {b : Nat} {w : World} {sv : Value} {i : Nat} {fv : Value} {xs : List (List Nat × NKd)} (h : InSt w0 b w sv i fv xs) : NdSt w0 b w sv i (inOf xs) := by
  obtain ⟨kv, dv, h1, h2, h3, h4⟩ := h
  exact ⟨_, kv, dv, fv, h1, ItRow.nil _ _, h2, h3, h4⟩
theorem NdSt.below' {w0 : World} {b : Nat} {w w' : World} {sv : Value} {i : Nat} {n : Nd} (h : NdSt w0 b w sv i n) (hb : Below w.heap.size w w') : NdSt w0 b w' sv i n := by
  obtain ⟨iv, kv, dv, fv, h1, h2, h3, h4, h5⟩ := h
  exact ⟨iv, kv, dv, fv, h1.below' hb, h2.below' hb, h3.below' hb, h4.below' hb, h5.trans (hb.mono h5.size)⟩
theorem NdSt.open_ {w0 : World} {b : Nat} {w : World} {sv : Value} {i : Nat} {n : Nd} (h : NdSt w0 b w sv i n) :
    ∃ pi ci pk ck pd cd fv, RdAt w b sv i n.leaf (.slice pi n.its.length ci) (.slice pk n.ks.length ck) (.slice pd n.kids.length cd) fv ∧ IsNd w (.agg #[.bool n.leaf, .slice pi n.its.length ci, .slice pk n.ks.length ck, .slice pd n.kids.length cd]) n pi ci pk ck pd cd ∧ Below w0.heap.size w0 w ∧
      ∀ w' : World, (∀ k, b ≤ k → k < w.heap.size → w'.heap[k]? = w.heap[k]?) → IsNd w' (.agg #[.bool n.leaf, .slice pi n.its.length ci, .slice pk n.ks.length ck, .slice pd n.kids.length cd]) n pi ci pk ck pd cd := by
  obtain ⟨iv, kv, dv, fv, h1, h2, h3, h4, h5⟩ := h
  obtain ⟨pi, ci, rfl, r2⟩ := h2.at_
  obtain ⟨pk, ck, rfl, r3⟩ := h3.at_
  obtain ⟨pd, cd, rfl, r4⟩ := h4.at_
  refine ⟨pi, ci, pk, ck, pd, cd, fv, h1, ⟨rfl, r2, r3, r4⟩, h5, fun w' hk => ?_⟩
  have own : ∀ {s : Nat} {e : TypeId} {v : Value} {n : Nat} {xs : List Value}, w.ownsRow b e s v n xs → w'.ownsRow b e s v n xs := fun h => owns_stay h (fun k hk' => hk k (h.lt k hk').1 (h.lt k hk').2)
  have txt : ∀ {v : Value} {l : List Nat}, Txt w b v l → Txt w' b v l := fun h => ⟨own h.1, h.2⟩
  have g2 : ItRow w' b (.slice pi n.its.length ci) n.its := by
    obtain ⟨cs, a1, a2, a3⟩ := h2
    exact ⟨cs, a1, own a2, fun j hj hj' => ⟨txt (a3 j hj hj').1, txt (a3 j hj hj').2⟩⟩
  have g3 : KyRow w' b (.slice pk n.ks.length ck) n.ks := by
    obtain ⟨cs, a1, a2, a3⟩ := h3
    exact ⟨cs, a1, own a2, fun j hj hj' => txt (a3 j hj hj')⟩
  have g4 : KdRow w' b (.slice pd n.kids.length cd) n.kids := ⟨own h4.1, h4.2⟩
  obtain ⟨_, _, e2, s2⟩ := g2.at_
  obtain ⟨_, _, e3, s3⟩ := g3.at_
  obtain ⟨_, _, e4, s4⟩ := g4.at_
  simp only [Value.slice.injEq, true_and] at e2 e3 e4
  obtain ⟨rfl, rfl⟩ := e2
  obtain ⟨rfl, rfl⟩ := e3
  obtain ⟨rfl, rfl⟩ := e4
  exact ⟨rfl, s2, s3, s4⟩

theorem item_take (w0 : World) (b : Nat) (sv : Value) (l : List Nat) (hsv : Bytes w0 sv l) (hb : w0.heap.size ≤ b) :
    OneTake w0 b l pIt 34 (fun w i its => LfSt w0 b w sv i (.func (.func 34) #[.pointer (some ⟨b, 0, none⟩)] #[]) its) where
  enter := fun args w => by kernel_rfl
  cell := fun w i xs h => by
    obtain ⟨iv, h1, _, _⟩ := h
    exact cells_of h1 6
  below := fun w i xs h => by
    obtain ⟨iv, _, _, h3⟩ := h
    exact h3
  take := fun w i xs h hi hn => takeItem_any w0 b w sv l i _ xs h hsv hb hi hn
theorem kid_take (w0 : World) (b : Nat) (sv : Value) (l : List Nat) (hsv : Bytes w0 sv l) (hb : w0.heap.size ≤ b) :
    OneTake w0 b l pKd 35 (fun w i xs => InSt w0 b w sv i (.func (.func 35) #[.pointer (some ⟨b, 0, none⟩)] #[]) xs) where
  enter := fun args w => by kernel_rfl
  cell := fun w i xs h => by
    obtain ⟨kv, dv, h1, _, _, _⟩ := h
    exact cells_of h1 6
  below := fun w i xs h => by
    obtain ⟨kv, dv, _, _, _, h3⟩ := h
    exact h3
  take := fun w i xs h hi hn => takeKid_any w0 b w sv l i _ xs h hsv hb hi hn

theorem takeNd_short {l : List Nat} (h : l.length ≤ 1) : takeNd l = none := by
  match l, h with
  | [], _ => rfl
  | [_], _ => rfl
theorem takeNd_of {l : List Nat} (h : 2 ≤ l.length) : takeNd l = if atB l 0 = 76 then ndBody true (atB l 1) (l.drop 2) else if atB l 0 = 78 then ndBody false (atB l 1) (l.drop 2) else none := by
  match l, h with
  | k :: c :: r, _ => rfl
theorem takeNd_letter {l : List Nat} (h : l.length < 1 ∨ (1 ≤ l.length ∧ atB l 0 ≠ 76 ∧ atB l 0 ≠ 78)) : takeNd l = none := by
  rcases h with h | ⟨h, h1, h2⟩
  · exact takeNd_short (by omega)
  · by_cases h3 : 2 ≤ l.length
    · rw [takeNd_of h3, if_neg h1, if_neg h2]
    · exact takeNd_short (by omega)
theorem takeNd_lf {l : List Nat} {its : List NIt} {r : List Nat} (h : 2 ≤ l.length) (h0 : atB l 0 = 76) (hp : pMany pIt (atB l 1) (l.drop 2) = some (its, r)) : takeNd l = ndTold (lfOf its) r := by
  rw [takeNd_of h, if_pos h0]
  unfold ndBody
  rw [if_pos rfl, hp]
theorem takeNd_lf_no {l : List Nat} (h0 : atB l 0 = 76) (hp : l.length ≤ 1 ∨ (2 ≤ l.length ∧ pMany pIt (atB l 1) (l.drop 2) = none)) : takeNd l = none := by
  rcases hp with h | ⟨h, hp⟩
  · exact takeNd_short h
  · rw [takeNd_of h, if_pos h0]
    unfold ndBody
    rw [if_pos rfl, hp]
theorem takeNd_in {l : List Nat} {xs : List (List Nat × NKd)} {r : List Nat} (h : 2 ≤ l.length) (h0 : atB l 0 = 78) (hp : pMany pKd (atB l 1) (l.drop 2) = some (xs, r)) : takeNd l = ndTold (inOf xs) r := by
  rw [takeNd_of h, if_neg (by omega), if_pos h0]
  unfold ndBody
  rw [if_neg (by decide), hp]
theorem takeNd_in_no {l : List Nat} (h0 : atB l 0 = 78) (hp : l.length ≤ 1 ∨ (2 ≤ l.length ∧ pMany pKd (atB l 1) (l.drop 2) = none)) : takeNd l = none := by
  rcases hp with h | ⟨h, hp⟩
  · exact takeNd_short h
  · rw [takeNd_of h, if_neg (by omega), if_pos h0]
    unfold ndBody
    rw [if_neg (by decide), hp]

theorem index0 (f1 f2 f3 f4 : FuncId) (a : Value) (w : World) : (Instr.index 48 (.agg #[.func (.func f1) #[a] #[], .func (.func f2) #[a] #[], .func (.func f3) #[a] #[], .func (.func f4) #[a] #[]]) (.int .i64 0)).run Try.prog w = .ok (.func (.func f1) #[a] #[]) w := by kernel_rfl
theorem index1 (f1 f2 f3 f4 : FuncId) (a : Value) (w : World) : (Instr.index 48 (.agg #[.func (.func f1) #[a] #[], .func (.func f2) #[a] #[], .func (.func f3) #[a] #[], .func (.func f4) #[a] #[]]) (.int .i64 1)).run Try.prog w = .ok (.func (.func f2) #[a] #[]) w := by kernel_rfl
theorem index2 (f1 f2 f3 f4 : FuncId) (a : Value) (w : World) : (Instr.index 48 (.agg #[.func (.func f1) #[a] #[], .func (.func f2) #[a] #[], .func (.func f3) #[a] #[], .func (.func f4) #[a] #[]]) (.int .i64 2)).run Try.prog w = .ok (.func (.func f3) #[a] #[]) w := by kernel_rfl
theorem index3 (f1 f2 f3 f4 : FuncId) (a : Value) (w : World) : (Instr.index 48 (.agg #[.func (.func f1) #[a] #[], .func (.func f2) #[a] #[], .func (.func f3) #[a] #[], .func (.func f4) #[a] #[]]) (.int .i64 3)).run Try.prog w = .ok (.func (.func f4) #[a] #[]) w := by kernel_rfl

/-- How far it has come. -/
inductive TkRel (w1 : World) (sv : Value) (l : List Nat) : Value → World → Prop where
  | r0 {w : World} : RdAt w w1.heap.size sv 0 false (.slice none 0 0) (.slice none 0 0) (.slice none 0 0) .nilFunc → Below w1.heap.size w1 w → TkRel w1 sv l (.int .i64 0) w
  | r1l {w : World} : 1 ≤ l.length → atB l 0 = 76 → RdAt w w1.heap.size sv 1 true (.slice none 0 0) (.slice none 0 0) (.slice none 0 0) (.func (.func 34) #[.pointer (some ⟨w1.heap.size, 0, none⟩)] #[]) → Below w1.heap.size w1 w → TkRel w1 sv l (.int .i64 1) w
  | r1n {w : World} : 1 ≤ l.length → atB l 0 = 78 → RdAt w w1.heap.size sv 1 false (.slice none 0 0) (.slice none 0 0) (.slice none 0 0) (.func (.func 35) #[.pointer (some ⟨w1.heap.size, 0, none⟩)] #[]) → Below w1.heap.size w1 w → TkRel w1 sv l (.int .i64 1) w
  | r2 {w : World} {n : Nd} {i : Nat} : NdSt w1 w1.heap.size w sv i n → i ≤ l.length → takeNd l = ndTold n (l.drop i) → TkRel w1 sv l (.int .i64 2) w
  | r3 {w : World} {n : Nd} {i : Nat} : NdSt w1 w1.heap.size w sv i n → takeNd l = ndTold n [] → TkRel w1 sv l (.int .i64 3) w
  | r4 {w : World} {n : Nd} {i : Nat} : NdSt w1 w1.heap.size w sv i n → takeNd l = some n → TkRel w1 sv l (.int .i64 4) w

/-- One part: which method, what it tells. -/
structure Step (w1 : World) (sv : Value) (l : List Nat) (k : Nat) (wr : World) (f : FuncId) : Prop where
  enter : ∀ args w, (callFunc f args).run Try.prog w = .ok (.enter f args) w
  index : ∀ w, (Instr.index 48 (.agg #[.func (.func 17) #[.pointer (some ⟨w1.heap.size, 0, none⟩)] #[], .func (.func 18) #[.pointer (some ⟨w1.heap.size, 0, none⟩)] #[], .func (.func 19) #[.pointer (some ⟨w1.heap.size, 0, none⟩)] #[], .func (.func 20) #[.pointer (some ⟨w1.heap.size, 0, none⟩)] #[]]) (.int .i64 (k : Nat))).run Try.prog w = .ok (.func (.func f) #[(.pointer (some ⟨w1.heap.size, 0, none⟩))] #[]) w
  call : Calls Try.prog f #[(.pointer (some ⟨w1.heap.size, 0, none⟩))] wr fun e w' => (e = .returned (.bool true) ∧ TkRel w1 sv l (.int .i64 (k + 1 : Nat)) w') ∨ (e = .returned (.bool false) ∧ takeNd l = none ∧ Below w1.heap.size w1 w')

theorem step_any {w1 wr : World} {sv i : Value} {l : List Nat} (hsv : Bytes w1 sv l) (h : TkRel w1 sv l i wr) :
    (∃ k : Nat, k < 4 ∧ i = .int .i64 k ∧ ∃ f, Step w1 sv l k wr f) ∨ (i = .int .i64 4 ∧ TkRel w1 sv l (.int .i64 4) wr) := by
  cases h with
  | r0 hr hb =>
    refine .inl ⟨0, by decide, rfl, 17, fun args w => by kernel_rfl, index0 _ _ _ _ _, ?_⟩
    refine (takeLetter_any w1 w1.heap.size wr sv l hr hsv hb (Nat.le_refl _)).mono ?_
    rintro e w2 (⟨rfl, h1, h2, h3, h4⟩ | ⟨rfl, h1, h2, h3, h4⟩ | ⟨rfl, h1, h4⟩)
    · exact .inl ⟨rfl, .r1l h1 h2 h3 (Below.only hb (Nat.le_refl _) (Nat.le_of_lt hr.lt) h4)⟩
    · exact .inl ⟨rfl, .r1n h1 h2 h3 (Below.only hb (Nat.le_refl _) (Nat.le_of_lt hr.lt) h4)⟩
    · exact .inr ⟨rfl, takeNd_letter h1, Below.only hb (Nat.le_refl _) (Nat.le_of_lt hr.lt) h4⟩
  | r1l h1 h2 hr hb =>
    refine .inl ⟨1, by decide, rfl, 18, fun args w => by kernel_rfl, index1 _ _ _ _ _, ?_⟩
    refine (takeEach_any w1 w1.heap.size wr sv l true _ _ _ _ pIt _ _ (item_take w1 w1.heap.size sv l hsv (Nat.le_refl _)) hr hsv hb (Nat.le_refl _) h1 (fun w' hr' ho => ⟨_, hr', ItRow.nil _ _, Below.only hb (Nat.le_refl _) (Nat.le_of_lt hr.lt) ho⟩)).mono ?_
    rintro e w2 (⟨rfl, its, i', hS, hl, hi', hp⟩ | ⟨rfl, hp, hbl⟩)
    · exact .inl ⟨rfl, .r2 hS.nd hi' (takeNd_lf hl h2 hp)⟩
    · exact .inr ⟨rfl, takeNd_lf_no h2 hp, hbl⟩
  | r1n h1 h2 hr hb =>
    refine .inl ⟨1, by decide, rfl, 18, fun args w => by kernel_rfl, index1 _ _ _ _ _, ?_⟩
    refine (takeEach_any w1 w1.heap.size wr sv l false _ _ _ _ pKd _ _ (kid_take w1 w1.heap.size sv l hsv (Nat.le_refl _)) hr hsv hb (Nat.le_refl _) h1 (fun w' hr' ho => ⟨_, _, hr', KyRow.nil _ _, KdRow.nil _ _, Below.only hb (Nat.le_refl _) (Nat.le_of_lt hr.lt) ho⟩)).mono ?_
    rintro e w2 (⟨rfl, xs, i', hS, hl, hi', hp⟩ | ⟨rfl, hp, hbl⟩)
    · exact .inl ⟨rfl, .r2 hS.nd hi' (takeNd_in hl h2 hp)⟩
    · exact .inr ⟨rfl, takeNd_in_no h2 hp, hbl⟩
  | r2 hS hi' ht =>
    rename_i n i'
    refine .inl ⟨2, by decide, rfl, 19, fun args w => by kernel_rfl, index2 _ _ _ _ _, ?_⟩
    obtain ⟨iv, kv, dv, fv, hr, _, _, _, hb⟩ := id hS
    refine (end_any w1 w1.heap.size wr sv l i' _ _ _ _ _ hr hsv hi').mono ?_
    rintro e w2 ⟨rfl, rfl⟩
    have hbz : Below wr.heap.size wr wr.drew := (Below.refl _ _).drew
    by_cases hp : i' = l.length
    · rw [decide_eq_true hp]
      exact .inl ⟨rfl, .r3 (hS.below' hbz) (by rw [ht, hp, List.drop_length])⟩
    · rw [decide_eq_false hp]
      refine .inr ⟨rfl, ?_, hb.trans (hbz.mono hb.size)⟩
      rw [ht, List.drop_eq_getElem_cons (by omega)]
      rfl
  | r3 hS ht =>
    rename_i n i'
    refine .inl ⟨3, by decide, rfl, 20, fun args w => by kernel_rfl, index3 _ _ _ _ _, ?_⟩
    obtain ⟨pi, ci, pk, ck, pd, cd, fv, hr, hn, hb, _⟩ := hS.open_
    refine (be_any hr hn).mono ?_
    rintro e w2 ⟨rfl, hb2⟩
    cases hm : mayNd n with
    | true => exact .inl ⟨rfl, .r4 (hS.below' hb2) (by rw [ht]; unfold ndTold; rw [if_pos hm])⟩
    | false => exact .inr ⟨rfl, by rw [ht]; unfold ndTold; rw [hm]; rfl, hb.trans (hb2.mono hb.size)⟩
  | r4 hS ht => exact .inr ⟨rfl, .r4 hS ht⟩

/-- What Take answers. -/
def Tells (w : World) (l : List Nat) (z : Ending) (w' : World) : Prop :=
  ((takeNd l = none ∧ z = .returned (.tuple #[.agg #[.bool false, .slice none 0 0, .slice none 0 0, .slice none 0 0], .int .i64 2])) ∨
    ∃ n pi ci pk ck pd cd, takeNd l = some n ∧ z = .returned (.tuple #[.agg #[.bool n.leaf, .slice pi n.its.length ci, .slice pk n.ks.length ck, .slice pd n.kids.length cd], .int .i64 0]) ∧ IsNd w' (.agg #[.bool n.leaf, .slice pi n.its.length ci, .slice pk n.ks.length ck, .slice pd n.kids.length cd]) n pi ci pk ck pd cd) ∧ Below w.heap.size w w'

/-- The answer's block, as it was made. -/
def AnsAt (w : World) (g : Nat) : Prop := w.heap[g]? = some (.cells #[.bool false, .slice none 0 0, .slice none 0 0, .slice none 0 0] 26 (0, 0))
theorem ans_set {w : World} {A : Nat} (h : AnsAt w A) (a b c d : Value) :
    ((((w.setCell ⟨A, 0, none⟩ a).setCell ⟨A, 1, none⟩ b).setCell ⟨A, 2, none⟩ c).setCell ⟨A, 3, none⟩ d).heap[A]? = some (.cells #[a, b, c, d] 26 (0, 0)) :=
  heap_setCell_same _ A 3 _ _ d (heap_setCell_same _ A 2 _ _ c (heap_setCell_same _ A 1 _ _ b (heap_setCell_same _ A 0 _ _ a h)))
theorem ans_below {B : Nat} {w0 w : World} {A : Nat} (h : Below B w0 w) (hB : B ≤ A) (a b c d : Value) :
    Below B w0 ((((w.setCell ⟨A, 0, none⟩ a).setCell ⟨A, 1, none⟩ b).setCell ⟨A, 2, none⟩ c).setCell ⟨A, 3, none⟩ d) :=
  (((h.setCell (p := ⟨A, 0, none⟩) hB _).setCell (p := ⟨A, 1, none⟩) hB _).setCell (p := ⟨A, 2, none⟩) hB _).setCell (p := ⟨A, 3, none⟩) hB _
theorem ans_other {w : World} {A k : Nat} (hk : k ≠ A) (a b c d : Value) :
    ((((w.setCell ⟨A, 0, none⟩ a).setCell ⟨A, 1, none⟩ b).setCell ⟨A, 2, none⟩ c).setCell ⟨A, 3, none⟩ d).heap[k]? = w.heap[k]? := by
  rw [heap_setCell_other _ _ k _ hk, heap_setCell_other _ _ k _ hk, heap_setCell_other _ _ k _ hk, heap_setCell_other _ _ k _ hk]
theorem took_ret {tmps : Array Value} {w : World} {A : Nat} {cs : Array Value} {x : Value} (hp : tmps.getD 2 undef = .pointer (some ⟨A, 0, none⟩)) (hx : tmps.getD 3 undef = x) (hg : w.heap[A]? = some (.cells cs 26 (0, 0))) (hc : cs.size = 4) :
    (results Try.f9 tmps).run Try.prog w = .ok (.tuple #[.agg cs, x]) w := by
  have hi : (Try.prog.info? 26).map (·.size) = some cs.size := by rw [hc]; kernel_rfl
  have hq : (Try.prog.underlying 26).map (fun d => match d with | .struct _ | .array _ _ => true | _ => false) = some true := by kernel_rfl
  obtain ⟨d, hu, hd⟩ := Option.map_eq_some_iff.1 hq
  rw [results_cell_tmp (p := 2) (u := 3) (ty := 26) (by kernel_rfl), hp, hx]
  have := run_loadVar_row (P := Try.prog) w A 26 26 cs (0, 0) d hg hu (by cases d <;> simp_all) hi
  simp [asAddr, this, Result.andThen]

set_option maxRecDepth 100000 in
set_option maxHeartbeats 4000000 in
theorem take_any (sv : Value) (l : List Nat) (w : World) (hsv : Bytes w sv l) :
    Calls Try.prog 9 #[sv] w (Tells w l) := by
  obtain ⟨p, cap, rfl, _⟩ := hsv.any
  obtain ⟨w1, hw1⟩ : ∃ W, W = w.alloc (.cells #[.bool false, .slice none 0 0, .slice none 0 0, .slice none 0 0] 26) := ⟨_, rfl⟩
  have hz1 : w1.heap.size = w.heap.size + 1 := by rw [hw1]; simp
  have ha1 : AnsAt w1 w.heap.size := by rw [hw1]; exact heap_alloc_new w _
  have hb1 : Below w.heap.size w w1 := by rw [hw1]; exact (Below.refl _ _).alloc (Nat.le_refl _) _
  have HSV := Lib.hid (hsv.below hb1)
  clear hsv
  have HANS : Hid (∀ w', Below w1.heap.size w1 w' → AnsAt w' w.heap.size) := fun w' hb => (hb.block _ (by omega)).trans ha1
  have HBW : Hid (∀ w', Below w1.heap.size w1 w' → Below w.heap.size w w') := fun w' hb => hb1.trans (hb.mono (by omega))
  have h0 : RdAt (w1.alloc (.cells #[.slice p l.length cap, .int .i64 0, .bool false, .slice none 0 0, .slice none 0 0, .slice none 0 0, .nilFunc] 47)) w1.heap.size (.slice p l.length cap) 0 false (.slice none 0 0) (.slice none 0 0) (.slice none 0 0) .nilFunc := heap_alloc_new w1 _
  have H0 := Lib.hid (TkRel.r0 (l := l) h0 ((Below.refl _ _).alloc (Nat.le_refl _) _))
  have HW1 := Lib.hid hw1
  have HZ1 := Lib.hid hz1
  clear h0 hb1 ha1 hw1
  go_enter Try.func9, Try.ntmps9
  go_wp2
  rw [← HW1.out]
  rw [← hz1]
  clear hz1
  go_loopw [14] (fun i wr => TkRel w1 (.slice p l.length cap) l i wr) (fun i _ => 7 - (intOf i).toNat)
  case atStart => exact H0.out
  case round =>
    clear H0 HW1
    rcases step_any HSV.out hrel with ⟨k, hk, rfl, f, hst⟩ | ⟨rfl, hend⟩
    · have hent := hst.enter
      have hidx := hst.index
      have HC := Lib.hid hst.call
      have hki : (k : Int) < 4 := by omega
      clear hst hrel hk
      go_wp2_with fail
      refine HC.out.mono ?_
      clear hent hidx
      rintro e w2 (⟨rfl, hr⟩ | ⟨rfl, hn, hb⟩)
      · have HR := Lib.hid hr
        clear hr HC
        go_wp2
        go_roundw
        case rel => exact HR.out
        case measure => simp [intOf]; omega
      · have HN := Lib.hid hn
        have hA := HANS.out _ hb
        have a0 := cells_of hA 0; have a1 := cells_of hA 1; have a2 := cells_of hA 2; have a3 := cells_of hA 3
        have q0 := free_of hA 0; have q1 := free_of hA 1; have q2 := free_of hA 2; have q3 := free_of hA 3
        have HX := Lib.hid (ans_set hA (.bool false) (.slice none 0 0) (.slice none 0 0) (.slice none 0 0))
        have HBX := Lib.hid (ans_below (HBW.out _ hb) (Nat.le_refl _) (.bool false) (.slice none 0 0) (.slice none 0 0) (.slice none 0 0))
        clear hA hb hn HC HANS HBW HSV
        go_wp2
        exact bodyPost_ret (took_ret rfl rfl HX.out rfl) rfl ⟨.inl ⟨HN.out, rfl⟩, HBX.out⟩
    · clear hrel
      cases hend with
      | r4 hS hy =>
        rename_i n i'
        have HY := Lib.hid hy
        obtain ⟨pi, ci, pk, ck, pd, cd, fv, hr, hn, hb, hstay⟩ := hS.open_
        have hA := HANS.out _ hb
        have a0 := cells_of hA 0; have a1 := cells_of hA 1; have a2 := cells_of hA 2; have a3 := cells_of hA 3
        have q0 := free_of hA 0; have q1 := free_of hA 1; have q2 := free_of hA 2; have q3 := free_of hA 3
        have c2 := cells_of hr 2
        have c3 := cells_of hr 3
        have c4 := cells_of hr 4
        have c5 := cells_of hr 5
        simp only [List.getElem?_toArray, List.getElem?_cons_zero, List.getElem?_cons_succ] at c2 c3 c4 c5
        have HX := Lib.hid (ans_set hA (.bool n.leaf) (.slice pi n.its.length ci) (.slice pk n.ks.length ck) (.slice pd n.kids.length cd))
        have HBX := Lib.hid (ans_below (HBW.out _ hb) (Nat.le_refl _) (.bool n.leaf) (.slice pi n.its.length ci) (.slice pk n.ks.length ck) (.slice pd n.kids.length cd))
        have HIX := Lib.hid (hstay _ (fun k hk _ => ans_other (A := w.heap.size) (by have := HZ1.out; omega) (.bool n.leaf) (.slice pi n.its.length ci) (.slice pk n.ks.length ck) (.slice pd n.kids.length cd)))
        have HFIN : Hid (∀ z w', z = .returned (.tuple #[.agg #[.bool n.leaf, .slice pi n.its.length ci, .slice pk n.ks.length ck, .slice pd n.kids.length cd], .int .i64 0]) → IsNd w' (.agg #[.bool n.leaf, .slice pi n.its.length ci, .slice pk n.ks.length ck, .slice pd n.kids.length cd]) n pi ci pk ck pd cd → Below w.heap.size w w' → Tells w l z w') := fun z w' h1 h2 h3 => ⟨.inr ⟨n, pi, ci, pk, ck, pd, cd, HY.out, h1, h2⟩, h3⟩
        clear hS hy hr hn hb hstay hA HANS HBW HSV
        generalize n.its.length = l1 at *
        generalize n.ks.length = l2 at *
        generalize n.kids.length = l3 at *
        generalize n.leaf = lf at *
        go_wp2
        exact bodyPost_ret (took_ret rfl rfl HX.out rfl) rfl (HFIN.out _ _ rfl HIX.out HBX.out)
end Go.Proofs.Ytbjjaabmdjbodaa

