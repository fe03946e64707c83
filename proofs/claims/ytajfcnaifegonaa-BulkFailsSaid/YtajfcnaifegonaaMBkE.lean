/- Regions that draw their order and end in one operation that waits for all others: the others by themselves. Over whatever program. -/
import Derived.Test.YtajfcnaifegonaaMRefN
import Derived.StillTail
import Derived.Deep.RegionHeld3
namespace Go.By
open Go Go.RowKit
section
variable {P : Program} {md : Region.Mode} {ops : Array Oper} {Q : Exit → Act → World → Prop}
def popQ (P : Program) (ops : Array Oper) (n : Nat) (Q : Exit → Act → World → Prop) : Exit → Act → World → Prop
  | .normal, a, w => wpOp P ops Q n (Q .normal) a w
  | .exit i, a, w => Q (.exit i) a w
  | .goto l, a, w => Q (.goto l) a w
  | .ret, a, w => Q .ret a w
  | .panic c, a, w => Q (.panic c) a w
  | .outgrown, a, w => Q .outgrown a w
def popB (md : Region.Mode) (ops : Array Oper) : Bool := (List.range ops.size).all fun i => match ops[i]? with
  | none => true
  | some o => o.after.all (fun e => !Region.binds md e || decide (e.on < i)) && (match o.guard with | none => true | some (j, _) => decide (j < i))
theorem popB_at (h : popB md ops = true) {i : Nat} {o : Oper} (ho : ops[i]? = some o) : (∀ e ∈ o.after, Region.binds md e = true → e.on < i) ∧ ∀ j want, o.guard = some (j, want) → j < i := by
  have hi : i < ops.size := (Array.getElem?_eq_some_iff.1 ho).1
  have h1 := List.all_eq_true.1 h i (List.mem_range.2 hi)
  simp only [ho, Bool.and_eq_true] at h1
  refine ⟨fun e he hb => ?_, fun j want hg => ?_⟩
  · have := (Array.all_eq_true_iff_forall_mem.1 h1.1) e he
    simpa [hb] using this
  · rw [hg] at h1
    simpa using h1.2
theorem upon_pop {o : Oper} {a : Act} {K : Act → World → Prop} {n : Nat} {r : Result Next} (h : o.upon P a K (popQ P ops n Q) r) : o.upon P a K Q r := by
  cases r with
  | ok x w' =>
    cases x <;> simp only [Oper.upon] at h ⊢ <;>
      first
        | exact h
        | exact Calls.mono h (fun e w'' he => by cases e <;> first | exact he | (obtain ⟨a, w, hq⟩ := he; exact ⟨a, w, hq⟩))
  | halt x w' => cases x <;> simp only [Oper.upon] at h ⊢ <;> exact h
theorem wpOp_pop {head : Array Oper} {n i : Nat} {a : Act} {w : World} {K : Act → World → Prop} (hh : ∀ i, i < n → head[i]? = ops[i]?) (hi : i < n) (hp : popB md ops = true) (h : wpOp P head (popQ P ops n Q) i K a w) : wpOp P ops Q i K a w := by
  unfold wpOp at h ⊢
  rw [hh i hi] at h
  cases ho : ops[i]? with
  | none => rw [ho] at h; exact h
  | some o =>
    rw [ho] at h
    dsimp only at h ⊢
    have hy : Region.wanted o (yielded head a.tmps) = Region.wanted o (yielded ops a.tmps) := by
      unfold Region.wanted
      cases hg : o.guard with
      | none => rfl
      | some x =>
        obtain ⟨j, want⟩ := x
        have hj := (popB_at hp ho).2 j want hg
        dsimp only
        unfold yielded
        rw [hh j (by omega)]
    rw [hy] at h
    split
    · rename_i hw
      rw [if_pos hw] at h
      rcases h with h | ⟨h1, a', w', h2⟩
      · exact .inl (upon_pop h)
      · exact .inr ⟨h1, a', w', h2⟩
    · rename_i hw
      rw [if_neg hw] at h
      exact h
theorem ready_head {head : Array Oper} {n : Nat} {listed lh : Array Bool} (hh : ∀ i, i < n → head[i]? = ops[i]?) (_hs : head.size = n) (hp : popB md ops = true) (hl : ∀ i, i < n → lh.getD i true = listed.getD i true ∧ lh.getD i false = listed.getD i false) {i : Nat} (hi : i < n) : i ∈ Region.ready md head lh ↔ i ∈ Region.ready md ops listed := by
  rw [mem_ready, mem_ready, hh i hi, (hl i hi).1]
  constructor
  · rintro ⟨h1, o, ho, h2⟩
    refine ⟨h1, o, ho, fun e he hb => ?_⟩
    have := (popB_at hp ho).1 e he hb
    rw [← (hl e.on (by omega)).2]
    exact h2 e he hb
  · rintro ⟨h1, o, ho, h2⟩
    refine ⟨h1, o, ho, fun e he hb => ?_⟩
    have := (popB_at hp ho).1 e he hb
    rw [(hl e.on (by omega)).2]
    exact h2 e he hb
theorem last_step {head : Array Oper} {n fuel : Nat} {listed lh : Array Bool} {a : Act} {w : World} (hsz : ops.size = n + 1) (hhs : head.size = n) (hh : ∀ i, i < n → head[i]? = ops[i]?) (hp : popB md ops = true) (inv : HeadInv md ops n listed) (hls : lh.size = n)
    (hl : ∀ i, i < n → lh.getD i true = listed.getD i true ∧ lh.getD i false = listed.getD i false) (hr : Region.ready md head lh = []) (hq : popQ P ops n Q .normal a w) : wpAny P md ops Q (fuel + 1) listed a w := by
  have hls2 : listed.size = n + 1 := by rw [inv.size, hsz]
  have hall : ∀ i, i < n → listed.getD i false = true := by
    intro i
    induction i using Nat.strongRecOn with
    | _ i ih =>
      intro hi
      cases hq : listed.getD i false with
      | true => rfl
      | false =>
        exfalso
        have ho : ops[i]? = some (ops[i]'(by omega)) := Array.getElem?_eq_getElem (by omega)
        have hm : i ∈ Region.ready md ops listed := mem_ready.2 ⟨by
          have hi' : i < listed.size := by omega
          simpa [Array.getD, hi'] using hq, _, ho, fun e he hb => ih e.on ((popB_at hp ho).1 e he hb) (by have := (popB_at hp ho).1 e he hb; omega)⟩
        have := (ready_head hh hhs hp hl hi).2 hm
        rw [hr] at this
        cases this
  have hon : ops[n]? = some (ops[n]'(by omega)) := Array.getElem?_eq_getElem (by omega)
  have hnr : n ∈ Region.ready md ops listed := mem_ready.2 ⟨inv.tail n (Nat.le_refl _) (by omega), _, hon, fun e he hb => hall e.on ((popB_at hp hon).1 e he hb)⟩
  have hdone : ∀ i, listed.getD i false = true → listed.getD i true = true := fun i hi => by
    rw [Array.getD_eq_getD_getElem?] at hi ⊢
    cases hq : listed[i]? with
    | none => rfl
    | some b => rw [hq] at hi; exact hi
  refine ⟨fun he => (by rw [he] at hnr; cases hnr), fun i hi => ?_⟩
  have hin : i = n := by
    obtain ⟨hu, o, ho, _⟩ := mem_ready.1 hi
    have hlt := (Array.getElem?_eq_some_iff.1 ho).1
    by_cases hlt2 : i < n
    · rw [hdone i (hall i hlt2)] at hu; cases hu
    · omega
  subst hin
  refine wpOp_mono (fun a' w' h' => ?_) hq
  have hnone : Region.ready md ops (listed.setIfInBounds i true) = [] := by
    cases hq : Region.ready md ops (listed.setIfInBounds i true) with
    | nil => rfl
    | cons x r =>
      exfalso
      have hx : x ∈ Region.ready md ops (listed.setIfInBounds i true) := by rw [hq]; exact List.mem_cons_self
      obtain ⟨hu, o, ho, _⟩ := mem_ready.1 hx
      have hlt := (Array.getElem?_eq_some_iff.1 ho).1
      by_cases hxi : x = i
      · subst hxi
        rw [Array.getD_eq_getD_getElem?, Array.getElem?_setIfInBounds_self_of_lt (by omega)] at hu
        cases hu
      · rw [Array.getD_eq_getD_getElem?, Array.getElem?_setIfInBounds_ne (Ne.symm hxi), ← Array.getD_eq_getD_getElem?, hdone x (hall x (by omega))] at hu
        cases hu
  cases fuel with
  | zero => exact ⟨hnone, h'⟩
  | succ f => exact ⟨fun _ => h', fun j hj => by rw [hnone] at hj; cases hj⟩
end
end Go.By
/- Regions that draw their order and end in operations that wait for all others: those cut off, then the others with a condition that holds throughout them. Over whatever program. -/
namespace Go.By
open Go
section
variable {P : Program} {ops : Array Oper} {Q : Exit → Act → World → Prop}
theorem wpAnyH_takeAt {S : World → Prop} {md : Region.Mode} (i : Nat) (t : Tmp) (v : Value) {oi : Oper} {fuel : Nat} {listed : Array Bool} {a : Act} {w : World} (hi : ops[i]? = some oi) (hd : oi.dst = some t)
    (hs : Region.noSelect ops = true) (hf : Region.free md ops listed i = true) (hr : (Region.ready md ops listed).contains i = true)
    (hQ : ∀ c a w, Q (.panic c) (a.put (some t) v) w → Q (.panic c) a w) (hy : YieldsIf P ops S oi v a) (hS : S w)
    (h : wpAnyH P md ops Q S fuel (listed.setIfInBounds i true) (a.put (some t) v) w) : wpAnyH P md ops Q S (fuel + 1) listed a w :=
  wpAnyH_take hi hs hf hr (by rw [hd]; exact hQ) hy hS (by rw [hd]; exact h)
theorem wpOp_as {i : Nat} {o : Oper} {K : Act → World → Prop} {a : Act} {w : World} (hi : ops[i]? = some o) (hg : o.guard = none) (t : Tmp) (op : Op) (ty : TypeId) (hd : o.dst = some t) (ho : o.op = op) (hty : o.type = ty) (h : Oper.wp P ⟨some t, op, ty, "", #[], none⟩ a w K Q) : wpOp P ops Q i K a w := by
  unfold wpOp
  have hw : Region.wanted o (yielded ops a.tmps) = true := by simp [Region.wanted, hg]
  simp only [hi, hw, if_true]
  obtain ⟨d, op', ty', p, af, g⟩ := o
  dsimp only at hd ho hty
  subst hd ho hty
  exact .inl h
theorem wpOp_if {i : Nat} {o : Oper} {K : Act → World → Prop} {a : Act} {w : World} (hi : ops[i]? = some o) (hg : o.guard = none) (h : if Region.wanted o (yielded ops a.tmps) = true then Oper.wp P o a w K Q else False) : wpOp P ops Q i K a w := by
  unfold wpOp
  have hw : Region.wanted o (yielded ops a.tmps) = true := by simp [Region.wanted, hg]
  rw [if_pos hw] at h
  simp only [hi, hw, if_true]
  exact .inl h
theorem popQ_as {n : Nat} {o : Oper} {a : Act} {w : World} (hi : ops[n]? = some o) (hg : o.guard = none) (t : Tmp) (op : Op) (ty : TypeId) (hd : o.dst = some t) (ho : o.op = op) (hty : o.type = ty) (h : Oper.wp P ⟨some t, op, ty, "", #[], none⟩ a w (Q .normal) Q) : popQ P ops n Q .normal a w :=
  wpOp_as hi hg t op ty hd ho hty h
theorem popQ_st {n : Nat} {o : Oper} {a : Act} {w : World} (hi : ops[n]? = some o) (hg : o.guard = none) (op : Op) (ty : TypeId) (hd : o.dst = none) (ho : o.op = op) (hty : o.type = ty) (h : Oper.wp P ⟨none, op, ty, "", #[], none⟩ a w (Q .normal) Q) : popQ P ops n Q .normal a w := by
  unfold popQ wpOp
  have hw : Region.wanted o (yielded ops a.tmps) = true := by simp [Region.wanted, hg]
  simp only [hi, hw, if_true]
  obtain ⟨d, op', ty', p, af, g⟩ := o
  dsimp only at hd ho hty
  subst hd ho hty
  exact .inl h
section
variable {md : Region.Mode} {S : World → Prop} {fuel : Nat} {listed : Array Bool} {a : Act} {w : World}
theorem wpAnyH_one (i : Nat) (hr : Region.ready md ops listed = [i]) (h : ∀ K : Act → World → Prop, (∀ a' w', S w' → (S w' → wpAnyH P md ops Q S fuel (listed.setIfInBounds i true) a' w') → K a' w') → wpOp P ops Q i K a w) : wpAnyH P md ops Q S (fuel + 1) listed a w :=
  wpAnyH_all hr (by simp) (fun j hj => by obtain rfl := List.mem_singleton.1 hj; exact h _ (fun a' w' hs h2 => ⟨hs, h2 hs⟩))
theorem wpAnyH_two (i j : Nat) (hr : Region.ready md ops listed = [i, j]) (h : ∀ K : Act → World → Prop, (∀ a' w', S w' → (S w' → wpAnyH P md ops Q S fuel (listed.setIfInBounds i true) a' w') → K a' w') → wpOp P ops Q i K a w)
    (h' : ∀ K : Act → World → Prop, (∀ a' w', S w' → (S w' → wpAnyH P md ops Q S fuel (listed.setIfInBounds j true) a' w') → K a' w') → wpOp P ops Q j K a w) : wpAnyH P md ops Q S (fuel + 1) listed a w :=
  wpAnyH_all hr (by simp) (fun k hk => by
    rcases List.mem_cons.1 hk with rfl | hk
    · exact h _ (fun a' w' hs h2 => ⟨hs, h2 hs⟩)
    · obtain rfl := List.mem_singleton.1 hk
      exact h' _ (fun a' w' hs h2 => ⟨hs, h2 hs⟩))
end
end
end Go.By
/- Regions that draw their order and end in an operation that waits for all others that have not come up yet: that one cut off. Over whatever program. -/
namespace Go.By
open Go Go.RowKit
section
variable {P : Program} {md : Region.Mode} {ops : Array Oper} {Q : Exit → Act → World → Prop}
def sinkL (md : Region.Mode) (ops : Array Oper) (n : Nat) (ex : List Nat) : Bool :=
  (List.range n).all fun i => ex.contains i || (List.range (n + 1)).any fun j => decide (i < j) && Region.waitsFor md ops j i
theorem tail_waitsL {ex : List Nat} {n : Nat} {listed : Array Bool} (hs : sinkL md ops n ex = true) (hc : Region.chainB md ops n = true) (hn : n < ops.size) (inv : HeadInv md ops n listed) (hex : ∀ i ∈ ex, listed.getD i true = true) :
    ∀ (d i : Nat), n - i = d → i < n → listed.getD i true = false → ∀ t, n ≤ t → t ∉ Region.ready md ops listed := by
  intro d
  induction d using Nat.strongRecOn with
  | _ d ih =>
    intro i hd hi hun t ht hr
    obtain ⟨_, ot, hot, hall⟩ := mem_ready.1 hr
    have htlt : t < ops.size := (Array.getElem?_eq_some_iff.1 hot).1
    by_cases htn : t = n
    · subst htn
      have h1 := List.all_eq_true.1 hs i (List.mem_range.2 hi)
      rcases Bool.or_eq_true _ _ ▸ h1 with h1 | h1
      · have := hex i (by simpa using h1)
        rw [hun] at this
        cases this
      obtain ⟨j, hj, hj2⟩ := List.any_eq_true.1 h1
      simp only [Bool.and_eq_true, decide_eq_true_eq] at hj2
      obtain ⟨oj, hoj, e, he, hb, hon⟩ := Region.waitsFor_spec hj2.2
      have hjle : j ≤ t := by have := List.mem_range.1 hj; omega
      by_cases hjt : j = t
      · subst hjt
        have : oj = ot := Option.some.inj (hoj.symm.trans hot)
        subst this
        have h2 := hall e he hb
        rw [hon, getD_both hun] at h2
        cases h2
      · cases hl : listed.getD j false with
        | true =>
          have h2 := inv.closed j oj hoj hl e he hb
          rw [hon, getD_both hun] at h2
          cases h2
        | false =>
          have hjs : j < listed.size := by rw [inv.size]; omega
          exact ih (t - j) (by omega) j rfl (by omega) (getD_in hjs hl) t (Nat.le_refl _) hr
    · have h1 := List.all_eq_true.1 hc t (List.mem_range.2 htlt)
      simp only [Bool.or_eq_true, decide_eq_true_eq] at h1
      rcases h1 with h1 | h1
      · omega
      · obtain ⟨o', ho', e, he, hb, hon⟩ := Region.waitsFor_spec h1
        have : o' = ot := Option.some.inj (ho'.symm.trans hot)
        subst this
        have h2 := hall e he hb
        rw [hon, getD_both (inv.tail (t - 1) (by omega) (by omega))] at h2
        cases h2
theorem wpAny_popL {ex : List Nat} {head : Array Oper} {n : Nat} (hsz : ops.size = n + 1) (hhs : head.size = n) (hh : ∀ i, i < n → head[i]? = ops[i]?) (hp : popB md ops = true) (hsk : sinkL md ops n ex = true) (hck : Region.chainB md ops n = true) :
    ∀ (fuel : Nat) (listed lh : Array Bool) (a : Act) (w : World), HeadInv md ops n listed → (∀ i ∈ ex, listed.getD i true = true) → lh.size = n → (∀ i, i < n → lh.getD i true = listed.getD i true ∧ lh.getD i false = listed.getD i false) →
      wpAny P md head (popQ P ops n Q) fuel lh a w → wpAny P md ops Q (fuel + 1) listed a w := by
  intro fuel
  induction fuel with
  | zero =>
    intro listed lh a w inv hex hls hl h
    exact last_step hsz hhs hh hp inv hls hl h.1 h.2
  | succ f ih =>
    intro listed lh a w inv hex hls hl h
    by_cases hr : Region.ready md head lh = []
    · exact last_step hsz hhs hh hp inv hls hl hr (h.1 hr)
    · obtain ⟨i0, hi0⟩ : ∃ i, i ∈ Region.ready md head lh := by
        cases hq : Region.ready md head lh with
        | nil => exact absurd hq hr
        | cons x r => exact ⟨x, List.mem_cons_self⟩
      have hi0n : i0 < n := by
        obtain ⟨_, o, ho, _⟩ := mem_ready.1 hi0
        have := (Array.getElem?_eq_some_iff.1 ho).1
        omega
      have hi0r := (ready_head hh hhs hp hl hi0n).1 hi0
      have hun := (mem_ready.1 hi0r).1
      refine ⟨fun he => (by rw [he] at hi0r; cases hi0r), fun i hi => ?_⟩
      have hin : i < n := by
        have hlt : i < ops.size := by
          obtain ⟨_, o, ho, _⟩ := mem_ready.1 hi
          exact (Array.getElem?_eq_some_iff.1 ho).1
        by_cases hie : i = n
        · subst hie
          exact absurd hi (tail_waitsL hsk hck (by omega) inv hex (i - i0) i0 rfl hi0n hun i (Nat.le_refl _))
        · omega
      have hih := (ready_head hh hhs hp hl hin).2 hi
      refine wpOp_mono (fun a' w' h' => ?_) (wpOp_pop hh hin hp (h.2 i hih))
      have hls2 : listed.size = n + 1 := by rw [inv.size, hsz]
      refine ih (listed.setIfInBounds i true) (lh.setIfInBounds i true) a' w' ⟨?_, ?_, ?_⟩ (fun x hx => ?_) (by simpa using hls) ?_ h'
      · simpa using inv.size
      · intro j oj hoj hj e he hb
        have hmono : ∀ q, listed.getD q false = true → (listed.setIfInBounds i true).getD q false = true := fun q hq => by
          by_cases hqi : q = i
          · subst hqi; simp [Array.getD, hls2, hin, Nat.lt_succ_of_lt]
          · rw [Array.getD_eq_getD_getElem?] at hq ⊢
            rw [Array.getElem?_setIfInBounds_ne (Ne.symm hqi)]
            exact hq
        by_cases hji : j = i
        · subst hji
          obtain ⟨_, o', ho', hall⟩ := mem_ready.1 hi
          rw [hoj] at ho'
          cases ho'
          exact hmono _ (hall e he hb)
        · refine hmono _ (inv.closed j oj hoj ?_ e he hb)
          rw [Array.getD_eq_getD_getElem?] at hj ⊢
          rw [Array.getElem?_setIfInBounds_ne (Ne.symm hji)] at hj
          exact hj
      · intro t ht htl
        have := inv.tail t ht htl
        rw [Array.getD_eq_getD_getElem?] at this ⊢
        rw [Array.getElem?_setIfInBounds_ne (by omega)]
        exact this
      · have := hex x hx
        rw [Array.getD_eq_getD_getElem?] at this ⊢
        by_cases hxi : x = i
        · subst hxi
          rw [Array.getElem?_setIfInBounds_self_of_lt (by omega)]
          rfl
        · rw [Array.getElem?_setIfInBounds_ne (Ne.symm hxi)]
          exact this
      · intro q hq
        obtain ⟨h1, h2⟩ := hl q hq
        rw [Array.getD_eq_getD_getElem?, Array.getD_eq_getD_getElem?] at h1 h2
        simp only [Array.getD_eq_getD_getElem?]
        by_cases hqi : q = i
        · subst hqi
          rw [Array.getElem?_setIfInBounds_self_of_lt (by omega), Array.getElem?_setIfInBounds_self_of_lt (by omega)]
          exact ⟨rfl, rfl⟩
        · rw [Array.getElem?_setIfInBounds_ne (Ne.symm hqi), Array.getElem?_setIfInBounds_ne (Ne.symm hqi)]
          exact ⟨h1, h2⟩
theorem wpAnyH_true : ∀ (fuel : Nat) (listed : Array Bool) (a : Act) (w : World), wpAny P md ops Q fuel listed a w → wpAnyH P md ops Q (fun _ => True) fuel listed a w
  | 0, _, _, _, h => h
  | fuel + 1, _, _, _, h => ⟨h.1, fun i hi => wpOp_mono (fun a' w' h' => ⟨trivial, wpAnyH_true fuel _ a' w' h'⟩) (h.2 i hi)⟩
def exB (md : Region.Mode) (ops : Array Oper) (n : Nat) (listed : Array Bool) (ex : List Nat) : Bool :=
  decide (listed.size = ops.size) && ((List.range ops.size).all (fun j => match ops[j]? with
    | none => true
    | some o => !listed.getD j false || o.after.all (fun e => !Region.binds md e || listed.getD e.on false)) && ((List.range ops.size).all (fun t => decide (t < n) || !listed.getD t true) && ex.all (fun i => listed.getD i true)))
theorem exB_inv {n : Nat} {listed : Array Bool} {ex : List Nat} (h : exB md ops n listed ex = true) : HeadInv md ops n listed ∧ ∀ i ∈ ex, listed.getD i true = true := by
  simp only [exB, Bool.and_eq_true, decide_eq_true_eq] at h
  obtain ⟨h1, h2, h3, h4⟩ := h
  refine ⟨⟨h1, fun j oj hoj hl e he hb => ?_, fun t ht htl => ?_⟩, fun i hi => List.all_eq_true.1 h4 i hi⟩
  · have hj : j < ops.size := (Array.getElem?_eq_some_iff.1 hoj).1
    have h5 := List.all_eq_true.1 h2 j (List.mem_range.2 hj)
    simp only [hoj, hl, Bool.not_true, Bool.false_or] at h5
    have := (Array.all_eq_true_iff_forall_mem.1 h5) e he
    simpa [hb] using this
  · have h5 := List.all_eq_true.1 h3 t (List.mem_range.2 htl)
    simp only [Bool.or_eq_true, decide_eq_true_eq, Bool.not_eq_true'] at h5
    rcases h5 with h5 | h5
    · omega
    · exact h5
theorem wpAnyH_cut {a : Act} {w : World} {S : World → Prop} {ex : List Nat} {head : Array Oper} {n fuel : Nat} {listed lh : Array Bool} (hpop : ops.pop = head) (hsz : ops.size = n + 1) (hl : lh = listed.pop) (hp : (popB md ops && (sinkL md ops n ex && (Region.chainB md ops n && exB md ops n listed ex))) = true)
    (h : wpAnyH P md head (popQ P ops n Q) S fuel lh a w) : wpAnyH P md ops Q (fun _ => True) (fuel + 1) listed a w := by
  simp only [Bool.and_eq_true] at hp
  obtain ⟨p1, p2, p3, p4⟩ := hp
  obtain ⟨inv, hex⟩ := exB_inv p4
  have hhs : head.size = n := by rw [← hpop, Array.size_pop, hsz]; rfl
  have hls : listed.size = n + 1 := by rw [inv.size, hsz]
  refine wpAnyH_true _ _ _ _ (wpAny_popL hsz hhs (fun i hi => ?_) p1 p2 p3 fuel listed lh a w inv hex ?_ (fun i hi => ?_) (wpAny_of_held _ _ _ _ h))
  · rw [← hpop, Array.getElem?_pop, if_pos (by omega)]
  · rw [hl, Array.size_pop, hls]; rfl
  · have e : lh[i]? = listed[i]? := by rw [hl, Array.getElem?_pop, if_pos (by omega)]
    rw [Array.getD_eq_getD_getElem?, Array.getD_eq_getD_getElem?, Array.getD_eq_getD_getElem?, Array.getD_eq_getD_getElem?, e]
    exact ⟨rfl, rfl⟩
theorem wp_region_heldD {id : Nat} {a : Act} {w : World} {S : World → Prop} (hm : P.follows .mixedOrders = true) (h : wpAnyH P .any ops Q S ops.size (Array.replicate ops.size false) a w.drew) : (Code.region id ops true).wp P Q a w := wp_region_held (S := S) hm h
end
end Go.By
