/- A loop that is cut at its head: each round is run by itself, and what a round made is forgotten. -/
import Derived.Test.YtlgajamiigpedaaAbsJ
namespace Go.Abs
open Go.RowKit (Below)

mutual
/-- Does the value speak of blocks below N alone? -/
def AV.within (N : Nat) : AV → Bool
  | .ptr b _ => Nat.ble (b + 1) N
  | .slice b _ _ _ _ => Nat.ble (b + 1) N
  | .map b => Nat.ble (b + 1) N
  | .func _ x y => AV.withinL N x && AV.withinL N y
  | .agg x => AV.withinL N x
  | .tuple x => AV.withinL N x
  | .iface _ x => AV.within N x
  | _ => true
def AV.withinL (N : Nat) : List AV → Bool
  | [] => true
  | x :: xs => AV.within N x && AV.withinL N xs
end

theorem take_get {σ : List (Nat × Nat)} {N b : Nat} {p : Nat × Nat} (h : σ[b]? = some p) (hb : b < N) : (σ.take N)[b]? = some p := by
  rw [List.getElem?_take, if_pos hb]; exact h

mutual
theorem Rep.cut {σ : List (Nat × Nat)} {N : Nat} : ∀ (x : AV) (v : Value), AV.within N x = true → Rep σ x v → Rep (σ.take N) x v
  | .ptr b _, v, hn, h => by simp only [AV.within, Nat.ble_eq] at hn; simp only [Rep] at h ⊢; obtain ⟨a, n, h1, h2⟩ := h; exact ⟨a, n, take_get h1 hn, h2⟩
  | .slice b _ _ _ _, v, hn, h => by simp only [AV.within, Nat.ble_eq] at hn; simp only [Rep] at h ⊢; obtain ⟨a, n, c, h1, h2⟩ := h; exact ⟨a, n, c, take_get h1 hn, h2⟩
  | .map b, v, hn, h => by simp only [AV.within, Nat.ble_eq] at hn; simp only [Rep] at h ⊢; obtain ⟨a, n, h1, h2⟩ := h; exact ⟨a, n, take_get h1 hn, h2⟩
  | .func _ x y, v, hn, h => by simp only [AV.within, Bool.and_eq_true] at hn; simp only [Rep] at h ⊢; obtain ⟨f, c, h1, h2, h3⟩ := h; exact ⟨f, c, h1, RepL.cut x _ hn.1 h2, RepL.cut y _ hn.2 h3⟩
  | .agg x, v, hn, h => by simp only [AV.within] at hn; simp only [Rep] at h ⊢; obtain ⟨l, h1, h2⟩ := h; exact ⟨l, h1, RepL.cut x _ hn h2⟩
  | .tuple x, v, hn, h => by simp only [AV.within] at hn; simp only [Rep] at h ⊢; obtain ⟨l, h1, h2⟩ := h; exact ⟨l, h1, RepL.cut x _ hn h2⟩
  | .iface _ x, v, hn, h => by simp only [AV.within] at hn; simp only [Rep] at h ⊢; obtain ⟨l, h1, h2⟩ := h; exact ⟨l, h1, Rep.cut x _ hn h2⟩
  | .top, _, _, _ => by simp only [Rep]
  | .bool _, _, _, h => by simp only [Rep] at h ⊢; exact h
  | .int _ _, _, _, h => by simp only [Rep] at h ⊢; exact h
  | .str _, _, _, h => by simp only [Rep] at h ⊢; exact h
  | .nilptr, _, _, h => by simp only [Rep] at h ⊢; exact h
  | .nilslice, _, _, h => by simp only [Rep] at h ⊢; exact h
  | .nilmap, _, _, h => by simp only [Rep] at h ⊢; exact h
  | .nilfunc, _, _, h => by simp only [Rep] at h ⊢; exact h
  | .niliface, _, _, h => by simp only [Rep] at h ⊢; exact h
  | .anyBool, _, _, h => by simp only [Rep] at h ⊢; exact h
  | .anyInt _, _, _, h => by simp only [Rep] at h ⊢; exact h
  | .anyStr, _, _, h => by simp only [Rep] at h ⊢; exact h
  | .cls _ _ _, _, _, h => by simp only [Rep] at h ⊢; exact h
theorem RepL.cut {σ : List (Nat × Nat)} {N : Nat} : ∀ (xs : List AV) (vs : List Value), AV.withinL N xs = true → RepL σ xs vs → RepL (σ.take N) xs vs
  | [], _, _, h => by simp only [RepL] at h ⊢; exact h
  | x :: xs, _, hn, h => by simp only [AV.withinL, Bool.and_eq_true] at hn; simp only [RepL] at h ⊢; obtain ⟨y, ys, h1, h2, h3⟩ := h; exact ⟨y, ys, h1, Rep.cut x _ hn.1 h2, RepL.cut xs _ hn.2 h3⟩
end

def withinE (N : Nat) : List (AV × AV × Nat) → Bool
  | [] => true
  | e :: es => e.1.within N && e.2.1.within N && withinE N es
theorem RepE.cut {σ : List (Nat × Nat)} {N : Nat} : ∀ (xs : List (AV × AV × Nat)) (vs : List MapEntry), withinE N xs = true → RepE σ xs vs → RepE (σ.take N) xs vs
  | [], _, _, h => h
  | x :: xs, _, hn, h => by
    simp only [withinE, Bool.and_eq_true] at hn
    obtain ⟨y, ys, h1, h2, h3, h4, h5⟩ := h
    exact ⟨y, ys, h1, Rep.cut _ _ hn.1.1 h2, Rep.cut _ _ hn.1.2 h3, h4, RepE.cut xs ys hn.2 h5⟩

def AO.within (N : Nat) : AO → Bool
  | .cells c _ _ _ => AV.withinL N c
  | .map es _ => withinE N es
  | .iter none _ _ _ => true
  | .iter (some b) _ _ _ => Nat.ble (b + 1) N

theorem withinL_get {N : Nat} : ∀ {l : List AV} {i : Nat} {x : AV}, AV.withinL N l = true → l[i]? = some x → x.within N = true
  | [], _, _, _, h => by cases h
  | y :: ys, 0, x, hn, h => by simp only [AV.withinL, Bool.and_eq_true] at hn; cases h; exact hn.1
  | y :: ys, i + 1, x, hn, h => by simp only [AV.withinL, Bool.and_eq_true] at hn; exact withinL_get hn.2 (by simpa using h)

theorem RepO.cut {σ : List (Nat × Nat)} {N n : Nat} {o : AO} {ob : Obj} (hn : o.within N = true) (h : RepO σ n o ob) : RepO (σ.take N) n o ob := by
  match o with
  | .cells c opn e sh =>
    obtain ⟨l, h1, h2, h3, h4⟩ := h
    exact ⟨l, h1, h2, fun i x hi => let ⟨v, g1, g2⟩ := h3 i x hi; ⟨v, g1, Rep.cut x v (withinL_get hn hi) g2⟩, h4⟩
  | .map es clock => obtain ⟨l, h1, h2⟩ := h; exact ⟨l, h1, RepE.cut es _ hn h2⟩
  | .iter none _ _ _ => exact h
  | .iter (some b) _ _ _ =>
    obtain ⟨a, m, h1, h2⟩ := h
    simp only [AO.within, Nat.ble_eq] at hn
    exact ⟨a, m, take_get h1 hn, h2⟩

def okReg (N : Nat) (x y : AV) : Bool := match x with
  | .top => true
  | x => AV.beq x y && x.within N
def okObj (N : Nat) (x y : Option AO) : Bool := match x with
  | none => true
  | some o => match y with
    | some q => AO.beq o q && o.within N
    | none => false

/-- All that T says s says, too, and T speaks of its own blocks alone. -/
def weaker (T s : St) : Bool :=
  Nat.ble T.h.next s.h.next && Nat.beq T.n s.n && ((List.range 1024).all fun t => okReg T.h.next (T.get t) (s.get t)) && ((List.range T.h.next).all fun b => okObj T.h.next (T.h.get b) (s.h.get b))

theorem weaker_sound {T s : St} (hdom : ∀ (b : Nat) (o : AO), T.h.get b = some o → b < T.h.next) (h : weaker T s = true) {σ : List (Nat × Nat)} {W0 w : World} {a : Act} (hs : Sim σ s.h W0 w) (hr : RepT σ s a) :
    Sim (σ.take T.h.next) T.h W0 w ∧ RepT (σ.take T.h.next) T a := by
  simp only [weaker, Bool.and_eq_true, Nat.ble_eq] at h
  obtain ⟨⟨⟨h1, h2⟩, h3⟩, h4⟩ := h
  have h2 := Nat.eq_of_beq_eq_true h2
  have hobj : ∀ (b : Nat) (o : AO), T.h.get b = some o → s.h.get b = some o ∧ o.within T.h.next = true := by
    intro b o ho
    have := List.all_eq_true.1 h4 b (List.mem_range.2 (hdom b o ho))
    rw [ho] at this
    simp only [okObj] at this
    split at this
    · rename_i q hq
      simp only [Bool.and_eq_true] at this
      exact ⟨by rw [AO.beq_eq this.1, hq], this.2⟩
    · cases this
  refine ⟨⟨hs.below, ?_, ?_, ?_, ?_⟩, hr.defers, by rw [hr.size, h2], ?_⟩
  · rw [List.length_take, hs.len]; omega
  · intro b a' n hb
    rw [List.getElem?_take] at hb
    split at hb
    · exact hs.here b a' n hb
    · cases hb
  · intro b b' a' n n' o o' g1 g2 g3 g4
    rw [List.getElem?_take] at g3 g4
    split at g3
    · split at g4
      · exact hs.inj b b' a' n n' o o' (hobj b o g1).1 (hobj b' o' g2).1 g3 g4
      · cases g4
    · cases g3
  · intro b o ho
    obtain ⟨g1, g2⟩ := hobj b o ho
    obtain ⟨a', n, ob, q1, q2, q3⟩ := hs.obj b o g1
    exact ⟨a', n, ob, take_get q1 (hdom b o ho), q2, RepO.cut g2 q3⟩
  · intro t
    by_cases ht : t < 1024
    · have := List.all_eq_true.1 h3 t (List.mem_range.2 ht)
      unfold okReg at this
      split at this
      · rename_i heq; rw [heq]; simp [Rep]
      · simp only [Bool.and_eq_true] at this
        rw [AV.beq_eq _ _ this.1]
        have hw := this.2
        rw [AV.beq_eq _ _ this.1] at hw
        exact Rep.cut _ _ hw (hr.reg t)
    · have : T.get t = .top := by unfold St.get; rw [ble_true (by omega)]; rfl
      rw [this]; simp [Rep]

theorem take_of_prefix {σ σ' : List (Nat × Nat)} {N : Nat} (h : σ <+: σ') (hN : σ.length = N) : σ'.take N = σ := by
  rw [List.prefix_iff_eq_take] at h
  rw [← hN]; exact h.symm

/-- A round from S comes to T. -/
def stepB (P : Program) (cf : CallF) (L : Nat) (c : Code) (S T : St) : Bool :=
  match runCode P cf L c S with
  | some outs => outs.all fun p => (match p.1 with | .normal => true | _ => false) && weaker T p.2
  | none => false
/-- A round from S leaves the loop, and what S says holds. -/
def lastB (P : Program) (cf : CallF) (L : Nat) (c : Code) (id : Nat) (S : St) : Bool :=
  match runCode P cf L c S with
  | some outs => outs.all fun p => (match p.1 with | .exit j => Nat.beq j id | _ => false) && weaker S p.2
  | none => false

def setReg (s : St) (t : Nat) (x : AV) : St := { s with tm := s.tm.set 10 t (some x) }

theorem loop_cut {P : Program} (hm : P.follows .mixedOrders = true) {cf : CallF} (hcf : CallOK P cf) {L : Nat} {W0 : World} {c : Code} {id K : Nat} {s5 : St} {S : Nat → St} (hS : ∀ i, (S i).h = s5.h)
    (hdom : ∀ (b : Nat) (o : AO), s5.h.get b = some o → b < s5.h.next) (hstep : ∀ i, i < K → stepB P cf L c (S i) (S (i + 1)) = true) (hlast : lastB P cf L c id (S K) = true) {σ : List (Nat × Nat)} (hσ : σ.length = s5.h.next) :
    ∀ (m i : Nat), i + m = K → ∀ (a : Act) (w : World), Sim σ s5.h W0 w → RepT σ (S i) a → Code.rounds P c (CPost σ W0 [(.exit id, S K)]) (m + 1) a w
  | 0, i, hi, a, w, hs, hr => by
    have : i = K := by omega
    subst this
    rw [rounds_succ]
    unfold lastB at hlast
    split at hlast
    · rename_i outs hrun
      refine wp_mono (runCode_sound hm hcf c (S i) outs hrun σ a w (by rw [hS]; exact hs) hr) ?_
      rintro e a' w' ⟨⟨x, s'⟩, hp, hf, σ', q1, q2, q3⟩
      have hall := List.all_eq_true.1 hlast _ hp
      simp only [Bool.and_eq_true] at hall
      obtain ⟨hx, hwk⟩ := hall
      cases x with
      | normal => cases hx
      | ret => cases hx
      | exit j =>
        have hj := Nat.eq_of_beq_eq_true hx
        subst hj
        cases e <;> simp only [AX.fits] at hf
        subst hf
        obtain ⟨r1, r2⟩ := weaker_sound (T := S i) (by rw [hS]; exact hdom) hwk q2 q3
        rw [hS, take_of_prefix q1 hσ] at r1
        rw [hS, take_of_prefix q1 hσ] at r2
        exact ⟨_, List.mem_singleton.2 rfl, rfl, σ, List.prefix_refl _, by rw [hS]; exact r1, r2⟩
    · cases hlast
  | m + 1, i, hi, a, w, hs, hr => by
    rw [rounds_succ]
    have hst := hstep i (by omega)
    unfold stepB at hst
    split at hst
    · rename_i outs hrun
      refine wp_mono (runCode_sound hm hcf c (S i) outs hrun σ a w (by rw [hS]; exact hs) hr) ?_
      rintro e a' w' ⟨⟨x, s'⟩, hp, hf, σ', q1, q2, q3⟩
      have hall := List.all_eq_true.1 hst _ hp
      simp only [Bool.and_eq_true] at hall
      obtain ⟨hx, hwk⟩ := hall
      cases x with
      | ret => cases hx
      | exit j => cases hx
      | normal =>
        cases e <;> simp only [AX.fits] at hf
        obtain ⟨r1, r2⟩ := weaker_sound (T := S (i + 1)) (by rw [hS]; exact hdom) hwk q2 q3
        rw [hS, take_of_prefix q1 hσ] at r1
        rw [hS, take_of_prefix q1 hσ] at r2
        exact loop_cut hm hcf hS hdom hstep hlast hσ m (i + 1) (by omega) a' w' r1 r2
    · cases hst

/-- A body whose loops are answered by 'lo'. -/
def runRoot (P : Program) (cf : CallF) (L : Nat) (lo : St → Option (List (AX × St))) : Code → St → Option (List (AX × St))
  | .seq x y, s => (runRoot P cf L lo x s).bind (allOf (goOn (runRoot P cf L lo y)))
  | .block id c, s => (runRoot P cf L lo c s).bind fun l => some (l.map (outOf id))
  | .loop _, s => lo s
  | c, s => runCode P cf L c s

def rootLoops : Code → List Code
  | .seq x y => rootLoops x ++ rootLoops y
  | .block _ c => rootLoops c
  | .loop c => [c]
  | _ => []

theorem block_post {P : Program} {σ : List (Nat × Nat)} {W0 : World} {id : Nat} {c : Code} {l : List (AX × St)} {a : Act} {w : World} (h : c.wp P (CPost σ W0 l) a w) : (Code.block id c).wp P (CPost σ W0 (l.map (outOf id))) a w := by
  refine wp_block (wp_mono h ?_)
  rintro e a' w' ⟨⟨x, s'⟩, hp, hf, σ', q⟩
  have hmem : outOf id (x, s') ∈ l.map (outOf id) := List.mem_map_of_mem hp
  cases x with
  | normal => cases e <;> simp only [AX.fits] at hf; exact ⟨_, hmem, trivial, σ', q⟩
  | ret => cases e <;> simp only [AX.fits] at hf; exact ⟨_, hmem, trivial, σ', q⟩
  | exit j =>
    cases e <;> simp only [AX.fits] at hf
    subst hf
    simp only [Exit.inBlock]
    simp only [outOf] at hmem
    cases hb : Nat.beq j id with
    | true =>
      rw [hb, cond_true] at hmem
      rw [if_pos (Nat.eq_of_beq_eq_true hb)]
      exact ⟨_, hmem, trivial, σ', q⟩
    | false =>
      rw [hb, cond_false] at hmem
      rw [if_neg (Nat.ne_of_beq_eq_false hb)]
      exact ⟨_, hmem, rfl, σ', q⟩

theorem runRoot_sound {P : Program} (hm : P.follows .mixedOrders = true) {cf : CallF} (hcf : CallOK P cf) {L : Nat} {W0 : World} {lo : St → Option (List (AX × St))} : ∀ (c : Code), (∀ d ∈ rootLoops c, ∀ s r, lo s = some r → ∀ (σ : List (Nat × Nat)) (a : Act) (w : World), Sim σ s.h W0 w → RepT σ s a → (Code.loop d).wp P (CPost σ W0 r) a w) →
    ∀ (s : St) (r : List (AX × St)), runRoot P cf L lo c s = some r → ∀ (σ : List (Nat × Nat)) (a : Act) (w : World), Sim σ s.h W0 w → RepT σ s a → c.wp P (CPost σ W0 r) a w
  | .seq x y, hlo, s, r, h, σ, a, w, hs, hr => by
    simp only [runRoot] at h
    obtain ⟨l, h1, h2⟩ := Option.bind_eq_some_iff.1 h
    refine wp_seq (wp_mono (runRoot_sound hm hcf x (fun d hd => hlo d (List.mem_append_left _ hd)) s l h1 σ a w hs hr) ?_)
    intro e a' w' hp
    exact goOn_spec h2 (fun s r h => runRoot_sound hm hcf y (fun d hd => hlo d (List.mem_append_right _ hd)) s r h) hp
  | .block id c, hlo, s, r, h, σ, a, w, hs, hr => by
    simp only [runRoot] at h
    obtain ⟨l, h1, h2⟩ := Option.bind_eq_some_iff.1 h
    cases h2
    exact block_post (runRoot_sound hm hcf c hlo s l h1 σ a w hs hr)
  | .loop c, hlo, s, r, h, σ, a, w, hs, hr => by
    simp only [runRoot] at h
    exact hlo c (List.mem_singleton.2 rfl) s r h σ a w hs hr
  | .skip, _, s, r, h, σ, a, w, hs, hr => runCode_sound hm hcf .skip s r h σ a w hs hr
  | .label l, _, s, r, h, σ, a, w, hs, hr => runCode_sound hm hcf (.label l) s r h σ a w hs hr
  | .ret, _, s, r, h, σ, a, w, hs, hr => runCode_sound hm hcf .ret s r h σ a w hs hr
  | .exit i, _, s, r, h, σ, a, w, hs, hr => runCode_sound hm hcf (.exit i) s r h σ a w hs hr
  | .cond c x y, _, s, r, h, σ, a, w, hs, hr => runCode_sound hm hcf (.cond c x y) s r h σ a w hs hr
  | .region i o d, _, s, r, h, σ, a, w, hs, hr => runCode_sound hm hcf (.region i o d) s r h σ a w hs hr
  | .rangeFunc f p x y, _, s, r, h, σ, a, w, hs, hr => runCode_sound hm hcf (.rangeFunc f p x y) s r h σ a w hs hr
  | .scope c, _, s, r, h, σ, a, w, hs, hr => runCode_sound hm hcf (.scope c) s r h σ a w hs hr
  | .goto l, _, s, r, h, σ, a, w, hs, hr => runCode_sound hm hcf (.goto l) s r h σ a w hs hr
  | .refuse y, _, s, r, h, σ, a, w, hs, hr => runCode_sound hm hcf (.refuse y) s r h σ a w hs hr

/-- The state at the loop's head, as a call without arguments comes to it. -/
def headOf (P : Program) (cf : CallF) (L : Nat) (fn : Func) (c : Code) : Option St :=
  (startSt [] fn.ntmps .empty).bind fun s0 => (runRoot P cf L (fun s => some [(.exit 999, s)]) c s0).bind fun l => match l with
    | [(.exit 999, s)] => some s
    | _ => none

def trueOut (p : AV × Heap) : Bool := match p.1 with
  | .bool true => true
  | _ => false

/-- With the loop answered so, the call ends in true. -/
def endB (P : Program) (cf : CallF) (L : Nat) (fn : Func) (c : Code) (s5 S : St) (id : Nat) : Bool :=
  match (startSt [] fn.ntmps .empty).bind fun s0 => (runRoot P cf L (fun s => need (St.beq s s5) (some [(.exit id, S)])) c s0).bind (allOf (finish P fn)) with
  | some o => o.all trueOut
  | none => false

theorem calls_cut {P : Program} (hm : P.follows .mixedOrders = true) {cf : CallF} (hcf : CallOK P cf) {L : Nat} {f : FuncId} {fn : Func} {c LB : Code} {id K : Nat} {s5 : St} {S : Nat → St} (hf : P.funcs[f]? = some fn) (hc : fn.body = some c)
    (hloops : rootLoops c = [LB]) (hS : ∀ i, (S i).h = s5.h) (h0 : weaker (S 0) s5 = true) (hstep : ∀ i, i < K → stepB P cf L LB (S i) (S (i + 1)) = true) (hlast : lastB P cf L LB id (S K) = true)
    (hend : endB P cf L fn c s5 (S K) id = true) (w : World) : Calls P f #[] w fun e w' => e = .returned (.bool true) ∧ Below w.heap.size w w' := by
  unfold endB at hend
  split at hend
  · rename_i o ho
    obtain ⟨s0, g1, g2⟩ := Option.bind_eq_some_iff.1 ho
    obtain ⟨r, g3, g4⟩ := Option.bind_eq_some_iff.1 g2
    obtain ⟨hrep, hsh⟩ := start_rep (σ := []) (vals := #[]) g1 (by simp [RepL])
    refine calls_of_wp hf hc (wp_mono (runRoot_sound hm hcf (W0 := w) c ?_ s0 r g3 [] _ w (by rw [hsh]; exact Sim.start w) hrep) ?_)
    · intro d hd s r' hlo σ a w' hs hr
      rw [hloops] at hd
      have hd' := List.mem_singleton.1 hd
      subst hd'
      obtain ⟨hb, hlo2⟩ := need_some hlo
      cases hlo2
      have hs5 := St.beq_eq hb
      subst hs5
      have hdom : ∀ (b : Nat) (o : AO), s.h.get b = some o → b < s.h.next := by
        intro b o ho'
        obtain ⟨a', n', ob, q1, _⟩ := hs.obj b o ho'
        rw [← hs.len]
        rcases Nat.lt_or_ge b σ.length with q | q
        · exact q
        · rw [List.getElem?_eq_none q] at q1; cases q1
      obtain ⟨r1, r2⟩ := weaker_sound (T := S 0) (by rw [hS]; exact hdom) h0 hs hr
      rw [hS, take_of_prefix (List.prefix_refl σ) hs.len] at r1
      rw [hS, take_of_prefix (List.prefix_refl σ) hs.len] at r2
      exact wp_loop_rounds (K + 1) (loop_cut hm hcf hS hdom hstep hlast hs.len K 0 (by omega) a w' r1 r2)
    · rintro e a' w' ⟨⟨x, s'⟩, hp, hfit, σ', q1, q2, q3⟩
      obtain ⟨b, h6, h7⟩ := allOf_mem g4 _ hp
      have key : (aResults P fn.results.toList s').bind (fun x => some [(x, s'.h)]) = some b → a'.defers = [] ∧ ∃ v, (results fn a'.tmps).run P w' = .ok v w' ∧ Ending.returned v = .returned (.bool true) ∧ Below w.heap.size w w' := by
        intro h8
        obtain ⟨y, hy, h9⟩ := Option.bind_eq_some_iff.1 h8
        cases h9
        obtain ⟨v, r1, r2⟩ := results_sound hy q2 q3
        have ht := List.all_eq_true.1 hend _ (h7 _ (List.mem_singleton.2 rfl))
        unfold trueOut at ht
        split at ht
        · rename_i heq
          simp only at heq
          rw [heq] at r2
          simp only [Rep] at r2
          exact ⟨q3.defers, v, r1, by rw [r2], q2.below⟩
        · cases ht
      cases x with
      | normal => cases e <;> simp only [AX.fits] at hfit; exact key h6
      | ret => cases e <;> simp only [AX.fits] at hfit; exact key h6
      | exit id => cases h6
  · cases hend
end Go.Abs
