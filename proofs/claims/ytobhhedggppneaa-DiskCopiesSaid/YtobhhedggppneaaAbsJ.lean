/- The small interpreter: code, calls of functions; and the theorem that what it answers of a call holds of every run of it. -/
import Derived.Test.YtobhhedggppneaaAbsI
namespace Go.Abs
open Go.RowKit (Below)

/-- How a piece of code is left. -/
inductive AX where
  | normal
  | ret
  | exit (id : Nat)

def AX.fits : AX → Exit → Prop
  | .normal, .normal => True
  | .ret, .ret => True
  | .exit i, .exit j => i = j
  | _, _ => False

def CPost (σ : List (Nat × Nat)) (W0 : World) (l : List (AX × St)) : Exit → Act → World → Prop :=
  fun e a w => ∃ p ∈ l, p.1.fits e ∧ ∃ σ', σ <+: σ' ∧ Sim σ' p.2.h W0 w ∧ RepT σ' p.2 a

theorem CPost.weaken {σ σ' : List (Nat × Nat)} {W0 : World} {l l' : List (AX × St)} (h1 : σ <+: σ') (h2 : ∀ p ∈ l, p ∈ l') {e : Exit} {a : Act} {w : World} (h : CPost σ' W0 l e a w) : CPost σ W0 l' e a w :=
  let ⟨p, hp, hf, σ2, q1, q2⟩ := h; ⟨p, h2 p hp, hf, σ2, h1.trans q1, q2⟩

def goOn (k : St → Option (List (AX × St))) (p : AX × St) : Option (List (AX × St)) :=
  match p.1 with
  | .normal => k p.2
  | x => some [(x, p.2)]

def loopN (k : St → Option (List (AX × St))) : Nat → St → Option (List (AX × St))
  | 0, _ => none
  | n + 1, s => (k s).bind (allOf (goOn (loopN k n)))

def outOf (id : Nat) (p : AX × St) : AX × St :=
  match p.1 with
  | .exit j => cond (Nat.beq j id) (.normal, p.2) p
  | _ => p

def normals (l : List St) : List (AX × St) := l.map fun s => (.normal, s)

def runCode (P : Program) (cf : CallF) (L : Nat) : Code → St → Option (List (AX × St))
  | .skip, s => some [(.normal, s)]
  | .label _, s => some [(.normal, s)]
  | .ret, s => some [(.ret, s)]
  | .exit id, s => some [(.exit id, s)]
  | .seq x y, s => (runCode P cf L x s).bind (allOf (goOn (runCode P cf L y)))
  | .cond c x y, s => match ev s c with
    | .bool b => match b with
      | true => runCode P cf L x s
      | false => runCode P cf L y s
    | .anyBool => (runCode P cf L x s).bind fun l => (runCode P cf L y s).bind fun m => some (l ++ m)
    | _ => none
  | .block id c, s => (runCode P cf L c s).bind fun l => some (l.map (outOf id))
  | .loop c, s => loopN (runCode P cf L c) L s
  | .region _ ops draw, s => match draw with
    | false => (seqRun P cf ops ops.toList s).bind fun l => some (normals l)
    | true => need (Region.noSelect ops) ((anyRun P cf ops ops.size (Array.replicate ops.size false) s).bind fun l => some (normals l))
  | _, _ => none

theorem goOn_spec {P : Program} {W0 : World} {k : St → Option (List (AX × St))} {c : Code} {l l' : List (AX × St)} (h : allOf (goOn k) l = some l')
    (hk : ∀ s r, k s = some r → ∀ (σ : List (Nat × Nat)) (a : Act) (w : World), Sim σ s.h W0 w → RepT σ s a → c.wp P (CPost σ W0 r) a w) {σ : List (Nat × Nat)} {e : Exit} {a : Act} {w : World} (hp : CPost σ W0 l e a w) :
    Exit.then (c.wp P (CPost σ W0 l')) (CPost σ W0 l') e a w := by
  obtain ⟨p, hp, hf, σ', q1, q2, q3⟩ := hp
  obtain ⟨b, h1, h2⟩ := allOf_mem h p hp
  obtain ⟨x, s⟩ := p
  cases x with
  | normal =>
    cases e <;> simp only [AX.fits] at hf
    simp only [goOn] at h1
    exact wp_mono (hk s b h1 σ' a w q2 q3) fun e a w hq => CPost.weaken q1 h2 hq
  | ret =>
    cases e <;> simp only [AX.fits] at hf
    simp only [goOn] at h1
    cases h1
    exact ⟨(.ret, s), h2 _ (List.mem_singleton.2 rfl), trivial, σ', q1, q2, q3⟩
  | exit id =>
    cases e <;> simp only [AX.fits] at hf
    subst hf
    simp only [goOn] at h1
    cases h1
    exact ⟨(.exit id, s), h2 _ (List.mem_singleton.2 rfl), rfl, σ', q1, q2, q3⟩

theorem rounds_mono {P : Program} {c : Code} {Q Q' : Exit → Act → World → Prop} (hq : ∀ e a w, Q e a w → Q' e a w) : ∀ (n : Nat) (a : Act) (w : World), Code.rounds P c Q n a w → Code.rounds P c Q' n a w
  | 0, _, _, h => h
  | n + 1, a, w, h => by
    rw [rounds_succ] at h ⊢
    refine wp_mono h ?_
    intro e a w he
    cases e <;> first | exact rounds_mono hq n _ _ he | exact hq _ _ _ he

theorem loopN_sound {P : Program} {W0 : World} {k : St → Option (List (AX × St))} {c : Code}
    (hk : ∀ s r, k s = some r → ∀ (σ : List (Nat × Nat)) (a : Act) (w : World), Sim σ s.h W0 w → RepT σ s a → c.wp P (CPost σ W0 r) a w) : ∀ (n : Nat) (s : St) (r : List (AX × St)), loopN k n s = some r →
    ∀ (σ : List (Nat × Nat)) (a : Act) (w : World), Sim σ s.h W0 w → RepT σ s a → Code.rounds P c (CPost σ W0 r) n a w
  | 0, _, _, h, _, _, _, _, _ => by cases h
  | n + 1, s, r, h, σ, a, w, hs, hr => by
    simp only [loopN] at h
    obtain ⟨l, h1, h2⟩ := Option.bind_eq_some_iff.1 h
    rw [rounds_succ]
    refine wp_mono (hk s l h1 σ a w hs hr) ?_
    rintro e a' w' ⟨p, hp, hf, σ', q1, q2, q3⟩
    obtain ⟨b, h3, h4⟩ := allOf_mem h2 p hp
    obtain ⟨x, s'⟩ := p
    cases x with
    | normal =>
      cases e <;> simp only [AX.fits] at hf
      simp only [goOn] at h3
      exact rounds_mono (fun e a w hq => CPost.weaken q1 h4 hq) _ _ _ (loopN_sound hk n s' b h3 σ' a' w' q2 q3)
    | ret =>
      cases e <;> simp only [AX.fits] at hf
      simp only [goOn] at h3
      cases h3
      exact ⟨(.ret, s'), h4 _ (List.mem_singleton.2 rfl), trivial, σ', q1, q2, q3⟩
    | exit id =>
      cases e <;> simp only [AX.fits] at hf
      subst hf
      simp only [goOn] at h3
      cases h3
      exact ⟨(.exit id, s'), h4 _ (List.mem_singleton.2 rfl), rfl, σ', q1, q2, q3⟩

theorem normals_post {σ : List (Nat × Nat)} {W0 : World} {l : List St} {e : Exit} {a : Act} {w : World} (h : RPost σ W0 l e a w) : CPost σ W0 (normals l) e a w := by
  obtain ⟨rfl, s, hs, σ', q⟩ := h
  exact ⟨(.normal, s), List.mem_map.2 ⟨s, hs, rfl⟩, trivial, σ', q⟩

theorem runCode_sound {P : Program} (hm : P.follows .mixedOrders = true) {cf : CallF} (hcf : CallOK P cf) {L : Nat} {W0 : World} : ∀ (c : Code) (s : St) (r : List (AX × St)), runCode P cf L c s = some r →
    ∀ (σ : List (Nat × Nat)) (a : Act) (w : World), Sim σ s.h W0 w → RepT σ s a → c.wp P (CPost σ W0 r) a w
  | .skip, s, r, h, σ, a, w, hs, hr => by
    simp only [runCode] at h; cases h
    exact wp_skip ⟨_, List.mem_singleton.2 rfl, trivial, σ, List.prefix_refl _, hs, hr⟩
  | .label _, s, r, h, σ, a, w, hs, hr => by
    simp only [runCode] at h; cases h
    exact wp_label ⟨_, List.mem_singleton.2 rfl, trivial, σ, List.prefix_refl _, hs, hr⟩
  | .ret, s, r, h, σ, a, w, hs, hr => by
    simp only [runCode] at h; cases h
    exact wp_ret ⟨_, List.mem_singleton.2 rfl, trivial, σ, List.prefix_refl _, hs, hr⟩
  | .exit id, s, r, h, σ, a, w, hs, hr => by
    simp only [runCode] at h; cases h
    exact wp_exit ⟨_, List.mem_singleton.2 rfl, rfl, σ, List.prefix_refl _, hs, hr⟩
  | .seq x y, s, r, h, σ, a, w, hs, hr => by
    simp only [runCode] at h
    obtain ⟨l, h1, h2⟩ := Option.bind_eq_some_iff.1 h
    refine wp_seq (wp_mono (runCode_sound hm hcf x s l h1 σ a w hs hr) ?_)
    intro e a' w' hp
    exact goOn_spec h2 (fun s r h => runCode_sound hm hcf y s r h) hp
  | .cond c x y, s, r, h, σ, a, w, hs, hr => by
    simp only [runCode] at h
    have hc := ev_rep hr c
    split at h
    · rename_i b heq
      rw [heq] at hc; simp only [Rep] at hc
      cases b
      · exact wp_cond_false hc (runCode_sound hm hcf y s r h σ a w hs hr)
      · exact wp_cond_true hc (runCode_sound hm hcf x s r h σ a w hs hr)
    · rename_i heq
      rw [heq] at hc; simp only [Rep] at hc
      obtain ⟨b, hc⟩ := hc
      obtain ⟨l, h1, h2⟩ := Option.bind_eq_some_iff.1 h
      obtain ⟨m, h3, h4⟩ := Option.bind_eq_some_iff.1 h2
      cases h4
      cases b
      · exact wp_cond_false hc (wp_mono (runCode_sound hm hcf y s m h3 σ a w hs hr) fun e a w hq => CPost.weaken (List.prefix_refl _) (fun p hp => List.mem_append_right _ hp) hq)
      · exact wp_cond_true hc (wp_mono (runCode_sound hm hcf x s l h1 σ a w hs hr) fun e a w hq => CPost.weaken (List.prefix_refl _) (fun p hp => List.mem_append_left _ hp) hq)
    · cases h
  | .block id c, s, r, h, σ, a, w, hs, hr => by
    simp only [runCode] at h
    obtain ⟨l, h1, h2⟩ := Option.bind_eq_some_iff.1 h
    cases h2
    refine wp_block (wp_mono (runCode_sound hm hcf c s l h1 σ a w hs hr) ?_)
    rintro e a' w' ⟨⟨x, s'⟩, hp, hf, σ', q⟩
    have hmem : outOf id (x, s') ∈ l.map (outOf id) := List.mem_map_of_mem hp
    cases x with
    | normal => cases e <;> simp only [AX.fits] at hf; exact ⟨_, hmem, trivial, σ', q⟩
    | ret => cases e <;> simp only [AX.fits] at hf; exact ⟨_, hmem, trivial, σ', q⟩
    | exit j =>
      cases e <;> simp only [AX.fits] at hf
      subst hf
      simp only [Exit.inBlock]
      simp only [outOf] at hmem
      cases hb : Nat.beq j id with
      | true =>
        rw [hb, cond_true] at hmem
        rw [if_pos (Nat.eq_of_beq_eq_true hb)]
        exact ⟨_, hmem, trivial, σ', q⟩
      | false =>
        rw [hb, cond_false] at hmem
        rw [if_neg (Nat.ne_of_beq_eq_false hb)]
        exact ⟨_, hmem, rfl, σ', q⟩
  | .loop c, s, r, h, σ, a, w, hs, hr => by
    simp only [runCode] at h
    exact wp_loop_rounds L (loopN_sound (fun s r h => runCode_sound hm hcf c s r h) L s r h σ a w hs hr)
  | .region id ops draw, s, r, h, σ, a, w, hs, hr => by
    simp only [runCode] at h
    cases draw with
    | false =>
      simp only at h
      obtain ⟨l, h1, h2⟩ := Option.bind_eq_some_iff.1 h
      cases h2
      refine wp_mono (wp_region ?_) fun e a w hq => normals_post hq
      have := seqRun_sound hcf (W0 := W0) ops.toList 0 s l (by intro j; simp) h1 σ a w hs hr
      rw [List.range_eq_range']
      simpa using this
    | true =>
      simp only at h
      obtain ⟨hsel, h0⟩ := need_some h
      obtain ⟨l, h1, h2⟩ := Option.bind_eq_some_iff.1 h0
      cases h2
      exact wp_mono (wp_region_any hm (anyRun_sound hcf hsel ops.size _ s l h1 σ a _ (hs.drew _) hr)) fun e a w hq => normals_post hq
  | .rangeFunc .., _, _, h, _, _, _, _, _ => by simp only [runCode] at h; cases h
  | .scope _, _, _, h, _, _, _, _, _ => by simp only [runCode] at h; cases h
  | .goto _, _, _, h, _, _, _, _, _ => by simp only [runCode] at h; cases h
  | .refuse _, _, _, h, _, _, _, _, _ => by simp only [runCode] at h; cases h

/-- The registers as a call begins. -/
def laid : List AV → Nat → Tr AV → Tr AV
  | [], _, t => t
  | x :: rest, i, t => laid rest (i + 1) (t.set 10 i (some x))

theorem laid_get : ∀ (l : List AV) (i : Nat) (t : Tr AV) (j : Nat), i + l.length ≤ 1024 → j < 1024 → (laid l i t).get 10 j = if i ≤ j ∧ j < i + l.length then l[j - i]? else t.get 10 j
  | [], i, t, j, _, _ => by simp only [laid, List.length_nil]; rw [if_neg (by omega)]
  | x :: rest, i, t, j, h, hj => by
    simp only [List.length_cons] at h
    simp only [laid, List.length_cons]
    rw [laid_get rest (i + 1) _ j (by omega) hj, Tr.get_set, Nat.mod_eq_of_lt (show i < 2 ^ 10 by omega), Nat.mod_eq_of_lt (show j < 2 ^ 10 from hj)]
    by_cases h1 : i = j
    · subst h1
      rw [if_neg (by omega), if_pos rfl, if_pos (by omega)]
      simp
    · rw [if_neg h1]
      by_cases h2 : i + 1 ≤ j ∧ j < i + 1 + rest.length
      · rw [if_pos h2, if_pos (by omega)]
        obtain ⟨k, hk⟩ : ∃ k, j - i = k + 1 := ⟨j - i - 1, by omega⟩
        rw [hk, List.getElem?_cons_succ]
        congr 1; omega
      · rw [if_neg h2, if_neg (by omega)]

def startSt (args : List AV) (n : Nat) (h : Heap) : Option St := need (Nat.ble args.length 1024) (some ⟨laid args 0 .nil, args.length + (n - args.length), h⟩)

theorem start_rep {σ : List (Nat × Nat)} {args : List AV} {vals : Array Value} {n : Nat} {h : Heap} {s : St} (hs : startSt args n h = some s) (hr : RepL σ args vals.toList) :
    RepT σ s { tmps := vals ++ Array.replicate (n - vals.size) undef, defers := [] } ∧ s.h = h := by
  obtain ⟨h1, h2⟩ := need_some hs
  cases h2
  rw [Nat.ble_eq] at h1
  have hlen := hr.length
  simp only [Array.length_toList] at hlen
  refine ⟨⟨rfl, by simp [hlen], ?_⟩, rfl⟩
  intro t
  simp only [St.get]
  by_cases ht : 1024 ≤ t
  · rw [ble_true ht]; simp [Rep]
  · rw [ble_false ht, cond_false, laid_get args 0 .nil t (by omega) (by omega)]
    by_cases h3 : t < args.length
    · rw [if_pos (by omega)]
      simp only [Nat.sub_zero]
      rw [List.getElem?_eq_getElem h3]
      simp only [Option.getD_some]
      obtain ⟨v, g1, g2⟩ := hr.get t _ (List.getElem?_eq_getElem h3)
      have g1' : vals[t]? = some v := by simpa using g1
      have : (vals ++ Array.replicate (n - vals.size) undef).getD t undef = v := by
        rw [Array.getD_eq_getD_getElem?, Array.getElem?_append_left (by omega), g1']; rfl
      rw [this]; exact g2
    · rw [if_neg (by omega), Tr.get_nil]
      simp [Rep]

def oneRes (P : Program) (s : St) : ResultVar → Option AV
  | .tmp t => some (s.get t)
  | .cell a t => match s.get a with
    | .ptr b o => aLoad P t (.ptr b o) s.h
    | _ => none

def aResults (P : Program) (rs : List ResultVar) (s : St) : Option AV :=
  (rs.mapM (oneRes P s)).bind fun l => match l with
    | [x] => some x
    | l => some (.tuple l)

def runRes (a : Act) : ResultVar → Sem Value
  | .tmp t => pure (a.tmps.getD t undef)
  | .cell b t => do loadVar t (← asAddr (a.tmps.getD b undef))

theorem results_eq (fn : Func) (a : Act) : results fn a.tmps = (do let vs ← fn.results.mapM (runRes a); pure (if h : vs.size = 1 then vs[0] else .tuple vs)) := by
  unfold results
  congr 2

theorem results_list {P : Program} {σ : List (Nat × Nat)} {W0 w : World} {s : St} {a : Act} (hs : Sim σ s.h W0 w) (hr : RepT σ s a) : ∀ (rs : List ResultVar) (l : List AV), rs.mapM (oneRes P s) = some l →
    ∃ vs : List Value, (rs.mapM (runRes a)).run P w = .ok vs w ∧ RepL σ l vs
  | [], l, h => by
    simp only [List.mapM_nil, Option.pure_def, Option.some.injEq] at h
    subst h
    exact ⟨[], rfl, by simp [RepL]⟩
  | r :: rs, l, h => by
    simp only [List.mapM_cons, Option.bind_eq_bind, Option.pure_def] at h
    obtain ⟨x, hx, h1⟩ := Option.bind_eq_some_iff.1 h
    obtain ⟨l', hl, h2⟩ := Option.bind_eq_some_iff.1 h1
    cases h2
    obtain ⟨vs, g1, g2⟩ := results_list hs hr rs l' hl
    cases r with
    | tmp t =>
      simp only [oneRes, Option.some.injEq] at hx
      subst hx
      exact ⟨a.tmps.getD t undef :: vs, by simp only [List.mapM_cons, Sem.run_bind, runRes, Sem.run_pure, Result.andThen_ok, g1], by simp only [RepL]; exact ⟨_, _, rfl, hr.reg t, g2⟩⟩
    | cell b t =>
      simp only [oneRes] at hx
      have hb := hr.reg b
      split at hx
      · rename_i bl o heq
        rw [heq] at hb
        obtain ⟨u, h3, h4⟩ := sound_load (P := P) hx hs hb
        refine ⟨u :: vs, ?_, by simp only [RepL]; exact ⟨_, _, rfl, h4, g2⟩⟩
        simp only [Rep] at hb
        obtain ⟨a', n', hσ, hv⟩ := hb
        have h5 : (loadVar t ⟨a', o, none⟩).run P w = .ok u w := by
          rw [hv] at h3
          simpa [Instr.loadAt, Instr.sureAddr] using h3
        simp only [List.mapM_cons, Sem.run_bind, runRes, hv, asAddr, Sem.run_pure, Result.andThen_ok, h5, g1]
      · cases hx

theorem results_sound {P : Program} {σ : List (Nat × Nat)} {W0 w : World} {s : St} {a : Act} {fn : Func} {x : AV} (h : aResults P fn.results.toList s = some x) (hs : Sim σ s.h W0 w) (hr : RepT σ s a) :
    ∃ v, (results fn a.tmps).run P w = .ok v w ∧ Rep σ x v := by
  unfold aResults at h
  obtain ⟨l, hl, h1⟩ := Option.bind_eq_some_iff.1 h
  obtain ⟨vs, g1, g2⟩ := results_list (P := P) hs hr _ _ hl
  have hrun : (results fn a.tmps).run P w = .ok (if h : vs.toArray.size = 1 then vs.toArray[0] else .tuple vs.toArray) w := by
    rw [results_eq, Array.mapM_eq_mapM_toList]
    simp only [Sem.run_bind, Sem.run_map, g1, Result.andThen_ok, Sem.run_pure]
  refine ⟨_, hrun, ?_⟩
  have hlen := g2.length
  split at h1
  · cases h1
    obtain ⟨u, rfl, hu⟩ := repL_one g2
    simpa using hu
  · rename_i hne
    cases h1
    have : ¬ vs.toArray.size = 1 := by
      intro h1
      simp only [List.size_toArray] at h1
      rw [← hlen] at h1
      obtain ⟨y, hy⟩ := List.length_eq_one_iff.1 h1
      exact hne y hy
    rw [dif_neg this]
    simp only [Rep]
    exact ⟨_, rfl, g2⟩

def finish (P : Program) (fn : Func) (p : AX × St) : Option (List (AV × Heap)) :=
  match p.1 with
  | .exit _ => none
  | _ => (aResults P fn.results.toList p.2).bind fun x => some [(x, p.2.h)]

def beqOut (x y : AV × Heap) : Bool := AV.beq x.1 y.1 && Nat.beq x.2.next y.2.next && Tr.beq AO.beq x.2.objs y.2.objs
theorem beqOut_eq {x y : AV × Heap} (h : beqOut x y = true) : x = y := by
  obtain ⟨a, ⟨o, n⟩⟩ := x
  obtain ⟨b, ⟨q, m⟩⟩ := y
  simp only [beqOut, Bool.and_eq_true] at h
  obtain ⟨⟨h1, h2⟩, h3⟩ := h
  rw [AV.beq_eq _ _ h1, Nat.eq_of_beq_eq_true h2, Tr.beq_eq (fun _ _ => AO.beq_eq) _ _ h3]

/-- Each outcome but once. -/
def onceO : List (AV × Heap) → List (AV × Heap)
  | [] => []
  | s :: rest => let r := onceO rest; cond (r.any (beqOut s)) r (s :: r)
theorem mem_onceO {s : AV × Heap} : ∀ {l : List (AV × Heap)}, s ∈ l → s ∈ onceO l
  | [], h => h
  | t :: rest, h => by
    simp only [onceO]
    cases hc : (onceO rest).any (beqOut t) with
    | true =>
      simp only [cond_true]
      rcases List.mem_cons.1 h with rfl | h
      · obtain ⟨u, hu, he⟩ := List.any_eq_true.1 hc
        rw [beqOut_eq he]; exact hu
      · exact mem_onceO h
    | false =>
      simp only [cond_false]
      rcases List.mem_cons.1 h with rfl | h
      · exact List.mem_cons_self ..
      · exact List.mem_cons_of_mem _ (mem_onceO h)

def lookF (ft : Tr Func) (f : FuncId) : Option Func := cond (Nat.ble 4096 f) none (ft.get 12 f)

/-- A call of a Go function, so many calls deep at most; 'ext': what is known of the other ones. -/
def callN (P : Program) (ft : Tr Func) (ext : CallF) (L : Nat) : Nat → CallF
  | 0, _, _, _ => none
  | d + 1, f, args, h => match lookF ft f with
    | some fn => fn.body.bind fun c => (startSt args fn.ntmps h).bind fun s => (runCode P (callN P ft ext L d) L c s).bind fun r => (allOf (finish P fn) r).bind fun o => some (onceO o)
    | none => ext f args h

def TableOK (P : Program) (ft : Tr Func) : Prop := ∀ f fn, lookF ft f = some fn → P.funcs[f]? = some fn ∧ (fn.name == "runtime.NumGoroutine") = false

theorem callN_sound {P : Program} (hm : P.follows .mixedOrders = true) {ft : Tr Func} (hft : TableOK P ft) {ext : CallF} (hext : CallOK P ext) {L : Nat} : ∀ d, CallOK P (callN P ft ext L d)
  | 0 => by intro f avs h outs hh; cases hh
  | d + 1 => by
    intro f avs h outs hh σ W0 w vals hs hr
    simp only [callN] at hh
    split at hh
    · rename_i fn hfn
      obtain ⟨hf, hname⟩ := hft f fn hfn
      obtain ⟨c, hc, h1⟩ := Option.bind_eq_some_iff.1 hh
      obtain ⟨s, h2, h3⟩ := Option.bind_eq_some_iff.1 h1
      obtain ⟨l, h4, h50⟩ := Option.bind_eq_some_iff.1 h3
      obtain ⟨o, h5, h51⟩ := Option.bind_eq_some_iff.1 h50
      cases h51
      obtain ⟨hrep, hsh⟩ := start_rep h2 hr
      refine .inr ⟨?_, ?_⟩
      · have : fn.body.isNone = false := by rw [hc]; rfl
        simp only [callFunc, Sem.run_bind, run_program, Result.andThen_ok, hf]
        rw [if_neg (by rw [hname]; simp), if_neg (by rw [this]; simp)]
        rfl
      · refine calls_of_wp hf hc (wp_mono (runCode_sound hm (callN_sound hm hft hext d) c s l h4 σ _ w (by rw [hsh]; exact hs) hrep) ?_)
        rintro e a' w' ⟨⟨x, s'⟩, hp, hfit, σ', q1, q2, q3⟩
        obtain ⟨b, h6, h7⟩ := allOf_mem h5 _ hp
        have key : (aResults P fn.results.toList s').bind (fun x => some [(x, s'.h)]) = some b → a'.defers = [] ∧ ∃ v, (results fn a'.tmps).run P w' = .ok v w' ∧
            ∃ out ∈ onceO o, ∃ σ' v', Ending.returned v = .returned v' ∧ σ <+: σ' ∧ Sim σ' out.2 W0 w' ∧ Rep σ' out.1 v' := by
          intro h8
          obtain ⟨y, hy, h9⟩ := Option.bind_eq_some_iff.1 h8
          cases h9
          obtain ⟨v, r1, r2⟩ := results_sound hy q2 q3
          exact ⟨q3.defers, v, r1, _, mem_onceO (h7 _ (List.mem_singleton.2 rfl)), σ', v, rfl, q1, q2, r2⟩
        cases x with
        | normal => cases e <;> simp only [AX.fits] at hfit; exact key h6
        | ret => cases e <;> simp only [AX.fits] at hfit; exact key h6
        | exit id => cases h6
    · exact hext f avs h outs hh σ W0 w vals hs hr

/-- What is known of a whole call: every run returns one of the outcomes, and what was there before is as it was. -/
theorem calls_of_run {P : Program} (hm : P.follows .mixedOrders = true) {ft : Tr Func} (hft : TableOK P ft) {ext : CallF} (hext : CallOK P ext) {L d : Nat} {f : FuncId} {fn : Func} (hfn : lookF ft f = some fn) {args : List AV} {outs : List (AV × Heap)}
    (h : callN P ft ext L (d + 1) f args .empty = some outs) {vals : Array Value} (hr : RepL [] args vals.toList) (w : World) :
    Calls P f vals w fun e w' => ∃ out ∈ outs, ∃ σ' v, e = .returned v ∧ Rep σ' out.1 v ∧ Below w.heap.size w w' := by
  rcases callN_sound hm hft hext (d + 1) f args .empty outs h [] w w vals (Sim.start w) hr with ⟨out, ho, σ', v, w', h1, _⟩ | ⟨_, h2⟩
  · obtain ⟨hf, hname⟩ := hft f fn hfn
    simp only [callN, hfn] at h
    obtain ⟨c, hc, _⟩ := Option.bind_eq_some_iff.1 h
    have : fn.body.isNone = false := by rw [hc]; rfl
    simp only [callFunc, Sem.run_bind, run_program, Result.andThen_ok, hf] at h1
    rw [if_neg (by rw [hname]; simp), if_neg (by rw [this]; simp)] at h1
    cases h1
  · exact h2.mono fun e w' ⟨out, ho, σ', v, h3, h4, h5, h6⟩ => ⟨out, ho, σ', v, h3, h6, h5.below⟩

/-- The functions of a program, from a list. -/
def tableOf : List (Nat × Func) → Tr Func
  | [] => .nil
  | (i, fn) :: rest => (tableOf rest).set 12 i (some fn)

def plainName (fn : Func) : Prop := (fn.name == "runtime.NumGoroutine") = false

/-- Each function of the list is the program's. -/
inductive Listed (P : Program) : List (Nat × Func) → Prop
  | nil : Listed P []
  | cons {i : Nat} {fn : Func} {rest : List (Nat × Func)} (hi : i < 4096) (hf : P.funcs[i]? = some fn) (hn : plainName fn) (hr : Listed P rest) : Listed P ((i, fn) :: rest)

theorem tableOf_ok {P : Program} {l : List (Nat × Func)} (hl : Listed P l) : TableOK P (tableOf l) := by
  induction hl with
  | nil => intro f fn h; unfold lookF at h; simp only [tableOf, Tr.get_nil] at h; cases hb : Nat.ble 4096 f <;> rw [hb] at h <;> cases h
  | @cons i g rest hi hf hn hr ih =>
    intro f fn h
    have h' := h
    unfold lookF at h
    by_cases hf4 : 4096 ≤ f
    · rw [ble_true hf4] at h; cases h
    · rw [ble_false hf4, cond_false] at h
      simp only [tableOf, Tr.get_set] at h
      rw [Nat.mod_eq_of_lt (show i < 2 ^ 12 from hi), Nat.mod_eq_of_lt (show f < 2 ^ 12 from Nat.lt_of_not_le hf4)] at h
      by_cases h1 : i = f
      · subst h1
        rw [if_pos rfl] at h; cases h
        exact ⟨hf, hn⟩
      · rw [if_neg h1] at h
        exact ih f fn (by unfold lookF; rw [ble_false hf4]; exact h)
end Go.Abs
