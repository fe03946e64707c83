/- The small interpreter: calls, operations in any order that is allowed, code; and the proof that what it answers holds of every run. -/
import Derived.Test.YtobhhedggppneaaAbsH
namespace Go.Abs
open Go.RowKit (Below)

abbrev CallF := FuncId → List AV → Heap → Option (List (AV × Heap))

/-- The call ends in a value, at once or as a call of a Go function. -/
def Called (P : Program) (σ : List (Nat × Nat)) (W0 : World) (f : FuncId) (vals : Array Value) (w : World) (outs : List (AV × Heap)) : Prop :=
  (∃ out ∈ outs, ∃ σ' v w', (callFunc f vals).run P w = .ok (.value v) w' ∧ σ <+: σ' ∧ Sim σ' out.2 W0 w' ∧ Rep σ' out.1 v) ∨
  ((callFunc f vals).run P w = .ok (.enter f vals) w ∧ Calls P f vals w fun e w' => ∃ out ∈ outs, ∃ σ' v, e = .returned v ∧ σ <+: σ' ∧ Sim σ' out.2 W0 w' ∧ Rep σ' out.1 v)

def CallOK (P : Program) (cf : CallF) : Prop :=
  ∀ f avs h outs, cf f avs h = some outs → ∀ σ W0 w (vals : Array Value), Sim σ h W0 w → RepL σ avs vals.toList → Called P σ W0 f vals w outs

def aBuiltin (P : Program) (b : Builtin) (ts : List TypeId) (args : List AV) (h : Heap) : Option (List (AV × Heap)) :=
  match b, args with
  | .append, [s, x] => aAppend P ts s x h
  | .copy, [d, s] => aCopy P ts d s h
  | .len, [x] => (aLen P ts x h).bind fun y => some [(y, h)]
  | .cap, [x] => (aCap P ts x).bind fun y => some [(y, h)]
  | .delete, [x, k] => match ts with
    | t :: _ => aDelete P t x k h
    | _ => none
  | .max, x :: rest => (aMost true x rest).bind fun y => some [(y, h)]
  | .min, x :: rest => (aMost false x rest).bind fun y => some [(y, h)]
  | _, _ => none

def callRun (P : Program) (cf : CallF) (c : Call) (e : Operand → AV) (h : Heap) : Option (List (AV × Heap)) :=
  match c.callee with
  | .builtin b => aBuiltin P b c.argTypes.toList (c.args.toList.map e) h
  | .value f => match e f with
    | .func fid first captured => cf fid (first ++ c.args.toList.map e ++ captured) h
    | _ => none
  | .invoke _ _ => none

theorem delete_any {P : Program} {σ : List (Nat × Nat)} {W0 w : World} {H : Heap} {ts : Array TypeId} {t ty : TypeId} {rest : List TypeId} {x k : AV} {v u : Value} {outs : List (AV × Heap)} (hts : ts.toList = t :: rest)
    (h : aDelete P t x k H = some outs) (hs : Sim σ H W0 w) (hx : Rep σ x v) (hk : Rep σ k u) : ValOK P σ W0 (Builtin.delete_ ts ty #[v, u]) w outs := by
  have h1 := sound_delete (P := P) (t := t) (t2 := 0) (ty := ty) h hs hx hk
  have h0 : ts[0]? = some t := by rw [← Array.getElem?_toList, hts]; rfl
  have e : Builtin.delete_ ts ty #[v, u] = Builtin.delete_ #[t, 0] ty #[v, u] := by
    simp [Builtin.delete_, h0]
  rw [e]; exact h1

theorem repL_two {σ : List (Nat × Nat)} {x y : AV} {l : List Value} (h : RepL σ [x, y] l) : ∃ u v, l = [u, v] ∧ Rep σ x u ∧ Rep σ y v := by
  simp only [RepL] at h
  obtain ⟨u, _, rfl, h1, v, _, rfl, h2, rfl⟩ := h
  exact ⟨u, v, rfl, h1, h2⟩

theorem repL_one {σ : List (Nat × Nat)} {x : AV} {l : List Value} (h : RepL σ [x] l) : ∃ u, l = [u] ∧ Rep σ x u := by
  simp only [RepL] at h
  obtain ⟨u, _, rfl, h1, rfl⟩ := h
  exact ⟨u, rfl, h1⟩

theorem sound_builtin {P : Program} {σ : List (Nat × Nat)} {W0 w : World} {H : Heap} {b : Builtin} {ts : Array TypeId} {ty : TypeId} {cs : Array Bool} {args : List AV} {vals : Array Value} {outs : List (AV × Heap)}
    (h : aBuiltin P b ts.toList args H = some outs) (hs : Sim σ H W0 w) (hr : RepL σ args vals.toList) : OpOK P σ W0 (builtin b ts ty cs vals) w outs := by
  unfold aBuiltin at h
  split at h
  · obtain ⟨u, v, hl, h1, h2⟩ := repL_two hr
    obtain rfl : vals = #[u, v] := Array.toList_inj.1 hl
    exact .of_val (sound_append h hs h1 h2)
  · obtain ⟨u, v, hl, h1, h2⟩ := repL_two hr
    obtain rfl : vals = #[u, v] := Array.toList_inj.1 hl
    exact .of_val (sound_copy h hs h1 h2)
  · obtain ⟨u, hl, h1⟩ := repL_one hr
    obtain rfl : vals = #[u] := Array.toList_inj.1 hl
    exact .of_one h hs fun y hy => sound_len hy hs h1
  · obtain ⟨u, hl, h1⟩ := repL_one hr
    obtain rfl : vals = #[u] := Array.toList_inj.1 hl
    exact .of_one h hs fun y hy => sound_cap hy h1
  · obtain ⟨u, v, hl, h1, h2⟩ := repL_two hr
    obtain rfl : vals = #[u, v] := Array.toList_inj.1 hl
    split at h
    · rename_i t rest hts
      exact .of_val (delete_any hts h hs h1 h2)
    · cases h
  · simp only [RepL] at hr
    obtain ⟨u, us, hl, h1, h2⟩ := hr
    refine .of_one h hs fun y hy => ?_
    obtain ⟨r, g1, g2⟩ := sound_most (P := P) (w := w) true _ _ y u us hy h1 h2
    exact ⟨r, by simp only [Builtin.max_, hl]; exact g1, g2⟩
  · simp only [RepL] at hr
    obtain ⟨u, us, hl, h1, h2⟩ := hr
    refine .of_one h hs fun y hy => ?_
    obtain ⟨r, g1, g2⟩ := sound_most (P := P) (w := w) false _ _ y u us hy h1 h2
    exact ⟨r, by simp only [Builtin.min_, hl]; exact g1, g2⟩
  · cases h

/-- Behind an operation that runs. -/
theorem upon_of_opOK {P : Program} {σ : List (Nat × Nat)} {W0 w : World} {o : Oper} {a : Act} {outs : List (AV × Heap)} {next : Act → World → Prop} {Q : Exit → Act → World → Prop}
    (h : OpOK P σ W0 (execOp a.eval o) w outs) (hn : ∀ out ∈ outs, ∀ σ' v w', σ <+: σ' → Sim σ' out.2 W0 w' → Rep σ' out.1 v → next (a.put o.dst v) w') : o.wp P a w next Q := by
  obtain ⟨out, ho, σ', v, w', hr, h1, h2, h3⟩ := h
  unfold Oper.wp
  rcases hr with hr | ⟨hr, rfl⟩
  · rw [hr]; exact hn out ho σ' v w' h1 h2 h3
  · rw [hr]; exact hn out ho σ' undef w' h1 h2 h3

theorem run_args {ρ : Operand → Value} (c : Call) : (c.args.map ρ).toList = c.args.toList.map ρ := by simp

theorem sound_call {P : Program} {cf : CallF} (hcf : CallOK P cf) {σ : List (Nat × Nat)} {W0 w : World} {H : Heap} {o : Oper} {c : Call} {a : Act} {e : Operand → AV} {outs : List (AV × Heap)} {next : Act → World → Prop} {Q : Exit → Act → World → Prop}
    (ho : o.op = .call c) (h : callRun P cf c e H = some outs) (hs : Sim σ H W0 w) (he : ∀ x, Rep σ (e x) (a.eval x))
    (hn : ∀ out ∈ outs, ∀ σ' v w', σ <+: σ' → Sim σ' out.2 W0 w' → Rep σ' out.1 v → next (a.put o.dst v) w') : o.wp P a w next Q := by
  unfold callRun at h
  split at h
  · rename_i b hb
    refine upon_of_opOK (outs := outs) ?_ hn
    have := sound_builtin (P := P) (ty := o.type) (cs := c.args.map fun | .const _ => true | _ => false) (vals := c.args.map a.eval) h hs (by rw [run_args]; exact RepL.map he _)
    obtain ⟨out, q1, σ', v, w', q2, q3⟩ := this
    refine ⟨out, q1, σ', v, w', ?_, q3⟩
    unfold execOp
    rw [ho]
    simp only [resolve, hb, Sem.run_bind, Sem.run_pure, Result.andThen_ok, invoke]
    exact q2
  · rename_i f hf
    have hef := he f
    split at h
    · rename_i fid first captured heq
      rw [heq] at hef
      simp only [Rep] at hef
      obtain ⟨fs, cs, hv, hr1, hr2⟩ := hef
      have hargs : RepL σ (first ++ c.args.toList.map e ++ captured) ((fs ++ c.args.map a.eval) ++ cs).toList := by
        simp only [Array.toList_append, run_args]
        exact (hr1.append (RepL.map he _)).append hr2
      have hex : (execOp a.eval o).run P w = (callFunc fid ((fs ++ c.args.map a.eval) ++ cs)).run P w := by
        unfold execOp
        rw [ho]
        simp only [resolve, hf, hv, Deferred.ofValue, Sem.run_bind, Sem.run_pure, Result.andThen_ok, invoke]
      unfold Oper.wp
      rw [hex]
      rcases hcf fid _ H outs h σ W0 w _ hs hargs with ⟨out, q1, σ', v, w', q2, q3, q4, q5⟩ | ⟨q1, q2⟩
      · rw [q2]; exact hn out q1 σ' v w' q3 q4 q5
      · rw [q1]
        refine q2.mono ?_
        rintro _ w' ⟨out, r1, σ', v, rfl, r2, r3, r4⟩
        exact hn out r1 σ' v w' r2 r3 r4
    · cases h
  · cases h

def exec (P : Program) (cf : CallF) (o : Oper) (s : St) : Option (List (AV × Heap)) :=
  match o.op with
  | .call c => callRun P cf c (ev s) s.h
  | op => aop P (ev s) s.h op

theorem exec_sound {P : Program} {cf : CallF} (hcf : CallOK P cf) {σ : List (Nat × Nat)} {W0 w : World} {s : St} {o : Oper} {a : Act} {outs : List (AV × Heap)} {next : Act → World → Prop} {Q : Exit → Act → World → Prop}
    (h : exec P cf o s = some outs) (hs : Sim σ s.h W0 w) (hr : RepT σ s a)
    (hn : ∀ out ∈ outs, ∀ σ' v w', σ <+: σ' → Sim σ' out.2 W0 w' → Rep σ' out.1 v → next (a.put o.dst v) w') : o.wp P a w next Q := by
  unfold exec at h
  split at h
  · rename_i c hc
    exact sound_call hcf hc h hs (ev_rep hr) hn
  · exact upon_of_opOK (aop_sound h hs (ev_rep hr)) hn

/-- Each outcome is put into its register. -/
def putAll (s : St) (d : Option Tmp) : List (AV × Heap) → Option (List St)
  | [] => some []
  | (v, h) :: rest => (({ s with h := h } : St).put d v).bind fun s' => (putAll s d rest).bind fun l => some (s' :: l)

theorem putAll_mem {s : St} {d : Option Tmp} : ∀ {outs : List (AV × Heap)} {l : List St}, putAll s d outs = some l → ∀ out ∈ outs, ∃ s' ∈ l, ({ s with h := out.2 } : St).put d out.1 = some s'
  | [], _, _, out, ho => by cases ho
  | (v, h) :: rest, l, hp, out, ho => by
    simp only [putAll] at hp
    obtain ⟨s', h1, h2⟩ := Option.bind_eq_some_iff.1 hp
    obtain ⟨l', h3, h4⟩ := Option.bind_eq_some_iff.1 h2
    cases h4
    rcases List.mem_cons.1 ho with rfl | ho
    · exact ⟨s', List.mem_cons_self .., h1⟩
    · obtain ⟨s2, h5, h6⟩ := putAll_mem h3 out ho
      exact ⟨s2, List.mem_cons_of_mem _ h5, h6⟩

def doRun (P : Program) (cf : CallF) (o : Oper) (s : St) : Option (List St) := (exec P cf o s).bind (putAll s o.dst)

/-- One operation, under its guard. -/
def opRun (P : Program) (cf : CallF) (ops : Array Oper) (o : Oper) (s : St) : Option (List St) :=
  match o.guard with
  | none => doRun P cf o s
  | some (j, want) => ((ops[j]?).bind (·.dst)).bind fun d => match s.get d with
    | .bool b => cond (b == want) (doRun P cf o s) ((s.put o.dst .top).bind fun s' => some [s'])
    | .anyBool => (s.put (some d) (.bool want)).bind fun s1 => (s.put (some d) (.bool (!want))).bind fun s2 =>
        (doRun P cf o s1).bind fun l => (s2.put o.dst .top).bind fun s' => some (s' :: l)
    | _ => none

/-- What holds behind a step of a region. -/
def After (σ : List (Nat × Nat)) (W0 : World) (l : List St) (K : Act → World → Prop) : Prop :=
  ∀ s' ∈ l, ∀ σ' a' w', σ <+: σ' → Sim σ' s'.h W0 w' → RepT σ' s' a' → K a' w'

theorem doRun_sound {P : Program} {cf : CallF} (hcf : CallOK P cf) {σ : List (Nat × Nat)} {W0 w : World} {s : St} {o : Oper} {a : Act} {l : List St} {K : Act → World → Prop} {Q : Exit → Act → World → Prop}
    (h : doRun P cf o s = some l) (hs : Sim σ s.h W0 w) (hr : RepT σ s a) (hK : After σ W0 l K) : o.wp P a w K Q := by
  unfold doRun at h
  obtain ⟨outs, h1, h2⟩ := Option.bind_eq_some_iff.1 h
  refine exec_sound hcf h1 hs hr ?_
  intro out ho σ' v w' g1 g2 g3
  obtain ⟨s', h3, h4⟩ := putAll_mem h2 out ho
  have hr' : RepT σ' { s with h := out.2 } a := let q := hr.mono g1; ⟨q.defers, q.size, q.reg⟩
  obtain ⟨q1, q2⟩ := St.put_spec h4 hr' g3
  exact hK s' h3 σ' _ w' g1 (by rw [q2]; exact g2) q1

theorem put_same {a : Act} {d : Tmp} {v : Value} (h : a.tmps[d]? = some v) : a.put (some d) v = a := by
  obtain ⟨tmps, defers⟩ := a
  simp only [Act.put]
  congr 1
  apply Array.ext_getElem?
  intro k
  by_cases hk : d = k
  · subst hk
    simp only at h
    rw [Array.getElem?_setIfInBounds_self_of_lt (Array.getElem?_eq_some_iff.1 h).1, h]
  · rw [Array.getElem?_setIfInBounds_ne hk]

theorem opRun_sound {P : Program} {cf : CallF} (hcf : CallOK P cf) {ops : Array Oper} {σ : List (Nat × Nat)} {W0 w : World} {s : St} {o : Oper} {a : Act} {l : List St} {K : Act → World → Prop} {Q : Exit → Act → World → Prop}
    (h : opRun P cf ops o s = some l) (hs : Sim σ s.h W0 w) (hr : RepT σ s a) (hK : After σ W0 l K) :
    if Region.wanted o (yielded ops a.tmps) then o.wp P a w K Q ∨ (o.asks P a w ∧ LetsOut Q) else K (a.put o.dst undef) w := by
  unfold opRun at h
  split at h
  · rename_i hg
    rw [if_pos (by simp [Region.wanted, hg])]
    exact .inl (doRun_sound hcf h hs hr hK)
  · rename_i j want hg
    obtain ⟨d, hd, h1⟩ := Option.bind_eq_some_iff.1 h
    clear h
    have hreg := hr.reg d
    have hy : ∀ b, a.tmps.getD d undef = .bool b → yielded ops a.tmps j = some b ∧ a.tmps[d]? = some (.bool b) := by
      intro b hb
      have : a.tmps[d]? = some (.bool b) := by
        rw [Array.getD_eq_getD_getElem?] at hb
        cases hq : a.tmps[d]? with
        | none => rw [hq] at hb; simp [undef] at hb
        | some v => rw [hq] at hb; simp at hb; rw [hb]
      exact ⟨by simp [yielded, hd, this], this⟩
    split at h1
    · rename_i b heq
      rw [heq] at hreg; simp only [Rep] at hreg
      obtain ⟨hyb, _⟩ := hy b hreg
      cases hb : (b == want) with
      | true =>
        rw [hb, cond_true] at h1
        rw [if_pos (by simp [Region.wanted, hg, hyb, beq_iff_eq.1 hb])]
        exact .inl (doRun_sound hcf h1 hs hr hK)
      | false =>
        rw [hb, cond_false] at h1
        obtain ⟨s', h2, h3⟩ := Option.bind_eq_some_iff.1 h1
        cases h3
        have hne : b ≠ want := by intro hh; rw [hh] at hb; simp at hb
        rw [if_neg (by simp [Region.wanted, hg, hyb, hne])]
        obtain ⟨q1, q2⟩ := St.put_spec (x := undef) h2 hr (by simp [Rep])
        exact hK s' (List.mem_singleton.2 rfl) σ _ w (List.prefix_refl _) (by rw [q2]; exact hs) q1
    · rename_i heq
      rw [heq] at hreg; simp only [Rep] at hreg
      obtain ⟨b, hb⟩ := hreg
      obtain ⟨hyb, hgd⟩ := hy b hb
      obtain ⟨s1, h2, h3⟩ := Option.bind_eq_some_iff.1 h1
      obtain ⟨s2, h4, h5⟩ := Option.bind_eq_some_iff.1 h3
      obtain ⟨l1, h6, h7⟩ := Option.bind_eq_some_iff.1 h5
      obtain ⟨s', h8, h9⟩ := Option.bind_eq_some_iff.1 h7
      cases h9
      have hsame := put_same hgd
      by_cases hbw : b = want
      · subst hbw
        rw [if_pos (by simp [Region.wanted, hg, hyb])]
        obtain ⟨q1, q2⟩ := St.put_spec (x := .bool b) h2 hr (by simp [Rep])
        rw [hsame] at q1
        exact .inl (doRun_sound hcf h6 (by rw [q2]; exact hs) q1 (fun s3 h10 => hK s3 (List.mem_cons_of_mem _ h10)))
      · rw [if_neg (by simp [Region.wanted, hg, hyb, hbw])]
        have hbn : b = !want := by cases b <;> cases want <;> simp_all
        obtain ⟨q1, q2⟩ := St.put_spec (x := .bool b) h4 hr (by simp [Rep, hbn])
        rw [hsame] at q1
        obtain ⟨q3, q4⟩ := St.put_spec (x := undef) h8 q1 (by simp [Rep])
        exact hK s' (List.mem_cons_self ..) σ _ w (List.prefix_refl _) (by rw [q4, q2]; exact hs) q3
    · cases h1

/-- All of a list, one behind the other. -/
def allOf {α β : Type} (f : α → Option (List β)) : List α → Option (List β)
  | [] => some []
  | x :: rest => (f x).bind fun a => (allOf f rest).bind fun b => some (a ++ b)

theorem allOf_mem {α β : Type} {f : α → Option (List β)} : ∀ {l : List α} {r : List β}, allOf f l = some r → ∀ x ∈ l, ∃ a, f x = some a ∧ ∀ y ∈ a, y ∈ r
  | [], _, _, x, hx => by cases hx
  | z :: rest, r, h, x, hx => by
    simp only [allOf] at h
    obtain ⟨a, h1, h2⟩ := Option.bind_eq_some_iff.1 h
    obtain ⟨b, h3, h4⟩ := Option.bind_eq_some_iff.1 h2
    cases h4
    rcases List.mem_cons.1 hx with rfl | hx
    · exact ⟨a, h1, fun y hy => List.mem_append_left _ hy⟩
    · obtain ⟨c, h5, h6⟩ := allOf_mem h3 x hx
      exact ⟨c, h5, fun y hy => List.mem_append_right _ (h6 y hy)⟩

/-- A region in the order of its text. -/
def seqRun (P : Program) (cf : CallF) (ops : Array Oper) : List Oper → St → Option (List St)
  | [], s => some [s]
  | o :: rest, s => (opRun P cf ops o s).bind (allOf (seqRun P cf ops rest))

def RPost (σ : List (Nat × Nat)) (W0 : World) (l : List St) : Exit → Act → World → Prop :=
  fun e a w => e = .normal ∧ ∃ s ∈ l, ∃ σ', σ <+: σ' ∧ Sim σ' s.h W0 w ∧ RepT σ' s a

theorem RPost.weaken {σ σ' : List (Nat × Nat)} {W0 : World} {l l' : List St} (h1 : σ <+: σ') (h2 : ∀ s ∈ l, s ∈ l') {e : Exit} {a : Act} {w : World} (h : RPost σ' W0 l e a w) : RPost σ W0 l' e a w :=
  let ⟨he, s, hs, σ2, q1, q2⟩ := h; ⟨he, s, h2 s hs, σ2, h1.trans q1, q2⟩

theorem noOut {σ : List (Nat × Nat)} {W0 : World} {l : List St} : ¬ LetsOut (RPost σ W0 l) := by
  rintro ⟨a, w, h, _⟩; cases h

theorem wpOps_weaken {P : Program} {ops : Array Oper} {Q Q' : Exit → Act → World → Prop} (hq : ∀ e a w, Q e a w → Q' e a w) : ∀ (is : List Nat) (a : Act) (w : World), wpOps P ops Q is a w → wpOps P ops Q' is a w
  | [], a, w, h => hq _ _ _ h
  | i :: rest, a, w, h => by
    simp only [wpOps] at h ⊢
    cases ho : ops[i]? with
    | none => simp only [ho] at h ⊢; exact wpOps_weaken hq rest a w h
    | some o =>
      simp only [ho] at h ⊢
      split
      · rename_i hw
        rw [if_pos hw] at h
        rcases h with h | ⟨h1, h2⟩
        · refine .inl ?_
          unfold Oper.wp at *
          generalize (execOp a.eval o).run P w = r at *
          cases r with
          | ok n w' =>
            cases n <;> simp only [Oper.upon] at h ⊢ <;>
              first
                | exact wpOps_weaken hq rest _ _ h
                | exact Calls.mono h (fun e w'' he => by
                    cases e <;> first
                      | exact wpOps_weaken hq rest _ _ he
                      | exact hq _ _ _ he
                      | (obtain ⟨a0, w0, he⟩ := he; exact ⟨a0, w0, hq _ _ _ he⟩))
                | exact Rows.mono h (fun _ _ he => wpOps_weaken hq rest _ _ he)
          | halt x w' => cases x <;> simp only [Oper.upon] at h ⊢ <;> first | exact hq _ _ _ h | exact h
        · exact .inr ⟨h1, let ⟨a0, w0, he⟩ := h2; ⟨a0, w0, hq _ _ _ he⟩⟩
      · rename_i hw
        rw [if_neg hw] at h
        exact wpOps_weaken hq rest _ _ h

theorem seqRun_sound {P : Program} {cf : CallF} (hcf : CallOK P cf) {ops : Array Oper} {W0 : World} : ∀ (l : List Oper) (k : Nat) (s : St) (r : List St), (∀ j, l[j]? = ops[k + j]?) → seqRun P cf ops l s = some r →
    ∀ (σ : List (Nat × Nat)) (a : Act) (w : World), Sim σ s.h W0 w → RepT σ s a → wpOps P ops (RPost σ W0 r) (List.range' k l.length) a w
  | [], k, s, r, hl, h, σ, a, w, hs, hr => by
    cases h
    exact ⟨rfl, s, List.mem_singleton.2 rfl, σ, List.prefix_refl _, hs, hr⟩
  | o :: rest, k, s, r, hl, h, σ, a, w, hs, hr => by
    simp only [seqRun] at h
    obtain ⟨l1, h1, h2⟩ := Option.bind_eq_some_iff.1 h
    have ho : ops[k]? = some o := by have := hl 0; simpa using this.symm
    simp only [List.length_cons, List.range'_succ, wpOps, ho]
    have := opRun_sound (Q := RPost σ W0 r) (K := wpOps P ops (RPost σ W0 r) (List.range' (k + 1) rest.length)) hcf h1 hs hr ?_
    · exact this
    · intro s' hs' σ' a' w' g1 g2 g3
      obtain ⟨b, h3, h4⟩ := allOf_mem h2 s' hs'
      have ih := seqRun_sound hcf (W0 := W0) rest (k + 1) s' b (fun j => by have := hl (j + 1); simpa [Nat.add_assoc, Nat.add_comm 1 j] using this) h3 σ' a' w' g2 g3
      exact wpOps_weaken (fun e a w hq => RPost.weaken g1 h4 hq) _ _ _ ih

/-- May the operation be done first, since it neither asks nor turns memory? -/
def isLocal : Op → Bool
  | .move _ | .assign _ | .nilCheck _ | .fieldAddr .. | .extract .. | .makeFunc .. => true
  | _ => false

theorem local_yields {P : Program} {ops : Array Oper} {σ : List (Nat × Nat)} {H : Heap} {e : Operand → AV} {a : Act} {o : Oper} {outs : List (AV × Heap)} (hl : isLocal o.op = true) (hw : Region.wanted o (yielded ops a.tmps) = true)
    (h : aop P e H o.op = some outs) (he : ∀ x, Rep σ (e x) (a.eval x)) : ∃ y v, outs = [(y, H)] ∧ Yields P ops o v a ∧ Rep σ y v := by
  cases ho : o.op <;> rw [ho] at h hl <;> simp only [isLocal, Bool.false_eq_true] at hl <;> simp only [aop] at h
  case move x => cases h; exact ⟨_, _, rfl, .inl ⟨hw, fun w => by simp [execOp, ho]⟩, he x⟩
  case assign x => cases h; exact ⟨_, _, rfl, .inl ⟨hw, fun w => by simp [execOp, ho]⟩, he x⟩
  case nilCheck x =>
    have hx := he x
    split at h
    · rename_i b o' heq
      rw [heq] at hx; have hx' := hx; simp only [Rep] at hx
      obtain ⟨a', n, hσ, hv⟩ := hx
      cases h
      exact ⟨_, _, rfl, .inl ⟨hw, fun w => by simp only [execOp, ho, hv]; rfl⟩, hv ▸ hx'⟩
    · rename_i b heq
      rw [heq] at hx; have hx' := hx; simp only [Rep] at hx
      obtain ⟨a', n, hσ, hv⟩ := hx
      cases h
      exact ⟨_, _, rfl, .inl ⟨hw, fun w => by simp only [execOp, ho, hv]; rfl⟩, hv ▸ hx'⟩
    · rename_i b o' l c z heq
      rw [heq] at hx; have hx' := hx; simp only [Rep] at hx
      obtain ⟨a', n, c', hσ, hv, _⟩ := hx
      cases h
      exact ⟨_, _, rfl, .inl ⟨hw, fun w => by simp only [execOp, ho, hv]; rfl⟩, hv ▸ hx'⟩
    · rename_i f x1 x2 heq
      rw [heq] at hx; have hx' := hx; simp only [Rep] at hx
      obtain ⟨a', n, hv, _⟩ := hx
      cases h
      exact ⟨_, _, rfl, .inl ⟨hw, fun w => by simp only [execOp, ho, hv]; rfl⟩, hv ▸ hx'⟩
    · cases h
  case makeFunc fn f c =>
    obtain ⟨y, hy, h1⟩ := Option.bind_eq_some_iff.1 h
    cases h1
    cases fn <;> simp only [aMakeFunc, Option.some.injEq, reduceCtorEq] at hy
    subst hy
    refine ⟨_, _, rfl, .inl ⟨hw, fun w => by simp only [execOp, ho, Instr.makeFunc]; rfl⟩, ?_⟩
    simp only [Rep]
    exact ⟨_, _, rfl, by simpa using RepL.map he f.toList, by simpa using RepL.map he c.toList⟩
  case fieldAddr s x f =>
    obtain ⟨y, hy, h1⟩ := Option.bind_eq_some_iff.1 h
    cases h1
    obtain ⟨u, h2, h3⟩ := sound_field hy (he x)
    exact ⟨_, _, rfl, .inl ⟨hw, fun w => by simp [execOp, ho, h2 w]⟩, h3⟩
  case extract t i =>
    obtain ⟨y, hy, h1⟩ := Option.bind_eq_some_iff.1 h
    cases h1
    have ht := he t
    cases het : e t <;> rw [het] at hy ht <;> simp only [aExtract, reduceCtorEq] at hy
    simp only [Rep] at ht
    obtain ⟨l, hv, hl2⟩ := ht
    obtain ⟨r, h2, h3⟩ := hl2.get i y hy
    have h2' : l[i]? = some r := by simpa using h2
    exact ⟨_, _, rfl, .inl ⟨hw, fun w => by simp [execOp, ho, hv, Instr.extract, h2']⟩, h3⟩

/-- Is the operation wanted, as far as its guard's register tells? -/
def wantedA (ops : Array Oper) (s : St) (o : Oper) : Option Bool :=
  match o.guard with
  | none => some true
  | some (j, want) => ((ops[j]?).bind (·.dst)).bind fun d => match s.get d with
    | .bool b => some (b == want)
    | _ => none

theorem wantedA_spec {ops : Array Oper} {σ : List (Nat × Nat)} {s : St} {a : Act} {o : Oper} {b : Bool} (h : wantedA ops s o = some b) (hr : RepT σ s a) : Region.wanted o (yielded ops a.tmps) = b := by
  unfold wantedA at h
  split at h
  · rename_i hg; cases h; simp [Region.wanted, hg]
  · rename_i j want hg
    obtain ⟨d, hd, h1⟩ := Option.bind_eq_some_iff.1 h
    have hreg := hr.reg d
    split at h1
    · rename_i b' heq
      cases h1
      rw [heq] at hreg; simp only [Rep] at hreg
      have : a.tmps[d]? = some (.bool b') := by
        rw [Array.getD_eq_getD_getElem?] at hreg
        cases hq : a.tmps[d]? with
        | none => rw [hq] at hreg; simp [undef] at hreg
        | some v => rw [hq] at hreg; simp at hreg; rw [hreg]
      simp [Region.wanted, hg, yielded, hd, this]
    · cases h1

def localRun (P : Program) (ops : Array Oper) (o : Oper) (s : St) : Option (List (AV × Heap)) :=
  (wantedA ops s o).bind fun b => match b with
    | true => aop P (ev s) s.h o.op
    | false => some [(.top, s.h)]

theorem localRun_yields {P : Program} {ops : Array Oper} {σ : List (Nat × Nat)} {s : St} {a : Act} {o : Oper} {outs : List (AV × Heap)} (hl : isLocal o.op = true)
    (h : localRun P ops o s = some outs) (hr : RepT σ s a) : ∃ y v, outs = [(y, s.h)] ∧ Yields P ops o v a ∧ Rep σ y v := by
  unfold localRun at h
  obtain ⟨b, hb, h1⟩ := Option.bind_eq_some_iff.1 h
  have hw := wantedA_spec hb hr
  cases b with
  | true => exact local_yields hl hw h1 (ev_rep hr)
  | false => cases h1; exact ⟨_, undef, rfl, .inr ⟨hw, rfl⟩, by simp [Rep]⟩

def firstLocal (ops : Array Oper) (listed : Array Bool) (s : St) : List Nat → Option Nat
  | [] => none
  | i :: rest => cond (match ops[i]? with | some o => isLocal o.op && (wantedA ops s o).isSome && Region.free .any ops listed i | none => false) (some i) (firstLocal ops listed s rest)

theorem firstLocal_spec {ops : Array Oper} {listed : Array Bool} {s : St} : ∀ {l : List Nat} {i : Nat}, firstLocal ops listed s l = some i → i ∈ l ∧ ∃ o, ops[i]? = some o ∧ isLocal o.op = true ∧ Region.free .any ops listed i = true
  | [], i, h => by cases h
  | j :: rest, i, h => by
    simp only [firstLocal] at h
    cases ho : ops[j]? with
    | none =>
      simp only [ho, cond_false] at h
      obtain ⟨h1, h2⟩ := firstLocal_spec h
      exact ⟨List.mem_cons_of_mem _ h1, h2⟩
    | some o =>
      simp only [ho] at h
      cases hc : (isLocal o.op && (wantedA ops s o).isSome && Region.free .any ops listed j) with
      | true =>
        rw [hc] at h; cases h
        simp only [Bool.and_eq_true] at hc
        exact ⟨List.mem_cons_self .., o, ho, hc.1.1, hc.2⟩
      | false =>
        rw [hc] at h
        obtain ⟨h1, h2⟩ := firstLocal_spec h
        exact ⟨List.mem_cons_of_mem _ h1, h2⟩

/-- A region in whatever order its edges allow. -/
def anyRun (P : Program) (cf : CallF) (ops : Array Oper) : Nat → Array Bool → St → Option (List St)
  | 0, listed, s => need (Region.ready .any ops listed).isEmpty (some [s])
  | fuel + 1, listed, s =>
    match Region.ready .any ops listed with
    | [] => some [s]
    | i :: rest =>
      match firstLocal ops listed s (i :: rest) with
      | some j => match ops[j]? with
        | some o => ((localRun P ops o s).bind (putAll s o.dst)).bind (allOf (anyRun P cf ops fuel (listed.setIfInBounds j true)))
        | none => none
      | none => (allOf (fun j => match ops[j]? with
        | some o => (opRun P cf ops o s).bind (allOf (anyRun P cf ops fuel (listed.setIfInBounds j true)))
        | none => none) (i :: rest)).bind fun l => some (once l)

theorem wpAny_weaken {P : Program} {ops : Array Oper} {md : Region.Mode} {Q Q' : Exit → Act → World → Prop} (hq : ∀ e a w, Q e a w → Q' e a w) : ∀ (fuel : Nat) (listed : Array Bool) (a : Act) (w : World), wpAny P md ops Q fuel listed a w → wpAny P md ops Q' fuel listed a w
  | 0, _, _, _, h => ⟨h.1, hq _ _ _ h.2⟩
  | fuel + 1, listed, a, w, h => ⟨fun h0 => hq _ _ _ (h.1 h0), fun i hi => by
    have h1 := h.2 i hi
    unfold wpOp at h1 ⊢
    cases ho : ops[i]? with
    | none => simp only [ho] at h1 ⊢; exact wpAny_weaken hq fuel _ a w h1
    | some o =>
      simp only [ho] at h1 ⊢
      split
      · rename_i hw
        rw [if_pos hw] at h1
        rcases h1 with h1 | ⟨h2, h3⟩
        · refine .inl ?_
          unfold Oper.wp at *
          generalize (execOp a.eval o).run P w = r at *
          cases r with
          | ok n w' =>
            cases n <;> simp only [Oper.upon] at h1 ⊢ <;>
              first
                | exact wpAny_weaken hq fuel _ _ _ h1
                | exact Calls.mono h1 (fun e w'' he => by
                    cases e <;> first
                      | exact wpAny_weaken hq fuel _ _ _ he
                      | exact hq _ _ _ he
                      | (obtain ⟨a0, w0, he⟩ := he; exact ⟨a0, w0, hq _ _ _ he⟩))
                | exact Rows.mono h1 (fun _ _ he => wpAny_weaken hq fuel _ _ _ he)
          | halt x w' => cases x <;> simp only [Oper.upon] at h1 ⊢ <;> first | exact hq _ _ _ h1 | exact h1
        · exact .inr ⟨h2, let ⟨a0, w0, he⟩ := h3; ⟨a0, w0, hq _ _ _ he⟩⟩
      · rename_i hw
        rw [if_neg hw] at h1
        exact wpAny_weaken hq fuel _ _ _ h1⟩

theorem anyRun_sound {P : Program} {cf : CallF} (hcf : CallOK P cf) {ops : Array Oper} {W0 : World} (hsel : Region.noSelect ops = true) : ∀ (fuel : Nat) (listed : Array Bool) (s : St) (r : List St), anyRun P cf ops fuel listed s = some r →
    ∀ (σ : List (Nat × Nat)) (a : Act) (w : World), Sim σ s.h W0 w → RepT σ s a → wpAny P .any ops (RPost σ W0 r) fuel listed a w
  | 0, listed, s, r, h, σ, a, w, hs, hr => by
    obtain ⟨h1, h2⟩ := need_some h
    cases h2
    exact ⟨List.isEmpty_iff.1 h1, rfl, s, List.mem_singleton.2 rfl, σ, List.prefix_refl _, hs, hr⟩
  | fuel + 1, listed, s, r, h, σ, a, w, hs, hr => by
    simp only [anyRun] at h
    split at h
    · rename_i hrd
      cases h
      exact wpAny_done hrd ⟨rfl, s, List.mem_singleton.2 rfl, σ, List.prefix_refl _, hs, hr⟩ _
    · rename_i i rest hrd
      split at h
      · rename_i j hj
        obtain ⟨hjm, o, ho, hloc, hfree⟩ := firstLocal_spec hj
        rw [ho] at h
        simp only at h
        obtain ⟨l1, h1, h2⟩ := Option.bind_eq_some_iff.1 h
        obtain ⟨outs, h3, h4⟩ := Option.bind_eq_some_iff.1 h1
        obtain ⟨y, v, rfl, hy, hrep⟩ := localRun_yields (ops := ops) hloc h3 hr
        obtain ⟨s', hs', hp⟩ := putAll_mem h4 _ (List.mem_singleton.2 rfl)
        obtain ⟨q1, q2⟩ := St.put_spec hp (show RepT σ { s with h := s.h } a from hr) hrep
        obtain ⟨b, h5, h6⟩ := allOf_mem h2 s' hs'
        have ih := anyRun_sound hcf hsel fuel _ s' b h5 σ (a.put o.dst v) w (by rw [q2]; exact hs) q1
        refine wpAny_take ho hsel hfree (by rw [hrd]; simpa using hjm) ?_ hy (wpAny_weaken (fun e a w hq => RPost.weaken (List.prefix_refl _) h6 hq) _ _ _ _ ih)
        rintro c a' w' ⟨hh, _⟩; cases hh
      · obtain ⟨l, h1, h2⟩ := Option.bind_eq_some_iff.1 h
        cases h2
        refine wpAny_all hrd (by simp) ?_
        intro j hj
        obtain ⟨b, h3, h4⟩ := allOf_mem h1 j hj
        unfold wpOp
        cases ho : ops[j]? with
        | none => rw [ho] at h3; cases h3
        | some o =>
          rw [ho] at h3
          simp only at h3 ⊢
          obtain ⟨l1, h5, h6⟩ := Option.bind_eq_some_iff.1 h3
          refine opRun_sound (Q := RPost σ W0 (once l)) hcf h5 hs hr ?_
          intro s' hs' σ' a' w' g1 g2 g3
          obtain ⟨c, h7, h8⟩ := allOf_mem h6 s' hs'
          have ih := anyRun_sound hcf hsel fuel _ s' c h7 σ' a' w' g2 g3
          exact wpAny_weaken (fun e a w hq => RPost.weaken g1 (fun x hx => mem_once (h4 x (h8 x hx))) hq) _ _ _ _ ih
end Go.Abs
