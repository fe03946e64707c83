/- Regions that draw their order, whose operations make new blocks, or turn those that one of them made (append, store): what each leaves is said once; whatever the order. Over whatever program. -/
import Derived.Test.YtdbgihpognfhdaaGreatMSlB
namespace Go.By
open Go Go.RowKit
def blkOf : Value → Option Nat
  | .slice (some a) _ _ => some a.block
  | .pointer (some a) => some a.block
  | _ => none
structure Chg (X : Nat → Prop) (w w' : World) : Prop where
  os : w'.os = w.os
  tape : w'.tape = w.tape
  output : w'.output = w.output
  size : w.heap.size ≤ w'.heap.size
  block : ∀ k, k < w.heap.size → ¬ X k → w'.heap[k]? = w.heap[k]?
theorem Chg.of_below {X : Nat → Prop} {w w' : World} (h : Below w.heap.size w w') : Chg X w w' := ⟨h.os, h.tape, h.output, h.size, fun k hk _ => h.block k hk⟩
theorem Chg.of_grown {X : Nat → Prop} {w w' : World} {r : Option Nat} (h : w.grownBy w' r) (hX : ∀ k, r = some k → X k) : Chg X w w' :=
  ⟨h.os, h.tape, h.output, h.size, fun k hk hn => h.block k hk (fun e => hn (hX k e.symm))⟩
theorem Chg.below {X : Nat → Prop} {B : Nat} {w0 w w' : World} (h0 : Below B w0 w) (h : Chg X w w') (hB : B ≤ w.heap.size) (hX : ∀ k, X k → B ≤ k) : Below B w0 w' :=
  ⟨h.os.trans h0.os, h.tape.trans h0.tape, h.output.trans h0.output, Nat.le_trans h0.size h.size, fun k hk => (h.block k (by omega) (fun hx => by have := hX k hx; omega)).trans (h0.block k hk)⟩
inductive Own where
  | is (x : Value)
  | own (p : Value → World → Prop) (lt : ∀ v w k, p v w → blkOf v = some k → k < w.heap.size)
      (st : ∀ v w w', p v w → w.heap.size ≤ w'.heap.size → (∀ k, blkOf v = some k → w'.heap[k]? = w.heap[k]?) → p v w')
def Own.isOwn : Own → Bool
  | .is _ => false
  | .own _ _ _ => true
def Own.holds : Own → Value → World → Prop
  | .is x, v, _ => v = x
  | .own p _ _, v, w => p v w
theorem Own.lt {L : Own} (hL : L.isOwn = true) {v : Value} {w : World} {k : Nat} (h : L.holds v w) (hk : blkOf v = some k) : k < w.heap.size := by
  cases L with
  | is x => cases hL
  | own p lt st => exact lt v w k h hk
theorem Own.stays {L : Own} {v : Value} {w w' : World} (h : L.holds v w) (hs : w.heap.size ≤ w'.heap.size) (hb : L.isOwn = true → ∀ k, blkOf v = some k → w'.heap[k]? = w.heap[k]?) : L.holds v w' := by
  cases L with
  | is x => exact h
  | own p lt st => exact st v w w' h hs (hb rfl)
def Own.all (L : Own) (B : Nat) (w : World) (K : Value → Prop) : Prop :=
  match L with
  | .is x => K x
  | .own p _ _ => ∀ v, p v w → (∀ k, blkOf v = some k → B ≤ k) → K v
theorem Own.all_out {L : Own} {B : Nat} {w : World} {K : Value → Prop} (h : L.all B w K) {v : Value} (hv : L.holds v w) (hb : L.isOwn = true → ∀ k, blkOf v = some k → B ≤ k) : K v := by
  cases L with
  | is x => cases hv; exact h
  | own p lt st => exact h v hv (hb rfl)
def Own.row (_P : Program) (e : TypeId) (l : List Nat) : Own := .own (fun v w => w.ownsRow 0 e 1 v l.length (cellsOf l) ∧ blkOf v = v.ownBlock)
  (fun v w k h hk => by rw [h.2] at hk; exact (h.1.lt k hk).2)
  (fun v w w' h hs hb => by
    refine ⟨⟨h.1.1, ?_⟩, h.2⟩
    rcases h.1.2 with h2 | ⟨g, cap, cur, h1, h2, h3, h4⟩
    · exact .inl h2
    · refine .inr ⟨g, cap, cur, h1, h2, ?_, h4⟩
      rw [hb g (by rw [h.2, h1]; rfl)]
      exact h3)
def slotO (ops : Array Oper) (Via : List (Option Nat)) (i : Nat) : Option Tmp :=
  match dstAt ops i with
  | some d => some d
  | none => (Via.getD i none).bind (dstAt ops)
def withOwn (sl : Nat → Option Tmp) (Vs : List Own) (B : Nat) (w : World) : List Nat → Act → (Act → Prop) → Prop
  | [], a, K => K a
  | j :: js, a, K => (Vs.getD j (.is undef)).all B w fun v => withOwn sl Vs B w js (a.put (sl j) v) K
theorem withOwn_is {sl : Nat → Option Tmp} {Vs : List Own} {B : Nat} {w : World} {j : Nat} {js : List Nat} {a : Act} {K : Act → Prop} {x : Value} {d : Tmp} (h : Vs.getD j (.is undef) = .is x) (hd : sl j = some d) (hk : withOwn sl Vs B w js (a.put (some d) x) K) : withOwn sl Vs B w (j :: js) a K := by
  unfold withOwn
  rw [h, hd]
  exact hk
theorem withOwn_own {sl : Nat → Option Tmp} {Vs : List Own} {B : Nat} {w : World} {j : Nat} {js : List Nat} {a : Act} {K : Act → Prop} {p : Value → World → Prop} {lt st} {d : Tmp} (h : Vs.getD j (.is undef) = .own p lt st) (hd : sl j = some d)
    (hk : ∀ v, p v w → (∀ k, blkOf v = some k → B ≤ k) → withOwn sl Vs B w js (a.put (some d) v) K) : withOwn sl Vs B w (j :: js) a K := by
  unfold withOwn
  rw [h, hd]
  exact hk
theorem withOwn_nil {sl : Nat → Option Tmp} {Vs : List Own} {B : Nat} {w : World} {a : Act} {K : Act → Prop} (hk : K a) : withOwn sl Vs B w [] a K := hk
def eaten (sl : Nat → Option Tmp) (cs : List Nat) (b : Act) (k : Nat) : Prop := ∃ j ∈ cs, ∃ d, sl j = some d ∧ blkOf (b.eval (.tmp d)) = some k
def OwnPost (L : Own) (d : Tmp) (ds : List Deferred) (X : Nat → Prop) (w : World) (e : Exit) (a' : Act) (w' : World) : Prop :=
  e = .normal ∧ L.holds (a'.eval (.tmp d)) w' ∧ a'.defers = ds ∧ Chg X w w' ∧ (L.isOwn = true → ∀ k, blkOf (a'.eval (.tmp d)) = some k → w.heap.size ≤ k ∨ X k)
def OwnOp (P : Program) (ops : Array Oper) (Via : List (Option Nat)) (a0 : Act) (w0 : World) (Vs : List Own) (i : Nat) (js cs : List Nat) (L : Own) (o : Oper) : Prop :=
  ∀ w, Below w0.heap.size w0 w → withOwn (slotO ops Via) Vs w0.heap.size w js a0 fun b => wpList P ops (OwnPost L ((slotO ops Via i).getD 0) b.defers (eaten (slotO ops Via) cs b) w) [o] b w
def OwnOps (P : Program) (ops : Array Oper) (Via : List (Option Nat)) (a0 : Act) (w0 : World) (Vs : List Own) : Nat → List (List Nat) → List (List Nat) → List Own → List Oper → Prop
  | i, js :: jss, cs :: css, L :: Ls, o :: os => OwnOp P ops Via a0 w0 Vs i js cs L o ∧ OwnOps P ops Via a0 w0 Vs (i + 1) jss css Ls os
  | _, [], [], [], [] => True
  | _, _, _, _, _ => False
def OwnEnd (B : Nat) (w : World) (K : Act → Prop) : List Bool → List Own → List Oper → Act → Prop
  | c :: cs, L :: Ls, o :: os, a => match o.dst with
    | some d => if c = true then ∀ v, OwnEnd B w K cs Ls os (a.put (some d) v) else L.all B w fun v => OwnEnd B w K cs Ls os (a.put (some d) v)
    | none => OwnEnd B w K cs Ls os a
  | _, _, _, a => K a
def ViaEnd (sl : Nat → Option Tmp) (Vs : List Own) (w : World) (a : Act) (K : Prop) : List Nat → Prop
  | [] => K
  | i :: is => (∀ d, sl i = some d → (Vs.getD i (.is undef)).holds (a.eval (.tmp d)) w) → ViaEnd sl Vs w a K is
def deadB (Cs : List (List Nat)) (i : Nat) : Bool := Cs.any fun cs => cs.contains i
def fitsO (ops : Array Oper) (n : Nat) (Ds Cs : List (List Nat)) (Via : List (Option Nat)) (Os : List Bool) : Bool :=
  Region.noSelect ops &&
  (List.range ops.size).all fun i => match ops[i]? with
    | none => false
    | some o =>
      (match o.dst with
        | some d => decide (d < n) && (List.range ops.size).all fun k => k == i || dstAt ops k != some d
        | none => match Via.getD i none with
          | some j => (Cs.getD i []).contains j && (match dstAt ops j with | some d => decide (d < n) | none => false)
          | none => false) &&
      o.after.all (fun e => !Region.binds .any e || decide (e.on < i)) &&
      (Ds.getD i []).all (fun j => bindsOn o j && (List.range ops.size).all fun m => m == i || !(Cs.getD m []).contains j || (match ops[m]? with | some om => bindsOn om i | none => false)) &&
      (Cs.getD i []).all (fun j => (Ds.getD i []).contains j && Os.getD j false) &&
      (o.looksAt ops).all fun t => (List.range ops.size).all fun k => dstAt ops k != some t || (Ds.getD i []).any (fun j => slotO ops Via j == some t) || (match ops[k]? with | some ok => bindsOn ok i | none => false)
section
variable {P : Program} {ops : Array Oper} {Q : Exit → Act → World → Prop} {a0 : Act} {w0 : World} {Vs : List Own} {Ds Cs : List (List Nat)} {Via : List (Option Nat)} {Os : List Bool} {n : Nat}
theorem OwnOps.cons {i : Nat} {js cs : List Nat} {jss css : List (List Nat)} {L : Own} {Ls : List Own} {o : Oper} {os : List Oper} (h : OwnOp P ops Via a0 w0 Vs i js cs L o) (hs : OwnOps P ops Via a0 w0 Vs (i + 1) jss css Ls os) : OwnOps P ops Via a0 w0 Vs i (js :: jss) (cs :: css) (L :: Ls) (o :: os) := ⟨h, hs⟩
theorem OwnOps.nil {i : Nat} : OwnOps P ops Via a0 w0 Vs i [] [] [] [] := trivial
theorem OwnOps.at : ∀ {i0 : Nat} {jss css : List (List Nat)} {Ls : List Own} {os : List Oper}, OwnOps P ops Via a0 w0 Vs i0 jss css Ls os → ∀ {i : Nat} {o : Oper}, os[i]? = some o → OwnOp P ops Via a0 w0 Vs (i0 + i) (jss.getD i []) (css.getD i []) (Ls.getD i (.is undef)) o
  | i0, js :: jss, cs :: css, L :: Ls, o :: os, h, 0, _, ho => by
    simp only [List.getElem?_cons_zero, Option.some.injEq] at ho
    subst ho
    exact h.1
  | i0, js :: jss, cs :: css, L :: Ls, o :: os, h, i + 1, _, ho => by
    simp only [List.getElem?_cons_succ] at ho
    have := OwnOps.at h.2 ho
    rw [show i0 + (i + 1) = i0 + 1 + i by omega]
    exact this
  | _, _, _, _, [], _, i, _, ho => by simp at ho
  | _, [], _, _, _ :: _, h, _, _, _ => by cases ‹List (List Nat)› <;> cases ‹List Own› <;> exact h.elim
  | _, _ :: _, [], _, _ :: _, h, _, _, _ => by cases ‹List Own› <;> exact h.elim
  | _, _ :: _, _ :: _, [], _ :: _, h, _, _, _ => h.elim
theorem fitsO_at (h : fitsO ops n Ds Cs Via Os = true) {i : Nat} {o : Oper} (hi : ops[i]? = some o) :
    (∀ d, o.dst = some d → d < n ∧ ∀ k, k < ops.size → dstAt ops k = some d → k = i) ∧
    (o.dst = none → ∃ j d, Via.getD i none = some j ∧ j ∈ Cs.getD i [] ∧ dstAt ops j = some d ∧ d < n) ∧
    (∀ e ∈ o.after, Region.binds .any e = true → e.on < i) ∧
    (∀ j ∈ Ds.getD i [], bindsOn o j = true ∧ ∀ m, m < ops.size → m ≠ i → j ∈ Cs.getD m [] → ∃ om, ops[m]? = some om ∧ bindsOn om i = true) ∧
    (∀ j ∈ Cs.getD i [], j ∈ Ds.getD i [] ∧ Os.getD j false = true) ∧
    ∀ t ∈ o.looksAt ops, ∀ k, dstAt ops k = some t → (∃ j ∈ Ds.getD i [], slotO ops Via j = some t) ∨ ∃ ok, ops[k]? = some ok ∧ bindsOn ok i = true := by
  unfold fitsO at h
  rw [Bool.and_eq_true, List.all_eq_true] at h
  have hlt : i < ops.size := (Array.getElem?_eq_some_iff.1 hi).1
  have h1 := h.2 i (List.mem_range.2 hlt)
  simp only [hi, Bool.and_eq_true] at h1
  obtain ⟨⟨⟨⟨h2, h3⟩, h4⟩, h5⟩, h6⟩ := h1
  refine ⟨fun d hd => ?_, fun hd => ?_, fun e he hb => ?_, fun j hj => ?_, fun j hj => ?_, fun t ht k hkt => ?_⟩
  · rw [hd] at h2
    simp only [Bool.and_eq_true, decide_eq_true_eq, List.all_eq_true, List.mem_range, Bool.or_eq_true, beq_iff_eq, bne_iff_ne] at h2
    refine ⟨h2.1, fun k hk hkd => ?_⟩
    rcases h2.2 k hk with h | h
    · exact h
    · exact absurd hkd h
  · rw [hd] at h2
    dsimp only at h2
    cases hv : Via.getD i none with
    | none => rw [hv] at h2; cases h2
    | some j =>
      rw [hv] at h2
      simp only [Bool.and_eq_true] at h2
      cases hdj : dstAt ops j with
      | none => rw [hdj] at h2; cases h2.2
      | some d =>
        rw [hdj] at h2
        exact ⟨j, d, rfl, by simpa using h2.1, hdj, by simpa using h2.2⟩
  · have := (Array.all_eq_true_iff_forall_mem.1 h3) e he
    simpa [hb] using this
  · have h7 := (List.all_eq_true.1 h4) j hj
    rw [Bool.and_eq_true, List.all_eq_true] at h7
    refine ⟨h7.1, fun m hm hmi hjm => ?_⟩
    have h8 := h7.2 m (List.mem_range.2 hm)
    rw [Bool.or_eq_true, Bool.or_eq_true] at h8
    rcases h8 with (h8 | h8) | h8
    · exact absurd (by simpa using h8) hmi
    · have : (Cs.getD m []).contains j = true := by simpa using hjm
      rw [this] at h8; cases h8
    · cases hom : ops[m]? with
      | none => rw [hom] at h8; cases h8
      | some om => rw [hom] at h8; exact ⟨om, rfl, h8⟩
  · have h7 := (List.all_eq_true.1 h5) j hj
    rw [Bool.and_eq_true] at h7
    exact ⟨by simpa using h7.1, h7.2⟩
  · have h6 := (List.all_eq_true.1 h6) t ht
    have hk : k < ops.size := by
      unfold dstAt at hkt
      cases hok : ops[k]? with
      | none => rw [hok] at hkt; cases hkt
      | some ok => exact (Array.getElem?_eq_some_iff.1 hok).1
    have h7 := (List.all_eq_true.1 h6) k (List.mem_range.2 hk)
    simp only [hkt, Bool.or_eq_true, bne_iff_ne, ne_eq, not_true_eq_false, false_or] at h7
    rcases h7 with h7 | h7
    · obtain ⟨j, hj, hjt⟩ := List.any_eq_true.1 h7
      exact .inl ⟨j, hj, by simpa using hjt⟩
    · cases hok : ops[k]? with
      | none => rw [hok] at h7; cases h7
      | some ok => rw [hok] at h7; exact .inr ⟨ok, rfl, h7⟩
theorem slotO_at (h : fitsO ops n Ds Cs Via Os = true) {i : Nat} {o : Oper} (hi : ops[i]? = some o) :
    ∃ d, slotO ops Via i = some d ∧ d < n ∧ ((o.dst = some d ∧ dstAt ops i = some d) ∨ (o.dst = none ∧ ∃ j ∈ Cs.getD i [], dstAt ops j = some d)) := by
  obtain ⟨h1, h2, _⟩ := fitsO_at h hi
  cases hd : o.dst with
  | some d =>
    have hda : dstAt ops i = some d := by unfold dstAt; rw [hi]; exact hd
    exact ⟨d, by unfold slotO; rw [hda], (h1 d hd).1, .inl ⟨rfl, hda⟩⟩
  | none =>
    obtain ⟨j, d, hv, hj, hjd, hn⟩ := h2 hd
    have hda : dstAt ops i = none := by unfold dstAt; rw [hi]; exact hd
    exact ⟨d, by unfold slotO; rw [hda, hv]; exact hjd, hn, .inr ⟨rfl, j, hj, hjd⟩⟩
theorem withOwn_out {sl : Nat → Option Tmp} {B : Nat} {w : World} {a : Act} : ∀ {js : List Nat} {b : Act} {K : Act → Prop}, withOwn sl Vs B w js b K → b.tmps.size = a.tmps.size → b.defers = a.defers →
    (∀ j ∈ js, ∃ d, sl j = some d ∧ d < a.tmps.size ∧ (Vs.getD j (.is undef)).holds (a.eval (.tmp d)) w ∧ ((Vs.getD j (.is undef)).isOwn = true → ∀ k, blkOf (a.eval (.tmp d)) = some k → B ≤ k)) →
    ∃ b', K b' ∧ b'.tmps.size = a.tmps.size ∧ b'.defers = a.defers ∧ (∀ t : Tmp, (∃ j ∈ js, sl j = some t) → b'.tmps[t]? = a.tmps[t]?) ∧ (∀ t : Tmp, b.tmps[t]? = a.tmps[t]? → b'.tmps[t]? = a.tmps[t]?)
  | [], b, K, h, hs, hd, _ => ⟨b, h, hs, hd, fun t ⟨j, hj, _⟩ => (by cases hj), fun _ h => h⟩
  | j :: js, b, K, h, hs, hd, hv => by
    obtain ⟨d, hjd, hlt, hh, hB⟩ := hv j (List.mem_cons_self ..)
    have h1 := Own.all_out h hh hB
    rw [hjd] at h1
    have hat : (b.put (some d) (a.eval (.tmp d))).tmps[d]? = a.tmps[d]? := by
      have hb : d < b.tmps.size := by rw [hs]; exact hlt
      simp [Act.put, hb, Act.eval, hlt]
    obtain ⟨b', h2, h3, h4, h5, h6⟩ := withOwn_out (js := js) h1 (by rw [put_size]; exact hs) (by rw [put_defers]; exact hd) (fun k hk => hv k (List.mem_cons_of_mem _ hk))
    refine ⟨b', h2, h3, h4, fun t ⟨k, hk, hkt⟩ => ?_, fun t ht => ?_⟩
    · rcases List.mem_cons.1 hk with rfl | hk
      · rw [hjd] at hkt
        cases hkt
        exact h6 _ hat
      · exact h5 t ⟨k, hk, hkt⟩
    · refine h6 t ?_
      by_cases e : d = t
      · subst e; exact hat
      · rw [put_get e]; exact ht
theorem OwnPost.no_out {L : Own} {d : Tmp} {ds : List Deferred} {X : Nat → Prop} {w : World} : ¬ LetsOut (OwnPost L d ds X w) := fun ⟨_, _, h, _⟩ => by cases h
theorem ownOp_run {i : Nat} {o : Oper} {d : Tmp} {a b : Act} {w : World} {L : Own} {X : Nat → Prop} {K : Act → World → Prop} (hi : ops[i]? = some o) (hs : ∀ cs c, o.op ≠ .select cs c)
    (hag : ∀ t ∈ o.looksAt ops, b.tmps[t]? = a.tmps[t]?)
    (h : wpList P ops (OwnPost L d b.defers X w) [o] b w)
    (hK : ∀ v w', L.holds ((b.put o.dst v).eval (.tmp d)) w' → Chg X w w' → (L.isOwn = true → ∀ k, blkOf ((b.put o.dst v).eval (.tmp d)) = some k → w.heap.size ≤ k ∨ X k) → K (a.put o.dst v) w') : wpOp P ops Q i K a w := by
  unfold wpOp
  simp only [hi]
  unfold wpList at h
  rw [wanted_agree hag] at h
  have fin : ∀ v w', wpList P ops (OwnPost L d b.defers X w) [] (b.put o.dst v) w' → K (a.put o.dst v) w' := fun v w' hv => by
    obtain ⟨_, h1, _, h2, h3⟩ := hv
    exact hK v w' h1 h2 h3
  split
  · rename_i hw
    rw [if_pos hw] at h
    rcases h with h | h
    · refine .inl ?_
      unfold Oper.wp at *
      rw [execOp_agree hs hag] at h
      generalize (execOp a.eval o).run P w = r at *
      cases r with
      | ok n w' =>
        cases n <;> simp only [Oper.upon] at h ⊢
        case value v => exact fin v w' h
        case skip => exact fin _ w' h
        case defer df =>
          obtain ⟨_, _, h1, _⟩ := h
          rw [put_defers] at h1
          exact absurd (congrArg List.length h1) (by simp)
        case enter f args =>
          refine Calls.mono h fun e w'' he => ?_
          cases e with
          | returned u => exact fin u w'' he
          | panicked c => obtain ⟨h1, _⟩ := he; cases h1
          | outgrown => exact absurd he OwnPost.no_out
        case row row args => exact Rows.mono h fun u w'' he => fin u w'' he
      | halt x w' =>
        cases x <;> simp only [Oper.upon] at h ⊢
        case panic v => obtain ⟨h1, _⟩ := h; cases h1
    · exact absurd h.2 OwnPost.no_out
  · rename_i hw
    rw [if_neg hw] at h
    exact fin _ w h
def liveO (Cs : List (List Nat)) (listed : Array Bool) (i : Nat) : Prop := listed.getD i false = true ∧ ∀ m, listed.getD m false = true → i ∉ Cs.getD m []
structure OwnInv (ops : Array Oper) (Cs : List (List Nat)) (Via : List (Option Nat)) (a0 : Act) (w0 : World) (Vs : List Own) (listed : Array Bool) (a : Act) (w : World) : Prop where
  size : listed.size = ops.size
  below : Below w0.heap.size w0 w
  tmps : a.tmps.size = a0.tmps.size
  defers : a.defers = a0.defers
  left : ∀ i d, liveO Cs listed i → slotO ops Via i = some d → (Vs.getD i (.is undef)).holds (a.eval (.tmp d)) w
  fresh : ∀ i d k, liveO Cs listed i → slotO ops Via i = some d → (Vs.getD i (.is undef)).isOwn = true → blkOf (a.eval (.tmp d)) = some k → w0.heap.size ≤ k
  apart : ∀ i j d e k, liveO Cs listed i → liveO Cs listed j → i ≠ j → slotO ops Via i = some d → slotO ops Via j = some e → (Vs.getD i (.is undef)).isOwn = true → (Vs.getD j (.is undef)).isOwn = true →
    blkOf (a.eval (.tmp d)) = some k → blkOf (a.eval (.tmp e)) ≠ some k
  out : ∀ t : Tmp, (∀ i, listed.getD i false = true → dstAt ops i ≠ some t) → a.tmps[t]? = a0.tmps[t]?
  shut : ∀ k ok i, listed.getD k false = true → ops[k]? = some ok → bindsOn ok i = true → listed.getD i false = true
theorem ownInv_step (hf : fitsO ops n Ds Cs Via Os = true) (hOs : Vs.map Own.isOwn = Os) (hn : a0.tmps.size = n) (hob : OwnOps P ops Via a0 w0 Vs 0 Ds Cs Vs ops.toList) {listed : Array Bool} {a : Act} {w : World} (hI : OwnInv ops Cs Via a0 w0 Vs listed a w) {i : Nat}
    (hr : i ∈ Region.ready .any ops listed) {K : Act → World → Prop} (hK : ∀ a' w', OwnInv ops Cs Via a0 w0 Vs (listed.setIfInBounds i true) a' w' → K a' w') : wpOp P ops Q i K a w := by
  obtain ⟨hun, o, ho, hall⟩ := mem_ready.1 hr
  obtain ⟨hdst, hvia, haft, hDs, hCs, hlook⟩ := fitsO_at hf ho
  have hlt : i < ops.size := (Array.getElem?_eq_some_iff.1 ho).1
  have hnl : listed.getD i false = false := by
    have : i < listed.size := by rw [hI.size]; exact hlt
    simpa [Array.getD, this] using hun
  have hop : OwnOp P ops Via a0 w0 Vs i (Ds.getD i []) (Cs.getD i []) (Vs.getD i (.is undef)) o := by
    have := OwnOps.at hob (i := i) (o := o) (by simpa using ho)
    rw [Nat.zero_add] at this
    exact this
  have hsel : Region.noSelect ops = true := by
    unfold fitsO at hf
    rw [Bool.and_eq_true] at hf
    exact hf.1
  have hin : ∀ k, listed.getD k false = true → k < ops.size := fun k hk => by
    rcases Nat.lt_or_ge k listed.size with h | h
    · rw [← hI.size]; exact h
    · simp [Array.getD, Nat.not_lt.2 h] at hk
  have hown : ∀ j ∈ Cs.getD i [], (Vs.getD j (.is undef)).isOwn = true := fun j hj => by
    have h := (hCs j hj).2
    rw [← hOs, List.getD_eq_getElem?_getD, List.getElem?_map] at h
    rw [List.getD_eq_getElem?_getD]
    cases hv : Vs[j]? with
    | none => rw [hv] at h; cases h
    | some L => rw [hv] at h; exact h
  -- those that it waits for have come up, and nobody took them
  have hlive : ∀ j ∈ Ds.getD i [], liveO Cs listed j := fun j hj => by
    obtain ⟨hb, hm⟩ := hDs j hj
    obtain ⟨e, he, hbe, rfl⟩ := bindsOn_spec.1 hb
    refine ⟨hall e he hbe, fun m hml hjm => ?_⟩
    have hmi : m ≠ i := fun h => by rw [h, hnl] at hml; cases hml
    obtain ⟨om, hom, hbm⟩ := hm m (hin m hml) hmi hjm
    rw [hI.shut m om i hml hom hbm] at hnl
    cases hnl
  have hsl : ∀ j, j < ops.size → ∃ d', slotO ops Via j = some d' ∧ d' < a.tmps.size := fun j hj => by
    obtain ⟨d', h1, h2, _⟩ := slotO_at hf (Array.getElem?_eq_getElem hj)
    exact ⟨d', h1, by rw [hI.tmps, hn]; exact h2⟩
  have hjd : ∀ j ∈ Ds.getD i [], ∃ d, slotO ops Via j = some d ∧ d < a.tmps.size ∧ (Vs.getD j (.is undef)).holds (a.eval (.tmp d)) w ∧ ((Vs.getD j (.is undef)).isOwn = true → ∀ k, blkOf (a.eval (.tmp d)) = some k → w0.heap.size ≤ k) := fun j hj => by
    have hl := hlive j hj
    obtain ⟨d', h1, h2⟩ := hsl j (hin j hl.1)
    exact ⟨d', h1, h2, hI.left j d' hl h1, fun ho k hk => hI.fresh j d' k hl h1 ho hk⟩
  obtain ⟨b, hb, hbs, hbd, hb1, hb2⟩ := withOwn_out (a := a) (hop w hI.below) hI.tmps.symm hI.defers.symm hjd
  have hag : ∀ t ∈ o.looksAt ops, b.tmps[t]? = a.tmps[t]? := fun t ht => by
    by_cases hex : ∃ k, dstAt ops k = some t
    · obtain ⟨k, hk⟩ := hex
      rcases hlook t ht k hk with ⟨j, hj, hjt⟩ | ⟨ok, hok, hbk⟩
      · exact hb1 t ⟨j, hj, hjt⟩
      · refine hb2 t ((hI.out t fun m hm hmt => ?_).symm)
        obtain ⟨hdk, _⟩ := fitsO_at hf hok
        have hokd : ok.dst = some t := by
          unfold dstAt at hk
          rw [hok] at hk
          exact hk
        have hmk := (hdk t hokd).2 m (hin m hm) hmt
        subst hmk
        rw [hI.shut m ok i hm hok hbk] at hnl
        cases hnl
    · exact hb2 t ((hI.out t fun m _ hmt => hex ⟨m, hmt⟩).symm)
  obtain ⟨ds, hds, hdsn, hdsk⟩ := slotO_at hf ho
  rw [hds, Option.getD_some] at hb
  have hdsa : ds < a.tmps.size := by rw [hI.tmps, hn]; exact hdsn
  -- what it eats lies in the frame at hand
  have heat : ∀ k, eaten (slotO ops Via) (Cs.getD i []) b k → ∃ j ∈ Cs.getD i [], ∃ d, slotO ops Via j = some d ∧ blkOf (a.eval (.tmp d)) = some k := fun k ⟨j, hj, d, hd, hk⟩ => by
    refine ⟨j, hj, d, hd, ?_⟩
    rw [Act.eval_tmp] at hk ⊢
    rw [← hb1 d ⟨j, (hCs j hj).1, hd⟩]
    exact hk
  have heatB : ∀ k, eaten (slotO ops Via) (Cs.getD i []) b k → w0.heap.size ≤ k := fun k hk => by
    obtain ⟨j, hj, d, hd, hk⟩ := heat k hk
    exact hI.fresh j d k (hlive j (hCs j hj).1) hd (hown j hj) hk
  refine ownOp_run ho (fun cs c => Region.noSelect_spec hsel i o cs c ho) hag hb fun v w' hv hch hblk => hK _ _ ?_
  -- the value that it speaks of, in the new frame
  have hval : (b.put o.dst v).eval (.tmp ds) = (a.put o.dst v).eval (.tmp ds) := by
    rcases hdsk with ⟨hd, _⟩ | ⟨hd, j, hj, hjd⟩
    · rw [hd, put_at (by rw [hbs]; exact hdsa), put_at hdsa]
    · rw [hd]
      show b.eval (.tmp ds) = a.eval (.tmp ds)
      rw [Act.eval_tmp, Act.eval_tmp, hb1 ds ⟨j, (hCs j hj).1, by unfold slotO; rw [hjd]⟩]
  rw [hval] at hv hblk
  have hset : ∀ k, (listed.setIfInBounds i true).getD k false = true → k = i ∨ listed.getD k false = true := fun k hk => by
    by_cases hki : k = i
    · exact .inl hki
    · rw [getD_set_ne false (Ne.symm hki)] at hk
      exact .inr hk
  have hi' : (listed.setIfInBounds i true).getD i false = true := by
    have : i < listed.size := by rw [hI.size]; exact hlt
    simp [Array.getD, this]
  have hold : ∀ k, k ≠ i → liveO Cs (listed.setIfInBounds i true) k → liveO Cs listed k ∧ k ∉ Cs.getD i [] := fun k hki ⟨h1, h2⟩ =>
    ⟨⟨(hset k h1).resolve_left hki, fun m hm => h2 m (getD_set_true hm)⟩, h2 i hi'⟩
  -- the slots of those that are there are not turned
  have hkeep : ∀ k d, listed.getD k false = true → slotO ops Via k = some d → (a.put o.dst v).eval (.tmp d) = a.eval (.tmp d) := fun k d hk hkd => by
    cases hod : o.dst with
    | none => rfl
    | some d' =>
      have hne : d' ≠ d := fun he => by
        subst he
        obtain ⟨d2, h1, _, h3⟩ := slotO_at hf (Array.getElem?_eq_getElem (hin k hk))
        rw [hkd] at h1
        cases h1
        rcases h3 with ⟨_, h3⟩ | ⟨_, j, hj, hjd⟩
        · have := (hdst d' hod).2 k (hin k hk) h3
          subst this
          rw [hk] at hnl; cases hnl
        · obtain ⟨_, _, _, hDk, hCk, _⟩ := fitsO_at hf (Array.getElem?_eq_getElem (hin k hk))
          have hbj := (hDk j (hCk j hj).1).1
          have hjl := hI.shut k _ j hk (Array.getElem?_eq_getElem (hin k hk)) hbj
          have := (hdst d' hod).2 j (hin j hjl) hjd
          subst this
          rw [hjl] at hnl; cases hnl
      rw [Act.eval_tmp, put_get hne, ← Act.eval_tmp]
  -- nobody eats what is left but i
  have hsafe : ∀ k d q, liveO Cs listed k → k ∉ Cs.getD i [] → slotO ops Via k = some d → (Vs.getD k (.is undef)).isOwn = true → blkOf (a.eval (.tmp d)) = some q → ¬ eaten (slotO ops Via) (Cs.getD i []) b q := fun k d q hk hnc hkd ho hq he => by
    obtain ⟨j, hj, e, hje, hjq⟩ := heat q he
    have hjk : j ≠ k := fun h => hnc (by rw [← h]; exact hj)
    exact hI.apart j k e d q (hlive j (hCs j hj).1) hk hjk hje hkd (hown j hj) ho hjq hq
  have hbel : Below w0.heap.size w0 w' := hch.below hI.below hI.below.size heatB
  refine ⟨by rw [Array.size_setIfInBounds]; exact hI.size, hbel, by rw [put_size]; exact hI.tmps, by rw [put_defers]; exact hI.defers, fun k d hk hkd => ?_, fun k d q hk hkd ho2 hq => ?_, fun k j d e q hk hj hne hkd hje ho1 ho2 hq => ?_, fun t ht => ?_, fun k ok j hk hok hb => ?_⟩
  · by_cases hki : k = i
    · subst hki
      rw [hds] at hkd
      cases hkd
      exact hv
    · obtain ⟨hl, hnc⟩ := hold k hki hk
      rw [hkeep k d hl.1 hkd]
      have hh := hI.left k d hl hkd
      refine Own.stays hh hch.size fun ho q hq => hch.block q (Own.lt ho hh hq) (hsafe k d q hl hnc hkd ho hq)
  · by_cases hki : k = i
    · subst hki
      rw [hds] at hkd
      cases hkd
      rcases hblk ho2 q hq with h | h
      · exact Nat.le_trans hI.below.size h
      · exact heatB q h
    · obtain ⟨hl, _⟩ := hold k hki hk
      rw [hkeep k d hl.1 hkd] at hq
      exact hI.fresh k d q hl hkd ho2 hq
  · -- two that are there lie apart
    have one : ∀ k d q, k ≠ i → liveO Cs (listed.setIfInBounds i true) k → slotO ops Via k = some d → (Vs.getD k (.is undef)).isOwn = true → (Vs.getD i (.is undef)).isOwn = true → blkOf ((a.put o.dst v).eval (.tmp d)) = some q → blkOf ((a.put o.dst v).eval (.tmp ds)) = some q → False := fun k d q hki hk hkd ho1 hoi hq hqi => by
      obtain ⟨hl, hnc⟩ := hold k hki hk
      rw [hkeep k d hl.1 hkd] at hq
      rcases hblk hoi q hqi with h | h
      · have := Own.lt ho1 (hI.left k d hl hkd) hq
        omega
      · exact hsafe k d q hl hnc hkd ho1 hq h
    intro hq2
    by_cases hki : k = i
    · subst hki
      rw [hds] at hkd
      cases hkd
      exact one j e q (Ne.symm hne) hj hje ho2 ho1 hq2 hq
    · by_cases hji : j = i
      · subst hji
        rw [hds] at hje
        cases hje
        exact one k d q hki hk hkd ho1 ho2 hq hq2
      · obtain ⟨hl1, _⟩ := hold k hki hk
        obtain ⟨hl2, _⟩ := hold j hji hj
        rw [hkeep k d hl1.1 hkd] at hq
        rw [hkeep j e hl2.1 hje] at hq2
        exact hI.apart k j d e q hl1 hl2 hne hkd hje ho1 ho2 hq hq2
  · cases hod : o.dst with
    | none => exact hI.out t fun k hk => ht k (getD_set_true hk)
    | some d =>
      have hdi : dstAt ops i = some d := by unfold dstAt; rw [ho]; exact hod
      have hdt : d ≠ t := fun he => ht i hi' (by rw [hdi, he])
      rw [put_get hdt]
      exact hI.out t fun k hk => ht k (getD_set_true hk)
  · by_cases hki : k = i
    · subst hki
      rw [ho] at hok
      cases hok
      obtain ⟨e, he, hbe, rfl⟩ := bindsOn_spec.1 hb
      exact getD_set_true (hall e he hbe)
    · exact getD_set_true (hI.shut k ok j ((hset k hk).resolve_left hki) hok hb)
theorem allO_listed (hf : fitsO ops n Ds Cs Via Os = true) {listed : Array Bool} (hsz : listed.size = ops.size) (hr : Region.ready .any ops listed = []) : ∀ i, i < ops.size → listed.getD i false = true := by
  intro i
  induction i using Nat.strongRecOn with
  | _ i ih =>
    intro hi
    cases hl : listed.getD i false with
    | true => rfl
    | false =>
      exfalso
      have ho : ops[i]? = some ops[i] := Array.getElem?_eq_getElem hi
      obtain ⟨_, _, haft, _⟩ := fitsO_at hf ho
      have hm : i ∈ Region.ready .any ops listed := mem_ready.2 ⟨by
        have hi' : i < listed.size := by omega
        simpa [Array.getD, hi'] using hl, _, ho, fun e he hb => ih e.on (haft e he hb) (by have := haft e he hb; omega)⟩
      rw [hr] at hm
      cases hm
theorem ownPut_end {B : Nat} {w : World} {a : Act} {K : Act → Prop} : ∀ {cs : List Bool} {Ls : List Own} {os : List Oper} {b : Act}, cs.length = os.length → Ls.length = os.length →
    (∀ i o d, os[i]? = some o → o.dst = some d → d < a.tmps.size ∧ (cs.getD i false = false → (Ls.getD i (.is undef)).holds (a.eval (.tmp d)) w ∧ ((Ls.getD i (.is undef)).isOwn = true → ∀ k, blkOf (a.eval (.tmp d)) = some k → B ≤ k))) →
    b.tmps.size = a.tmps.size → b.defers = a.defers → (∀ t : Tmp, (∀ o ∈ os, o.dst ≠ some t) → b.tmps[t]? = a.tmps[t]?) → OwnEnd B w K cs Ls os b → K a
  | [], [], [], b, _, _, _, hs, hd, hb, h => by
    have : b = a := by
      obtain ⟨bt, bd⟩ := b
      obtain ⟨at', ad⟩ := a
      dsimp only at *
      subst hd
      have : bt = at' := Array.ext_getElem? fun t => hb t (by simp)
      rw [this]
    subst this
    exact h
  | c :: cs, L :: Ls, o :: os, b, hc, hl, hv, hs, hd, hb, h => by
    unfold OwnEnd at h
    have hv' : ∀ i o' d, os[i]? = some o' → o'.dst = some d → d < a.tmps.size ∧ (cs.getD i false = false → (Ls.getD i (.is undef)).holds (a.eval (.tmp d)) w ∧ ((Ls.getD i (.is undef)).isOwn = true → ∀ k, blkOf (a.eval (.tmp d)) = some k → B ≤ k)) :=
      fun i o' d h1 h2 => hv (i + 1) o' d h1 h2
    cases hod : o.dst with
    | none =>
      rw [hod] at h
      refine ownPut_end (cs := cs) (Ls := Ls) (os := os) (by simpa using hc) (by simpa using hl) hv' hs hd (fun t ht => hb t fun o' ho' => ?_) h
      rcases List.mem_cons.1 ho' with rfl | ho'
      · rw [hod]; intro h; cases h
      · exact ht o' ho'
    | some d =>
      rw [hod] at h
      dsimp only at h
      obtain ⟨hda, hh⟩ := hv 0 o d rfl hod
      have hdb : d < b.tmps.size := by rw [hs]; exact hda
      have hat : (b.put (some d) (a.eval (.tmp d))).tmps[d]? = a.tmps[d]? := by simp [Act.put, hdb, Act.eval, hda]
      have h1 : OwnEnd B w K cs Ls os (b.put (some d) (a.eval (.tmp d))) := by
        cases c with
        | true => exact h _
        | false =>
          obtain ⟨h2, h3⟩ := hh rfl
          exact Own.all_out h h2 h3
      refine ownPut_end (cs := cs) (Ls := Ls) (os := os) (by simpa using hc) (by simpa using hl) hv' (by rw [put_size]; exact hs) (by rw [put_defers]; exact hd) (fun t ht => ?_) h1
      by_cases e : d = t
      · subst e; exact hat
      · rw [put_get e]
        refine hb t fun o' ho' => ?_
        rcases List.mem_cons.1 ho' with rfl | ho'
        · rw [hod]; intro h; exact e (Option.some.inj h)
        · exact ht o' ho'
  | _, [], _ :: _, _, _, hl, _, _, _, _, _ => by simp at hl
  | [], _, _ :: _, _, hc, _, _, _, _, _, _ => by simp at hc
  | _, _ :: _, [], _, _, hl, _, _, _, _, _ => by simp at hl
  | _ :: _, _, [], _, hc, _, _, _, _, _, _ => by simp at hc
theorem viaEnd_out {sl : Nat → Option Tmp} {w : World} {a : Act} {K : Prop} : ∀ {is : List Nat}, (∀ i ∈ is, ∀ d, sl i = some d → (Vs.getD i (.is undef)).holds (a.eval (.tmp d)) w) → ViaEnd sl Vs w a K is → K
  | [], _, h => h
  | i :: is, hv, h => viaEnd_out (is := is) (fun j hj => hv j (List.mem_cons_of_mem _ hj)) (h (hv i (List.mem_cons_self ..)))
theorem ownInv_any (hf : fitsO ops n Ds Cs Via Os = true) (hOs : Vs.map Own.isOwn = Os) (hn : a0.tmps.size = n) (hob : OwnOps P ops Via a0 w0 Vs 0 Ds Cs Vs ops.toList) (hlen : Vs.length = ops.size) {Ve : List Nat} (hve : Ve.all (fun i => decide (i < ops.size) && !deadB Cs i) = true)
    (hend : ∀ w, Below w0.heap.size w0 w → OwnEnd w0.heap.size w (fun a => ViaEnd (slotO ops Via) Vs w a (Q .normal a w) Ve) ((List.range ops.size).map (deadB Cs)) Vs ops.toList a0) :
    ∀ (fuel : Nat) (listed : Array Bool) (a : Act) (w : World), openOf listed = fuel → OwnInv ops Cs Via a0 w0 Vs listed a w → wpAny P .any ops Q fuel listed a w := by
  have fin : ∀ (listed : Array Bool) (a : Act) (w : World), OwnInv ops Cs Via a0 w0 Vs listed a w → Region.ready .any ops listed = [] → Q .normal a w := fun listed a w hI hr => by
    have hall := allO_listed hf hI.size hr
    have hlive : ∀ i, i < ops.size → deadB Cs i = false → liveO Cs listed i := fun i hi hd => ⟨hall i hi, fun m _ hm => by
      unfold deadB at hd
      rw [List.any_eq_false] at hd
      rw [List.getD_eq_getElem?_getD] at hm
      cases hc : Cs[m]? with
      | none => rw [hc] at hm; simp at hm
      | some c =>
        rw [hc] at hm
        exact hd c (List.mem_of_getElem? hc) (by simpa using hm)⟩
    refine viaEnd_out (sl := slotO ops Via) (Vs := Vs) (w := w) (a := a) (is := Ve) (fun i hi d hd => ?_) (ownPut_end (B := w0.heap.size) (w := w) (a := a) (K := fun a => ViaEnd (slotO ops Via) Vs w a (Q .normal a w) Ve) (cs := (List.range ops.size).map (deadB Cs)) (Ls := Vs) (os := ops.toList) (b := a0)
      (by simp) (by rw [hlen, Array.length_toList]) (fun i o d ho hod => ?_) hI.tmps.symm hI.defers.symm (fun t ht => ?_) (hend w hI.below))
    · have h := (List.all_eq_true.1 hve) i hi
      simp only [Bool.and_eq_true, decide_eq_true_eq, Bool.not_eq_true'] at h
      exact hI.left i d (hlive i h.1 h.2) hd
    · have ho' : ops[i]? = some o := by simpa using ho
      have hlt : i < ops.size := (Array.getElem?_eq_some_iff.1 ho').1
      obtain ⟨hd1, _⟩ := fitsO_at hf ho'
      have hda : dstAt ops i = some d := by unfold dstAt; rw [ho']; exact hod
      have hsl : slotO ops Via i = some d := by unfold slotO; rw [hda]
      refine ⟨by rw [hI.tmps, hn]; exact (hd1 d hod).1, fun hc => ?_⟩
      have hc' : deadB Cs i = false := by
        rw [List.getD_eq_getElem?_getD, List.getElem?_map, List.getElem?_range hlt] at hc
        exact hc
      exact ⟨hI.left i d (hlive i hlt hc') hsl, fun ho k hk => hI.fresh i d k (hlive i hlt hc') hsl ho hk⟩
    · refine (hI.out t fun i _ hit => ?_).symm
      unfold dstAt at hit
      cases ho : ops[i]? with
      | none => rw [ho] at hit; cases hit
      | some o =>
        rw [ho] at hit
        exact ht o (by have := Array.mem_of_getElem? ho; simpa using this) hit
  intro fuel
  induction fuel with
  | zero =>
    intro listed a w hc hI
    have hr : Region.ready .any ops listed = [] := by
      cases h : Region.ready .any ops listed with
      | nil => rfl
      | cons i r =>
        exfalso
        have hm : i ∈ Region.ready .any ops listed := by rw [h]; exact List.mem_cons_self ..
        obtain ⟨hun, o, ho, _⟩ := mem_ready.1 hm
        have hlt : i < listed.size := by rw [hI.size]; exact (Array.getElem?_eq_some_iff.1 ho).1
        have h1 : listed[i]? = some false := by
          rw [Array.getElem?_eq_getElem hlt]
          simpa [Array.getD, hlt] using hun
        have := openOf_set h1
        omega
    exact ⟨hr, fin listed a w hI hr⟩
  | succ fuel ih =>
    intro listed a w hc hI
    refine ⟨fin listed a w hI, fun i hi => ?_⟩
    refine ownInv_step hf hOs hn hob hI hi fun a' w' hI' => ih _ a' w' ?_ hI'
    obtain ⟨hun, o, ho, _⟩ := mem_ready.1 hi
    have hlt : i < listed.size := by rw [hI.size]; exact (Array.getElem?_eq_some_iff.1 ho).1
    have h1 : listed[i]? = some false := by
      rw [Array.getElem?_eq_getElem hlt]
      simpa [Array.getD, hlt] using hun
    have := openOf_set h1
    omega
end
def OwnRun (P : Program) (op : Op) (ty : TypeId) (dst : Option Tmp) (d : Tmp) (L : Own) (X : Nat → Prop) (a : Act) (w : World) : Prop :=
  wpList P #[] (OwnPost L d a.defers X w) [⟨dst, op, ty, "", #[], none⟩] a w
section
variable {P : Program} {ops : Array Oper} {o : Oper} {a : Act} {w : World} {L : Own} {d : Tmp} {X : Nat → Prop} {Via : List (Option Nat)} {i : Nat}
theorem OwnPost.mono {X Y : Nat → Prop} (hX : ∀ k, X k → Y k) {ds : List Deferred} {e : Exit} {a' : Act} {w' : World} (h : OwnPost L d ds X w e a' w') : OwnPost L d ds Y w e a' w' := by
  obtain ⟨h1, h2, h3, h4, h5⟩ := h
  exact ⟨h1, h2, h3, ⟨h4.os, h4.tape, h4.output, h4.size, fun k hk hn => h4.block k hk (fun hx => hn (hX k hx))⟩, fun ho k hk => (h5 ho k hk).imp id (hX k)⟩
theorem OwnRun.mono {op : Op} {ty : TypeId} {dst : Option Tmp} {X0 : Nat → Prop} (hX : ∀ k, X0 k → X k) (h : OwnRun P op ty dst d L X0 a w) : OwnRun P op ty dst d L X a w := by
  unfold OwnRun wpList at h ⊢
  rw [if_pos (by rfl)] at h ⊢
  rcases h with h | h
  · refine .inl ?_
    unfold Oper.wp at *
    generalize (execOp a.eval _).run P w = r at *
    have hm : ∀ {b : Act} {w'' : World}, wpList P #[] (OwnPost L d a.defers X0 w) [] b w'' → wpList P #[] (OwnPost L d a.defers X w) [] b w'' := fun h => OwnPost.mono hX h
    cases r with
    | ok n w' =>
      cases n <;> simp only [Oper.upon] at h ⊢ <;>
        first
          | exact hm h
          | exact Calls.mono h (fun e w'' he => by cases e <;> first | exact hm he | exact OwnPost.mono hX he | exact absurd he OwnPost.no_out)
          | exact Rows.mono h (fun _ _ he => hm he)
    | halt x w' => cases x <;> simp only [Oper.upon] at h ⊢ <;> first | exact OwnPost.mono hX h | exact h
  · exact absurd h.2 OwnPost.no_out
theorem own_strip (hs : slotO ops Via i = some d) (hw : Region.wanted o (yielded ops a.tmps) = true) (h : OwnRun P o.op o.type o.dst d L X a w) : wpList P ops (OwnPost L ((slotO ops Via i).getD 0) a.defers X w) [o] a w := by
  rw [hs, Option.getD_some]
  obtain ⟨od, op, ty, pos, after, guard⟩ := o
  dsimp only at h
  unfold OwnRun at h
  unfold wpList at h ⊢
  rw [if_pos hw]
  rw [if_pos (by rfl)] at h
  rcases h with h | h
  · exact .inl h
  · exact absurd h.2 OwnPost.no_out
theorem own_run (hs : slotO ops Via i = some d) (hg : o.guard = none) (h : OwnRun P o.op o.type o.dst d L X a w) : wpList P ops (OwnPost L ((slotO ops Via i).getD 0) a.defers X w) [o] a w :=
  own_strip hs (by unfold Region.wanted; rw [hg]) h
theorem own_value {op : Op} {ty : TypeId} {v : Value} (hr : (execOp a.eval ⟨some d, op, ty, "", #[], none⟩).run P w = .ok (.value v) w) (hs : Nat.blt d a.tmps.size = true) : OwnRun P op ty (some d) d (.is v) X a w := by
  unfold OwnRun wpList
  rw [if_pos (by rfl)]
  refine .inl ?_
  unfold Oper.wp
  rw [hr]
  exact ⟨rfl, put_at (Nat.le_of_ble_eq_true hs), put_defers .., Chg.of_below (Below.refl _ _), fun h => by cases h⟩
theorem own_move {x : Operand} {ty : TypeId} {v : Value} (hs : Nat.blt d a.tmps.size = true) (h : a.eval x = v) : OwnRun P (.move x) ty (some d) d (.is v) X a w := own_value (by rw [← h]; rfl) hs
theorem blk_own : ∀ v : Value, (∃ p n c, v = .slice p n c) → blkOf v = v.ownBlock := by
  rintro v ⟨p, n, c, rfl⟩
  cases p <;> rfl
theorem OwnEnd.is {B : Nat} {K : Act → Prop} {cs : List Bool} {x : Value} {Ls : List Own} {os : List Oper} (hd : o.dst = some d) (h : OwnEnd B w K cs Ls os (a.put (some d) x)) : OwnEnd B w K (false :: cs) (.is x :: Ls) (o :: os) a := by
  unfold OwnEnd
  rw [hd]
  exact h
theorem OwnEnd.own {B : Nat} {K : Act → Prop} {cs : List Bool} {p : Value → World → Prop} {lt st} {Ls : List Own} {os : List Oper} (hd : o.dst = some d) (h : ∀ v, p v w → (∀ k, blkOf v = some k → B ≤ k) → OwnEnd B w K cs Ls os (a.put (some d) v)) : OwnEnd B w K (false :: cs) (.own p lt st :: Ls) (o :: os) a := by
  unfold OwnEnd
  rw [hd]
  exact h
theorem OwnEnd.dead {B : Nat} {K : Act → Prop} {cs : List Bool} {Ls : List Own} {os : List Oper} (hd : o.dst = some d) (h : ∀ v, OwnEnd B w K cs Ls os (a.put (some d) v)) : OwnEnd B w K (true :: cs) (L :: Ls) (o :: os) a := by
  unfold OwnEnd
  rw [hd]
  exact h
theorem OwnEnd.store {B : Nat} {K : Act → Prop} {c : Bool} {cs : List Bool} {Ls : List Own} {os : List Oper} (hd : o.dst = none) (h : OwnEnd B w K cs Ls os a) : OwnEnd B w K (c :: cs) (L :: Ls) (o :: os) a := by
  unfold OwnEnd
  rw [hd]
  exact h
theorem OwnEnd.nil {B : Nat} {K : Act → Prop} (h : K a) : OwnEnd B w K [] [] [] a := h
theorem ViaEnd.cons {sl : Nat → Option Tmp} {Vs : List Own} {K : Prop} {i : Nat} {is : List Nat} (hs : sl i = some d) (h : (Vs.getD i (.is undef)).holds (a.eval (.tmp d)) w → ViaEnd sl Vs w a K is) : ViaEnd sl Vs w a K (i :: is) := fun hv => h (hv d hs)
theorem ViaEnd.nil {sl : Nat → Option Tmp} {Vs : List Own} {K : Prop} (h : K) : ViaEnd sl Vs w a K [] := h
end
end Go.By
/- Regions in the text's order, by the same tables as those that draw theirs (Reg, RegO): what each operation leaves is said once; a guard that is not known splits one operation, not the walk. Over whatever program. -/
namespace Go.By
open Go Go.RowKit
theorem openOf_none {listed : Array Bool} (h : ∀ i, i < listed.size → listed.getD i false = true) : openOf listed = 0 := by
  unfold openOf
  rw [List.length_eq_zero_iff, List.filter_eq_nil_iff]
  intro b hb
  obtain ⟨i, hi, rfl⟩ := List.getElem_of_mem hb
  have hi' : i < listed.size := by simpa using hi
  have := h i hi'
  simp [Array.getD, hi'] at this
  simp [this]
section
variable {P : Program} {ops : Array Oper} {Q : Exit → Act → World → Prop} {a0 : Act} {w0 : World} {Ds : List (List Nat)} {n : Nat}
theorem ready_next {listed : Array Bool} {k : Nat} {o : Oper} (ho : ops[k]? = some o) (hsz : listed.size = ops.size) (haft : ∀ e ∈ o.after, Region.binds .any e = true → e.on < k) (hlo : ∀ j, j < k → listed.getD j false = true) (hhi : ∀ j, k ≤ j → listed.getD j false = false) : k ∈ Region.ready .any ops listed := by
  have hk : k < ops.size := (Array.getElem?_eq_some_iff.1 ho).1
  refine mem_ready.2 ⟨?_, o, ho, fun e he hb => hlo _ (haft e he hb)⟩
  have hk' : k < listed.size := by rw [hsz]; exact hk
  have := hhi k (Nat.le_refl _)
  simpa [Array.getD, hk'] using this
theorem left_plain {Vs : List Lft} (hf : fitsB ops n Ds = true) (hn : a0.tmps.size = n) (hob : LeftOps P ops a0 w0 Vs Ds Vs ops.toList) (hlen : Vs.length = ops.size)
    (hend : ∀ w, Below w0.heap.size w0 w → LeftEnd w (fun a => Q .normal a w) Vs ops.toList a0) :
    ∀ (m k : Nat) (listed : Array Bool) (a : Act) (w : World), k + m = ops.size → LeftInv ops a0 w0 Vs listed a w → (∀ j, j < k → listed.getD j false = true) → (∀ j, k ≤ j → listed.getD j false = false) → wpOps P ops Q (List.range' k m) a w := by
  intro m
  induction m with
  | zero =>
    intro k listed a w hk hI hlo _
    have h0 : openOf listed = 0 := openOf_none fun i hi => hlo i (by rw [hI.size] at hi; omega)
    exact (leftInv_any (Q := Q) hf hn hob hlen hend 0 listed a w h0 hI).2
  | succ m ih =>
    intro k listed a w hk hI hlo hhi
    have hks : k < ops.size := by omega
    have ho : ops[k]? = some ops[k] := Array.getElem?_eq_getElem hks
    obtain ⟨_, _, _, _, haft, _⟩ := fits_at hf ho
    rw [List.range'_succ, wpOps_cons]
    refine leftInv_step hf hn hob hI (ready_next ho hI.size haft hlo hhi) fun a' w' hI' => ih (k + 1) _ a' w' (by omega) hI' (fun j hj => ?_) (fun j hj => ?_)
    · by_cases hjk : j = k
      · subst hjk
        have : j < listed.size := by rw [hI.size]; exact hks
        simp [Array.getD, this]
      · exact getD_set_true (hlo j (by omega))
    · rw [getD_set_ne false (by omega)]
      exact hhi j (by omega)
theorem wp_region_left_plain {id : Nat} (Vs : List Lft) (Ds : List (List Nat)) (hf : fitsB ops a0.tmps.size Ds = true) (hlen : Vs.length = ops.size)
    (hob : LeftOps P ops a0 w0 Vs Ds Vs ops.toList) (hend : ∀ w, Below w0.heap.size w0 w → LeftEnd w (fun a => Q .normal a w) Vs ops.toList a0) : (Code.region id ops false).wp P Q a0 w0 := by
  refine wp_region ?_
  rw [List.range_eq_range']
  have hnone : ∀ i, (Array.replicate ops.size false).getD i false = false := fun i => by
    by_cases h : i < ops.size <;> simp [Array.getD, h]
  refine left_plain hf rfl hob hlen hend ops.size 0 (Array.replicate ops.size false) a0 w0 (by omega) ⟨by simp, Below.refl _ _, rfl, rfl, fun i d hi _ => ?_, fun _ _ => rfl, fun k ok i hk _ _ => ?_⟩ (fun j hj => by omega) (fun j _ => hnone j)
  · rw [hnone i] at hi; cases hi
  · rw [hnone k] at hk; cases hk
end
theorem lft_maybe {P : Program} {ops : Array Oper} {o : Oper} {a : Act} {w : World} {d : Tmp} {g : Nat} {want b : Bool} {t : Tmp} {x : Value} (hd : o.dst = some d) (hg : o.guard = some (g, want)) (ht : dstAt ops g = some t) (hv : a.tmps[t]? = some (.bool b)) (hs : Nat.blt d a.tmps.size = true)
    (h : b = want → LftRun P o.op o.type d (.is x) a w) : wpList P ops (LeftPost (.is (if b = want then x else undef)) (o.dst.getD 0) a.defers w) [o] a w := by
  by_cases hb : b = want
  · rw [if_pos hb]
    subst hb
    exact lft_want hd hg ht hv (h rfl)
  · rw [if_neg hb]
    exact lft_skip hd hg ht hv (fun h => hb (by cases h; rfl)) hs rfl
end Go.By
