/- Regions that draw their order, whose operations make new blocks at most: what each leaves is said once; whatever the order. Over whatever program. -/
import Derived.Test.YtajfcnaifegonaaMCloneG
import Derived.Test.YtajfcnaifegonaaMSumE
import Derived.Test.YtajfcnaifegonaaMSlA
namespace Go.By
open Go Go.RowKit
inductive Lft where
  | is (x : Value)
  | ex (p : Value → World → Prop) (st : ∀ v w w', p v w → Below w.heap.size w w' → p v w')
def Lft.holds : Lft → Value → World → Prop
  | .is x, v, _ => v = x
  | .ex p _, v, w => p v w
theorem Lft.lasts {L : Lft} {v : Value} {w w' : World} (h : L.holds v w) (hb : Below w.heap.size w w') : L.holds v w' := by
  cases L with
  | is x => exact h
  | ex p st => exact st v w w' h hb
def Lft.all (L : Lft) (w : World) (K : Value → Prop) : Prop :=
  match L with
  | .is x => K x
  | .ex p _ => ∀ v, p v w → K v
theorem Lft.all_iff (L : Lft) (w : World) (K : Value → Prop) : L.all w K ↔ ∀ v, L.holds v w → K v := by
  cases L with
  | is x => exact ⟨fun h v hv => by subst hv; exact h, fun h => h x rfl⟩
  | ex p st => exact Iff.rfl
def Lft.none : Lft := .ex (fun _ _ => True) (fun _ _ _ _ _ => trivial)
def Lft.bytes (l : List Nat) : Lft := .ex (fun v w => Bytes w v l) (fun _ _ _ h hb => h.below hb)
def dstAt (ops : Array Oper) (i : Nat) : Option Tmp := (ops[i]?).bind (·.dst)
def withLeft (ops : Array Oper) (Vs : List Lft) (w : World) : List Nat → Act → (Act → Prop) → Prop
  | [], a, K => K a
  | j :: js, a, K => (Vs.getD j .none).all w fun v => withLeft ops Vs w js (a.put (dstAt ops j) v) K
theorem withLeft_is {ops : Array Oper} {Vs : List Lft} {w : World} {j : Nat} {js : List Nat} {a : Act} {K : Act → Prop} {x : Value} {d : Tmp} (h : Vs.getD j .none = .is x) (hd : dstAt ops j = some d) (hk : withLeft ops Vs w js (a.put (some d) x) K) : withLeft ops Vs w (j :: js) a K := by
  unfold withLeft
  rw [h, hd]
  exact hk
theorem withLeft_nil {ops : Array Oper} {Vs : List Lft} {w : World} {a : Act} {K : Act → Prop} (hk : K a) : withLeft ops Vs w [] a K := hk
def LeftPost (L : Lft) (d : Tmp) (ds : List Deferred) (w : World) (e : Exit) (a' : Act) (w' : World) : Prop :=
  e = .normal ∧ L.holds (a'.eval (.tmp d)) w' ∧ a'.defers = ds ∧ Below w.heap.size w w'
def LeftOp (P : Program) (ops : Array Oper) (a0 : Act) (w0 : World) (Vs : List Lft) (js : List Nat) (L : Lft) (o : Oper) : Prop :=
  ∀ w, Below w0.heap.size w0 w → withLeft ops Vs w js a0 fun a => wpList P ops (LeftPost L (o.dst.getD 0) a.defers w) [o] a w
def LeftOps (P : Program) (ops : Array Oper) (a0 : Act) (w0 : World) (Vs : List Lft) : List (List Nat) → List Lft → List Oper → Prop
  | js :: jss, L :: Ls, o :: os => LeftOp P ops a0 w0 Vs js L o ∧ LeftOps P ops a0 w0 Vs jss Ls os
  | [], [], [] => True
  | _, _, _ => False
def LeftEnd (w : World) (K : Act → Prop) : List Lft → List Oper → Act → Prop
  | L :: Ls, o :: os, a => L.all w fun v => LeftEnd w K Ls os (a.put o.dst v)
  | _, _, a => K a
def bindsOn (o : Oper) (j : Nat) : Bool := o.after.any fun e => Region.binds .any e && e.on == j
def fitsB (ops : Array Oper) (n : Nat) (Ds : List (List Nat)) : Bool :=
  Region.noSelect ops &&
  (List.range ops.size).all fun i => match ops[i]? with
    | none => false
    | some o =>
      (match o.dst with | none => false | some d => decide (d < n) && (List.range ops.size).all fun k => k == i || dstAt ops k != some d) &&
      o.after.all (fun e => !Region.binds .any e || decide (e.on < i)) &&
      (Ds.getD i []).all (fun j => bindsOn o j) &&
      (o.looksAt ops).all fun t => (List.range ops.size).all fun k => dstAt ops k != some t || (Ds.getD i []).contains k || (match ops[k]? with | some ok => bindsOn ok i | none => false)
section
variable {P : Program} {ops : Array Oper} {Q : Exit → Act → World → Prop} {a0 : Act} {w0 : World} {Vs : List Lft} {Ds : List (List Nat)}
theorem LeftOps.cons {js : List Nat} {jss : List (List Nat)} {L : Lft} {Ls : List Lft} {o : Oper} {os : List Oper} (h : LeftOp P ops a0 w0 Vs js L o) (hs : LeftOps P ops a0 w0 Vs jss Ls os) : LeftOps P ops a0 w0 Vs (js :: jss) (L :: Ls) (o :: os) := ⟨h, hs⟩
theorem LeftOps.nil : LeftOps P ops a0 w0 Vs [] [] [] := trivial
theorem LeftEnd.is {w : World} {K : Act → Prop} {x : Value} {Ls : List Lft} {o : Oper} {os : List Oper} {a : Act} (h : LeftEnd w K Ls os (a.put o.dst x)) : LeftEnd w K (.is x :: Ls) (o :: os) a := h
theorem LeftEnd.none {w : World} {K : Act → Prop} {Ls : List Lft} {o : Oper} {os : List Oper} {a : Act} (h : ∀ v, LeftEnd w K Ls os (a.put o.dst v)) : LeftEnd w K (.none :: Ls) (o :: os) a := fun v _ => h v
theorem LeftEnd.bytes {w : World} {K : Act → Prop} {l : List Nat} {Ls : List Lft} {o : Oper} {os : List Oper} {a : Act} (h : ∀ v, Bytes w v l → LeftEnd w K Ls os (a.put o.dst v)) : LeftEnd w K (.bytes l :: Ls) (o :: os) a := h
theorem LeftEnd.ex {w : World} {K : Act → Prop} {p : Value → World → Prop} {st : ∀ v w w', p v w → Below w.heap.size w w' → p v w'} {Ls : List Lft} {o : Oper} {os : List Oper} {a : Act} (h : ∀ v, p v w → LeftEnd w K Ls os (a.put o.dst v)) : LeftEnd w K (.ex p st :: Ls) (o :: os) a := h
theorem le8 {w : World} {K : Act → Prop} {x1 x2 x3 x4 x5 x6 x7 x8 : Value} {o1 o2 o3 o4 o5 o6 o7 o8 : Oper} {Ls : List Lft} {os : List Oper} {a : Act} (h : LeftEnd w K Ls os ((((((((a.put o1.dst x1).put o2.dst x2).put o3.dst x3).put o4.dst x4).put o5.dst x5).put o6.dst x6).put o7.dst x7).put o8.dst x8)) : LeftEnd w K (.is x1 :: .is x2 :: .is x3 :: .is x4 :: .is x5 :: .is x6 :: .is x7 :: .is x8 :: Ls) (o1 :: o2 :: o3 :: o4 :: o5 :: o6 :: o7 :: o8 :: os) a := h
theorem LeftEnd.nil {w : World} {K : Act → Prop} {a : Act} (h : K a) : LeftEnd w K [] [] a := h
theorem LeftOps.at : ∀ {jss : List (List Nat)} {Ls : List Lft} {os : List Oper}, LeftOps P ops a0 w0 Vs jss Ls os → ∀ {i : Nat} {o : Oper}, os[i]? = some o → LeftOp P ops a0 w0 Vs (jss.getD i []) (Ls.getD i .none) o
  | js :: jss, L :: Ls, o :: os, h, 0, _, ho => by
    simp only [List.getElem?_cons_zero, Option.some.injEq] at ho
    subst ho
    exact h.1
  | js :: jss, L :: Ls, o :: os, h, i + 1, _, ho => by
    simp only [List.getElem?_cons_succ] at ho
    exact LeftOps.at h.2 ho
  | _, _, [], _, i, _, ho => by simp at ho
  | [], [], _ :: _, h, _, _, _ => h.elim
  | [], _ :: _, _ :: _, h, _, _, _ => h.elim
  | _ :: _, [], _ :: _, h, _, _, _ => h.elim
theorem Act.eval_tmp (a : Act) (t : Tmp) : a.eval (.tmp t) = (a.tmps[t]?).getD undef := by
  simp [Act.eval]
theorem put_at {a : Act} {d : Tmp} {v : Value} (hd : d < a.tmps.size) : (a.put (some d) v).eval (.tmp d) = v := by
  simp [Act.eval, Act.put, hd]
theorem put_get {a : Act} {d t : Tmp} {v : Value} (h : d ≠ t) : (a.put (some d) v).tmps[t]? = a.tmps[t]? := by
  simp [Act.put, Array.getElem?_setIfInBounds_ne h]
theorem put_size (a : Act) (d : Option Tmp) (v : Value) : (a.put d v).tmps.size = a.tmps.size := by
  cases d <;> simp [Act.put]
theorem put_defers (a : Act) (d : Option Tmp) (v : Value) : (a.put d v).defers = a.defers := by
  cases d <;> rfl
theorem withLeft_out {w : World} {a : Act} : ∀ {js : List Nat} {b : Act} {K : Act → Prop}, withLeft ops Vs w js b K → b.tmps.size = a.tmps.size → b.defers = a.defers →
    (∀ j ∈ js, ∃ d, dstAt ops j = some d ∧ d < a.tmps.size ∧ (Vs.getD j .none).holds (a.eval (.tmp d)) w) →
    ∃ b', K b' ∧ b'.tmps.size = a.tmps.size ∧ b'.defers = a.defers ∧ (∀ t : Tmp, (∃ j ∈ js, dstAt ops j = some t) → b'.tmps[t]? = a.tmps[t]?) ∧ (∀ t : Tmp, b.tmps[t]? = a.tmps[t]? → b'.tmps[t]? = a.tmps[t]?)
  | [], b, K, h, hs, hd, _ => ⟨b, h, hs, hd, fun t ⟨j, hj, _⟩ => (by cases hj), fun _ h => h⟩
  | j :: js, b, K, h, hs, hd, hv => by
    obtain ⟨d, hjd, hlt, hh⟩ := hv j (List.mem_cons_self ..)
    have h1 := ((Lft.all_iff _ _ _).1 h) _ hh
    rw [hjd] at h1
    have hat : (b.put (some d) (a.eval (.tmp d))).tmps[d]? = a.tmps[d]? := by
      have hb : d < b.tmps.size := by rw [hs]; exact hlt
      simp [Act.put, hb, Act.eval, hlt]
    obtain ⟨b', h2, h3, h4, h5, h6⟩ := withLeft_out (js := js) h1 (by rw [put_size]; exact hs) (by rw [put_defers]; exact hd) (fun k hk => hv k (List.mem_cons_of_mem _ hk))
    refine ⟨b', h2, h3, h4, fun t ⟨k, hk, hkt⟩ => ?_, fun t ht => ?_⟩
    · rcases List.mem_cons.1 hk with rfl | hk
      · rw [hjd] at hkt
        cases hkt
        exact h6 _ hat
      · exact h5 t ⟨k, hk, hkt⟩
    · refine h6 t ?_
      by_cases e : d = t
      · subst e; exact hat
      · rw [put_get e]; exact ht
theorem execOp_agree {o : Oper} {a b : Act} (hs : ∀ cs c, o.op ≠ .select cs c) (h : ∀ t ∈ o.looksAt ops, b.tmps[t]? = a.tmps[t]?) : execOp b.eval o = execOp a.eval o :=
  execOp_congr o hs fun x hx => by
    cases x with
    | tmp t =>
      rw [Act.eval_tmp, Act.eval_tmp, h t (List.mem_append_left _ (List.mem_filterMap.2 ⟨.tmp t, by simpa using hx, rfl⟩))]
    | _ => rfl
theorem wanted_agree {o : Oper} {a b : Act} (h : ∀ t ∈ o.looksAt ops, b.tmps[t]? = a.tmps[t]?) : Region.wanted o (yielded ops b.tmps) = Region.wanted o (yielded ops a.tmps) := by
  unfold Region.wanted
  cases hg : o.guard with
  | none => rfl
  | some gw =>
    obtain ⟨g, want⟩ := gw
    have hy : yielded ops b.tmps g = yielded ops a.tmps g := by
      unfold yielded
      cases ht : (ops[g]?).bind (·.dst) with
      | none => rfl
      | some t => simp only [Option.bind_some]; rw [h t (by simp [Oper.looksAt, hg, ht])]
    simp only [hy]
theorem LeftPost.no_out {L : Lft} {d : Tmp} {ds : List Deferred} {w : World} : ¬ LetsOut (LeftPost L d ds w) := fun ⟨_, _, h, _⟩ => by cases h
theorem leftOp_run {i : Nat} {o : Oper} {d : Tmp} {a b : Act} {w : World} {L : Lft} {K : Act → World → Prop} (hi : ops[i]? = some o) (hd : o.dst = some d) (hs : ∀ cs c, o.op ≠ .select cs c)
    (hb : d < b.tmps.size) (hag : ∀ t ∈ o.looksAt ops, b.tmps[t]? = a.tmps[t]?)
    (h : wpList P ops (LeftPost L (o.dst.getD 0) b.defers w) [o] b w) (hK : ∀ v w', L.holds v w' → Below w.heap.size w w' → K (a.put (some d) v) w') : wpOp P ops Q i K a w := by
  unfold wpOp
  simp only [hi]
  unfold wpList at h
  rw [wanted_agree hag] at h
  rw [hd] at h
  simp only [Option.getD_some] at h
  split
  · rename_i hw
    rw [if_pos hw] at h
    rcases h with h | h
    · refine .inl ?_
      unfold Oper.wp at *
      rw [execOp_agree hs hag] at h
      generalize (execOp a.eval o).run P w = r at *
      have fin : ∀ v w', wpList P ops (LeftPost L d b.defers w) [] (b.put (some d) v) w' → K (a.put (some d) v) w' := fun v w' hv => by
        obtain ⟨_, h1, _, h2⟩ := hv
        rw [put_at hb] at h1
        exact hK v w' h1 h2
      cases r with
      | ok n w' =>
        cases n <;> simp only [Oper.upon, hd] at h ⊢
        case value v => exact fin v w' h
        case skip => exact fin _ w' h
        case defer df =>
          obtain ⟨_, _, h1, _⟩ := h
          rw [put_defers] at h1
          exact absurd (congrArg List.length h1) (by simp)
        case enter f args =>
          refine Calls.mono h fun e w'' he => ?_
          cases e with
          | returned u => exact fin u w'' he
          | panicked c => obtain ⟨h1, _⟩ := he; cases h1
          | outgrown => exact absurd he LeftPost.no_out
        case row row args => exact Rows.mono h fun u w'' he => fin u w'' he
      | halt x w' =>
        cases x <;> simp only [Oper.upon] at h ⊢
        case panic v => obtain ⟨h1, _⟩ := h; cases h1
    · exact absurd h.2 LeftPost.no_out
  · rename_i hw
    rw [if_neg hw] at h
    obtain ⟨_, h1, _, h2⟩ := h
    rw [put_at hb] at h1
    rw [hd]
    exact hK _ w h1 h2
structure LeftInv (ops : Array Oper) (a0 : Act) (w0 : World) (Vs : List Lft) (listed : Array Bool) (a : Act) (w : World) : Prop where
  size : listed.size = ops.size
  below : Below w0.heap.size w0 w
  tmps : a.tmps.size = a0.tmps.size
  defers : a.defers = a0.defers
  left : ∀ i d, listed.getD i false = true → dstAt ops i = some d → (Vs.getD i .none).holds (a.eval (.tmp d)) w
  out : ∀ t : Tmp, (∀ i, listed.getD i false = true → dstAt ops i ≠ some t) → a.tmps[t]? = a0.tmps[t]?
  shut : ∀ k ok i, listed.getD k false = true → ops[k]? = some ok → bindsOn ok i = true → listed.getD i false = true
theorem fits_at {n : Nat} (h : fitsB ops n Ds = true) {i : Nat} {o : Oper} (hi : ops[i]? = some o) :
    ∃ d, o.dst = some d ∧ d < n ∧ (∀ k, k < ops.size → dstAt ops k = some d → k = i) ∧ (∀ e ∈ o.after, Region.binds .any e = true → e.on < i) ∧ (∀ j ∈ Ds.getD i [], bindsOn o j = true) ∧
      ∀ t ∈ o.looksAt ops, ∀ k, dstAt ops k = some t → k ∈ Ds.getD i [] ∨ ∃ ok, ops[k]? = some ok ∧ bindsOn ok i = true := by
  unfold fitsB at h
  rw [Bool.and_eq_true, List.all_eq_true] at h
  have hlt : i < ops.size := (Array.getElem?_eq_some_iff.1 hi).1
  have h1 := h.2 i (List.mem_range.2 hlt)
  simp only [hi, Bool.and_eq_true] at h1
  obtain ⟨⟨⟨h2, h3⟩, h4⟩, h5⟩ := h1
  cases hd : o.dst with
  | none => rw [hd] at h2; cases h2
  | some d =>
    rw [hd] at h2
    simp only [Bool.and_eq_true, decide_eq_true_eq, List.all_eq_true, List.mem_range, Bool.or_eq_true, beq_iff_eq, bne_iff_ne] at h2
    refine ⟨d, rfl, h2.1, fun k hk hkd => ?_, fun e he hb => ?_, fun j hj => ?_, fun t ht k hkt => ?_⟩
    · rcases h2.2 k hk with h | h
      · exact h
      · exact absurd hkd h
    · have := (Array.all_eq_true_iff_forall_mem.1 h3) e he
      simpa [hb] using this
    · exact (List.all_eq_true.1 h4) j hj
    · have h6 := (List.all_eq_true.1 h5) t ht
      have hk : k < ops.size := by
        unfold dstAt at hkt
        cases hok : ops[k]? with
        | none => rw [hok] at hkt; cases hkt
        | some ok => exact (Array.getElem?_eq_some_iff.1 hok).1
      have h7 := (List.all_eq_true.1 h6) k (List.mem_range.2 hk)
      simp only [hkt, Bool.or_eq_true, bne_iff_ne, ne_eq, not_true_eq_false, false_or] at h7
      rcases h7 with h7 | h7
      · exact .inl (by simpa using h7)
      · cases hok : ops[k]? with
        | none => rw [hok] at h7; cases h7
        | some ok => rw [hok] at h7; exact .inr ⟨ok, rfl, h7⟩
theorem bindsOn_spec {o : Oper} {j : Nat} : bindsOn o j = true ↔ ∃ e ∈ o.after, Region.binds .any e = true ∧ e.on = j := by
  unfold bindsOn
  rw [Array.any_eq_true']
  simp [Bool.and_eq_true]
theorem all_listed {n : Nat} (hf : fitsB ops n Ds = true) {listed : Array Bool} (hsz : listed.size = ops.size) (hr : Region.ready .any ops listed = []) : ∀ i, i < ops.size → listed.getD i false = true := by
  intro i
  induction i using Nat.strongRecOn with
  | _ i ih =>
    intro hi
    cases hl : listed.getD i false with
    | true => rfl
    | false =>
      exfalso
      have ho : ops[i]? = some ops[i] := Array.getElem?_eq_getElem hi
      obtain ⟨d, _, _, _, haft, _⟩ := fits_at hf ho
      have hm : i ∈ Region.ready .any ops listed := mem_ready.2 ⟨by
        have hi' : i < listed.size := by omega
        simpa [Array.getD, hi'] using hl, _, ho, fun e he hb => ih e.on (haft e he hb) (by have := haft e he hb; omega)⟩
      rw [hr] at hm
      cases hm
theorem leftInv_step {n : Nat} (hf : fitsB ops n Ds = true) (hn : a0.tmps.size = n) (hob : LeftOps P ops a0 w0 Vs Ds Vs ops.toList) {listed : Array Bool} {a : Act} {w : World} (hI : LeftInv ops a0 w0 Vs listed a w) {i : Nat}
    (hr : i ∈ Region.ready .any ops listed) {K : Act → World → Prop} (hK : ∀ a' w', LeftInv ops a0 w0 Vs (listed.setIfInBounds i true) a' w' → K a' w') : wpOp P ops Q i K a w := by
  obtain ⟨hun, o, ho, hall⟩ := mem_ready.1 hr
  obtain ⟨d, hd, hdn, hdis, haft, hDs, hlook⟩ := fits_at hf ho
  have hlt : i < ops.size := (Array.getElem?_eq_some_iff.1 ho).1
  have hnl : listed.getD i false = false := by
    have : i < listed.size := by rw [hI.size]; exact hlt
    simpa [Array.getD, this] using hun
  have hop : LeftOp P ops a0 w0 Vs (Ds.getD i []) (Vs.getD i .none) o := LeftOps.at hob (i := i) (by simpa using ho)
  have hsel : Region.noSelect ops = true := by
    unfold fitsB at hf
    rw [Bool.and_eq_true] at hf
    exact hf.1
  -- those that it waits for have come up
  have hj : ∀ j ∈ Ds.getD i [], listed.getD j false = true := fun j hj => by
    obtain ⟨e, he, hb, rfl⟩ := bindsOn_spec.1 (hDs j hj)
    exact hall e he hb
  have hjd : ∀ j ∈ Ds.getD i [], ∃ d', dstAt ops j = some d' ∧ d' < a.tmps.size ∧ (Vs.getD j .none).holds (a.eval (.tmp d')) w := fun j hjm => by
    have hl := hj j hjm
    have hjs : j < ops.size := by
      rcases Nat.lt_or_ge j listed.size with h | h
      · rw [← hI.size]; exact h
      · simp [Array.getD, Nat.not_lt.2 h] at hl
    have hoj : ops[j]? = some ops[j] := Array.getElem?_eq_getElem hjs
    obtain ⟨d', hd', hdn', _⟩ := fits_at hf hoj
    have hda : dstAt ops j = some d' := by unfold dstAt; rw [hoj]; exact hd'
    exact ⟨d', hda, by rw [hI.tmps, hn]; exact hdn', hI.left j d' hl hda⟩
  obtain ⟨b, hb, hbs, hbd, hb1, hb2⟩ := withLeft_out (a := a) (hop w hI.below) hI.tmps.symm hI.defers.symm hjd
  have hag : ∀ t ∈ o.looksAt ops, b.tmps[t]? = a.tmps[t]? := fun t ht => by
    by_cases hex : ∃ k, dstAt ops k = some t
    · obtain ⟨k, hk⟩ := hex
      rcases hlook t ht k hk with h | ⟨ok, hok, hbk⟩
      · exact hb1 t ⟨k, h, hk⟩
      · refine hb2 t ((hI.out t fun m hm hmt => ?_).symm)
        -- only k leaves t, and it waits for i
        have hks : k < ops.size := (Array.getElem?_eq_some_iff.1 hok).1
        obtain ⟨dk, hdk, _, hdisk, _⟩ := fits_at hf hok
        have hkt : dk = t := by
          have : dstAt ops k = some dk := by unfold dstAt; rw [hok]; exact hdk
          rw [this] at hk; exact Option.some.inj hk
        subst hkt
        have hms : m < ops.size := by
          rcases Nat.lt_or_ge m listed.size with h | h
          · rw [← hI.size]; exact h
          · simp [Array.getD, Nat.not_lt.2 h] at hm
        have hmk := hdisk m hms hmt
        subst hmk
        rw [hI.shut m ok i hm hok hbk] at hnl
        cases hnl
    · exact hb2 t ((hI.out t fun m _ hmt => hex ⟨m, hmt⟩).symm)
  refine leftOp_run ho hd (fun cs c => Region.noSelect_spec hsel i o cs c ho) (by rw [hbs, hI.tmps, hn]; exact hdn) hag hb fun v w' hv hbel => hK _ _ ?_
  have hdi : dstAt ops i = some d := by unfold dstAt; rw [ho]; exact hd
  have hset : ∀ k, (listed.setIfInBounds i true).getD k false = true → k = i ∨ listed.getD k false = true := fun k hk => by
    by_cases hki : k = i
    · exact .inl hki
    · rw [getD_set_ne false (Ne.symm hki)] at hk
      exact .inr hk
  have hin : ∀ k, listed.getD k false = true → k < ops.size := fun k hk => by
    rcases Nat.lt_or_ge k listed.size with h | h
    · rw [← hI.size]; exact h
    · simp [Array.getD, Nat.not_lt.2 h] at hk
  have hda : d < a.tmps.size := by rw [hI.tmps, hn]; exact hdn
  have hne : ∀ k d', listed.getD k false = true → dstAt ops k = some d' → d ≠ d' := fun k d' hk hkd he => by
    subst he
    have := hdis k (hin k hk) hkd
    subst this
    rw [hk] at hnl
    cases hnl
  refine ⟨by rw [Array.size_setIfInBounds]; exact hI.size, hI.below.trans (hbel.mono hI.below.size), by rw [put_size]; exact hI.tmps, by rw [put_defers]; exact hI.defers, fun k d' hk hkd => ?_, fun t ht => ?_, fun k ok j hk hok hb => ?_⟩
  · by_cases hki : k = i
    · subst hki
      rw [hdi] at hkd
      cases hkd
      rw [put_at hda]
      exact hv
    · have hk := (hset k hk).resolve_left hki
      rw [Act.eval_tmp, put_get (hne k d' hk hkd), ← Act.eval_tmp]
      exact Lft.lasts (hI.left k d' hk hkd) hbel
  · have hi' : (listed.setIfInBounds i true).getD i false = true := by
      have : i < listed.size := by rw [hI.size]; exact hlt
      simp [Array.getD, this]
    have hdt : d ≠ t := fun he => ht i hi' (by rw [hdi, he])
    rw [put_get hdt]
    exact hI.out t fun k hk => ht k (getD_set_true hk)
  · by_cases hki : k = i
    · subst hki
      rw [ho] at hok
      cases hok
      obtain ⟨e, he, hbe, rfl⟩ := bindsOn_spec.1 hb
      exact getD_set_true (hall e he hbe)
    · exact getD_set_true (hI.shut k ok j ((hset k hk).resolve_left hki) hok hb)
def openOf (listed : Array Bool) : Nat := (listed.toList.filter (· == false)).length
theorem openOf_set {listed : Array Bool} {i : Nat} (h : listed[i]? = some false) : openOf (listed.setIfInBounds i true) + 1 = openOf listed := by
  unfold openOf
  rw [Array.toList_setIfInBounds]
  have h2 : listed.toList[i]? = some false := by simpa using h
  clear h
  revert h2
  generalize listed.toList = l
  induction l generalizing i with
  | nil => intro h; simp at h
  | cons b l ih =>
    intro h2
    cases i with
    | zero =>
      simp only [List.getElem?_cons_zero, Option.some.injEq] at h2
      subst h2
      simp
    | succ i =>
      simp only [List.getElem?_cons_succ] at h2
      have := ih (i := i) h2
      simp only [List.set_cons_succ, List.filter_cons]
      cases b <;> simp <;> simpa using this
theorem putAll_end {w : World} {a : Act} {K : Act → Prop} : ∀ {Ls : List Lft} {os : List Oper} {b : Act}, Ls.length = os.length → (∀ i o, os[i]? = some o → ∃ d, o.dst = some d ∧ d < a.tmps.size ∧ (Ls.getD i .none).holds (a.eval (.tmp d)) w) →
    b.tmps.size = a.tmps.size → b.defers = a.defers → (∀ t : Tmp, (∀ o ∈ os, o.dst ≠ some t) → b.tmps[t]? = a.tmps[t]?) → LeftEnd w K Ls os b → K a
  | [], [], b, _, _, hs, hd, hb, h => by
    have : b = a := by
      obtain ⟨bt, bd⟩ := b
      obtain ⟨at', ad⟩ := a
      dsimp only at *
      subst hd
      have : bt = at' := Array.ext_getElem? fun t => hb t (by simp)
      rw [this]
    subst this
    exact h
  | L :: Ls, o :: os, b, hl, hv, hs, hd, hb, h => by
    obtain ⟨d, hod, hda, hh⟩ := hv 0 o rfl
    have h1 := ((Lft.all_iff _ _ _).1 h) _ hh
    rw [hod] at h1
    have hdb : d < b.tmps.size := by rw [hs]; exact hda
    have hat : (b.put (some d) (a.eval (.tmp d))).tmps[d]? = a.tmps[d]? := by simp [Act.put, hdb, Act.eval, hda]
    refine putAll_end (Ls := Ls) (os := os) (by simpa using hl) (fun i o' ho' => hv (i + 1) o' ho') (by rw [put_size]; exact hs) (by rw [put_defers]; exact hd) (fun t ht => ?_) h1
    by_cases e : d = t
    · subst e; exact hat
    · rw [put_get e]
      refine hb t fun o' ho' => ?_
      rcases List.mem_cons.1 ho' with rfl | ho'
      · rw [hod]; intro h; exact e (Option.some.inj h)
      · exact ht o' ho'
  | [], _ :: _, _, hl, _, _, _, _, _ => by simp at hl
  | _ :: _, [], _, hl, _, _, _, _, _ => by simp at hl
theorem leftInv_any {n : Nat} (hf : fitsB ops n Ds = true) (hn : a0.tmps.size = n) (hob : LeftOps P ops a0 w0 Vs Ds Vs ops.toList) (hlen : Vs.length = ops.size)
    (hend : ∀ w, Below w0.heap.size w0 w → LeftEnd w (fun a => Q .normal a w) Vs ops.toList a0) :
    ∀ (fuel : Nat) (listed : Array Bool) (a : Act) (w : World), openOf listed = fuel → LeftInv ops a0 w0 Vs listed a w → wpAny P .any ops Q fuel listed a w := by
  have fin : ∀ (listed : Array Bool) (a : Act) (w : World), LeftInv ops a0 w0 Vs listed a w → Region.ready .any ops listed = [] → Q .normal a w := fun listed a w hI hr => by
    have hall := all_listed hf hI.size hr
    refine putAll_end (w := w) (a := a) (K := fun a => Q .normal a w) (Ls := Vs) (os := ops.toList) (b := a0) (by rw [hlen, Array.length_toList]) (fun i o ho => ?_) hI.tmps.symm hI.defers.symm (fun t ht => ?_) (hend w hI.below)
    · have ho' : ops[i]? = some o := by simpa using ho
      obtain ⟨d, hd, hdn, _⟩ := fits_at hf ho'
      have hlt : i < ops.size := (Array.getElem?_eq_some_iff.1 ho').1
      have hda : dstAt ops i = some d := by unfold dstAt; rw [ho']; exact hd
      exact ⟨d, hd, by rw [hI.tmps, hn]; exact hdn, hI.left i d (hall i hlt) hda⟩
    · refine (hI.out t fun i _ hit => ?_).symm
      unfold dstAt at hit
      cases ho : ops[i]? with
      | none => rw [ho] at hit; cases hit
      | some o =>
        rw [ho] at hit
        exact ht o (by have := Array.mem_of_getElem? ho; simpa using this) hit
  intro fuel
  induction fuel with
  | zero =>
    intro listed a w hc hI
    have hr : Region.ready .any ops listed = [] := by
      cases h : Region.ready .any ops listed with
      | nil => rfl
      | cons i r =>
        exfalso
        have hm : i ∈ Region.ready .any ops listed := by rw [h]; exact List.mem_cons_self ..
        obtain ⟨hun, o, ho, _⟩ := mem_ready.1 hm
        have hlt : i < listed.size := by rw [hI.size]; exact (Array.getElem?_eq_some_iff.1 ho).1
        have h1 : listed[i]? = some false := by
          rw [Array.getElem?_eq_getElem hlt]
          simpa [Array.getD, hlt] using hun
        have := openOf_set h1
        omega
    exact ⟨hr, fin listed a w hI hr⟩
  | succ fuel ih =>
    intro listed a w hc hI
    refine ⟨fin listed a w hI, fun i hi => ?_⟩
    refine leftInv_step hf hn hob hI hi fun a' w' hI' => ih _ a' w' ?_ hI'
    obtain ⟨hun, o, ho, _⟩ := mem_ready.1 hi
    have hlt : i < listed.size := by rw [hI.size]; exact (Array.getElem?_eq_some_iff.1 ho).1
    have h1 : listed[i]? = some false := by
      rw [Array.getElem?_eq_getElem hlt]
      simpa [Array.getD, hlt] using hun
    have := openOf_set h1
    omega
theorem wp_region_left {id : Nat} (hm : P.follows .mixedOrders = true) (Vs : List Lft) (Ds : List (List Nat)) (hf : fitsB ops a0.tmps.size Ds = true) (hlen : Vs.length = ops.size)
    (hob : LeftOps P ops a0 w0 Vs Ds Vs ops.toList) (hend : ∀ w, Below w0.heap.size w0 w → LeftEnd w (fun a => Q .normal a w) Vs ops.toList a0) : (Code.region id ops true).wp P Q a0 w0 := by
  refine wp_region_any hm (leftInv_any hf rfl hob hlen hend _ _ _ _ ?_ ?_)
  · unfold openOf
    simp
  · refine ⟨by simp, (Below.refl _ _).drew, rfl, rfl, fun i d hi _ => ?_, fun _ _ => rfl, fun k ok i hk _ _ => ?_⟩
    · by_cases h : i < ops.size <;> simp [Array.getD, h] at hi
    · by_cases h : k < ops.size <;> simp [Array.getD, h] at hk
end
def LftRun (P : Program) (op : Op) (ty : TypeId) (d : Tmp) (L : Lft) (a : Act) (w : World) : Prop :=
  wpList P #[] (LeftPost L d a.defers w) [⟨some d, op, ty, "", #[], none⟩] a w
section
variable {P : Program} {ops : Array Oper} {o : Oper} {a : Act} {w : World} {L : Lft} {d : Tmp}
theorem lft_strip (hd : o.dst = some d) (hw : Region.wanted o (yielded ops a.tmps) = true) (h : LftRun P o.op o.type d L a w) : wpList P ops (LeftPost L (o.dst.getD 0) a.defers w) [o] a w := by
  obtain ⟨od, op, ty, pos, after, guard⟩ := o
  dsimp only at hd h
  subst hd
  unfold LftRun at h
  unfold wpList at h ⊢
  rw [if_pos hw]
  rw [if_pos (by rfl)] at h
  rcases h with h | h
  · exact .inl h
  · exact absurd h.2 LeftPost.no_out
theorem lft_run (hd : o.dst = some d) (hg : o.guard = none) (h : LftRun P o.op o.type d L a w) : wpList P ops (LeftPost L (o.dst.getD 0) a.defers w) [o] a w :=
  lft_strip hd (by unfold Region.wanted; rw [hg]) h
theorem lft_want {g : Nat} {want : Bool} {t : Tmp} (hd : o.dst = some d) (hg : o.guard = some (g, want)) (ht : dstAt ops g = some t) (hv : a.tmps[t]? = some (.bool want)) (h : LftRun P o.op o.type d L a w) :
    wpList P ops (LeftPost L (o.dst.getD 0) a.defers w) [o] a w :=
  lft_strip hd (by
    unfold Region.wanted
    rw [hg]
    dsimp only
    unfold yielded
    unfold dstAt at ht
    rw [ht, Option.bind_some, hv]
    simp) h
theorem lft_skip {g : Nat} {want : Bool} {t : Tmp} {u : Value} (hd : o.dst = some d) (hg : o.guard = some (g, want)) (ht : dstAt ops g = some t) (hv : a.tmps[t]? = some u) (hu : u ≠ .bool want) (hs : Nat.blt d a.tmps.size = true) (h : L.holds undef w) :
    wpList P ops (LeftPost L (o.dst.getD 0) a.defers w) [o] a w := by
  unfold wpList
  have hw : Region.wanted o (yielded ops a.tmps) = false := by
    unfold Region.wanted
    rw [hg]
    dsimp only
    unfold yielded
    unfold dstAt at ht
    rw [ht, Option.bind_some, hv]
    cases u <;> simp_all
  rw [if_neg (by rw [hw]; exact Bool.false_ne_true), hd]
  exact ⟨rfl, by rw [Option.getD_some, put_at (Nat.le_of_ble_eq_true hs)]; exact h, put_defers .., Below.refl _ _⟩
theorem lft_value {op : Op} {ty : TypeId} {v : Value} (hr : (execOp a.eval ⟨some d, op, ty, "", #[], none⟩).run P w = .ok (.value v) w) (hs : Nat.blt d a.tmps.size = true) (h : L.holds v w) : LftRun P op ty d L a w := by
  unfold LftRun wpList
  rw [if_pos (by rfl)]
  refine .inl ?_
  unfold Oper.wp
  rw [hr]
  exact ⟨rfl, by rw [put_at (Nat.le_of_ble_eq_true hs)]; exact h, put_defers .., Below.refl _ _⟩
theorem lft_move {x : Operand} {ty : TypeId} (hs : Nat.blt d a.tmps.size = true) (h : L.holds (a.eval x) w) : LftRun P (.move x) ty d L a w := lft_value rfl hs h
theorem lft_pick {c x y : Operand} {b : Bool} {ty : TypeId} (hc : a.eval c = .bool b) (hs : Nat.blt d a.tmps.size = true) (h : L.holds (if b = true then a.eval x else a.eval y) w) : LftRun P (.pick c x y) ty d L a w := by
  refine lft_value (v := if b = true then a.eval x else a.eval y) ?_ hs h
  unfold execOp
  dsimp only
  rw [hc]
  rfl
end
theorem arr0 {α : Type} (l : List α) (i : Nat) (a : α) : l.toArray.setIfInBounds i a = (l.set i a).toArray := List.setIfInBounds_toArray ..
theorem arr1 {α : Type} (x a : α) (l : List α) : (x :: l).set 0 a = a :: l := rfl
theorem arr2 {α : Type} (x a : α) (l : List α) (i : Nat) : (x :: l).set (i + 1) a = x :: l.set i a := rfl
section
variable {P : Program} {ops : Array Oper} {o : Oper} {a : Act} {w : World} {L : Lft} {d : Tmp}
theorem lsk {g : Nat} {want : Bool} {t : Tmp} {u : Value} (hd : o.dst = some d := by exact rfl) (hg : o.guard = some (g, want) := by exact rfl) (ht : dstAt ops g = some t := by exact rfl) (hv : a.tmps[t]? = some u := by exact rfl)
    (hu : u ≠ .bool want := by first | (simp; done) | (intro hun; cases hun; done) | (intro hun; unfold undef at hun; cases hun)) (hs : Nat.blt d a.tmps.size = true := by exact rfl) (h : L.holds undef w := by exact rfl) :
    wpList P ops (LeftPost L (o.dst.getD 0) a.defers w) [o] a w := lft_skip hd hg ht hv hu hs h
theorem lmv {x : Operand} {ty : TypeId} (hs : Nat.blt d a.tmps.size = true := by exact rfl) (h : L.holds (a.eval x) w := by first | rfl | assumption) : LftRun P (.move x) ty d L a w := lft_move hs h
theorem lpk {c x y : Operand} {b : Bool} {ty : TypeId} (hc : a.eval c = .bool b := by exact rfl) (hs : Nat.blt d a.tmps.size = true := by exact rfl) (h : L.holds (if b = true then a.eval x else a.eval y) w := by exact rfl) : LftRun P (.pick c x y) ty d L a w := lft_pick hc hs h
theorem lend {ds : List Deferred} (h : L.holds (a.eval (.tmp d)) w := by exact rfl) (hd : a.defers = ds := by exact rfl) : LeftPost L d ds w .normal a w := ⟨rfl, h, hd, Below.refl _ _⟩
end
end Go.By
/- slot: the parts of a sector, as slices; numbers. -/
namespace Go.Proofs.Ytajfcnaifegonaa.Sl
open Go Go.RowKit Go.By
end Go.Proofs.Ytajfcnaifegonaa.Sl
