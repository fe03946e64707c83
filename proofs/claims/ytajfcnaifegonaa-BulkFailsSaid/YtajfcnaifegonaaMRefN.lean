/- Regions that draw their order, whose operations make new blocks, or turn those that one of them made (append, store): what each leaves is said once; whatever the order. Over whatever program. -/
import Derived.Test.YtajfcnaifegonaaMSlB
import Derived.Test.YtajfcnaifegonaaMCloneG
namespace Go.By
open Go Go.RowKit
def blkOf : Value → Option Nat
  | .slice (some a) _ _ => some a.block
  | .pointer (some a) => some a.block
  | _ => none
structure Chg (X : Nat → Prop) (w w' : World) : Prop where
  os : w'.os = w.os
  tape : w'.tape = w.tape
  output : w'.output = w.output
  size : w.heap.size ≤ w'.heap.size
  block : ∀ k, k < w.heap.size → ¬ X k → w'.heap[k]? = w.heap[k]?
theorem Chg.of_below {X : Nat → Prop} {w w' : World} (h : Below w.heap.size w w') : Chg X w w' := ⟨h.os, h.tape, h.output, h.size, fun k hk _ => h.block k hk⟩
theorem Chg.of_grown {X : Nat → Prop} {w w' : World} {r : Option Nat} (h : w.grownBy w' r) (hX : ∀ k, r = some k → X k) : Chg X w w' :=
  ⟨h.os, h.tape, h.output, h.size, fun k hk hn => h.block k hk (fun e => hn (hX k e.symm))⟩
theorem Chg.below {X : Nat → Prop} {B : Nat} {w0 w w' : World} (h0 : Below B w0 w) (h : Chg X w w') (hB : B ≤ w.heap.size) (hX : ∀ k, X k → B ≤ k) : Below B w0 w' :=
  ⟨h.os.trans h0.os, h.tape.trans h0.tape, h.output.trans h0.output, Nat.le_trans h0.size h.size, fun k hk => (h.block k (by omega) (fun hx => by have := hX k hx; omega)).trans (h0.block k hk)⟩
inductive Own where
  | is (x : Value)
  | own (p : Value → World → Prop) (lt : ∀ v w k, p v w → blkOf v = some k → k < w.heap.size)
      (st : ∀ v w w', p v w → w.heap.size ≤ w'.heap.size → (∀ k, blkOf v = some k → w'.heap[k]? = w.heap[k]?) → p v w')
def Own.isOwn : Own → Bool
  | .is _ => false
  | .own _ _ _ => true
def Own.holds : Own → Value → World → Prop
  | .is x, v, _ => v = x
  | .own p _ _, v, w => p v w
theorem Own.lt {L : Own} (hL : L.isOwn = true) {v : Value} {w : World} {k : Nat} (h : L.holds v w) (hk : blkOf v = some k) : k < w.heap.size := by
  cases L with
  | is x => cases hL
  | own p lt st => exact lt v w k h hk
theorem Own.stays {L : Own} {v : Value} {w w' : World} (h : L.holds v w) (hs : w.heap.size ≤ w'.heap.size) (hb : L.isOwn = true → ∀ k, blkOf v = some k → w'.heap[k]? = w.heap[k]?) : L.holds v w' := by
  cases L with
  | is x => exact h
  | own p lt st => exact st v w w' h hs (hb rfl)
def Own.all (L : Own) (B : Nat) (w : World) (K : Value → Prop) : Prop :=
  match L with
  | .is x => K x
  | .own p _ _ => ∀ v, p v w → (∀ k, blkOf v = some k → B ≤ k) → K v
def Own.row (_P : Program) (e : TypeId) (l : List Nat) : Own := .own (fun v w => w.ownsRow 0 e 1 v l.length (cellsOf l) ∧ blkOf v = v.ownBlock)
  (fun v w k h hk => by rw [h.2] at hk; exact (h.1.lt k hk).2)
  (fun v w w' h hs hb => by
    refine ⟨⟨h.1.1, ?_⟩, h.2⟩
    rcases h.1.2 with h2 | ⟨g, cap, cur, h1, h2, h3, h4⟩
    · exact .inl h2
    · refine .inr ⟨g, cap, cur, h1, h2, ?_, h4⟩
      rw [hb g (by rw [h.2, h1]; rfl)]
      exact h3)
def slotO (ops : Array Oper) (Via : List (Option Nat)) (i : Nat) : Option Tmp :=
  match dstAt ops i with
  | some d => some d
  | none => (Via.getD i none).bind (dstAt ops)
def withOwn (sl : Nat → Option Tmp) (Vs : List Own) (B : Nat) (w : World) : List Nat → Act → (Act → Prop) → Prop
  | [], a, K => K a
  | j :: js, a, K => (Vs.getD j (.is undef)).all B w fun v => withOwn sl Vs B w js (a.put (sl j) v) K
def eaten (sl : Nat → Option Tmp) (cs : List Nat) (b : Act) (k : Nat) : Prop := ∃ j ∈ cs, ∃ d, sl j = some d ∧ blkOf (b.eval (.tmp d)) = some k
def OwnPost (L : Own) (d : Tmp) (ds : List Deferred) (X : Nat → Prop) (w : World) (e : Exit) (a' : Act) (w' : World) : Prop :=
  e = .normal ∧ L.holds (a'.eval (.tmp d)) w' ∧ a'.defers = ds ∧ Chg X w w' ∧ (L.isOwn = true → ∀ k, blkOf (a'.eval (.tmp d)) = some k → w.heap.size ≤ k ∨ X k)
def OwnOp (P : Program) (ops : Array Oper) (Via : List (Option Nat)) (a0 : Act) (w0 : World) (Vs : List Own) (i : Nat) (js cs : List Nat) (L : Own) (o : Oper) : Prop :=
  ∀ w, Below w0.heap.size w0 w → withOwn (slotO ops Via) Vs w0.heap.size w js a0 fun b => wpList P ops (OwnPost L ((slotO ops Via i).getD 0) b.defers (eaten (slotO ops Via) cs b) w) [o] b w
def OwnOps (P : Program) (ops : Array Oper) (Via : List (Option Nat)) (a0 : Act) (w0 : World) (Vs : List Own) : Nat → List (List Nat) → List (List Nat) → List Own → List Oper → Prop
  | i, js :: jss, cs :: css, L :: Ls, o :: os => OwnOp P ops Via a0 w0 Vs i js cs L o ∧ OwnOps P ops Via a0 w0 Vs (i + 1) jss css Ls os
  | _, [], [], [], [] => True
  | _, _, _, _, _ => False
def OwnEnd (B : Nat) (w : World) (K : Act → Prop) : List Bool → List Own → List Oper → Act → Prop
  | c :: cs, L :: Ls, o :: os, a => match o.dst with
    | some d => if c = true then ∀ v, OwnEnd B w K cs Ls os (a.put (some d) v) else L.all B w fun v => OwnEnd B w K cs Ls os (a.put (some d) v)
    | none => OwnEnd B w K cs Ls os a
  | _, _, _, a => K a
def ViaEnd (sl : Nat → Option Tmp) (Vs : List Own) (w : World) (a : Act) (K : Prop) : List Nat → Prop
  | [] => K
  | i :: is => (∀ d, sl i = some d → (Vs.getD i (.is undef)).holds (a.eval (.tmp d)) w) → ViaEnd sl Vs w a K is
section
variable {P : Program} {ops : Array Oper} {Q : Exit → Act → World → Prop} {a0 : Act} {w0 : World} {Vs : List Own} {Ds Cs : List (List Nat)} {Via : List (Option Nat)} {Os : List Bool} {n : Nat}
theorem OwnOps.cons {i : Nat} {js cs : List Nat} {jss css : List (List Nat)} {L : Own} {Ls : List Own} {o : Oper} {os : List Oper} (h : OwnOp P ops Via a0 w0 Vs i js cs L o) (hs : OwnOps P ops Via a0 w0 Vs (i + 1) jss css Ls os) : OwnOps P ops Via a0 w0 Vs i (js :: jss) (cs :: css) (L :: Ls) (o :: os) := ⟨h, hs⟩
theorem OwnOps.nil {i : Nat} : OwnOps P ops Via a0 w0 Vs i [] [] [] [] := trivial
theorem OwnOps.at : ∀ {i0 : Nat} {jss css : List (List Nat)} {Ls : List Own} {os : List Oper}, OwnOps P ops Via a0 w0 Vs i0 jss css Ls os → ∀ {i : Nat} {o : Oper}, os[i]? = some o → OwnOp P ops Via a0 w0 Vs (i0 + i) (jss.getD i []) (css.getD i []) (Ls.getD i (.is undef)) o
  | i0, js :: jss, cs :: css, L :: Ls, o :: os, h, 0, _, ho => by
    simp only [List.getElem?_cons_zero, Option.some.injEq] at ho
    subst ho
    exact h.1
  | i0, js :: jss, cs :: css, L :: Ls, o :: os, h, i + 1, _, ho => by
    simp only [List.getElem?_cons_succ] at ho
    have := OwnOps.at h.2 ho
    rw [show i0 + (i + 1) = i0 + 1 + i by omega]
    exact this
  | _, _, _, _, [], _, i, _, ho => by simp at ho
  | _, [], _, _, _ :: _, h, _, _, _ => by cases ‹List (List Nat)› <;> cases ‹List Own› <;> exact h.elim
  | _, _ :: _, [], _, _ :: _, h, _, _, _ => by cases ‹List Own› <;> exact h.elim
  | _, _ :: _, _ :: _, [], _ :: _, h, _, _, _ => h.elim
theorem OwnPost.no_out {L : Own} {d : Tmp} {ds : List Deferred} {X : Nat → Prop} {w : World} : ¬ LetsOut (OwnPost L d ds X w) := fun ⟨_, _, h, _⟩ => by cases h
def liveO (Cs : List (List Nat)) (listed : Array Bool) (i : Nat) : Prop := listed.getD i false = true ∧ ∀ m, listed.getD m false = true → i ∉ Cs.getD m []
structure OwnInv (ops : Array Oper) (Cs : List (List Nat)) (Via : List (Option Nat)) (a0 : Act) (w0 : World) (Vs : List Own) (listed : Array Bool) (a : Act) (w : World) : Prop where
  size : listed.size = ops.size
  below : Below w0.heap.size w0 w
  tmps : a.tmps.size = a0.tmps.size
  defers : a.defers = a0.defers
  left : ∀ i d, liveO Cs listed i → slotO ops Via i = some d → (Vs.getD i (.is undef)).holds (a.eval (.tmp d)) w
  fresh : ∀ i d k, liveO Cs listed i → slotO ops Via i = some d → (Vs.getD i (.is undef)).isOwn = true → blkOf (a.eval (.tmp d)) = some k → w0.heap.size ≤ k
  apart : ∀ i j d e k, liveO Cs listed i → liveO Cs listed j → i ≠ j → slotO ops Via i = some d → slotO ops Via j = some e → (Vs.getD i (.is undef)).isOwn = true → (Vs.getD j (.is undef)).isOwn = true →
    blkOf (a.eval (.tmp d)) = some k → blkOf (a.eval (.tmp e)) ≠ some k
  out : ∀ t : Tmp, (∀ i, listed.getD i false = true → dstAt ops i ≠ some t) → a.tmps[t]? = a0.tmps[t]?
  shut : ∀ k ok i, listed.getD k false = true → ops[k]? = some ok → bindsOn ok i = true → listed.getD i false = true
end
def OwnRun (P : Program) (op : Op) (ty : TypeId) (dst : Option Tmp) (d : Tmp) (L : Own) (X : Nat → Prop) (a : Act) (w : World) : Prop :=
  wpList P #[] (OwnPost L d a.defers X w) [⟨dst, op, ty, "", #[], none⟩] a w
section
variable {P : Program} {ops : Array Oper} {o : Oper} {a : Act} {w : World} {L : Own} {d : Tmp} {X : Nat → Prop} {Via : List (Option Nat)} {i : Nat}
theorem OwnPost.mono {X Y : Nat → Prop} (hX : ∀ k, X k → Y k) {ds : List Deferred} {e : Exit} {a' : Act} {w' : World} (h : OwnPost L d ds X w e a' w') : OwnPost L d ds Y w e a' w' := by
  obtain ⟨h1, h2, h3, h4, h5⟩ := h
  exact ⟨h1, h2, h3, ⟨h4.os, h4.tape, h4.output, h4.size, fun k hk hn => h4.block k hk (fun hx => hn (hX k hx))⟩, fun ho k hk => (h5 ho k hk).imp id (hX k)⟩
theorem OwnRun.mono {op : Op} {ty : TypeId} {dst : Option Tmp} {X0 : Nat → Prop} (hX : ∀ k, X0 k → X k) (h : OwnRun P op ty dst d L X0 a w) : OwnRun P op ty dst d L X a w := by
  unfold OwnRun wpList at h ⊢
  rw [if_pos (by rfl)] at h ⊢
  rcases h with h | h
  · refine .inl ?_
    unfold Oper.wp at *
    generalize (execOp a.eval _).run P w = r at *
    have hm : ∀ {b : Act} {w'' : World}, wpList P #[] (OwnPost L d a.defers X0 w) [] b w'' → wpList P #[] (OwnPost L d a.defers X w) [] b w'' := fun h => OwnPost.mono hX h
    cases r with
    | ok n w' =>
      cases n <;> simp only [Oper.upon] at h ⊢ <;>
        first
          | exact hm h
          | exact Calls.mono h (fun e w'' he => by cases e <;> first | exact hm he | exact OwnPost.mono hX he | exact absurd he OwnPost.no_out)
          | exact Rows.mono h (fun _ _ he => hm he)
    | halt x w' => cases x <;> simp only [Oper.upon] at h ⊢ <;> first | exact OwnPost.mono hX h | exact h
  · exact absurd h.2 OwnPost.no_out
theorem OwnEnd.is {B : Nat} {K : Act → Prop} {cs : List Bool} {x : Value} {Ls : List Own} {os : List Oper} (hd : o.dst = some d) (h : OwnEnd B w K cs Ls os (a.put (some d) x)) : OwnEnd B w K (false :: cs) (.is x :: Ls) (o :: os) a := by
  unfold OwnEnd
  rw [hd]
  exact h
theorem OwnEnd.own {B : Nat} {K : Act → Prop} {cs : List Bool} {p : Value → World → Prop} {lt st} {Ls : List Own} {os : List Oper} (hd : o.dst = some d) (h : ∀ v, p v w → (∀ k, blkOf v = some k → B ≤ k) → OwnEnd B w K cs Ls os (a.put (some d) v)) : OwnEnd B w K (false :: cs) (.own p lt st :: Ls) (o :: os) a := by
  unfold OwnEnd
  rw [hd]
  exact h
theorem OwnEnd.store {B : Nat} {K : Act → Prop} {c : Bool} {cs : List Bool} {Ls : List Own} {os : List Oper} (hd : o.dst = none) (h : OwnEnd B w K cs Ls os a) : OwnEnd B w K (c :: cs) (L :: Ls) (o :: os) a := by
  unfold OwnEnd
  rw [hd]
  exact h
theorem OwnEnd.nil {B : Nat} {K : Act → Prop} (h : K a) : OwnEnd B w K [] [] [] a := h
theorem ViaEnd.cons {sl : Nat → Option Tmp} {Vs : List Own} {K : Prop} {i : Nat} {is : List Nat} (hs : sl i = some d) (h : (Vs.getD i (.is undef)).holds (a.eval (.tmp d)) w → ViaEnd sl Vs w a K is) : ViaEnd sl Vs w a K (i :: is) := fun hv => h (hv d hs)
theorem ViaEnd.nil {sl : Nat → Option Tmp} {Vs : List Own} {K : Prop} (h : K) : ViaEnd sl Vs w a K [] := h
end
end Go.By
/- The document's numbers, highest byte first. -/
namespace Go.Proofs.Ytajfcnaifegonaa.Sl.Nd
open Go Go.RowKit Go.By
def HighRel (w0 : World) (v n : Nat) (x i : Value) (w : World) : Prop :=
  ∃ (m : Nat) (cur : Nat) (tl : List Nat), m ≤ n ∧ m + tl.length = n ∧ x = .int .u64 (cur : Nat) ∧ i = .int .i64 ((m : Int) - 1) ∧ cur < 18446744073709551616 ∧ highOf v n = highOf cur m ++ tl ∧ Filled w0 w (List.replicate m 0 ++ tl)
set_option maxRecDepth 100000 in
theorem high_any (v n : Nat) (w : World) (hv : v < 18446744073709551616) (hn : n ≤ 1000) :
    Calls Try.prog 19 #[.int .u64 v, .int .i64 n] w fun e w' => ∃ v', e = .returned v' ∧ w'.ownsRow w.heap.size 5 1 v' n (cellsOf (highOf v n)) ∧ Below w.heap.size w w' := by
  have hmk := made_run n n (n : Int) (n : Int) rfl rfl (Nat.le_refl _) (by omega)
  have HV := Lib.hid hv; clear hv
  go_enter Try.func19, Try.ntmps19
  go_wp2
  clear hmk
  have h0 : HighRel w v n (.int .u64 v) (.int .i64 ((n : Int) - 1)) (w.alloc (.cells (zeros n) 5)) :=
    ⟨n, v, [], Nat.le_refl _, by simp, rfl, rfl, HV.out, by simp, by
      refine ⟨?_, (Below.refl _ _).alloc (Nat.le_refl _) _⟩
      rw [List.append_nil]; exact heap_alloc_new w _⟩
  have H0 := Lib.hid h0; clear h0
  go_loopw [0, 6] (fun x i wr => HighRel w v n x i wr) (fun _ i _ => (intOf i + 1).toNat)
  case atStart => exact H0.out
  case round =>
    clear H0
    obtain ⟨m, cur, tl, hmn, hml, rfl, rfl, hcur, heq, hf⟩ := hrel
    cases m with
    | zero =>
      have e1 : highOf v n = tl := by simpa [highOf] using heq
      have e2 : tl.length = n := by omega
      have HO := Lib.hid (hf.owns (by simp; unfold maxLen; omega))
      have HB := Lib.hid hf.2
      have E1 := Lib.hid e1; have E2 := Lib.hid e2
      clear heq hf hmn hml hcur e1 e2
      go_wp2
      go_ret
      refine ⟨_, rfl, ?_, HB.out⟩
      have := HO.out
      rw [E1.out]
      simp only [List.replicate_zero, List.nil_append, E2.out] at this
      exact this
    | succ m =>
      have hlen : (List.replicate (m + 1) 0 ++ tl).length = n := by simp; omega
      have hc := hf.cell (i := m) (by rw [hlen]; omega)
      have hfr := hf.free m
      have hset : (List.replicate (m + 1) 0 ++ tl).set m (cur % 256) = List.replicate m 0 ++ (cur % 256 :: tl) := by
        rw [List.replicate_succ', List.append_assoc, List.set_append_right _ _ (by simp)]
        simp
      have hf2 := hf.set m (cur % 256)
      rw [hset] at hf2
      have hrel2 : HighRel w v n (.int .u64 (cur / 256 : Nat)) (.int .i64 ((m : Int) - 1)) (wr.setCell ⟨w.heap.size, m, none⟩ (.int .u8 (cur % 256 : Nat))) :=
        ⟨m, cur / 256, _, by omega, by simp; omega, rfl, rfl, by omega, by rw [heq]; simp [highOf], hf2⟩
      have HR := Lib.hid hrel2
      have hx : ((m + 1 : Nat) : Int) - 1 = (m : Int) := by omega
      rw [hx]
      have hmn' : (m : Int) < n := by omega
      have hcur' : (cur : Int) < 18446744073709551616 := by omega
      clear hset hf hf2 heq hrel2 hlen hx hml hmn hcur
      go_wp2
      go_roundw
      case rel => exact HR.out
      case measure => simp [intOf]
set_option maxRecDepth 100000 in
theorem num_any (v : Value) (l : List Nat) (w : World) (hv : Bytes w v l) (hl : l.length ≤ 8) :
    Calls Try.prog 69 #[v] w fun e w' => e = .returned (.int .u64 (numOf l : Nat)) ∧ w = w' := by
  obtain ⟨p, cap, rfl, _⟩ := hv.any
  have HV := Lib.hid hv; clear hv
  go_enter Try.func69, Try.ntmps69
  go_wp2
  go_loop [3, 4] (fun x i => ∃ k : Nat, k ≤ l.length ∧ i = .int .i64 k ∧ x = .int .u64 (numOf (l.take k) : Nat)) (fun _ i => l.length - (intOf i).toNat)
  case atStart => exact ⟨0, by omega, rfl, rfl⟩
  case round =>
    obtain ⟨k, hk, rfl, rfl⟩ := hrel
    by_cases hlt : k < l.length
    · obtain ⟨b1, o1, rfl, hcell⟩ := HV.out.spot k hlt
      have hn : numOf (l.take k) < 72057594037927936 := by
        have h1 := numOf_lt (l.take k) (fun c hc => HV.out.small c (List.mem_of_mem_take hc))
        have h2 : 256 ^ (l.take k).length ≤ 256 ^ 7 := Nat.pow_le_pow_right (by omega) (by rw [List.length_take]; omega)
        exact Nat.lt_of_lt_of_le h1 (Nat.le_trans h2 (by decide))
      have hcl : atB l k < 256 := HV.out.at_lt hlt
      have hs : numOf (l.take (k + 1)) = numOf (l.take k) * 256 + atB l k := by
        rw [List.take_succ_eq_append_getElem hlt, numOf_snoc, atB_of hlt]
      have HS := Lib.hid hs; clear hs
      generalize numOf (l.take k) = x at *
      generalize atB l k = y at *
      have hx : (x : Int) < 72057594037927936 := by omega
      have hy : (y : Int) < 256 := by omega
      clear hn hcl
      go_wp2
      go_round
      case rel => exact ⟨k + 1, by omega, by go_num, by rw [HS.out]; go_num⟩
      case measure => simp [intOf]; omega
    · obtain rfl : k = l.length := by omega
      rw [List.take_length]
      go_wp2
      go_ret
      exact ⟨rfl, rfl⟩
end Go.Proofs.Ytajfcnaifegonaa.Sl.Nd
