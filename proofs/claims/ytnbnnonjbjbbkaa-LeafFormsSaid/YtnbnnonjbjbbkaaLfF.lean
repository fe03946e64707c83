/- Rows of changes in a program: Rising. -/
import Derived.Test.YtnbnnonjbjbbkaaLfC
namespace Go.By
open Go Go.RowKit
def lastOf : List Nat → List NCh → List Nat
  | p, [] => p
  | _, c :: r => lastOf c.k r
theorem rises_snoc : ∀ (l : List NCh) (p : List Nat) (c : NCh), risesCh p (l ++ [c]) = (risesCh p l && okCh (lastOf p l) c)
  | [], p, c => by simp [risesCh, lastOf]
  | d :: l, p, c => by
    rw [List.cons_append, risesCh, rises_snoc l d.k c, risesCh, lastOf, Bool.and_assoc]
theorem lastOf_snoc : ∀ (l : List NCh) (p : List Nat) (c : NCh), lastOf p (l ++ [c]) = c.k
  | [], _, _ => rfl
  | d :: l, _, c => by rw [List.cons_append, lastOf, lastOf_snoc l d.k c]
theorem rises_app : ∀ (l m : List NCh) (p : List Nat), risesCh p (l ++ m) = (risesCh p l && risesCh (lastOf p l) m)
  | [], m, p => by simp [risesCh, lastOf]
  | d :: l, m, p => by rw [List.cons_append, risesCh, rises_app l m d.k, risesCh, lastOf, Bool.and_assoc]
theorem rises_bad {l : List NCh} {k : Nat} (h : k < l.length) {p : List Nat} (hb : okCh (lastOf p (l.take k)) l[k] = false) : risesCh p l = false := by
  have e : l = l.take (k + 1) ++ l.drop (k + 1) := (List.take_append_drop _ _).symm
  rw [e, rises_app, List.take_succ_eq_append_getElem h, rises_snoc, hb]
  simp
end Go.By
namespace Go.Proofs.Ytnbnnonjbjbbkaa
open Go Go.RowKit Go.By

set_option maxRecDepth 100000 in
theorem mostVal_any (a b : Value) (c : NCh) (w : World) (ha : Bytes w a c.k) (hb : Bytes w b c.v) :
    Calls Try.prog 21 #[.agg #[a, b, .bool c.out]] w fun e w' => e = .returned (.int .i64 (mostVal c : Nat)) ∧ w' = w.alloc (.cells #[a, b, .bool c.out] 29) := by
  obtain ⟨qa, ca, rfl, -⟩ := ha.any
  obtain ⟨qb, cb, rfl, -⟩ := hb.any
  have HE : Hid (mostVal c = if c.out = true then 0 else 120) := rfl
  generalize mostVal c = m at *
  generalize c.out = o at *
  generalize c.k.length = l1 at *
  generalize c.v.length = l2 at *
  clear ha hb
  cases o with
  | true =>
    go_enter Try.func21, Try.ntmps21
    go_wp2
    go_ret
    exact ⟨by rw [HE.out]; rfl, rfl⟩
  | false =>
    go_enter Try.func21, Try.ntmps21
    go_wp2
    go_ret
    exact ⟨by rw [HE.out]; rfl, rfl⟩

/-- Where the last key lies. -/
def RiAt (w : World) (r : Nat) (v : Value) : Prop := w.heap[r]? = some (.cells #[v] 40 (0, 0))
/-- It breaks, or not; only the last key turned. -/
def Breaks (w : World) (r : Nat) (x : Bool) (a : Value) (e : Ending) (w' : World) : Prop := e = .returned (.bool x) ∧ RiAt w' r a ∧ Only r w w'
theorem okCh_less {p : List Nat} {c : NCh} (h : decide (cmpN p c.k < 0) = false) (hp : ∀ x ∈ p, x < 256) (hk : ∀ x ∈ c.k, x < 256) : okCh p c = false := by
  unfold okCh
  rw [← cmpN_less hp hk, h]
  rfl
theorem okCh_long {p : List Nat} {c : NCh} (h : ¬ c.k.length ≤ 40) : okCh p c = false := by
  unfold okCh
  rw [decide_eq_false h]
  simp
theorem okCh_val {p : List Nat} {c : NCh} (h : decide (cmpN p c.k < 0) = true) (hp : ∀ x ∈ p, x < 256) (hk : ∀ x ∈ c.k, x < 256) (hl : c.k.length ≤ 40) : okCh p c = decide (c.v.length ≤ mostVal c) := by
  unfold okCh
  rw [← cmpN_less hp hk, h, decide_eq_true hl]
  simp

theorem Bytes.only {w w' : World} {r : Nat} {q : Option Addr} {n c : Nat} {v : Value} {l : List Nat} (h : Bytes w v l) (hr : RiAt w r (.slice q n c)) (ho : Only r w w') : Bytes w' v l := by
  refine ⟨?_, h.small, h.short⟩
  rcases h.out with h1 | h1 | ⟨b, o, cap, rfl, hc, hcell⟩
  · exact .inl h1
  · exact .inr (.inl h1)
  · refine .inr (.inr ⟨b, o, cap, rfl, hc, fun i hi => ?_⟩)
    have h0 := hcell i hi
    have hlt : b < w.heap.size := block_lt_of_cell h0
    have hne : b ≠ r := by
      rintro rfl
      rw [cells_of hr] at h0
      cases hx : o + i with
      | zero => rw [hx] at h0; simp at h0
      | succ j => rw [hx] at h0; simp at h0
    exact (World.cell?_of_block (a := ⟨b, o + i, none⟩) (ho.block b hlt hne)).trans h0

set_option maxRecDepth 100000 in
set_option maxHeartbeats 1000000 in
theorem breaksAt_any (r : Nat) (lv a b : Value) (p : List Nat) (c : NCh) (w : World) (h : RiAt w r lv) (hl : Bytes w lv p) (ha : Bytes w a c.k) (hb : Bytes w b c.v) :
    Calls Try.prog 11 #[.pointer (some ⟨r, 0, none⟩), .agg #[a, b, .bool c.out]] w (Breaks w r (!okCh p c) a) := by
  obtain ⟨W, hW⟩ : ∃ W, W = w.alloc (.cells #[a, b, .bool c.out] 29) := ⟨_, rfl⟩
  have hrl : r < w.heap.size := (Array.getElem?_eq_some_iff.1 h).1
  have hbW : Below w.heap.size w W := by rw [hW]; exact (Below.refl _ _).alloc (Nat.le_refl _) _
  have hbox : W.heap[w.heap.size]? = some (.cells #[a, b, .bool c.out] 29 (0, 0)) := by rw [hW]; exact heap_alloc_new w _
  have hri : RiAt W r lv := (hbW.block _ hrl).trans h
  have HC := Lib.hid (fun nq => compare_any lv a p c.k (W.drewN nq) (bytes_drewN (hl.below hbW) nq) (bytes_drewN (ha.below hbW) nq))
  have r0 := cells_of hri 0
  have k0 := cells_of hbox 0; have k1 := cells_of hbox 1; have k2 := cells_of hbox 2
  have fr0 := free_of hri 0
  simp only [List.getElem?_toArray, List.getElem?_cons_zero, List.getElem?_cons_succ] at r0 k0 k1 k2
  have hBA := fun nq => (bytes_drewN (ha.below hbW) nq); have hBB := fun nq => (bytes_drewN (hb.below hbW) nq)
  obtain ⟨ql, cl, rfl, -⟩ := hl.any
  have HS : Hid (∀ nq, RiAt ((W.drewN nq).setCell ⟨r, 0, none⟩ a) r a ∧ Only r w ((W.drewN nq).setCell ⟨r, 0, none⟩ a) ∧ ((W.drewN nq).setCell ⟨r, 0, none⟩ a).heap[w.heap.size]? = some (.cells #[a, b, .bool c.out] 29 (0, 0)) ∧ Bytes ((W.drewN nq).setCell ⟨r, 0, none⟩ a) a c.k ∧ Bytes ((W.drewN nq).setCell ⟨r, 0, none⟩ a) b c.v) := fun nq =>
    have hr' : RiAt (W.drewN nq) r (.slice ql p.length cl) := hri
    have ho : Only r (W.drewN nq) ((W.drewN nq).setCell ⟨r, 0, none⟩ a) := Only.set r 0 _ a
    ⟨set_heap hr' 0 a, ((Only.of_below hbW).trans (Only.drewN r W nq)).trans ho, (ho.block _ (Array.getElem?_eq_some_iff.1 hbox).1 (by omega)).trans hbox, Bytes.only (hBA nq) hr' ho, Bytes.only (hBB nq) hr' ho⟩
  have HLE := Lib.hid (fun h => okCh_less (p := p) (c := c) h hl.small ha.small)
  have HLO := Lib.hid (fun h => okCh_long (p := p) (c := c) h)
  have HVA := Lib.hid (fun h => okCh_val (p := p) (c := c) h hl.small ha.small)
  obtain ⟨qa, ca, rfl, -⟩ := ha.any
  obtain ⟨qb, cb, rfl, -⟩ := hb.any
  have hM : (mostVal c : Int) ≤ 120 := by unfold mostVal; split <;> omega
  have HMV : Hid (∀ w1 : World, Bytes w1 (.slice qa c.k.length ca) c.k → Bytes w1 (.slice qb c.v.length cb) c.v → Calls Try.prog 21 #[.agg #[.slice qa c.k.length ca, .slice qb c.v.length cb, .bool c.out]] w1 fun e w' => e = .returned (.int .i64 (mostVal c : Nat)) ∧ w' = w1.alloc (.cells #[.slice qa c.k.length ca, .slice qb c.v.length cb, .bool c.out] 29)) := fun w1 h1 h2 => mostVal_any _ _ c w1 h1 h2
  have hl9 : (c.v.length : Int) ≤ 9223372036854775807 := by have := hb.short; unfold maxLen at this; omega
  have hne : w.heap.size ≠ r := by omega
  have HW := Lib.hid hW
  clear h hl ha hb hbW hbox hri hW hBA hBB hrl
  generalize okCh p c = ok at *
  generalize cmpN p c.k = x at *
  generalize mostVal c = m at *
  generalize c.out = o at *
  generalize p.length = l0 at *
  have HSK : Hid (∀ w1 : World, Bytes w1 (.slice qa c.k.length ca) c.k → (c.k.length ≤ 40 ∨ ¬ c.k.length ≤ 40)) := fun _ _ => Classical.em _
  go_enter Try.func11, Try.ntmps11
  go_wp2
  rw [← HW.out]
  go_quiet ((go_at_call 20; exact Calls.quiet_of_same (HC.out _)))
  obtain ⟨s1, s2, s3, s4, s5⟩ := HS.out nq
  have S1 := Lib.hid s1; have S2 := Lib.hid s2; have S3 := Lib.hid s3; have S4 := Lib.hid s4; have S5 := Lib.hid s5
  clear s1 s2 s3 s4 s5 HS HC HSK
  obtain ⟨W2, hW2⟩ : ∃ W2, W2 = (W.drewN nq).setCell ⟨r, 0, none⟩ (.slice qa c.k.length ca) := ⟨_, rfl⟩
  rw [← hW2] at S1 S2 S3 S4 S5
  have HW2 := Lib.hid hW2
  have g0 := cells_of S3.out 0; have g1 := cells_of S3.out 1; have g2 := cells_of S3.out 2
  simp only [List.getElem?_toArray, List.getElem?_cons_zero, List.getElem?_cons_succ] at g0 g1 g2
  have HCALL : Hid (∀ w1 : World, w1.heap = W2.heap → w1.os = W2.os → w1.tape = W2.tape → w1.output = W2.output → Calls Try.prog 21 #[.agg #[.slice qa c.k.length ca, .slice qb c.v.length cb, .bool o]] w1 fun e w' => e = .returned (.int .i64 (m : Nat)) ∧ w'.cell? ⟨w.heap.size, 0, none⟩ = some (.slice qa c.k.length ca) ∧ w'.cell? ⟨w.heap.size, 1, none⟩ = some (.slice qb c.v.length cb) ∧ w'.cell? ⟨w.heap.size, 2, none⟩ = some (.bool o) ∧ RiAt w' r (.slice qa c.k.length ca) ∧ Only r w w') := fun w1 e1 e2 e3 e4 => by
    have hb := below_same e1 e2 e3 e4
    refine (HMV.out w1 (S4.out.below hb) (S5.out.below hb)).mono ?_
    rintro e w' ⟨rfl, rfl⟩
    have hb2 : Below W2.heap.size W2 (w1.alloc (.cells #[.slice qa c.k.length ca, .slice qb c.v.length cb, .bool o] 29)) := hb.alloc hb.size _
    have h3 := (hb2.block _ (Array.getElem?_eq_some_iff.1 S3.out).1).trans S3.out
    exact ⟨rfl, cells_of h3 0, cells_of h3 1, cells_of h3 2, (hb2.block _ (Array.getElem?_eq_some_iff.1 S1.out).1).trans S1.out, S2.out.trans (Only.of_below hb2)⟩
  clear hW2 HMV S3 S4 S5
  generalize c.k.length = l1 at *
  generalize c.v.length = l2 at *
  cases hx : decide (x < 0) with
  | false =>
    have E := Lib.hid (HLE.out hx)
    clear hx HLE HLO HVA
    go_wp2
    rw [← HW2.out]
    go_quiet (fail)
    go_wp2
    go_ret
    exact ⟨by rw [E.out]; rfl, S1.out, S2.out.trans (Only.drewN r W2 _)⟩
  | true =>
    by_cases hl : l1 ≤ 40
    · have E := Lib.hid (HVA.out hx hl)
      have hd : decide ((40 : Int) < l1) = false := by simp; omega
      clear hx HLE HLO HVA
      go_wp2
      rw [← HW2.out]
      go_region_held3 (fun w' => w'.cell? ⟨w.heap.size, 0, none⟩ = some (.slice qa l1 ca) ∧ w'.cell? ⟨w.heap.size, 1, none⟩ = some (.slice qb l2 cb) ∧ w'.cell? ⟨w.heap.size, 2, none⟩ = some (.bool o)) (go_keep)
        (first | (go_at_call 21; refine (HCALL.out _ (by rfl) (by rfl) (by rfl) (by rfl)).mono ?_; rintro e w2 ⟨rfl, d0, d1, d2, dr, dO⟩))
      have E2 : Hid (decide (m < l2) = !ok) := by unfold Hid; rw [E.out]; by_cases h : l2 ≤ m <;> simp [h] <;> omega
      have HR := Lib.hid dr; have HO := Lib.hid dO
      clear d0 d1 d2 dr dO
      go_wp2
      go_ret
      exact ⟨by rw [← E2.out]; rfl, HR.out, HO.out⟩
    · have E := Lib.hid (HLO.out hl)
      have hd : decide ((40 : Int) < l1) = true := by simp; omega
      clear hx HLE HLO HVA
      go_wp2
      rw [← HW2.out]
      go_quiet (fail)
      go_wp2
      go_ret
      exact ⟨by rw [E.out]; rfl, S1.out, S2.out.trans (Only.drewN r W2 _)⟩

def IdxRel (w : World) (r : Nat) (l : List NCh) (i : Value) (W : World) : Prop :=
  ∃ (k : Nat) (q : Option Addr) (n c : Nat), k ≤ l.length ∧ i = .int .i64 k ∧ risesCh [] (l.take k) = true ∧ RiAt W r (.slice q n c) ∧ Only r w W ∧ Bytes W (.slice q n c) (lastOf [] (l.take k))
/-- A number is told that is below 0 where they rise. -/
def IdxTold (w : World) (r : Nat) (l : List NCh) (e : Ending) (w' : World) : Prop := ∃ x : Int, e = .returned (.int .i64 x) ∧ decide (0 ≤ x) = (!risesCh [] l) ∧ Only r w w'

set_option maxRecDepth 100000 in
set_option maxHeartbeats 1000000 in
theorem indexFunc_any (w0 : World) (p : Option Addr) (cap : Nat) (l : List NCh) (r : Nat) (w : World) (hl : RowAt KChange w0 p cap l) (hb : Below w0.heap.size w0 w) (hr : w0.heap.size ≤ r) (hri : RiAt w r (.slice none 0 0)) :
    Calls Try.prog 19 #[.slice p l.length cap, .func (.func 11) #[.pointer (some ⟨r, 0, none⟩)] #[]] w (IdxTold w r l) := by
  have H0 : Hid (IdxRel w r l (.int .i64 (0 : Nat)) w) := ⟨0, none, 0, 0, Nat.zero_le _, rfl, rfl, hri, Only.refl _ _, Bytes.nil _⟩
  have hN9 : (l.length : Int) ≤ 9223372036854775807 := by have := hl.le; have := hl.most; unfold maxLen at this; omega
  have HL := Lib.hid hl; have HB := Lib.hid hb; have HR := Lib.hid hr
  obtain ⟨N, hN⟩ : ∃ N, N = l.length := ⟨_, rfl⟩
  have HN := Lib.hid hN
  rw [← hN] at hN9 ⊢
  clear hl hb hr hri hN
  go_enter Try.func19, Try.ntmps19
  go_wp2
  go_loopw [8] (fun i W => IdxRel w r l i W) (fun i _ => N - (intOf i).toNat)
  case atStart => exact H0.out
  case round =>
    clear H0
    obtain ⟨k, q, n, c, hk, rfl, hrise, hri, ho, hby⟩ := hrel
    by_cases hlt : k < N
    · have hkl : k < l.length := by rw [← HN.out]; exact hlt
      have hbr : Below w0.heap.size w0 wr := Below.only HB.out HR.out HB.out.size ho
      obtain ⟨lb, lo, cs, rfl, hcs, a, b, rfl, ha, hbv⟩ := HL.out.at_ k hkl
      obtain ⟨e0, e1, e2⟩ := (hcs.below hbr).three
      simp only [KChange] at e0 e1 e2
      have HC := Lib.hid (breaksAt_any r _ a b _ l[k] wr hri hby (ha.below hbr) (hbv.below hbr))
      have hsn : risesCh [] (l.take (k + 1)) = okCh (lastOf [] (l.take k)) l[k] := by
        rw [List.take_succ_eq_append_getElem hkl, rises_snoc, hrise]; rfl
      have hls : lastOf [] (l.take (k + 1)) = l[k].k := by rw [List.take_succ_eq_append_getElem hkl, lastOf_snoc]
      have HBAD : Hid (okCh (lastOf [] (l.take k)) l[k] = false → risesCh [] l = false) := fun h => rises_bad hkl h
      have HBY : Hid (∀ W, Below w0.heap.size w0 W → Bytes W a l[k].k) := fun W hW => ha.below hW
      obtain ⟨qa, ca, rfl, -⟩ := ha.any
      obtain ⟨qb, cb, rfl, -⟩ := hbv.any
      have HNX : Hid (okCh (lastOf [] (l.take k)) l[k] = true → ∀ W, RiAt W r (.slice qa l[k].k.length ca) → Only r wr W → IdxRel w r l (.int .i64 (k + 1 : Nat)) W) := fun h W h1 h2 =>
        ⟨k + 1, qa, _, ca, hkl, rfl, by rw [hsn]; exact h, h1, ho.trans h2, by rw [hls]; exact HBY.out W (Below.only hbr HR.out hbr.size h2)⟩
      have HO := Lib.hid ho
      have HLT := Lib.hid hlt
      generalize okCh (lastOf [] (l.take k)) l[k] = ok at *
      generalize l[k].k.length = l1 at *
      generalize l[k].v.length = l2 at *
      generalize l[k].out = o at *
      clear ha hbv hcs hri hby hrise hsn hls hbr HBY hkl ho
      go_wp2_with fail
      refine HC.out.mono ?_
      rintro e w2 ⟨rfl, hr2, ho2⟩
      cases ok with
      | true =>
        have HX := Lib.hid (HNX.out rfl w2 hr2 ho2)
        clear HC HNX HBAD hr2 ho2
        go_wp2
        go_roundw
        case rel => exact HX.out
        case measure => simp [intOf]; have := HLT.out; omega
      | false =>
        have E := Lib.hid (HBAD.out rfl)
        have HX := Lib.hid (HO.out.trans ho2)
        clear HC HNX HBAD hr2 ho2
        go_wp2
        go_ret
        exact ⟨_, rfl, by rw [E.out]; simp, HX.out⟩
    · obtain rfl : k = N := by have := HN.out; omega
      rw [List.take_of_length_le (by rw [← HN.out]; exact Nat.le_refl _)] at hrise
      have E := Lib.hid hrise
      have HX := Lib.hid ho
      clear hrise hri ho hby
      go_wp2
      go_ret
      exact ⟨_, rfl, by rw [E.out]; rfl, HX.out⟩

set_option maxRecDepth 100000 in
theorem containsFunc_any (w0 : World) (p : Option Addr) (cap : Nat) (l : List NCh) (r : Nat) (w : World) (hl : RowAt KChange w0 p cap l) (hb : Below w0.heap.size w0 w) (hr : w0.heap.size ≤ r) (hri : RiAt w r (.slice none 0 0)) :
    Calls Try.prog 10 #[.slice p l.length cap, .func (.func 11) #[.pointer (some ⟨r, 0, none⟩)] #[]] w fun e w' => e = .returned (.bool (!risesCh [] l)) ∧ Only r w w' := by
  have HC := Lib.hid (indexFunc_any w0 p cap l r w hl hb hr hri)
  generalize l.length = N at *
  clear hl hb hr hri
  go_enter Try.func10, Try.ntmps10
  go_wp2_with fail
  refine HC.out.mono ?_
  rintro e w2 ⟨x, rfl, hx, ho⟩
  have HX := Lib.hid hx; have HO := Lib.hid ho
  clear hx ho HC
  go_wp2
  go_ret
  exact ⟨by rw [← HX.out]; rfl, HO.out⟩

set_option maxRecDepth 100000 in
theorem rising_any (p : Option Addr) (cap : Nat) (l : List NCh) (w : World) (hl : RowAt KChange w p cap l) :
    Calls Try.prog 7 #[.slice p l.length cap] w fun e w' => e = .returned (.bool (risesCh [] l)) ∧ Below w.heap.size w w' := by
  have hb : Below w.heap.size w (w.alloc (.cells #[.slice none 0 0] 40)) := (Below.refl _ _).alloc (Nat.le_refl _) _
  have HC := Lib.hid (containsFunc_any w p cap l w.heap.size (w.alloc (.cells #[.slice none 0 0] 40)) hl hb (Nat.le_refl _) (heap_alloc_new w _))
  have HB := Lib.hid hb
  generalize l.length = N at *
  clear hl hb
  go_enter Try.func7, Try.ntmps7
  go_wp2_with fail
  refine HC.out.mono ?_
  rintro e w2 ⟨rfl, ho⟩
  have HO : Hid (Below w.heap.size w w2) := Below.only HB.out (Nat.le_refl _) HB.out.size ho
  clear ho HC
  go_wp2
  go_ret
  exact ⟨by simp, HO.out⟩
end Go.Proofs.Ytnbnnonjbjbbkaa

