/- Nodes in a program: what the laws say of them; it has begun. -/
import Derived.Test.YtajfcnaifegonaaMTrW
import Derived.Test.YtajfcnaifegonaaMCloneG
import Derived.Test.YtajfcnaifegonaaMLits
import Derived.Test.YtajfcnaifegonaaMSlA
import Derived.Lib.SlBytesConst
import Derived.Lib.SmallJoins
import Derived.Test.YtajfcnaifegonaaMTrR
import Derived.Test.YtajfcnaifegonaaMSlB
import Derived.Test.YtajfcnaifegonaaMCmpM
import Derived.Handy
import Derived.BigQuiet
import Derived.Deep.QuietTactic
namespace Go.Proofs.Ytajfcnaifegonaa.Sl.Nd
open Go Go.RowKit Go.By
def first1 : List NIt → List Nat
  | [] => []
  | i :: _ => i.k
theorem first1_at : ∀ {l : List NIt} (h : 0 < l.length), first1 l = l[0].k
  | _ :: _, _ => rfl
def first2 : List (List Nat) → List Nat
  | [] => []
  | k :: _ => k
theorem first2_at : ∀ {l : List (List Nat)} (h : 0 < l.length), first2 l = l[0]
  | _ :: _, _ => rfl
def lst (n : Nd) : List Nat := if n.leaf = true then first1 n.its else first2 n.ks
def LstTold (w : World) (n : Nd) (z : Ending) (w' : World) : Prop := ∃ v', z = .returned v' ∧ w'.ownsRow w.heap.size 5 1 v' (lst n).length (cellsOf (lst n)) ∧ Below w.heap.size w w'
theorem lst_lf {n : Nd} (h : n.leaf = true) (h0 : 0 < n.its.length) : lst n = n.its[0].k := by
  unfold lst
  rw [if_pos h, first1_at h0]
theorem lst_in {n : Nd} (h : n.leaf = false) (h0 : 0 < n.ks.length) : lst n = n.ks[0] := by
  unfold lst
  rw [h]
  exact first2_at h0
theorem lst_lf0 {n : Nd} (h : n.leaf = true) (h0 : ¬ 0 < n.its.length) : lst n = [] := by
  unfold lst
  rw [if_pos h, List.eq_nil_of_length_eq_zero (l := n.its) (by omega)]
  rfl
theorem lst_in0 {n : Nd} (h : n.leaf = false) (h0 : ¬ 0 < n.ks.length) : lst n = [] := by
  unfold lst
  rw [h, List.eq_nil_of_length_eq_zero (l := n.ks) (by omega)]
  rfl
set_option maxRecDepth 100000 in
theorem least_any {w : World} {v : Value} {n : Nd} {pi pk pd : Option Addr} {ci ck cd : Nat} (h : IsNd w v n pi ci pk ck pd cd) (hs : (lst n).length ≤ 1000) :
    Calls Try.prog 67 #[v] w (LstTold w n) := by
  have hv := h.val
  subst hv
  obtain ⟨W, hW⟩ : ∃ W, W = w.alloc (.cells #[.bool n.leaf, .slice pi n.its.length ci, .slice pk n.ks.length ck, .slice pd n.kids.length cd] 93) := ⟨_, rfl⟩
  have hb : Below w.heap.size w W := by rw [hW]; exact (Below.refl w.heap.size w).alloc (Nat.le_refl _) _
  have hx : NdAt W w.heap.size n pi ci pk ck pd cd := by rw [hW]; exact NdAt.new ..
  have HI := Lib.hid (h.its.below hb)
  have HK := Lib.hid (h.ks.below hb)
  have hi9 : (n.its.length : Int) ≤ 9223372036854775807 := by have := h.its.le; have := h.its.most; unfold maxLen at this; omega
  have hk9 : (n.ks.length : Int) ≤ 9223372036854775807 := by have := h.ks.le; have := h.ks.most; unfold maxLen at this; omega
  have HB := Lib.hid hb; have HX := Lib.hid hx; have HW := Lib.hid hW; have HS := Lib.hid hs
  have HTO : Hid (∀ z w', (∃ v', z = .returned v' ∧ w'.ownsRow w.heap.size 5 1 v' (lst n).length (cellsOf (lst n)) ∧ Below w.heap.size w w') → LstTold w n z w') := fun _ _ h => h
  clear h hW hb hx hs
  obtain ⟨c0, c1, c2, c3⟩ := HX.out.cells
  cases hlf : n.leaf with
  | true =>
    by_cases h0 : 0 < n.its.length
    · have HL := Lib.hid (lst_lf hlf h0)
      obtain ⟨lb, lo, rfl, hat⟩ := HI.out.some h0
      obtain ⟨cs, hc, a, b, rfl, ha, _⟩ := hat 0 h0
      obtain ⟨e0, _⟩ := hc.two
      simp only [KItem, Nat.zero_mul, Nat.add_zero] at e0
      generalize n.its[0] = it at *
      have hc2 := clone_any a it.k W ha (by rw [← HL.out]; have := HS.out; omega)
      rw [← HL.out] at hc2
      obtain ⟨qa, ca, rfl, -⟩ := ha.any
      have HC := Lib.hid hc2
      have h0i : (0 : Int) < n.its.length := by omega
      rw [hlf] at c0 HW
      rw [HW.out] at e0
      clear hc2 ha hc hat HL
      generalize it.k.length = lk at *
      generalize n.its.length = NI at *
      go_enter Try.func67, Try.ntmps67
      go_wp2_with fail
      rw [← HW.out]
      refine HC.out.mono ?_
      rintro e w2 ⟨v2, rfl, ho, hb2⟩
      have HF := Lib.hid (HTO.out (.returned v2) w2 ⟨v2, rfl, owns_base ho HB.out.size, HB.out.trans (hb2.mono HB.out.size)⟩)
      obtain ⟨p2, c2', rfl⟩ := shape_of ho
      generalize (lst n).length = LL at *
      clear ho hb2
      go_wp2
      go_ret
      exact HF.out
    · have HL := Lib.hid (lst_lf0 hlf h0)
      have h0i : ¬ (0 : Int) < n.its.length := by omega
      have HF : Hid (LstTold w n (.returned (.slice none 0 0)) W) := HTO.out _ _ ⟨_, rfl, by rw [HL.out]; exact World.ownsRow_nil _ _ _ _, HB.out⟩
      rw [hlf] at c0 HW
      generalize n.its.length = NI at *
      go_enter Try.func67, Try.ntmps67
      go_wp2
      rw [← HW.out]
      go_ret
      exact HF.out
  | false =>
    by_cases h0 : 0 < n.ks.length
    · have HL := Lib.hid (lst_in hlf h0)
      obtain ⟨lb, lo, rfl, hat⟩ := HK.out.some h0
      obtain ⟨cs, hc, a, rfl, ha⟩ := hat 0 h0
      have e0 := hc.one
      simp only [KBytes, Nat.zero_mul, Nat.add_zero] at e0
      generalize n.ks[0] = it at *
      have hc2 := clone_any a it W ha (by rw [← HL.out]; have := HS.out; omega)
      rw [← HL.out] at hc2
      obtain ⟨qa, ca, rfl, -⟩ := ha.any
      have HC := Lib.hid hc2
      have h0i : (0 : Int) < n.ks.length := by omega
      rw [hlf] at c0 HW
      rw [HW.out] at e0
      clear hc2 ha hc hat HL
      generalize it.length = lk at *
      generalize n.ks.length = NI at *
      go_enter Try.func67, Try.ntmps67
      go_wp2_with fail
      rw [← HW.out]
      refine HC.out.mono ?_
      rintro e w2 ⟨v2, rfl, ho, hb2⟩
      have HF := Lib.hid (HTO.out (.returned v2) w2 ⟨v2, rfl, owns_base ho HB.out.size, HB.out.trans (hb2.mono HB.out.size)⟩)
      obtain ⟨p2, c2', rfl⟩ := shape_of ho
      generalize (lst n).length = LL at *
      clear ho hb2
      go_wp2
      go_ret
      exact HF.out
    · have HL := Lib.hid (lst_in0 hlf h0)
      have h0i : ¬ (0 : Int) < n.ks.length := by omega
      have HF : Hid (LstTold w n (.returned (.slice none 0 0)) W) := HTO.out _ _ ⟨_, rfl, by rw [HL.out]; exact World.ownsRow_nil _ _ _ _, HB.out⟩
      rw [hlf] at c0 HW
      generalize n.ks.length = NI at *
      go_enter Try.func67, Try.ntmps67
      go_wp2
      rw [← HW.out]
      go_ret
      exact HF.out
def sumCt : List NKd → Nat
  | [] => 0
  | d :: r => d.ct + sumCt r
theorem sumCt_at : ∀ {l : List NKd} {k : Nat} (h : k < l.length), sumCt (l.take (k + 1)) = sumCt (l.take k) + l[k].ct
  | d :: r, 0, _ => by simp [sumCt]
  | d :: r, k + 1, h => by
    rw [List.take_succ_cons, sumCt, sumCt_at (by simpa using h), List.take_succ_cons, sumCt, List.getElem_cons_succ]
    omega
theorem sumCt_take : ∀ (l : List NKd) (k : Nat), sumCt (l.take k) ≤ sumCt l
  | [], k => by simp
  | d :: r, 0 => by simp [sumCt]
  | d :: r, k + 1 => by
    rw [List.take_succ_cons, sumCt, sumCt]
    have := sumCt_take r k
    omega
def cnt (n : Nd) : Nat := if n.leaf = true then n.its.length else sumCt n.kids
def CntRel (w : World) (kids : List NKd) (s i : Value) (wr : World) : Prop :=
  ∃ k : Nat, k ≤ kids.length ∧ i = .int .i64 k ∧ s = .int .u64 (sumCt (kids.take k) : Nat) ∧ Below w.heap.size w wr
set_option maxRecDepth 100000 in
theorem count_any {w : World} {v : Value} {n : Nd} {pi pk pd : Option Addr} {ci ck cd : Nat} (h : IsNd w v n pi ci pk ck pd cd) (hs : sumCt n.kids ≤ 17592186044416) :
    Calls Try.prog 68 #[v] w fun z w' => z = .returned (.int .u64 (cnt n : Nat)) ∧ Below w.heap.size w w' := by
  have hv := h.val
  subst hv
  obtain ⟨W, hW⟩ : ∃ W, W = w.alloc (.cells #[.bool n.leaf, .slice pi n.its.length ci, .slice pk n.ks.length ck, .slice pd n.kids.length cd] 93) := ⟨_, rfl⟩
  have hb : Below w.heap.size w W := by rw [hW]; exact (Below.refl w.heap.size w).alloc (Nat.le_refl _) _
  have hx : NdAt W w.heap.size n pi ci pk ck pd cd := by rw [hW]; exact NdAt.new ..
  have HD := Lib.hid (h.kids.below hb)
  have hi9 : (n.its.length : Int) ≤ 9223372036854775807 := by have := h.its.le; have := h.its.most; unfold maxLen at this; omega
  have hk9 : (n.kids.length : Int) ≤ 9223372036854775807 := by have := h.kids.le; have := h.kids.most; unfold maxLen at this; omega
  have HB := Lib.hid hb; have HX := Lib.hid hx; have HW := Lib.hid hW; have HS := Lib.hid hs
  have HC : Hid (cnt n = if n.leaf = true then n.its.length else sumCt n.kids) := rfl
  clear h hW hb hx hs
  obtain ⟨c0, c1, c2, c3⟩ := HX.out.cells
  cases hlf : n.leaf with
  | true =>
    have E : Hid (cnt n = n.its.length) := by unfold Hid; rw [HC.out, if_pos hlf]
    have hwu : IntKind.u64.wrap (n.its.length : Int) = n.its.length := by rw [IntKind.wrap_u64]; omega
    rw [hlf] at c0 HW
    go_enter Try.func68, Try.ntmps68
    go_wp2
    rw [← HW.out]
    go_ret
    exact ⟨by rw [E.out]; rfl, HB.out⟩
  | false =>
    have E : Hid (cnt n = sumCt n.kids) := by unfold Hid; rw [HC.out, hlf]; rfl
    have H0 : Hid (CntRel W n.kids (.int .u64 0) (.int .i64 (0 : Nat)) W) := ⟨0, Nat.zero_le _, rfl, rfl, Below.refl _ _⟩
    obtain ⟨N, hN⟩ : ∃ N, N = n.kids.length := ⟨_, rfl⟩
    have HN := Lib.hid hN
    rw [hlf] at c0 HW
    rw [← hN] at c3 hk9 HW ⊢
    clear hN
    go_enter Try.func68, Try.ntmps68
    go_wp2
    rw [← HW.out]
    go_loopw [3, 15] (fun s i w' => CntRel W n.kids s i w') (fun _ i _ => N - (intOf i).toNat)
    case atStart => exact H0.out
    case round =>
      clear H0
      obtain ⟨k, hk, rfl, rfl, hbl⟩ := hrel
      by_cases hlt : k < N
      · have hkd : k < n.kids.length := by rw [← HN.out]; exact hlt
        obtain ⟨lb, lo, rfl, hat⟩ := HD.out.some (by omega)
        obtain ⟨cs, hc, rfl, _, _⟩ := hat k hkd
        obtain ⟨e0, e1⟩ := (hc.below hbl).two
        simp only [KRef] at e0 e1
        have hst := sumCt_at hkd
        have hs1 := sumCt_take n.kids (k + 1)
        have hs2 := HS.out
        generalize n.kids[k] = d at *
        obtain ⟨off, ct⟩ := d
        simp only at e0 e1 hst
        have HNX : Hid (CntRel W n.kids (.int .u64 (sumCt (n.kids.take k) + ct : Nat)) (.int .i64 (k + 1 : Nat)) (wr.alloc (.cells #[.int .i64 off, .int .u64 (ct : Nat)] 39))) := ⟨k + 1, hkd, rfl, by rw [hst], hbl.alloc hbl.size _⟩
        have HLT := Lib.hid hlt
        generalize sumCt (n.kids.take k) = S at *
        have hwu : IntKind.u64.wrap ((S : Int) + ct) = ((S + ct : Nat) : Int) := by rw [IntKind.wrap_u64]; omega
        clear hst hs1 hs2 hc hat hbl hkd hk
        go_wp2
        go_roundw
        case rel => exact HNX.out
        case measure => simp [intOf]; have := HLT.out; omega
      · have hkN : k = N := by have := HN.out; omega
        have HBL : Hid (Below w.heap.size w wr) := HB.out.trans (hbl.mono HB.out.size)
        rw [List.take_of_length_le (by rw [← HN.out]; omega), ← E.out]
        clear hbl hlt hk
        subst hkN
        go_wp2
        go_ret
        exact ⟨rfl, HBL.out⟩
end Go.Proofs.Ytajfcnaifegonaa.Sl.Nd
/- Trees: what the program's side and the document's both speak of. -/
namespace Go.By
open Go Go.RowKit
theorem sumK_take : ∀ {l : List NKd} {k : Nat} (h : k < l.length), sumK (l.take (k + 1)) = sumK (l.take k) + l[k].ct
  | d :: r, 0, _ => by simp [sumK]
  | d :: r, k + 1, h => by
    rw [List.take_succ_cons, sumK, sumK_take (by simpa using h), List.take_succ_cons, sumK, List.getElem_cons_succ]
    omega
end Go.By
namespace Go.Proofs.Ytajfcnaifegonaa.Sl.Nd
open Go Go.RowKit Go.By
def TruthTold (w : World) (x : Bool) (z : Ending) (w' : World) : Prop := z = .returned (.bool x) ∧ Below w.heap.size w w'
end Go.Proofs.Ytajfcnaifegonaa.Sl.Nd
