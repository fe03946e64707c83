/- Nodes in a program: what the laws say of them; it has begun. -/
import Derived.Test.YtdbgihpognfhdaaGreatMTrW
import Derived.Test.YtdbgihpognfhdaaGreatMCloneG
import Derived.Test.YtdbgihpognfhdaaGreatMLits
import Derived.Test.YtdbgihpognfhdaaGreatMSlA
import Derived.Lib.SlBytesConst
import Derived.Lib.SmallJoins
import Derived.Test.YtdbgihpognfhdaaGreatMHdP
import Derived.Test.YtdbgihpognfhdaaGreatMSlB
import Derived.Test.YtdbgihpognfhdaaGreatMCmpM
import Derived.Handy
import Derived.BigQuiet
import Derived.Deep.QuietTactic
namespace Go.Proofs.YtdbgihpognfhdaaGreat.Sl.Nd
open Go Go.RowKit Go.By
def sumCt : List NKd → Nat
  | [] => 0
  | d :: r => d.ct + sumCt r
theorem sumCt_at : ∀ {l : List NKd} {k : Nat} (h : k < l.length), sumCt (l.take (k + 1)) = sumCt (l.take k) + l[k].ct
  | d :: r, 0, _ => by simp [sumCt]
  | d :: r, k + 1, h => by
    rw [List.take_succ_cons, sumCt, sumCt_at (by simpa using h), List.take_succ_cons, sumCt, List.getElem_cons_succ]
    omega
theorem sumCt_take : ∀ (l : List NKd) (k : Nat), sumCt (l.take k) ≤ sumCt l
  | [], k => by simp
  | d :: r, 0 => by simp [sumCt]
  | d :: r, k + 1 => by
    rw [List.take_succ_cons, sumCt, sumCt]
    have := sumCt_take r k
    omega
def cnt (n : Nd) : Nat := if n.leaf = true then n.its.length else sumCt n.kids
def CntRel (w : World) (kids : List NKd) (s i : Value) (wr : World) : Prop :=
  ∃ k : Nat, k ≤ kids.length ∧ i = .int .i64 k ∧ s = .int .u64 (sumCt (kids.take k) : Nat) ∧ Below w.heap.size w wr
set_option maxRecDepth 100000 in
theorem count_any {w : World} {v : Value} {n : Nd} {pi pk pd : Option Addr} {ci ck cd : Nat} (h : IsNd w v n pi ci pk ck pd cd) (hs : sumCt n.kids ≤ 17592186044416) :
    Calls Tryz.prog 93 #[v] w fun z w' => z = .returned (.int .u64 (cnt n : Nat)) ∧ Below w.heap.size w w' := by
  have hv := h.val
  subst hv
  obtain ⟨W, hW⟩ : ∃ W, W = w.alloc (.cells #[.bool n.leaf, .slice pi n.its.length ci, .slice pk n.ks.length ck, .slice pd n.kids.length cd] 38) := ⟨_, rfl⟩
  have hb : Below w.heap.size w W := by rw [hW]; exact (Below.refl w.heap.size w).alloc (Nat.le_refl _) _
  have hx : NdAt W w.heap.size n pi ci pk ck pd cd := by rw [hW]; exact NdAt.new ..
  have HD := Lib.hid (h.kids.below hb)
  have hi9 : (n.its.length : Int) ≤ 9223372036854775807 := by have := h.its.le; have := h.its.most; unfold maxLen at this; omega
  have hk9 : (n.kids.length : Int) ≤ 9223372036854775807 := by have := h.kids.le; have := h.kids.most; unfold maxLen at this; omega
  have HB := Lib.hid hb; have HX := Lib.hid hx; have HW := Lib.hid hW; have HS := Lib.hid hs
  have HC : Hid (cnt n = if n.leaf = true then n.its.length else sumCt n.kids) := rfl
  clear h hW hb hx hs
  obtain ⟨c0, c1, c2, c3⟩ := HX.out.cells
  cases hlf : n.leaf with
  | true =>
    have E : Hid (cnt n = n.its.length) := by unfold Hid; rw [HC.out, if_pos hlf]
    have hwu : IntKind.u64.wrap (n.its.length : Int) = n.its.length := by rw [IntKind.wrap_u64]; omega
    rw [hlf] at c0 HW
    go_enter Tryz.func93, Tryz.ntmps93
    go_wp2
    rw [← HW.out]
    go_ret
    exact ⟨by rw [E.out]; rfl, HB.out⟩
  | false =>
    have E : Hid (cnt n = sumCt n.kids) := by unfold Hid; rw [HC.out, hlf]; rfl
    have H0 : Hid (CntRel W n.kids (.int .u64 0) (.int .i64 (0 : Nat)) W) := ⟨0, Nat.zero_le _, rfl, rfl, Below.refl _ _⟩
    obtain ⟨N, hN⟩ : ∃ N, N = n.kids.length := ⟨_, rfl⟩
    have HN := Lib.hid hN
    rw [hlf] at c0 HW
    rw [← hN] at c3 hk9 HW ⊢
    clear hN
    go_enter Tryz.func93, Tryz.ntmps93
    go_wp2
    rw [← HW.out]
    go_loopw [3, 15] (fun s i w' => CntRel W n.kids s i w') (fun _ i _ => N - (intOf i).toNat)
    case atStart => exact H0.out
    case round =>
      clear H0
      obtain ⟨k, hk, rfl, rfl, hbl⟩ := hrel
      by_cases hlt : k < N
      · have hkd : k < n.kids.length := by rw [← HN.out]; exact hlt
        obtain ⟨lb, lo, rfl, hat⟩ := HD.out.some (by omega)
        obtain ⟨cs, hc, rfl, _, _⟩ := hat k hkd
        obtain ⟨e0, e1⟩ := (hc.below hbl).two
        simp only [KRef] at e0 e1
        have hst := sumCt_at hkd
        have hs1 := sumCt_take n.kids (k + 1)
        have hs2 := HS.out
        generalize n.kids[k] = d at *
        obtain ⟨off, ct⟩ := d
        simp only at e0 e1 hst
        have HNX : Hid (CntRel W n.kids (.int .u64 (sumCt (n.kids.take k) + ct : Nat)) (.int .i64 (k + 1 : Nat)) (wr.alloc (.cells #[.int .i64 off, .int .u64 (ct : Nat)] 25))) := ⟨k + 1, hkd, rfl, by rw [hst], hbl.alloc hbl.size _⟩
        have HLT := Lib.hid hlt
        generalize sumCt (n.kids.take k) = S at *
        have hwu : IntKind.u64.wrap ((S : Int) + ct) = ((S + ct : Nat) : Int) := by rw [IntKind.wrap_u64]; omega
        clear hst hs1 hs2 hc hat hbl hkd hk
        go_wp2
        go_roundw
        case rel => exact HNX.out
        case measure => simp [intOf]; have := HLT.out; omega
      · have hkN : k = N := by have := HN.out; omega
        have HBL : Hid (Below w.heap.size w wr) := HB.out.trans (hbl.mono HB.out.size)
        rw [List.take_of_length_le (by rw [← HN.out]; omega), ← E.out]
        clear hbl hlt hk
        subst hkN
        go_wp2
        go_ret
        exact ⟨rfl, HBL.out⟩
end Go.Proofs.YtdbgihpognfhdaaGreat.Sl.Nd
/- Trees: what the program's side and the document's both speak of. -/
namespace Go.By
open Go Go.RowKit
theorem below_eq {w W : World} (h1 : W.heap = w.heap) (h2 : W.os = w.os) (h3 : W.tape = w.tape) (h4 : W.output = w.output) : Below w.heap.size w W := ⟨h2, h3, h4, by rw [h1]; exact Nat.le_refl _, fun k _ => by rw [h1]⟩
theorem sumK_take : ∀ {l : List NKd} {k : Nat} (h : k < l.length), sumK (l.take (k + 1)) = sumK (l.take k) + l[k].ct
  | d :: r, 0, _ => by simp [sumK]
  | d :: r, k + 1, h => by
    rw [List.take_succ_cons, sumK, sumK_take (by simpa using h), List.take_succ_cons, sumK, List.getElem_cons_succ]
    omega
theorem sumK_le : ∀ (l : List NKd) (k : Nat), sumK (l.take k) ≤ sumK l
  | [], k => by simp
  | d :: r, 0 => by simp [sumK]
  | d :: r, k + 1 => by
    rw [List.take_succ_cons, sumK, sumK]
    have := sumK_le r k
    omega
theorem atN_of {ks : List (List Nat)} {key : List Nat} : ∀ {i : Nat}, i ≤ ks.length → (∀ k (h : k < ks.length), k < i → lessN ks[k] key = true) → (∀ h : i < ks.length, lessN ks[i] key = false) → atN ks key = i := by
  induction ks with
  | nil => intro i h _ _; simp at h; subst h; rfl
  | cons k ks ih =>
    intro i hi hl hn
    cases i with
    | zero => exact atN_zero (hn (by simp))
    | succ i =>
      have h0 : lessN k key = true := hl 0 (by simp) (by omega)
      rw [atN_succ h0, ih (i := i) (by simpa using hi) (fun j hj hji => by have := hl (j + 1) (by simpa using hj) (by omega); simpa using this) (fun hj => by have := hn (by simpa using hj); simpa using this)]
end Go.By
namespace Go.Proofs.YtdbgihpognfhdaaGreat.Sl.Nd
open Go Go.RowKit Go.By
def TruthTold (w : World) (x : Bool) (z : Ending) (w' : World) : Prop := z = .returned (.bool x) ∧ Below w.heap.size w w'
end Go.Proofs.YtdbgihpognfhdaaGreat.Sl.Nd
