/- Nodes in a program: how many items, by the document. -/
import Derived.Test.YtajfcnaifegonaaMTrX
import Derived.Test.YtajfcnaifegonaaMTrL
namespace Go.Proofs.Ytajfcnaifegonaa.Sl.Nd
open Go Go.RowKit Go.By
def ctR (n : Nd) : Nat := if n.leaf = true then n.its.length else sumK n.kids % 18446744073709551616
def CtTold (w : World) (n : Nd) (z : Ending) (w' : World) : Prop := z = .returned (.int .u64 (ctR n : Nat)) ∧ Below w.heap.size w w'
def CtRel (w : World) (kids : List NKd) (c i : Value) (W : World) : Prop :=
  ∃ k s : Nat, k ≤ kids.length ∧ i = .int .i64 k ∧ s = sumK (kids.take k) % 18446744073709551616 ∧ c = .int .u64 s ∧ Below w.heap.size w W
theorem wrap_sum (s c : Nat) : IntKind.u64.wrap ((s : Int) + (c : Nat)) = ((s + c) % 18446744073709551616 : Nat) := by
  unfold IntKind.wrap
  rw [if_neg (by simp [IntKind.signed])]
  show ((s : Int) + (c : Nat)) % 18446744073709551616 = _
  omega
set_option maxRecDepth 100000 in
theorem ctOf_any {w : World} {v : Value} {n : Nd} {pi pk pd : Option Addr} {ci ck cd : Nat} (h : IsNd w v n pi ci pk ck pd cd) :
    Calls Try.prog 45 #[v] w (CtTold w n) := by
  have hv := h.val
  subst hv
  obtain ⟨W, hW⟩ : ∃ W, W = w.alloc (.cells #[.bool n.leaf, .slice pi n.its.length ci, .slice pk n.ks.length ck, .slice pd n.kids.length cd] 93) := ⟨_, rfl⟩
  have hb : Below w.heap.size w W := by rw [hW]; exact (Below.refl w.heap.size w).alloc (Nat.le_refl _) _
  have hx : NdAt W w.heap.size n pi ci pk ck pd cd := by rw [hW]; exact NdAt.new ..
  have HQ := Lib.hid (h.kids.below hb)
  have HB := Lib.hid hb; have HW := Lib.hid hW; have HNA := Lib.hid hx
  obtain ⟨n0, n1, n2, n3⟩ := hx.cells
  have hl1 := h.its.le; have hl2 := h.its.most; have hl5 := h.kids.le; have hl6 := h.kids.most
  unfold maxLen at hl2 hl6
  have HF : Hid (∀ W' (c : Nat), Below w.heap.size w W' → c = ctR n → CtTold w n (.returned (.int .u64 (c : Nat))) W') := fun W' c h1 h2 => ⟨by rw [h2], h1⟩
  cases hlf : n.leaf with
  | true =>
    have HC : Hid (n.its.length = ctR n) := by unfold Hid ctR; rw [if_pos hlf]
    rw [hlf] at n0 HW
    obtain ⟨K0, hK0⟩ : ∃ x, x = n.its.length := ⟨_, rfl⟩
    rw [← hK0] at n1 HW HC ⊢
    have q90 : (K0 : Int) ≤ 9223372036854775807 := by omega
    have q91 : (K0 : Int) < 18446744073709551616 := by omega
    have q92 : (0 : Int) ≤ K0 := by omega
    have HR := Lib.hid (HF.out W K0 HB.out HC.out)
    clear h hW hb hx hl1 hl2 hl5 hl6 HF HC hK0
    go_enter Try.func45, Try.ntmps45
    go_wp2
    rw [← HW.out]
    go_ret
    exact HR.out
  | false =>
    have HC : Hid (sumK n.kids % 18446744073709551616 = ctR n) := by unfold Hid ctR; rw [hlf]; rfl
    rw [hlf] at n0 HW
    obtain ⟨L, hL⟩ : ∃ x, x = n.kids.length := ⟨_, rfl⟩
    have HL := Lib.hid hL
    rw [← hL] at n3 HW ⊢
    have q92 : (L : Int) ≤ 9223372036854775807 := by omega
    have H0 : Hid (CtRel W n.kids (.int .u64 (0 : Nat)) (.int .i64 (0 : Nat)) W) := ⟨0, 0, Nat.zero_le _, rfl, rfl, rfl, Below.refl _ _⟩
    clear h hW hb hx hl1 hl2 hl5 hl6 n1 n2 hL
    go_enter Try.func45, Try.ntmps45
    go_wp2
    rw [← HW.out]
    go_loopw [3, 4] (fun c i W' => CtRel W n.kids c i W') (fun _ i _ => L - (intOf i).toNat)
    case atStart => exact H0.out
    case round =>
      clear H0
      obtain ⟨i, s, hi, rfl, hs, rfl, hB⟩ := hrel
      have hn1 := (hB.block _ HNA.out.lt).trans HNA.out
      have m3 := cells_of hn1 3
      simp only [List.getElem?_toArray, List.getElem?_cons_zero, List.getElem?_cons_succ] at m3
      rw [← HL.out] at m3
      by_cases hlt : i < L
      · have hil : i < n.kids.length := by rw [← HL.out]; exact hlt
        have hii : (i : Int) < L := by omega
        obtain ⟨lb, lo, rfl, hatd⟩ := HQ.out.some (by omega)
        obtain ⟨csd, hcd, rfl, hD1, hD2⟩ := hatd i hil
        obtain ⟨d0, d1⟩ := (hcd.below hB).two
        simp only [KRef] at d0 d1
        obtain ⟨CT, hCT⟩ : ∃ x, x = n.kids[i].ct := ⟨_, rfl⟩
        obtain ⟨OF, hOF⟩ : ∃ x, x = n.kids[i].off := ⟨_, rfl⟩
        have hst := sumK_take hil
        rw [← hCT] at hst
        rw [← hCT] at d1
        rw [← hOF] at d0
        have HNX : Hid (∀ x : Int, x = ((s + CT) % 18446744073709551616 : Nat) → CtRel W n.kids (.int .u64 x) (.int .i64 (i + 1 : Nat)) wr) := fun x hx => ⟨i + 1, (s + CT) % 18446744073709551616, hil, rfl, by rw [hst, hs, Nat.mod_add_mod], by rw [hx], hB⟩
        clear hcd hatd hD1 hD2 hst hCT hOF hn1
        have HLT := Lib.hid hlt
        clear hs hi hB
        go_wp2
        go_roundw
        case rel =>
          apply HNX.out
          exact wrap_sum s CT
        case measure => simp [intOf]; have := HLT.out; omega
      · have hii : ¬ (i : Int) < L := by omega
        have hie : i = n.kids.length := by have := HL.out; omega
        have HR := Lib.hid (HF.out wr s (HB.out.trans (hB.mono HB.out.size)) (by rw [← HC.out, hs, hie, List.take_length]))
        clear hs hi hB hlt hn1
        go_wp2
        go_ret
        exact HR.out
end Go.Proofs.Ytajfcnaifegonaa.Sl.Nd
/- Trees in a program: a key sought among items, by the document. -/
namespace Go.Proofs.Ytajfcnaifegonaa.Sl.Nd
open Go Go.RowKit Go.By
theorem lss_str {a b : List Nat} (ha : ∀ c ∈ a, c < 256) (hb : ∀ c ∈ b, c < 256) : Op.bytesLess (strOf a).toList (strOf b).toList = lessN a b := by
  rw [less_str, natsOf_strOf ha, natsOf_strOf hb]
theorem eqs_str {a b : List Nat} (ha : ∀ c ∈ a, c < 256) (hb : ∀ c ∈ b, c < 256) : ((strOf a).toList == (strOf b).toList) = decide (a = b) := by
  rw [eq_str, natsOf_strOf ha, natsOf_strOf hb]
end Go.Proofs.Ytajfcnaifegonaa.Sl.Nd
