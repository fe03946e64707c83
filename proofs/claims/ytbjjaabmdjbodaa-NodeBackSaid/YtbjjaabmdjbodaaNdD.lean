/- Nodes in a program: which are the same. -/
import Derived.Test.YtbjjaabmdjbodaaNdC
namespace Go.Proofs.Ytbjjaabmdjbodaa
open Go Go.RowKit Go.By

set_option maxRecDepth 100000 in
theorem equal_any (v u : Value) (l m : List Nat) (w : World) (hv : Bytes w v l) (hu : Bytes w u m) :
    Calls Try.prog 24 #[v, u] w fun e w' => e = .returned (.bool (decide (l = m))) ∧ w' = w := by
  have h1 := hv.toString (P := Try.prog) byT (d := 9) (by kernel_rfl)
  have h2 := hu.toString (P := Try.prog) byT (d := 9) (by kernel_rfl)
  have E : Hid (((strOf l).toList == (strOf m).toList) = decide (l = m)) := by
    unfold Hid
    rw [eq_str, natsOf_strOf hv.small, natsOf_strOf hu.small]
  clear hv hu
  go_enter Try.func24, Try.ntmps24
  go_wp2
  go_ret
  exact ⟨by rw [← E.out]; rfl, rfl⟩

theorem nit_eq (i j : NIt) : decide (i = j) = (decide (i.k = j.k) && decide (i.v = j.v)) := by
  cases i; cases j
  simp

set_option maxRecDepth 100000 in
theorem sameItem_any (a b c d : Value) (i j : NIt) (w : World) (ha : Bytes w a i.k) (hb : Bytes w b i.v) (hc : Bytes w c j.k) (hd : Bytes w d j.v) :
    Calls Try.prog 22 #[.agg #[a, b], .agg #[c, d]] w fun e w' => e = .returned (.bool (decide (i = j))) ∧ Below w.heap.size w w' := by
  have hbo := fun o o' => ((Below.refl w.heap.size w).alloc (Nat.le_refl _) o).alloc (by simp) o'
  have HB := Lib.hid hbo
  have H1 := Lib.hid (fun o o' => equal_any a c i.k j.k _ (ha.below (hbo o o')) (hc.below (hbo o o')))
  have H2 := Lib.hid (fun o o' => equal_any b d i.v j.v _ (hb.below (hbo o o')) (hd.below (hbo o o')))
  have HE := Lib.hid (nit_eq i j)
  clear ha hb hc hd hbo
  generalize decide (i.k = j.k) = x at *
  generalize decide (i.v = j.v) = y at *
  go_enter Try.func22, Try.ntmps22
  go_wp2_with fail
  refine (H1.out _ _).mono ?_
  rintro e w1 ⟨rfl, rfl⟩
  cases x with
  | false =>
    go_wp2
    go_ret
    exact ⟨by rw [HE.out]; rfl, HB.out _ _⟩
  | true =>
    go_wp2_with fail
    refine (H2.out _ _).mono ?_
    rintro e w1 ⟨rfl, rfl⟩
    go_wp2
    go_ret
    exact ⟨by rw [HE.out]; rfl, HB.out _ _⟩

/-- How far two rows are alike. -/
def AlikeRel {α : Type} (w : World) (xs ys : List α) (i : Value) (wr : World) : Prop :=
  ∃ (k : Nat), k ≤ xs.length ∧ i = .int .i64 k ∧ (∀ j, j < k → xs[j]? = ys[j]?) ∧ Below w.heap.size w wr
theorem alike_no {α : Type} [DecidableEq α] {xs ys : List α} {k : Nat} (hk : k < xs.length) (hk' : k < ys.length) (h : decide (xs[k] = ys[k]) = false) : decide (xs = ys) = false := by
  rw [decide_eq_false_iff_not] at h ⊢
  intro e
  subst e
  exact h rfl
theorem alike_next {α : Type} [DecidableEq α] {xs ys : List α} {k : Nat} (hk : k < xs.length) (hk' : k < ys.length) (h : decide (xs[k] = ys[k]) = true) (ha : ∀ j, j < k → xs[j]? = ys[j]?) : ∀ j, j < k + 1 → xs[j]? = ys[j]? := fun j hj => by
  by_cases he : j < k
  · exact ha j he
  · obtain rfl : j = k := by omega
    rw [List.getElem?_eq_getElem hk, List.getElem?_eq_getElem hk', of_decide_eq_true h]
theorem alike_yes {α : Type} [DecidableEq α] {xs ys : List α} (hl : xs.length = ys.length) (ha : ∀ j, j < xs.length → xs[j]? = ys[j]?) : decide (xs = ys) = true := by
  rw [decide_eq_true_iff]
  apply List.ext_getElem? 
  intro j
  by_cases h : j < xs.length
  · exact ha j h
  · rw [List.getElem?_eq_none (by omega), List.getElem?_eq_none (by omega)]
theorem alike_len {α : Type} [DecidableEq α] {xs ys : List α} (hl : xs.length ≠ ys.length) : decide (xs = ys) = false := decide_eq_false (fun e => hl (by rw [e]))

set_option maxRecDepth 100000 in
theorem eqItems_any (p q : Option Addr) (c d : Nat) (xs ys : List NIt) (w : World) (hx : RowAt KItem w p c xs) (hy : RowAt KItem w q d ys) :
    Calls Try.prog 21 #[.slice p xs.length c, .slice q ys.length d, .func (.func 22) #[] #[]] w fun e w' => e = .returned (.bool (decide (xs = ys))) ∧ Below w.heap.size w w' := by
  have h0 : AlikeRel w xs ys (.int .i64 (0 : Nat)) w := ⟨0, by omega, rfl, fun j hj => absurd hj (by omega), Below.refl _ _⟩
  have H0 := Lib.hid h0; have HX := Lib.hid hx; have HY := Lib.hid hy
  obtain ⟨N, hN⟩ : ∃ N, N = xs.length := ⟨_, rfl⟩
  obtain ⟨M, hM⟩ : ∃ M, M = ys.length := ⟨_, rfl⟩
  have hN9 : (N : Int) ≤ 9223372036854775807 := by have := hx.le; have := hx.most; unfold maxLen at this; omega
  have HN := Lib.hid hN; have HM := Lib.hid hM
  rw [← hN, ← hM]
  clear h0 hx hy hN hM
  by_cases hne : N = M
  · have HNM := Lib.hid hne
    have hnm : ((N : Int) != (M : Int)) = false := by rw [hne]; simp
    clear hne
    go_enter Try.func21, Try.ntmps21
    go_wp2
    go_loopw [17] (fun i W => AlikeRel w xs ys i W) (fun i _ => N - (intOf i).toNat)
    case atStart => exact H0.out
    case round =>
      clear H0
      obtain ⟨k, hk, rfl, hE, hB⟩ := hrel
      by_cases hlt : k < N
      · have hkl : k < xs.length := by rw [← HN.out]; exact hlt
        have hkm : k < ys.length := by rw [← HM.out, ← HNM.out]; exact hlt
        have hkM : (k : Int) < M := by have := HNM.out; omega
        obtain ⟨lb, lo, rfl, hat⟩ := HX.out.some (by omega)
        obtain ⟨cs, hc, a, b, rfl, ha, hb⟩ := hat k hkl
        obtain ⟨lb', lo', rfl, hat'⟩ := HY.out.some (by omega)
        obtain ⟨cs', hc', a', b', rfl, ha', hb'⟩ := hat' k hkm
        obtain ⟨c0, c1⟩ := (hc.below hB).two
        have hBa : Below w.heap.size w (wr.alloc (.cells #[a, b] 38)) := hB.alloc hB.size _
        obtain ⟨d0, d1⟩ := (hc'.below hBa).two
        simp only [KItem] at c0 c1 d0 d1
        obtain ⟨qa, ca, rfl, _⟩ := ha.any
        obtain ⟨qb, cb, rfl, _⟩ := hb.any
        obtain ⟨qa', ca', rfl, _⟩ := ha'.any
        obtain ⟨qb', cb', rfl, _⟩ := hb'.any
        have HNO := Lib.hid (alike_no hkl hkm)
        have HYE := Lib.hid (fun h => alike_next hkl hkm h hE)
        generalize xs[k] = x at *
        generalize ys[k] = y at *
        have HB := Lib.hid hB; have HK := Lib.hid hlt
        have HF := Lib.hid (fun (W : World) (hW : Below w.heap.size w W) => sameItem_any _ _ _ _ x y W (ha.below hW) (hb.below hW) (ha'.below hW) (hb'.below hW))
        have HBB : Hid (∀ o o', Below w.heap.size w ((wr.alloc o).alloc o')) := fun o o' => (HB.out.alloc HB.out.size o).alloc (by have := HB.out.size; simp; omega) o'
        clear ha hb ha' hb' hE hB hc hat hc' hat' hk hkl hkm hBa
        generalize x.k.length = l1 at *
        generalize x.v.length = l2 at *
        generalize y.k.length = l3 at *
        generalize y.v.length = l4 at *
        go_wp2_with fail
        refine (HF.out _ (HBB.out _ _)).mono ?_
        rintro e w1 ⟨rfl, hb1⟩
        have HB1 : Hid (Below w.heap.size w w1) := (HBB.out _ _).trans (hb1.mono (HBB.out _ _).size)
        clear hb1
        cases he : decide (x = y) with
        | false =>
          have E : Hid (decide (xs = ys) = false) := HNO.out he
          go_wp2
          go_ret
          exact ⟨by rw [E.out]; rfl, HB1.out⟩
        | true =>
          have HNX : Hid (AlikeRel w xs ys (.int .i64 (k + 1 : Nat)) w1) := ⟨k + 1, by have := HN.out; have := HK.out; omega, rfl, HYE.out he, HB1.out⟩
          go_wp2
          go_roundw
          case rel => exact HNX.out
          case measure => simp [intOf]; have := HK.out; omega
      · obtain rfl : k = N := by have := HN.out; omega
        have E : Hid (decide (xs = ys) = true) := alike_yes (by rw [← HN.out, ← HM.out]; exact HNM.out) (by rw [← HN.out]; exact hE)
        have HB := Lib.hid hB
        clear hE hB
        go_wp2
        go_ret
        exact ⟨by rw [E.out]; rfl, HB.out⟩
  · have E : Hid (decide (xs = ys) = false) := alike_len (by rw [← HN.out, ← HM.out]; exact hne)
    have hnm : ((N : Int) != (M : Int)) = true := by simp; omega
    clear hne
    go_enter Try.func21, Try.ntmps21
    go_wp2
    go_ret
    exact ⟨by rw [E.out]; rfl, Below.refl _ _⟩
end Go.Proofs.Ytbjjaabmdjbodaa

