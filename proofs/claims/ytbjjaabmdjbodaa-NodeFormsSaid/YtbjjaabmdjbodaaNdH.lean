/- Nodes in a program: what is put. -/
import Derived.Test.YtbjjaabmdjbodaaNdG
namespace Go.By
open Go Go.RowKit
theorem Bytes.old {w : World} {v : Value} {l : List Nat} (h : Bytes w v l) (h0 : l ≠ []) : ∀ k, v.ownBlock = some k → k < w.heap.size := by
  intro k hk
  obtain ⟨p, c, rfl, _⟩ := h.any
  have hp : 0 < l.length := List.length_pos_iff.2 h0
  obtain ⟨b, o, rfl, hc⟩ := h.spot 0 hp
  simp only [Value.ownBlock, Option.some.injEq] at hk
  subst hk
  exact block_lt_of_cell hc
theorem flat_next {α : Type} {f : α → List Nat} {xs : List α} {k : Nat} (h : k < xs.length) : (xs.take (k + 1)).flatMap f = (xs.take k).flatMap f ++ f xs[k] := by
  rw [List.take_succ_eq_append_getElem h, List.flatMap_append]
  simp
end Go.By
namespace Go.Proofs.Ytbjjaabmdjbodaa
open Go Go.RowKit Go.By

theorem flat_take {α : Type} {f : α → List Nat} {b k : Nat} {xs : List α} (h : ∀ x ∈ xs, (f x).length ≤ b) : ((xs.take k).flatMap f).length ≤ b * xs.length := by
  refine Nat.le_trans (flat_length (fun x hx => h x (List.mem_of_mem_take hx))) (Nat.mul_le_mul_left _ ?_)
  rw [List.length_take]
  omega
/-- A row of one's own is told, this one. -/
def Rows (w : World) (m : List Nat) (e : Ending) (w' : World) : Prop :=
  ∃ v', e = .returned v' ∧ w'.ownsRow w.heap.size 5 1 v' m.length (cellsOf m) ∧ Below w.heap.size w w'
def LfSz (w : World) (its : List NIt) (s i : Value) (wr : World) : Prop :=
  ∃ k : Nat, k ≤ its.length ∧ i = .int .i64 k ∧ s = .int .i64 (2 + ((its.take k).flatMap itOf).length : Nat) ∧ Below w.heap.size w wr
def LfRow (w : World) (its : List NIt) (x i : Value) (wr : World) : Prop :=
  ∃ k : Nat, k ≤ its.length ∧ i = .int .i64 k ∧ wr.ownsRow w.heap.size 5 1 x ([76, its.length] ++ (its.take k).flatMap itOf).length (cellsOf ([76, its.length] ++ (its.take k).flatMap itOf)) ∧ Below w.heap.size w wr

set_option maxRecDepth 100000 in
set_option maxHeartbeats 1000000 in
theorem putLeaf_any (p : Option Addr) (cap : Nat) (its : List NIt) (w : World) (h : RowAt KItem w p cap its) (hm : ∀ i ∈ its, mayIt i = true) (h8 : its.length ≤ 8) :
    Calls Try.prog 13 #[.slice p its.length cap] w (Rows w (76 :: its.length :: its.flatMap itOf)) := by
  have h0 : LfSz w its (.int .i64 2) (.int .i64 (0 : Nat)) w := ⟨0, by omega, rfl, rfl, Below.refl _ _⟩
  have hbd : ∀ x ∈ its, (itOf x).length ≤ 162 := fun x hx => by
    obtain ⟨q1, q2⟩ := (mayIt_iff _).1 (hm x hx)
    have := ((mayK_iff _).1 q1).2
    simp [itOf, txt]; omega
  have H0 := Lib.hid h0; have HR := Lib.hid h; have HM := Lib.hid hm
  have HBD : Hid (∀ k, ((its.take k).flatMap itOf).length ≤ 1296) := fun k => Nat.le_trans (flat_take hbd) (by omega)
  obtain ⟨N, hN⟩ : ∃ N, N = its.length := ⟨_, rfl⟩
  have hN8 : (N : Int) ≤ 8 := by omega
  have HN := Lib.hid hN
  rw [← hN]
  clear h0 h hN hm hbd h8
  go_enter Try.func13, Try.ntmps13
  go_wp2
  go_loopw [3, 11] (fun s i W => LfSz w its s i W) (fun _ i _ => N - (intOf i).toNat)
  case atStart => exact H0.out
  case round =>
    clear H0
    obtain ⟨k, hk, rfl, rfl, hB⟩ := hrel
    by_cases hlt : k < N
    · have hkl : k < its.length := by rw [← HN.out]; exact hlt
      obtain ⟨lb, lo, rfl, hat⟩ := HR.out.some (by omega)
      obtain ⟨cs, hc, a, b, rfl, ha, hb⟩ := hat k hkl
      obtain ⟨c0, c1⟩ := (hc.below hB).two
      simp only [KItem] at c0 c1
      obtain ⟨qa, ca, rfl, -⟩ := ha.any
      obtain ⟨qb, cb, rfl, -⟩ := hb.any
      obtain ⟨q1, q2⟩ := (mayIt_iff _).1 (HM.out its[k] (List.getElem_mem hkl))
      have q3 := ((mayK_iff _).1 q1).2
      have hS : 2 + ((its.take (k + 1)).flatMap itOf).length = 2 + ((its.take k).flatMap itOf).length + (2 + its[k].k.length + its[k].v.length) := by
        rw [flat_next hkl, List.length_append]
        simp [itOf, txt]; omega
      have hS2 : 2 + ((its.take k).flatMap itOf).length ≤ 1298 := by have := HBD.out k; omega
      generalize 2 + ((its.take k).flatMap itOf).length = S at *
      generalize its[k].k.length = l1 at *
      generalize its[k].v.length = l2 at *
      have hSi : (S : Int) ≤ 1298 := by omega
      have hl1 : (l1 : Int) ≤ 40 := by omega
      have hl2 : (l2 : Int) ≤ 120 := by omega
      have HNX : Hid (LfSz w its (.int .i64 (S + (2 + l1 + l2) : Nat)) (.int .i64 (k + 1 : Nat)) (wr.alloc (.cells #[.slice qa l1 ca, .slice qb l2 cb] 38))) := ⟨k + 1, by omega, rfl, by rw [hS], hB.alloc hB.size _⟩
      have HLT := Lib.hid hlt
      clear hS hS2 q1 q2 q3 ha hb hc hat hB
      go_wp2
      go_roundw
      case rel => exact HNX.out
      case measure => simp [intOf]; have := HLT.out; omega
    · have hkl : ¬ k < its.length := by rw [← HN.out]; exact hlt
      obtain rfl : k = N := by have := HN.out; omega
      have hS2 : 2 + ((its.take k).flatMap itOf).length ≤ 1298 := by have := HBD.out k; omega
      generalize 2 + ((its.take k).flatMap itOf).length = S at *
      obtain ⟨wm, hwm⟩ : ∃ W, W = wr.alloc (.cells (zeros S) 5) := ⟨_, rfl⟩
      have hmk := made_run 0 S 0 (S : Int) rfl rfl (by omega) (by omega) wr
      rw [← hwm] at hmk
      have hbm : Below w.heap.size w wm := by rw [hwm]; exact hB.alloc hB.size _
      have hom : wm.ownsRow w.heap.size 5 1 (.slice (some ⟨wr.heap.size, 0, none⟩) 0 S) 0 [] := by rw [hwm]; exact World.ownsRow_made wr (zeros S) S hB.size (by unfold maxLen; omega) (by rw [zeros_size, Nat.mul_one])
      have hw8 : IntKind.u8.wrap (k : Int) = k := by rw [IntKind.wrap_u8]; omega
      obtain ⟨v1, w1, hrun, ho1, hg1⟩ := run_append_byt (P := Try.prog) 30 byT w.heap.size (.slice (some ⟨wr.heap.size, 0, none⟩) 0 S) 0 [] (hom.alloc (.cells #[.int .u8 76, .int .u8 (k : Nat)] 5)) (.slice (some ⟨wm.heap.size, 0, none⟩) 2 2) [76, k] (Bytes.lit [76, k] rfl rfl (by simp; omega) (by simp [maxLen])) (by simp) (by have := hbm.size; simp; omega)
      have hb1 : Below w.heap.size w w1 := ((Grows.alloc wm (.slice (some ⟨wr.heap.size, 0, none⟩) 0 S) (.cells #[.int .u8 76, .int .u8 (k : Nat)] 5)).trans hg1).below hbm hbm.size (fun j hj => (hom.lt j hj).1)
      have hrow : LfRow w its v1 (.int .i64 (0 : Nat)) w1 := ⟨0, by omega, rfl, by rw [← HN.out]; simpa using ho1, hb1⟩
      have HROW := Lib.hid hrow; have HRUN := Lib.hid hrun
      have hSi : (S : Int) ≤ 1298 := by omega
      clear hrow hrun ho1 hg1 hb1 hom hbm hwm hS2 hB hlt hkl hk
      go_wp2_with (at_builtin; refine Lib.wpList_append_run _ rfl (.tmp 27) (.tmp 31) 30 30 rfl _ _ rfl rfl v1 w1 HRUN.out ?_)
      clear HRUN hmk
      go_loopw [6, 35] (fun x i W => LfRow w its x i W) (fun _ i _ => k - (intOf i).toNat)
      case atStart => exact HROW.out
      case round =>
        clear HROW
        obtain ⟨j, hj, rfl, hown, hB⟩ := hrel
        obtain ⟨px, cx, rfl⟩ := shape_of hown
        by_cases hlj : j < k
        · have hkl : j < its.length := by rw [← HN.out]; exact hlj
          obtain ⟨lb, lo, rfl, hat⟩ := HR.out.some (by omega)
          obtain ⟨cs, hc, a, b, rfl, ha, hb⟩ := hat j hkl
          obtain ⟨c0, c1⟩ := (hc.below hB).two
          simp only [KItem] at c0 c1
          obtain ⟨qa, ca, rfl, -⟩ := ha.any
          obtain ⟨qb, cb, rfl, -⟩ := hb.any
          obtain ⟨q1, q2⟩ := (mayIt_iff _).1 (HM.out its[j] (List.getElem_mem hkl))
          have q3 := ((mayK_iff _).1 q1).2
          have hL : ([76, its.length] ++ (its.take j).flatMap itOf).length ≤ 1298 := by have := HBD.out j; simp only [List.length_append, List.length_cons, List.length_nil]; omega
          have hnx : [76, its.length] ++ (its.take (j + 1)).flatMap itOf = ([76, its.length] ++ (its.take j).flatMap itOf ++ txt its[j].k) ++ txt its[j].v := by rw [flat_next hkl]; simp [itOf]
          have hlt' := hown.lt
          generalize [76, its.length] ++ (its.take j).flatMap itOf = L at *
          generalize hit : its[j] = it at *
          have hown1 := hown.alloc (.cells #[.slice qa it.k.length ca, .slice qb it.v.length cb] 38)
          have hB1 := hB.alloc hB.size (.cells #[.slice qa it.k.length ca, .slice qb it.v.length cb] 38)
          have hblk := heap_alloc_new wr (.cells #[.slice qa it.k.length ca, .slice qb it.v.length cb] 38)
          have hT1 := putText_any (.slice px L.length cx) (.slice qa it.k.length ca) L it.k w.heap.size _ hown1 (by omega) hB1.size (ha.below hB1) (fun h0 e => by
            cases px with
            | none => exact absurd (ha.spot 0 (List.length_pos_iff.2 h0)) (by intro ⟨b, o, e2, _⟩; subst e2; simp [Value.ownBlock] at e)
            | some ax =>
              have := (hlt' ax.block rfl).1
              have := ha.old h0 ax.block (by rw [e]; rfl)
              omega) (by omega)
          have HT1 := Lib.hid hT1; have HB1 := Lib.hid hB1; have HBV := Lib.hid hb; have HNX := Lib.hid hnx; have HLJ := Lib.hid hlj; have HLT' := Lib.hid hlt'; have HBK := Lib.hid hblk
          have HQ2 := Lib.hid q2
          have HL : Hid (L.length + (txt it.k).length ≤ 2000) := by unfold Hid; rw [txt_length]; omega
          clear hT1 hB1 hb ha hblk hown1 hlt' hnx hL q1 q2 q3 hc hat hown hB hit hkl
          go_wp2_with fail
          refine HT1.out.mono ?_
          rintro e w2 ⟨v2, rfl, ho2, hg2⟩
          have hb2 : Below w.heap.size w w2 := hg2.below HB1.out HB1.out.size (fun i hi => (HLT'.out i hi).1)
          have hbk2 : w2.heap[wr.heap.size]? = some (.cells #[.slice qa it.k.length ca, .slice qb it.v.length cb] 38 (0, 0)) := (hg2.block (by simp) (by intro e; have := (HLT'.out _ e).2; omega)).trans HBK.out
          have e0 := cells_of hbk2 0
          have e1 := cells_of hbk2 1
          simp only [List.getElem?_toArray, List.getElem?_cons_zero, List.getElem?_cons_succ] at e0 e1
          obtain ⟨M, hM⟩ : ∃ M, M = L ++ txt it.k := ⟨_, rfl⟩
          rw [← hM] at ho2
          have HMM := Lib.hid hM
          have hML : M.length ≤ 2000 := by rw [hM, List.length_append]; exact HL.out
          have hlt2 := ho2.lt
          obtain ⟨p2, c2, rfl⟩ := shape_of ho2
          have hT2 := putText_any (.slice p2 M.length c2) (.slice qb it.v.length cb) M it.v w.heap.size w2 ho2 (by omega) hb2.size (HBV.out.below hb2) (fun h0 e => by
            cases p2 with
            | none => exact absurd (HBV.out.spot 0 (List.length_pos_iff.2 h0)) (by intro ⟨b, o, e2, _⟩; subst e2; simp [Value.ownBlock] at e)
            | some ax =>
              have := (hlt2 ax.block rfl).1
              have := HBV.out.old h0 ax.block (by rw [e]; rfl)
              omega) (by have := HQ2.out; omega)
          have HT2 := Lib.hid hT2; have HB2 := Lib.hid hb2; have HLT2 := Lib.hid hlt2

          clear hT2 hb2 hbk2 hlt2 ho2 hg2 HT1 HBK c0 c1 hM hML
          go_wp2_with fail
          refine HT2.out.mono ?_
          rintro e w3 ⟨v3, rfl, ho3, hg3⟩
          have hrow3 : LfRow w its v3 (.int .i64 (j + 1 : Nat)) w3 := ⟨j + 1, by have := HN.out; have := HLJ.out; omega, rfl, by rw [HNX.out, ← HMM.out]; exact ho3, hg3.below HB2.out HB2.out.size (fun i hi => (HLT2.out i hi).1)⟩
          have HROW := Lib.hid hrow3
          clear hrow3 ho3 hg3 HT2 e0 e1
          go_wp2
          go_roundw
          case rel => exact HROW.out
          case measure => simp [intOf]; have := HLJ.out; omega
        · have hjk : j = k := by have := HN.out; omega
          have hE : [76, its.length] ++ (its.take j).flatMap itOf = 76 :: k :: its.flatMap itOf := by
            rw [List.take_of_length_le (by rw [← HN.out]; omega), ← HN.out]; rfl
          rw [hE] at hown ⊢
          have HO := Lib.hid hown; have HB := Lib.hid hB
          clear hown hB hE hj
          subst hjk
          go_wp2
          go_ret
          exact ⟨_, rfl, HO.out, HB.out⟩
end Go.Proofs.Ytbjjaabmdjbodaa

