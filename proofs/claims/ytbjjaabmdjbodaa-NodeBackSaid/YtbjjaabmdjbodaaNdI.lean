/- Nodes in a program: inner ones, laid; Put. -/
import Derived.Test.YtbjjaabmdjbodaaNdH
namespace Go.Proofs.Ytbjjaabmdjbodaa
open Go Go.RowKit Go.By

def InSz (w : World) (xs : List (List Nat × NKd)) (s i : Value) (wr : World) : Prop :=
  ∃ k : Nat, k ≤ xs.length ∧ i = .int .i64 k ∧ s = .int .i64 (2 + ((xs.take k).flatMap kdOf).length : Nat) ∧ Below w.heap.size w wr
def InRow (w : World) (xs : List (List Nat × NKd)) (x i : Value) (wr : World) : Prop :=
  ∃ k : Nat, k ≤ xs.length ∧ i = .int .i64 k ∧ wr.ownsRow w.heap.size 5 1 x ([78, xs.length] ++ (xs.take k).flatMap kdOf).length (cellsOf ([78, xs.length] ++ (xs.take k).flatMap kdOf)) ∧ Below w.heap.size w wr
theorem zip_at {α β : Type} {a : List α} {b : List β} {k : Nat} (ha : k < a.length) (hb : k < b.length) (h : k < (a.zip b).length) : (a.zip b)[k] = (a[k], b[k]) := by
  simp

set_option maxRecDepth 100000 in
set_option maxHeartbeats 1000000 in
theorem putInner_any (p q : Option Addr) (cap caq : Nat) (ks : List (List Nat)) (kids : List NKd) (w : World) (h : RowAt KBytes w p cap ks) (h' : RowAt KRef w q caq kids) (hl : ks.length = kids.length) (hm : ∀ k ∈ ks, mayK k = true) (hm' : ∀ d ∈ kids, mayKd d = true) (h8 : kids.length ≤ 8) :
    Calls Try.prog 14 #[.slice p ks.length cap, .slice q kids.length caq] w (Rows w (78 :: kids.length :: (ks.zip kids).flatMap kdOf)) := by
  have h0 : InSz w (ks.zip kids) (.int .i64 2) (.int .i64 (0 : Nat)) w := ⟨0, by omega, rfl, rfl, Below.refl _ _⟩
  have hbd : ∀ x ∈ ks.zip kids, (kdOf x).length ≤ 57 := fun x hx => by
    have hk : x.1 ∈ ks := (List.of_mem_zip (a := x.1) (b := x.2) hx).1
    have := ((mayK_iff _).1 (hm _ hk)).2
    simp [kdOf, txt, highOf_length]; omega
  have hzl : (ks.zip kids).length = kids.length := by rw [List.length_zip]; omega
  have HZ : Hid (∀ k (hk : k < ks.length) (hk' : k < kids.length), (ks.zip kids)[k]? = some (ks[k], kids[k])) := fun k hk hk' => by
    have hz : k < (ks.zip kids).length := by rw [hzl]; exact hk'
    rw [List.getElem?_eq_getElem hz, zip_at hk hk']
  have H0 := Lib.hid h0; have HR := Lib.hid h; have HR' := Lib.hid h'; have HM := Lib.hid hm; have HM' := Lib.hid hm'
  have HBD : Hid (∀ k, (((ks.zip kids).take k).flatMap kdOf).length ≤ 456) := fun k => Nat.le_trans (flat_take hbd) (by rw [hzl]; omega)
  obtain ⟨N, hN⟩ : ∃ N, N = kids.length := ⟨_, rfl⟩
  have hN8 : (N : Int) ≤ 8 := by omega
  have HN := Lib.hid hN
  have HK : Hid (N = ks.length) := by unfold Hid; omega
  have HZL : Hid (N = (ks.zip kids).length) := by unfold Hid; omega
  rw [hl, ← hN]
  generalize hxs : ks.zip kids = xs at *
  clear h0 h h' hN hm hm' hbd h8 hl hzl hxs
  go_enter Try.func14, Try.ntmps14
  go_wp2
  go_loopw [5, 13] (fun s i W => InSz w xs s i W) (fun _ i _ => N - (intOf i).toNat)
  case atStart => exact H0.out
  case round =>
    clear H0
    obtain ⟨k, hk, rfl, rfl, hB⟩ := hrel
    by_cases hlt : k < N
    · have hkl : k < ks.length := by rw [← HK.out]; exact hlt
      have hkd : k < kids.length := by rw [← HN.out]; exact hlt
      have hkx : k < xs.length := by rw [← HZL.out]; exact hlt
      obtain ⟨lb, lo, rfl, hat⟩ := HR.out.some (by omega)
      obtain ⟨cs, hc, a, rfl, ha⟩ := hat k hkl
      have c0 := (hc.below hB).one
      simp only [KBytes, Nat.mul_one] at c0
      obtain ⟨qa, ca, rfl, -⟩ := ha.any
      have q3 := ((mayK_iff _).1 (HM.out ks[k] (List.getElem_mem hkl))).2
      have hS : 2 + ((xs.take (k + 1)).flatMap kdOf).length = 2 + ((xs.take k).flatMap kdOf).length + (1 + ks[k].length + 16) := by
        have hz := HZ.out k hkl hkd
        rw [List.getElem?_eq_getElem hkx] at hz
        rw [flat_next hkx, List.length_append, Option.some.inj hz]
        simp [kdOf, txt, highOf_length]; omega
      have hS2 : 2 + ((xs.take k).flatMap kdOf).length ≤ 458 := by have := HBD.out k; omega
      generalize 2 + ((xs.take k).flatMap kdOf).length = S at *
      generalize ks[k].length = l1 at *
      have hSi : (S : Int) ≤ 458 := by omega
      have hl1 : (l1 : Int) ≤ 40 := by omega
      have HNX : Hid (InSz w xs (.int .i64 (S + (1 + l1 + 16) : Nat)) (.int .i64 (k + 1 : Nat)) wr) := ⟨k + 1, by omega, rfl, by rw [hS], hB⟩
      have HLT := Lib.hid hlt
      clear hS hS2 q3 ha hc hat hB
      go_wp2
      go_roundw
      case rel => exact HNX.out
      case measure => simp [intOf]; have := HLT.out; omega
    · have hkl : ¬ k < xs.length := by rw [← HZL.out]; exact hlt
      obtain rfl : k = N := by have := HZL.out; omega
      have hS2 : 2 + ((xs.take k).flatMap kdOf).length ≤ 458 := by have := HBD.out k; omega
      generalize 2 + ((xs.take k).flatMap kdOf).length = S at *
      obtain ⟨wm, hwm⟩ : ∃ W, W = wr.alloc (.cells (zeros S) 5) := ⟨_, rfl⟩
      have hmk := made_run 0 S 0 (S : Int) rfl rfl (by omega) (by omega) wr
      rw [← hwm] at hmk
      have hbm : Below w.heap.size w wm := by rw [hwm]; exact hB.alloc hB.size _
      have hom : wm.ownsRow w.heap.size 5 1 (.slice (some ⟨wr.heap.size, 0, none⟩) 0 S) 0 [] := by rw [hwm]; exact World.ownsRow_made wr (zeros S) S hB.size (by unfold maxLen; omega) (by rw [zeros_size, Nat.mul_one])
      have hw8 : IntKind.u8.wrap (k : Int) = k := by rw [IntKind.wrap_u8]; omega
      obtain ⟨v1, w1, hrun, ho1, hg1⟩ := run_append_byt (P := Try.prog) 30 byT w.heap.size (.slice (some ⟨wr.heap.size, 0, none⟩) 0 S) 0 [] (hom.alloc (.cells #[.int .u8 78, .int .u8 (k : Nat)] 5)) (.slice (some ⟨wm.heap.size, 0, none⟩) 2 2) [78, k] (Bytes.lit [78, k] rfl rfl (by simp; omega) (by simp [maxLen])) (by simp) (by have := hbm.size; simp; omega)
      have hb1 : Below w.heap.size w w1 := ((Grows.alloc wm (.slice (some ⟨wr.heap.size, 0, none⟩) 0 S) (.cells #[.int .u8 78, .int .u8 (k : Nat)] 5)).trans hg1).below hbm hbm.size (fun j hj => (hom.lt j hj).1)
      have hrow : InRow w xs v1 (.int .i64 (0 : Nat)) w1 := ⟨0, by omega, rfl, by rw [← HZL.out]; simpa using ho1, hb1⟩
      have HROW := Lib.hid hrow; have HRUN := Lib.hid hrun
      have hSi : (S : Int) ≤ 458 := by omega
      clear hrow hrun ho1 hg1 hb1 hom hbm hwm hS2 hB hlt hkl hk
      go_wp2_with (at_builtin; refine Lib.wpList_append_run _ rfl (.tmp 25) (.tmp 29) 30 30 rfl _ _ rfl rfl v1 w1 HRUN.out ?_)
      clear HRUN hmk
      go_loopw [8, 33] (fun x i W => InRow w xs x i W) (fun _ i _ => k - (intOf i).toNat)
      case atStart => exact HROW.out
      case round =>
        clear HROW
        obtain ⟨j, hj, rfl, hown, hB⟩ := hrel
        obtain ⟨px, cx, rfl⟩ := shape_of hown
        by_cases hlj : j < k
        · have hkl : j < ks.length := by rw [← HK.out]; exact hlj
          have hkd : j < kids.length := by rw [← HN.out]; exact hlj
          have hkx : j < xs.length := by rw [← HZL.out]; exact hlj
          obtain ⟨lb, lo, rfl, hat⟩ := HR.out.some (by omega)
          obtain ⟨cs, hc, a, rfl, ha⟩ := hat j hkl
          obtain ⟨lb', lo', rfl, hat'⟩ := HR'.out.some (by omega)
          obtain ⟨cs', hc', rfl, hoff, hct⟩ := hat' j hkd
          obtain ⟨d0, d1⟩ := (hc'.below hB).two
          simp only [KRef] at d0 d1
          obtain ⟨qa, ca, rfl, -⟩ := ha.any
          have q3 := ((mayK_iff _).1 (HM.out ks[j] (List.getElem_mem hkl))).2
          obtain ⟨r1, r2, r3⟩ := (mayKd_iff _).1 (HM'.out kids[j] (List.getElem_mem hkd))
          have hL : ([78, xs.length] ++ (xs.take j).flatMap kdOf).length ≤ 458 := by have := HBD.out j; simp only [List.length_append, List.length_cons, List.length_nil]; omega
          have hnx : [78, xs.length] ++ (xs.take (j + 1)).flatMap kdOf = (([78, xs.length] ++ (xs.take j).flatMap kdOf ++ txt ks[j]) ++ highOf kids[j].off.toNat 8) ++ highOf kids[j].ct 8 := by
            have hz := HZ.out j hkl hkd
            rw [List.getElem?_eq_getElem hkx] at hz
            rw [flat_next hkx, Option.some.inj hz]; simp [kdOf]
          have hlt' := hown.lt
          generalize [78, xs.length] ++ (xs.take j).flatMap kdOf = L at *
          generalize hit : ks[j] = it at *
          generalize kids[j] = kd at *
          obtain ⟨off, ct⟩ := kd
          simp only at d0 d1 hoff hct r1 r2 r3 hnx
          obtain ⟨o, rfl⟩ : ∃ o : Nat, off = o := ⟨off.toNat, by omega⟩
          rw [Int.toNat_natCast] at hnx
          have hown1 := hown.alloc (.cells #[.int .i64 (o : Nat), .int .u64 (ct : Nat)] 41)
          have hB1 := hB.alloc hB.size (.cells #[.int .i64 (o : Nat), .int .u64 (ct : Nat)] 41)
          have hblk := heap_alloc_new wr (.cells #[.int .i64 (o : Nat), .int .u64 (ct : Nat)] 41)
          have c0 := (hc.below hB1).one
          simp only [KBytes, Nat.mul_one] at c0
          have hT1 := putText_any (.slice px L.length cx) (.slice qa it.length ca) L it w.heap.size _ hown1 (by omega) hB1.size (ha.below hB1) (fun h0 e => by
            cases px with
            | none => exact absurd (ha.spot 0 (List.length_pos_iff.2 h0)) (by intro ⟨b, o, e2, _⟩; subst e2; simp [Value.ownBlock] at e)
            | some ax =>
              have := (hlt' ax.block rfl).1
              have := ha.old h0 ax.block (by rw [e]; rfl)
              omega) (by omega)
          have hwo : IntKind.u64.wrap (o : Int) = o := by rw [IntKind.wrap_u64]; omega
          have HT1 := Lib.hid hT1; have HB1 := Lib.hid hB1; have HNX := Lib.hid hnx; have HLJ := Lib.hid hlj; have HLT' := Lib.hid hlt'; have HBK := Lib.hid hblk
          have HL : Hid (L.length + (txt it).length ≤ 2000) := by unfold Hid; rw [txt_length]; omega
          have HO : Hid (o < 9223372036854775808) := by unfold Hid; omega
          have HCT : Hid (ct < 9223372036854775808) := by unfold Hid; omega
          clear hT1 hB1 ha hblk hown1 hlt' hnx hL q3 hc hat hc' hat' hown hB hit hkl hkd hkx hoff hct r1 r2 r3
          go_wp2_with fail
          refine HT1.out.mono ?_
          rintro e w2 ⟨v2, rfl, ho2, hg2⟩
          have hb2 : Below w.heap.size w w2 := hg2.below HB1.out HB1.out.size (fun i hi => (HLT'.out i hi).1)
          have hbk2 : w2.heap[wr.heap.size]? = some (.cells #[.int .i64 (o : Nat), .int .u64 (ct : Nat)] 41 (0, 0)) := (hg2.block (by simp) (by intro e; have := (HLT'.out _ e).2; omega)).trans HBK.out
          have e0 := cells_of hbk2 0
          simp only [List.getElem?_toArray, List.getElem?_cons_zero, List.getElem?_cons_succ] at e0
          obtain ⟨M, hM⟩ : ∃ M, M = L ++ txt it := ⟨_, rfl⟩
          rw [← hM] at ho2
          have HMM := Lib.hid hM
          have hML : M.length ≤ 2000 := by rw [hM, List.length_append]; exact HL.out
          have HML := Lib.hid hML
          have hwl2 : wr.heap.size < w2.heap.size := (Array.getElem?_eq_some_iff.1 hbk2).1
          have hne2 : v2.ownBlock ≠ some wr.heap.size := by
            rcases hg2.new with h | ⟨g, h, hg⟩
            · rw [h]; intro e; have := (HLT'.out _ e).2; omega
            · rw [h]; intro e; have := Option.some.inj e; simp at hg; omega
          have hT2 := putNumber_any o HO.out v2 M w.heap.size w2 ho2 (by omega) hb2.size
          have HT2 := Lib.hid hT2; have HB2 := Lib.hid hb2; have HLT2 := Lib.hid ho2.lt; have HBK2 := Lib.hid hbk2; have HNE2 := Lib.hid hne2; have HWL2 := Lib.hid hwl2
          clear hT2 hb2 hbk2 ho2 hg2 HT1 HBK c0 d0 d1 hM hML hne2 hwl2
          go_wp2_with fail
          refine HT2.out.mono ?_
          rintro e w3 ⟨v3, rfl, ho3, hg3⟩
          have hb3 : Below w.heap.size w w3 := hg3.below HB2.out HB2.out.size (fun i hi => (HLT2.out i hi).1)
          have hbk3 : w3.heap[wr.heap.size]? = some (.cells #[.int .i64 (o : Nat), .int .u64 (ct : Nat)] 41 (0, 0)) := (hg3.block HWL2.out HNE2.out).trans HBK2.out
          have f1 := cells_of hbk3 1
          simp only [List.getElem?_toArray, List.getElem?_cons_zero, List.getElem?_cons_succ] at f1
          obtain ⟨M2, hM2⟩ : ∃ M2, M2 = M ++ highOf o 8 := ⟨_, rfl⟩
          rw [← hM2] at ho3
          have HMM2 := Lib.hid hM2
          have hT3 := putNumber_any ct HCT.out v3 M2 w.heap.size w3 ho3 (by rw [hM2, List.length_append, highOf_length]; have := HML.out; omega) hb3.size
          have HT3 := Lib.hid hT3; have HB3 := Lib.hid hb3; have HLT3 := Lib.hid ho3.lt
          clear hT3 hb3 hbk3 ho3 hg3 HT2 HBK2 e0 hM2
          go_wp2_with fail
          refine HT3.out.mono ?_
          rintro e w4 ⟨v4, rfl, ho4, hg4⟩
          have hrow4 : InRow w xs v4 (.int .i64 (j + 1 : Nat)) w4 := ⟨j + 1, by have := HZL.out; have := HLJ.out; omega, rfl, by rw [HNX.out, ← HMM.out, ← HMM2.out]; exact ho4, hg4.below HB3.out HB3.out.size (fun i hi => (HLT3.out i hi).1)⟩
          have HROW := Lib.hid hrow4
          clear hrow4 ho4 hg4 HT3 f1
          go_wp2
          go_roundw
          case rel => exact HROW.out
          case measure => simp [intOf]; have := HLJ.out; omega
        · have hjk : j = k := by have := HZL.out; omega
          have hE : [78, xs.length] ++ (xs.take j).flatMap kdOf = 78 :: k :: xs.flatMap kdOf := by
            rw [List.take_of_length_le (by rw [← HZL.out]; omega), ← HZL.out]; rfl
          rw [hE] at hown ⊢
          have HO := Lib.hid hown; have HB := Lib.hid hB
          clear hown hB hE hj
          subst hjk
          go_wp2
          go_ret
          exact ⟨_, rfl, HO.out, HB.out⟩

set_option maxRecDepth 100000 in
theorem put_any {w : World} {v : Value} {n : Nd} {pi pk pd : Option Addr} {ci ck cd : Nat} (h : IsNd w v n pi ci pk ck pd cd) :
    Calls Try.prog 7 #[v] w (Rows w (putNd n)) := by
  have hv := h.val
  have hb := (Below.refl w.heap.size w).alloc (Nat.le_refl _) (.cells #[.bool n.leaf, .slice pi n.its.length ci, .slice pk n.ks.length ck, .slice pd n.kids.length cd] 26)
  have HM := Lib.hid (may_any (h.below hb))
  have hx := NdAt.new w n pi ci pk ck pd cd
  have HX := Lib.hid hx
  have HB := Lib.hid hb
  have HI := Lib.hid (h.below hb)
  subst hv
  obtain ⟨R, hR⟩ : ∃ R, R = putNd n := ⟨_, rfl⟩
  have HRR := Lib.hid hR
  rw [← hR]
  clear hb h hx hR
  go_enter Try.func7, Try.ntmps7
  go_wp2_with fail
  refine HM.out.mono ?_
  rintro e w1 ⟨rfl, hb1⟩
  have HB1 : Hid (Below w.heap.size w w1) := HB.out.trans (hb1.mono HB.out.size)
  have HX1 := Lib.hid (HX.out.below hb1); have HI1 := Lib.hid (HI.out.below hb1)
  clear hb1 HX HI HM
  cases hm : mayNd n with
  | false =>
    have E : Hid (R = []) := by unfold Hid; rw [HRR.out]; unfold putNd; rw [hm]; rfl
    clear hm
    go_wp2
    go_ret
    exact ⟨_, rfl, by rw [E.out]; exact World.ownsRow_nil _ _ _ _, HB1.out⟩
  | true =>
    have E : Hid (R = ndOf n) := by unfold Hid; rw [HRR.out]; unfold putNd; rw [hm]; rfl
    obtain ⟨c0, c1, c2, c3⟩ := HX1.out.cells
    cases hl : n.leaf with
    | true =>
      obtain ⟨m1, m2, _, _, _⟩ := may_lf hl hm
      have E2 : R = 76 :: n.its.length :: n.its.flatMap itOf := by rw [E.out]; exact ndOf_lf hl
      have HP := Lib.hid (putLeaf_any pi ci n.its w1 HI1.out.its m2 m1.2)
      rw [← E2] at HP
      rw [hl] at c0
      clear hm hl m1 m2 E2
      go_wp2_with fail
      refine HP.out.mono ?_
      rintro e w2 ⟨v2, rfl, ho, hb2⟩
      have HO := Lib.hid ho; have HB2 : Hid (Below w.heap.size w w2) := HB1.out.trans (hb2.mono HB1.out.size)
      obtain ⟨p2, c2', rfl⟩ := shape_of ho
      clear ho hb2
      go_wp2
      go_ret
      exact ⟨_, rfl, owns_base HO.out HB1.out.size, HB2.out⟩
    | false =>
      obtain ⟨m1, m2, m3, _, m4, _⟩ := may_in hl hm
      have E2 : R = 78 :: n.kids.length :: (n.ks.zip n.kids).flatMap kdOf := by rw [E.out]; exact ndOf_in hl
      have HP := Lib.hid (putInner_any pk pd ck cd n.ks n.kids w1 HI1.out.ks HI1.out.kids m2 m3 m4 m1.2)
      rw [← E2] at HP
      rw [hl] at c0
      clear hm hl m1 m2 m3 m4 E2
      go_wp2_with fail
      refine HP.out.mono ?_
      rintro e w2 ⟨v2, rfl, ho, hb2⟩
      have HO := Lib.hid ho; have HB2 : Hid (Below w.heap.size w w2) := HB1.out.trans (hb2.mono HB1.out.size)
      obtain ⟨p2, c2', rfl⟩ := shape_of ho
      clear ho hb2
      go_wp2
      go_ret
      exact ⟨_, rfl, owns_base HO.out HB1.out.size, HB2.out⟩
end Go.Proofs.Ytbjjaabmdjbodaa

