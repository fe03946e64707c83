/- Roots in a program: the developers' parts; what may be. -/
import Derived.Test.YtkhpblclpcgjnaaRtF
namespace Go.Proofs.Ytkhpblclpcgjnaa
open Go Go.RowKit Go.By

set_option maxRecDepth 100000 in
theorem tr_off (q c : Nat) (hq : q < 9223372036854775808) : PutPart 1000 27 (.agg #[.int .i64 q, .int .u64 c]) (highOf q 8) := by
  refine ⟨fun args w => by kernel_rfl, fun v l base w hv hl hb => ?_⟩
  have hba : Below w.heap.size w (w.alloc (.cells #[.int .i64 q, .int .u64 c] 50)) := (Below.refl _ _).alloc (Nat.le_refl _) _
  have H := Lib.hid (putNumber_any q (by omega) v l base (w.alloc (.cells #[.int .i64 q, .int .u64 c] 50)) (hv.alloc _) (by omega) (by simp; omega))
  have HG : Hid (Grows w (w.alloc (.cells #[.int .i64 q, .int .u64 c] 50)) v v) := Grows.of_below hba v
  have hw : IntKind.u64.wrap (q : Int) = q := by rw [IntKind.wrap_u64]; omega
  have hq9 : (q : Int) ≤ 9223372036854775807 := by omega
  obtain ⟨p, cap, rfl⟩ := owns_slice hv
  clear hba hv hb hq
  obtain ⟨LN, hLN⟩ : ∃ n, n = l.length := ⟨_, rfl⟩
  rw [← hLN] at H HG ⊢
  clear hLN hl
  go_enter Try.func27, Try.ntmps27
  go_wp2_with fail
  refine H.out.mono ?_
  rintro e w1 ⟨v1, rfl, ho, hg⟩
  have HO := Lib.hid ho; have HG1 := Lib.hid (HG.out.trans hg)
  clear ho hg
  go_wp2
  go_ret
  exact ⟨_, rfl, HO.out, HG1.out⟩

set_option maxRecDepth 100000 in
theorem tr_count (o : Int) (c : Nat) (hc : c < 18446744073709551616) : PutPart 1000 28 (.agg #[.int .i64 o, .int .u64 c]) (highOf c 8) := by
  refine ⟨fun args w => by kernel_rfl, fun v l base w hv hl hb => ?_⟩
  have hba : Below w.heap.size w (w.alloc (.cells #[.int .i64 o, .int .u64 c] 50)) := (Below.refl _ _).alloc (Nat.le_refl _) _
  have H := Lib.hid (putNumber_any c hc v l base (w.alloc (.cells #[.int .i64 o, .int .u64 c] 50)) (hv.alloc _) (by omega) (by simp; omega))
  have HG : Hid (Grows w (w.alloc (.cells #[.int .i64 o, .int .u64 c] 50)) v v) := Grows.of_below hba v
  obtain ⟨p, cap, rfl⟩ := owns_slice hv
  clear hba hv hb hc
  obtain ⟨LN, hLN⟩ : ∃ n, n = l.length := ⟨_, rfl⟩
  rw [← hLN] at H HG ⊢
  clear hLN hl
  go_enter Try.func28, Try.ntmps28
  go_wp2_with fail
  refine H.out.mono ?_
  rintro e w1 ⟨v1, rfl, ho, hg⟩
  have HO := Lib.hid ho; have HG1 := Lib.hid (HG.out.trans hg)
  clear ho hg
  go_wp2
  go_ret
  exact ⟨_, rfl, HO.out, HG1.out⟩

set_option maxRecDepth 100000 in
theorem may_tree (o : Int) (c : Nat) (w : World) : Calls Try.prog 24 #[.agg #[.int .i64 o, .int .u64 c]] w fun e w' => e = .returned (.bool (mayRf ⟨o, c⟩)) ∧ Below w.heap.size w w' := by
  have HB : Hid (Below w.heap.size w (w.alloc (.cells #[.int .i64 o, .int .u64 c] 50))) := (Below.refl _ _).alloc (Nat.le_refl _) _
  obtain ⟨q, hq⟩ : ∃ q, q = mayRf ⟨o, c⟩ := ⟨_, rfl⟩
  rw [← hq]
  have hmf : q = (decide (0 ≤ o) && ((o == 0) == ((c : Int) == 0))) := by
    rw [hq]
    unfold mayRf
    dsimp only
    congr 1
    by_cases h1 : o = 0
    · by_cases h2 : c = 0
      · subst h1; subst h2; rfl
      · have h3 : ((c : Int) == 0) = false := by rw [beq_eq_false_iff_ne]; omega
        rw [h3, h1]; simp [h2]
    · have h4 : (o == 0) = false := by rw [beq_eq_false_iff_ne]; exact h1
      rw [h4]
      by_cases h2 : c = 0
      · subst h2; simp [h1]
      · have h3 : ((c : Int) == 0) = false := by rw [beq_eq_false_iff_ne]; omega
        rw [h3]; simp [h1, h2]
  have HQ := Lib.hid hmf
  clear hq hmf
  obtain ⟨b1, hb1⟩ : ∃ b, (o == 0) = b := ⟨_, rfl⟩
  obtain ⟨b2, hb2⟩ : ∃ b, ((c : Int) == 0) = b := ⟨_, rfl⟩
  by_cases h0 : 0 ≤ o
  · have hq2 : Hid (q = (b1 == b2)) := by unfold Hid; rw [HQ.out, hb1, hb2, decide_eq_true h0, Bool.true_and]
    clear HQ
    go_enter Try.func24, Try.ntmps24
    go_wp2
    go_ret
    exact ⟨by rw [hq2.out]; rfl, HB.out⟩
  · have hq2 : Hid (q = false) := by unfold Hid; rw [HQ.out, decide_eq_false h0, Bool.false_and]
    clear HQ
    go_enter Try.func24, Try.ntmps24
    go_wp2
    go_ret
    exact ⟨by rw [hq2.out]; rfl, HB.out⟩

theorem ref_index0 (a b c d e : NKd) (w : World) : (Instr.index 25 (.agg #[.int .i64 a.off, .int .u64 (a.ct : Nat), .int .i64 b.off, .int .u64 (b.ct : Nat), .int .i64 c.off, .int .u64 (c.ct : Nat), .int .i64 d.off, .int .u64 (d.ct : Nat), .int .i64 e.off, .int .u64 (e.ct : Nat)]) (.int .i64 0)).run Try.prog w = .ok (.agg #[.int .i64 a.off, .int .u64 (a.ct : Nat)]) w := by kernel_rfl
theorem ref_index1 (a b c d e : NKd) (w : World) : (Instr.index 25 (.agg #[.int .i64 a.off, .int .u64 (a.ct : Nat), .int .i64 b.off, .int .u64 (b.ct : Nat), .int .i64 c.off, .int .u64 (c.ct : Nat), .int .i64 d.off, .int .u64 (d.ct : Nat), .int .i64 e.off, .int .u64 (e.ct : Nat)]) (.int .i64 1)).run Try.prog w = .ok (.agg #[.int .i64 b.off, .int .u64 (b.ct : Nat)]) w := by kernel_rfl
theorem ref_index2 (a b c d e : NKd) (w : World) : (Instr.index 25 (.agg #[.int .i64 a.off, .int .u64 (a.ct : Nat), .int .i64 b.off, .int .u64 (b.ct : Nat), .int .i64 c.off, .int .u64 (c.ct : Nat), .int .i64 d.off, .int .u64 (d.ct : Nat), .int .i64 e.off, .int .u64 (e.ct : Nat)]) (.int .i64 2)).run Try.prog w = .ok (.agg #[.int .i64 c.off, .int .u64 (c.ct : Nat)]) w := by kernel_rfl
theorem ref_index3 (a b c d e : NKd) (w : World) : (Instr.index 25 (.agg #[.int .i64 a.off, .int .u64 (a.ct : Nat), .int .i64 b.off, .int .u64 (b.ct : Nat), .int .i64 c.off, .int .u64 (c.ct : Nat), .int .i64 d.off, .int .u64 (d.ct : Nat), .int .i64 e.off, .int .u64 (e.ct : Nat)]) (.int .i64 3)).run Try.prog w = .ok (.agg #[.int .i64 d.off, .int .u64 (d.ct : Nat)]) w := by kernel_rfl
theorem ref_index4 (a b c d e : NKd) (w : World) : (Instr.index 25 (.agg #[.int .i64 a.off, .int .u64 (a.ct : Nat), .int .i64 b.off, .int .u64 (b.ct : Nat), .int .i64 c.off, .int .u64 (c.ct : Nat), .int .i64 d.off, .int .u64 (d.ct : Nat), .int .i64 e.off, .int .u64 (e.ct : Nat)]) (.int .i64 4)).run Try.prog w = .ok (.agg #[.int .i64 e.off, .int .u64 (e.ct : Nat)]) w := by kernel_rfl
theorem ref_index (a b c d e : NKd) (k : Nat) (h : k < [a, b, c, d, e].length) (w : World) :
    (Instr.index 25 (.agg #[.int .i64 a.off, .int .u64 (a.ct : Nat), .int .i64 b.off, .int .u64 (b.ct : Nat), .int .i64 c.off, .int .u64 (c.ct : Nat), .int .i64 d.off, .int .u64 (d.ct : Nat), .int .i64 e.off, .int .u64 (e.ct : Nat)]) (.int .i64 (k : Nat))).run Try.prog w = .ok (.agg #[.int .i64 [a, b, c, d, e][k].off, .int .u64 ([a, b, c, d, e][k].ct : Nat)]) w := by
  match k, h with
  | 0, _ => exact ref_index0 a b c d e w
  | 1, _ => exact ref_index1 a b c d e w
  | 2, _ => exact ref_index2 a b c d e w
  | 3, _ => exact ref_index3 a b c d e w
  | 4, _ => exact ref_index4 a b c d e w
  | k + 5, h => simp at h; omega

/-- How far a root's trees have been looked at. -/
def MayAt (W : World) (ts : List NKd) (i : Value) (wr : World) : Prop :=
  ∃ k : Nat, k ≤ 5 ∧ i = .int .i64 k ∧ (∀ j (h : j < ts.length), j < k → mayRf ts[j] = true) ∧ Below W.heap.size W wr

set_option maxRecDepth 100000 in
set_option maxHeartbeats 2000000 in
theorem may_root (r : Rt) (h5 : r.ts.length = 5) (w : World) : Calls Try.prog 14 #[.agg (rtCells r).toArray] w fun e w' => e = .returned (.bool (mayRt r)) ∧ Below w.heap.size w w' := by
  obtain ⟨W, hW⟩ : ∃ W, W = w.alloc (.cells (rtCells r).toArray 38) := ⟨_, rfl⟩
  have hb : Below w.heap.size w W := by rw [hW]; exact (Below.refl _ _).alloc (Nat.le_refl _) _
  have hcW : W.heap[w.heap.size]? = some (.cells (rtCells r).toArray 38 (0, 0)) := by rw [hW]; exact heap_alloc_new w _
  obtain ⟨q, hq⟩ : ∃ q, q = mayRt r := ⟨_, rfl⟩
  rw [← hq]
  have HQ : Hid (q = (decide (0 ≤ r.nx) && r.ts.all mayRf)) := hq
  clear hq
  obtain ⟨g, nx, ts⟩ := r
  dsimp only at h5 HQ
  obtain ⟨a, b, c, d, e, rfl⟩ := five_of h5
  have HB := Lib.hid hb; have HW := Lib.hid hW; have HCW := Lib.hid hcW
  have a0 := cells_of hcW 0
  have a1 := cells_of hcW 1
  have a2 := cells_of hcW 2
  have a3 := cells_of hcW 3
  have a4 := cells_of hcW 4
  have a5 := cells_of hcW 5
  have a6 := cells_of hcW 6
  have a7 := cells_of hcW 7
  have a8 := cells_of hcW 8
  have a9 := cells_of hcW 9
  have a10 := cells_of hcW 10
  have a11 := cells_of hcW 11
  have hidx := ref_index a b c d e
  have hlen : [a, b, c, d, e].length = 5 := rfl
  generalize hts : [a, b, c, d, e] = ts at *
  have HIDX := Lib.hid hidx; have HLEN := Lib.hid hlen
  have HL : Hid (w.heap.size < W.heap.size) := (Array.getElem?_eq_some_iff.1 hcW).1
  clear hb hcW hW h5 hidx hlen
  simp only [rtCells, ← hts, rfCells, List.flatMap_cons, List.flatMap_nil, List.cons_append, List.nil_append, List.append_nil, List.getElem?_toArray, List.getElem?_cons_zero, List.getElem?_cons_succ] at HW HCW a0 a1 a2 a3 a4 a5 a6 a7 a8 a9 a10 a11 ⊢
  clear hts
  go_enter Try.func14, Try.ntmps14
  go_upto_region 1 with fail
  rw [← HW.out]
  go_wp2
  go_loopw [7] (fun i wr => MayAt W ts i wr) (fun i _ => 5 - (intOf i).toNat)
  case atStart => exact ⟨0, by omega, rfl, fun j _ hj => absurd hj (by omega), Below.refl _ _⟩
  case round =>
    obtain ⟨k, hk, rfl, hms, hbl⟩ := hrel
    by_cases hlt : k < 5
    · have hkt : k < ts.length := by rw [HLEN.out]; exact hlt
      have hidx := HIDX.out k hkt
      obtain ⟨dk, hdk⟩ : ∃ d, ts[k] = d := ⟨_, rfl⟩
      rw [hdk] at hidx
      obtain ⟨o, ct⟩ := dk
      dsimp only at hidx
      have hba : Below wr.heap.size wr (wr.alloc (.cells #[.int .i64 o, .int .u64 (ct : Nat)] 24)) := (Below.refl _ _).alloc (Nat.le_refl _) _
      have HMAY := Lib.hid (may_tree o ct (wr.alloc (.cells #[.int .i64 o, .int .u64 (ct : Nat)] 24)))
      have HBL := Lib.hid hbl; have HMS := Lib.hid hms; have HDK : Hid (∀ h : k < ts.length, ts[k] = ⟨o, ct⟩) := fun _ => hdk
      have HBA : Hid (Below W.heap.size W (wr.alloc (.cells #[.int .i64 o, .int .u64 (ct : Nat)] 24))) := hbl.trans (hba.mono hbl.size)
      have HKT := Lib.hid hkt
      have HLT := Lib.hid hlt
      clear hbl hms hdk hba hkt a1 a2 a3 a4 a5 a6 a7 a8 a9 a10 a11 a0
      obtain ⟨Q, hQ⟩ : ∃ q, q = mayRf ⟨o, ct⟩ := ⟨_, rfl⟩
      rw [← hQ] at HMAY
      have HQQ := Lib.hid hQ
      clear hQ
      go_wp2_with fail
      refine HMAY.out.mono ?_
      rintro e1 w1 ⟨rfl, hb1⟩
      have HB1 : Hid (Below W.heap.size W w1) := HBA.out.trans (hb1.mono HBA.out.size)
      clear hb1 HMAY
      cases Q with
      | false =>
        have HNO : Hid (q = false) := by
          unfold Hid
          rw [HQ.out]
          have : ts.all mayRf = false := by
            rw [List.all_eq_false]
            exact ⟨ts[k]'HKT.out, List.getElem_mem _, by rw [HDK.out, ← HQQ.out]; simp⟩
          rw [this, Bool.and_false]
        have HBB : Hid (Below w.heap.size w w1) := HB.out.trans (HB1.out.mono HB.out.size)
        go_wp2
        go_ret
        exact ⟨by rw [HNO.out]; rfl, HBB.out⟩
      | true =>
        have HREL : Hid (MayAt W ts (.int .i64 (k + 1 : Nat)) w1) := ⟨k + 1, HLT.out, rfl, fun j h hj => by
          by_cases hjk : j < k
          · exact HMS.out j h hjk
          · obtain rfl : j = k := by omega
            rw [HDK.out h, ← HQQ.out], HB1.out⟩
        go_wp2
        go_roundw
        case rel => exact HREL.out
        case measure => simp [intOf]; have := HLT.out; omega
    · have HYES : Hid (q = decide (0 ≤ nx)) := by
        unfold Hid
        rw [HQ.out]
        have : ts.all mayRf = true := by
          rw [List.all_eq_true]
          intro x hx
          obtain ⟨j, hj, rfl⟩ := List.getElem_of_mem hx
          exact hms j hj (by have := HLEN.out; omega)
        rw [this, Bool.and_true]
      have c1 := (hbl.cell (p := ⟨w.heap.size, 1, none⟩) HL.out).trans a1
      have HBB : Hid (Below w.heap.size w wr) := HB.out.trans (hbl.mono HB.out.size)
      obtain rfl : k = 5 := by omega
      clear hms hbl a1 a2 a3 a4 a5 a6 a7 a8 a9 a10 a11 a0
      by_cases h0 : 0 ≤ nx
      · have HY : Hid (q = true) := by unfold Hid; rw [HYES.out, decide_eq_true h0]
        go_wp2
        go_ret
        exact ⟨by rw [HY.out]; rfl, HBB.out⟩
      · have HY : Hid (q = false) := by unfold Hid; rw [HYES.out, decide_eq_false h0]
        go_wp2
        go_ret
        exact ⟨by rw [HY.out]; rfl, HBB.out⟩
end Go.Proofs.Ytkhpblclpcgjnaa

