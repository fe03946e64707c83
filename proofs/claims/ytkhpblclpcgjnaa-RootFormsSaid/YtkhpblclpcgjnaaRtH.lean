/- Roots in a program: the developers' Put. -/
import Derived.Test.YtkhpblclpcgjnaaRtG
import Derived.Deep.RegionLaw
namespace Go.Proofs.Ytkhpblclpcgjnaa
open Go Go.RowKit Go.By

theorem share {T G : Prop} (k : T → G) (p : T) : G := k p

set_option maxRecDepth 100000 in
set_option maxHeartbeats 2000000 in
theorem rt_next (r : Rt) (h5 : r.ts.length = 5) (h0 : 0 ≤ r.nx) (h1 : r.nx ≤ 9223372036854775807) : PutPart 500 17 (.agg (rtCells r).toArray) (highOf r.nx.toNat 8) := by
  refine ⟨fun args w => by kernel_rfl, fun v l base w hv hl hb => ?_⟩
  obtain ⟨W, hW⟩ : ∃ W, W = w.alloc (.cells (rtCells r).toArray 38) := ⟨_, rfl⟩
  have hbW : Below w.heap.size w W := by rw [hW]; exact (Below.refl _ _).alloc (Nat.le_refl _) _
  have hcW : W.heap[w.heap.size]? = some (.cells (rtCells r).toArray 38 (0, 0)) := by rw [hW]; exact heap_alloc_new w _
  have hvW : W.ownsRow base 5 1 v l.length (cellsOf l) := by rw [hW]; exact hv.alloc _
  obtain ⟨g, nx, ts⟩ := r
  dsimp only at h5 h0 h1
  obtain ⟨q, rfl⟩ : ∃ q : Nat, nx = q := ⟨nx.toNat, by omega⟩
  have H := Lib.hid (putNumber_any q (by omega) v l base W hvW (by omega) (Nat.le_trans hb hbW.size))
  have HG : Hid (Grows w W v v) := Grows.of_below hbW v
  have hw : IntKind.u64.wrap (q : Int) = q := by rw [IntKind.wrap_u64]; omega
  have hq9 : (q : Int) ≤ 9223372036854775807 := by omega
  have a1 := cells_of hcW 1
  have HW := Lib.hid hW
  obtain ⟨a, b, c, d, e, rfl⟩ := five_of h5
  obtain ⟨p, cap, rfl⟩ := owns_slice hv
  clear hbW hv hvW hb h0 h1 hcW hW h5
  obtain ⟨LN, hLN⟩ : ∃ n, n = l.length := ⟨_, rfl⟩
  rw [← hLN] at H HG ⊢
  clear hLN hl
  rw [Int.toNat_natCast]
  simp only [rtCells, rfCells, List.flatMap_cons, List.flatMap_nil, List.cons_append, List.nil_append, List.append_nil, List.getElem?_toArray, List.getElem?_cons_zero, List.getElem?_cons_succ] at HW a1 ⊢
  go_enter Try.func17, Try.ntmps17
  go_upto_region 1 with fail
  rw [← HW.out]
  go_wp2_with fail
  refine H.out.mono ?_
  rintro e w1 ⟨v1, rfl, ho, hg⟩
  have HO := Lib.hid ho; have HG1 := Lib.hid (HG.out.trans hg)
  clear ho hg
  go_wp2
  go_ret
  exact ⟨_, rfl, HO.out, HG1.out⟩

/-- A tree, by its row of parts. -/
theorem tree_laid (q c : Nat) (hq : q < 9223372036854775808) (hc : c < 18446744073709551616) (v : Value) (l : List Nat) (base : Nat) (w : World) (hv : w.ownsRow base 5 1 v l.length (cellsOf l)) (hl : l.length ≤ 600) (hb : base ≤ w.heap.size) (rb : Nat)
    (hr : w.heap[rb]? = some (.cells #[.func (.func 27) #[] #[], .func (.func 28) #[] #[]] 57 (0, 0))) (hne : v.ownBlock ≠ some rb) :
    Calls Try.prog 26 #[.agg #[.int .i64 q, .int .u64 c], v, .slice (some ⟨rb, 0, none⟩) 2 2] w (RowsG w base v (l ++ refOf ⟨q, c⟩)) := by
  have H := along_tree 1000 (.int .i64 q) (.int .u64 c) [27, 28] [highOf q 8, highOf c 8] rb v l base w rfl (by simp)
    (fun i m h => by
      match i, h with
      | 0, h => cases h; simp [highOf_length]
      | 1, h => cases h; simp [highOf_length]
      | k + 2, h => simp at h)
    (fun i f m h1 h2 => by
      match i, h1, h2 with
      | 0, h1, h2 => cases h1; cases h2; exact tr_off q c hq
      | 1, h1, h2 => cases h1; cases h2; exact tr_count q c hc
      | k + 2, h1, _ => simp at h1)
    (fun i f h => by
      match i, h with
      | 0, h => cases h; exact cells_of hr 0
      | 1, h => cases h; exact cells_of hr 1
      | k + 2, h => simp at h) (Array.getElem?_eq_some_iff.1 hr).1 hv (by simp; omega) hb hne 2 rfl
  have E : List.flatten [highOf q 8, highOf c 8] = refOf ⟨q, c⟩ := by simp [refOf]
  rw [E] at H
  exact H

/-- How far a root's trees have been laid. -/
def TreesAt (W : World) (base : Nat) (v : Value) (l : List Nat) (ts : List NKd) (x i : Value) (wr : World) : Prop :=
  ∃ (k : Nat) (m : List Nat), k ≤ 5 ∧ i = .int .i64 k ∧ m = l ++ refsOf (ts.take k) ∧ m.length ≤ 500 + 16 * k ∧ wr.ownsRow base 5 1 x m.length (cellsOf m) ∧ Grows W wr v x

set_option maxRecDepth 100000 in
set_option maxHeartbeats 2000000 in
theorem rt_trees (r : Rt) (h5 : r.ts.length = 5) (hts : ∀ d ∈ r.ts, 0 ≤ d.off ∧ d.off ≤ 9223372036854775807 ∧ d.ct < 18446744073709551616) (v : Value) (l : List Nat) (base : Nat) (w : World) (hv : w.ownsRow base 5 1 v l.length (cellsOf l)) (hl : l.length ≤ 500) (hb : base ≤ w.heap.size) :
    Calls Try.prog 18 #[.agg (rtCells r).toArray, v] w (RowsG w base v (l ++ refsOf r.ts)) := by
  obtain ⟨W, hW⟩ : ∃ W, W = w.alloc (.cells (rtCells r).toArray 38) := ⟨_, rfl⟩
  have hbW : Below w.heap.size w W := by rw [hW]; exact (Below.refl _ _).alloc (Nat.le_refl _) _
  have hcW : W.heap[w.heap.size]? = some (.cells (rtCells r).toArray 38 (0, 0)) := by rw [hW]; exact heap_alloc_new w _
  have hvW : W.ownsRow base 5 1 v l.length (cellsOf l) := by rw [hW]; exact hv.alloc _
  have HGW : Hid (Grows w W v v) := Grows.of_below hbW v
  have HBW : Hid (base ≤ W.heap.size) := Nat.le_trans hb hbW.size
  obtain ⟨g, nx, ts⟩ := r
  dsimp only at h5 hts
  obtain ⟨a, b, c, d, e, rfl⟩ := five_of h5
  have HW := Lib.hid hW
  have a0 := cells_of hcW 0
  have a1 := cells_of hcW 1
  have a2 := cells_of hcW 2
  have a3 := cells_of hcW 3
  have a4 := cells_of hcW 4
  have a5 := cells_of hcW 5
  have a6 := cells_of hcW 6
  have a7 := cells_of hcW 7
  have a8 := cells_of hcW 8
  have a9 := cells_of hcW 9
  have a10 := cells_of hcW 10
  have a11 := cells_of hcW 11
  have hidx := ref_index a b c d e
  have hlen : [a, b, c, d, e].length = 5 := rfl
  have H0 : Hid (TreesAt W base v l [a, b, c, d, e] v (.int .i64 (0 : Nat)) W) := ⟨0, l, by omega, rfl, by simp [refsOf], by omega, hvW, Grows.refl _ _⟩
  generalize hT : [a, b, c, d, e] = ts at *
  have HIDX := Lib.hid hidx; have HLEN := Lib.hid hlen; have HTS := Lib.hid hts
  obtain ⟨p0, cap0, rfl⟩ := owns_slice hv
  clear hbW hcW hW h5 hidx hlen hts hv hvW hb hl
  simp only [rtCells, ← hT, rfCells, List.flatMap_cons, List.flatMap_nil, List.cons_append, List.nil_append, List.append_nil, List.getElem?_toArray, List.getElem?_cons_zero, List.getElem?_cons_succ] at HW a0 a1 a2 a3 a4 a5 a6 a7 a8 a9 a10 a11 ⊢
  rw [hT]
  clear hT
  go_enter Try.func18, Try.ntmps18
  go_upto_region 1 with fail
  rw [← HW.out]
  go_wp2
  clear a0 a1 a2 a3 a4 a5 a6 a7 a8 a9 a10 a11
  go_loopw [1, 9] (fun x i wr => TreesAt W base (.slice p0 l.length cap0) l ts x i wr) (fun _ i _ => 5 - (intOf i).toNat)
  case atStart => exact H0.out
  case round =>
    clear H0
    obtain ⟨k, m, hk, rfl, hm, hml, hown, hg⟩ := hrel
    obtain ⟨p, cap, rfl⟩ := owns_slice hown
    by_cases hlt : k < 5
    · have hkt : k < ts.length := by rw [HLEN.out]; exact hlt
      have hidx := HIDX.out k hkt
      have hfine := HTS.out _ (List.getElem_mem hkt)
      have hnx : refsOf (ts.take (k + 1)) = refsOf (ts.take k) ++ refOf ts[k] := by unfold refsOf; rw [List.take_succ_eq_append_getElem hkt, List.flatMap_append]; simp
      obtain ⟨dk, hdk⟩ : ∃ d, ts[k] = d := ⟨_, rfl⟩
      rw [hdk] at hidx hfine hnx
      obtain ⟨o, ct⟩ := dk
      dsimp only at hidx hfine
      obtain ⟨q, rfl⟩ : ∃ q : Nat, o = q := ⟨o.toNat, by omega⟩
      obtain ⟨w1, hw1⟩ : ∃ w1, w1 = (wr.alloc (.cells #[.int .i64 (q : Nat), .int .u64 (ct : Nat)] 24)).alloc (.cells #[.func (.func 27) #[] #[], .func (.func 28) #[] #[]] 57) := ⟨_, rfl⟩
      have hb1 : Below wr.heap.size wr w1 := by rw [hw1]; exact ((Below.refl _ _).alloc (Nat.le_refl _) _).alloc (by simp) _
      have hr1 : w1.heap[wr.heap.size + 1]? = some (.cells #[.func (.func 27) #[] #[], .func (.func 28) #[] #[]] 57 (0, 0)) := by
        rw [hw1]
        have := heap_alloc_new (wr.alloc (.cells #[.int .i64 (q : Nat), .int .u64 (ct : Nat)] 24)) (.cells #[.func (.func 27) #[] #[], .func (.func 28) #[] #[]] 57)
        simpa using this
      have hv1 : w1.ownsRow base 5 1 (.slice p m.length cap) m.length (cellsOf m) := by rw [hw1]; exact (hown.alloc _).alloc _
      have hsz := hg.size
      have hl1 : m.length ≤ 600 := by omega
      have HT := Lib.hid (tree_laid q ct (by omega) hfine.2.2 (.slice p m.length cap) m base w1 hv1 hl1 (Nat.le_trans (Nat.le_trans HBW.out hsz) hb1.size) (wr.heap.size + 1) hr1 (fun e => by have := (hown.lt _ e).2; omega))
      have HG := Lib.hid (hg.trans (Grows.of_below hb1 (.slice p m.length cap)))
      have HM : Hid (m ++ refOf ⟨(q : Int), ct⟩ = l ++ refsOf (ts.take (k + 1))) := by unfold Hid; rw [hnx, hm, List.append_assoc]
      have HML := Lib.hid hml; have HLT := Lib.hid hlt
      have HW1 := Lib.hid hw1
      obtain ⟨LN, hLN⟩ : ∃ n, n = m.length := ⟨_, rfl⟩
      rw [← hLN] at HT HG HML ⊢
      have HLN := Lib.hid hLN
      clear hown hg hm hml hkt hfine hnx hdk hw1 hb1 hr1 hv1 hsz hl1 hLN
      go_wp2_with fail
      rw [← HW1.out]
      refine HT.out.mono ?_
      rintro e1 w2 ⟨v2, rfl, ho, hg2⟩
      have HREL : Hid (TreesAt W base (.slice p0 l.length cap0) l ts v2 (.int .i64 (k + 1 : Nat)) w2) :=
        ⟨k + 1, m ++ refOf ⟨(q : Int), ct⟩, HLT.out, rfl, HM.out, by rw [List.length_append, refOf_length, ← HLN.out]; have := HML.out; omega, ho, HG.out.trans hg2⟩
      clear ho hg2 HT
      go_wp2
      go_roundw
      case rel => exact HREL.out
      case measure => simp [intOf]; have := HLT.out; omega
    · obtain rfl : k = 5 := by omega
      have E : m = l ++ refsOf ts := by rw [hm, List.take_of_length_le (by rw [HLEN.out]; exact Nat.le_refl _)]
      have HEND : Hid (RowsG w base (.slice p0 l.length cap0) (l ++ refsOf ts) (.returned (.slice p m.length cap)) wr) := ⟨_, rfl, by rw [← E]; exact hown, HGW.out.trans hg⟩
      obtain ⟨LN, hLN⟩ : ∃ n, n = m.length := ⟨_, rfl⟩
      rw [← hLN] at HEND ⊢
      clear hown hg hm hml hLN E hk
      go_wp2
      go_ret
      exact HEND.out

/-- A root, by its row of parts, laid into a row that was made for it. -/
theorem root_laid (r : Rt) (h5 : r.ts.length = 5) (h0 : 0 ≤ r.nx) (h1 : r.nx ≤ 9223372036854775807) (hts : ∀ d ∈ r.ts, 0 ≤ d.off ∧ d.off ≤ 9223372036854775807 ∧ d.ct < 18446744073709551616) (v : Value) (base : Nat) (w : World) (hv : w.ownsRow base 5 1 v 0 []) (hb : base ≤ w.heap.size) (rb : Nat)
    (hr : w.heap[rb]? = some (.cells #[.func (.func 17) #[] #[], .func (.func 18) #[] #[]] 45 (0, 0))) (hne : v.ownBlock ≠ some rb) :
    Calls Try.prog 16 #[.agg (rtCells r).toArray, v, .slice (some ⟨rb, 0, none⟩) 2 2] w (RowsG w base v (rootOf r)) := by
  have hP0 := rt_next r h5 h0 h1
  have hP1 : ∀ (v : Value) (l : List Nat) (base : Nat) (w : World), w.ownsRow base 5 1 v l.length (cellsOf l) → l.length ≤ 500 → base ≤ w.heap.size → Calls Try.prog 18 #[.agg (rtCells r).toArray, v] w (RowsG w base v (l ++ refsOf r.ts)) := fun v l base w => rt_trees r h5 hts v l base w
  have hR : rootOf r = highOf r.nx.toNat 8 ++ refsOf r.ts := rfl
  have hZ : (highOf r.nx.toNat 8).length = 8 := highOf_length _ _
  have hY : (refsOf r.ts).length = 80 := by rw [refsOf_length, h5]
  obtain ⟨g, nx, ts⟩ := r
  dsimp only at h5
  obtain ⟨a, b, c, d, e, rfl⟩ := five_of h5
  have hZ0 : (highOf nx.toNat 8).length = 8 := hZ
  have hY0 : (refsOf [a, b, c, d, e]).length = 80 := hY
  have H := along_root 500 (.int .u64 (g : Nat)) (.int .i64 nx) (.int .i64 a.off) (.int .u64 (a.ct : Nat)) (.int .i64 b.off) (.int .u64 (b.ct : Nat)) (.int .i64 c.off) (.int .u64 (c.ct : Nat)) (.int .i64 d.off) (.int .u64 (d.ct : Nat)) (.int .i64 e.off) (.int .u64 (e.ct : Nat))
    [17, 18] [highOf nx.toNat 8, refsOf [a, b, c, d, e]] rb v [] base w rfl (by simp)
    (fun i m h => by
      match i, h with
      | 0, h => cases h; rw [hZ0]; decide
      | 1, h => cases h; rw [hY0]; decide
      | k + 2, h => simp at h)
    (fun i f m h1 h2 => by
      match i, h1, h2 with
      | 0, h1, h2 => cases h1; cases h2; exact hP0
      | 1, h1, h2 => cases h1; cases h2; exact ⟨fun args w => by kernel_rfl, fun v l base w hv hl hb => hP1 v l base w hv hl hb⟩
      | k + 2, h1, _ => simp at h1)
    (fun i f h => by
      match i, h with
      | 0, h => cases h; exact cells_of hr 0
      | 1, h => cases h; exact cells_of hr 1
      | k + 2, h => simp at h) (Array.getElem?_eq_some_iff.1 hr).1 hv (by simp) hb hne 2 rfl
  have E : [] ++ List.flatten [highOf nx.toNat 8, refsOf [a, b, c, d, e]] = rootOf ⟨g, nx, [a, b, c, d, e]⟩ := by simp [rootOf]
  rw [E] at H
  exact H
end Go.Proofs.Ytkhpblclpcgjnaa

