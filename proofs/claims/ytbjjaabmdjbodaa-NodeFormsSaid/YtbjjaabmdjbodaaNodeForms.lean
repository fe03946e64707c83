/- The law NodeForms: every call of it returns true, and all that was there before the call is as it was. No condition. -/
import Derived.Test.YtbjjaabmdjbodaaRows
import Derived.Test.YtbjjaabmdjbodaaNdT
import Derived.Test.YtbjjaabmdjbodaaReg
import Derived.ChangeMaps5
namespace Go.By
open Go Go.RowKit
/-- So many bytes of nought. -/
def zs (n : Nat) : List Nat := List.replicate n 0
def zs41 : List Nat := zs 41
def zs121 : List Nat := zs 121
def ItAt (i : NIt) (v : Value) (w : World) : Prop := ∃ pa na ca pb nb cb, v = .agg #[.slice pa na ca, .slice pb nb cb] ∧ Bytes w (.slice pa na ca) i.k ∧ Bytes w (.slice pb nb cb) i.v
theorem ItAt.lasts (i : NIt) (v : Value) (w w' : World) (h : ItAt i v w) (hb : Below w.heap.size w w') : ItAt i v w' := by
  obtain ⟨pa, na, ca, pb, nb, cb, rfl, h1, h2⟩ := h
  exact ⟨pa, na, ca, pb, nb, cb, rfl, h1.below hb, h2.below hb⟩
def RwAt {α : Type} (K : Kind α) (xs : List α) (v : Value) (w : World) : Prop := ∃ g n, v = .slice (some ⟨g, 0, none⟩) n n ∧ n = xs.length ∧ RowAt K w (some ⟨g, 0, none⟩) n xs
theorem RwAt.lasts {α : Type} (K : Kind α) (xs : List α) (v : Value) (w w' : World) (h : RwAt K xs v w) (hb : Below w.heap.size w w') : RwAt K xs v w' := by
  obtain ⟨g, n, rfl, h1, h2⟩ := h
  exact ⟨g, n, rfl, h1, h2.below hb⟩
def NodeIs (n : Nd) (v : Value) (w : World) : Prop := ∃ lf pi ni ci pk nk ck pd nd cd, v = .agg #[.bool lf, .slice pi ni ci, .slice pk nk ck, .slice pd nd cd] ∧ IsNd w (.agg #[.bool lf, .slice pi ni ci, .slice pk nk ck, .slice pd nd cd]) n pi ci pk ck pd cd
theorem NodeIs.lasts (n : Nd) (v : Value) (w w' : World) (h : NodeIs n v w) (hb : Below w.heap.size w w') : NodeIs n v w' := by
  obtain ⟨lf, pi, ni, ci, pk, nk, ck, pd, nd, cd, rfl, h1⟩ := h
  exact ⟨lf, pi, ni, ci, pk, nk, ck, pd, nd, cd, rfl, h1.below hb⟩
theorem KRef.mk {w : World} {o : Int} {c : Nat} (ho : o ≤ 9223372036854775807) (hc : c < 18446744073709551616) : KRef.is w [.int .i64 o, .int .u64 (c : Nat)] ⟨o, c⟩ := ⟨rfl, ho, hc⟩
/-- Nodes in a row. -/
def KNode : Kind Nd where
  width := 4
  is w cs n := ∃ lf pi ni ci pk nk ck pd nd cd, cs = [.bool lf, .slice pi ni ci, .slice pk nk ck, .slice pd nd cd] ∧ IsNd w (.agg #[.bool lf, .slice pi ni ci, .slice pk nk ck, .slice pd nd cd]) n pi ci pk ck pd cd
  len h := by obtain ⟨lf, pi, ni, ci, pk, nk, ck, pd, nd, cd, rfl, _⟩ := h; rfl
  stays h hb := by
    obtain ⟨lf, pi, ni, ci, pk, nk, ck, pd, nd, cd, rfl, h1⟩ := h
    exact ⟨lf, pi, ni, ci, pk, nk, ck, pd, nd, cd, rfl, h1.below hb⟩
theorem KNode.mk {w : World} {n : Nd} {lf : Bool} {pi pk pd : Option Addr} {ni ci nk ck nd cd : Nat} (h : IsNd w (.agg #[.bool lf, .slice pi ni ci, .slice pk nk ck, .slice pd nd cd]) n pi ci pk ck pd cd) : KNode.is w [.bool lf, .slice pi ni ci, .slice pk nk ck, .slice pd nd cd] n :=
  ⟨lf, pi, ni, ci, pk, nk, ck, pd, nd, cd, rfl, h⟩
theorem CellsAt.four {w : World} {b o : Nat} {x y z u : Value} (h : CellsAt w b o [x, y, z, u]) : w.cell? ⟨b, o, none⟩ = some x ∧ w.cell? ⟨b, o + 1, none⟩ = some y ∧ w.cell? ⟨b, o + 2, none⟩ = some z ∧ w.cell? ⟨b, o + 3, none⟩ = some u := ⟨h 0 (by simp), h 1 (by simp), h 2 (by simp), h 3 (by simp)⟩
/-- What may not be. -/
def bads : List Nd := [⟨true, [], [], []⟩, ⟨true, [⟨[], []⟩], [], []⟩, ⟨true, [⟨[108], []⟩, ⟨[107], []⟩], [], []⟩, ⟨true, [⟨[107], []⟩, ⟨[107], []⟩], [], []⟩, ⟨true, [⟨[107], []⟩], [[107]], []⟩, ⟨true, [⟨zs41, []⟩], [], []⟩, ⟨true, [⟨[107], zs121⟩], [], []⟩, ⟨false, [⟨[107], []⟩], [], []⟩, ⟨false, [], [[107]], [⟨1, 1⟩]⟩, ⟨false, [], [[107], [108]], [⟨1, 1⟩, ⟨0, 1⟩]⟩, ⟨false, [], [[107], [108]], [⟨1, 1⟩, ⟨1, 0⟩]⟩, ⟨false, [], [[107]], [⟨1, 1⟩, ⟨2, 1⟩]⟩, ⟨false, [], [[108], [107]], [⟨1, 1⟩, ⟨2, 1⟩]⟩]
theorem bads_no : ∀ n ∈ bads, mayNd n = false := by decide +kernel
def ndF : Nd := inOf [([107], ⟨300, 4⟩), ([108], ⟨1, 5⟩)]
theorem mayNd_F : mayNd ndF = true := by decide +kernel
theorem fine_F : NdFine ndF := ⟨by decide, by decide, by decide⟩
end Go.By
namespace Go.Proofs.Ytbjjaabmdjbodaa
open Go Go.ChangeShapes Go.WideShapes Go.ChangeAt Go.RowKit Go.By

theorem zs_bytes (w : World) (n : Nat) (hn : n ≤ maxLen) : Bytes (w.alloc (.cells (zeros n) 5)) (.slice (some ⟨w.heap.size, 0, none⟩) n n) (zs n) := zeros_bytes w n hn

/-- Where the loop stands. -/
def FormRel (wz : World) (i : Value) (wr : World) : Prop := ∃ k : Nat, k ≤ 13 ∧ i = .int .i64 k ∧ Below wz.heap.size wz wr

set_option maxRecDepth 100000 in
set_option maxHeartbeats 8000000 in
theorem forms_any (w : World) : Calls Try.prog 4 #[] w fun e w' => e = .returned (.bool true) ∧ Below w.heap.size w w' := by
  go_enter Try.func4, Try.ntmps4
  go_wp2_with fail
  refine (begun_any w).mono ?_
  rintro e w1 ⟨rfl, hb1⟩
  have HB1 := Lib.hid hb1
  clear hb1
  obtain ⟨w2, hw2⟩ : ∃ W, W = allocs w1 [.cells #[.int .u8 107] 5 (1, 2), .cells #[.int .u8 108] 5 (1, 2)] := ⟨_, rfl⟩
  have hb2 : Below w1.heap.size w1 w2 := by rw [hw2]; exact allocs_below _ _
  have b0 : Bytes w2 (.slice (some ⟨w1.heap.size, 0, none⟩) 1 1) [107] := bytes_at [107] (by rw [hw2]; exact allocs_at (i := 0) rfl) rfl rfl (by decide) (by decide)
  have b1 : Bytes w2 (.slice (some ⟨w1.heap.size + 1, 0, none⟩) 1 1) [108] := bytes_at [108] (by rw [hw2]; exact allocs_at (i := 1) rfl) rfl rfl (by decide) (by decide)
  have HK : Hid (∀ w', Below w2.heap.size w2 w' → Bytes w' (.slice (some ⟨w1.heap.size, 0, none⟩) 1 1) [107]) := fun w' hb => b0.below hb
  have HL : Hid (∀ w', Below w2.heap.size w2 w' → Bytes w' (.slice (some ⟨w1.heap.size + 1, 0, none⟩) 1 1) [108]) := fun w' hb => b1.below hb
  have HB2 : Hid (Below w.heap.size w w2) := HB1.out.trans (hb2.mono HB1.out.size)
  have hw2' : w2 = (w1.alloc (.cells #[.int .u8 107] 5 (1, 2))).alloc (.cells #[.int .u8 108] 5 (1, 2)) := hw2
  have HW2 := Lib.hid hw2'
  clear hw2 hb2 b0 b1 hw2' HB1
  have hcv1 := fun (w : World) (C : Array Value) (n c : Nat) => Lib.run_convert_bytes_const (P := Try.prog) w 30 5 C n c byT.slice byT.elem
  have hcv2 := Go.Joins.run_convert_bytes_const_at (P := Try.prog) (w1.alloc (.cells #[.int .u8 107] 5 (1, 2))) 30 5 #[.int .u8 108] 1 1 (w1.heap.size + 1) (World.size_alloc ..).symm byT.slice byT.elem
  go_wp2_with fail
  clear hcv1 hcv2
  rw [← HW2.out]
  clear HW2
  rename_i Kc hKc
  refine wp_region_left (by kernel_rfl)
    [.ex (NodeIs ⟨true, [], [], []⟩) (NodeIs.lasts ⟨true, [], [], []⟩),
     .ex (ItAt ⟨[], []⟩) (ItAt.lasts ⟨[], []⟩),
     .ex (RwAt KItem [⟨[], []⟩]) (RwAt.lasts KItem [⟨[], []⟩]),
     .ex (NodeIs ⟨true, [⟨[], []⟩], [], []⟩) (NodeIs.lasts ⟨true, [⟨[], []⟩], [], []⟩),
     .is (.slice (some ⟨w1.heap.size + 1, 0, none⟩) 1 1),
     .ex (ItAt ⟨[108], []⟩) (ItAt.lasts ⟨[108], []⟩),
     .is (.slice (some ⟨w1.heap.size, 0, none⟩) 1 1),
     .ex (ItAt ⟨[107], []⟩) (ItAt.lasts ⟨[107], []⟩),
     .ex (RwAt KItem [⟨[108], []⟩, ⟨[107], []⟩]) (RwAt.lasts KItem [⟨[108], []⟩, ⟨[107], []⟩]),
     .ex (NodeIs ⟨true, [⟨[108], []⟩, ⟨[107], []⟩], [], []⟩) (NodeIs.lasts ⟨true, [⟨[108], []⟩, ⟨[107], []⟩], [], []⟩),
     .is (.slice (some ⟨w1.heap.size, 0, none⟩) 1 1),
     .ex (ItAt ⟨[107], []⟩) (ItAt.lasts ⟨[107], []⟩),
     .is (.slice (some ⟨w1.heap.size, 0, none⟩) 1 1),
     .ex (ItAt ⟨[107], []⟩) (ItAt.lasts ⟨[107], []⟩),
     .ex (RwAt KItem [⟨[107], []⟩, ⟨[107], []⟩]) (RwAt.lasts KItem [⟨[107], []⟩, ⟨[107], []⟩]),
     .ex (NodeIs ⟨true, [⟨[107], []⟩, ⟨[107], []⟩], [], []⟩) (NodeIs.lasts ⟨true, [⟨[107], []⟩, ⟨[107], []⟩], [], []⟩),
     .is (.slice (some ⟨w1.heap.size, 0, none⟩) 1 1),
     .ex (ItAt ⟨[107], []⟩) (ItAt.lasts ⟨[107], []⟩),
     .ex (RwAt KItem [⟨[107], []⟩]) (RwAt.lasts KItem [⟨[107], []⟩]),
     .is (.slice (some ⟨w1.heap.size, 0, none⟩) 1 1),
     .ex (RwAt KBytes [[107]]) (RwAt.lasts KBytes [[107]]),
     .ex (NodeIs ⟨true, [⟨[107], []⟩], [[107]], []⟩) (NodeIs.lasts ⟨true, [⟨[107], []⟩], [[107]], []⟩),
     .bytes zs41,
     .ex (ItAt ⟨zs41, []⟩) (ItAt.lasts ⟨zs41, []⟩),
     .ex (RwAt KItem [⟨zs41, []⟩]) (RwAt.lasts KItem [⟨zs41, []⟩]),
     .ex (NodeIs ⟨true, [⟨zs41, []⟩], [], []⟩) (NodeIs.lasts ⟨true, [⟨zs41, []⟩], [], []⟩),
     .is (.slice (some ⟨w1.heap.size, 0, none⟩) 1 1),
     .bytes zs121,
     .ex (ItAt ⟨[107], zs121⟩) (ItAt.lasts ⟨[107], zs121⟩),
     .ex (RwAt KItem [⟨[107], zs121⟩]) (RwAt.lasts KItem [⟨[107], zs121⟩]),
     .ex (NodeIs ⟨true, [⟨[107], zs121⟩], [], []⟩) (NodeIs.lasts ⟨true, [⟨[107], zs121⟩], [], []⟩),
     .is (.slice (some ⟨w1.heap.size, 0, none⟩) 1 1),
     .ex (ItAt ⟨[107], []⟩) (ItAt.lasts ⟨[107], []⟩),
     .ex (RwAt KItem [⟨[107], []⟩]) (RwAt.lasts KItem [⟨[107], []⟩]),
     .ex (NodeIs ⟨false, [⟨[107], []⟩], [], []⟩) (NodeIs.lasts ⟨false, [⟨[107], []⟩], [], []⟩),
     .is (.slice (some ⟨w1.heap.size, 0, none⟩) 1 1),
     .ex (RwAt KBytes [[107]]) (RwAt.lasts KBytes [[107]]),
     .is (.agg #[.int .i64 1, .int .u64 1]),
     .ex (RwAt KRef [⟨1, 1⟩]) (RwAt.lasts KRef [⟨1, 1⟩]),
     .ex (NodeIs ⟨false, [], [[107]], [⟨1, 1⟩]⟩) (NodeIs.lasts ⟨false, [], [[107]], [⟨1, 1⟩]⟩),
     .is (.slice (some ⟨w1.heap.size, 0, none⟩) 1 1),
     .is (.slice (some ⟨w1.heap.size + 1, 0, none⟩) 1 1),
     .ex (RwAt KBytes [[107], [108]]) (RwAt.lasts KBytes [[107], [108]]),
     .is (.agg #[.int .i64 1, .int .u64 1]),
     .is (.agg #[.int .i64 0, .int .u64 1]),
     .ex (RwAt KRef [⟨1, 1⟩, ⟨0, 1⟩]) (RwAt.lasts KRef [⟨1, 1⟩, ⟨0, 1⟩]),
     .ex (NodeIs ⟨false, [], [[107], [108]], [⟨1, 1⟩, ⟨0, 1⟩]⟩) (NodeIs.lasts ⟨false, [], [[107], [108]], [⟨1, 1⟩, ⟨0, 1⟩]⟩),
     .is (.slice (some ⟨w1.heap.size, 0, none⟩) 1 1),
     .is (.slice (some ⟨w1.heap.size + 1, 0, none⟩) 1 1),
     .ex (RwAt KBytes [[107], [108]]) (RwAt.lasts KBytes [[107], [108]]),
     .is (.agg #[.int .i64 1, .int .u64 1]),
     .is (.agg #[.int .i64 1, .int .u64 0]),
     .ex (RwAt KRef [⟨1, 1⟩, ⟨1, 0⟩]) (RwAt.lasts KRef [⟨1, 1⟩, ⟨1, 0⟩]),
     .ex (NodeIs ⟨false, [], [[107], [108]], [⟨1, 1⟩, ⟨1, 0⟩]⟩) (NodeIs.lasts ⟨false, [], [[107], [108]], [⟨1, 1⟩, ⟨1, 0⟩]⟩),
     .is (.slice (some ⟨w1.heap.size, 0, none⟩) 1 1),
     .ex (RwAt KBytes [[107]]) (RwAt.lasts KBytes [[107]]),
     .is (.agg #[.int .i64 1, .int .u64 1]),
     .is (.agg #[.int .i64 2, .int .u64 1]),
     .ex (RwAt KRef [⟨1, 1⟩, ⟨2, 1⟩]) (RwAt.lasts KRef [⟨1, 1⟩, ⟨2, 1⟩]),
     .ex (NodeIs ⟨false, [], [[107]], [⟨1, 1⟩, ⟨2, 1⟩]⟩) (NodeIs.lasts ⟨false, [], [[107]], [⟨1, 1⟩, ⟨2, 1⟩]⟩),
     .is (.slice (some ⟨w1.heap.size + 1, 0, none⟩) 1 1),
     .is (.slice (some ⟨w1.heap.size, 0, none⟩) 1 1),
     .ex (RwAt KBytes [[108], [107]]) (RwAt.lasts KBytes [[108], [107]]),
     .is (.agg #[.int .i64 1, .int .u64 1]),
     .is (.agg #[.int .i64 2, .int .u64 1]),
     .ex (RwAt KRef [⟨1, 1⟩, ⟨2, 1⟩]) (RwAt.lasts KRef [⟨1, 1⟩, ⟨2, 1⟩]),
     .ex (NodeIs ⟨false, [], [[108], [107]], [⟨1, 1⟩, ⟨2, 1⟩]⟩) (NodeIs.lasts ⟨false, [], [[108], [107]], [⟨1, 1⟩, ⟨2, 1⟩]⟩),
     .ex (RwAt KNode bads) (RwAt.lasts KNode bads),
     .ex (RwAt KNode bads) (RwAt.lasts KNode bads)]
    [[], [], [1], [2], [], [4], [], [6], [5, 7], [8], [], [10], [], [12], [11, 13], [14], [], [16], [17], [], [19], [18, 20], [], [22], [23], [24], [], [], [26, 27], [28], [29], [], [31], [32], [33], [], [35], [], [37], [36, 38], [], [], [40, 41], [], [], [43, 44], [42, 45], [], [], [47, 48], [], [], [50, 51], [49, 52], [], [54], [], [], [56, 57], [55, 58], [], [], [60, 61], [], [], [63, 64], [62, 65], [0, 3, 9, 15, 21, 25, 30, 34, 39, 46, 53, 59, 66], [67]] (by kernel_rfl) (by rfl) ?_ ?_
  · refine LeftOps.cons ?_ (LeftOps.cons ?_ (LeftOps.cons ?_ (LeftOps.cons ?_ (LeftOps.cons ?_ (LeftOps.cons ?_ (LeftOps.cons ?_ (LeftOps.cons ?_ (LeftOps.cons ?_ (LeftOps.cons ?_ (LeftOps.cons ?_ (LeftOps.cons ?_ (LeftOps.cons ?_ (LeftOps.cons ?_ (LeftOps.cons ?_ (LeftOps.cons ?_ (LeftOps.cons ?_ (LeftOps.cons ?_ (LeftOps.cons ?_ (LeftOps.cons ?_ (LeftOps.cons ?_ (LeftOps.cons ?_ (LeftOps.cons ?_ (LeftOps.cons ?_ (LeftOps.cons ?_ (LeftOps.cons ?_ (LeftOps.cons ?_ (LeftOps.cons ?_ (LeftOps.cons ?_ (LeftOps.cons ?_ (LeftOps.cons ?_ (LeftOps.cons ?_ (LeftOps.cons ?_ (LeftOps.cons ?_ (LeftOps.cons ?_ (LeftOps.cons ?_ (LeftOps.cons ?_ (LeftOps.cons ?_ (LeftOps.cons ?_ (LeftOps.cons ?_ (LeftOps.cons ?_ (LeftOps.cons ?_ (LeftOps.cons ?_ (LeftOps.cons ?_ (LeftOps.cons ?_ (LeftOps.cons ?_ (LeftOps.cons ?_ (LeftOps.cons ?_ (LeftOps.cons ?_ (LeftOps.cons ?_ (LeftOps.cons ?_ (LeftOps.cons ?_ (LeftOps.cons ?_ (LeftOps.cons ?_ (LeftOps.cons ?_ (LeftOps.cons ?_ (LeftOps.cons ?_ (LeftOps.cons ?_ (LeftOps.cons ?_ (LeftOps.cons ?_ (LeftOps.cons ?_ (LeftOps.cons ?_ (LeftOps.cons ?_ (LeftOps.cons ?_ (LeftOps.cons ?_ (LeftOps.cons ?_ (LeftOps.cons ?_ (LeftOps.cons ?_ (LeftOps.cons ?_ (LeftOps.nil)))))))))))))))))))))))))))))))))))))))))))))))))))))))))))))))))))))
    · intro wz hwz
      clear hKc
      refine withLeft_nil ?_
      refine lft_run rfl rfl ?_
      unfold LftRun
      go_wp2
      exact ⟨rfl, ⟨_, _, _, _, _, _, _, _, _, _, rfl, ⟨rfl, RowAt.nil, RowAt.nil, RowAt.nil⟩⟩, rfl, Below.refl _ _⟩
    · intro wz hwz
      clear hKc
      refine withLeft_nil ?_
      refine lft_run rfl rfl ?_
      unfold LftRun
      go_wp2
      exact ⟨rfl, ⟨_, _, _, _, _, _, rfl, (Bytes.nil wz), (Bytes.nil wz)⟩, rfl, Below.refl _ _⟩
    · intro wz hwz
      clear hKc
      refine withLeft_ex rfl rfl ?_
      rintro _ ⟨pa0, na0, ca0, pb0, nb0, cb0, rfl, a0, b0⟩
      refine withLeft_nil ?_
      simp only [Act.put, List.setIfInBounds_toArray, List.set_cons_zero, List.set_cons_succ]
      refine lft_run rfl rfl ?_
      have hnew := fun o => (Below.refl wz.heap.size wz).alloc (Nat.le_refl _) o
      unfold LftRun
      go_wp2
      refine ⟨rfl, ⟨_, _, rfl, rfl, RowAt.lit (css := [[.slice pa0 na0 ca0, .slice pb0 nb0 cb0]]) (heap_alloc_new wz _) rfl (.cons (KItem.mk (a0.below (hnew _)) (b0.below (hnew _))) (.nil)) rfl (by decide)⟩, rfl, (Below.refl _ _).alloc (Nat.le_refl _) _⟩
    · intro wz hwz
      clear hKc
      refine withLeft_ex rfl rfl ?_
      rintro _ ⟨ga, na, rfl, ea, ra⟩
      refine withLeft_nil ?_
      simp only [Act.put, List.setIfInBounds_toArray, List.set_cons_zero, List.set_cons_succ]
      refine lft_run rfl rfl ?_
      unfold LftRun
      go_wp2
      subst ea
      exact ⟨rfl, ⟨_, _, _, _, _, _, _, _, _, _, rfl, ⟨rfl, ra, RowAt.nil, RowAt.nil⟩⟩, rfl, Below.refl _ _⟩
    · intro wz hwz
      clear hKc
      refine withLeft_nil ?_
      refine lft_run rfl rfl ?_
      exact lft_move rfl (by first | rfl | assumption)
    · intro wz hwz
      clear hKc
      refine withLeft_is rfl rfl ?_
      refine withLeft_nil ?_
      simp only [Act.put, List.setIfInBounds_toArray, List.set_cons_zero, List.set_cons_succ]
      refine lft_run rfl rfl ?_
      unfold LftRun
      go_wp2
      exact ⟨rfl, ⟨_, _, _, _, _, _, rfl, (HL.out _ hwz), (Bytes.nil wz)⟩, rfl, Below.refl _ _⟩
    · intro wz hwz
      clear hKc
      refine withLeft_nil ?_
      refine lft_run rfl rfl ?_
      exact lft_move rfl (by first | rfl | assumption)
    · intro wz hwz
      clear hKc
      refine withLeft_is rfl rfl ?_
      refine withLeft_nil ?_
      simp only [Act.put, List.setIfInBounds_toArray, List.set_cons_zero, List.set_cons_succ]
      refine lft_run rfl rfl ?_
      unfold LftRun
      go_wp2
      exact ⟨rfl, ⟨_, _, _, _, _, _, rfl, (HK.out _ hwz), (Bytes.nil wz)⟩, rfl, Below.refl _ _⟩
    · intro wz hwz
      clear hKc
      refine withLeft_ex rfl rfl ?_
      rintro _ ⟨pa0, na0, ca0, pb0, nb0, cb0, rfl, a0, b0⟩
      refine withLeft_ex rfl rfl ?_
      rintro _ ⟨pa1, na1, ca1, pb1, nb1, cb1, rfl, a1, b1⟩
      refine withLeft_nil ?_
      simp only [Act.put, List.setIfInBounds_toArray, List.set_cons_zero, List.set_cons_succ]
      refine lft_run rfl rfl ?_
      have hnew := fun o => (Below.refl wz.heap.size wz).alloc (Nat.le_refl _) o
      unfold LftRun
      go_wp2
      refine ⟨rfl, ⟨_, _, rfl, rfl, RowAt.lit (css := [[.slice pa0 na0 ca0, .slice pb0 nb0 cb0], [.slice pa1 na1 ca1, .slice pb1 nb1 cb1]]) (heap_alloc_new wz _) rfl (.cons (KItem.mk (a0.below (hnew _)) (b0.below (hnew _))) (.cons (KItem.mk (a1.below (hnew _)) (b1.below (hnew _))) (.nil))) rfl (by decide)⟩, rfl, (Below.refl _ _).alloc (Nat.le_refl _) _⟩
    · intro wz hwz
      clear hKc
      refine withLeft_ex rfl rfl ?_
      rintro _ ⟨ga, na, rfl, ea, ra⟩
      refine withLeft_nil ?_
      simp only [Act.put, List.setIfInBounds_toArray, List.set_cons_zero, List.set_cons_succ]
      refine lft_run rfl rfl ?_
      unfold LftRun
      go_wp2
      subst ea
      exact ⟨rfl, ⟨_, _, _, _, _, _, _, _, _, _, rfl, ⟨rfl, ra, RowAt.nil, RowAt.nil⟩⟩, rfl, Below.refl _ _⟩
    · intro wz hwz
      clear hKc
      refine withLeft_nil ?_
      refine lft_run rfl rfl ?_
      exact lft_move rfl (by first | rfl | assumption)
    · intro wz hwz
      clear hKc
      refine withLeft_is rfl rfl ?_
      refine withLeft_nil ?_
      simp only [Act.put, List.setIfInBounds_toArray, List.set_cons_zero, List.set_cons_succ]
      refine lft_run rfl rfl ?_
      unfold LftRun
      go_wp2
      exact ⟨rfl, ⟨_, _, _, _, _, _, rfl, (HK.out _ hwz), (Bytes.nil wz)⟩, rfl, Below.refl _ _⟩
    · intro wz hwz
      clear hKc
      refine withLeft_nil ?_
      refine lft_run rfl rfl ?_
      exact lft_move rfl (by first | rfl | assumption)
    · intro wz hwz
      clear hKc
      refine withLeft_is rfl rfl ?_
      refine withLeft_nil ?_
      simp only [Act.put, List.setIfInBounds_toArray, List.set_cons_zero, List.set_cons_succ]
      refine lft_run rfl rfl ?_
      unfold LftRun
      go_wp2
      exact ⟨rfl, ⟨_, _, _, _, _, _, rfl, (HK.out _ hwz), (Bytes.nil wz)⟩, rfl, Below.refl _ _⟩
    · intro wz hwz
      clear hKc
      refine withLeft_ex rfl rfl ?_
      rintro _ ⟨pa0, na0, ca0, pb0, nb0, cb0, rfl, a0, b0⟩
      refine withLeft_ex rfl rfl ?_
      rintro _ ⟨pa1, na1, ca1, pb1, nb1, cb1, rfl, a1, b1⟩
      refine withLeft_nil ?_
      simp only [Act.put, List.setIfInBounds_toArray, List.set_cons_zero, List.set_cons_succ]
      refine lft_run rfl rfl ?_
      have hnew := fun o => (Below.refl wz.heap.size wz).alloc (Nat.le_refl _) o
      unfold LftRun
      go_wp2
      refine ⟨rfl, ⟨_, _, rfl, rfl, RowAt.lit (css := [[.slice pa0 na0 ca0, .slice pb0 nb0 cb0], [.slice pa1 na1 ca1, .slice pb1 nb1 cb1]]) (heap_alloc_new wz _) rfl (.cons (KItem.mk (a0.below (hnew _)) (b0.below (hnew _))) (.cons (KItem.mk (a1.below (hnew _)) (b1.below (hnew _))) (.nil))) rfl (by decide)⟩, rfl, (Below.refl _ _).alloc (Nat.le_refl _) _⟩
    · intro wz hwz
      clear hKc
      refine withLeft_ex rfl rfl ?_
      rintro _ ⟨ga, na, rfl, ea, ra⟩
      refine withLeft_nil ?_
      simp only [Act.put, List.setIfInBounds_toArray, List.set_cons_zero, List.set_cons_succ]
      refine lft_run rfl rfl ?_
      unfold LftRun
      go_wp2
      subst ea
      exact ⟨rfl, ⟨_, _, _, _, _, _, _, _, _, _, rfl, ⟨rfl, ra, RowAt.nil, RowAt.nil⟩⟩, rfl, Below.refl _ _⟩
    · intro wz hwz
      clear hKc
      refine withLeft_nil ?_
      refine lft_run rfl rfl ?_
      exact lft_move rfl (by first | rfl | assumption)
    · intro wz hwz
      clear hKc
      refine withLeft_is rfl rfl ?_
      refine withLeft_nil ?_
      simp only [Act.put, List.setIfInBounds_toArray, List.set_cons_zero, List.set_cons_succ]
      refine lft_run rfl rfl ?_
      unfold LftRun
      go_wp2
      exact ⟨rfl, ⟨_, _, _, _, _, _, rfl, (HK.out _ hwz), (Bytes.nil wz)⟩, rfl, Below.refl _ _⟩
    · intro wz hwz
      clear hKc
      refine withLeft_ex rfl rfl ?_
      rintro _ ⟨pa0, na0, ca0, pb0, nb0, cb0, rfl, a0, b0⟩
      refine withLeft_nil ?_
      simp only [Act.put, List.setIfInBounds_toArray, List.set_cons_zero, List.set_cons_succ]
      refine lft_run rfl rfl ?_
      have hnew := fun o => (Below.refl wz.heap.size wz).alloc (Nat.le_refl _) o
      unfold LftRun
      go_wp2
      refine ⟨rfl, ⟨_, _, rfl, rfl, RowAt.lit (css := [[.slice pa0 na0 ca0, .slice pb0 nb0 cb0]]) (heap_alloc_new wz _) rfl (.cons (KItem.mk (a0.below (hnew _)) (b0.below (hnew _))) (.nil)) rfl (by decide)⟩, rfl, (Below.refl _ _).alloc (Nat.le_refl _) _⟩
    · intro wz hwz
      clear hKc
      refine withLeft_nil ?_
      refine lft_run rfl rfl ?_
      exact lft_move rfl (by first | rfl | assumption)
    · intro wz hwz
      clear hKc
      refine withLeft_is rfl rfl ?_
      refine withLeft_nil ?_
      simp only [Act.put, List.setIfInBounds_toArray, List.set_cons_zero, List.set_cons_succ]
      refine lft_run rfl rfl ?_
      have hnew := fun o => (Below.refl wz.heap.size wz).alloc (Nat.le_refl _) o
      unfold LftRun
      go_wp2
      refine ⟨rfl, ⟨_, _, rfl, rfl, RowAt.lit (css := [[.slice (some ⟨w1.heap.size, 0, none⟩) 1 1]]) (heap_alloc_new wz _) rfl (.cons (KBytes.mk ((HK.out _ hwz).below (hnew _))) (.nil)) rfl (by decide)⟩, rfl, (Below.refl _ _).alloc (Nat.le_refl _) _⟩
    · intro wz hwz
      clear hKc
      refine withLeft_ex rfl rfl ?_
      rintro _ ⟨ga, na, rfl, ea, ra⟩
      refine withLeft_ex rfl rfl ?_
      rintro _ ⟨gb, nb, rfl, eb, rb⟩
      refine withLeft_nil ?_
      simp only [Act.put, List.setIfInBounds_toArray, List.set_cons_zero, List.set_cons_succ]
      refine lft_run rfl rfl ?_
      unfold LftRun
      go_wp2
      subst ea
      subst eb
      exact ⟨rfl, ⟨_, _, _, _, _, _, _, _, _, _, rfl, ⟨rfl, ra, rb, RowAt.nil⟩⟩, rfl, Below.refl _ _⟩
    · intro wz hwz
      clear hKc
      refine withLeft_nil ?_
      refine lft_run rfl rfl ?_
      have hmk := made_run 41 41 41 41 rfl rfl (Nat.le_refl _) (by omega) wz
      unfold LftRun
      go_wp2
      exact ⟨rfl, zs_bytes wz 41 (by decide), rfl, (Below.refl _ _).alloc (Nat.le_refl _) _⟩
    · intro wz hwz
      clear hKc
      refine withLeft_bytes rfl rfl ?_
      intro vv hvv
      refine withLeft_nil ?_
      simp only [Act.put, List.setIfInBounds_toArray, List.set_cons_zero, List.set_cons_succ]
      refine lft_run rfl rfl ?_
      obtain ⟨pv, cv, rfl, -⟩ := (id hvv).any
      unfold LftRun
      go_wp2
      exact ⟨rfl, ⟨_, _, _, _, _, _, rfl, hvv, (Bytes.nil wz)⟩, rfl, Below.refl _ _⟩
    · intro wz hwz
      clear hKc
      refine withLeft_ex rfl rfl ?_
      rintro _ ⟨pa0, na0, ca0, pb0, nb0, cb0, rfl, a0, b0⟩
      refine withLeft_nil ?_
      simp only [Act.put, List.setIfInBounds_toArray, List.set_cons_zero, List.set_cons_succ]
      refine lft_run rfl rfl ?_
      have hnew := fun o => (Below.refl wz.heap.size wz).alloc (Nat.le_refl _) o
      unfold LftRun
      go_wp2
      refine ⟨rfl, ⟨_, _, rfl, rfl, RowAt.lit (css := [[.slice pa0 na0 ca0, .slice pb0 nb0 cb0]]) (heap_alloc_new wz _) rfl (.cons (KItem.mk (a0.below (hnew _)) (b0.below (hnew _))) (.nil)) rfl (by decide)⟩, rfl, (Below.refl _ _).alloc (Nat.le_refl _) _⟩
    · intro wz hwz
      clear hKc
      refine withLeft_ex rfl rfl ?_
      rintro _ ⟨ga, na, rfl, ea, ra⟩
      refine withLeft_nil ?_
      simp only [Act.put, List.setIfInBounds_toArray, List.set_cons_zero, List.set_cons_succ]
      refine lft_run rfl rfl ?_
      unfold LftRun
      go_wp2
      subst ea
      exact ⟨rfl, ⟨_, _, _, _, _, _, _, _, _, _, rfl, ⟨rfl, ra, RowAt.nil, RowAt.nil⟩⟩, rfl, Below.refl _ _⟩
    · intro wz hwz
      clear hKc
      refine withLeft_nil ?_
      refine lft_run rfl rfl ?_
      exact lft_move rfl (by first | rfl | assumption)
    · intro wz hwz
      clear hKc
      refine withLeft_nil ?_
      refine lft_run rfl rfl ?_
      have hmk := made_run 121 121 121 121 rfl rfl (Nat.le_refl _) (by omega) wz
      unfold LftRun
      go_wp2
      exact ⟨rfl, zs_bytes wz 121 (by decide), rfl, (Below.refl _ _).alloc (Nat.le_refl _) _⟩
    · intro wz hwz
      clear hKc
      refine withLeft_is rfl rfl ?_
      refine withLeft_bytes rfl rfl ?_
      intro vv hvv
      refine withLeft_nil ?_
      simp only [Act.put, List.setIfInBounds_toArray, List.set_cons_zero, List.set_cons_succ]
      refine lft_run rfl rfl ?_
      obtain ⟨pv, cv, rfl, -⟩ := (id hvv).any
      unfold LftRun
      go_wp2
      exact ⟨rfl, ⟨_, _, _, _, _, _, rfl, (HK.out _ hwz), hvv⟩, rfl, Below.refl _ _⟩
    · intro wz hwz
      clear hKc
      refine withLeft_ex rfl rfl ?_
      rintro _ ⟨pa0, na0, ca0, pb0, nb0, cb0, rfl, a0, b0⟩
      refine withLeft_nil ?_
      simp only [Act.put, List.setIfInBounds_toArray, List.set_cons_zero, List.set_cons_succ]
      refine lft_run rfl rfl ?_
      have hnew := fun o => (Below.refl wz.heap.size wz).alloc (Nat.le_refl _) o
      unfold LftRun
      go_wp2
      refine ⟨rfl, ⟨_, _, rfl, rfl, RowAt.lit (css := [[.slice pa0 na0 ca0, .slice pb0 nb0 cb0]]) (heap_alloc_new wz _) rfl (.cons (KItem.mk (a0.below (hnew _)) (b0.below (hnew _))) (.nil)) rfl (by decide)⟩, rfl, (Below.refl _ _).alloc (Nat.le_refl _) _⟩
    · intro wz hwz
      clear hKc
      refine withLeft_ex rfl rfl ?_
      rintro _ ⟨ga, na, rfl, ea, ra⟩
      refine withLeft_nil ?_
      simp only [Act.put, List.setIfInBounds_toArray, List.set_cons_zero, List.set_cons_succ]
      refine lft_run rfl rfl ?_
      unfold LftRun
      go_wp2
      subst ea
      exact ⟨rfl, ⟨_, _, _, _, _, _, _, _, _, _, rfl, ⟨rfl, ra, RowAt.nil, RowAt.nil⟩⟩, rfl, Below.refl _ _⟩
    · intro wz hwz
      clear hKc
      refine withLeft_nil ?_
      refine lft_run rfl rfl ?_
      exact lft_move rfl (by first | rfl | assumption)
    · intro wz hwz
      clear hKc
      refine withLeft_is rfl rfl ?_
      refine withLeft_nil ?_
      simp only [Act.put, List.setIfInBounds_toArray, List.set_cons_zero, List.set_cons_succ]
      refine lft_run rfl rfl ?_
      unfold LftRun
      go_wp2
      exact ⟨rfl, ⟨_, _, _, _, _, _, rfl, (HK.out _ hwz), (Bytes.nil wz)⟩, rfl, Below.refl _ _⟩
    · intro wz hwz
      clear hKc
      refine withLeft_ex rfl rfl ?_
      rintro _ ⟨pa0, na0, ca0, pb0, nb0, cb0, rfl, a0, b0⟩
      refine withLeft_nil ?_
      simp only [Act.put, List.setIfInBounds_toArray, List.set_cons_zero, List.set_cons_succ]
      refine lft_run rfl rfl ?_
      have hnew := fun o => (Below.refl wz.heap.size wz).alloc (Nat.le_refl _) o
      unfold LftRun
      go_wp2
      refine ⟨rfl, ⟨_, _, rfl, rfl, RowAt.lit (css := [[.slice pa0 na0 ca0, .slice pb0 nb0 cb0]]) (heap_alloc_new wz _) rfl (.cons (KItem.mk (a0.below (hnew _)) (b0.below (hnew _))) (.nil)) rfl (by decide)⟩, rfl, (Below.refl _ _).alloc (Nat.le_refl _) _⟩
    · intro wz hwz
      clear hKc
      refine withLeft_ex rfl rfl ?_
      rintro _ ⟨ga, na, rfl, ea, ra⟩
      refine withLeft_nil ?_
      simp only [Act.put, List.setIfInBounds_toArray, List.set_cons_zero, List.set_cons_succ]
      refine lft_run rfl rfl ?_
      unfold LftRun
      go_wp2
      subst ea
      exact ⟨rfl, ⟨_, _, _, _, _, _, _, _, _, _, rfl, ⟨rfl, ra, RowAt.nil, RowAt.nil⟩⟩, rfl, Below.refl _ _⟩
    · intro wz hwz
      clear hKc
      refine withLeft_nil ?_
      refine lft_run rfl rfl ?_
      exact lft_move rfl (by first | rfl | assumption)
    · intro wz hwz
      clear hKc
      refine withLeft_is rfl rfl ?_
      refine withLeft_nil ?_
      simp only [Act.put, List.setIfInBounds_toArray, List.set_cons_zero, List.set_cons_succ]
      refine lft_run rfl rfl ?_
      have hnew := fun o => (Below.refl wz.heap.size wz).alloc (Nat.le_refl _) o
      unfold LftRun
      go_wp2
      refine ⟨rfl, ⟨_, _, rfl, rfl, RowAt.lit (css := [[.slice (some ⟨w1.heap.size, 0, none⟩) 1 1]]) (heap_alloc_new wz _) rfl (.cons (KBytes.mk ((HK.out _ hwz).below (hnew _))) (.nil)) rfl (by decide)⟩, rfl, (Below.refl _ _).alloc (Nat.le_refl _) _⟩
    · intro wz hwz
      clear hKc
      refine withLeft_nil ?_
      refine lft_run rfl rfl ?_
      unfold LftRun
      go_wp2
      exact ⟨rfl, rfl, rfl, Below.refl _ _⟩
    · intro wz hwz
      clear hKc
      refine withLeft_is rfl rfl ?_
      refine withLeft_nil ?_
      simp only [Act.put, List.setIfInBounds_toArray, List.set_cons_zero, List.set_cons_succ]
      refine lft_run rfl rfl ?_
      unfold LftRun
      go_wp2
      refine ⟨rfl, ⟨_, _, rfl, rfl, RowAt.lit (css := [[.int .i64 1, .int .u64 1]]) (heap_alloc_new wz _) rfl (.cons (KRef.mk (by decide) (by decide)) (.nil)) rfl (by decide)⟩, rfl, (Below.refl _ _).alloc (Nat.le_refl _) _⟩
    · intro wz hwz
      clear hKc
      refine withLeft_ex rfl rfl ?_
      rintro _ ⟨gb, nb, rfl, eb, rb⟩
      refine withLeft_ex rfl rfl ?_
      rintro _ ⟨gc, nc, rfl, ec, rc⟩
      refine withLeft_nil ?_
      simp only [Act.put, List.setIfInBounds_toArray, List.set_cons_zero, List.set_cons_succ]
      refine lft_run rfl rfl ?_
      unfold LftRun
      go_wp2
      subst eb
      subst ec
      exact ⟨rfl, ⟨_, _, _, _, _, _, _, _, _, _, rfl, ⟨rfl, RowAt.nil, rb, rc⟩⟩, rfl, Below.refl _ _⟩
    · intro wz hwz
      clear hKc
      refine withLeft_nil ?_
      refine lft_run rfl rfl ?_
      exact lft_move rfl (by first | rfl | assumption)
    · intro wz hwz
      clear hKc
      refine withLeft_nil ?_
      refine lft_run rfl rfl ?_
      exact lft_move rfl (by first | rfl | assumption)
    · intro wz hwz
      clear hKc
      refine withLeft_is rfl rfl ?_
      refine withLeft_is rfl rfl ?_
      refine withLeft_nil ?_
      simp only [Act.put, List.setIfInBounds_toArray, List.set_cons_zero, List.set_cons_succ]
      refine lft_run rfl rfl ?_
      have hnew := fun o => (Below.refl wz.heap.size wz).alloc (Nat.le_refl _) o
      unfold LftRun
      go_wp2
      refine ⟨rfl, ⟨_, _, rfl, rfl, RowAt.lit (css := [[.slice (some ⟨w1.heap.size, 0, none⟩) 1 1], [.slice (some ⟨w1.heap.size + 1, 0, none⟩) 1 1]]) (heap_alloc_new wz _) rfl (.cons (KBytes.mk ((HK.out _ hwz).below (hnew _))) (.cons (KBytes.mk ((HL.out _ hwz).below (hnew _))) (.nil))) rfl (by decide)⟩, rfl, (Below.refl _ _).alloc (Nat.le_refl _) _⟩
    · intro wz hwz
      clear hKc
      refine withLeft_nil ?_
      refine lft_run rfl rfl ?_
      unfold LftRun
      go_wp2
      exact ⟨rfl, rfl, rfl, Below.refl _ _⟩
    · intro wz hwz
      clear hKc
      refine withLeft_nil ?_
      refine lft_run rfl rfl ?_
      unfold LftRun
      go_wp2
      exact ⟨rfl, rfl, rfl, Below.refl _ _⟩
    · intro wz hwz
      clear hKc
      refine withLeft_is rfl rfl ?_
      refine withLeft_is rfl rfl ?_
      refine withLeft_nil ?_
      simp only [Act.put, List.setIfInBounds_toArray, List.set_cons_zero, List.set_cons_succ]
      refine lft_run rfl rfl ?_
      unfold LftRun
      go_wp2
      refine ⟨rfl, ⟨_, _, rfl, rfl, RowAt.lit (css := [[.int .i64 1, .int .u64 1], [.int .i64 0, .int .u64 1]]) (heap_alloc_new wz _) rfl (.cons (KRef.mk (by decide) (by decide)) (.cons (KRef.mk (by decide) (by decide)) (.nil))) rfl (by decide)⟩, rfl, (Below.refl _ _).alloc (Nat.le_refl _) _⟩
    · intro wz hwz
      clear hKc
      refine withLeft_ex rfl rfl ?_
      rintro _ ⟨gb, nb, rfl, eb, rb⟩
      refine withLeft_ex rfl rfl ?_
      rintro _ ⟨gc, nc, rfl, ec, rc⟩
      refine withLeft_nil ?_
      simp only [Act.put, List.setIfInBounds_toArray, List.set_cons_zero, List.set_cons_succ]
      refine lft_run rfl rfl ?_
      unfold LftRun
      go_wp2
      subst eb
      subst ec
      exact ⟨rfl, ⟨_, _, _, _, _, _, _, _, _, _, rfl, ⟨rfl, RowAt.nil, rb, rc⟩⟩, rfl, Below.refl _ _⟩
    · intro wz hwz
      clear hKc
      refine withLeft_nil ?_
      refine lft_run rfl rfl ?_
      exact lft_move rfl (by first | rfl | assumption)
    · intro wz hwz
      clear hKc
      refine withLeft_nil ?_
      refine lft_run rfl rfl ?_
      exact lft_move rfl (by first | rfl | assumption)
    · intro wz hwz
      clear hKc
      refine withLeft_is rfl rfl ?_
      refine withLeft_is rfl rfl ?_
      refine withLeft_nil ?_
      simp only [Act.put, List.setIfInBounds_toArray, List.set_cons_zero, List.set_cons_succ]
      refine lft_run rfl rfl ?_
      have hnew := fun o => (Below.refl wz.heap.size wz).alloc (Nat.le_refl _) o
      unfold LftRun
      go_wp2
      refine ⟨rfl, ⟨_, _, rfl, rfl, RowAt.lit (css := [[.slice (some ⟨w1.heap.size, 0, none⟩) 1 1], [.slice (some ⟨w1.heap.size + 1, 0, none⟩) 1 1]]) (heap_alloc_new wz _) rfl (.cons (KBytes.mk ((HK.out _ hwz).below (hnew _))) (.cons (KBytes.mk ((HL.out _ hwz).below (hnew _))) (.nil))) rfl (by decide)⟩, rfl, (Below.refl _ _).alloc (Nat.le_refl _) _⟩
    · intro wz hwz
      clear hKc
      refine withLeft_nil ?_
      refine lft_run rfl rfl ?_
      unfold LftRun
      go_wp2
      exact ⟨rfl, rfl, rfl, Below.refl _ _⟩
    · intro wz hwz
      clear hKc
      refine withLeft_nil ?_
      refine lft_run rfl rfl ?_
      unfold LftRun
      go_wp2
      exact ⟨rfl, rfl, rfl, Below.refl _ _⟩
    · intro wz hwz
      clear hKc
      refine withLeft_is rfl rfl ?_
      refine withLeft_is rfl rfl ?_
      refine withLeft_nil ?_
      simp only [Act.put, List.setIfInBounds_toArray, List.set_cons_zero, List.set_cons_succ]
      refine lft_run rfl rfl ?_
      unfold LftRun
      go_wp2
      refine ⟨rfl, ⟨_, _, rfl, rfl, RowAt.lit (css := [[.int .i64 1, .int .u64 1], [.int .i64 1, .int .u64 0]]) (heap_alloc_new wz _) rfl (.cons (KRef.mk (by decide) (by decide)) (.cons (KRef.mk (by decide) (by decide)) (.nil))) rfl (by decide)⟩, rfl, (Below.refl _ _).alloc (Nat.le_refl _) _⟩
    · intro wz hwz
      clear hKc
      refine withLeft_ex rfl rfl ?_
      rintro _ ⟨gb, nb, rfl, eb, rb⟩
      refine withLeft_ex rfl rfl ?_
      rintro _ ⟨gc, nc, rfl, ec, rc⟩
      refine withLeft_nil ?_
      simp only [Act.put, List.setIfInBounds_toArray, List.set_cons_zero, List.set_cons_succ]
      refine lft_run rfl rfl ?_
      unfold LftRun
      go_wp2
      subst eb
      subst ec
      exact ⟨rfl, ⟨_, _, _, _, _, _, _, _, _, _, rfl, ⟨rfl, RowAt.nil, rb, rc⟩⟩, rfl, Below.refl _ _⟩
    · intro wz hwz
      clear hKc
      refine withLeft_nil ?_
      refine lft_run rfl rfl ?_
      exact lft_move rfl (by first | rfl | assumption)
    · intro wz hwz
      clear hKc
      refine withLeft_is rfl rfl ?_
      refine withLeft_nil ?_
      simp only [Act.put, List.setIfInBounds_toArray, List.set_cons_zero, List.set_cons_succ]
      refine lft_run rfl rfl ?_
      have hnew := fun o => (Below.refl wz.heap.size wz).alloc (Nat.le_refl _) o
      unfold LftRun
      go_wp2
      refine ⟨rfl, ⟨_, _, rfl, rfl, RowAt.lit (css := [[.slice (some ⟨w1.heap.size, 0, none⟩) 1 1]]) (heap_alloc_new wz _) rfl (.cons (KBytes.mk ((HK.out _ hwz).below (hnew _))) (.nil)) rfl (by decide)⟩, rfl, (Below.refl _ _).alloc (Nat.le_refl _) _⟩
    · intro wz hwz
      clear hKc
      refine withLeft_nil ?_
      refine lft_run rfl rfl ?_
      unfold LftRun
      go_wp2
      exact ⟨rfl, rfl, rfl, Below.refl _ _⟩
    · intro wz hwz
      clear hKc
      refine withLeft_nil ?_
      refine lft_run rfl rfl ?_
      unfold LftRun
      go_wp2
      exact ⟨rfl, rfl, rfl, Below.refl _ _⟩
    · intro wz hwz
      clear hKc
      refine withLeft_is rfl rfl ?_
      refine withLeft_is rfl rfl ?_
      refine withLeft_nil ?_
      simp only [Act.put, List.setIfInBounds_toArray, List.set_cons_zero, List.set_cons_succ]
      refine lft_run rfl rfl ?_
      unfold LftRun
      go_wp2
      refine ⟨rfl, ⟨_, _, rfl, rfl, RowAt.lit (css := [[.int .i64 1, .int .u64 1], [.int .i64 2, .int .u64 1]]) (heap_alloc_new wz _) rfl (.cons (KRef.mk (by decide) (by decide)) (.cons (KRef.mk (by decide) (by decide)) (.nil))) rfl (by decide)⟩, rfl, (Below.refl _ _).alloc (Nat.le_refl _) _⟩
    · intro wz hwz
      clear hKc
      refine withLeft_ex rfl rfl ?_
      rintro _ ⟨gb, nb, rfl, eb, rb⟩
      refine withLeft_ex rfl rfl ?_
      rintro _ ⟨gc, nc, rfl, ec, rc⟩
      refine withLeft_nil ?_
      simp only [Act.put, List.setIfInBounds_toArray, List.set_cons_zero, List.set_cons_succ]
      refine lft_run rfl rfl ?_
      unfold LftRun
      go_wp2
      subst eb
      subst ec
      exact ⟨rfl, ⟨_, _, _, _, _, _, _, _, _, _, rfl, ⟨rfl, RowAt.nil, rb, rc⟩⟩, rfl, Below.refl _ _⟩
    · intro wz hwz
      clear hKc
      refine withLeft_nil ?_
      refine lft_run rfl rfl ?_
      exact lft_move rfl (by first | rfl | assumption)
    · intro wz hwz
      clear hKc
      refine withLeft_nil ?_
      refine lft_run rfl rfl ?_
      exact lft_move rfl (by first | rfl | assumption)
    · intro wz hwz
      clear hKc
      refine withLeft_is rfl rfl ?_
      refine withLeft_is rfl rfl ?_
      refine withLeft_nil ?_
      simp only [Act.put, List.setIfInBounds_toArray, List.set_cons_zero, List.set_cons_succ]
      refine lft_run rfl rfl ?_
      have hnew := fun o => (Below.refl wz.heap.size wz).alloc (Nat.le_refl _) o
      unfold LftRun
      go_wp2
      refine ⟨rfl, ⟨_, _, rfl, rfl, RowAt.lit (css := [[.slice (some ⟨w1.heap.size + 1, 0, none⟩) 1 1], [.slice (some ⟨w1.heap.size, 0, none⟩) 1 1]]) (heap_alloc_new wz _) rfl (.cons (KBytes.mk ((HL.out _ hwz).below (hnew _))) (.cons (KBytes.mk ((HK.out _ hwz).below (hnew _))) (.nil))) rfl (by decide)⟩, rfl, (Below.refl _ _).alloc (Nat.le_refl _) _⟩
    · intro wz hwz
      clear hKc
      refine withLeft_nil ?_
      refine lft_run rfl rfl ?_
      unfold LftRun
      go_wp2
      exact ⟨rfl, rfl, rfl, Below.refl _ _⟩
    · intro wz hwz
      clear hKc
      refine withLeft_nil ?_
      refine lft_run rfl rfl ?_
      unfold LftRun
      go_wp2
      exact ⟨rfl, rfl, rfl, Below.refl _ _⟩
    · intro wz hwz
      clear hKc
      refine withLeft_is rfl rfl ?_
      refine withLeft_is rfl rfl ?_
      refine withLeft_nil ?_
      simp only [Act.put, List.setIfInBounds_toArray, List.set_cons_zero, List.set_cons_succ]
      refine lft_run rfl rfl ?_
      unfold LftRun
      go_wp2
      refine ⟨rfl, ⟨_, _, rfl, rfl, RowAt.lit (css := [[.int .i64 1, .int .u64 1], [.int .i64 2, .int .u64 1]]) (heap_alloc_new wz _) rfl (.cons (KRef.mk (by decide) (by decide)) (.cons (KRef.mk (by decide) (by decide)) (.nil))) rfl (by decide)⟩, rfl, (Below.refl _ _).alloc (Nat.le_refl _) _⟩
    · intro wz hwz
      clear hKc
      refine withLeft_ex rfl rfl ?_
      rintro _ ⟨gb, nb, rfl, eb, rb⟩
      refine withLeft_ex rfl rfl ?_
      rintro _ ⟨gc, nc, rfl, ec, rc⟩
      refine withLeft_nil ?_
      simp only [Act.put, List.setIfInBounds_toArray, List.set_cons_zero, List.set_cons_succ]
      refine lft_run rfl rfl ?_
      unfold LftRun
      go_wp2
      subst eb
      subst ec
      exact ⟨rfl, ⟨_, _, _, _, _, _, _, _, _, _, rfl, ⟨rfl, RowAt.nil, rb, rc⟩⟩, rfl, Below.refl _ _⟩
    · intro wz hwz
      clear hKc
      refine withLeft_ex rfl rfl ?_
      rintro _ ⟨lf0, pi0, ni0, ci0, pk0, nk0, ck0, pd0, nd0, cd0, rfl, i0⟩
      refine withLeft_ex rfl rfl ?_
      rintro _ ⟨lf1, pi1, ni1, ci1, pk1, nk1, ck1, pd1, nd1, cd1, rfl, i1⟩
      refine withLeft_ex rfl rfl ?_
      rintro _ ⟨lf2, pi2, ni2, ci2, pk2, nk2, ck2, pd2, nd2, cd2, rfl, i2⟩
      refine withLeft_ex rfl rfl ?_
      rintro _ ⟨lf3, pi3, ni3, ci3, pk3, nk3, ck3, pd3, nd3, cd3, rfl, i3⟩
      refine withLeft_ex rfl rfl ?_
      rintro _ ⟨lf4, pi4, ni4, ci4, pk4, nk4, ck4, pd4, nd4, cd4, rfl, i4⟩
      refine withLeft_ex rfl rfl ?_
      rintro _ ⟨lf5, pi5, ni5, ci5, pk5, nk5, ck5, pd5, nd5, cd5, rfl, i5⟩
      refine withLeft_ex rfl rfl ?_
      rintro _ ⟨lf6, pi6, ni6, ci6, pk6, nk6, ck6, pd6, nd6, cd6, rfl, i6⟩
      refine withLeft_ex rfl rfl ?_
      rintro _ ⟨lf7, pi7, ni7, ci7, pk7, nk7, ck7, pd7, nd7, cd7, rfl, i7⟩
      refine withLeft_ex rfl rfl ?_
      rintro _ ⟨lf8, pi8, ni8, ci8, pk8, nk8, ck8, pd8, nd8, cd8, rfl, i8⟩
      refine withLeft_ex rfl rfl ?_
      rintro _ ⟨lf9, pi9, ni9, ci9, pk9, nk9, ck9, pd9, nd9, cd9, rfl, i9⟩
      refine withLeft_ex rfl rfl ?_
      rintro _ ⟨lf10, pi10, ni10, ci10, pk10, nk10, ck10, pd10, nd10, cd10, rfl, i10⟩
      refine withLeft_ex rfl rfl ?_
      rintro _ ⟨lf11, pi11, ni11, ci11, pk11, nk11, ck11, pd11, nd11, cd11, rfl, i11⟩
      refine withLeft_ex rfl rfl ?_
      rintro _ ⟨lf12, pi12, ni12, ci12, pk12, nk12, ck12, pd12, nd12, cd12, rfl, i12⟩
      refine withLeft_nil ?_
      simp only [Act.put, List.setIfInBounds_toArray, List.set_cons_zero, List.set_cons_succ]
      refine lft_run rfl rfl ?_
      have hnew := fun o => (Below.refl wz.heap.size wz).alloc (Nat.le_refl _) o
      unfold LftRun
      go_wp2
      refine ⟨rfl, ⟨_, _, rfl, rfl, RowAt.lit (css := [[.bool lf0, .slice pi0 ni0 ci0, .slice pk0 nk0 ck0, .slice pd0 nd0 cd0], [.bool lf1, .slice pi1 ni1 ci1, .slice pk1 nk1 ck1, .slice pd1 nd1 cd1], [.bool lf2, .slice pi2 ni2 ci2, .slice pk2 nk2 ck2, .slice pd2 nd2 cd2], [.bool lf3, .slice pi3 ni3 ci3, .slice pk3 nk3 ck3, .slice pd3 nd3 cd3], [.bool lf4, .slice pi4 ni4 ci4, .slice pk4 nk4 ck4, .slice pd4 nd4 cd4], [.bool lf5, .slice pi5 ni5 ci5, .slice pk5 nk5 ck5, .slice pd5 nd5 cd5], [.bool lf6, .slice pi6 ni6 ci6, .slice pk6 nk6 ck6, .slice pd6 nd6 cd6], [.bool lf7, .slice pi7 ni7 ci7, .slice pk7 nk7 ck7, .slice pd7 nd7 cd7], [.bool lf8, .slice pi8 ni8 ci8, .slice pk8 nk8 ck8, .slice pd8 nd8 cd8], [.bool lf9, .slice pi9 ni9 ci9, .slice pk9 nk9 ck9, .slice pd9 nd9 cd9], [.bool lf10, .slice pi10 ni10 ci10, .slice pk10 nk10 ck10, .slice pd10 nd10 cd10], [.bool lf11, .slice pi11 ni11 ci11, .slice pk11 nk11 ck11, .slice pd11 nd11 cd11], [.bool lf12, .slice pi12 ni12 ci12, .slice pk12 nk12 ck12, .slice pd12 nd12 cd12]]) (heap_alloc_new wz _) rfl (.cons (KNode.mk (i0.below (hnew _))) (.cons (KNode.mk (i1.below (hnew _))) (.cons (KNode.mk (i2.below (hnew _))) (.cons (KNode.mk (i3.below (hnew _))) (.cons (KNode.mk (i4.below (hnew _))) (.cons (KNode.mk (i5.below (hnew _))) (.cons (KNode.mk (i6.below (hnew _))) (.cons (KNode.mk (i7.below (hnew _))) (.cons (KNode.mk (i8.below (hnew _))) (.cons (KNode.mk (i9.below (hnew _))) (.cons (KNode.mk (i10.below (hnew _))) (.cons (KNode.mk (i11.below (hnew _))) (.cons (KNode.mk (i12.below (hnew _))) (.nil)))))))))))))) rfl (by decide)⟩, rfl, (Below.refl _ _).alloc (Nat.le_refl _) _⟩
    · intro wz hwz
      clear hKc
      refine withLeft_ex rfl rfl ?_
      rintro _ ⟨g9, n9, rfl, hn9, r9⟩
      refine withLeft_nil ?_
      simp only [Act.put, List.setIfInBounds_toArray, List.set_cons_zero, List.set_cons_succ]
      refine lft_run rfl rfl ?_
      have HN9 := Lib.hid hn9
      clear hn9
      unfold LftRun
      go_wp2
      exact ⟨rfl, ⟨g9, n9, rfl, HN9.out, r9⟩, rfl, Below.refl _ _⟩
  intro wz hwz
  refine LeftEnd.ex (fun _ _ => LeftEnd.ex (fun _ _ => LeftEnd.ex (fun _ _ => LeftEnd.ex (fun _ _ => LeftEnd.is (LeftEnd.ex (fun _ _ => LeftEnd.is (LeftEnd.ex (fun _ _ => LeftEnd.ex (fun _ _ => LeftEnd.ex (fun _ _ => LeftEnd.is (LeftEnd.ex (fun _ _ => LeftEnd.is (LeftEnd.ex (fun _ _ => LeftEnd.ex (fun _ _ => LeftEnd.ex (fun _ _ => LeftEnd.is (LeftEnd.ex (fun _ _ => LeftEnd.ex (fun _ _ => LeftEnd.is (LeftEnd.ex (fun _ _ => LeftEnd.ex (fun _ _ => LeftEnd.bytes (fun _ _ => LeftEnd.ex (fun _ _ => LeftEnd.ex (fun _ _ => LeftEnd.ex (fun _ _ => LeftEnd.is (LeftEnd.bytes (fun _ _ => LeftEnd.ex (fun _ _ => LeftEnd.ex (fun _ _ => LeftEnd.ex (fun _ _ => LeftEnd.is (LeftEnd.ex (fun _ _ => LeftEnd.ex (fun _ _ => LeftEnd.ex (fun _ _ => LeftEnd.is (LeftEnd.ex (fun _ _ => LeftEnd.is (LeftEnd.ex (fun _ _ => LeftEnd.ex (fun _ _ => LeftEnd.is (LeftEnd.is (LeftEnd.ex (fun _ _ => LeftEnd.is (LeftEnd.is (LeftEnd.ex (fun _ _ => LeftEnd.ex (fun _ _ => LeftEnd.is (LeftEnd.is (LeftEnd.ex (fun _ _ => LeftEnd.is (LeftEnd.is (LeftEnd.ex (fun _ _ => LeftEnd.ex (fun _ _ => LeftEnd.is (LeftEnd.ex (fun _ _ => LeftEnd.is (LeftEnd.is (LeftEnd.ex (fun _ _ => LeftEnd.ex (fun _ _ => LeftEnd.is (LeftEnd.is (LeftEnd.ex (fun _ _ => LeftEnd.is (LeftEnd.is (LeftEnd.ex (fun _ _ => LeftEnd.ex (fun _ _ => LeftEnd.ex (fun _ _ => LeftEnd.ex (fun vB hBad => LeftEnd.nil ?_)))))))))))))))))))))))))))))))))))))))))))))))))))))))))))))))))))))
  simp only [Act.put, List.setIfInBounds_toArray, List.set_cons_zero, List.set_cons_succ]

  have HB3 : Hid (Below w.heap.size w wz) := HB2.out.trans (hwz.mono HB2.out.size)
  have HK3 : Hid (∀ w', Below wz.heap.size wz w' → Bytes w' (.slice (some ⟨w1.heap.size, 0, none⟩) 1 1) [107]) := fun w' hb => HK.out _ (hwz.trans (hb.mono hwz.size))
  have HL3 : Hid (∀ w', Below wz.heap.size wz w' → Bytes w' (.slice (some ⟨w1.heap.size + 1, 0, none⟩) 1 1) [108]) := fun w' hb => HL.out _ (hwz.trans (hb.mono hwz.size))
  obtain ⟨g9, n9, rfl, hn9, r9⟩ := hBad
  have hn13 : n9 = 13 := hn9
  clear hn9
  subst hn13
  have HR9 := Lib.hid r9
  clear hwz r9 HB2 HK HL
  refine hKc _ _ ?_
  clear hKc Kc
  go_wp2
  go_loopw [4] (fun i wr => FormRel wz i wr) (fun i _ => 13 - (intOf i).toNat)
  case atStart => exact ⟨0, by omega, rfl, Below.refl _ _⟩
  case round =>
    obtain ⟨k, hk, rfl, hb⟩ := hrel
    by_cases hlt : k < 13
    · have hkb : k < bads.length := hlt
      obtain ⟨lb, lo, cs, h1, hc, hkn⟩ := HR9.out.at_ k hkb
      obtain ⟨rfl, rfl⟩ : g9 = lb ∧ 0 = lo := by simpa using h1
      obtain ⟨lf, pi, ni, ci, pk, nk, ck, pd, nd, cd, rfl, hnd⟩ := hkn
      obtain ⟨c0, c1, c2, c3⟩ := (hc.below hb).four
      simp only [KNode, Nat.zero_add] at c0 c1 c2 c3
      have hno := bads_no _ (List.getElem_mem hkb)
      generalize bads[k] = n at *
      have HM := Lib.hid (may_any (hnd.below hb))
      have HND := Lib.hid hnd; have HB := Lib.hid hb; have HNO := Lib.hid hno; have HC := Lib.hid hc; have HKL := Lib.hid hlt
      have hki : (k : Int) < 13 := by omega
      clear hnd hb hno hc h1 hkb hk hlt
      go_wp2_with fail
      refine HM.out.mono ?_
      rintro e w3 ⟨rfl, hb3⟩
      rw [HNO.out]
      have hbz : Below wz.heap.size wz w3 := HB.out.trans (hb3.mono HB.out.size)
      clear c0 c1 c2 c3 HM hb3
      obtain ⟨c0, c1, c2, c3⟩ := (HC.out.below hbz).four
      simp only [KNode, Nat.zero_add] at c0 c1 c2 c3
      have HP := Lib.hid (put_any (HND.out.below hbz))
      have HBZ := Lib.hid hbz
      have E : Hid (putNd n = []) := by unfold Hid putNd; rw [HNO.out]; rfl
      clear hbz
      go_wp2_with fail
      refine HP.out.mono ?_
      rintro e w4 ⟨v4, rfl, ho4, hb4⟩
      rw [E.out] at ho4
      obtain ⟨p4, c4, rfl⟩ := shape_of ho4
      have HNX : Hid (FormRel wz (.int .i64 (k + 1 : Nat)) w4) := ⟨k + 1, HKL.out, rfl, HBZ.out.trans (hb4.mono HBZ.out.size)⟩
      clear ho4 hb4 HP c0 c1 c2 c3
      go_wp2
      go_roundw
      case rel => exact HNX.out
      case measure => simp [intOf]; have := HKL.out; omega
    · obtain rfl : k = 13 := by omega
      obtain ⟨W, hW⟩ : ∃ W, W = allocs wr [.cells #[.slice (some ⟨w1.heap.size, 0, none⟩) 1 1, .slice (some ⟨w1.heap.size + 1, 0, none⟩) 1 1] 30, .cells #[.int .i64 300, .int .u64 4, .int .i64 1, .int .u64 5] 41, .cells #[.bool false, .slice none 0 0, .slice (some ⟨wr.heap.size, 0, none⟩) 2 2, .slice (some ⟨wr.heap.size + 1, 0, none⟩) 2 2] 26] := ⟨_, rfl⟩
      have hbW : Below wr.heap.size wr W := by rw [hW]; exact allocs_below _ _
      have hbz : Below wz.heap.size wz W := hb.trans (hbW.mono hb.size)
      have b0 := HK3.out W hbz
      have b1 := HL3.out W hbz
      have hI : IsNd W (.agg #[.bool false, .slice none 0 0, .slice (some ⟨wr.heap.size, 0, none⟩) 2 2, .slice (some ⟨wr.heap.size + 1, 0, none⟩) 2 2]) ndF none 0 (some ⟨wr.heap.size, 0, none⟩) 2 (some ⟨wr.heap.size + 1, 0, none⟩) 2 :=
        ⟨rfl, RowAt.nil, RowAt.lit (css := [[.slice (some ⟨w1.heap.size, 0, none⟩) 1 1], [.slice (some ⟨w1.heap.size + 1, 0, none⟩) 1 1]]) (by rw [hW]; exact allocs_at (i := 0) rfl) rfl (.cons (KBytes.mk b0) (.cons (KBytes.mk b1) .nil)) rfl (by decide),
          RowAt.lit (css := [[.int .i64 300, .int .u64 4], [.int .i64 1, .int .u64 5]]) (by rw [hW]; exact allocs_at (i := 1) rfl) rfl (.cons (KRef.mk (by decide) (by decide)) (.cons (KRef.mk (by decide) (by decide)) .nil)) rfl (by decide)⟩
      have hE : NdAt W (wr.heap.size + 1 + 1) ndF none 0 (some ⟨wr.heap.size, 0, none⟩) 2 (some ⟨wr.heap.size + 1, 0, none⟩) 2 := by rw [hW]; exact allocs_at (i := 2) rfl
      have HW := Lib.hid hW; have HI := Lib.hid hI; have HE := Lib.hid hE
      have HB : Hid (Below w.heap.size w W) := HB3.out.trans (hbz.mono HB3.out.size)
      have HPUT : Hid (∀ W', W' = W → Calls Try.prog 7 #[.agg #[.bool false, .slice none 0 0, .slice (some ⟨wr.heap.size, 0, none⟩) 2 2, .slice (some ⟨wr.heap.size + 1, 0, none⟩) 2 2]] W' (Rows W (putNd ndF))) := fun W' e => by subst e; exact put_any HI.out
      clear hW hbW hbz b0 b1 hI hE hb hlt hk
      go_wp2_with fail
      refine (HPUT.out _ (by rw [HW.out]; rfl)).mono ?_
      rintro z w2' ⟨v2, rfl, ho2, hb2⟩
      have e2 : putNd ndF = ndOf ndF := by unfold putNd; rw [if_pos mayNd_F]
      rw [e2] at ho2
      have HO2 := Lib.hid (owns_bytes ho2 (ndOf_small fine_F mayNd_F) (by decide))
      obtain ⟨p2, c2, rfl⟩ := shape_of ho2
      rw [show (ndOf ndF).length = 38 from by decide +kernel] at HO2 ⊢
      have HB2 : Hid (Below w.heap.size w w2') := HB.out.trans (hb2.mono HB.out.size)
      have HI2 := Lib.hid (HI.out.below hb2); have HE2 := Lib.hid (HE.out.below hb2)
      clear hb2 ho2 e2 HB HI HE HW HPUT
      go_wp2_with fail
      refine (take_any _ _ w2' HO2.out).mono ?_
      intro z w3 ht
      obtain ⟨pi, ci, pk, ck, pd, cd, rfl, hi3, hb3⟩ := tells_put fine_F mayNd_F ht
      have HB3' : Hid (Below w.heap.size w w3) := HB2.out.trans (hb3.mono HB2.out.size)
      have hxx := NdAt.new w3 ndF pi ci pk ck pd cd
      simp only [show ndF.leaf = false from rfl, show ndF.its.length = 0 from rfl, show ndF.ks.length = 2 from rfl, show ndF.kids.length = 2 from rfl] at hi3 ⊢
      have hb33 : Below w3.heap.size w3 (w3.alloc (.cells #[.bool false, .slice pi 0 ci, .slice pk 2 ck, .slice pd 2 cd] 26)) := (Below.refl _ _).alloc (Nat.le_refl _) _
      obtain ⟨G3, hG3⟩ : ∃ G, G = w3.heap.size := ⟨_, rfl⟩
      have HN3 : Hid (NdAt (w3.alloc (.cells #[.bool false, .slice pi 0 ci, .slice pk 2 ck, .slice pd 2 cd] 26)) w3.heap.size ndF pi ci pk ck pd cd) := hxx
      have HI3 := Lib.hid (hi3.below hb33); have HE3 := Lib.hid ((HE2.out.below hb3).below hb33); have HJ3 := Lib.hid ((HI2.out.below hb3).below hb33)
      have HC3 : Hid (Below w.heap.size w (w3.alloc (.cells #[.bool false, .slice pi 0 ci, .slice pk 2 ck, .slice pd 2 cd] 26))) := HB3'.out.trans (hb33.mono HB3'.out.size)
      have hcv := ((HO2.out.below hb3).below hb33).toString (P := Try.prog) byT (d := 9) (by kernel_rfl)
      rw [show strOf (ndOf ndF) = ⟨#[78, 2, 1, 107, 0, 0, 0, 0, 0, 0, 1, 44, 0, 0, 0, 0, 0, 0, 0, 4, 1, 108, 0, 0, 0, 0, 0, 0, 0, 1, 0, 0, 0, 0, 0, 0, 0, 5]⟩ by decide +kernel] at hcv
      clear hi3 hb3 hb33 ht HE2 HI2 HB2 HB3' hxx hG3 HO2
      obtain ⟨c0, c1, c2', c3⟩ := HE3.out.cells
      obtain ⟨d0, d1, d2, d3⟩ := HN3.out.cells
      simp only [show ndF.leaf = false from rfl, show ndF.its.length = 0 from rfl, show ndF.ks.length = 2 from rfl, show ndF.kids.length = 2 from rfl] at c0 c1 c2' c3 d0 d1 d2 d3
      go_wp2_with fail
      refine (same_any HI3.out HJ3.out).mono ?_
      rintro z w5 ⟨rfl, hb5⟩
      rw [show decide (ndF = ndF) = true from by decide]
      have HE5 := Lib.hid (HE3.out.below hb5); have HJ5 := Lib.hid (HJ3.out.below hb5)
      have HB5 : Hid (Below w.heap.size w w5) := HC3.out.trans (hb5.mono HC3.out.size)
      clear c0 c1 c2' c3 d0 d1 d2 d3 hb5 HI3 HE3 HJ3 HN3 HC3 hcv
      obtain ⟨c0, c1, c2', c3⟩ := HE5.out.cells
      simp only [show ndF.leaf = false from rfl, show ndF.its.length = 0 from rfl, show ndF.ks.length = 2 from rfl, show ndF.kids.length = 2 from rfl] at c0 c1 c2' c3
      go_wp2_with fail
      refine (count_any HJ5.out (by decide)).mono ?_
      rintro z w6 ⟨rfl, hb6⟩
      rw [show cnt ndF = 9 from rfl]
      have HE6 := Lib.hid (HE5.out.below hb6); have HJ6 := Lib.hid (HJ5.out.below hb6)
      have HB6 : Hid (Below w.heap.size w w6) := HB5.out.trans (hb6.mono HB5.out.size)
      clear c0 c1 c2' c3 hb6 HE5 HJ5 HB5
      obtain ⟨c0, c1, c2', c3⟩ := HE6.out.cells
      simp only [show ndF.leaf = false from rfl, show ndF.its.length = 0 from rfl, show ndF.ks.length = 2 from rfl, show ndF.kids.length = 2 from rfl] at c0 c1 c2' c3
      go_wp2_with fail
      refine (least_any HJ6.out (by decide)).mono ?_
      rintro z w7 ⟨v7, rfl, ho7, hb7⟩
      have HB7 : Hid (Below w.heap.size w w7) := HB6.out.trans (hb7.mono HB6.out.size)
      have hcv := (owns_bytes ho7 (by decide) (by decide)).toString (P := Try.prog) byT (d := 9) (by kernel_rfl)
      rw [show strOf (lst ndF) = ⟨#[107]⟩ by decide +kernel] at hcv
      obtain ⟨p7, c7, rfl⟩ := shape_of ho7
      rw [show (lst ndF).length = 1 from rfl] at hcv ⊢
      clear hb7 ho7 HE6 HJ6 HB6 c0 c1 c2' c3
      go_wp2_with fail
      refine (count_any (isNd_zero _) (by decide)).mono ?_
      rintro z w8 ⟨rfl, hb8⟩
      rw [show cnt nd0 = 0 from rfl]
      have HB8 : Hid (Below w.heap.size w w8) := HB7.out.trans (hb8.mono HB7.out.size)
      clear hb8 HB7 hcv
      go_wp2_with fail
      refine (least_any (isNd_zero _) (by decide)).mono ?_
      rintro z w9 ⟨v9, rfl, ho9, hb9⟩
      have HB9 : Hid (Below w.heap.size w w9) := HB8.out.trans (hb9.mono HB8.out.size)
      obtain ⟨p9, c9, rfl⟩ := shape_of ho9
      rw [show (lst nd0).length = 0 from rfl]
      clear hb9 ho9 HB8
      go_wp2
      go_ret
      exact ⟨rfl, HB9.out⟩

set_option maxRecDepth 100000 in
theorem forms_lifted (os : Os) (started : os.Started) (H : Type) (enc : TypeId × Value → H) :
    ReturnsInHanded {} Try.checked os 4 .any (Rows.nodeFormsSpec.pre6 enc Try.prog Try.f4 Rows.nodeFormsRow.domain false) (Rows.nodeFormsSpec.post enc Try.prog Try.f4 false true false false) := by
  refine returnsInHanded_of_change (C := Try.checked) own_none started (by kernel_rfl) Try.func4
    (ChangeSpec.witness6 (enc := enc) (C := Try.checked) false ⟨#[], #[], []⟩ 8 (by kernel_rfl) (by kernel_rfl) (by kernel_rfl) (by kernel_rfl)) ?_
  intro W base args ds gs before hval0 hW hcnd _
  have hW' := hW
  obtain ⟨p, q, hA0, hV, rfl, hfz, hnd⟩ := hW
  have hA : DataW.TrodAll enc Try.prog W 0 (fun _ => true) true Try.f4.params.toList args.toList ds p := hA0
  have hp : Try.f4.params = #[] := by kernel_rfl
  rw [hp] at hA
  obtain ⟨rfl, rfl, rfl⟩ := trodAll_none hA
  obtain ⟨rfl, rfl⟩ := trodVars_none hV
  refine (forms_any W).mono fun e W' ⟨he, hb⟩ => ?_
  subst he
  exact ⟨_, rfl, law_post (tb := 4) laidOut (by rw [hp]; intro t ht; simp at ht) rfl rfl (by kernel_rfl) (by kernel_rfl) hW' hb⟩

theorem nodeForms_holds : Rows.NodeFormsSaid :=
  OpenClaim.holds_of_wide 4 Try.f4 rfl rfl rfl rfl rfl rfl rfl ⟨rfl, rfl, rfl, rfl, rfl⟩ rfl rfl rfl rfl rfl (by kernel_rfl) Try.func4 (by kernel_rfl)
    (of_decide_eq_true (by kernel_rfl)) (by unfold Func.isWrapper; rw [if_neg (by decide +kernel)]; exact ⟨rfl, rfl⟩)
    (fun os started H enc _ => forms_lifted os started H enc)
end Go.Proofs.Ytbjjaabmdjbodaa

