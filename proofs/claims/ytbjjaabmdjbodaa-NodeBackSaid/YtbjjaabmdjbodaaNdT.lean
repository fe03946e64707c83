/- Nodes in a program: it has begun. -/
import Derived.Test.YtbjjaabmdjbodaaNdS
namespace Go.Proofs.Ytbjjaabmdjbodaa
open Go Go.RowKit Go.By

/-- What was put is taken. -/
theorem tells_put {w w' : World} {n : Nd} {z : Ending} (hf : NdFine n) (hm : mayNd n = true) (h : Tells w (ndOf n) z w') :
    ∃ pi ci pk ck pd cd, z = .returned (.tuple #[.agg #[.bool n.leaf, .slice pi n.its.length ci, .slice pk n.ks.length ck, .slice pd n.kids.length cd], .int .i64 0]) ∧ IsNd w' (.agg #[.bool n.leaf, .slice pi n.its.length ci, .slice pk n.ks.length ck, .slice pd n.kids.length cd]) n pi ci pk ck pd cd ∧ Below w.heap.size w w' := by
  obtain ⟨h1, hb⟩ := h
  rcases h1 with ⟨h1, _⟩ | ⟨m, pi, ci, pk, ck, pd, cd, h1, rfl, hi⟩
  · rw [takeNd_put hf hm] at h1; cases h1
  · rw [takeNd_put hf hm] at h1
    obtain rfl := Option.some.inj h1
    exact ⟨pi, ci, pk, ck, pd, cd, rfl, hi, hb⟩
theorem tells_none {w w' : World} {l : List Nat} {z : Ending} (hn : takeNd l = none) (h : Tells w l z w') :
    z = .returned (.tuple #[.agg #[.bool false, .slice none 0 0, .slice none 0 0, .slice none 0 0], .int .i64 2]) ∧ Below w.heap.size w w' := by
  obtain ⟨h1, hb⟩ := h
  rcases h1 with ⟨_, rfl⟩ | ⟨m, pi, ci, pk, ck, pd, cd, h1, _⟩
  · exact ⟨rfl, hb⟩
  · rw [hn] at h1; cases h1
/-- No node. -/
def nd0 : Nd := ⟨false, [], [], []⟩
theorem isNd_zero (w : World) : IsNd w (.agg #[.bool false, .slice none 0 0, .slice none 0 0, .slice none 0 0]) nd0 none 0 none 0 none 0 := ⟨rfl, RowAt.nil, RowAt.nil, RowAt.nil⟩
theorem mayNd_zero : mayNd nd0 = false := by decide
def nd1 : Nd := lfOf [⟨[97], [98]⟩]
theorem mayNd_one : mayNd nd1 = true := by decide
theorem fine_one : NdFine nd1 := ⟨by decide, by decide, by decide⟩
theorem KItem.mk {w : World} {a b : Value} {i : NIt} (ha : Bytes w a i.k) (hb : Bytes w b i.v) : KItem.is w [a, b] i := ⟨a, b, rfl, ha, hb⟩
theorem KBytes.mk {w : World} {a : Value} {l : List Nat} (ha : Bytes w a l) : KBytes.is w [a] l := ⟨a, rfl, ha⟩
/-- A text that was written out. -/
theorem bytes_at {w : World} {g : Nat} {c : Array Value} {T : TypeId} {fr : Nat × Nat} {n : Nat} (l : List Nat) (hg : w.heap[g]? = some (.cells c T fr)) (hc : c = (cellsOf l).toArray) (hn : n = l.length) (hs : ∀ c ∈ l, c < 256) (hm : l.length ≤ maxLen) : Bytes w (.slice (some ⟨g, 0, none⟩) n n) l := by
  subst hn hc
  refine ⟨.inr (.inr ⟨g, 0, l.length, rfl, Nat.le_refl _, fun i hi => ?_⟩), hs, hm⟩
  rw [Nat.zero_add, cell_of_row w g i _ T fr hg, List.getElem?_toArray]
  exact cellsOf_get hi

set_option maxRecDepth 100000 in
set_option maxHeartbeats 1000000 in
theorem begun_any (w : World) : Calls Try.prog 5 #[] w fun e w' => e = .returned (.bool true) ∧ Below w.heap.size w w' := by
  obtain ⟨W, hW⟩ : ∃ W, W = allocs w [.cells #[.int .u8 97] 5 (1, 2), .cells #[.int .u8 98] 5 (1, 2), .cells #[.slice (some ⟨w.heap.size, 0, none⟩) 1 1, .slice (some ⟨w.heap.size + 1, 0, none⟩) 1 1] 38, .cells #[.bool true, .slice (some ⟨w.heap.size + 1 + 1, 0, none⟩) 1 1, .slice none 0 0, .slice none 0 0] 26] := ⟨_, rfl⟩
  have hb : Below w.heap.size w W := by rw [hW]; exact allocs_below _ _
  have b0 : Bytes W (.slice (some ⟨w.heap.size, 0, none⟩) 1 1) [97] := bytes_at [97] (by rw [hW]; exact allocs_at (i := 0) rfl) rfl rfl (by decide) (by decide)
  have b1 : Bytes W (.slice (some ⟨w.heap.size + 1, 0, none⟩) 1 1) [98] := bytes_at [98] (by rw [hW]; exact allocs_at (i := 1) rfl) rfl rfl (by decide) (by decide)
  have hI : IsNd W (.agg #[.bool true, .slice (some ⟨w.heap.size + 1 + 1, 0, none⟩) 1 1, .slice none 0 0, .slice none 0 0]) nd1 (some ⟨w.heap.size + 1 + 1, 0, none⟩) 1 none 0 none 0 :=
    ⟨rfl, RowAt.lit (css := [[.slice (some ⟨w.heap.size, 0, none⟩) 1 1, .slice (some ⟨w.heap.size + 1, 0, none⟩) 1 1]]) (by rw [hW]; exact allocs_at (i := 2) rfl) rfl (.cons (KItem.mk b0 b1) .nil) rfl (by decide), RowAt.nil, RowAt.nil⟩
  have hE : NdAt W (w.heap.size + 1 + 1 + 1) nd1 (some ⟨w.heap.size + 1 + 1, 0, none⟩) 1 none 0 none 0 := by rw [hW]; exact allocs_at (i := 3) rfl
  have HW := Lib.hid hW; have HB := Lib.hid hb; have HI := Lib.hid hI; have HE := Lib.hid hE
  have HPUT : Hid (∀ W', W' = W → Calls Try.prog 7 #[.agg #[.bool true, .slice (some ⟨w.heap.size + 1 + 1, 0, none⟩) 1 1, .slice none 0 0, .slice none 0 0]] W' (Rows W (putNd nd1))) := fun W' e => by subst e; exact put_any HI.out
  clear hW hb b0 b1 hI hE
  have hcv1 := fun (w : World) (C : Array Value) (n c : Nat) => Lib.run_convert_bytes_const (P := Try.prog) w 30 5 C n c byT.slice byT.elem
  have hcv2 := Go.Joins.run_convert_bytes_const_at (P := Try.prog) (w.alloc (.cells #[.int .u8 97] 5 (1, 2))) 30 5 #[.int .u8 98] 1 1 (w.heap.size + 1) (World.size_alloc ..).symm byT.slice byT.elem
  go_enter Try.func5, Try.ntmps5
  go_wp2_with fail
  clear hcv1 hcv2
  refine (HPUT.out _ (by rw [HW.out]; rfl)).mono ?_
  rintro z w2 ⟨v2, rfl, ho2, hb2⟩
  have e2 : putNd nd1 = ndOf nd1 := by decide
  rw [e2] at ho2
  have HO2 := Lib.hid (owns_bytes ho2 (ndOf_small fine_one mayNd_one) (by decide))
  obtain ⟨p2, c2, rfl⟩ := shape_of ho2
  rw [show (ndOf nd1).length = 6 from by decide] at HO2 ⊢
  have HB2 : Hid (Below w.heap.size w w2) := HB.out.trans (hb2.mono HB.out.size)
  have HI2 := Lib.hid (HI.out.below hb2); have HE2 := Lib.hid (HE.out.below hb2)
  have hcv2 := HO2.out.toString (P := Try.prog) byT (d := 9) (by kernel_rfl)
  clear hb2 ho2 e2 HB HI HE hcv2 HW HPUT
  go_wp2_with fail
  refine (take_any _ _ w2 HO2.out).mono ?_
  intro z w3 ht
  obtain ⟨pi, ci, pk, ck, pd, cd, rfl, hi3, hb3⟩ := tells_put fine_one mayNd_one ht
  have HB3 : Hid (Below w.heap.size w w3) := HB2.out.trans (hb3.mono HB2.out.size)
  have hxx := NdAt.new w3 nd1 pi ci pk ck pd cd
  have hvv := hi3.val
  simp only [show nd1.leaf = true from rfl, show nd1.its.length = 1 from rfl, show nd1.ks.length = 0 from rfl, show nd1.kids.length = 0 from rfl] at hi3 ⊢
  obtain ⟨W3, hW3⟩ : ∃ W, W = w3.alloc (.cells #[.bool true, .slice pi 1 ci, .slice pk 0 ck, .slice pd 0 cd] 26) := ⟨_, rfl⟩
  have hb33 : Below w3.heap.size w3 W3 := by rw [hW3]; exact (Below.refl _ _).alloc (Nat.le_refl _) _
  have HN3 : Hid (NdAt W3 w3.heap.size nd1 pi ci pk ck pd cd) := by unfold Hid; rw [hW3]; exact hxx
  have HI3 := Lib.hid (hi3.below hb33); have HE3 := Lib.hid ((HE2.out.below hb3).below hb33); have HJ3 := Lib.hid ((HI2.out.below hb3).below hb33)
  have HC3 : Hid (Below w.heap.size w W3) := HB3.out.trans (hb33.mono HB3.out.size)
  have HY3 := Lib.hid (((HO2.out.below hb3).below hb33))
  have HW3 := Lib.hid hW3
  clear hi3 hb3 hb33 hW3 ht HE2 HI2 HB2 HB3 hxx hvv
  go_wp2_with fail
  rw [← HW3.out]
  clear HW3
  refine (take_any _ [] W3 (Bytes.nil _)).mono ?_
  intro z w4 ht
  obtain ⟨rfl, hb4⟩ := tells_none (by decide) ht
  have hb44 : Below w4.heap.size w4 (w4.alloc (.cells #[.bool false, .slice none 0 0, .slice none 0 0, .slice none 0 0] 26)) := (Below.refl _ _).alloc (Nat.le_refl _) _
  have hb34 := hb4.trans (hb44.mono hb4.size)
  have HI4 := Lib.hid (HI3.out.below hb34); have HE4 := Lib.hid (HE3.out.below hb34); have HJ4 := Lib.hid (HJ3.out.below hb34); have HN4 := Lib.hid (HN3.out.below hb34)
  have HB4 : Hid (Below w.heap.size w (w4.alloc (.cells #[.bool false, .slice none 0 0, .slice none 0 0, .slice none 0 0] 26))) := HC3.out.trans (hb34.mono HC3.out.size)
  have hcv := (HY3.out.below hb34).toString (P := Try.prog) byT (d := 9) (by kernel_rfl)
  rw [show strOf (ndOf nd1) = ⟨#[76, 1, 1, 97, 1, 98]⟩ by decide +kernel] at hcv
  clear ht hb4 hb44 hb34 HI3 HE3 HJ3 HN3 HC3 HY3 HO2
  obtain ⟨c0, c1, c2', c3⟩ := HE4.out.cells
  obtain ⟨d0, d1, d2, d3⟩ := HN4.out.cells
  simp only [show nd1.leaf = true from rfl, show nd1.its.length = 1 from rfl, show nd1.ks.length = 0 from rfl, show nd1.kids.length = 0 from rfl] at c0 c1 c2' c3 d0 d1 d2 d3
  go_wp2_with fail
  refine (same_any HI4.out HJ4.out).mono ?_
  rintro z w5 ⟨rfl, hb5⟩
  rw [show decide (nd1 = nd1) = true from by decide]
  have HE5 := Lib.hid (HE4.out.below hb5); have HJ5 := Lib.hid (HJ4.out.below hb5)
  have HB5 : Hid (Below w.heap.size w w5) := HB4.out.trans (hb5.mono HB4.out.size)
  clear c0 c1 c2' c3 d0 d1 d2 d3 hb5 HI4 HE4 HJ4 HN4 HB4 hcv
  obtain ⟨c0, c1, c2', c3⟩ := HE5.out.cells
  simp only [show nd1.leaf = true from rfl, show nd1.its.length = 1 from rfl, show nd1.ks.length = 0 from rfl, show nd1.kids.length = 0 from rfl] at c0 c1 c2' c3
  go_wp2_with fail
  refine (may_any HJ5.out).mono ?_
  rintro z w6 ⟨rfl, hb6⟩
  rw [mayNd_one]
  have HE6 := Lib.hid (HE5.out.below hb6); have HJ6 := Lib.hid (HJ5.out.below hb6)
  have HB6 : Hid (Below w.heap.size w w6) := HB5.out.trans (hb6.mono HB5.out.size)
  clear c0 c1 c2' c3 hb6 HE5 HJ5 HB5
  go_wp2_with fail
  refine (may_any (isNd_zero _)).mono ?_
  rintro z w7 ⟨rfl, hb7⟩
  rw [mayNd_zero]
  have HE7 := Lib.hid (HE6.out.below hb7); have HJ7 := Lib.hid (HJ6.out.below hb7)
  have HB7 : Hid (Below w.heap.size w w7) := HB6.out.trans (hb7.mono HB6.out.size)
  clear hb7 HE6 HJ6 HB6
  obtain ⟨c0, c1, c2', c3⟩ := HE7.out.cells
  simp only [show nd1.leaf = true from rfl, show nd1.its.length = 1 from rfl, show nd1.ks.length = 0 from rfl, show nd1.kids.length = 0 from rfl] at c0 c1 c2' c3
  go_wp2_with fail
  refine (least_any HJ7.out (by decide)).mono ?_
  rintro z w8 ⟨v8, rfl, ho8, hb8⟩
  have HE8 := Lib.hid (HE7.out.below hb8); have HJ8 := Lib.hid (HJ7.out.below hb8)
  have HB8 : Hid (Below w.heap.size w w8) := HB7.out.trans (hb8.mono HB7.out.size)
  have hcv := (owns_bytes ho8 (by decide) (by decide)).toString (P := Try.prog) byT (d := 9) (by kernel_rfl)
  rw [show strOf (lst nd1) = ⟨#[97]⟩ by decide +kernel] at hcv
  obtain ⟨p8, c8, rfl⟩ := shape_of ho8
  rw [show (lst nd1).length = 1 from rfl] at hcv ⊢
  clear hb8 ho8 HE7 HJ7 HB7 c0 c1 c2' c3
  obtain ⟨c0, c1, c2', c3⟩ := HE8.out.cells
  simp only [show nd1.leaf = true from rfl, show nd1.its.length = 1 from rfl, show nd1.ks.length = 0 from rfl, show nd1.kids.length = 0 from rfl] at c0 c1 c2' c3
  go_wp2_with fail
  refine (count_any HJ8.out (by decide)).mono ?_
  rintro z w9 ⟨rfl, hb9⟩
  rw [show cnt nd1 = 1 from rfl]
  have HB9 : Hid (Below w.heap.size w w9) := HB8.out.trans (hb9.mono HB8.out.size)
  clear hb9 c0 c1 c2' c3 hcv
  go_wp2
  go_ret
  exact ⟨rfl, HB9.out⟩
end Go.Proofs.Ytbjjaabmdjbodaa

