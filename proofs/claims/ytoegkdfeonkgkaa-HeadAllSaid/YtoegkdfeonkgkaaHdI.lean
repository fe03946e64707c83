/- Heads in a program: what the laws say of it; it has begun. -/
import Derived.Test.YtoegkdfeonkgkaaHeF
import Derived.Test.YtoegkdfeonkgkaaHeK
import Derived.Test.YtoegkdfeonkgkaaHeL
import Derived.Test.YtoegkdfeonkgkaaLaw
import Derived.Lib.SmallJoins
namespace Go.Proofs.Ytoegkdfeonkgkaa
open Go Go.RowKit Go.By

/-- A block that holds these cells. -/
def BlkAt (w : World) (g : Nat) (cs : Array Value) (t : TypeId) : Prop := w.heap[g]? = some (.cells cs t (0, 0))
theorem BlkAt.lt {w : World} {g : Nat} {cs : Array Value} {t : TypeId} (h : BlkAt w g cs t) : g < w.heap.size := (Array.getElem?_eq_some_iff.1 h).1
theorem BlkAt.below {w w' : World} {g : Nat} {cs : Array Value} {t : TypeId} (h : BlkAt w g cs t) (hb : Below w.heap.size w w') : BlkAt w' g cs t := (hb.block _ h.lt).trans h
theorem BlkAt.new (w : World) (cs : Array Value) (t : TypeId) : BlkAt (w.alloc (.cells cs t)) w.heap.size cs t := heap_alloc_new w _
theorem BlkAt.three {w : World} {g : Nat} {a b c : Value} {t : TypeId} (h : BlkAt w g #[a, b, c] t) : w.cell? ⟨g, 0, none⟩ = some a ∧ w.cell? ⟨g, 1, none⟩ = some b ∧ w.cell? ⟨g, 2, none⟩ = some c :=
  ⟨cells_of h 0, cells_of h 1, cells_of h 2⟩
theorem BlkAt.two {w : World} {g : Nat} {a b : Value} {t : TypeId} (h : BlkAt w g #[a, b] t) : w.cell? ⟨g, 0, none⟩ = some a ∧ w.cell? ⟨g, 1, none⟩ = some b :=
  ⟨cells_of h 0, cells_of h 1⟩
theorem row_bytes {w : World} {B : Nat} {v : Value} {l : List Nat} (h : w.ownsRow B 5 1 v l.length (cellsOf l)) (hs : ∀ c ∈ l, c < 256) (hl : l.length ≤ 108) : ∃ p c, v = .slice p l.length c ∧ Bytes w v l := by
  obtain ⟨p, c, rfl⟩ := shape_of h
  exact ⟨p, c, rfl, owns_bytes h hs (by unfold maxLen; omega)⟩

set_option maxRecDepth 100000 in
theorem begun_any (w : World) : Calls Try.prog 6 #[] w fun e w' => e = .returned (.bool true) ∧ Below w.heap.size w w' := by
  go_enter Try.func6, Try.ntmps6
  go_wp2_with fail
  refine (putHead_any 3 1 true w (by decide)).mono ?_
  rintro z w1 ⟨v1, rfl, ho1, hb1⟩
  obtain ⟨p1, c1, rfl, hy1⟩ := row_bytes ho1 (putHd_small _) (by have := putHd_length ⟨3, 1, true⟩; omega)
  have HY1 := Lib.hid hy1; have HB1 := Lib.hid hb1
  clear ho1 hy1 hb1
  go_wp2_with fail
  refine (takeHead_any _ _ w1 HY1.out).mono ?_
  rintro z w2 ⟨rfl, hb2⟩
  rw [hdV_yes (takeHd_put (by decide) (by decide))]
  dsimp only
  obtain ⟨W2, hW2⟩ : ∃ W, W = w2.alloc (.cells #[.int .i64 3, .int .i64 1, .bool true] 23) := ⟨_, rfl⟩
  have hb22 : Below w2.heap.size w2 W2 := by rw [hW2]; exact (Below.refl _ _).alloc (Nat.le_refl _) _
  have HE2 : Hid (BlkAt W2 w2.heap.size #[.int .i64 3, .int .i64 1, .bool true] 23) := by unfold Hid; rw [hW2]; exact BlkAt.new ..
  have hb02 := HB1.out.trans (hb2.mono HB1.out.size)
  have HB2 : Hid (Below w.heap.size w W2) := hb02.trans (hb22.mono hb02.size)
  have HW2 := Lib.hid hW2
  clear hb2 hb22 hb02 hW2 HB1 HY1
  go_wp2_with fail
  rw [← HW2.out]
  clear HW2
  refine (putDone_any 2 1 false W2 (by decide)).mono ?_
  rintro z w3 ⟨v3, rfl, ho3, hb3⟩
  obtain ⟨p3, c3, rfl, hy3⟩ := row_bytes ho3 (putDn_small _) (by have := putDn_length ⟨2, 1, false⟩; omega)
  have HY3 := Lib.hid hy3
  have HB3 : Hid (Below w.heap.size w w3) := HB2.out.trans (hb3.mono HB2.out.size)
  have HE3 := Lib.hid (HE2.out.below hb3)
  clear ho3 hy3 hb3 HB2 HE2
  go_wp2_with fail
  refine (takeDone_any _ _ w3 HY3.out).mono ?_
  rintro z w4 ⟨rfl, hb4⟩
  rw [dnV_yes (takeDn_put (by decide) (by decide))]
  dsimp only
  obtain ⟨W4, hW4⟩ : ∃ W, W = w4.alloc (.cells #[.int .i64 2, .int .i64 1, .bool false] 25) := ⟨_, rfl⟩
  have hb44 : Below w4.heap.size w4 W4 := by rw [hW4]; exact (Below.refl _ _).alloc (Nat.le_refl _) _
  have HD4 : Hid (BlkAt W4 w4.heap.size #[.int .i64 2, .int .i64 1, .bool false] 25) := by unfold Hid; rw [hW4]; exact BlkAt.new ..
  have hb34 := hb4.trans (hb44.mono hb4.size)
  have HB4 : Hid (Below w.heap.size w W4) := HB3.out.trans (hb34.mono HB3.out.size)
  have HE4 := Lib.hid (HE3.out.below hb34)
  obtain ⟨W5, hW5⟩ : ∃ W, W = W4.alloc (.cells #[.int .u8 120] 5 (1, 2)) := ⟨_, rfl⟩
  have hb45 : Below W4.heap.size W4 W5 := by rw [hW5]; exact (Below.refl _ _).alloc (Nat.le_refl _) _
  have HL5 : Hid (Bytes W5 (.slice (some ⟨W4.heap.size, 0, none⟩) [120].length 1) [120]) := by unfold Hid; rw [hW5]; exact Bytes.lit [120] rfl rfl (by decide) (by decide)
  have HB5 : Hid (Below w.heap.size w W5) := HB4.out.trans (hb45.mono HB4.out.size)
  have HE5 := Lib.hid (HE4.out.below hb45); have HD5 := Lib.hid (HD4.out.below hb45)
  have HZ5 : Hid (W4.heap.size = w4.heap.size + 1) := by unfold Hid; rw [hW4]; exact World.size_alloc ..
  have HW4 := Lib.hid hW4; have HW5 := Lib.hid hW5
  clear hb4 hb44 hb34 hb45 hW4 hW5 HB3 HE3 HY3 HB4 HE4 HD4
  have hcv := Go.Joins.run_convert_bytes_const_at (P := Try.prog) (w4.alloc (.cells #[.int .i64 2, .int .i64 1, .bool false] 25)) 26 5 #[.int .u8 120] 1 1 (w4.heap.size + 1) (World.size_alloc ..).symm byT.slice byT.elem
  go_wp2_with fail
  clear hcv
  rw [← HW4.out, ← HZ5.out]
  rw [← HW5.out]
  clear HW4 HW5
  refine (putMark_any 1 (some ⟨W4.heap.size, 0, none⟩) 1 [120] W5 HL5.out (by decide)).mono ?_
  rintro z w6 ⟨v6, rfl, ho6, hb6⟩
  obtain ⟨p6, c6, rfl, hy6⟩ := row_bytes ho6 (putMk_small (by decide)) (putMk_length _)
  have HY6 := Lib.hid hy6
  have HB6 : Hid (Below w.heap.size w w6) := HB5.out.trans (hb6.mono HB5.out.size)
  have HE6 := Lib.hid (HE5.out.below hb6); have HD6 := Lib.hid (HD5.out.below hb6)
  clear ho6 hy6 hb6 HB5 HE5 HD5 HL5 HZ5
  go_wp2_with fail
  refine (takeMark_any _ _ w6 HY6.out).mono ?_
  rintro z w7 ⟨⟨u, rfl, hu⟩, hb7⟩
  obtain ⟨e1, e2⟩ := mk_yes (takeMk_put (m := ⟨1, [120]⟩) (by decide) (by decide))
  rw [e1] at hu
  rw [e1, e2]
  dsimp only at hu ⊢
  obtain ⟨pu, cu, rfl, _⟩ := hu.any
  rw [show ([120] : List Nat).length = 1 from rfl] at hu ⊢
  obtain ⟨W7, hW7⟩ : ∃ W, W = w7.alloc (.cells #[.int .i64 1, .slice pu 1 cu] 28) := ⟨_, rfl⟩
  have hb77 : Below w7.heap.size w7 W7 := by rw [hW7]; exact (Below.refl _ _).alloc (Nat.le_refl _) _
  have HM7 : Hid (BlkAt W7 w7.heap.size #[.int .i64 1, .slice pu 1 cu] 28) := by unfold Hid; rw [hW7]; exact BlkAt.new ..
  have hb67 := hb7.trans (hb77.mono hb7.size)
  have HB7 : Hid (Below w.heap.size w W7) := HB6.out.trans (hb67.mono HB6.out.size)
  have HE7 := Lib.hid (HE6.out.below hb67); have HD7 := Lib.hid (HD6.out.below hb67)
  have HU7 := Lib.hid (hu.below hb77)
  have HW7 := Lib.hid hW7
  clear hb7 hb77 hb67 hW7 hu HY6 HB6 HE6 HD6 e1 e2
  go_wp2_with fail
  rw [← HW7.out]
  clear HW7
  refine (putOff_any 9 W7 (by decide)).mono ?_
  rintro z w8 ⟨v8, rfl, ho8, hb8⟩
  obtain ⟨p8, c8, rfl, hy8⟩ := row_bytes ho8 (putOf_small _) (by have := putOf_length 9; omega)
  have HY8 := Lib.hid hy8
  have HB8 : Hid (Below w.heap.size w w8) := HB7.out.trans (hb8.mono HB7.out.size)
  have HE8 := Lib.hid (HE7.out.below hb8); have HD8 := Lib.hid (HD7.out.below hb8); have HM8 := Lib.hid (HM7.out.below hb8); have HU8 := Lib.hid (HU7.out.below hb8)
  clear ho8 hy8 hb8 HB7 HE7 HD7 HM7 HU7
  go_wp2_with fail
  refine (takeOff_any _ _ w8 HY8.out).mono ?_
  rintro z w9 ⟨rfl, hb9⟩
  rw [ofV_yes (takeOf_put (n := 9) (by decide) (by decide))]
  have HB9 : Hid (Below w.heap.size w w9) := HB8.out.trans (hb9.mono HB8.out.size)
  have HE9 := Lib.hid (HE8.out.below hb9); have HD9 := Lib.hid (HD8.out.below hb9); have HM9 := Lib.hid (HM8.out.below hb9); have HU9 := Lib.hid (HU8.out.below hb9)
  clear hb9 HB8 HE8 HD8 HM8 HU8 HY8
  go_wp2_with fail
  refine (takeOff_any _ [] w9 (Bytes.nil _)).mono ?_
  rintro z w10 ⟨rfl, hb10⟩
  rw [ofV_no (by decide)]
  have HB10 : Hid (Below w.heap.size w w10) := HB9.out.trans (hb10.mono HB9.out.size)
  obtain ⟨c0, c1', c2⟩ := (HE9.out.below hb10).three
  obtain ⟨d0, d1, d2⟩ := (HD9.out.below hb10).three
  obtain ⟨m0, m1⟩ := (HM9.out.below hb10).two
  have hct := (HU9.out.below hb10).toString (P := Try.prog) byT (d := 9) (by kernel_rfl)
  rw [show strOf [120] = ⟨#[120]⟩ from rfl] at hct
  clear hb10 HB9 HE9 HD9 HM9 HU9
  go_wp2
  go_ret
  exact ⟨rfl, HB10.out⟩
end Go.Proofs.Ytoegkdfeonkgkaa

