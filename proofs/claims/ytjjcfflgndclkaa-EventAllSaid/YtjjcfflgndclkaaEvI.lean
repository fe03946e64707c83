/- Events in a program: what the laws say of it; it has begun. -/
import Derived.Test.YtjjcfflgndclkaaEvH
import Derived.Test.YtjjcfflgndclkaaLaw
import Derived.Lib.SlBytesConst
namespace Go.Proofs.Ytjjcfflgndclkaa
open Go Go.RowKit Go.By

theorem natsOf_lits (s : ByteArray) : natsOf s = s.data.toList.map UInt8.toNat := by
  unfold natsOf
  rw [Lib.toList_data]
/-- A block that holds this event. -/
def EvAt (w : World) (g : Nat) (q r : Int) (s t : ByteArray) (v : Value) : Prop := w.heap[g]? = some (.cells #[.int .i64 q, .string s, .int .i64 r, .string t, v] 24 (0, 0))
theorem EvAt.lt {w : World} {g : Nat} {q r : Int} {s t : ByteArray} {v : Value} (h : EvAt w g q r s t v) : g < w.heap.size := (Array.getElem?_eq_some_iff.1 h).1
theorem EvAt.below {w w' : World} {g : Nat} {q r : Int} {s t : ByteArray} {v : Value} (h : EvAt w g q r s t v) (hb : Below w.heap.size w w') : EvAt w' g q r s t v := (hb.block _ h.lt).trans h
theorem EvAt.cells {w : World} {g : Nat} {q r : Int} {s t : ByteArray} {v : Value} (h : EvAt w g q r s t v) : w.cell? ⟨g, 0, none⟩ = some (.int .i64 q) ∧ w.cell? ⟨g, 1, none⟩ = some (.string s) ∧ w.cell? ⟨g, 2, none⟩ = some (.int .i64 r) ∧ w.cell? ⟨g, 3, none⟩ = some (.string t) ∧ w.cell? ⟨g, 4, none⟩ = some v :=
  ⟨cells_of h 0, cells_of h 1, cells_of h 2, cells_of h 3, cells_of h 4⟩
theorem EvAt.new (w : World) (q r : Int) (s t : ByteArray) (v : Value) : EvAt (w.alloc (.cells #[.int .i64 q, .string s, .int .i64 r, .string t, v] 24)) w.heap.size q r s t v := heap_alloc_new w _

/-- What was put is taken. -/
theorem tells_put {w w' : World} {e : Ev} {z : Ending} (hf : EvFine e) (hm : mayEv e = true) (h : Tells w (evOf e) z w') :
    ∃ q r s t p c, z = .returned (.tuple #[.agg #[.int .i64 q, .string s, .int .i64 r, .string t, .slice p e.da.length c], .int .i64 0]) ∧ IsEv w' (evVal q r s t (.slice p e.da.length c)) e q r s t (.slice p e.da.length c) ∧ Below w.heap.size w w' := by
  obtain ⟨h1, hb⟩ := h
  rcases h1 with ⟨h1, _⟩ | ⟨ev, x, q, r, s, t, u, h1, rfl, hi⟩
  · rw [takeEv_put hf hm] at h1; cases h1
  · rw [takeEv_put hf hm] at h1
    obtain rfl := Option.some.inj h1
    obtain ⟨p, c, rfl, _⟩ := hi.da.any
    have hx := hi.val
    subst hx
    exact ⟨q, r, s, t, p, c, rfl, hi, hb⟩
theorem tells_none {w w' : World} {l : List Nat} {z : Ending} (hn : takeEv l = none) (h : Tells w l z w') :
    z = .returned (.tuple #[.agg #[.int .i64 0, .string ⟨#[]⟩, .int .i64 0, .string ⟨#[]⟩, .slice none 0 0], .int .i64 2]) ∧ Below w.heap.size w w' := by
  obtain ⟨h1, hb⟩ := h
  rcases h1 with ⟨_, rfl⟩ | ⟨ev, x, q, r, s, t, u, h1, _⟩
  · exact ⟨rfl, hb⟩
  · rw [hn] at h1; cases h1
/-- No event. -/
def ev0 : Ev := ⟨0, 0, [], [], []⟩
theorem isEv_zero (w : World) : IsEv w (evVal 0 0 ⟨#[]⟩ ⟨#[]⟩ (.slice none 0 0)) ev0 0 0 ⟨#[]⟩ ⟨#[]⟩ (.slice none 0 0) :=
  ⟨rfl, by show ev0 = ⟨0, 0, natsOf ⟨#[]⟩, natsOf ⟨#[]⟩, []⟩; rw [natsOf_lits]; rfl, Bytes.nil w, by decide, by decide, by decide, by decide⟩
theorem mayEv_zero : mayEv ev0 = false := by decide
def ev1 : Ev := ⟨1, 2, [97], [98], [99]⟩
theorem mayEv_one : mayEv ev1 = true := by decide
theorem fine_one : EvFine ev1 := ⟨by decide, by decide, by decide, by decide, by decide⟩

set_option maxRecDepth 100000 in
theorem begun_any (w : World) : Calls Try.prog 6 #[] w fun e w' => e = .returned (.bool true) ∧ Below w.heap.size w w' := by
  obtain ⟨W, hW⟩ : ∃ W, W = (w.alloc (.cells #[.int .u8 99] 5 (1, 2))).alloc (.cells #[.int .i64 1, .string ⟨#[97]⟩, .int .i64 2, .string ⟨#[98]⟩, .slice (some ⟨w.heap.size, 0, none⟩) 1 1] 24) := ⟨_, rfl⟩
  have hB : Below w.heap.size w W := by rw [hW]; exact ((Below.refl _ _).alloc (Nat.le_refl _) _).alloc (by simp) _
  have hI : IsEv W (evVal 1 2 ⟨#[97]⟩ ⟨#[98]⟩ (.slice (some ⟨w.heap.size, 0, none⟩) 1 1)) ev1 1 2 ⟨#[97]⟩ ⟨#[98]⟩ (.slice (some ⟨w.heap.size, 0, none⟩) 1 1) := by
    refine ⟨rfl, by show ev1 = ⟨1, 2, natsOf ⟨#[97]⟩, natsOf ⟨#[98]⟩, [99]⟩; rw [natsOf_lits, natsOf_lits]; rfl, ?_, by decide, by decide, by decide, by decide⟩
    rw [hW]
    exact Bytes.below (w := w.alloc (.cells #[.int .u8 99] 5 (1, 2))) (Bytes.lit [99] rfl rfl (by decide) (by decide)) ((Below.refl _ _).alloc (Nat.le_refl _) _)
  have hE : EvAt W (w.heap.size + 1) 1 2 ⟨#[97]⟩ ⟨#[98]⟩ (.slice (some ⟨w.heap.size, 0, none⟩) 1 1) := by
    rw [hW]
    have := EvAt.new (w.alloc (.cells #[.int .u8 99] 5 (1, 2))) 1 2 ⟨#[97]⟩ ⟨#[98]⟩ (.slice (some ⟨w.heap.size, 0, none⟩) 1 1)
    rw [World.size_alloc] at this
    exact this
  have HW := Lib.hid hW; have HB := Lib.hid hB; have HI := Lib.hid hI; have HE := Lib.hid hE
  clear hW hB hI hE
  have hcv := fun (w : World) (C : Array Value) (n c : Nat) => Lib.run_convert_bytes_const (P := Try.prog) w 22 5 C n c byT.slice byT.elem
  go_enter Try.func6, Try.ntmps6
  go_wp2_with fail
  rw [← HW.out]
  clear HW hcv
  refine (put_any HI.out).mono ?_
  rintro z w2 ⟨v2, rfl, ho2, hb2⟩
  have e2 : putEv ev1 = evOf ev1 := by decide
  rw [e2] at ho2
  obtain ⟨p2, c2, rfl⟩ := ho2.shape
  have HO2 := Lib.hid (ho2.bytes (evOf_small fine_one mayEv_one))
  rw [show (evOf ev1).length = 22 from by decide] at HO2 ⊢
  have HB2 : Hid (Below w.heap.size w w2) := HB.out.trans (hb2.mono HB.out.size)
  have HI2 := Lib.hid (HI.out.below hb2); have HE2 := Lib.hid (HE.out.below hb2)
  clear hb2 ho2 e2 HB HI HE
  go_wp2_with fail
  refine (take_any _ _ w2 HO2.out).mono ?_
  intro z w3 ht
  obtain ⟨q, r, s, t, p, c, rfl, hi3, hb3⟩ := tells_put fine_one mayEv_one ht
  rw [show ev1.da.length = 1 from rfl] at hi3 ⊢
  have HB3 : Hid (Below w.heap.size w w3) := HB2.out.trans (hb3.mono HB2.out.size)
  obtain ⟨W3, hW3⟩ : ∃ W, W = w3.alloc (.cells #[.int .i64 q, .string s, .int .i64 r, .string t, .slice p 1 c] 24) := ⟨_, rfl⟩
  have hb33 : Below w3.heap.size w3 W3 := by rw [hW3]; exact (Below.refl _ _).alloc (Nat.le_refl _) _
  have HN3 : Hid (EvAt W3 w3.heap.size q r s t (.slice p 1 c)) := by unfold Hid; rw [hW3]; exact EvAt.new ..
  have HI3 := Lib.hid (hi3.below hb33); have HE3 := Lib.hid ((HE2.out.below hb3).below hb33); have HJ3 := Lib.hid ((HI2.out.below hb3).below hb33)
  have HC3 : Hid (Below w.heap.size w W3) := HB3.out.trans (hb33.mono HB3.out.size)
  have HW3 := Lib.hid hW3
  clear hi3 hb3 hb33 hW3 ht HE2 HI2 HB2 HB3
  go_wp2_with fail
  rw [← HW3.out]
  clear HW3
  refine (take_any _ [] W3 (Bytes.nil _)).mono ?_
  intro z w4 ht
  obtain ⟨rfl, hb4⟩ := tells_none (by decide) ht
  obtain ⟨W4, hW4⟩ : ∃ W, W = w4.alloc (.cells #[.int .i64 0, .string ⟨#[]⟩, .int .i64 0, .string ⟨#[]⟩, .slice none 0 0] 24) := ⟨_, rfl⟩
  have hb44 : Below w4.heap.size w4 W4 := by rw [hW4]; exact (Below.refl _ _).alloc (Nat.le_refl _) _
  have hb34 : Below W3.heap.size W3 W4 := hb4.trans (hb44.mono hb4.size)
  have HI4 := Lib.hid (HI3.out.below hb34); have HE4 := Lib.hid (HE3.out.below hb34); have HJ4 := Lib.hid (HJ3.out.below hb34); have HN4 := Lib.hid (HN3.out.below hb34)
  have HB4 : Hid (Below w.heap.size w W4) := HC3.out.trans (hb34.mono HC3.out.size)
  subst hW4
  clear ht hb4 hb44 hb34 HI3 HE3 HJ3 HN3 HC3
  obtain ⟨c0, c1, c2', c3, c4⟩ := HE4.out.cells
  obtain ⟨d0, d1, d2, d3, d4⟩ := HN4.out.cells
  go_wp2_with fail
  refine (same_any HI4.out HJ4.out).mono ?_
  rintro z w5 ⟨rfl, hb5⟩
  rw [show decide (ev1 = ev1) = true from by decide]
  have HI5 := Lib.hid (HI4.out.below hb5); have HE5 := Lib.hid (HE4.out.below hb5); have HJ5 := Lib.hid (HJ4.out.below hb5); have HN5 := Lib.hid (HN4.out.below hb5)
  have HB5 : Hid (Below w.heap.size w w5) := HB4.out.trans (hb5.mono HB4.out.size)
  clear c0 c1 c2' c3 c4 d0 d1 d2 d3 d4 hb5 HI4 HE4 HJ4 HN4 HB4
  obtain ⟨d0, d1, d2, d3, d4⟩ := HN5.out.cells
  go_wp2_with fail
  refine (same_any HI5.out (isEv_zero _)).mono ?_
  rintro z w6 ⟨rfl, hb6⟩
  rw [show decide (ev1 = ev0) = false from by decide]
  have HE6 := Lib.hid (HE5.out.below hb6); have HJ6 := Lib.hid (HJ5.out.below hb6)
  have HB6 : Hid (Below w.heap.size w w6) := HB5.out.trans (hb6.mono HB5.out.size)
  clear d0 d1 d2 d3 d4 hb6 HI5 HE5 HJ5 HN5 HB5
  obtain ⟨c0, c1, c2', c3, c4⟩ := HE6.out.cells
  go_wp2_with fail
  refine (may_any HJ6.out).mono ?_
  rintro z w7 ⟨rfl, hb7⟩
  rw [mayEv_one]
  have HB7 : Hid (Below w.heap.size w w7) := HB6.out.trans (hb7.mono HB6.out.size)
  clear c0 c1 c2' c3 c4 hb7 HE6 HJ6 HB6
  go_wp2_with fail
  refine (may_any (isEv_zero _)).mono ?_
  rintro z w8 ⟨rfl, hb8⟩
  rw [mayEv_zero]
  have HB8 : Hid (Below w.heap.size w w8) := HB7.out.trans (hb8.mono HB7.out.size)
  clear hb8
  go_wp2
  go_ret
  exact ⟨rfl, HB8.out⟩
end Go.Proofs.Ytjjcfflgndclkaa

