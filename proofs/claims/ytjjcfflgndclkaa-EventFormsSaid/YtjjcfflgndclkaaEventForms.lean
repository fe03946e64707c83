/- The law EventForms: every call of it returns true, and all that was there before the call is as it was. No condition. -/
import Derived.Test.YtjjcfflgndclkaaRows
import Derived.Test.YtjjcfflgndclkaaEvI
import Derived.Test.YtjjcfflgndclkaaReg
namespace Go.Proofs.Ytjjcfflgndclkaa
open Go Go.ChangeShapes Go.WideShapes Go.ChangeAt Go.RowKit Go.By

/-- The bytes that are no event. -/
def badOf : Nat → ByteArray
  | 0 => ⟨#[]⟩
  | 1 => ⟨#[0, 0, 0, 0, 0, 0, 0, 1, 0, 0, 0, 0, 0, 0, 0, 2]⟩
  | 2 => ⟨#[0, 0, 0, 0, 0, 0, 0, 1, 0, 0, 0, 0, 0, 0, 0, 2, 1, 97, 2, 98, 99, 3, 120, 121, 122, 0]⟩
  | 3 => ⟨#[128, 0, 0, 0, 0, 0, 0, 1, 0, 0, 0, 0, 0, 0, 0, 2, 1, 97, 2, 98, 99, 3, 120, 121, 122]⟩
  | 4 => ⟨#[0, 0, 0, 0, 0, 0, 0, 1, 255, 0, 0, 0, 0, 0, 0, 2, 1, 97, 2, 98, 99, 3, 120, 121, 122]⟩
  | 5 => ⟨#[0, 0, 0, 0, 0, 0, 0, 1, 0, 0, 0, 0, 0, 0, 0, 2, 0, 2, 98, 99, 0]⟩
  | 6 => ⟨#[0, 0, 0, 0, 0, 0, 0, 1, 0, 0, 0, 0, 0, 0, 0, 2, 1, 32, 2, 98, 99, 0]⟩
  | 7 => ⟨#[0, 0, 0, 0, 0, 0, 0, 1, 0, 0, 0, 0, 0, 0, 0, 2, 1, 97, 0, 0]⟩
  | _ => ⟨#[0, 0, 0, 0, 0, 0, 0, 1, 0, 0, 0, 0, 0, 0, 0, 2, 1, 97, 2, 98, 99, 4, 120, 121, 122]⟩
theorem bad_cell {j : Nat} (hj : j < 9) : (#[.string ⟨#[]⟩, .string ⟨#[0, 0, 0, 0, 0, 0, 0, 1, 0, 0, 0, 0, 0, 0, 0, 2]⟩, .string ⟨#[0, 0, 0, 0, 0, 0, 0, 1, 0, 0, 0, 0, 0, 0, 0, 2, 1, 97, 2, 98, 99, 3, 120, 121, 122, 0]⟩, .string ⟨#[128, 0, 0, 0, 0, 0, 0, 1, 0, 0, 0, 0, 0, 0, 0, 2, 1, 97, 2, 98, 99, 3, 120, 121, 122]⟩, .string ⟨#[0, 0, 0, 0, 0, 0, 0, 1, 255, 0, 0, 0, 0, 0, 0, 2, 1, 97, 2, 98, 99, 3, 120, 121, 122]⟩, .string ⟨#[0, 0, 0, 0, 0, 0, 0, 1, 0, 0, 0, 0, 0, 0, 0, 2, 0, 2, 98, 99, 0]⟩, .string ⟨#[0, 0, 0, 0, 0, 0, 0, 1, 0, 0, 0, 0, 0, 0, 0, 2, 1, 32, 2, 98, 99, 0]⟩, .string ⟨#[0, 0, 0, 0, 0, 0, 0, 1, 0, 0, 0, 0, 0, 0, 0, 2, 1, 97, 0, 0]⟩, .string ⟨#[0, 0, 0, 0, 0, 0, 0, 1, 0, 0, 0, 0, 0, 0, 0, 2, 1, 97, 2, 98, 99, 4, 120, 121, 122]⟩] : Array Value)[j]? = some (.string (badOf j)) := by
  match j, hj with
  | 0, _ => rfl
  | 1, _ => rfl
  | 2, _ => rfl
  | 3, _ => rfl
  | 4, _ => rfl
  | 5, _ => rfl
  | 6, _ => rfl
  | 7, _ => rfl
  | 8, _ => rfl
theorem bad_no {j : Nat} (hj : j < 9) : takeEv (natsOf (badOf j)) = none := by
  match j, hj with
  | 0, _ => rw [natsOf_lits]; decide +kernel
  | 1, _ => rw [natsOf_lits]; decide +kernel
  | 2, _ => rw [natsOf_lits]; decide +kernel
  | 3, _ => rw [natsOf_lits]; decide +kernel
  | 4, _ => rw [natsOf_lits]; decide +kernel
  | 5, _ => rw [natsOf_lits]; decide +kernel
  | 6, _ => rw [natsOf_lits]; decide +kernel
  | 7, _ => rw [natsOf_lits]; decide +kernel
  | 8, _ => rw [natsOf_lits]; decide +kernel
theorem bad_size {j : Nat} (hj : j < 9) : (badOf j).size ≤ 100 := by
  match j, hj with
  | 0, _ => decide +kernel
  | 1, _ => decide +kernel
  | 2, _ => decide +kernel
  | 3, _ => decide +kernel
  | 4, _ => decide +kernel
  | 5, _ => decide +kernel
  | 6, _ => decide +kernel
  | 7, _ => decide +kernel
  | 8, _ => decide +kernel

def BadRow (v : Value) (w : World) : Prop := ∃ g, v = .slice (some ⟨g, 0, none⟩) 9 9 ∧ ∀ j, j < 9 → w.cell? ⟨g, j, none⟩ = some (.string (badOf j))
theorem BadRow.lasts (v : Value) (w w' : World) (h : BadRow v w) (hb : Below w.heap.size w w') : BadRow v w' := by
  obtain ⟨g, rfl, hc⟩ := h
  exact ⟨g, rfl, fun j hj => (hb.cell (p := ⟨g, j, none⟩) (block_lt_of_cell (hc j hj))).trans (hc j hj)⟩
/-- The event of the forms, with such data. -/
def evF (l : List Nat) : Ev := ⟨1, 2, [97], [98, 99], l⟩
theorem fineF {l : List Nat} (h : ∀ c ∈ l, c < 256) : EvFine (evF l) := ⟨by show (1 : Int) ≤ _; omega, by show (2 : Int) ≤ _; omega, by show ∀ c ∈ [97], c < 256; decide, by show ∀ c ∈ [98, 99], c < 256; decide, h⟩
def goodL : List Nat := evOf (evF [120, 121, 122])
theorem good_nats : natsOf ⟨#[0, 0, 0, 0, 0, 0, 0, 1, 0, 0, 0, 0, 0, 0, 0, 2, 1, 97, 2, 98, 99, 3, 120, 121, 122]⟩ = goodL := by rw [natsOf_lits]; decide +kernel
theorem may_good : mayEv (evF [120, 121, 122]) = true := by decide
theorem isEv_lit {w : World} {l : List Nat} {v : Value} (h : Bytes w v l) : IsEv w (evVal 1 2 ⟨#[97]⟩ ⟨#[98, 99]⟩ v) (evF l) 1 2 ⟨#[97]⟩ ⟨#[98, 99]⟩ v :=
  ⟨rfl, by show evF l = ⟨1, 2, natsOf ⟨#[97]⟩, natsOf ⟨#[98, 99]⟩, l⟩; rw [natsOf_lits, natsOf_lits]; rfl, h, by decide, by decide, by decide, by decide⟩
theorem lits_of {w : World} {l : List Nat} {x : Value} {q r : Int} {s t : ByteArray} {v : Value} (h : IsEv w x (evF l) q r s t v) : q = 1 ∧ r = 2 ∧ s = ⟨#[97]⟩ ∧ t = ⟨#[98, 99]⟩ := by
  have he := h.ev
  unfold evF at he
  simp only [Ev.mk.injEq, and_true] at he
  obtain ⟨h1, h2, h3, h4⟩ := he
  refine ⟨h1.symm, h2.symm, ?_, ?_⟩
  · rw [← strOf_natsOf s, ← h3]; rfl
  · rw [← strOf_natsOf t, ← h4]; rfl
theorem zeros_bytes' (w : World) (n : Nat) (hn : n ≤ maxLen) : Bytes (w.alloc (.cells (zeros n) 5)) (.slice (some ⟨w.heap.size, 0, none⟩) n n) (List.replicate n 0) := zeros_bytes w n hn

set_option maxRecDepth 100000 in
set_option maxHeartbeats 8000000 in
theorem forms_any (w : World) : Calls Try.prog 5 #[] w fun e w' => e = .returned (.bool true) ∧ Below w.heap.size w w' := by
  go_enter Try.func5, Try.ntmps5
  go_wp2_with fail
  refine (begun_any w).mono ?_
  rintro e w1 ⟨rfl, hb1⟩
  have HB1 := Lib.hid hb1
  clear hb1
  have hcv := fun (w : World) => Lib.run_convert_string_bytes (P := Try.prog) w 9 22 5 ⟨#[0, 0, 0, 0, 0, 0, 0, 1, 0, 0, 0, 0, 0, 0, 0, 2, 1, 97, 2, 98, 99, 3, 120, 121, 122]⟩ (u := .string) (by kernel_rfl) byT.slice byT.elem
  have HCV := Lib.hid (fun w => OwnM.conv w 5 ⟨#[0, 0, 0, 0, 0, 0, 0, 1, 0, 0, 0, 0, 0, 0, 0, 2, 1, 97, 2, 98, 99, 3, 120, 121, 122]⟩ (by decide))
  go_wp2_with fail
  clear hcv
  refine (take_any _ goodL _ (by rw [← good_nats]; exact (HCV.out w1).1.bytes (natsOf_small _))).mono ?_
  intro z w2 ht2
  have hfg : EvFine (evF [120, 121, 122]) := fineF (by decide)
  obtain ⟨q, r, s, t, p, c, rfl, hi2, hb2⟩ := tells_put hfg may_good ht2
  obtain ⟨rfl, rfl, rfl, rfl⟩ := lits_of hi2
  rw [show (evF [120, 121, 122]).da.length = 3 from rfl] at hi2 ⊢
  have hb12 : Below w1.heap.size w1 w2 := (HCV.out w1).2.trans (hb2.mono (HCV.out w1).2.size)
  have hb22 : Below w2.heap.size w2 (w2.alloc (.cells #[.int .i64 1, .string ⟨#[97]⟩, .int .i64 2, .string ⟨#[98, 99]⟩, .slice p 3 c] 24)) := (Below.refl _ _).alloc (Nat.le_refl _) _
  have HE2 := Lib.hid (EvAt.new w2 1 2 ⟨#[97]⟩ ⟨#[98, 99]⟩ (.slice p 3 c))
  have HI2 := Lib.hid (hi2.below hb22)
  have HB2 : Hid (Below w.heap.size w (w2.alloc (.cells #[.int .i64 1, .string ⟨#[97]⟩, .int .i64 2, .string ⟨#[98, 99]⟩, .slice p 3 c] 24))) := HB1.out.trans ((hb12.trans (hb22.mono hb12.size)).mono HB1.out.size)
  have hc1 := HI2.out.da.toString (P := Try.prog) byT (d := 9) (by kernel_rfl)
  rw [show strOf (evF [120, 121, 122]).da = ⟨#[120, 121, 122]⟩ from rfl] at hc1
  obtain ⟨GE, hGE⟩ : ∃ G, G = w2.heap.size := ⟨_, rfl⟩
  rw [← hGE] at HE2
  obtain ⟨c0, c1, c2, c3, c4⟩ := HE2.out.cells
  rw [hGE] at c0 c1 c2 c3 c4
  have HGE := Lib.hid hGE
  have HBG : Hid (w.heap.size ≤ GE) := by
    unfold Hid
    rw [hGE]
    exact Nat.le_trans HB1.out.size hb12.size
  clear ht2 hb2 hb12 hb22 hi2 HB1 HCV hGE
  go_wp2_with fail
  refine (put_any HI2.out).mono ?_
  rintro z w3 ⟨v3, rfl, ho3, hb3⟩
  rw [show putEv (evF [120, 121, 122]) = goodL by decide +kernel] at ho3
  have hy3 := ho3.bytes (evOf_small hfg may_good)
  have hc3 := hy3.toString (P := Try.prog) byT (d := 9) (by kernel_rfl)
  rw [← good_nats, strOf_natsOf] at hc3
  obtain ⟨p3, c3', rfl⟩ := ho3.shape
  rw [show goodL.length = 25 by decide +kernel] at hc3 ⊢
  have HI3 := Lib.hid (HI2.out.below hb3); have HE3 := Lib.hid (HE2.out.below hb3)
  have HB3 : Hid (Below w.heap.size w w3) := HB2.out.trans (hb3.mono HB2.out.size)
  rw [← HGE.out]
  clear hy3 ho3 hb3 HI2 HE2 HB2 c0 c1 c2 c3 c4 hc1
  go_wp2_with fail
  clear hc3
  rename_i Kc hKc
  refine wp_region_left (by kernel_rfl)
    [.is (.string ⟨#[0, 0, 0, 0, 0, 0, 0, 1, 0, 0, 0, 0, 0, 0, 0, 2, 1, 97, 2, 98, 99, 3, 120, 121, 122]⟩),
     .is (.string ⟨#[0, 0, 0, 0, 0, 0, 0, 1, 0, 0, 0, 0, 0, 0, 0, 2]⟩),
     .is (.string ⟨#[0, 0, 0, 0, 0, 0, 0, 1, 0, 0, 0, 0, 0, 0, 0, 2, 1, 97, 2, 98, 99, 3, 120, 121, 122]⟩),
     .is (.string ⟨#[0, 0, 0, 0, 0, 0, 0, 1, 0, 0, 0, 0, 0, 0, 0, 2, 1, 97, 2, 98, 99, 3, 120, 121, 122, 0]⟩),
     .is (.string ⟨#[0, 0, 0, 0, 0, 0, 0, 1, 0, 0, 0, 0, 0, 0, 0, 2, 1, 97, 2, 98, 99, 3, 120, 121, 122]⟩),
     .is (.string ⟨#[0, 0, 0, 0, 0, 0, 1, 0, 0, 0, 0, 0, 0, 0, 2, 1, 97, 2, 98, 99, 3, 120, 121, 122]⟩),
     .is (.string ⟨#[128, 0, 0, 0, 0, 0, 0, 1, 0, 0, 0, 0, 0, 0, 0, 2, 1, 97, 2, 98, 99, 3, 120, 121, 122]⟩),
     .is (.string ⟨#[0, 0, 0, 0, 0, 0, 0, 1, 0, 0, 0, 0, 0, 0, 0, 2, 1, 97, 2, 98, 99, 3, 120, 121, 122]⟩),
     .is (.string ⟨#[0, 0, 0, 0, 0, 0, 0, 1]⟩),
     .is (.string ⟨#[0, 0, 0, 0, 0, 0, 0, 1, 255]⟩),
     .is (.string ⟨#[0, 0, 0, 0, 0, 0, 0, 1, 0, 0, 0, 0, 0, 0, 0, 2, 1, 97, 2, 98, 99, 3, 120, 121, 122]⟩),
     .is (.string ⟨#[0, 0, 0, 0, 0, 0, 2, 1, 97, 2, 98, 99, 3, 120, 121, 122]⟩),
     .is (.string ⟨#[0, 0, 0, 0, 0, 0, 0, 1, 255, 0, 0, 0, 0, 0, 0, 2, 1, 97, 2, 98, 99, 3, 120, 121, 122]⟩),
     .is (.string ⟨#[0, 0, 0, 0, 0, 0, 0, 1, 0, 0, 0, 0, 0, 0, 0, 2, 1, 97, 2, 98, 99, 3, 120, 121, 122]⟩),
     .is (.string ⟨#[0, 0, 0, 0, 0, 0, 0, 1, 0, 0, 0, 0, 0, 0, 0, 2]⟩),
     .is (.string ⟨#[0, 0, 0, 0, 0, 0, 0, 1, 0, 0, 0, 0, 0, 0, 0, 2, 0, 2, 98, 99, 0]⟩),
     .is (.string ⟨#[0, 0, 0, 0, 0, 0, 0, 1, 0, 0, 0, 0, 0, 0, 0, 2, 1, 97, 2, 98, 99, 3, 120, 121, 122]⟩),
     .is (.string ⟨#[0, 0, 0, 0, 0, 0, 0, 1, 0, 0, 0, 0, 0, 0, 0, 2]⟩),
     .is (.string ⟨#[0, 0, 0, 0, 0, 0, 0, 1, 0, 0, 0, 0, 0, 0, 0, 2, 1, 32, 2, 98, 99, 0]⟩),
     .is (.string ⟨#[0, 0, 0, 0, 0, 0, 0, 1, 0, 0, 0, 0, 0, 0, 0, 2, 1, 97, 2, 98, 99, 3, 120, 121, 122]⟩),
     .is (.string ⟨#[0, 0, 0, 0, 0, 0, 0, 1, 0, 0, 0, 0, 0, 0, 0, 2]⟩),
     .is (.string ⟨#[0, 0, 0, 0, 0, 0, 0, 1, 0, 0, 0, 0, 0, 0, 0, 2, 1, 97, 0, 0]⟩),
     .is (.string ⟨#[0, 0, 0, 0, 0, 0, 0, 1, 0, 0, 0, 0, 0, 0, 0, 2, 1, 97, 2, 98, 99, 3, 120, 121, 122]⟩),
     .is (.string ⟨#[0, 0, 0, 0, 0, 0, 0, 1, 0, 0, 0, 0, 0, 0, 0, 2, 1, 97, 2, 98, 99]⟩),
     .is (.string ⟨#[0, 0, 0, 0, 0, 0, 0, 1, 0, 0, 0, 0, 0, 0, 0, 2, 1, 97, 2, 98, 99, 4, 120, 121, 122]⟩),
     .ex BadRow BadRow.lasts,
     .ex BadRow BadRow.lasts]
    [[], [0], [], [2], [], [4], [5], [], [7], [8], [], [10], [9, 11], [], [13], [14], [], [16], [17], [], [19], [20], [], [22], [23], [1, 3, 6, 12, 15, 18, 21, 24], [25]] (by kernel_rfl) (by rfl) ?_ ?_
  · refine LeftOps.cons ?_ (LeftOps.cons ?_ (LeftOps.cons ?_ (LeftOps.cons ?_ (LeftOps.cons ?_ (LeftOps.cons ?_ (LeftOps.cons ?_ (LeftOps.cons ?_ (LeftOps.cons ?_ (LeftOps.cons ?_ (LeftOps.cons ?_ (LeftOps.cons ?_ (LeftOps.cons ?_ (LeftOps.cons ?_ (LeftOps.cons ?_ (LeftOps.cons ?_ (LeftOps.cons ?_ (LeftOps.cons ?_ (LeftOps.cons ?_ (LeftOps.cons ?_ (LeftOps.cons ?_ (LeftOps.cons ?_ (LeftOps.cons ?_ (LeftOps.cons ?_ (LeftOps.cons ?_ (LeftOps.cons ?_ (LeftOps.cons ?_ (LeftOps.nil)))))))))))))))))))))))))))
    · intro wz hwz
      clear hKc
      refine withLeft_nil ?_
      refine lft_run rfl rfl ?_
      exact lft_move rfl (by first | rfl | assumption)
    · intro wz hwz
      clear hKc
      refine withLeft_is rfl rfl ?_
      refine withLeft_nil ?_
      simp only [Act.put, List.setIfInBounds_toArray, List.set_cons_zero, List.set_cons_succ]
      refine lft_run rfl rfl ?_
      exact lft_value (v := .string ⟨#[0, 0, 0, 0, 0, 0, 0, 1, 0, 0, 0, 0, 0, 0, 0, 2]⟩) (by kernel_rfl) rfl rfl
    · intro wz hwz
      clear hKc
      refine withLeft_nil ?_
      refine lft_run rfl rfl ?_
      exact lft_move rfl (by first | rfl | assumption)
    · intro wz hwz
      clear hKc
      refine withLeft_is rfl rfl ?_
      refine withLeft_nil ?_
      simp only [Act.put, List.setIfInBounds_toArray, List.set_cons_zero, List.set_cons_succ]
      refine lft_run rfl rfl ?_
      exact lft_value (v := .string ⟨#[0, 0, 0, 0, 0, 0, 0, 1, 0, 0, 0, 0, 0, 0, 0, 2, 1, 97, 2, 98, 99, 3, 120, 121, 122, 0]⟩) (by kernel_rfl) rfl rfl
    · intro wz hwz
      clear hKc
      refine withLeft_nil ?_
      refine lft_run rfl rfl ?_
      exact lft_move rfl (by first | rfl | assumption)
    · intro wz hwz
      clear hKc
      refine withLeft_is rfl rfl ?_
      refine withLeft_nil ?_
      simp only [Act.put, List.setIfInBounds_toArray, List.set_cons_zero, List.set_cons_succ]
      refine lft_run rfl rfl ?_
      exact lft_value (v := .string ⟨#[0, 0, 0, 0, 0, 0, 1, 0, 0, 0, 0, 0, 0, 0, 2, 1, 97, 2, 98, 99, 3, 120, 121, 122]⟩) (by kernel_rfl) rfl rfl
    · intro wz hwz
      clear hKc
      refine withLeft_is rfl rfl ?_
      refine withLeft_nil ?_
      simp only [Act.put, List.setIfInBounds_toArray, List.set_cons_zero, List.set_cons_succ]
      refine lft_run rfl rfl ?_
      exact lft_value (v := .string ⟨#[128, 0, 0, 0, 0, 0, 0, 1, 0, 0, 0, 0, 0, 0, 0, 2, 1, 97, 2, 98, 99, 3, 120, 121, 122]⟩) (by kernel_rfl) rfl rfl
    · intro wz hwz
      clear hKc
      refine withLeft_nil ?_
      refine lft_run rfl rfl ?_
      exact lft_move rfl (by first | rfl | assumption)
    · intro wz hwz
      clear hKc
      refine withLeft_is rfl rfl ?_
      refine withLeft_nil ?_
      simp only [Act.put, List.setIfInBounds_toArray, List.set_cons_zero, List.set_cons_succ]
      refine lft_run rfl rfl ?_
      exact lft_value (v := .string ⟨#[0, 0, 0, 0, 0, 0, 0, 1]⟩) (by kernel_rfl) rfl rfl
    · intro wz hwz
      clear hKc
      refine withLeft_is rfl rfl ?_
      refine withLeft_nil ?_
      simp only [Act.put, List.setIfInBounds_toArray, List.set_cons_zero, List.set_cons_succ]
      refine lft_run rfl rfl ?_
      exact lft_value (v := .string ⟨#[0, 0, 0, 0, 0, 0, 0, 1, 255]⟩) (by kernel_rfl) rfl rfl
    · intro wz hwz
      clear hKc
      refine withLeft_nil ?_
      refine lft_run rfl rfl ?_
      exact lft_move rfl (by first | rfl | assumption)
    · intro wz hwz
      clear hKc
      refine withLeft_is rfl rfl ?_
      refine withLeft_nil ?_
      simp only [Act.put, List.setIfInBounds_toArray, List.set_cons_zero, List.set_cons_succ]
      refine lft_run rfl rfl ?_
      exact lft_value (v := .string ⟨#[0, 0, 0, 0, 0, 0, 2, 1, 97, 2, 98, 99, 3, 120, 121, 122]⟩) (by kernel_rfl) rfl rfl
    · intro wz hwz
      clear hKc
      refine withLeft_is rfl rfl ?_
      refine withLeft_is rfl rfl ?_
      refine withLeft_nil ?_
      simp only [Act.put, List.setIfInBounds_toArray, List.set_cons_zero, List.set_cons_succ]
      refine lft_run rfl rfl ?_
      exact lft_value (v := .string ⟨#[0, 0, 0, 0, 0, 0, 0, 1, 255, 0, 0, 0, 0, 0, 0, 2, 1, 97, 2, 98, 99, 3, 120, 121, 122]⟩) (by kernel_rfl) rfl rfl
    · intro wz hwz
      clear hKc
      refine withLeft_nil ?_
      refine lft_run rfl rfl ?_
      exact lft_move rfl (by first | rfl | assumption)
    · intro wz hwz
      clear hKc
      refine withLeft_is rfl rfl ?_
      refine withLeft_nil ?_
      simp only [Act.put, List.setIfInBounds_toArray, List.set_cons_zero, List.set_cons_succ]
      refine lft_run rfl rfl ?_
      exact lft_value (v := .string ⟨#[0, 0, 0, 0, 0, 0, 0, 1, 0, 0, 0, 0, 0, 0, 0, 2]⟩) (by kernel_rfl) rfl rfl
    · intro wz hwz
      clear hKc
      refine withLeft_is rfl rfl ?_
      refine withLeft_nil ?_
      simp only [Act.put, List.setIfInBounds_toArray, List.set_cons_zero, List.set_cons_succ]
      refine lft_run rfl rfl ?_
      exact lft_value (v := .string ⟨#[0, 0, 0, 0, 0, 0, 0, 1, 0, 0, 0, 0, 0, 0, 0, 2, 0, 2, 98, 99, 0]⟩) (by kernel_rfl) rfl rfl
    · intro wz hwz
      clear hKc
      refine withLeft_nil ?_
      refine lft_run rfl rfl ?_
      exact lft_move rfl (by first | rfl | assumption)
    · intro wz hwz
      clear hKc
      refine withLeft_is rfl rfl ?_
      refine withLeft_nil ?_
      simp only [Act.put, List.setIfInBounds_toArray, List.set_cons_zero, List.set_cons_succ]
      refine lft_run rfl rfl ?_
      exact lft_value (v := .string ⟨#[0, 0, 0, 0, 0, 0, 0, 1, 0, 0, 0, 0, 0, 0, 0, 2]⟩) (by kernel_rfl) rfl rfl
    · intro wz hwz
      clear hKc
      refine withLeft_is rfl rfl ?_
      refine withLeft_nil ?_
      simp only [Act.put, List.setIfInBounds_toArray, List.set_cons_zero, List.set_cons_succ]
      refine lft_run rfl rfl ?_
      exact lft_value (v := .string ⟨#[0, 0, 0, 0, 0, 0, 0, 1, 0, 0, 0, 0, 0, 0, 0, 2, 1, 32, 2, 98, 99, 0]⟩) (by kernel_rfl) rfl rfl
    · intro wz hwz
      clear hKc
      refine withLeft_nil ?_
      refine lft_run rfl rfl ?_
      exact lft_move rfl (by first | rfl | assumption)
    · intro wz hwz
      clear hKc
      refine withLeft_is rfl rfl ?_
      refine withLeft_nil ?_
      simp only [Act.put, List.setIfInBounds_toArray, List.set_cons_zero, List.set_cons_succ]
      refine lft_run rfl rfl ?_
      exact lft_value (v := .string ⟨#[0, 0, 0, 0, 0, 0, 0, 1, 0, 0, 0, 0, 0, 0, 0, 2]⟩) (by kernel_rfl) rfl rfl
    · intro wz hwz
      clear hKc
      refine withLeft_is rfl rfl ?_
      refine withLeft_nil ?_
      simp only [Act.put, List.setIfInBounds_toArray, List.set_cons_zero, List.set_cons_succ]
      refine lft_run rfl rfl ?_
      exact lft_value (v := .string ⟨#[0, 0, 0, 0, 0, 0, 0, 1, 0, 0, 0, 0, 0, 0, 0, 2, 1, 97, 0, 0]⟩) (by kernel_rfl) rfl rfl
    · intro wz hwz
      clear hKc
      refine withLeft_nil ?_
      refine lft_run rfl rfl ?_
      exact lft_move rfl (by first | rfl | assumption)
    · intro wz hwz
      clear hKc
      refine withLeft_is rfl rfl ?_
      refine withLeft_nil ?_
      simp only [Act.put, List.setIfInBounds_toArray, List.set_cons_zero, List.set_cons_succ]
      refine lft_run rfl rfl ?_
      exact lft_value (v := .string ⟨#[0, 0, 0, 0, 0, 0, 0, 1, 0, 0, 0, 0, 0, 0, 0, 2, 1, 97, 2, 98, 99]⟩) (by kernel_rfl) rfl rfl
    · intro wz hwz
      clear hKc
      refine withLeft_is rfl rfl ?_
      refine withLeft_nil ?_
      simp only [Act.put, List.setIfInBounds_toArray, List.set_cons_zero, List.set_cons_succ]
      refine lft_run rfl rfl ?_
      exact lft_value (v := .string ⟨#[0, 0, 0, 0, 0, 0, 0, 1, 0, 0, 0, 0, 0, 0, 0, 2, 1, 97, 2, 98, 99, 4, 120, 121, 122]⟩) (by kernel_rfl) rfl rfl
    · intro wz hwz
      clear hKc
      refine withLeft_is rfl rfl ?_
      refine withLeft_is rfl rfl ?_
      refine withLeft_is rfl rfl ?_
      refine withLeft_is rfl rfl ?_
      refine withLeft_is rfl rfl ?_
      refine withLeft_is rfl rfl ?_
      refine withLeft_is rfl rfl ?_
      refine withLeft_is rfl rfl ?_
      refine withLeft_nil ?_
      simp only [Act.put, List.setIfInBounds_toArray, List.set_cons_zero, List.set_cons_succ]
      refine lft_run rfl rfl ?_
      unfold LftRun
      go_wp2
      exact ⟨rfl, ⟨wz.heap.size, rfl, fun j hj => (cell_new wz _ _ _ j).trans (bad_cell hj)⟩, rfl, (Below.refl _ _).alloc (Nat.le_refl _) _⟩
    · intro wz hwz
      clear hKc
      refine withLeft_ex rfl rfl ?_
      intro vv hvv
      refine withLeft_nil ?_
      simp only [Act.put, List.setIfInBounds_toArray, List.set_cons_zero, List.set_cons_succ]
      refine lft_run rfl rfl ?_
      exact lft_assign rfl (by first | rfl | assumption)
  intro wz hwz
  refine LeftEnd.is (LeftEnd.is (LeftEnd.is (LeftEnd.is (LeftEnd.is (LeftEnd.is (LeftEnd.is (LeftEnd.is (LeftEnd.is (LeftEnd.is (LeftEnd.is (LeftEnd.is (LeftEnd.is (LeftEnd.is (LeftEnd.is (LeftEnd.is (LeftEnd.is (LeftEnd.is (LeftEnd.is (LeftEnd.is (LeftEnd.is (LeftEnd.is (LeftEnd.is (LeftEnd.is (LeftEnd.is (LeftEnd.ex (fun _ _ => LeftEnd.ex (fun _ _ => LeftEnd.nil ?_)))))))))))))))))))))))))))
  simp only [Act.put, List.setIfInBounds_toArray, List.set_cons_zero, List.set_cons_succ]
  rename_i v77 h77 v4 h4
  have HB4 : Hid (Below w.heap.size w wz) := HB3.out.trans (hwz.mono HB3.out.size)
  have HI4 := Lib.hid (HI3.out.below hwz); have HE4 := Lib.hid (HE3.out.below hwz)
  obtain ⟨GB, rfl, hcb⟩ := h4
  have HC4 := Lib.hid hcb
  clear hwz h77 hcb HI3 HE3 HB3
  refine hKc _ _ ?_
  clear hKc Kc
  go_wp2
  go_loopw [5] (fun i wr => ∃ n : Nat, n ≤ 9 ∧ i = .int .i64 n ∧ Below w.heap.size w wr ∧ EvAt wr GE 1 2 ⟨#[97]⟩ ⟨#[98, 99]⟩ (.slice p 3 c) ∧ ∀ j, j < 9 → wr.cell? ⟨GB, j, none⟩ = some (.string (badOf j))) (fun i _ => 9 - (intOf i).toNat)
  case atStart => exact ⟨0, by omega, rfl, HB4.out, HE4.out, HC4.out⟩
  case round =>
    obtain ⟨n, hn, rfl, hbr, her, hcr⟩ := hrel
    clear HB4 HE4 HC4 HI4
    have HB := Lib.hid hbr; have HE := Lib.hid her; have HC := Lib.hid hcr
    clear hbr her hcr
    by_cases hn9 : n < 9
    · have hcn := HC.out n hn9
      have hsz := bad_size hn9
      have HNO := Lib.hid (bad_no hn9)
      have hcv := fun (w : World) => Lib.run_convert_string_bytes (P := Try.prog) w 9 22 5 (badOf n) (u := .string) (by kernel_rfl) byT.slice byT.elem
      have HCV := Lib.hid (fun w => OwnM.conv w 5 (badOf n) (Nat.le_trans hsz (by decide)))
      clear hsz
      go_wp2_with fail
      clear hcv hcn
      refine (take_any _ _ _ ((HCV.out wr).1.bytes (natsOf_small _))).mono ?_
      intro z w5 ht5
      obtain ⟨rfl, hb5⟩ := tells_none HNO.out ht5
      have hb55 : Below w5.heap.size w5 (w5.alloc (.cells #[.int .i64 0, .string ⟨#[]⟩, .int .i64 0, .string ⟨#[]⟩, .slice none 0 0] 24)) := (Below.refl _ _).alloc (Nat.le_refl _) _
      have hba : Below wr.heap.size wr w5 := (HCV.out wr).2.trans (hb5.mono (HCV.out wr).2.size)
      have hbb := hba.trans (hb55.mono hba.size)
      have HB5 : Hid (Below w.heap.size w (w5.alloc (.cells #[.int .i64 0, .string ⟨#[]⟩, .int .i64 0, .string ⟨#[]⟩, .slice none 0 0] 24))) := HB.out.trans (hbb.mono HB.out.size)
      have HE5 := Lib.hid (HE.out.below hbb)
      have HC5 : Hid (∀ j, j < 9 → (w5.alloc (.cells #[.int .i64 0, .string ⟨#[]⟩, .int .i64 0, .string ⟨#[]⟩, .slice none 0 0] 24)).cell? ⟨GB, j, none⟩ = some (.string (badOf j))) := fun j hj => (hbb.cell (p := ⟨GB, j, none⟩) (block_lt_of_cell (HC.out j hj))).trans (HC.out j hj)
      obtain ⟨d0, d1, d2, d3, d4⟩ := (EvAt.new w5 0 0 ⟨#[]⟩ ⟨#[]⟩ (.slice none 0 0)).cells
      clear ht5 hb5 hb55 hba hbb HB HE HC HCV HNO
      go_wp2_with fail
      refine (same_any (isEv_zero _) (isEv_zero _)).mono ?_
      rintro z w6 ⟨rfl, hb6⟩
      rw [decide_eq_true (rfl : ev0 = ev0)]
      have HB6 : Hid (Below w.heap.size w w6) := HB5.out.trans (hb6.mono HB5.out.size)
      have HE6 := Lib.hid (HE5.out.below hb6)
      have HC6 : Hid (∀ j, j < 9 → w6.cell? ⟨GB, j, none⟩ = some (.string (badOf j))) := fun j hj => (hb6.cell (p := ⟨GB, j, none⟩) (block_lt_of_cell (HC5.out j hj))).trans (HC5.out j hj)
      clear hb6 HB5 HE5 HC5 d0 d1 d2 d3 d4
      go_wp2
      go_roundw
      case rel => exact ⟨n + 1, by omega, by go_num, HB6.out, HE6.out, HC6.out⟩
      case measure => simp [intOf]; omega
    · obtain rfl : n = 9 := by omega
      clear hn hn9 HC
      obtain ⟨w5, hw5⟩ : ∃ W, W = wr.alloc (.cells (zeros 100) 5) := ⟨_, rfl⟩
      have hmk := made_run 100 100 100 100 rfl rfl (Nat.le_refl _) (by omega) wr
      rw [← hw5] at hmk
      have hb5 : Below wr.heap.size wr w5 := by rw [hw5]; exact (Below.refl _ _).alloc (Nat.le_refl _) _
      have hz5 : w5.heap.size = wr.heap.size + 1 := by rw [hw5]; simp
      obtain ⟨G1, hG1⟩ : ∃ G, G = wr.heap.size := ⟨_, rfl⟩
      have hy5 : Bytes w5 (.slice (some ⟨G1, 0, none⟩) 100 100) (List.replicate 100 0) := by rw [hw5, hG1]; exact zeros_bytes wr 100 (by decide)
      rw [← hG1] at hmk
      have he5 := HE.out.below hb5
      obtain ⟨w6, hw6⟩ : ∃ W, W = w5.setCell ⟨GE, 4, none⟩ (.slice (some ⟨G1, 0, none⟩) 100 100) := ⟨_, rfl⟩
      have he6 : EvAt w6 GE 1 2 ⟨#[97]⟩ ⟨#[98, 99]⟩ (.slice (some ⟨G1, 0, none⟩) 100 100) := by rw [hw6]; exact heap_setCell_same _ GE 4 _ _ _ he5
      have hgl := HE.out.lt
      have hy6 : Bytes w6 (.slice (some ⟨G1, 0, none⟩) 100 100) (List.replicate 100 0) := by
        rw [hw6]
        exact hy5.kept (row := some GE) ⟨rfl, rfl, rfl, by simp [World.setCell], fun k _ hne => heap_setCell_other w5 _ k _ (fun e => hne (by rw [e]))⟩ (.inr (by simp only [Value.ownBlock]; intro h; have := Option.some.inj h; omega))
      have hb6 : Below w.heap.size w w6 := by rw [hw6]; exact (HB.out.trans (hb5.mono HB.out.size)).setCell (p := ⟨GE, 4, none⟩) HBG.out _
      have hz6 : w6.heap.size = wr.heap.size + 1 := by rw [hw6, ← hz5]; simp [World.setCell]
      obtain ⟨w7, hw7⟩ : ∃ W, W = w6.alloc (.cells #[.int .i64 1, .string ⟨#[97]⟩, .int .i64 2, .string ⟨#[98, 99]⟩, .slice (some ⟨G1, 0, none⟩) 100 100] 24) := ⟨_, rfl⟩
      obtain ⟨G2, hG2⟩ : ∃ G, G = w5.heap.size := ⟨_, rfl⟩
      have he7 : EvAt w7 G2 1 2 ⟨#[97]⟩ ⟨#[98, 99]⟩ (.slice (some ⟨G1, 0, none⟩) 100 100) := by
        rw [hw7, hG2, show w5.heap.size = w6.heap.size by omega]; exact EvAt.new ..
      have hb67 : Below w6.heap.size w6 w7 := by rw [hw7]; exact (Below.refl _ _).alloc (Nat.le_refl _) _
      have hz7 : w7.heap.size = wr.heap.size + 2 := by rw [hw7, World.size_alloc]; omega
      obtain ⟨w8, hw8⟩ : ∃ W, W = w7.alloc (.cells (zeros 101) 5) := ⟨_, rfl⟩
      have hb78 : Below w7.heap.size w7 w8 := by rw [hw8]; exact (Below.refl _ _).alloc (Nat.le_refl _) _
      obtain ⟨G3, hG3⟩ : ∃ G, G = w7.heap.size := ⟨_, rfl⟩
      have hmk2 := made_run 101 101 101 101 rfl rfl (Nat.le_refl _) (by omega) w7
      rw [← hw8, ← hG3, hw7, hw6] at hmk2
      have hy8 : Bytes w8 (.slice (some ⟨G3, 0, none⟩) 101 101) (List.replicate 101 0) := by rw [hw8, hG3]; exact zeros_bytes w7 101 (by decide)
      have he8 := he7.below hb78
      obtain ⟨w9, hw9⟩ : ∃ W, W = w8.setCell ⟨G2, 4, none⟩ (.slice (some ⟨G3, 0, none⟩) 101 101) := ⟨_, rfl⟩
      have hg9 : w8.grownBy w9 (some G2) := by rw [hw9]; exact ⟨rfl, rfl, rfl, by simp [World.setCell], fun k _ hne => heap_setCell_other w8 _ k _ (fun e => hne (by rw [e]))⟩
      have he9 : EvAt w9 G2 1 2 ⟨#[97]⟩ ⟨#[98, 99]⟩ (.slice (some ⟨G3, 0, none⟩) 101 101) := by rw [hw9]; exact heap_setCell_same _ G2 4 _ _ _ he8
      have hy9 : Bytes w9 (.slice (some ⟨G3, 0, none⟩) 101 101) (List.replicate 101 0) := hy8.kept hg9 (.inr (by simp only [Value.ownBlock]; intro h; have := Option.some.inj h; omega))
      have hy9' : Bytes w9 (.slice (some ⟨G1, 0, none⟩) 100 100) (List.replicate 100 0) := ((hy6.below hb67).below hb78).kept hg9 (.inr (by simp only [Value.ownBlock]; intro h; have := Option.some.inj h; omega))
      have hf9 : EvAt w9 GE 1 2 ⟨#[97]⟩ ⟨#[98, 99]⟩ (.slice (some ⟨G1, 0, none⟩) 100 100) := by
        have h8 := (he6.below hb67).below hb78
        exact (hg9.block GE h8.lt (by intro h; have := Option.some.inj h; omega)).trans h8
      have hb9 : Below w.heap.size w w9 := by
        have h7 := hb6.trans (hb67.mono hb6.size)
        have h8 := h7.trans (hb78.mono h7.size)
        rw [hw9]
        exact h8.setCell (p := ⟨G2, 4, none⟩) (by show w.heap.size ≤ G2; have := HB.out.size; omega) _
      have HI9 := Lib.hid (isEv_lit hy9'); have HJ9 := Lib.hid (isEv_lit hy9)
      have HE9 := Lib.hid he9; have HF9 := Lib.hid hf9; have HB9 := Lib.hid hb9
      have HW9 : Hid (w9 = w8.setCell ⟨G2, 4, none⟩ (.slice (some ⟨G3, 0, none⟩) 101 101)) := hw9
      have HG2 := Lib.hid hG2
      obtain ⟨a0, a1, a2, a3, a4⟩ := HE.out.cells
      obtain ⟨c0, c1, c2, c3, c4⟩ := he5.cells
      have f4 := free_of he5 4
      obtain ⟨d0, d1, d2, d3, d4⟩ := he8.cells
      have g4 := free_of he8 4
      rw [hG2] at d0 d1 d2 d3 d4 g4
      obtain ⟨e0, e1, e2, e3, e4⟩ := ((he6.below hb67).below hb78).cells
      have hn1 : ¬ GE = w5.heap.size := by omega
      have hn2 : ¬ w5.heap.size = GE := by omega
      clear hw5 hb5 hz5 hy5 hw6 he6 hy6 hb6 hz6 hw7 he7 hb67 hz7 hw8 hb78 hy8 he8 hw9 hg9 he9 hy9 hy9' hf9 hb9 he5 HB HE hgl hG1 hG2 hG3
      go_wp2_with fail
      rw [← HG2.out, ← HW9.out]
      clear a0 a1 a2 a3 a4 c0 c1 c2 c3 c4 d0 d1 d2 d3 d4 e0 e1 e2 e3 e4 f4 g4 hmk hmk2 hn1 hn2 HW9 HG2
      refine (may_any HI9.out).mono ?_
      rintro z x1 ⟨rfl, hb1⟩
      rw [show mayEv (evF (List.replicate 100 0)) = true by decide +kernel]
      have HI1 := Lib.hid (HI9.out.below hb1); have HJ1 := Lib.hid (HJ9.out.below hb1); have HE1 := Lib.hid (HE9.out.below hb1); have HF1 := Lib.hid (HF9.out.below hb1)
      have HB1 : Hid (Below w.heap.size w x1) := HB9.out.trans (hb1.mono HB9.out.size)
      clear hb1 HI9 HJ9 HE9 HF9 HB9
      obtain ⟨c0, c1, c2, c3, c4⟩ := HE1.out.cells
      go_wp2_with fail
      refine (may_any HJ1.out).mono ?_
      rintro z x2 ⟨rfl, hb2⟩
      rw [show mayEv (evF (List.replicate 101 0)) = false by decide +kernel]
      have HI2 := Lib.hid (HI1.out.below hb2); have HJ2 := Lib.hid (HJ1.out.below hb2); have HE2 := Lib.hid (HE1.out.below hb2); have HF2 := Lib.hid (HF1.out.below hb2)
      have HB2 : Hid (Below w.heap.size w x2) := HB1.out.trans (hb2.mono HB1.out.size)
      clear hb2 HI1 HJ1 HE1 HF1 HB1 c0 c1 c2 c3 c4
      obtain ⟨c0, c1, c2, c3, c4⟩ := HE2.out.cells
      go_wp2_with fail
      refine (put_any HJ2.out).mono ?_
      rintro z x3 ⟨v3, rfl, ho3, hb3⟩
      rw [show putEv (evF (List.replicate 101 0)) = [] by decide +kernel] at ho3
      obtain ⟨p5, c5, rfl⟩ := ho3.shape
      have HI3 := Lib.hid (HI2.out.below hb3); have HF3 := Lib.hid (HF2.out.below hb3)
      have HB3 : Hid (Below w.heap.size w x3) := HB2.out.trans (hb3.mono HB2.out.size)
      clear hb3 ho3 HI2 HJ2 HE2 HF2 HB2 c0 c1 c2 c3 c4
      obtain ⟨c0, c1, c2, c3, c4⟩ := HF3.out.cells
      go_wp2_with fail
      refine (put_any HI3.out).mono ?_
      rintro z x4 ⟨v4, rfl, ho4, hb4⟩
      obtain ⟨p6, c6, rfl⟩ := ho4.shape
      rw [show (putEv (evF (List.replicate 100 0))).length = 122 by decide +kernel]
      have HB4 : Hid (Below w.heap.size w x4) := HB3.out.trans (hb4.mono HB3.out.size)
      clear hb4 ho4 HI3 HF3 HB3 c0 c1 c2 c3 c4
      go_wp2
      go_ret
      exact ⟨rfl, HB4.out⟩

set_option maxRecDepth 100000 in
theorem forms_lifted (os : Os) (started : os.Started) (H : Type) (enc : TypeId × Value → H) :
    ReturnsInHanded {} Try.checked os 5 .any (Rows.eventFormsSpec.pre6 enc Try.prog Try.f5 Rows.eventFormsRow.domain false) (Rows.eventFormsSpec.post enc Try.prog Try.f5 false true false false) := by
  refine returnsInHanded_of_change (C := Try.checked) own_none started (by kernel_rfl) Try.func5
    (ChangeSpec.witness6 (enc := enc) (C := Try.checked) false ⟨#[], #[], []⟩ 8 (by kernel_rfl) (by kernel_rfl) (by kernel_rfl) (by kernel_rfl)) ?_
  intro W base args ds gs before hval0 hW hcnd _
  have hW' := hW
  obtain ⟨p, q, hA0, hV, rfl, hfz, hnd⟩ := hW
  have hA : DataW.TrodAll enc Try.prog W 0 (fun _ => true) true Try.f5.params.toList args.toList ds p := hA0
  have hp : Try.f5.params = #[] := by kernel_rfl
  rw [hp] at hA
  obtain ⟨rfl, rfl, rfl⟩ := trodAll_none hA
  obtain ⟨rfl, rfl⟩ := trodVars_none hV
  refine (forms_any W).mono fun e W' ⟨he, hb⟩ => ?_
  subst he
  exact ⟨_, rfl, law_post (tb := 4) laidOut (by rw [hp]; intro t ht; simp at ht) rfl rfl (by kernel_rfl) (by kernel_rfl) hW' hb⟩

theorem eventForms_holds : Rows.EventFormsSaid :=
  OpenClaim.holds_of_wide 5 Try.f5 rfl rfl rfl rfl rfl rfl rfl ⟨rfl, rfl, rfl, rfl, rfl⟩ rfl rfl rfl rfl rfl (by kernel_rfl) Try.func5 (by kernel_rfl)
    (of_decide_eq_true (by kernel_rfl)) (by unfold Func.isWrapper; rw [if_neg (by decide +kernel)]; exact ⟨rfl, rfl⟩)
    (fun os started H enc _ => forms_lifted os started H enc)
end Go.Proofs.Ytjjcfflgndclkaa

