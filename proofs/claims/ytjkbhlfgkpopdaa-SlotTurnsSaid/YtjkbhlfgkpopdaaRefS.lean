/- slot: the document's slots are put. -/
import Derived.Test.YtjkbhlfgkpopdaaRefN
import Derived.Test.YtjkbhlfgkpopdaaSlE
import Derived.Test.YtjkbhlfgkpopdaaGenZ
import Derived.Lib.SlBytesConst
namespace Go.Proofs.Ytjkbhlfgkpopdaa
open Go Go.RowKit Go.By

theorem refPut_long (g : Nat) (v : Value) (l : List Nat) (w : World) (hv : Bytes w v l) (hl : 113 < l.length) :
    Calls Try.prog 9 #[.int .u64 g, v] w fun e w' => e = .returned (.tuple #[.slice none 0 0, .int .i64 4]) ∧ w = w' := by
  obtain ⟨p, cap, rfl, _⟩ := hv.any
  have hm := hv.short
  unfold maxLen at hm
  clear hv
  go_enter Try.func9, Try.ntmps9
  go_wp2
  go_ret2
  exact ⟨rfl, rfl⟩

set_option maxRecDepth 100000 in
theorem refPut_any (g : Nat) (v : Value) (l : List Nat) (w : World) (hg : g < 18446744073709551616) (hv : Bytes w v l) (hl : l.length ≤ 113) :
    Calls Try.prog 9 #[.int .u64 g, v] w fun e w' => ∃ v', e = .returned (.tuple #[v', .int .i64 0]) ∧ w'.ownsRow w.heap.size 5 1 v' (slotOf g l).length (cellsOf (slotOf g l)) ∧ Below w.heap.size w w' := by
  obtain ⟨p, cap, rfl, _⟩ := hv.any
  have HV := Lib.hid hv; clear hv
  have hcv := fun (w : World) (C : Array Value) (n c : Nat) => Lib.run_convert_bytes_const (P := Try.prog) w 23 5 C n c byT.slice byT.elem
  go_enter Try.func9, Try.ntmps9
  go_wp2_with fail
  clear hcv
  have hc2 : Bytes (w.alloc (.cells #[.int .u8 80, .int .u8 68] 5 (2, 3))) (.slice (some ⟨w.heap.size, 0, none⟩) 2 2) [80, 68] := Bytes.lit [80, 68] rfl rfl (by decide) (by decide)
  have hba : Below w.heap.size w (w.alloc (.cells #[.int .u8 80, .int .u8 68] 5 (2, 3))) := (Below.refl _ _).alloc (Nat.le_refl _) _
  have HC2 := Lib.hid hc2; have HBA := Lib.hid hba
  clear hc2 hba
  generalize w.alloc (.cells #[.int .u8 80, .int .u8 68] 5 (2, 3)) = wa at *
  refine (high_any g 8 wa hg (by omega)).mono ?_
  rintro e w1 ⟨v1, rfl, ho1, hb1⟩
  have hy1 : Bytes w1 v1 (highOf g 8) := Bytes.of_owns ho1 (highOf_small _ _) (by rw [highOf_length]; decide)
  obtain ⟨v2, w2, hrun, ho2, hg2⟩ := run_append_full 23 byT (HC2.out.below hb1) hy1 (by rw [highOf_length]; omega) (by rw [highOf_length]; omega)
  rw [highOf_length] at ho2
  have hz1 := (HBA.out.trans (hb1.mono HBA.out.size)).size
  have hb2 : Below w.heap.size w w2 := (HBA.out.trans (hb1.mono HBA.out.size)).grown hg2 hz1 (by simp)
  have HO2 := Lib.hid (owns_base ho2 hz1); have HB2 := Lib.hid hb2
  have hz2 := hb2.size
  clear ho2 hb2 hy1 ho1 hb1 HC2 HBA hg2 hz1
  have hlw : IntKind.u8.wrap (l.length : Int) = (l.length : Int) := by rw [IntKind.wrap_u8]; omega
  go_wp2_with (at_builtin; first
    | (refine Lib.wpList_append_run _ rfl (.tmp 11) (.tmp 13) 23 23 rfl _ _ rfl rfl v2 w2 hrun ?_; clear hrun)
    | (refine wpList_append_bytes rfl (.tmp 14) (.tmp 18) byT rfl w.heap.size v2 (2 + 8) (cellsOf ([80, 68] ++ highOf g 8)) rfl (HO2.out.alloc _) (.slice (some ⟨w2.heap.size, 0, none⟩) 1 1) [l.length] rfl (Bytes.one rfl (by omega)) (by simp) (by simp; omega) ?_; intro v3 w3 hown3 hgrow3 _
       have HO3 := Lib.hid hown3; have HG3 := Lib.hid (grownBy_alloc hgrow3); have hz3 := HG3.out.size; clear hown3 hgrow3 hlw)
    | (refine wpList_append_bytes rfl (.tmp 20) (.tmp 21) byT rfl w.heap.size v3 (2 + 8 + [l.length].length) (cellsOf ([80, 68] ++ highOf g 8) ++ cellsOf [l.length]) rfl HO3.out (.slice p l.length cap) l rfl (HV.out.below (HB2.out.grown HG3.out hz2 (fun j hj => (HO2.out.lt j hj).1))) (by simp; omega) (by omega) ?_; intro v4 w4 hown4 hgrow4 _
       have HO4 := Lib.hid hown4; have HG4 := Lib.hid hgrow4; have hz4 := HG4.out.size
       obtain ⟨p4, c4, rfl⟩ := owns_slice hown4; clear hown4 hgrow4)
    | (refine wpList_append_zeros rfl (.tmp 23) (.tmp 26) byT (kn := .i64) (by kernel_rfl) rfl w.heap.size (.slice p4 (2 + 8 + [l.length].length + l.length) c4) (2 + 8 + [l.length].length + l.length) (cellsOf ([80, 68] ++ highOf g 8) ++ cellsOf [l.length] ++ cellsOf l) rfl HO4.out .i64 _ rfl (113 - l.length) (by omega) (by simp; omega) (by omega) ?_; intro v5 w5 hown5 hgrow5; have HO5 := Lib.hid hown5; have HG5 := Lib.hid hgrow5; clear hown5 hgrow5))
  have hown5' : w5.ownsRow w.heap.size 5 1 v5 (slotHead g l).length (cellsOf (slotHead g l)) := by
    have e1 : (slotHead g l).length = 2 + 8 + [l.length].length + l.length + (113 - l.length) := by rw [slotHead_length hl]; simp; omega
    have e2 : cellsOf (slotHead g l) = cellsOf ([80, 68] ++ highOf g 8) ++ cellsOf [l.length] ++ cellsOf l ++ cellsOf (List.replicate (113 - l.length) 0) := by
      rw [← cellsOf_append, ← cellsOf_append, ← cellsOf_append]
      congr 1
    rw [e1, e2]; exact HO5.out
  have hb5 : Below w.heap.size w w5 := ((HB2.out.grown HG3.out hz2 (fun j hj => (HO2.out.lt j hj).1)).grown HG4.out (by omega) (fun j hj => (HO3.out.lt j hj).1)).grown HG5.out (by omega) (fun j hj => (HO4.out.lt j hj).1)
  have HO := Lib.hid hown5'
  have HB := Lib.hid hb5
  clear hown5' hb5 HO2 HO3 HO4 HO5 HG3 HG4 HG5 HB2 hz2 hz3 hz4
  obtain ⟨p5, c5, rfl⟩ := shape_of HO.out
  have hsm := Lib.hid (slotHead_small (g := g) hl HV.out.small)
  refine (ref_any _ (slotHead g l) w5 (Bytes.of_owns HO.out hsm.out (by rw [slotHead_length hl]; decide))).mono ?_
  rintro e w6 ⟨rfl, rfl⟩
  have hcs : Crc.sum (slotHead g l) < 4294967296 := Crc.sum_lt _ hsm.out
  have HS : Hid (slotOf g l = slotHead g l ++ highOf (Crc.sum (slotHead g l)) 4) := rfl
  generalize Crc.sum (slotHead g l) = s at *
  have hcs' : (s : Int) < 4294967296 := by omega
  go_wp2_with fail
  refine (high_any s 4 w5 (by omega) (by omega)).mono ?_
  rintro e w7 ⟨v7, rfl, ho7, hb7⟩
  have HO7 := Lib.hid ho7
  have HB7 := Lib.hid hb7
  clear ho7 hb7 hcs hcs'
  go_wp2_with (at_builtin; go_loud (refine wpList_append_bytes rfl (.tmp 28) (.tmp 32) byT rfl w.heap.size (.slice p5 (slotHead g l).length c5) (slotHead g l).length (cellsOf (slotHead g l)) rfl (owns_below HO.out HB7.out) v7 (highOf s 4) rfl (Bytes.of_owns HO7.out (highOf_small _ _) (by rw [highOf_length]; decide)) (by rw [slotHead_length hl, highOf_length]; omega) (by have := HB.out.size; have := HB7.out.size; omega) ?_); intro v8 w8 hown8 hgrow8 _)
  have hown8' : w8.ownsRow w.heap.size 5 1 v8 (slotOf g l).length (cellsOf (slotOf g l)) := by
    have e1 : (slotOf g l).length = (slotHead g l).length + (highOf s 4).length := by rw [HS.out, List.length_append]
    rw [e1, HS.out, cellsOf_append]; exact hown8
  have HO8 := Lib.hid hown8'
  have HB8 : Hid (Below w.heap.size w w8) := (HB.out.trans (HB7.out.mono HB.out.size)).grown hgrow8 (by have := HB.out.size; have := HB7.out.size; omega) (fun j hj => (HO.out.lt j hj).1)
  clear hown8 hgrow8 hown8'
  go_wp2
  go_ret2
  exact ⟨_, rfl, HO8.out, HB8.out⟩

theorem refPut_all (g : Nat) (v : Value) (l : List Nat) (w : World) (hg : g < 18446744073709551616) (hv : Bytes w v l) :
    Calls Try.prog 9 #[.int .u64 g, v] w fun e w' => ∃ p c, e = .returned (.tuple #[.slice p (spBytes g l).length c, .int .i64 (spErr l : Nat)]) ∧ Bytes w' (.slice p (spBytes g l).length c) (spBytes g l) ∧ Below w.heap.size w w' := by
  by_cases hl : l.length ≤ 113
  · refine (refPut_any g v l w hg hv hl).mono ?_
    rintro e w' ⟨v', rfl, ho, hb⟩
    have e1 : spBytes g l = slotOf g l := if_pos hl
    have e2 : spErr l = 0 := if_pos hl
    rw [e1, e2]
    obtain ⟨p, c, rfl⟩ := shape_of ho
    exact ⟨p, c, rfl, Bytes.of_owns ho (slotOf_small hl hv.small) (by rw [slotOf_length hl]; decide), hb⟩
  · refine (refPut_long g v l w hv (by omega)).mono ?_
    rintro e w' ⟨rfl, rfl⟩
    have e1 : spBytes g l = [] := if_neg hl
    have e2 : spErr l = 4 := if_neg hl
    rw [e1, e2]
    exact ⟨none, 0, rfl, Bytes.nil _, Below.refl _ _⟩
end Go.Proofs.Ytjkbhlfgkpopdaa
