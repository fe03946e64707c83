/- rec: the document's records. -/
import Derived.Test.YtjpcddgclimmgaaRecE
import Derived.Test.YtjpcddgclimmgaaRecD
import Derived.Deep.RegionLaw
import Derived.Deep.QuietTactic
import Derived.BigQuiet
namespace Go.Proofs.Ytjpcddgclimmgaa
open Go Go.RowKit Go.By

set_option maxRecDepth 100000 in
theorem num_any (v : Value) (l : List Nat) (w : World) (hv : Bytes w v l) (hl : l.length ≤ 7) :
    Calls Try.prog 22 #[v] w fun e w' => e = .returned (.int .u64 (numOf l : Nat)) ∧ w = w' := by
  obtain ⟨p, cap, rfl, _⟩ := hv.any
  have HV := Lib.hid hv; clear hv
  go_enter Try.func22, Try.ntmps22
  go_wp2
  go_loop [3, 4] (fun x i => ∃ k : Nat, k ≤ l.length ∧ i = .int .i64 k ∧ x = .int .u64 (numOf (l.take k) : Nat)) (fun _ i => l.length - (intOf i).toNat)
  case atStart => exact ⟨0, by omega, rfl, rfl⟩
  case round =>
    obtain ⟨k, hk, rfl, rfl⟩ := hrel
    by_cases hlt : k < l.length
    · obtain ⟨b1, o1, rfl, hcell⟩ := HV.out.spot k hlt
      have hn : numOf (l.take k) < 281474976710656 := by
        have h1 := numOf_lt (l.take k) (fun c hc => HV.out.small c (List.mem_of_mem_take hc))
        have h2 : 256 ^ (l.take k).length ≤ 256 ^ 6 := Nat.pow_le_pow_right (by omega) (by rw [List.length_take]; omega)
        omega
      have hcl : atB l k < 256 := HV.out.at_lt hlt
      have hs : numOf (l.take (k + 1)) = numOf (l.take k) * 256 + atB l k := by
        rw [List.take_succ_eq_append_getElem hlt, numOf_snoc, atB_of hlt]
      have HS := Lib.hid hs; clear hs
      generalize numOf (l.take k) = x at *
      generalize atB l k = y at *
      have hx : (x : Int) < 281474976710656 := by omega
      have hy : (y : Int) < 256 := by omega
      clear hn hcl
      go_wp2
      go_round
      case rel => exact ⟨k + 1, by omega, by go_num, by rw [HS.out]; go_num⟩
      case measure => simp [intOf]; omega
    · obtain rfl : k = l.length := by omega
      rw [List.take_length]
      go_wp2
      go_ret
      exact ⟨rfl, rfl⟩

theorem refPut_long (k : Int) (v : Value) (l : List Nat) (w : World) (hv : Bytes w v l) (hl : 4096 < l.length) :
    Calls Try.prog 9 #[.int .u8 k, v] w fun e w' => e = .returned (.tuple #[.slice none 0 0, .int .i64 4]) ∧ w = w' := by
  obtain ⟨p, cap, rfl, _⟩ := hv.any
  have hm := hv.short
  unfold maxLen at hm
  clear hv
  go_enter Try.func9, Try.ntmps9
  go_wp2
  go_ret2
  exact ⟨rfl, rfl⟩

set_option maxRecDepth 100000 in
theorem refPut_any (k : Nat) (v : Value) (l : List Nat) (w : World) (hk : k < 256) (hv : Bytes w v l) (hl : l.length ≤ 4096) :
    Calls Try.prog 9 #[.int .u8 k, v] w fun e w' => ∃ v', e = .returned (.tuple #[v', .int .i64 0]) ∧ w'.ownsRow w.heap.size 5 1 v' (recOf k l).length (cellsOf (recOf k l)) ∧ Below w.heap.size w w' := by
  obtain ⟨p, cap, rfl, _⟩ := hv.any
  have HV := Lib.hid hv; clear hv
  go_enter Try.func9, Try.ntmps9
  go_wp2_with fail
  refine (high_any l.length 4 w (by omega) (by omega)).mono ?_
  rintro e w1 ⟨v1, rfl, ho1, hb1⟩
  have HO1 := Lib.hid ho1
  have HB1 := Lib.hid hb1
  clear ho1 hb1
  have hsz1 := HB1.out.size
  go_wp2_with (at_builtin; first
    | (refine wpList_append_bytes rfl (.tmp 13) (.tmp 15) byT rfl w.heap.size v1 4 (cellsOf (highOf l.length 4)) rfl (HO1.out.alloc _) (.slice (some ⟨w1.heap.size, 0, none⟩) 1 1) [k] rfl (Bytes.one rfl hk) (by simp) (by simp; omega) ?_; intro v2 w2 hown2 hgrow2 _
       have HO2 := Lib.hid hown2; have HG2 := Lib.hid (grownBy_alloc hgrow2); have hsz2 := HG2.out.size; clear hown2 hgrow2)
    | (refine wpList_append_bytes rfl (.tmp 16) (.tmp 17) byT rfl w.heap.size v2 (4 + [k].length) (cellsOf (highOf l.length 4) ++ cellsOf [k]) rfl HO2.out (.slice p l.length cap) l rfl (HV.out.below (HB1.out.grown HG2.out hsz1 (fun j hj => (HO1.out.lt j hj).1))) (by simp; omega) (by omega) ?_; intro v3 w3 hown3 hgrow3 _))
  have hown3' : w3.ownsRow w.heap.size 5 1 v3 (recHead k l).length (cellsOf (recHead k l)) := by
    have e1 : (recHead k l).length = 4 + [k].length + l.length := by rw [recHead_length]; simp
    have e2 : cellsOf (recHead k l) = cellsOf (highOf l.length 4) ++ cellsOf [k] ++ cellsOf l := by rw [recHead, cellsOf_append, cellsOf_append, List.append_assoc]
    rw [e1, e2]; exact hown3
  have hb3 : Below w.heap.size w w3 := (HB1.out.grown HG2.out hsz1 (fun j hj => (HO1.out.lt j hj).1)).grown hgrow3 (by omega) (fun j hj => (HO2.out.lt j hj).1)
  have HO3 := Lib.hid hown3'
  have HB3 := Lib.hid hb3
  clear hown3 hgrow3 hown3' hb3 HO1 HB1 HO2 HG2 hsz1 hsz2
  obtain ⟨p3, c3, rfl⟩ : ∃ p c, v3 = .slice p (recHead k l).length c := by
    rcases HO3.out.2 with ⟨h, h2⟩ | ⟨g, c, _, h, _⟩
    · exact ⟨none, 0, by rw [h]; congr 1; omega⟩
    · exact ⟨_, c, by rw [h]⟩
  have hsm := Lib.hid (recHead_small hk HV.out.small)
  go_wp2_with fail
  refine (ref_any _ (recHead k l) w3 (Bytes.of_owns HO3.out hsm.out (by rw [recHead_length]; unfold maxLen; omega))).mono ?_
  rintro e w4 ⟨rfl, rfl⟩
  have hcs : Crc.sum (recHead k l) < 4294967296 := Crc.sum_lt _ hsm.out
  have HS : Hid (recOf k l = recHead k l ++ highOf (Crc.sum (recHead k l)) 4) := rfl
  generalize Crc.sum (recHead k l) = s at *
  have hcs' : (s : Int) < 4294967296 := by omega
  go_wp2_with fail
  refine (high_any s 4 w3 (by omega) (by omega)).mono ?_
  rintro e w5 ⟨v5, rfl, ho5, hb5⟩
  have HO5 := Lib.hid ho5
  have HB5 := Lib.hid hb5
  clear ho5 hb5 hcs hcs'
  go_wp2_with (at_builtin; go_loud (refine wpList_append_bytes rfl (.tmp 19) (.tmp 23) byT rfl w.heap.size (.slice p3 (recHead k l).length c3) (recHead k l).length (cellsOf (recHead k l)) rfl (owns_below HO3.out HB5.out) v5 (highOf s 4) rfl (Bytes.of_owns HO5.out (highOf_small _ _) (by rw [highOf_length]; decide)) (by rw [recHead_length, highOf_length]; omega) (by have := HB3.out.size; have := HB5.out.size; omega) ?_); intro v6 w6 hown6 hgrow6 _)
  have hown6' : w6.ownsRow w.heap.size 5 1 v6 (recOf k l).length (cellsOf (recOf k l)) := by
    have e1 : (recOf k l).length = (recHead k l).length + (highOf s 4).length := by rw [HS.out, List.length_append]
    rw [e1, HS.out, cellsOf_append]; exact hown6
  have HO6 := Lib.hid hown6'
  have HB6 : Hid (Below w.heap.size w w6) := (HB3.out.trans (HB5.out.mono HB3.out.size)).grown hgrow6 (by have := HB3.out.size; have := HB5.out.size; omega) (fun j hj => (HO3.out.lt j hj).1)
  clear hown6 hgrow6 hown6'
  go_wp2
  go_ret2
  exact ⟨_, rfl, HO6.out, HB6.out⟩
end Go.Proofs.Ytjpcddgclimmgaa
