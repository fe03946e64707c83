/- rec: a number is put, a record is put. -/
import Derived.Test.YtjpcddgclimmgaaSumD
import Derived.Test.YtjpcddgclimmgaaLoan
import Derived.Test.YtjpcddgclimmgaaBig
import Derived.Handy
namespace Go.Proofs.Ytjpcddgclimmgaa
open Go Go.RowKit Go.By

theorem grownBy_alloc {w w' : World} {o : Obj} {r : Option Nat} (h : (w.alloc o).grownBy w' r) : w.grownBy w' r :=
  ⟨h.os, h.tape, h.output, by have := h.size; simp at this; omega, fun k hk hn => (h.block k (by simp; omega) hn).trans (Below.heap_alloc w o k hk)⟩

theorem owns_below {w w' : World} {base : Nat} {e : TypeId} {v : Value} {n : Nat} {xs : List Value} (h : w.ownsRow base e 1 v n xs) (hb : Below w.heap.size w w') : w'.ownsRow base e 1 v n xs :=
  ⟨h.1, by
    rcases h.2 with h2 | ⟨g, cap, cur, h1, h2, h3, h4⟩
    · exact .inl h2
    · exact .inr ⟨g, cap, cur, h1, h2, (hb.block g (Array.getElem?_eq_some_iff.1 h3).1).trans h3, h4⟩⟩

set_option maxRecDepth 100000 in
theorem putNumber_any (base : Nat) (v : Value) (l : List Nat) (n : Nat) (w : World) (hv : w.ownsRow base 5 1 v l.length (cellsOf l)) (hb : base ≤ w.heap.size) (hn : n < 4294967296) (hl : l.length ≤ 17592186044416) :
    Calls Try.prog 13 #[v, .int .u32 n] w fun e w' => ∃ v', e = .returned v' ∧ w'.ownsRow base 5 1 v' (l ++ highOf n 4).length (cellsOf (l ++ highOf n 4)) ∧ w.grownBy w' v.ownBlock := by
  have HV := Lib.hid hv; clear hv
  obtain ⟨p, cap, hveq⟩ : ∃ p cap, v = .slice p l.length cap := by
    rcases HV.out.2 with ⟨h, h2⟩ | ⟨g, c, _, h, _⟩
    · exact ⟨none, 0, by rw [h]; congr 1; omega⟩
    · exact ⟨_, c, by rw [h]⟩
  subst hveq
  go_enter Try.func13, Try.ntmps13
  go_wp2_with (at_builtin; go_loud (refine wpList_append_bytes rfl (.tmp 5) (.tmp 17) byT rfl base (.slice p l.length cap) l.length (cellsOf l) rfl (HV.out.alloc _) (.slice (some ⟨w.heap.size, 0, none⟩) 4 4) (highOf n 4) rfl (Bytes.lit (highOf n 4) (by rw [high4]; simp [cellsOf]; omega) (by rw [highOf_length]) (highOf_small _ _) (by rw [highOf_length]; decide)) (by rw [highOf_length]; omega) (by simp; omega) ?_); intro v1 w1 hown hgrow hnil)
  have hown1 : w1.ownsRow base 5 1 v1 (l ++ highOf n 4).length (cellsOf (l ++ highOf n 4)) := by
    rw [List.length_append, cellsOf_append]; exact hown
  have HO := Lib.hid hown1
  have HG := Lib.hid (grownBy_alloc hgrow)
  obtain ⟨p1, c1, rfl⟩ : ∃ p c, v1 = .slice p (l ++ highOf n 4).length c := by
    rcases hown1.2 with ⟨h, h2⟩ | ⟨g, c, _, h, _⟩
    · exact ⟨none, 0, by rw [h]; congr 1; omega⟩
    · exact ⟨_, c, by rw [h]⟩
  clear hown hown1 hgrow hnil
  go_wp2
  go_ret
  exact ⟨_, rfl, HO.out, HG.out⟩

def zeros (n : Nat) : Array Value := (cellsOf (List.replicate n 0)).toArray
theorem zeros_size (n : Nat) : (zeros n).size = n := by simp [zeros, cellsOf]
/-- make([]byte, m, c). -/
theorem made_run (m c : Nat) (M C : Int) (hM : M = m) (hC : C = c) (hmc : m ≤ c) (hc : c < 1099511627776) (w : World) : (Instr.makeSlice 22 (.int .i64 M) (.int .i64 C)).run Try.prog w = .ok (.slice (some ⟨w.heap.size, 0, none⟩) m c) (w.alloc (.cells (zeros c) 5)) := by
  subst hM hC
  obtain ⟨i, hi, hz, hz1, hz2⟩ := info_parts byT.info
  have h := run_make (P := Try.prog) (w := w) 22 5 i (.int .u8 0) byT.slice hi hz .i64 .i64 (m : Int) (c : Int) (by omega) (by omega) (by rw [hz2]; omega) (by omega)
  rw [h]
  have e : madeCells (Value.int .u8 0).cells ((c : Int).toNat * i.size) = zeros c := by
    rw [hz1]
    apply Array.toList_inj.1
    apply List.ext_getElem
    · simp [madeCells, cellsOf, zeros]
    · intro j h1 h2
      simp [madeCells, cellsOf, zeros, Value.cells, Nat.mod_one]
  rw [e]; simp

theorem owns_bytes {w : World} {base : Nat} {v : Value} {l : List Nat} (h : w.ownsRow base 5 1 v l.length (cellsOf l)) (hs : ∀ c ∈ l, c < 256) (hm : l.length ≤ maxLen) : Bytes w v l := Bytes.of_owns h hs hm

theorem put_long (k : Int) (v : Value) (l : List Nat) (w : World) (hv : Bytes w v l) (hl : 4096 < l.length) :
    Calls Try.prog 8 #[.int .u8 k, v] w fun e w' => e = .returned (.tuple #[.slice none 0 0, .int .i64 4]) ∧ w = w' := by
  obtain ⟨p, cap, rfl, _⟩ := hv.any
  have hm := hv.short
  unfold maxLen at hm
  clear hv
  go_enter Try.func8, Try.ntmps8
  go_wp2
  go_ret2
  exact ⟨rfl, rfl⟩

set_option maxRecDepth 100000 in
theorem put_any (k : Nat) (v : Value) (l : List Nat) (w : World) (hk : k < 256) (hv : Bytes w v l) (hl : l.length ≤ 4096) :
    Calls Try.prog 8 #[.int .u8 k, v] w fun e w' => ∃ v', e = .returned (.tuple #[v', .int .i64 0]) ∧ w'.ownsRow w.heap.size 5 1 v' (recOf k l).length (cellsOf (recOf k l)) ∧ Below w.heap.size w w' := by
  obtain ⟨p, cap, rfl, _⟩ := hv.any
  have HV := Lib.hid hv; clear hv
  have hmk := made_run 0 (9 + l.length) 0 (9 + (l.length : Int)) rfl (by omega) (by omega) (by omega)
  go_enter Try.func8, Try.ntmps8
  go_wp2_with fail
  clear hmk
  refine (putNumber_any w.heap.size _ [] l.length _ (World.ownsRow_made w (zeros (9 + l.length)) (9 + l.length) (Nat.le_refl _) (by unfold maxLen; omega) (by rw [zeros_size, Nat.mul_one])) (by simp) (by omega) (by simp)).mono ?_
  rintro e w1 ⟨v1, rfl, ho1, hg1⟩
  have HO1 := Lib.hid ho1
  have HB1 : Hid (Below w.heap.size w w1) := ((Below.refl _ _).alloc (Nat.le_refl _) _).grown hg1 (by simp) (by simp [Value.ownBlock])
  clear ho1 hg1
  rw [List.nil_append] at HO1
  have hsz1 := HB1.out.size
  have hhl := highOf_length l.length 4
  go_wp2_with (at_builtin; first
    | (refine wpList_append_bytes rfl (.tmp 19) (.tmp 21) byT rfl w.heap.size v1 (highOf l.length 4).length (cellsOf (highOf l.length 4)) rfl (HO1.out.alloc _) (.slice (some ⟨w1.heap.size, 0, none⟩) 1 1) [k] rfl (Bytes.one rfl hk) (by rw [highOf_length]; simp) (by simp; omega) ?_; intro v2 w2 hown2 hgrow2 _
       have HO2 := Lib.hid hown2; have HG2 := Lib.hid (grownBy_alloc hgrow2); have hsz2 := HG2.out.size; clear hown2 hgrow2)
    | (refine wpList_append_bytes rfl (.tmp 23) (.tmp 24) byT rfl w.heap.size v2 ((highOf l.length 4).length + [k].length) (cellsOf (highOf l.length 4) ++ cellsOf [k]) rfl HO2.out (.slice p l.length cap) l rfl (HV.out.below (HB1.out.grown HG2.out hsz1 (fun j hj => (HO1.out.lt j hj).1))) (by rw [highOf_length]; simp; omega) (by omega) ?_; intro v3 w3 hown3 hgrow3 _))
  have hown3' : w3.ownsRow w.heap.size 5 1 v3 (recHead k l).length (cellsOf (recHead k l)) := by
    have e1 : (recHead k l).length = (highOf l.length 4).length + [k].length + l.length := by rw [recHead_length, highOf_length]; simp
    have e2 : cellsOf (recHead k l) = cellsOf (highOf l.length 4) ++ cellsOf [k] ++ cellsOf l := by rw [recHead, cellsOf_append, cellsOf_append, List.append_assoc]
    rw [e1, e2]; exact hown3
  have hb3 : Below w.heap.size w w3 := (HB1.out.grown HG2.out hsz1 (fun j hj => (HO1.out.lt j hj).1)).grown hgrow3 (by omega) (fun j hj => (HO2.out.lt j hj).1)
  have HO3 := Lib.hid hown3'
  have HB3 := Lib.hid hb3
  clear hown3 hgrow3 hown3' hb3 HO1 HB1 HO2 HG2 hsz1 hsz2 hhl
  obtain ⟨p3, c3, rfl⟩ : ∃ p c, v3 = .slice p (recHead k l).length c := by
    rcases HO3.out.2 with ⟨h, h2⟩ | ⟨g, c, _, h, _⟩
    · exact ⟨none, 0, by rw [h]; congr 1; omega⟩
    · exact ⟨_, c, by rw [h]⟩
  have hsm := Lib.hid (recHead_small hk HV.out.small)
  go_wp2_with fail
  refine (sum_any _ (recHead k l) w3 (Bytes.of_owns HO3.out hsm.out (by rw [recHead_length]; unfold maxLen; omega))).mono ?_
  rintro e w4 ⟨rfl, hb4⟩
  have HO4 : Hid (w4.ownsRow w.heap.size 5 1 (.slice p3 (recHead k l).length c3) (recHead k l).length (cellsOf (recHead k l))) := owns_below HO3.out hb4
  have HB4 : Hid (Below w.heap.size w w4) := HB3.out.trans (hb4.mono HB3.out.size)
  have hcs : Hid (Crc.sum (recHead k l) < 4294967296) := Crc.sum_lt _ hsm.out
  clear hb4 HO3 HB3
  go_wp2_with fail
  refine (putNumber_any w.heap.size _ (recHead k l) _ w4 HO4.out HB4.out.size hcs.out (by rw [recHead_length]; omega)).mono ?_
  rintro e w5 ⟨v5, rfl, ho5, hg5⟩
  have HO5 := Lib.hid ho5
  have HB5 : Hid (Below w.heap.size w w5) := HB4.out.grown hg5 HB4.out.size (fun j hj => (HO4.out.lt j hj).1)
  clear ho5 hg5
  go_wp2
  go_ret2
  exact ⟨_, rfl, HO5.out, HB5.out⟩
end Go.Proofs.Ytjpcddgclimmgaa
