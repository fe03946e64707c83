/- The disk: what survives: bits, drawn one after the other. -/
import Derived.Test.YtldkeelgnfegeaaGreatMDskN

namespace Go.Proofs.YtldkeelgnfegeaaGreat
open Go Go.RowKit Go.By

/-- Does the j-th piece survive? -/
def drawBit (bits : List Nat) (j : Nat) : Bool := decide (1 + j / 8 < bits.length) && (atB bits (1 + j / 8) / 2 ^ (j % 8) % 2 == 1)

structure LotsIs (lb : Nat) (bv : Value) (bits : List Nat) (i : Nat) (w : World) : Prop where
  heap : w.heap[lb]? = some (.cells #[bv, .int .i64 i] 69 (0, 0))
  bytes : Bytes w bv bits
  apart : bits ≠ [] → bv.ownBlock ≠ some lb

theorem and_one8 (a : Nat) (ha : a < 256) : bits .and .u8 (a : Int) 1 = ((a % 2 : Nat) : Int) := by
  have h : ((1 : Nat) : Int) = (1 : Int) := rfl
  rw [← h]
  rw [(bits_nat .u8 8 (by decide) (fun n h0 h1 => by rw [IntKind.wrap_u8]; omega) a 1 (by omega) (by omega)).1, Nat.and_one_is_mod]

set_option maxRecDepth 100000 in
theorem draw_any (lb : Nat) (bv : Value) (bits : List Nat) (i : Nat) (w : World) (h : LotsIs lb bv bits i w) (hi : i < drawLim) :
    Calls Tryz.prog 32 #[.pointer (some ⟨lb, 0, none⟩)] w fun e w' => e = .returned (.bool (drawBit bits i)) ∧ LotsIs lb bv bits (i + 1) w' ∧ w.grownBy w' (some lb) := by
  have hil : (i : Int) < 1152921504606846976 := by unfold drawLim at hi; omega
  obtain ⟨hh, hb, hap⟩ := h
  obtain ⟨p, c, rfl, hsp⟩ := hb.any
  have c0 : w.cell? ⟨lb, 0, none⟩ = some (.slice p bits.length c) := cells_of hh 0
  have c1 : w.cell? ⟨lb, 1, none⟩ = some (.int .i64 i) := cells_of hh 1
  have f := free_of hh
  have s1 := set_heap hh 1 (.int .i64 ((i + 1 : Nat) : Int))
  have hlt : lb < w.heap.size := (Array.getElem?_eq_some_iff.1 hh).1
  have hbl : bits.length ≤ 9223372036854775807 := by have := hb.short; unfold maxLen at this; omega
  have fin : LotsIs lb (.slice p bits.length c) bits (i + 1) (w.setCell ⟨lb, 1, none⟩ (.int .i64 ((i + 1 : Nat) : Int))) ∧ w.grownBy (w.setCell ⟨lb, 1, none⟩ (.int .i64 ((i + 1 : Nat) : Int))) (some lb) := by
    refine ⟨⟨s1.1, ?_, hap⟩, ⟨rfl, rfl, rfl, by simp, fun k _ hk => s1.2 k (fun e => hk (by rw [e]))⟩⟩
    refine ⟨?_, hb.small, hb.short⟩
    rcases hb.out with h1 | h1 | ⟨b, off, cap, h1, h2, hc⟩
    · exact .inl h1
    · exact .inr (.inl h1)
    · exact .inr (.inr ⟨b, off, cap, h1, h2, fun j hj => (World.cell?_of_block (s1.2 b (by rintro rfl; exact hap (by rintro rfl; simp at hj) (by rw [h1]; rfl)))).trans (hc j hj)⟩)
  rw [show ((i + 1 : Nat) : Int) = (i : Int) + 1 by omega] at fin
  have FIN := Lib.hid fin
  obtain ⟨q, hq⟩ : ∃ q, i / 8 = q := ⟨_, rfl⟩
  obtain ⟨m, hm⟩ : ∃ m, i % 8 = m := ⟨_, rfl⟩
  have hqi : (i : Int) / 8 = q := by omega
  have hmi : (i : Int) % 8 = m := by omega
  have hq2 : Int.tdiv (i : Int) 8 = q := by rw [Int.tdiv_eq_ediv_of_nonneg (by omega)]; exact hqi
  have hm2 : Int.tmod (i : Int) 8 = m := by rw [Int.tmod_eq_emod_of_nonneg (by omega)]; exact hmi
  have hdb : drawBit bits i = (decide (1 + q < bits.length) && (atB bits (1 + q) / 2 ^ m % 2 == 1)) := by unfold drawBit; rw [hq, hm]
  have HDB := Lib.hid hdb
  have hql : (q : Int) < 1152921504606846976 := by omega
  have hm8 : m < 8 := by omega
  by_cases hin : 1 + q < bits.length
  · have hcl : atB bits (1 + q) < 256 := hb.at_lt hin
    obtain ⟨b, off, rfl, hcell⟩ := hsp (1 + q) hin
    have hin' : 1 + (q : Int) < bits.length := by omega
    have hne : ¬ b = lb := by rintro rfl; exact hap (by rintro rfl; simp at hin) rfl
    obtain ⟨J, hJ⟩ : ∃ J, 1 + q = J := ⟨_, rfl⟩
    have hJi : 1 + (q : Int) = (J : Int) := by omega
    rw [hJi] at hin'
    obtain ⟨x, hx⟩ : ∃ x, atB bits (1 + q) = x := ⟨_, rfl⟩
    rw [hx] at hcell hcl
    rw [hJ] at hcell
    obtain ⟨y, hy⟩ : ∃ y, x / 2 ^ m = y := ⟨_, rfl⟩
    have hyl : y < 256 := by rw [← hy]; exact Nat.lt_of_le_of_lt (Nat.div_le_self _ _) hcl
    have hxm : (x : Int) / 2 ^ m = (y : Int) := by rw [← hy]; rfl
    have hand := and_one8 y hyl
    have HX := Lib.hid hx; have HY := Lib.hid hy
    have hin2 : Hid (1 + q < bits.length) := hin
    clear hJ
    clear hh hb hap hsp s1 hlt fin hq hm hdb hq2 hm2 hm8 hcl hy hx hyl hi hin hbl
    rcases Nat.mod_two_eq_zero_or_one y with hz | hz
    all_goals
      rw [hz] at hand
      have HZ := Lib.hid hz
      clear hz
      go_enter Tryz.func32, Tryz.ntmps32
      go_wp2
      go_ret
      rw [HDB.out, HX.out, HY.out, HZ.out]
      exact ⟨by rw [decide_eq_true hin2.out]; rfl, FIN.out⟩
  · have hin' : ¬ 1 + (q : Int) < bits.length := by omega
    have hin2 : Hid (¬ 1 + q < bits.length) := hin
    clear hh hb hap hsp s1 hlt fin hq hm hdb hq2 hm2 hm8 hi hin hbl
    go_enter Tryz.func32, Tryz.ntmps32
    go_wp2
    go_ret
    rw [HDB.out]
    exact ⟨by rw [decide_eq_false hin2.out]; rfl, FIN.out⟩
end Go.Proofs.YtldkeelgnfegeaaGreat
