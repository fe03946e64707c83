/- The law FileHolds: every call of it returns true, and all that was there before the call is as it was. No condition. -/
import Derived.Test.YtldkeelgnfegeaaGreatRows
import Derived.Test.YtldkeelgnfegeaaGreatMFlK
import Derived.Test.YtldkeelgnfegeaaGreatMFlL
import Derived.Test.YtldkeelgnfegeaaGreatMFlM

namespace Go.Proofs.YtldkeelgnfegeaaGreat
open Go Go.ChangeShapes Go.WideShapes Go.ChangeAt Go.RowKit Go.By

def tA : ByteArray := ⟨#[97]⟩
theorem tA_may : mayName tA = true := by decide +kernel
def kpA : List (ByteArray × Nat) := [(tA, 1)]
/-- What was held at the i-th time. -/
def hs (i : Nat) : List Nat := if i = 0 then zero128 else slotOf i [i, 7]
def hA (i : Nat) : List Nat := if i % 2 = 0 then hs i else hs (i - 1)
def hB (i : Nat) : List Nat := if i % 2 = 0 then hs (i - 1) else hs i
theorem hs_length (i : Nat) : (hs i).length = 128 := by
  unfold hs
  split
  · exact zero128_length
  · exact slotOf_length (show 2 ≤ 113 by decide)
theorem hA_length (i : Nat) : (hA i).length = 128 := by unfold hA; split <;> exact hs_length _
theorem hB_length (i : Nat) : (hB i).length = 128 := by unfold hB; split <;> exact hs_length _
theorem h_next (i : Nat) : (if (i + 1) % 2 = 0 then slotOf (i + 1) [i + 1, 7] else hA i) = hA (i + 1) ∧ (if (i + 1) % 2 = 0 then hB i else slotOf (i + 1) [i + 1, 7]) = hB (i + 1) := by
  have h1 : hs (i + 1) = slotOf (i + 1) [i + 1, 7] := by unfold hs; rw [if_neg (by omega)]
  unfold hA hB
  rw [Nat.add_sub_cancel]
  by_cases h : (i + 1) % 2 = 0
  · rw [if_pos h, if_pos h, if_pos h, if_pos h, if_neg (by omega), h1]
    exact ⟨rfl, rfl⟩
  · rw [if_neg h, if_neg h, if_neg h, if_neg h, if_pos (by omega), h1]
    exact ⟨rfl, rfl⟩
theorem hs_small {i : Nat} (hi : i < 256) : ∀ c ∈ [i, 7], c < 256 := by
  intro c hc
  simp at hc
  omega
theorem hs_slot {i : Nat} (h0 : i ≠ 0) (hi : i < 256) : isSlot (hs i) = true ∧ slotGen (hs i) = i ∧ slotBody (hs i) = [i, 7] := by
  unfold hs
  rw [if_neg h0]
  exact ⟨isSlot_slot (show 2 ≤ 113 by decide) (hs_small hi), gen_slot (by omega), body_slot _ _⟩
theorem hs_less {i : Nat} (h0 : i ≠ 0) (hi : i < 256) : isSlot (hs (i - 1)) = false ∨ slotGen (hs (i - 1)) < i := by
  by_cases h1 : i - 1 = 0
  · rw [h1]; exact .inl isSlot_zero
  · rw [(hs_slot h1 (by omega)).2.1]; exact .inr (by omega)
theorem h_better {i : Nat} (h0 : i ≠ 0) (hi : i < 256) : btGen (hA i) (hB i) = i ∧ btBody (hA i) (hB i) = [i, 7] ∧ btErr (hA i) (hB i) = 0 := by
  obtain ⟨g1, g2, g3⟩ := hs_slot h0 hi
  have hl := hs_less h0 hi
  unfold hA hB
  by_cases h : i % 2 = 0
  · rw [if_pos h, if_pos h]
    have := bt_first (a := hs i) (b := hs (i - 1)) g1 (hl.imp id (fun h => by omega))
    rw [g2, g3] at this
    exact this
  · rw [if_neg h, if_neg h]
    have := bt_second (a := hs (i - 1)) (b := hs i) g1 (hl.imp id (fun h => by omega))
    rw [g2, g3] at this
    exact this

/-- What the loop keeps, ahead of the i-th time. -/
structure FH (W : World) (a g k i : Nat) (ops : Nat) (os : List ByteOp) (K0 : List Nat) (own : Own) (w : World) : Prop where
  disk : Dsk W a (oneF tA 1048576 ops 0 kpA [] (K3 (hA (i - 1)) (hB (i - 1)) []) K0 os) own w
  file : Fil W g a tA 256 own w
  redone : Redone (K3 (hA (i - 1)) (hB (i - 1)) []) K0 os
  fops : ops ≤ 1 + 2 * i
  fos : os.length ≤ 5
  pos : 1 ≤ i
  last : 2 ≤ i → (i ≤ k + 1 → os = [] ∧ K0 = K3 (hA (i - 1)) (hB (i - 1)) []) ∧ (i = k + 2 → os = [.write ((k + 1) % 2 * 128) (slotOf (k + 1) [k + 1, 7])] ∧ K0 = K3 (hA k) (hB k) [])

/-- What a crash leaves. -/
theorem hold_left {W : World} {a g k more ops : Nat} {os : List ByteOp} {K0 : List Nat} {own : Own} {w : World} {bit : Nat → Bool} (h : FH W a g k (k + more + 1) ops os K0 own w) (hm : more ≤ 1) (hk : 1 ≤ k ∧ k ≤ 20) :
    ∃ r, (r = k ∨ r = k + more) ∧ (redoOps bit os 0 K0).1 = K3 (hA r) (hB r) [] ∧ ∀ j, (redoOps bit os j K0).1.length ≤ 1099511627776 := by
  by_cases h0 : more = 0
  · subst h0
    obtain ⟨l1, l2⟩ := (h.last (by omega)).1 (by omega)
    subst l1
    rw [show k + 0 + 1 - 1 = k by omega] at l2
    refine ⟨k, .inl rfl, l2, fun j => ?_⟩
    show K0.length ≤ _
    rw [l2, K3_length (hA_length _) (hB_length _)]; decide
  · obtain rfl : more = 1 := by omega
    obtain ⟨l1, l2⟩ := (h.last (by omega)).2 (by omega)
    subst l1 l2
    have hl : (slotOf (k + 1) [k + 1, 7]).length = 128 := slotOf_length (show 2 ≤ 113 by decide)
    have hone : ∀ j, (redoOps bit [.write ((k + 1) % 2 * 128) (slotOf (k + 1) [k + 1, 7])] j (K3 (hA k) (hB k) [])).1 = if bit j then K3 (hA (k + 1)) (hB (k + 1)) [] else K3 (hA k) (hB k) [] := fun j => by
      show (redoWrite _ _ bit _ 0 j _).1 = _
      rw [redo_sector hl (by omega)]
      have hn := h_next k
      by_cases hp : (k + 1) % 2 = 0
      · rw [if_pos hp] at hn
        rw [if_pos hp] at hn
        rw [hp, Nat.zero_mul, K3_zero (hA_length _) hl, hn.1, hn.2]
      · have hp1 : (k + 1) % 2 = 1 := by omega
        rw [if_neg hp] at hn
        rw [if_neg hp] at hn
        rw [hp1, Nat.one_mul, K3_one (hB_length _) (hA_length _) hl, hn.1, hn.2]
    have hlen : ∀ j, (redoOps bit [.write ((k + 1) % 2 * 128) (slotOf (k + 1) [k + 1, 7])] j (K3 (hA k) (hB k) [])).1.length ≤ 1099511627776 := fun j => by
      rw [hone]
      split
      · rw [K3_length (hA_length _) (hB_length _)]; decide
      · rw [K3_length (hA_length _) (hB_length _)]; decide
    by_cases hb : bit 0 = true
    · exact ⟨k + 1, .inr rfl, by rw [hone, if_pos hb], hlen⟩
    · exact ⟨k, .inl rfl, by rw [hone, if_neg hb], hlen⟩

theorem free_old {W w : World} {v : Value} {l : List Nat} {own : Own} (hb : Bytes w v l) (hw : w.heap.size ≤ W.heap.size) (far : ∀ k r, own k = some r → W.heap.size ≤ k) (hne : l ≠ []) : ∀ k, v.ownBlock = some k → own k = none := by
  intro k hk
  rcases hb.out with ⟨_, h1⟩ | ⟨_, _, h1⟩ | ⟨b, off, cap, rfl, h2, hc⟩
  · exact absurd h1 hne
  · exact absurd h1 hne
  · cases hk
    have hlt : b < w.heap.size := block_lt_of_cell (hc 0 (List.length_pos_iff.2 hne))
    cases e : own b with
    | none => rfl
    | some r => have := far b r e; omega

set_option maxRecDepth 100000 in
set_option maxHeartbeats 40000000 in
theorem holds_any (n m : Nat) (hn : n < 256) (hm : m < 256) (bv : Value) (bits : List Nat) (w : World) (hbits : Bytes w bv bits) :
    Calls Tryz.prog 5 #[.int .u8 n, .int .u8 m, bv] w fun e w' => e = .returned (.bool true) ∧ Below w.heap.size w w' := by
  obtain ⟨q, cq, rfl, _⟩ := hbits.any
  have hcq := hbits.short
  unfold maxLen at hcq
  have HBITS := Lib.hid hbits
  clear hbits
  by_cases hn20 : 20 < bits.length
  · have hd : (20 : Int) < bits.length := by omega
    go_enter Tryz.func5, Tryz.ntmps5
    go_wp2_with (go_at_call 6; refine (begun_any _).mono ?_; rintro e w1 ⟨rfl, hb1⟩)
    have HB1 := Lib.hid hb1; clear hb1
    go_wp2
    go_ret
    exact ⟨rfl, HB1.out⟩
  have hn20' : ¬ (20 : Int) < bits.length := by omega
  go_enter Tryz.func5, Tryz.ntmps5
  go_wp2_with (go_at_call 6; refine (begun_any _).mono ?_; rintro e w1 ⟨rfl, hb1⟩)
  have HB1 := Lib.hid hb1; clear hb1
  refine (new_any 1048576 w1).mono ?_
  rintro e w2 ⟨rfl, hd2, hb2⟩
  have HD2 := Lib.hid (Dsk.new hd2 hb2)
  clear hd2 hb2
  go_wp2_with fail
  refine (new_file tA tA_may (by decide) 1048576 (by omega) HD2.out).mono ?_
  rintro e w3 ⟨g, own3, hg, rfl, hst3, hd3, hf3⟩
  rw [noughts_K3] at hd3
  have HD3 := Lib.hid hd3; have HF3 := Lib.hid hf3
  clear hg hst3 hd3 hf3 HD2
  go_wp2_with fail
  refine (one_syncDir HD3.out (by omega) (by omega)).mono ?_
  rintro e w4 ⟨rfl, own4, hst4, hd4⟩
  have hf4 := HF3.out.steps hst4
  have hre : Redone (K3 zero128 zero128 []) [] [.cut 256] := by rw [← noughts_K3]; exact Redone.new
  obtain ⟨k, hk⟩ : ∃ k, k = 1 + n % 20 := ⟨_, rfl⟩
  obtain ⟨more, hmore⟩ : ∃ more, more = m % 2 := ⟨_, rfl⟩
  have hfh : FH w1 w1.heap.size g k 1 3 [.cut 256] [] own4 w4 := ⟨hd4, hf4, hre, by omega, by decide, by omega, fun h => absurd h (by omega)⟩
  have HFH := Lib.hid hfh
  have hk1 : 1 ≤ k ∧ k ≤ 20 := by omega
  have hm1 : more ≤ 1 := by omega
  have HK : Hid (1 + (n : Int) % 20 = k) := by unfold Hid; omega
  have HM : Hid ((m : Int) % 2 = more) := by unfold Hid; omega
  clear hst4 hd4 hf4 hre hfh HD3 HF3 hk hmore
  go_wp2
  rw [HK.out, HM.out]
  go_loopw [12] (fun x wr => ∃ (i ops : Nat) (os : List ByteOp) (K0 : List Nat) (own : Own), x = .int .i64 i ∧ i ≤ k + more + 1 ∧ FH w1 w1.heap.size g k i ops os K0 own wr) (fun x _ => 30 - (intOf x).toNat)
  case atStart => exact ⟨1, 3, _, [], own4, rfl, by omega, HFH.out⟩
  case round =>
    obtain ⟨i, ops, os, K0, own, rfl, hi, hfh⟩ := hrel
    clear HFH HK HM
    have HFH := Lib.hid hfh
    have hwm : IntKind.i64.wrap ((k : Int) + more) = (k : Int) + more := IntWalk.i64_in _ (by omega)
    by_cases hil : i ≤ k + more
    · have hii : (i : Int) ≤ (k : Int) + more := by omega
      have hi22 : i ≤ 21 := by omega
      have hops := hfh.fops
      have hos := hfh.fos
      have hpos := hfh.pos
      have hho : ∀ t : TypeId, Calls Tryz.prog 15 #[.pointer (some ⟨g, 0, none⟩), .int .u64 i, .slice (some ⟨wr.heap.size, 0, none⟩) 2 2] (wr.alloc (.cells #[.int .u8 i, .int .u8 7] t)) fun e w' => e = .returned (.int .i64 0) ∧
          ∃ own', Steps own own' wr w' ∧ Dsk w1 w1.heap.size (oneF tA 1048576 (ops + 1) (0 - 1) kpA [] (K3 (hA i) (hB i) []) K0 (os ++ [.write (i % 2 * 128) (slotOf i [i, 7])])) own' w' ∧ Fil w1 g w1.heap.size tA 256 own' w' := fun t => by
        have hb0 := (Below.refl wr.heap.size wr).alloc (Nat.le_refl _) (.cells #[.int .u8 i, .int .u8 7] t)
        have h := one_hold (A := hA (i - 1)) (B := hB (i - 1)) (C := []) (b := [i, 7]) (k := i) (hfh.disk.stay hb0) (hfh.file.stay hb0) tA_may (by decide) (by omega) (hA_length _) (hB_length _) (by omega) (by decide) ⟨by omega, by omega, by decide, by omega⟩ (by omega) (Bytes.lit [i, 7] rfl rfl (hs_small (by omega)) (by show 2 ≤ maxLen; decide)) (show 2 ≤ 113 by decide)
        have hn := h_next (i - 1)
        rw [show i - 1 + 1 = i by omega] at hn
        rw [hn.1, hn.2] at h
        exact h.mono fun e w' ⟨h1, own', h2, h3, h4⟩ => ⟨h1, own', (Steps.of_below hb0).trans h2, h3, h4⟩
      have hr2 := hfh.redone.hold (hA_length _) (hB_length _) i (b := [i, 7]) (show 2 ≤ 113 by decide)
      have hn := h_next (i - 1)
      rw [show i - 1 + 1 = i by omega] at hn
      rw [hn.1, hn.2] at hr2
      have HHO := Lib.hid hho; have HR2 := Lib.hid hr2
      clear hho hr2 hn hfh
      have hu8 : IntKind.u8.wrap (i : Int) = i := IntWalk.u8_in _ (by omega)
      have hu64 : IntKind.u64.wrap (i : Int) = i := IntWalk.u64_in _ (by omega)
      by_cases hik : i ≤ k
      · have hiki : (i : Int) ≤ k := by omega
        go_wp2_with fail
        refine (HHO.out _).mono ?_
        rintro e w6 ⟨rfl, own6, hst6, hd6, hf6⟩
        have HSY := Lib.hid (one_sync hd6 hf6 tA_may (by decide) (by omega) (by omega) (by rw [K3_length (hA_length _) (hB_length _)]; decide) ⟨by omega, by omega, by decide, by rw [List.length_append, List.length_singleton]; omega⟩ HR2.out)
        clear hst6 hd6 hf6 HHO
        go_wp2_with fail
        refine HSY.out.mono ?_
        rintro e w7 ⟨rfl, own7, hst7, hd7, hf7⟩
        have hfh2 : FH w1 w1.heap.size g k (i + 1) (ops + 1 + 1) [] (K3 (hA i) (hB i) []) own7 w7 :=
          ⟨hd7, hf7, rfl, by omega, by decide, by omega, fun _ => ⟨fun _ => ⟨rfl, rfl⟩, fun h => absurd h (by omega)⟩⟩
        have HFH2 := Lib.hid hfh2
        clear hst7 hd7 hf7 hfh2 HSY HR2 HFH
        go_wp2
        exact ⟨⟨i + 1, ops + 1 + 1, [], _, own7, by go_num, by omega, HFH2.out⟩, by simp [intOf]; omega⟩
      · have hiki : ¬ (i : Int) ≤ k := by omega
        go_wp2_with fail
        refine (HHO.out _).mono ?_
        rintro e w6 ⟨rfl, own6, hst6, hd6, hf6⟩
        obtain rfl : i = k + 1 := by omega
        obtain ⟨l1, l2⟩ := (HFH.out.last (by omega)).1 (by omega)
        subst l1
        have hfh2 : FH w1 w1.heap.size g k (k + 1 + 1) (ops + 1) [.write ((k + 1) % 2 * 128) (slotOf (k + 1) [k + 1, 7])] (K3 (hA k) (hB k) []) own6 w6 :=
          ⟨by rw [l2] at hd6; exact hd6, hf6, by have := HR2.out; rw [l2] at this; exact this, by omega, Nat.le_trans (Nat.le_refl 1) (by omega), by omega, fun _ => ⟨fun h => absurd h (by omega), fun _ => ⟨rfl, rfl⟩⟩⟩
        have HFH2 := Lib.hid hfh2
        clear hst6 hd6 hf6 hfh2 HR2 HFH HHO l2
        go_wp2
        exact ⟨⟨k + 1 + 1, ops + 1, _, _, own6, by go_num, by omega, HFH2.out⟩, by simp [intOf]; omega⟩
    · have hii : ¬ (i : Int) ≤ (k : Int) + more := by omega
      obtain rfl : i = k + more + 1 := by omega
      have hops := hfh.fops
      have hos := hfh.fos
      have hcr : ∃ r, (r = k ∨ r = k + more) ∧ leftK bits K0 os = K3 (hA r) (hB r) [] ∧ ∀ j, (redoOps (drawBit bits) os j K0).1.length ≤ 1099511627776 := hold_left HFH.out hm1 (by omega)
      obtain ⟨r, hr, hlk, hlong⟩ := hcr
      have hcrash := one_crash (bits := bits) hfh.disk (by decide) ((HBITS.out.below HB1.out).below hfh.disk.below) (fun hne => free_old HBITS.out HB1.out.size hfh.disk.far hne) (by omega) hlong
      rw [hlk] at hcrash
      have HCR := Lib.hid hcrash
      have hr0 : r ≠ 0 ∧ r ≤ 21 := by omega
      have HRR := Lib.hid hr
      clear hfh HFH hlk hlong hcrash hr
      go_wp2_with fail
      refine HCR.out.mono ?_
      rintro e w7 ⟨rfl, own7, hst7, hd7⟩
      have HOP := Lib.hid (one_open hd7 (by rw [K3_length (hA_length _) (hB_length _)]; omega))
      clear hst7 hd7 HCR
      go_wp2_with fail
      refine HOP.out.mono ?_
      rintro e w8 ⟨g2, hg2, rfl, hb8, hd8, hf8⟩
      obtain ⟨b1, b2, b3⟩ := h_better hr0.1 (show r < 256 by omega)
      have HHL := Lib.hid (one_held (k := r) (b := [r, 7]) hd8 hf8 tA_may (by decide) (by omega) (hA_length _) (hB_length _) (by omega) (by decide) ⟨by omega, by omega, by decide, by decide⟩ b1 b2 b3)
      clear hg2 hb8 hd8 hf8 b1 b2 b3 HOP
      go_wp2_with fail
      refine HHL.out.mono ?_
      rintro e w9 ⟨p9, c9, rfl, hy9, hst9, hd9, hf9⟩
      have HB9 := Lib.hid (HB1.out.trans (hd9.below.mono HB1.out.size))
      have HY9 := Lib.hid hy9
      clear hy9 hst9 hd9 hf9 HHL
      have c1 := HY9.out.toString byT (P := Tryz.prog) (d := 9) (by kernel_rfl)
      have c2 : ∀ t : TypeId, (Go.convert 23 9 (.slice (some ⟨w9.heap.size, 0, none⟩) 2 2)).run Tryz.prog (w9.alloc (.cells #[.int .u8 r, .int .u8 7] t)) = .ok (.string (Go.By.strOf [r, 7])) (w9.alloc (.cells #[.int .u8 r, .int .u8 7] t)) := fun t =>
        (Bytes.lit (w := w9) (e := t) [r, 7] rfl rfl (hs_small (by omega)) (by show 2 ≤ maxLen; decide)).toString byT (P := Tryz.prog) (d := 9) (by kernel_rfl)
      rw [show [r, 7].length = 2 from rfl] at c1
      have hu8 : IntKind.u8.wrap (r : Int) = r := IntWalk.u8_in _ (by omega)
      have hu64 : IntKind.u64.wrap (k : Int) = k := IntWalk.u64_in _ (by omega)
      have hu642 : IntKind.u64.wrap ((k : Int) + more) = (k : Int) + more := IntWalk.u64_in _ (by omega)
      clear HY9
      by_cases hrk : r = k
      · have hq1 : ((r : Int) == k) = true := by simp [hrk]
        have HRK := Lib.hid hrk
        clear hrk HRR
        go_wp2
        go_ret
        exact ⟨rfl, HB9.out.alloc HB9.out.size _⟩
      · have hq1 : ((r : Int) == k) = false := by simp; omega
        have hq2 : ((r : Int) == (k : Int) + more) = true := by
          have := HRR.out
          simp; omega
        have HRK := Lib.hid hrk
        clear hrk HRR
        go_wp2
        go_ret
        exact ⟨rfl, HB9.out.alloc HB9.out.size _⟩

set_option maxRecDepth 100000 in
theorem holds_lifted (os : Os) (started : os.Started) (H : Type) (enc : TypeId × Value → H) :
    ReturnsInHanded {} Tryz.checked os 5 .any (Rows.fileHoldsSpec.pre6 enc Tryz.prog Tryz.f5 Rows.fileHoldsRow.domain false) (Rows.fileHoldsSpec.post enc Tryz.prog Tryz.f5 false true false false) := by
  refine returnsInHanded_of_change (C := Tryz.checked) Sl.own_none started (by kernel_rfl) Tryz.func5
    (ChangeSpec.witness6 (enc := enc) (C := Tryz.checked) false ⟨#[], #[.int .u8 0, .int .u8 0, .slice none 0 0], []⟩ 8 (by kernel_rfl) (by kernel_rfl) (by kernel_rfl) (by kernel_rfl)) ?_
  intro W base args ds gs before hval0 hW hcnd _
  have hval : ∀ (j : Nat) t v, Tryz.f5.params[j]? = some t → args[j]? = some v → Value.okWide Tryz.prog W .any base t v := hval0
  have hW' := hW
  obtain ⟨p, q, hA0, hV, rfl, hfz, hnd⟩ := hW
  have hA : DataW.TrodAll enc Tryz.prog W 0 (fun _ => true) true Tryz.f5.params.toList args.toList ds p := hA0
  have hp : Tryz.f5.params = #[5, 5, 23] := by kernel_rfl
  rw [hp] at hA hval
  obtain ⟨v0, v1, v2, d0, d1, d2, p0, p1, p2, rfl, rfl, rfl, h0, h1, h2⟩ := trodAll_three hA
  obtain ⟨rfl, rfl⟩ := trodVars_none hV
  obtain ⟨n, rfl, _, _, wn⟩ := open_int (P := Tryz.prog) (t := 5) (k := .u8) (by kernel_rfl) (hval 0 5 v0 rfl rfl) h0
  obtain ⟨n, rfl, hn⟩ := u8_of_wf wn
  obtain ⟨m, rfl, _, _, wm⟩ := open_int (P := Tryz.prog) (t := 5) (k := .u8) (by kernel_rfl) (hval 1 5 v1 rfl rfl) h1
  obtain ⟨m, rfl, hm⟩ := u8_of_wf wm
  obtain ⟨bits, hbits⟩ := open_bytes (P := Tryz.prog) byT (by kernel_rfl) (hval 2 23 v2 rfl rfl) h2
  refine (holds_any n m hn hm v2 bits W hbits).mono fun e W' ⟨he, hb⟩ => ?_
  subst he
  exact ⟨_, rfl, law_post (tb := 4) Sl.laidOut (by rw [hp]; intro t ht; simp at ht; rcases ht with rfl | rfl <;> exact ⟨by kernel_rfl, by decide +kernel⟩) rfl rfl (by kernel_rfl) (by kernel_rfl) hW' hb⟩

theorem fileHolds_holds : Rows.FileHoldsSaid :=
  OpenClaim.holds_of_wide 5 Tryz.f5 rfl rfl rfl rfl rfl rfl rfl ⟨rfl, rfl, rfl, rfl, rfl⟩ rfl rfl rfl rfl rfl (by kernel_rfl) Tryz.func5 (by kernel_rfl)
    (of_decide_eq_true (by kernel_rfl)) (by unfold Func.isWrapper; rw [if_neg (by decide +kernel)]; exact ⟨rfl, rfl⟩)
    (fun os started H enc _ => holds_lifted os started H enc)
end Go.Proofs.YtldkeelgnfegeaaGreat
