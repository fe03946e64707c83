/- The law SlotTurns: whatever the generation, the bodies, the place and the turn, every call of it returns true, and all that was there before the call is as it was. No condition. -/
import Derived.Test.YtjkbhlfgkpopdaaRows
import Derived.Test.YtjkbhlfgkpopdaaSlJ
import Derived.Deep.RegionHeld3
namespace Go.Proofs.Ytjkbhlfgkpopdaa
open Go.ChangeShapes Go.WideShapes Go.ChangeAt Go.RowKit Go.By Go

/-- What the slot that was written last has, ahead of round k. -/
def lastSlot (f : Nat) (T : Nat → Value × List Nat) (k : Nat) : List Nat := if k = 0 then nought else slotOf (f + k - 1) (T (k - 1)).2

/-- A sector of one's own, at a block that is not that of the two places. -/
structure Own1 (w : World) (s : Nat) (v : Value) (l : List Nat) : Prop where
  out : ∃ b c, v = .slice (some ⟨b, 0, none⟩) 128 c ∧ b ≠ s ∧ Bytes w (.slice (some ⟨b, 0, none⟩) 128 c) l
theorem Own1.below {w w' : World} {s : Nat} {v : Value} {l : List Nat} (h : Own1 w s v l) (hb : Below w.heap.size w w') : Own1 w' s v l := by
  obtain ⟨b, c, h1, h2, h3⟩ := h.out
  exact ⟨b, c, h1, h2, h3.below hb⟩
theorem Own1.setCell {w : World} {s i : Nat} {v u : Value} {l : List Nat} (h : Own1 w s v l) : Own1 (w.setCell ⟨s, i, none⟩ u) s v l := by
  obtain ⟨b, c, h1, h2, h3⟩ := h.out
  exact ⟨b, c, h1, h2, Bytes.setCell_ne h3 h2⟩

/-- What the rounds keep: the two places at block s. -/
structure TurnRel (w0 : World) (s f n : Nat) (T : Nat → Value × List Nat) (k : Nat) (w : World) : Prop where
  out : ∃ u0 u1 l0 l1, w.heap[s]? = some (.cells #[u0, u1] 23 (0, 0)) ∧ Own1 w s u0 l0 ∧ Own1 w s u1 l1 ∧ (if (f + k) % 2 = 0 then l1 else l0) = lastSlot f T k
  below : Below w0.heap.size w0 w
  late : w0.heap.size ≤ s
  le : k ≤ n
  len : k ≠ 0 → (T (k - 1)).2.length ≤ 100

theorem heap_drew (w : World) (k : Nat) : w.drew.heap[k]? = w.heap[k]? := rfl
/-- Three blocks laid in a row. -/
theorem turn_start {w w1 : World} (hb : Below w.heap.size w w1) (f n : Nat) (T : Nat → Value × List Nat) (i j : Nat) (hij : (i = w1.heap.size ∧ j = w1.heap.size + 1) ∨ (i = w1.heap.size + 1 ∧ j = w1.heap.size)) :
    TurnRel w (w1.heap.size + 1 + 1) f n T 0 ((((w1.alloc (.cells (zeros 128) 5)).alloc (.cells (zeros 128) 5)).alloc (.cells #[.slice (some ⟨i, 0, none⟩) 128 128, .slice (some ⟨j, 0, none⟩) 128 128] 23)).drew) := by
  have hz := hb.size
  have z1 : (w1.alloc (.cells (zeros 128) 5)).heap.size = w1.heap.size + 1 := by simp
  have z2 : ((w1.alloc (.cells (zeros 128) 5)).alloc (.cells (zeros 128) 5)).heap.size = w1.heap.size + 1 + 1 := by simp
  have b1 := nought_bytes w1
  have b2 := nought_bytes (w1.alloc (.cells (zeros 128) 5))
  rw [z1] at b2
  generalize hwa : w1.alloc (.cells (zeros 128) 5) = wa at *
  generalize hwb : wa.alloc (.cells (zeros 128) 5) = wb at *
  have b1' : Bytes wb (.slice (some ⟨w1.heap.size, 0, none⟩) 128 128) nought := by rw [← hwb]; exact b1.below ((Below.refl _ _).alloc (Nat.le_refl _) _)
  have hbb : Below w.heap.size w wb := by
    rw [← hwb, ← hwa]
    exact (hb.alloc hz _).alloc (by simp; omega) _
  have own : ∀ i o, (i = w1.heap.size ∨ i = w1.heap.size + 1) → Own1 (wb.alloc o).drew (w1.heap.size + 1 + 1) (.slice (some ⟨i, 0, none⟩) 128 128) nought := fun i o hi => by
    refine ⟨i, 128, rfl, by omega, ?_⟩
    rcases hi with rfl | rfl
    · exact bytes_drewN (b1'.below ((Below.refl _ _).alloc (Nat.le_refl _) _)) 1
    · exact bytes_drewN (b2.below ((Below.refl _ _).alloc (Nat.le_refl _) _)) 1
  refine ⟨⟨_, _, nought, nought, ?_, own i _ (by omega), own j _ (by omega), by unfold lastSlot; simp⟩, (hbb.alloc (by omega) _).drew, by omega, Nat.zero_le _, fun h => absurd rfl h⟩
  have := heap_alloc_new wb (.cells #[.slice (some ⟨i, 0, none⟩) 128 128, .slice (some ⟨j, 0, none⟩) 128 128] 23)
  rw [z2] at this
  exact this
theorem last_zero (f : Nat) (T : Nat → Value × List Nat) : lastSlot f T 0 = nought := rfl
theorem last_succ (f : Nat) (T : Nat → Value × List Nat) {k : Nat} (h : k ≠ 0) : lastSlot f T k = slotOf (f + k - 1) (T (k - 1)).2 := if_neg h
theorem last_less (f : Nat) (T : Nat → Value × List Nat) (k : Nat) (h : f + k < 18446744073709551616) : isSlot (lastSlot f T k) = false ∨ slotGen (lastSlot f T k) < f + k := by
  by_cases hk : k = 0
  · subst hk
    exact .inl isSlot_nought
  · rw [last_succ f T hk, gen_slot (by omega)]
    exact .inr (by omega)
theorem last_length (f : Nat) (T : Nat → Value × List Nat) (k : Nat) (h : k ≠ 0 → (T (k - 1)).2.length ≤ 100) : (lastSlot f T k).length = 128 := by
  by_cases hk : k = 0
  · subst hk
    exact nought_length
  · rw [last_succ f T hk]
    exact slotOf_length (by have := h hk; omega)
theorem better_at (u v : Value) (a b : List Nat) (w w' : World) (W G E : Int) (m : List Nat) (n : Nat) (e1 : w'.heap = w.heap) (e2 : w'.os = w.os) (e3 : w'.tape = w.tape) (e4 : w'.output = w.output) (hu : Bytes w u a) (hv : Bytes w v b) (ha : a.length ≤ 17592186044416) (hb : b.length ≤ 17592186044416)
    (hW : (btWhich a b : Int) = W) (hG : (btGen a b : Int) = G) (hE : (btErr a b : Int) = E) (hm : btBody a b = m) (hn : m.length = n) :
    Calls Try.prog 12 #[u, v] w' fun e w'' => ∃ p c, e = .returned (.tuple #[.int .i64 W, .int .u64 G, .slice p n c, .int .i64 E]) ∧ Bytes w'' (.slice p n c) m ∧ Below w.heap.size w w'' := by
  have hb0 : Below w.heap.size w w' := ⟨e2, e3, e4, by rw [e1]; exact Nat.le_refl _, fun k _ => by rw [e1]⟩
  refine (better_lit u v a b w' W G E m n (hu.below hb0) (hv.below hb0) ha hb hW hG hE hm hn).mono ?_
  rintro e w'' ⟨p, c, h1, h2, h3⟩
  exact ⟨p, c, h1, h2, hb0.trans (h3.mono hb0.size)⟩
theorem better_keeps {w9 w' : World} {X0 X1 : Value} {s n : Nat} {W G E : Int} {m : List Nat} {f : FuncId} {args : Array Value} (hd : ∀ w10, Below w9.heap.size w9 w10 → w10.cell? ⟨s, 0, none⟩ = some X0 ∧ w10.cell? ⟨s, 1, none⟩ = some X1)
    (h : Calls Try.prog f args w' fun e w'' => ∃ p c, e = .returned (.tuple #[.int .i64 W, .int .u64 G, .slice p n c, .int .i64 E]) ∧ Bytes w'' (.slice p n c) m ∧ Below w9.heap.size w9 w'') :
    Calls Try.prog f args w' fun e w'' => ∃ p c, e = .returned (.tuple #[.int .i64 W, .int .u64 G, .slice p n c, .int .i64 E]) ∧ Bytes w'' (.slice p n c) m ∧ Below w9.heap.size w9 w'' ∧ w''.cell? ⟨s, 0, none⟩ = some X0 ∧ w''.cell? ⟨s, 1, none⟩ = some X1 :=
  h.mono fun _ w'' ⟨p, c, h1, h2, h3⟩ => ⟨p, c, h1, h2, h3, hd w'' h3⟩
theorem turn_lift {P : World → Prop} {W w : World} {s f n : Nat} {T : Nat → Value × List Nat} (h : TurnRel w s f n T 0 W) (k : ∀ W, TurnRel w s f n T 0 W → P W) : P W := k W h

set_option maxRecDepth 100000 in
set_option maxHeartbeats 40000000 in
theorem turns_any (f a y : Nat) (p : Option Addr) (n cap : Nat) (T : Nat → Value × List Nat) (w : World) (hf : f < 4294967296) (hT : BodyRow w p n cap T) (ha : a < 256) (hy : y < 256) :
    Calls Try.prog 4 #[.int .u32 f, .slice p n cap, .int .u8 a, .int .u8 y] w fun e w' => e = .returned (.bool true) ∧ Below w.heap.size w w' := by
  have hcm := hT.most
  have hle := hT.le
  unfold maxLen at hcm
  have HT := Lib.hid hT; clear hT
  by_cases h1 : n < 1
  · have h1' : (n : Int) < 1 := by omega
    clear h1
    go_enter Try.func4, Try.ntmps4
    go_wp2_with (go_at_call 6; refine (begun_any _).mono ?_; rintro e w1 ⟨rfl, hb1⟩)
    have HB1 := Lib.hid hb1; clear hb1
    go_wp2
    go_ret
    exact ⟨rfl, HB1.out⟩
  by_cases h10 : 10 < n
  · have h1' : ¬ (n : Int) < 1 := by omega
    have h10' : (10 : Int) < n := by omega
    clear h1 h10
    go_enter Try.func4, Try.ntmps4
    go_wp2_with (go_at_call 6; refine (begun_any _).mono ?_; rintro e w1 ⟨rfl, hb1⟩)
    have HB1 := Lib.hid hb1; clear hb1
    go_wp2
    go_ret
    exact ⟨rfl, HB1.out⟩
  have h1' : ¬ (n : Int) < 1 := by omega
  have h10' : ¬ (10 : Int) < n := by omega
  clear h1 h10
  have hmk := made_run 128 128 128 128 rfl rfl (Nat.le_refl _) (by omega)
  go_enter Try.func4, Try.ntmps4
  go_wp2_with (go_at_call 6; refine (begun_any _).mono ?_; rintro e w1 ⟨rfl, hb1⟩)
  have HB1 := Lib.hid hb1; clear hb1
  go_wp2
  go_region
  all_goals
    clear hmk
    refine turn_lift (turn_start HB1.out f n T _ _ (by first | exact .inl ⟨rfl, rfl⟩ | exact .inr ⟨rfl, rfl⟩)) ?_
    intro W H0'
    have H0 := Lib.hid H0'; clear H0' HB1
    generalize w1.heap.size + 1 + 1 = s at *
    go_wp2
    go_loopw [10] (fun i wr => ∃ k : Nat, i = .int .i64 k ∧ TurnRel w s f n T k wr) (fun i _ => n - (intOf i).toNat)
    case atStart => exact ⟨0, rfl, H0.out⟩
    case round =>
      clear H0
      obtain ⟨k, rfl, hrel⟩ := hrel
      obtain ⟨u0, u1, l0, l1, hs, hu0, hu1, hlast⟩ := hrel.out
      have hbel := hrel.below
      have hlate := hrel.late
      have hkn := hrel.le
      have HLEN0 := Lib.hid hrel.len
      clear hrel
      by_cases hlt : k < n
      · have hkn' : (k : Int) < n := by omega
        obtain ⟨lb, lo, hp, hbc⟩ := (HT.out.below hbel).at_ k hlt
        have hbw := (HT.out.below hbel).wf k hlt
        obtain ⟨q, c, hv, _⟩ := hbw.any
        rw [hv] at hbc hbw
        obtain ⟨B, hB⟩ : ∃ B, B = (T k).2 := ⟨_, rfl⟩
        rw [← hB] at hbc hbw
        have hBm := hbw.short
        unfold maxLen at hBm
        by_cases hl100 : B.length ≤ 100
        · have hl' : (B.length : Int) ≤ 100 := by omega
          obtain ⟨G, hG⟩ : ∃ G, G = f + k := ⟨_, rfl⟩
          have hGi : (f : Int) + (k : Int) = (G : Int) := by omega
          have hwf := wrap_u64_in (f : Int) (by omega) (by omega)
          have hwk := wrap_u64_in (k : Int) (by omega) (by omega)
          have hwG := wrap_u64_in (G : Int) (by omega) (by omega)
          have HBW := Lib.hid hbw
          have HBE := Lib.hid hbel
          have HU0 := Lib.hid hu0
          have HU1 := Lib.hid hu1
          have HLA := Lib.hid hlast
          have HG := Lib.hid hG
          have HS := Lib.hid hs
          have HB := Lib.hid hB
          subst hp
          clear hbw hbel hu0 hu1 hlast hs hB hBm hv
          obtain ⟨b0, c0, rfl, hne0, hy0⟩ := HU0.out.out
          obtain ⟨b1, c1, rfl, hne1, hy1⟩ := HU1.out.out
          have HY0 := Lib.hid hy0
          have HY1 := Lib.hid hy1
          obtain ⟨j, hj⟩ : ∃ j, j = a % 128 := ⟨_, rfl⟩
          have hj1 : (a : Int) % 128 = j := by omega
          have hj2 : Int.tmod (a : Int) 128 = j := by rw [Int.tmod_eq_emod_of_nonneg (by omega)]; exact hj1
          have hj3 : (j : Int) < 128 := by omega
          have hslt : s < wr.heap.size := (Array.getElem?_eq_some_iff.1 HS.out).1
          have hGs : G < 18446744073709551616 := by omega
          have HGS := Lib.hid hGs
          have HJ : Hid (j < 128) := by unfold Hid; omega
          have HSLT := Lib.hid hslt
          have HYY := Lib.hid hy
          have HLATE := Lib.hid hlate
          have HL100 := Lib.hid hl100
          clear HU0 HU1 hy0 hy1 hj hslt hGs hG hlate
          by_cases hpar : G % 2 = 0
          · have hm1 : (G : Int) % 2 = 0 := by omega
            have hm2 : Int.tmod (G : Int) 2 = 0 := by rw [Int.tmod_eq_emod_of_nonneg (by omega)]; exact hm1
            have hLO : l1 = lastSlot f T k := by
              have := HLA.out
              rw [← HG.out] at this
              rw [if_pos hpar] at this; exact this
            have HLO := Lib.hid hLO
            clear hLO HLA
            go_wp2_with fail
            refine (put_any G _ B wr HGS.out HBW.out (by have := HL100.out; omega)).mono ?_
            rintro e w2 ⟨rfl, hF2⟩
            have hsec := hF2.sec (slotOf_length (by have := HL100.out; omega)) (slotOf_small (by have := HL100.out; omega) HBW.out.small)
            have hz2 : wr.heap.size < w2.heap.size := (Array.getElem?_eq_some_iff.1 hF2.1).1
            have hs2 : w2.heap[s]? = some (.cells #[.slice (some ⟨b0, 0, none⟩) 128 c0, .slice (some ⟨b1, 0, none⟩) 128 c1] 23 (0, 0)) := (hF2.2.block s HSLT.out).trans HS.out
            have HSEC := Lib.hid hsec
            have HB2 := Lib.hid hF2.2
            have HZ2 := Lib.hid hz2
            have HS2 := Lib.hid hs2
            have HLEN : Hid ((slotOf G B).length = 128) := slotOf_length (by have := HL100.out; omega)
            clear hF2 hsec hz2 hs2
            go_wp2_with (at_builtin; refine wpList_append_bytes rfl (.tmp 66) (.tmp 67) byT rfl w2.heap.size (.slice (some ⟨w2.heap.size, 0, none⟩) 0 0) 0 [] rfl (World.ownsRow_made w2 #[] 0 (Nat.le_refl _) (by decide) rfl) (.slice (some ⟨wr.heap.size, 0, none⟩) 128 128) (slotOf G B) rfl (HSEC.out.1.below ((Below.refl _ _).alloc (Nat.le_refl _) _)) (by rw [HLEN.out]; omega) (by simp) ?_; intro v7 w7 hown7 hgrow7 _
                         rw [Nat.zero_add, List.nil_append, HLEN.out] at hown7
                         obtain ⟨g, c7, rfl, hc7, hm7, hg7, hcells, hfree⟩ := own_open hown7 (by omega)
                         have hcj := hcells j (by rw [HLEN.out]; exact HJ.out)
                         have hfj := hfree j
                         have hb27 : Below w2.heap.size w2 w7 := ((Below.refl _ _).alloc (Nat.le_refl _) _).grown hgrow7 (by simp) (by simp [Value.ownBlock])
                         have HB27 := Lib.hid hb27
                         have HST := Lib.hid (hown7.stored j (.int .u8 (atB (slotOf G B) j ^^^ y : Nat)))
                         have e8 : bits .xor .u8 ((atB (slotOf G B) j : Nat) : Int) (y : Int) = ((atB (slotOf G B) j ^^^ y : Nat) : Int) := bits_xor8 (atB (slotOf G B) j) y (by rw [atB_of (by rw [HLEN.out]; exact HJ.out)]; exact slotOf_small (by have := HL100.out; omega) HBW.out.small _ (List.getElem_mem _)) HYY.out
                         have HG7 := Lib.hid hg7
                         have hgs : s ≠ g := by have := HSLT.out; have := HZ2.out; omega
                         have hs7 : w7.heap[s]? = some (.cells #[.slice (some ⟨b0, 0, none⟩) 128 c0, .slice (some ⟨b1, 0, none⟩) 128 c1] 23 (0, 0)) := (hb27.block s (by have := HSLT.out; have := HZ2.out; omega)).trans HS2.out
                         have hs8 : (w7.setCell ⟨g, j, none⟩ (.int .u8 (atB (slotOf G B) j ^^^ y : Nat))).heap[s]? = some (.cells #[.slice (some ⟨b0, 0, none⟩) 128 c0, .slice (some ⟨b1, 0, none⟩) 128 c1] 23 (0, 0)) := (Below.heap_setCell _ _ _ _ hgs).trans hs7
                         have hq0 := cells_of hs8 0
                         have hq1 := cells_of hs8 1
                         have hfr := free_of hs8
                         have hs9 := set_heap hs8 0 (.slice (some ⟨g, 0, none⟩) 128 c7)
                         have hr0 := cells_of hs9 0
                         have hr1 := cells_of hs9 1
                         have HS9 := Lib.hid hs9
                         have HGS' := Lib.hid hgs
                         simp only [List.getElem?_toArray, List.getElem?_cons_zero, List.getElem?_cons_succ, List.setIfInBounds_toArray, List.set_cons_zero] at hq0 hq1 hr0 hr1
                         clear hown7 hgrow7 hcells hfree hb27 hm7 hc7 hg7 hgs hs7 hs8 hs9)
            have ho8 : (w7.setCell ⟨g, j, none⟩ (.int .u8 (atB (slotOf G B) j ^^^ y : Nat))).ownsRow w2.heap.size 5 1 (.slice (some ⟨g, 0, none⟩) 128 c7) 128 (cellsOf ((slotOf G B).set j (atB (slotOf G B) j ^^^ y))) := by
              have := HST.out.1
              rw [cellsOf_set] at this
              exact this
            have hy8 := Bytes.of_owns ho8 (turned_small (by have := HL100.out; omega) HBW.out.small HJ.out HYY.out) (by rw [List.length_set, HLEN.out]; decide)
            have hb28 : Below w2.heap.size w2 (w7.setCell ⟨g, j, none⟩ (.int .u8 (atB (slotOf G B) j ^^^ y : Nat))) := HB27.out.setCell HG7.out _
            have hyo := (HY1.out.below HB2.out).below hb28
            have hbw8 : Below wr.heap.size wr (w7.setCell ⟨g, j, none⟩ (.int .u8 (atB (slotOf G B) j ^^^ y : Nat))) := HB2.out.trans (hb28.mono HB2.out.size)
            have hys := HSEC.out.1.below hb28
            have hyb := HBW.out.below hbw8
            have hT8 := HT.out.below (HBE.out.trans (hbw8.mono HBE.out.size))
            have HY9 := Lib.hid (Bytes.setCell_ne (s := s) (i := 0) (v := .slice (some ⟨g, 0, none⟩) 128 c7) hy8 (Ne.symm HGS'.out))
            have HYO := Lib.hid (Bytes.setCell_ne (s := s) (i := 0) (v := .slice (some ⟨g, 0, none⟩) 128 c7) hyo hne1)
            have HYS := Lib.hid (Bytes.setCell_ne (s := s) (i := 0) (v := .slice (some ⟨g, 0, none⟩) 128 c7) hys (by have := HSLT.out; omega))
            have HBE9 : Hid (Below w.heap.size w ((w7.setCell ⟨g, j, none⟩ (.int .u8 (atB (slotOf G B) j ^^^ y : Nat))).setCell ⟨s, 0, none⟩ (.slice (some ⟨g, 0, none⟩) 128 c7))) := (HBE.out.trans (hbw8.mono HBE.out.size)).setCell HLATE.out _
            have HBS : Hid (∀ c ∈ B, c < 256) := HBW.out.small
            clear ho8 hy8 hb28 hyo hbw8 hys hyb hT8 hcj hfj e8 hfr hq0 hq1 HST HB27 HG7 HSEC HB2 HS2 HS HY0 HY1 HBW HBE hbc hwf hwk
            generalize (w7.setCell ⟨g, j, none⟩ (.int .u8 (atB (slotOf G B) j ^^^ y : Nat))).setCell ⟨s, 0, none⟩ (.slice (some ⟨g, 0, none⟩) 128 c7) = w9 at *
            have hw2 : IntKind.u64.wrap ((G : Int) + 1) = (G : Int) + 1 := wrap_u64_in _ (by omega) (by omega)
            have hp1 : ((G : Int) + 1) % 2 = 1 := by omega
            have hp2 : Int.tmod ((G : Int) + 1) 2 = 1 := by rw [Int.tmod_eq_emod_of_nonneg (by omega)]; exact hp1
            have HEND : Hid (∀ w10, Below w9.heap.size w9 w10 → TurnRel w s f n T (k + 1) (w10.setCell ⟨s, 0, none⟩ (.slice (some ⟨wr.heap.size, 0, none⟩) 128 128))) := by
              intro w10 hb
              have hs10 := (hb.block s (Array.getElem?_eq_some_iff.1 HS9.out).1).trans HS9.out
              have hs11 := set_heap hs10 0 (.slice (some ⟨wr.heap.size, 0, none⟩) 128 128)
              have hnew : Own1 (w10.setCell ⟨s, 0, none⟩ (.slice (some ⟨wr.heap.size, 0, none⟩) 128 128)) s (.slice (some ⟨wr.heap.size, 0, none⟩) 128 128) (slotOf G B) := ⟨_, _, rfl, by have := HSLT.out; omega, Bytes.setCell_ne (HYS.out.below hb) (by have := HSLT.out; omega)⟩
              have hold : Own1 (w10.setCell ⟨s, 0, none⟩ (.slice (some ⟨wr.heap.size, 0, none⟩) 128 128)) s (.slice (some ⟨b1, 0, none⟩) 128 c1) l1 := ⟨_, _, rfl, hne1, Bytes.setCell_ne (HYO.out.below hb) hne1⟩
              refine ⟨⟨_, _, _, _, hs11, hnew, hold, ?_⟩, (HBE9.out.trans (hb.mono HBE9.out.size)).setCell HLATE.out _, HLATE.out, by omega, fun _ => ?_⟩
              · rw [if_neg (by have := HG.out; omega)]
                rw [last_succ f T (by omega), HG.out, HB.out]
                rfl
              · rw [Nat.add_sub_cancel, ← HB.out]; exact HL100.out
            have HTB := Lib.hid (fun w10 (hb : Below w9.heap.size w9 w10) => HT.out.below (HBE9.out.trans (hb.mono HBE9.out.size)))
            have HC9 := Lib.hid (fun w10 (hb : Below w9.heap.size w9 w10) => (hb.block s (Array.getElem?_eq_some_iff.1 HS9.out).1).trans HS9.out)
            have HD : Hid (∀ w10, Below w9.heap.size w9 w10 → w10.cell? ⟨s, 0, none⟩ = some (.slice (some ⟨g, 0, none⟩) 128 c7) ∧ w10.cell? ⟨s, 1, none⟩ = some (.slice (some ⟨b1, 0, none⟩) 128 c1)) := fun w10 hb => ⟨cells_of (HC9.out w10 hb) 0, cells_of (HC9.out w10 hb) 1⟩
            have HFR : Hid (∀ w10, Below w9.heap.size w9 w10 → ∀ i, w10.frozen? ⟨s, i, none⟩ = false) := fun w10 hb => free_of (HC9.out w10 hb)
            have HOL : Hid (l1.length ≤ 17592186044416) := by unfold Hid; rw [HLO.out, last_length f T k HLEN0.out]; omega
            have HTL : Hid (((slotOf G B).set j (atB (slotOf G B) j ^^^ y)).length ≤ 17592186044416) := by unfold Hid; rw [List.length_set, HLEN.out]; omega
            have hgen : slotGen (slotOf G B) = G := gen_slot HGS.out
            have his : isSlot (slotOf G B) = true := isSlot_slot (by have := HL100.out; omega) HBS.out
            by_cases hy0 : y = 0
            · as_aux_lemma =>
                have ht : (slotOf G B).set j (atB (slotOf G B) j ^^^ y) = slotOf G B := by rw [hy0]; exact turned_zero (by rw [HLEN.out]; exact HJ.out)
                have hless := last_less f T k (by have := HG.out; have := HGS.out; omega)
                rw [← HLO.out, ← HG.out] at hless
                have hbt := bt_first (a := slotOf G B) (b := l1) his (hless.imp id (fun h => by rw [hgen]; omega))
                rw [hgen, body_slot] at hbt
                have hyz : ((y : Int) == 0) = true := beq_iff_eq.2 (by omega)
                have hyz2 : ((y : Int) != 0) = false := by rw [bne, hyz]; rfl
                have HC := Lib.hid (fun w' e1 e2 e3 e4 => better_keeps HD.out (better_at (.slice (some ⟨g, 0, none⟩) 128 c7) (.slice (some ⟨b1, 0, none⟩) 128 c1) ((slotOf G B).set j (atB (slotOf G B) j ^^^ y)) l1 w9 w' 0 G 0 B B.length e1 e2 e3 e4 HY9.out HYO.out HTL.out HOL.out (by rw [ht, hbt.1]; rfl) (by rw [ht, hbt.2.1]) (by rw [ht, hbt.2.2.2]; rfl) (by rw [ht, hbt.2.2.1]) rfl))
                clear hy0 ht hless hbt hgen his HTL HOL HYO HY9 HYS HLO
                go_region_held3 (fun w' => w'.cell? ⟨s, 0, none⟩ = some (.slice (some ⟨g, 0, none⟩) 128 c7) ∧ w'.cell? ⟨s, 1, none⟩ = some (.slice (some ⟨b1, 0, none⟩) 128 c1)) (go_keep) (first | (go_at_call 12; refine (HC.out _ (by rfl) (by rfl) (by rfl) (by rfl)).mono ?_; rintro e w10 ⟨p10, c10, rfl, hy10, hb10, hq0, hq1⟩))
                all_goals
                  obtain ⟨q10, d10, hbc, hbb⟩ := body_at (i := k) (HTB.out w10 hb10) hlt
                  rw [← HB.out] at hbc hbb
                  have x1 := fun nq => (bytes_drewN hy10 nq).toString byT (P := Try.prog) (d := 9) (by kernel_rfl)
                  have x2 := fun nq => (bytes_drewN hbb nq).toString byT (P := Try.prog) (d := 9) (by kernel_rfl)
                  have HB10 := Lib.hid hb10
                  clear hy10 hb10 hbb hq0 hq1
                  rcases Nat.eq_zero_or_pos k with hk0 | hk0
                  · subst hk0
                    rw [Nat.add_zero] at hbc
                    go_wp2
                    go_big_quiet (fail)
                    have HB11 := Lib.hid (HB10.out.trans (below_drewN (B := w9.heap.size) w10 nq))
                    clear hbc x1 x2 HB10
                    generalize w10.drewN nq = w11 at *
                    have hq0 := (HD.out w11 HB11.out).1
                    have hq1 := (HD.out w11 HB11.out).2
                    have hfr := HFR.out w11 HB11.out
                    have HR := Lib.hid (HEND.out w11 HB11.out)
                    go_wp2
                    go_roundw
                    case rel => exact ⟨1, by go_num, HR.out⟩
                    case measure => simp [intOf]; omega
                  · have hkz : ((k : Nat) : Int) ≠ 0 := by omega
                    have hkz2 : (((k : Nat) : Int) == 0) = false := beq_eq_false_iff_ne.2 hkz
                    have hkz3 : ¬ k = 0 := by omega
                    go_wp2
                    go_big_quiet (fail)
                    have HB11 := Lib.hid (HB10.out.trans (below_drewN (B := w9.heap.size) w10 nq))
                    clear hbc x1 x2 HB10
                    generalize w10.drewN nq = w11 at *
                    have hq0 := (HD.out w11 HB11.out).1
                    have hq1 := (HD.out w11 HB11.out).2
                    have hfr := HFR.out w11 HB11.out
                    have HR := Lib.hid (HEND.out w11 HB11.out)
                    go_wp2
                    go_roundw
                    case rel => exact ⟨k + 1, by go_num, HR.out⟩
                    case measure => simp [intOf]; omega
            · have hyz : ((y : Int) == 0) = false := beq_eq_false_iff_ne.2 (by omega)
              have htn : isSlot ((slotOf G B).set j (atB (slotOf G B) j ^^^ y)) = false := by
                rw [isSlot_turned (by have := HL100.out; omega) HBS.out HJ.out HYY.out, decide_eq_false hy0]
              have HTN := Lib.hid htn
              by_cases hk0 : k = 0
              · as_aux_lemma =>
                  have hkz : ((k : Nat) : Int) = 0 := by omega
                  have hon : isSlot l1 = false := by rw [HLO.out, hk0]; exact isSlot_nought
                  have HON := Lib.hid hon
                  obtain ⟨n1, n2, n3, n4⟩ := bt_none HTN.out HON.out
                  have HC := Lib.hid (fun w' e1 e2 e3 e4 => better_keeps HD.out (better_at (.slice (some ⟨g, 0, none⟩) 128 c7) (.slice (some ⟨b1, 0, none⟩) 128 c1) ((slotOf G B).set j (atB (slotOf G B) j ^^^ y)) l1 w9 w' 0 0 2 [] 0 e1 e2 e3 e4 HY9.out HYO.out HTL.out HOL.out (by rw [n1]; rfl) (by rw [n2]; rfl) (by rw [n3]; rfl) n4 rfl))
                  clear hy0 htn hon hgen his HTL HOL HYO HY9 HYS HLO n1 n2 n3 n4 HTN HON
                  go_region_held3 (fun w' => w'.cell? ⟨s, 0, none⟩ = some (.slice (some ⟨g, 0, none⟩) 128 c7) ∧ w'.cell? ⟨s, 1, none⟩ = some (.slice (some ⟨b1, 0, none⟩) 128 c1)) (go_keep) (first | (go_at_call 12; refine (HC.out _ (by rfl) (by rfl) (by rfl) (by rfl)).mono ?_; rintro e w10 ⟨p10, c10, rfl, hy10, hb10, hq0, hq1⟩))
                  all_goals
                    have HR := Lib.hid (HEND.out w10 hb10)
                    have hfr := HFR.out w10 hb10
                    clear hy10 hb10
                    subst hk0
                    go_wp2
                    go_roundw
                    case rel => exact ⟨1, by go_num, HR.out⟩
                    case measure => simp [intOf]; omega
              · as_aux_lemma =>
                  have hkz : ((k : Nat) : Int) ≠ 0 := by omega
                  have hkz2 : (((k : Nat) : Int) == 0) = false := beq_eq_false_iff_ne.2 hkz
                  obtain ⟨k', hk'⟩ : ∃ k', k = k' + 1 := ⟨k - 1, by omega⟩
                  have hl' := last_succ f T hk0
                  rw [hk', Nat.add_sub_cancel] at hl'
                  have hlen' : (T k').2.length ≤ 100 := by
                    have := HLEN0.out hk0
                    rw [hk', Nat.add_sub_cancel] at this
                    exact this
                  have hbk := (HTB.out w9 (Below.refl _ _)).wf k' (by omega)
                  obtain ⟨G', hG'⟩ : ∃ G', G' = f + (k' + 1) - 1 := ⟨_, rfl⟩
                  obtain ⟨B', hB'⟩ : ∃ B', B' = (T k').2 := ⟨_, rfl⟩
                  have hLO' : l1 = slotOf G' B' := by rw [HLO.out, hk', hG', hB']; exact hl'
                  rw [← hB'] at hlen' hbk
                  have hGG : G = G' + 1 := by have := HG.out; omega
                  have hgs' : G' < 18446744073709551616 := by have := HGS.out; omega
                  have his' : isSlot (slotOf G' B') = true := isSlot_slot (by omega) hbk.small
                  have hgen' : slotGen (slotOf G' B') = G' := gen_slot hgs'
                  have hbt := bt_second (a := (slotOf G B).set j (atB (slotOf G B) j ^^^ y)) (b := slotOf G' B') his' (.inl HTN.out)
                  rw [hgen', body_slot] at hbt
                  have hG1 : (G : Int) - 1 = (G' : Int) := by omega
                  have hk1 : (k : Int) - 1 = (k' : Int) := by omega
                  have hk1' : (k' : Int) < n := by omega
                  have hwG' := wrap_u64_in (G' : Int) (by omega) (by omega)
                  have HK1 : Hid (k' < n) := by unfold Hid; omega
                  have HBP := Lib.hid hB'
                  have HC := Lib.hid (fun w' e1 e2 e3 e4 => better_keeps HD.out (better_at (.slice (some ⟨g, 0, none⟩) 128 c7) (.slice (some ⟨b1, 0, none⟩) 128 c1) ((slotOf G B).set j (atB (slotOf G B) j ^^^ y)) l1 w9 w' 1 G' 0 B' B'.length e1 e2 e3 e4 HY9.out HYO.out HTL.out HOL.out (by rw [hLO', hbt.1]; rfl) (by rw [hLO', hbt.2.1]) (by rw [hLO', hbt.2.2.2]; rfl) (by rw [hLO', hbt.2.2.1]) rfl))
                  clear hy0 htn hgen his HTL HOL HYO HY9 HYS HLO HTN hbt his' hgen' hLO' hbk hl' hlen' hB' hG' hgs' hk' hGG
                  go_region_held3 (fun w' => w'.cell? ⟨s, 0, none⟩ = some (.slice (some ⟨g, 0, none⟩) 128 c7) ∧ w'.cell? ⟨s, 1, none⟩ = some (.slice (some ⟨b1, 0, none⟩) 128 c1)) (go_keep) (first | (go_at_call 12; refine (HC.out _ (by rfl) (by rfl) (by rfl) (by rfl)).mono ?_; rintro e w10 ⟨p10, c10, rfl, hy10, hb10, hq0, hq1⟩))
                  all_goals
                    obtain ⟨q10, d10, hbc, hbb⟩ := body_at (i := k') (HTB.out w10 hb10) HK1.out
                    rw [← HBP.out] at hbc hbb
                    have x1 := fun nq => (bytes_drewN hy10 nq).toString byT (P := Try.prog) (d := 9) (by kernel_rfl)
                    have x2 := fun nq => (bytes_drewN hbb nq).toString byT (P := Try.prog) (d := 9) (by kernel_rfl)
                    have HB10 := Lib.hid hb10
                    clear hy10 hb10 hbb hq0 hq1
                    go_wp2
                    go_big_quiet (fail)
                    have HB11 := Lib.hid (HB10.out.trans (below_drewN (B := w9.heap.size) w10 nq))
                    clear hbc x1 x2 HB10
                    generalize w10.drewN nq = w11 at *
                    have hq0 := (HD.out w11 HB11.out).1
                    have hq1 := (HD.out w11 HB11.out).2
                    have hfr := HFR.out w11 HB11.out
                    have HR := Lib.hid (HEND.out w11 HB11.out)
                    go_wp2
                    go_roundw
                    case rel => exact ⟨k + 1, by go_num, HR.out⟩
                    case measure => simp [intOf]; omega
          · have hm1 : (G : Int) % 2 = 1 := by omega
            have hm2 : Int.tmod (G : Int) 2 = 1 := by rw [Int.tmod_eq_emod_of_nonneg (by omega)]; exact hm1
            have hLO : l0 = lastSlot f T k := by
              have := HLA.out
              rw [← HG.out] at this
              rw [if_neg hpar] at this; exact this
            have HLO := Lib.hid hLO
            clear hLO HLA
            go_wp2_with fail
            refine (put_any G _ B wr HGS.out HBW.out (by have := HL100.out; omega)).mono ?_
            rintro e w2 ⟨rfl, hF2⟩
            have hsec := hF2.sec (slotOf_length (by have := HL100.out; omega)) (slotOf_small (by have := HL100.out; omega) HBW.out.small)
            have hz2 : wr.heap.size < w2.heap.size := (Array.getElem?_eq_some_iff.1 hF2.1).1
            have hs2 : w2.heap[s]? = some (.cells #[.slice (some ⟨b0, 0, none⟩) 128 c0, .slice (some ⟨b1, 0, none⟩) 128 c1] 23 (0, 0)) := (hF2.2.block s HSLT.out).trans HS.out
            have HSEC := Lib.hid hsec
            have HB2 := Lib.hid hF2.2
            have HZ2 := Lib.hid hz2
            have HS2 := Lib.hid hs2
            have HLEN : Hid ((slotOf G B).length = 128) := slotOf_length (by have := HL100.out; omega)
            clear hF2 hsec hz2 hs2
            go_wp2_with (at_builtin; refine wpList_append_bytes rfl (.tmp 66) (.tmp 67) byT rfl w2.heap.size (.slice (some ⟨w2.heap.size, 0, none⟩) 0 0) 0 [] rfl (World.ownsRow_made w2 #[] 0 (Nat.le_refl _) (by decide) rfl) (.slice (some ⟨wr.heap.size, 0, none⟩) 128 128) (slotOf G B) rfl (HSEC.out.1.below ((Below.refl _ _).alloc (Nat.le_refl _) _)) (by rw [HLEN.out]; omega) (by simp) ?_; intro v7 w7 hown7 hgrow7 _
                         rw [Nat.zero_add, List.nil_append, HLEN.out] at hown7
                         obtain ⟨g, c7, rfl, hc7, hm7, hg7, hcells, hfree⟩ := own_open hown7 (by omega)
                         have hcj := hcells j (by rw [HLEN.out]; exact HJ.out)
                         have hfj := hfree j
                         have hb27 : Below w2.heap.size w2 w7 := ((Below.refl _ _).alloc (Nat.le_refl _) _).grown hgrow7 (by simp) (by simp [Value.ownBlock])
                         have HB27 := Lib.hid hb27
                         have HST := Lib.hid (hown7.stored j (.int .u8 (atB (slotOf G B) j ^^^ y : Nat)))
                         have e8 : bits .xor .u8 ((atB (slotOf G B) j : Nat) : Int) (y : Int) = ((atB (slotOf G B) j ^^^ y : Nat) : Int) := bits_xor8 (atB (slotOf G B) j) y (by rw [atB_of (by rw [HLEN.out]; exact HJ.out)]; exact slotOf_small (by have := HL100.out; omega) HBW.out.small _ (List.getElem_mem _)) HYY.out
                         have HG7 := Lib.hid hg7
                         have hgs : s ≠ g := by have := HSLT.out; have := HZ2.out; omega
                         have hs7 : w7.heap[s]? = some (.cells #[.slice (some ⟨b0, 0, none⟩) 128 c0, .slice (some ⟨b1, 0, none⟩) 128 c1] 23 (0, 0)) := (hb27.block s (by have := HSLT.out; have := HZ2.out; omega)).trans HS2.out
                         have hs8 : (w7.setCell ⟨g, j, none⟩ (.int .u8 (atB (slotOf G B) j ^^^ y : Nat))).heap[s]? = some (.cells #[.slice (some ⟨b0, 0, none⟩) 128 c0, .slice (some ⟨b1, 0, none⟩) 128 c1] 23 (0, 0)) := (Below.heap_setCell _ _ _ _ hgs).trans hs7
                         have hq0 := cells_of hs8 0
                         have hq1 := cells_of hs8 1
                         have hfr := free_of hs8
                         have hs9 := set_heap hs8 1 (.slice (some ⟨g, 0, none⟩) 128 c7)
                         have hr0 := cells_of hs9 0
                         have hr1 := cells_of hs9 1
                         have HS9 := Lib.hid hs9
                         have HGS' := Lib.hid hgs
                         simp only [List.getElem?_toArray, List.getElem?_cons_zero, List.getElem?_cons_succ, List.setIfInBounds_toArray, List.set_cons_zero, List.set_cons_succ] at hq0 hq1 hr0 hr1
                         clear hown7 hgrow7 hcells hfree hb27 hm7 hc7 hg7 hgs hs7 hs8 hs9)
            have ho8 : (w7.setCell ⟨g, j, none⟩ (.int .u8 (atB (slotOf G B) j ^^^ y : Nat))).ownsRow w2.heap.size 5 1 (.slice (some ⟨g, 0, none⟩) 128 c7) 128 (cellsOf ((slotOf G B).set j (atB (slotOf G B) j ^^^ y))) := by
              have := HST.out.1
              rw [cellsOf_set] at this
              exact this
            have hy8 := Bytes.of_owns ho8 (turned_small (by have := HL100.out; omega) HBW.out.small HJ.out HYY.out) (by rw [List.length_set, HLEN.out]; decide)
            have hb28 : Below w2.heap.size w2 (w7.setCell ⟨g, j, none⟩ (.int .u8 (atB (slotOf G B) j ^^^ y : Nat))) := HB27.out.setCell HG7.out _
            have hyo := (HY0.out.below HB2.out).below hb28
            have hbw8 : Below wr.heap.size wr (w7.setCell ⟨g, j, none⟩ (.int .u8 (atB (slotOf G B) j ^^^ y : Nat))) := HB2.out.trans (hb28.mono HB2.out.size)
            have hys := HSEC.out.1.below hb28
            have hyb := HBW.out.below hbw8
            have hT8 := HT.out.below (HBE.out.trans (hbw8.mono HBE.out.size))
            have HY9 := Lib.hid (Bytes.setCell_ne (s := s) (i := 1) (v := .slice (some ⟨g, 0, none⟩) 128 c7) hy8 (Ne.symm HGS'.out))
            have HYO := Lib.hid (Bytes.setCell_ne (s := s) (i := 1) (v := .slice (some ⟨g, 0, none⟩) 128 c7) hyo hne0)
            have HYS := Lib.hid (Bytes.setCell_ne (s := s) (i := 1) (v := .slice (some ⟨g, 0, none⟩) 128 c7) hys (by have := HSLT.out; omega))
            have HBE9 : Hid (Below w.heap.size w ((w7.setCell ⟨g, j, none⟩ (.int .u8 (atB (slotOf G B) j ^^^ y : Nat))).setCell ⟨s, 1, none⟩ (.slice (some ⟨g, 0, none⟩) 128 c7))) := (HBE.out.trans (hbw8.mono HBE.out.size)).setCell HLATE.out _
            have HBS : Hid (∀ c ∈ B, c < 256) := HBW.out.small
            clear ho8 hy8 hb28 hyo hbw8 hys hyb hT8 hcj hfj e8 hfr hq0 hq1 HST HB27 HG7 HSEC HB2 HS2 HS HY0 HY1 HBW HBE hbc hwf hwk
            generalize (w7.setCell ⟨g, j, none⟩ (.int .u8 (atB (slotOf G B) j ^^^ y : Nat))).setCell ⟨s, 1, none⟩ (.slice (some ⟨g, 0, none⟩) 128 c7) = w9 at *
            have hw2 : IntKind.u64.wrap ((G : Int) + 1) = (G : Int) + 1 := wrap_u64_in _ (by omega) (by omega)
            have hp1 : ((G : Int) + 1) % 2 = 0 := by omega
            have hp2 : Int.tmod ((G : Int) + 1) 2 = 0 := by rw [Int.tmod_eq_emod_of_nonneg (by omega)]; exact hp1
            have HEND : Hid (∀ w10, Below w9.heap.size w9 w10 → TurnRel w s f n T (k + 1) (w10.setCell ⟨s, 1, none⟩ (.slice (some ⟨wr.heap.size, 0, none⟩) 128 128))) := by
              intro w10 hb
              have hs10 := (hb.block s (Array.getElem?_eq_some_iff.1 HS9.out).1).trans HS9.out
              have hs11 := set_heap hs10 1 (.slice (some ⟨wr.heap.size, 0, none⟩) 128 128)
              have hnew : Own1 (w10.setCell ⟨s, 1, none⟩ (.slice (some ⟨wr.heap.size, 0, none⟩) 128 128)) s (.slice (some ⟨wr.heap.size, 0, none⟩) 128 128) (slotOf G B) := ⟨_, _, rfl, by have := HSLT.out; omega, Bytes.setCell_ne (HYS.out.below hb) (by have := HSLT.out; omega)⟩
              have hold : Own1 (w10.setCell ⟨s, 1, none⟩ (.slice (some ⟨wr.heap.size, 0, none⟩) 128 128)) s (.slice (some ⟨b0, 0, none⟩) 128 c0) l0 := ⟨_, _, rfl, hne0, Bytes.setCell_ne (HYO.out.below hb) hne0⟩
              refine ⟨⟨_, _, _, _, hs11, hold, hnew, ?_⟩, (HBE9.out.trans (hb.mono HBE9.out.size)).setCell HLATE.out _, HLATE.out, by omega, fun _ => ?_⟩
              · rw [if_pos (by have := HG.out; omega)]
                rw [last_succ f T (by omega), HG.out, HB.out]
                rfl
              · rw [Nat.add_sub_cancel, ← HB.out]; exact HL100.out
            have HTB := Lib.hid (fun w10 (hb : Below w9.heap.size w9 w10) => HT.out.below (HBE9.out.trans (hb.mono HBE9.out.size)))
            have HC9 := Lib.hid (fun w10 (hb : Below w9.heap.size w9 w10) => (hb.block s (Array.getElem?_eq_some_iff.1 HS9.out).1).trans HS9.out)
            have HD : Hid (∀ w10, Below w9.heap.size w9 w10 → w10.cell? ⟨s, 0, none⟩ = some (.slice (some ⟨b0, 0, none⟩) 128 c0) ∧ w10.cell? ⟨s, 1, none⟩ = some (.slice (some ⟨g, 0, none⟩) 128 c7)) := fun w10 hb => ⟨cells_of (HC9.out w10 hb) 0, cells_of (HC9.out w10 hb) 1⟩
            have HFR : Hid (∀ w10, Below w9.heap.size w9 w10 → ∀ i, w10.frozen? ⟨s, i, none⟩ = false) := fun w10 hb => free_of (HC9.out w10 hb)
            have HOL : Hid (l0.length ≤ 17592186044416) := by unfold Hid; rw [HLO.out, last_length f T k HLEN0.out]; omega
            have HTL : Hid (((slotOf G B).set j (atB (slotOf G B) j ^^^ y)).length ≤ 17592186044416) := by unfold Hid; rw [List.length_set, HLEN.out]; omega
            have hgen : slotGen (slotOf G B) = G := gen_slot HGS.out
            have his : isSlot (slotOf G B) = true := isSlot_slot (by have := HL100.out; omega) HBS.out
            by_cases hy0 : y = 0
            · as_aux_lemma =>
                have ht : (slotOf G B).set j (atB (slotOf G B) j ^^^ y) = slotOf G B := by rw [hy0]; exact turned_zero (by rw [HLEN.out]; exact HJ.out)
                have hless := last_less f T k (by have := HG.out; have := HGS.out; omega)
                rw [← HLO.out, ← HG.out] at hless
                have hbt := bt_second (a := l0) (b := slotOf G B) his (hless.imp id (fun h => by rw [hgen]; exact h))
                rw [hgen, body_slot] at hbt
                have hyz : ((y : Int) == 0) = true := beq_iff_eq.2 (by omega)
                have hyz2 : ((y : Int) != 0) = false := by rw [bne, hyz]; rfl
                have HC := Lib.hid (fun w' e1 e2 e3 e4 => better_keeps HD.out (better_at (.slice (some ⟨b0, 0, none⟩) 128 c0) (.slice (some ⟨g, 0, none⟩) 128 c7) l0 ((slotOf G B).set j (atB (slotOf G B) j ^^^ y)) w9 w' 1 G 0 B B.length e1 e2 e3 e4 HYO.out HY9.out HOL.out HTL.out (by rw [ht, hbt.1]; rfl) (by rw [ht, hbt.2.1]) (by rw [ht, hbt.2.2.2]; rfl) (by rw [ht, hbt.2.2.1]) rfl))
                clear hy0 ht hless hbt hgen his HTL HOL HYO HY9 HYS HLO
                go_region_held3 (fun w' => w'.cell? ⟨s, 0, none⟩ = some (.slice (some ⟨b0, 0, none⟩) 128 c0) ∧ w'.cell? ⟨s, 1, none⟩ = some (.slice (some ⟨g, 0, none⟩) 128 c7)) (go_keep) (first | (go_at_call 12; refine (HC.out _ (by rfl) (by rfl) (by rfl) (by rfl)).mono ?_; rintro e w10 ⟨p10, c10, rfl, hy10, hb10, hq0, hq1⟩))
                all_goals
                  obtain ⟨q10, d10, hbc, hbb⟩ := body_at (i := k) (HTB.out w10 hb10) hlt
                  rw [← HB.out] at hbc hbb
                  have x1 := fun nq => (bytes_drewN hy10 nq).toString byT (P := Try.prog) (d := 9) (by kernel_rfl)
                  have x2 := fun nq => (bytes_drewN hbb nq).toString byT (P := Try.prog) (d := 9) (by kernel_rfl)
                  have HB10 := Lib.hid hb10
                  clear hy10 hb10 hbb hq0 hq1
                  rcases Nat.eq_zero_or_pos k with hk0 | hk0
                  · subst hk0
                    rw [Nat.add_zero] at hbc
                    go_wp2
                    go_big_quiet (fail)
                    have HB11 := Lib.hid (HB10.out.trans (below_drewN (B := w9.heap.size) w10 nq))
                    clear hbc x1 x2 HB10
                    generalize w10.drewN nq = w11 at *
                    have hq0 := (HD.out w11 HB11.out).1
                    have hq1 := (HD.out w11 HB11.out).2
                    have hfr := HFR.out w11 HB11.out
                    have HR := Lib.hid (HEND.out w11 HB11.out)
                    go_wp2
                    go_roundw
                    case rel => exact ⟨1, by go_num, HR.out⟩
                    case measure => simp [intOf]; omega
                  · have hkz : ((k : Nat) : Int) ≠ 0 := by omega
                    have hkz2 : (((k : Nat) : Int) == 0) = false := beq_eq_false_iff_ne.2 hkz
                    have hkz3 : ¬ k = 0 := by omega
                    go_wp2
                    go_big_quiet (fail)
                    have HB11 := Lib.hid (HB10.out.trans (below_drewN (B := w9.heap.size) w10 nq))
                    clear hbc x1 x2 HB10
                    generalize w10.drewN nq = w11 at *
                    have hq0 := (HD.out w11 HB11.out).1
                    have hq1 := (HD.out w11 HB11.out).2
                    have hfr := HFR.out w11 HB11.out
                    have HR := Lib.hid (HEND.out w11 HB11.out)
                    go_wp2
                    go_roundw
                    case rel => exact ⟨k + 1, by go_num, HR.out⟩
                    case measure => simp [intOf]; omega
            · have hyz : ((y : Int) == 0) = false := beq_eq_false_iff_ne.2 (by omega)
              have htn : isSlot ((slotOf G B).set j (atB (slotOf G B) j ^^^ y)) = false := by
                rw [isSlot_turned (by have := HL100.out; omega) HBS.out HJ.out HYY.out, decide_eq_false hy0]
              have HTN := Lib.hid htn
              by_cases hk0 : k = 0
              · as_aux_lemma =>
                  have hkz : ((k : Nat) : Int) = 0 := by omega
                  have hon : isSlot l0 = false := by rw [HLO.out, hk0]; exact isSlot_nought
                  have HON := Lib.hid hon
                  obtain ⟨n1, n2, n3, n4⟩ := bt_none HON.out HTN.out
                  have HC := Lib.hid (fun w' e1 e2 e3 e4 => better_keeps HD.out (better_at (.slice (some ⟨b0, 0, none⟩) 128 c0) (.slice (some ⟨g, 0, none⟩) 128 c7) l0 ((slotOf G B).set j (atB (slotOf G B) j ^^^ y)) w9 w' 0 0 2 [] 0 e1 e2 e3 e4 HYO.out HY9.out HOL.out HTL.out (by rw [n1]; rfl) (by rw [n2]; rfl) (by rw [n3]; rfl) n4 rfl))
                  clear hy0 htn hon hgen his HTL HOL HYO HY9 HYS HLO n1 n2 n3 n4 HTN HON
                  go_region_held3 (fun w' => w'.cell? ⟨s, 0, none⟩ = some (.slice (some ⟨b0, 0, none⟩) 128 c0) ∧ w'.cell? ⟨s, 1, none⟩ = some (.slice (some ⟨g, 0, none⟩) 128 c7)) (go_keep) (first | (go_at_call 12; refine (HC.out _ (by rfl) (by rfl) (by rfl) (by rfl)).mono ?_; rintro e w10 ⟨p10, c10, rfl, hy10, hb10, hq0, hq1⟩))
                  all_goals
                    have HR := Lib.hid (HEND.out w10 hb10)
                    have hfr := HFR.out w10 hb10
                    clear hy10 hb10
                    subst hk0
                    go_wp2
                    go_roundw
                    case rel => exact ⟨1, by go_num, HR.out⟩
                    case measure => simp [intOf]; omega
              · as_aux_lemma =>
                  have hkz : ((k : Nat) : Int) ≠ 0 := by omega
                  have hkz2 : (((k : Nat) : Int) == 0) = false := beq_eq_false_iff_ne.2 hkz
                  obtain ⟨k', hk'⟩ : ∃ k', k = k' + 1 := ⟨k - 1, by omega⟩
                  have hl' := last_succ f T hk0
                  rw [hk', Nat.add_sub_cancel] at hl'
                  have hlen' : (T k').2.length ≤ 100 := by
                    have := HLEN0.out hk0
                    rw [hk', Nat.add_sub_cancel] at this
                    exact this
                  have hbk := (HTB.out w9 (Below.refl _ _)).wf k' (by omega)
                  obtain ⟨G', hG'⟩ : ∃ G', G' = f + (k' + 1) - 1 := ⟨_, rfl⟩
                  obtain ⟨B', hB'⟩ : ∃ B', B' = (T k').2 := ⟨_, rfl⟩
                  have hLO' : l0 = slotOf G' B' := by rw [HLO.out, hk', hG', hB']; exact hl'
                  rw [← hB'] at hlen' hbk
                  have hGG : G = G' + 1 := by have := HG.out; omega
                  have hgs' : G' < 18446744073709551616 := by have := HGS.out; omega
                  have his' : isSlot (slotOf G' B') = true := isSlot_slot (by omega) hbk.small
                  have hgen' : slotGen (slotOf G' B') = G' := gen_slot hgs'
                  have hbt := bt_first (a := slotOf G' B') (b := (slotOf G B).set j (atB (slotOf G B) j ^^^ y)) his' (.inl HTN.out)
                  rw [hgen', body_slot] at hbt
                  have hG1 : (G : Int) - 1 = (G' : Int) := by omega
                  have hk1 : (k : Int) - 1 = (k' : Int) := by omega
                  have hk1' : (k' : Int) < n := by omega
                  have hwG' := wrap_u64_in (G' : Int) (by omega) (by omega)
                  have HK1 : Hid (k' < n) := by unfold Hid; omega
                  have HBP := Lib.hid hB'
                  have HC := Lib.hid (fun w' e1 e2 e3 e4 => better_keeps HD.out (better_at (.slice (some ⟨b0, 0, none⟩) 128 c0) (.slice (some ⟨g, 0, none⟩) 128 c7) l0 ((slotOf G B).set j (atB (slotOf G B) j ^^^ y)) w9 w' 0 G' 0 B' B'.length e1 e2 e3 e4 HYO.out HY9.out HOL.out HTL.out (by rw [hLO', hbt.1]; rfl) (by rw [hLO', hbt.2.1]) (by rw [hLO', hbt.2.2.2]; rfl) (by rw [hLO', hbt.2.2.1]) rfl))
                  clear hy0 htn hgen his HTL HOL HYO HY9 HYS HLO HTN hbt his' hgen' hLO' hbk hl' hlen' hB' hG' hgs' hk' hGG
                  go_region_held3 (fun w' => w'.cell? ⟨s, 0, none⟩ = some (.slice (some ⟨b0, 0, none⟩) 128 c0) ∧ w'.cell? ⟨s, 1, none⟩ = some (.slice (some ⟨g, 0, none⟩) 128 c7)) (go_keep) (first | (go_at_call 12; refine (HC.out _ (by rfl) (by rfl) (by rfl) (by rfl)).mono ?_; rintro e w10 ⟨p10, c10, rfl, hy10, hb10, hq0, hq1⟩))
                  all_goals
                    obtain ⟨q10, d10, hbc, hbb⟩ := body_at (i := k') (HTB.out w10 hb10) HK1.out
                    rw [← HBP.out] at hbc hbb
                    have x1 := fun nq => (bytes_drewN hy10 nq).toString byT (P := Try.prog) (d := 9) (by kernel_rfl)
                    have x2 := fun nq => (bytes_drewN hbb nq).toString byT (P := Try.prog) (d := 9) (by kernel_rfl)
                    have HB10 := Lib.hid hb10
                    clear hy10 hb10 hbb hq0 hq1
                    go_wp2
                    go_big_quiet (fail)
                    have HB11 := Lib.hid (HB10.out.trans (below_drewN (B := w9.heap.size) w10 nq))
                    clear hbc x1 x2 HB10
                    generalize w10.drewN nq = w11 at *
                    have hq0 := (HD.out w11 HB11.out).1
                    have hq1 := (HD.out w11 HB11.out).2
                    have hfr := HFR.out w11 HB11.out
                    have HR := Lib.hid (HEND.out w11 HB11.out)
                    go_wp2
                    go_roundw
                    case rel => exact ⟨k + 1, by go_num, HR.out⟩
                    case measure => simp [intOf]; omega
        · have hl' : ¬ (B.length : Int) ≤ 100 := by omega
          have HBE := Lib.hid hbel
          clear hs hu0 hu1 hlast hbel hlate hl100 hbw hB hBm hv
          subst hp
          go_wp2
          go_ret
          exact ⟨rfl, HBE.out⟩
      · obtain rfl : k = n := by omega
        have HBE := Lib.hid hbel
        clear hs hu0 hu1 hlast hbel hlate hkn hlt
        go_wp2
        go_ret
        exact ⟨rfl, HBE.out⟩

theorem u32_of_wf {a : Int} (h : (Lit.int .u32 a).wf = true) : ∃ n : Nat, a = n ∧ n < 4294967296 := by
  have h' : 0 ≤ a ∧ a ≤ 4294967295 := by simpa [Lit.wf, IntKind.min, IntKind.max, IntKind.signed, IntKind.bits] using h
  exact ⟨a.toNat, by omega, by omega⟩

set_option maxRecDepth 100000 in
theorem turns_lifted (os : Os) (started : os.Started) (H : Type) (enc : TypeId × Value → H) :
    ReturnsInHanded {} Try.checked os 4 .any (Rows.slotTurnsSpec.pre6 enc Try.prog Try.f4 Rows.slotTurnsRow.domain false) (Rows.slotTurnsSpec.post enc Try.prog Try.f4 false true false false) := by
  refine returnsInHanded_of_change (C := Try.checked) own_none started (by kernel_rfl) Try.func4
    (ChangeSpec.witness6 (enc := enc) (C := Try.checked) false ⟨#[], #[.int .u32 0, .slice none 0 0, .int .u8 0, .int .u8 0], []⟩ 8 (by kernel_rfl) (by kernel_rfl) (by kernel_rfl) (by kernel_rfl)) ?_
  intro W base args ds gs before hval0 hW hcnd _
  have hval : ∀ (j : Nat) t v, Try.f4.params[j]? = some t → args[j]? = some v → Value.okWide Try.prog W .any base t v := hval0
  have hW' := hW
  obtain ⟨p, q, hA0, hV, rfl, hfz, hnd⟩ := hW
  have hA : DataW.TrodAll enc Try.prog W 0 (fun _ => true) true Try.f4.params.toList args.toList ds p := hA0
  have hp : Try.f4.params = #[35, 36, 5, 5] := by kernel_rfl
  rw [hp] at hA hval
  obtain ⟨v0, v1, v2, v3, d0, d1, d2, d3, p0, p1, p2, p3, rfl, rfl, rfl, h0, h1, h2, h3⟩ := trodAll_four hA
  obtain ⟨rfl, rfl⟩ := trodVars_none hV
  obtain ⟨a, rfl, _, _, wa⟩ := open_int (P := Try.prog) (t := 35) (k := .u32) (by kernel_rfl) (hval 0 35 v0 rfl rfl) h0
  obtain ⟨a, rfl, ha⟩ := u32_of_wf wa
  obtain ⟨p, n, cap, T, rfl, hT⟩ := open_rows (P := Try.prog) (t := 36) (e := 23) (te := 5) (by kernel_rfl) (by kernel_rfl) byT (by kernel_rfl) (hval 1 36 v1 rfl rfl) h1
  obtain ⟨b, rfl, _, _, wb⟩ := open_int (P := Try.prog) (t := 5) (k := .u8) (by kernel_rfl) (hval 2 5 v2 rfl rfl) h2
  obtain ⟨b, rfl, hb⟩ := u8_of_wf wb
  obtain ⟨y, rfl, _, _, wy⟩ := open_int (P := Try.prog) (t := 5) (k := .u8) (by kernel_rfl) (hval 3 5 v3 rfl rfl) h3
  obtain ⟨y, rfl, hy⟩ := u8_of_wf wy
  refine (turns_any a b y p n cap T W ha hT hb hy).mono fun e W' ⟨he, hb⟩ => ?_
  subst he
  exact ⟨_, rfl, law_post (tb := 4) laidOut (by rw [hp]; intro t ht; simp at ht; rcases ht with rfl | rfl | rfl <;> exact ⟨by kernel_rfl, by decide +kernel⟩) rfl rfl (by kernel_rfl) (by kernel_rfl) hW' hb⟩

theorem slotTurns_holds : Rows.SlotTurnsSaid :=
  OpenClaim.holds_of_wide 4 Try.f4 rfl rfl rfl rfl rfl rfl rfl ⟨rfl, rfl, rfl, rfl, rfl⟩ rfl rfl rfl rfl rfl (by kernel_rfl) Try.func4 (by kernel_rfl)
    (of_decide_eq_true (by kernel_rfl)) (by unfold Func.isWrapper; rw [if_neg (by decide +kernel)]; exact ⟨rfl, rfl⟩)
    (fun os started H enc _ => turns_lifted os started H enc)
end Go.Proofs.Ytjkbhlfgkpopdaa
