/- slot: what a sector's parts say. -/
import Derived.Test.YtjkbhlfgkpopdaaSlB
import Derived.Lib.Bytes
namespace Go.Proofs.Ytjkbhlfgkpopdaa
open Go Go.RowKit Go.By

/-- A piece of a row that has an address. -/
theorem piece_at {w : World} {b off cap : Nat} {l : List Nat} (h : Bytes w (.slice (some ⟨b, off, none⟩) l.length cap) l) (i n c : Nat) (hn : i + n ≤ l.length) (hc : n ≤ c) : Bytes w (.slice (some ⟨b, off + i, none⟩) n c) (pc l i n) where
  out := by
    have hpl := pc_length hn
    refine .inr <| .inr ⟨b, off + i, c, by rw [hpl], by rw [hpl]; exact hc, fun j hj => ?_⟩
    rw [hpl] at hj
    obtain ⟨b', o', h1, h2⟩ := h.spot (i + j) (by omega)
    simp only [Option.some.injEq, Addr.mk.injEq, true_and, and_true] at h1
    obtain ⟨rfl, rfl⟩ := h1
    rw [Nat.add_assoc, h2, pc_at hj]
  small := pc_small h.small
  short := by rw [pc_length hn]; have := h.short; omega

theorem pc_one {l : List Nat} {i : Nat} (h : i < l.length) : pc l i 1 = [atB l i] := by
  unfold pc
  rw [drop_at h]; rfl
theorem numOf_one (c : Nat) : numOf [c] = c := by simp [numOf]
theorem slotSize_lt {l : List Nat} (hl : l.length = 128) (hs : ∀ c ∈ l, c < 256) : slotSize l < 256 := by
  unfold slotSize
  rw [atB_of (by omega)]
  exact hs _ (List.getElem_mem _)

/-- The bytes of a sector, at an address. -/
def Sec (w : World) (b off cap : Nat) (l : List Nat) : Prop := Bytes w (.slice (some ⟨b, off, none⟩) 128 cap) l ∧ l.length = 128
theorem Sec.cap {w : World} {b off cap : Nat} {l : List Nat} (h : Sec w b off cap l) : 128 ≤ cap := h.1.room.2
theorem Sec.full {w : World} {b off cap : Nat} {l : List Nat} (h : Sec w b off cap l) : Bytes w (.slice (some ⟨b, off, none⟩) l.length cap) l := by
  have := h.1
  rw [h.2]; exact this
theorem Sec.piece {w : World} {b off cap : Nat} {l : List Nat} (h : Sec w b off cap l) (i n c : Nat) (hn : i + n ≤ 128) (hc : n ≤ c) : Bytes w (.slice (some ⟨b, off + i, none⟩) n c) (pc l i n) := piece_at h.full i n c (by rw [h.2]; exact hn) hc
theorem Sec.below {w w' : World} {b off cap : Nat} {l : List Nat} (h : Sec w b off cap l) (hb : Below w.heap.size w w') : Sec w' b off cap l := ⟨h.1.below hb, h.2⟩

set_option maxRecDepth 100000 in
theorem bodyEnd_any (b off cap : Nat) (l : List Nat) (w : World) (h : Sec w b off cap l) :
    Calls Try.prog 32 #[.slice (some ⟨b, off, none⟩) 128 cap] w fun e w' => e = .returned (.int .i64 (11 + (slotSize l : Int))) ∧ w = w' := by
  have hc := size_any b off cap w h.cap
  have hn := number_any _ _ w (h.piece 10 1 (cap - 10) (by omega) (by have := h.cap; omega)) (by rw [pc_length (by rw [h.2]; omega)]; omega)
  rw [pc_one (by rw [h.2]; omega), numOf_one] at hn
  have hs := slotSize_lt h.2 h.1.small
  unfold slotSize at hs ⊢
  have HC := Lib.hid hc; have HN := Lib.hid hn
  clear hc hn h
  generalize atB l 10 = x at *
  go_enter Try.func32, Try.ntmps32
  go_wp2_with fail
  refine HC.out.mono ?_
  rintro e w1 ⟨rfl, rfl⟩
  go_wp2_with fail
  refine HN.out.mono ?_
  rintro e w1 ⟨rfl, rfl⟩
  go_wp2
  go_ret
  exact ⟨ret_int (by omega), rfl⟩

set_option maxRecDepth 100000 in
theorem body_any (b off cap : Nat) (l : List Nat) (w : World) (h : Sec w b off cap l) (h2 : slotSize l ≤ 113) :
    Calls Try.prog 19 #[.slice (some ⟨b, off, none⟩) 128 cap] w fun e w' => e = .returned (.slice (some ⟨b, off + 11, none⟩) (slotSize l) (cap - 11)) ∧ w = w' := by
  have HC := Lib.hid (bodyEnd_any b off cap l w h)
  have hr := cut_lh b off 128 cap 11 (slotSize l) 11 (11 + (slotSize l : Int)) rfl (by omega) (by have := h.cap; omega) (by have := h.cap; omega)
  clear h h2
  generalize slotSize l = x at *
  go_enter Try.func19, Try.ntmps19
  go_wp2_with fail
  refine HC.out.mono ?_
  rintro e w1 ⟨rfl, rfl⟩
  go_wp2
  go_ret
  exact ⟨rfl, rfl⟩

set_option maxRecDepth 100000 in
theorem noughts_any (b off cap : Nat) (l : List Nat) (w : World) (h : Sec w b off cap l) (h2 : slotSize l ≤ 113) :
    Calls Try.prog 34 #[.slice (some ⟨b, off, none⟩) 128 cap] w fun e w' => e = .returned (.slice (some ⟨b, off + (11 + slotSize l), none⟩) (113 - slotSize l) (cap - (11 + slotSize l))) ∧ w = w' := by
  have HC := Lib.hid (bodyEnd_any b off cap l w h)
  have hr := cut_lh b off 128 cap (11 + slotSize l) (113 - slotSize l) (11 + (slotSize l : Int)) 124 (by omega) (by omega) (by have := h.cap; omega) (by have := h.cap; omega)
  clear h h2
  generalize slotSize l = x at *
  go_enter Try.func34, Try.ntmps34
  go_wp2_with fail
  refine HC.out.mono ?_
  rintro e w1 ⟨rfl, rfl⟩
  go_wp2
  go_ret
  exact ⟨rfl, rfl⟩

theorem isWhole_any (p : Option Addr) (n cap : Nat) (w : World) (hm : n ≤ 17592186044416) :
    Calls Try.prog 24 #[.slice p n cap] w fun e w' => e = .returned (.bool (decide (n = 128))) ∧ w = w' := by
  have hd : ((n : Int) == 128) = decide (n = 128) := by rw [Bool.eq_iff_iff]; simp; omega
  go_enter Try.func24, Try.ntmps24
  go_wp2
  go_ret
  exact ⟨rfl, rfl⟩

theorem strOf_inj {l m : List Nat} (hl : ∀ c ∈ l, c < 256) (hm : ∀ c ∈ m, c < 256) (h : strOf l = strOf m) : l = m := by
  have e : ∀ l : List Nat, (∀ c ∈ l, c < 256) → (strOf l).data.toList.map UInt8.toNat = l := by
    intro l hl
    unfold strOf
    rw [strOfNums_data, List.map_map, List.map_map]
    conv => rhs; rw [← List.map_id l]
    apply List.map_congr_left
    intro c hc
    have := hl c hc
    simp
    omega
  rw [← e l hl, ← e m hm, h]

set_option maxRecDepth 100000 in
theorem hasLetters_any (b off cap : Nat) (l : List Nat) (w : World) (h : Sec w b off cap l) :
    Calls Try.prog 25 #[.slice (some ⟨b, off, none⟩) 128 cap] w fun e w' => e = .returned (.bool (spOk l 1)) ∧ w = w' := by
  have HC := Lib.hid (letters_any b off cap w h.cap)
  have hb := h.piece 0 2 cap (by omega) (by have := h.cap; omega)
  have c1 := hb.toString byT (P := Try.prog) (d := 9) (by kernel_rfl)
  rw [Nat.add_zero] at c1
  have hd : ((strOf (pc l 0 2)).toList == [80, 68]) = spOk l 1 := by
    show _ = (pc l 0 2 == [80, 68])
    rw [Bool.eq_iff_iff, beq_iff_eq, beq_iff_eq, Lib.toList_data]
    constructor
    · intro e
      refine strOf_inj hb.small (by decide) ?_
      have e2 : strOf [80, 68] = ⟨#[80, 68]⟩ := rfl
      rw [e2]
      exact ByteArray.ext (Array.toList_inj.1 e)
    · intro e
      rw [e]; rfl
  generalize spOk l 1 = ok at *
  generalize strOf (pc l 0 2) = s at *
  clear h hb
  go_enter Try.func25, Try.ntmps25
  go_wp2_with fail
  refine HC.out.mono ?_
  rintro e w1 ⟨rfl, rfl⟩
  go_wp2
  go_ret
  exact ⟨rfl, rfl⟩

set_option maxRecDepth 100000 in
theorem hasSize_any (b off cap : Nat) (l : List Nat) (w : World) (h : Sec w b off cap l) :
    Calls Try.prog 26 #[.slice (some ⟨b, off, none⟩) 128 cap] w fun e w' => e = .returned (.bool (spOk l 2)) ∧ w = w' := by
  have HC := Lib.hid (bodyEnd_any b off cap l w h)
  have hd : decide (11 + (slotSize l : Int) ≤ 124) = spOk l 2 := by
    show _ = decide (slotSize l ≤ 113)
    rw [decide_eq_decide]
    omega
  clear h
  generalize spOk l 2 = ok at *
  generalize slotSize l = x at *
  go_enter Try.func26, Try.ntmps26
  go_wp2_with fail
  refine HC.out.mono ?_
  rintro e w1 ⟨rfl, rfl⟩
  go_wp2
  go_ret
  exact ⟨rfl, rfl⟩

set_option maxRecDepth 100000 in
theorem hasSum_any (b off cap : Nat) (l : List Nat) (w : World) (h : Sec w b off cap l) :
    Calls Try.prog 28 #[.slice (some ⟨b, off, none⟩) 128 cap] w fun e w' => e = .returned (.bool (spOk l 4)) ∧ Below w.heap.size w w' := by
  have HC := Lib.hid (sumPart_any b off cap w h.cap)
  have HN := Lib.hid (number_any _ _ w (h.piece 124 4 (cap - 124) (by omega) (by have := h.cap; omega)) (by rw [pc_length (by rw [h.2]; omega)]; omega))
  have HS := Lib.hid (ahead_any b off cap l w h.2 h.1)
  have hd : (((numOf (pc l 124 4) : Nat) : Int) == ((Crc.sum (l.take 124) : Nat) : Int)) = spOk l 4 := by
    show _ = (numOf (pc l 124 4) == Crc.sum (l.take 124))
    rw [Bool.eq_iff_iff, beq_iff_eq, beq_iff_eq]
    omega
  clear h
  generalize spOk l 4 = ok at *
  generalize numOf (pc l 124 4) = x at *
  generalize Crc.sum (l.take 124) = y at *
  go_enter Try.func28, Try.ntmps28
  go_wp2_with fail
  refine HC.out.mono ?_
  rintro e w1 ⟨rfl, rfl⟩
  go_wp2_with fail
  refine HN.out.mono ?_
  rintro e w1 ⟨rfl, rfl⟩
  go_wp2_with fail
  refine HS.out.mono ?_
  rintro e w1 ⟨rfl, hb⟩
  have HB := Lib.hid hb; clear hb
  go_wp2
  go_ret
  exact ⟨rfl, HB.out⟩

set_option maxRecDepth 100000 in
theorem hasNoughts_any (b off cap : Nat) (l : List Nat) (w : World) (h : Sec w b off cap l) (h2 : slotSize l ≤ 113) :
    Calls Try.prog 27 #[.slice (some ⟨b, off, none⟩) 128 cap] w fun e w' => e = .returned (.bool (spOk l 3)) ∧ w = w' := by
  have HC := Lib.hid (noughts_any b off cap l w h h2)
  have hp := h.piece (11 + slotSize l) (113 - slotSize l) (cap - (11 + slotSize l)) (by omega) (by have := h.cap; omega)
  have hpl : (pc l (11 + slotSize l) (113 - slotSize l)).length = 113 - slotSize l := pc_length (by rw [h.2]; omega)
  have HO : Hid (spOk l 3 = (pc l (11 + slotSize l) (113 - slotSize l)).all (· == 0)) := rfl
  have HP := Lib.hid hp
  have HL := Lib.hid hpl
  have hn : 113 - slotSize l ≤ 113 := by omega
  clear hp h h2 hpl
  generalize pc l (11 + slotSize l) (113 - slotSize l) = m at *
  generalize 113 - slotSize l = n at *
  generalize off + (11 + slotSize l) = o at *
  generalize cap - (11 + slotSize l) = c at *
  go_enter Try.func27, Try.ntmps27
  go_wp2_with fail
  refine HC.out.mono ?_
  rintro e w1 ⟨rfl, rfl⟩
  go_wp2
  go_loop [8] (fun i => ∃ k : Nat, k ≤ n ∧ i = .int .i64 k ∧ (m.take k).all (· == 0) = true) (fun i => n - (intOf i).toNat)
  case atStart => exact ⟨0, by omega, rfl, rfl⟩
  case round =>
    obtain ⟨k, hk, rfl, hall⟩ := hrel
    have HA := Lib.hid hall; clear hall
    by_cases hlt : k < n
    · obtain ⟨b1, o1, hbo, hcell⟩ := HP.out.spot k (by rw [HL.out]; exact hlt)
      simp only [Option.some.injEq, Addr.mk.injEq, true_and, and_true] at hbo
      obtain ⟨rfl, rfl⟩ := hbo
      have hmk : k < m.length := by rw [HL.out]; exact hlt
      have hall2 : (m.take (k + 1)).all (· == 0) = (atB m k == 0) := by
        rw [List.take_succ_eq_append_getElem hmk, List.all_append, HA.out, atB_of hmk]
        simp
      have HA2 := Lib.hid hall2; clear hall2 hmk
      by_cases h0 : atB m k = 0
      · rw [h0] at hcell HA2
        clear h0
        go_wp2
        go_round
        case rel => exact ⟨k + 1, by omega, by go_num, HA2.out⟩
        case measure => simp [intOf]; omega
      · have hf : m.all (· == 0) = false := by
          rw [List.all_eq_false]
          refine ⟨atB m k, ?_, by simpa using h0⟩
          rw [atB_of (by rw [HL.out]; exact hlt)]
          exact List.getElem_mem _
        have HF := Lib.hid hf; clear hf
        have h0' : ((atB m k : Nat) : Int) ≠ 0 := by omega
        have h0b : ((atB m k : Nat) : Int) != 0 := by simpa using h0
        have h0c : (((atB m k : Nat) : Int) == 0) = false := by simpa using h0
        clear h0
        go_wp2
        go_ret
        rw [HO.out, HF.out]
        exact ⟨rfl, rfl⟩
    · obtain rfl : k = n := by omega
      have hf : m.all (· == 0) = true := by
        have := HA.out
        rw [List.take_of_length_le (by rw [HL.out]; omega)] at this
        exact this
      have HF := Lib.hid hf; clear hf
      go_wp2
      go_ret
      rw [HO.out, HF.out]
      exact ⟨rfl, rfl⟩
end Go.Proofs.Ytjkbhlfgkpopdaa
