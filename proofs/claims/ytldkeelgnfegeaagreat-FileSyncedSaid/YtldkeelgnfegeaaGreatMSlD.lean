/- slot: what a sector's parts say. -/
import Derived.Test.YtldkeelgnfegeaaGreatMSlB
import Derived.Lib.Bytes

namespace Go.Proofs.YtldkeelgnfegeaaGreat.Sl
open Go Go.RowKit Go.By

/-- A piece of a row that has an address. -/
theorem piece_at {w : World} {b off cap : Nat} {l : List Nat} (h : Bytes w (.slice (some ⟨b, off, none⟩) l.length cap) l) (i n c : Nat) (hn : i + n ≤ l.length) (hc : n ≤ c) : Bytes w (.slice (some ⟨b, off + i, none⟩) n c) (pc l i n) where
  out := by
    have hpl := pc_length hn
    refine .inr <| .inr ⟨b, off + i, c, by rw [hpl], by rw [hpl]; exact hc, fun j hj => ?_⟩
    rw [hpl] at hj
    obtain ⟨b', o', h1, h2⟩ := h.spot (i + j) (by omega)
    simp only [Option.some.injEq, Addr.mk.injEq, and_true] at h1
    obtain ⟨rfl, rfl⟩ := h1
    rw [Nat.add_assoc, h2, pc_at hj]
  small := pc_small h.small
  short := by rw [pc_length hn]; have := h.short; omega

theorem pc_one {l : List Nat} {i : Nat} (h : i < l.length) : pc l i 1 = [atB l i] := by
  unfold pc
  rw [drop_at h]; rfl
theorem numOf_one (c : Nat) : numOf [c] = c := by simp [numOf]
theorem slotSize_lt {l : List Nat} (hl : l.length = 128) (hs : ∀ c ∈ l, c < 256) : slotSize l < 256 := by
  unfold slotSize
  rw [atB_of (by omega)]
  exact hs _ (List.getElem_mem _)

/-- The bytes of a sector, at an address. -/
def Sec (w : World) (b off cap : Nat) (l : List Nat) : Prop := Bytes w (.slice (some ⟨b, off, none⟩) 128 cap) l ∧ l.length = 128
theorem Sec.cap {w : World} {b off cap : Nat} {l : List Nat} (h : Sec w b off cap l) : 128 ≤ cap := h.1.room.2
theorem Sec.full {w : World} {b off cap : Nat} {l : List Nat} (h : Sec w b off cap l) : Bytes w (.slice (some ⟨b, off, none⟩) l.length cap) l := by
  have := h.1
  rw [h.2]; exact this
theorem Sec.piece {w : World} {b off cap : Nat} {l : List Nat} (h : Sec w b off cap l) (i n c : Nat) (hn : i + n ≤ 128) (hc : n ≤ c) : Bytes w (.slice (some ⟨b, off + i, none⟩) n c) (pc l i n) := piece_at h.full i n c (by rw [h.2]; exact hn) hc
theorem Sec.below {w w' : World} {b off cap : Nat} {l : List Nat} (h : Sec w b off cap l) (hb : Below w.heap.size w w') : Sec w' b off cap l := ⟨h.1.below hb, h.2⟩

set_option maxRecDepth 100000 in
theorem bodyEnd_any (b off cap : Nat) (l : List Nat) (w : World) (h : Sec w b off cap l) :
    Calls Tryz.prog 94 #[.slice (some ⟨b, off, none⟩) 128 cap] w fun e w' => e = .returned (.int .i64 (11 + (slotSize l : Int))) ∧ w = w' := by
  have hc := size_any b off cap w h.cap
  have hn := number_any _ _ w (h.piece 10 1 (cap - 10) (by omega) (by have := h.cap; omega)) (by rw [pc_length (by rw [h.2]; omega)]; omega)
  rw [pc_one (by rw [h.2]; omega), numOf_one] at hn
  have hs := slotSize_lt h.2 h.1.small
  unfold slotSize at hs ⊢
  have HC := Lib.hid hc; have HN := Lib.hid hn
  clear hc hn h
  generalize atB l 10 = x at *
  go_enter Tryz.func94, Tryz.ntmps94
  go_wp2_with fail
  refine HC.out.mono ?_
  rintro e w1 ⟨rfl, rfl⟩
  go_wp2_with fail
  refine HN.out.mono ?_
  rintro e w1 ⟨rfl, rfl⟩
  go_wp2
  go_ret
  exact ⟨ret_int (by omega), rfl⟩

set_option maxRecDepth 100000 in
theorem body_any (b off cap : Nat) (l : List Nat) (w : World) (h : Sec w b off cap l) (h2 : slotSize l ≤ 113) :
    Calls Tryz.prog 79 #[.slice (some ⟨b, off, none⟩) 128 cap] w fun e w' => e = .returned (.slice (some ⟨b, off + 11, none⟩) (slotSize l) (cap - 11)) ∧ w = w' := by
  have HC := Lib.hid (bodyEnd_any b off cap l w h)
  have hr := cut_lh b off 128 cap 11 (slotSize l) 11 (11 + (slotSize l : Int)) rfl (by omega) (by have := h.cap; omega) (by have := h.cap; omega)
  clear h h2
  generalize slotSize l = x at *
  go_enter Tryz.func79, Tryz.ntmps79
  go_wp2_with fail
  refine HC.out.mono ?_
  rintro e w1 ⟨rfl, rfl⟩
  go_wp2
  go_ret
  exact ⟨rfl, rfl⟩

set_option maxRecDepth 100000 in
theorem noughts_any (b off cap : Nat) (l : List Nat) (w : World) (h : Sec w b off cap l) (h2 : slotSize l ≤ 113) :
    Calls Tryz.prog 106 #[.slice (some ⟨b, off, none⟩) 128 cap] w fun e w' => e = .returned (.slice (some ⟨b, off + (11 + slotSize l), none⟩) (113 - slotSize l) (cap - (11 + slotSize l))) ∧ w = w' := by
  have HC := Lib.hid (bodyEnd_any b off cap l w h)
  have hr := cut_lh b off 128 cap (11 + slotSize l) (113 - slotSize l) (11 + (slotSize l : Int)) 124 (by omega) (by omega) (by have := h.cap; omega) (by have := h.cap; omega)
  clear h h2
  generalize slotSize l = x at *
  go_enter Tryz.func106, Tryz.ntmps106
  go_wp2_with fail
  refine HC.out.mono ?_
  rintro e w1 ⟨rfl, rfl⟩
  go_wp2
  go_ret
  exact ⟨rfl, rfl⟩

theorem isWhole_any (p : Option Addr) (n cap : Nat) (w : World) (_hm : n ≤ 17592186044416) :
    Calls Tryz.prog 85 #[.slice p n cap] w fun e w' => e = .returned (.bool (decide (n = 128))) ∧ w = w' := by
  have hd : ((n : Int) == 128) = decide (n = 128) := by rw [Bool.eq_iff_iff]; simp; omega
  go_enter Tryz.func85, Tryz.ntmps85
  go_wp2
  go_ret
  exact ⟨rfl, rfl⟩

theorem strOf_inj {l m : List Nat} (hl : ∀ c ∈ l, c < 256) (hm : ∀ c ∈ m, c < 256) (h : strOf l = strOf m) : l = m := by
  have e : ∀ l : List Nat, (∀ c ∈ l, c < 256) → (strOf l).data.toList.map UInt8.toNat = l := by
    intro l hl
    unfold strOf
    rw [strOfNums_data, List.map_map, List.map_map]
    conv => rhs; rw [← List.map_id l]
    apply List.map_congr_left
    intro c hc
    have := hl c hc
    simp
    omega
  rw [← e l hl, ← e m hm, h]

set_option maxRecDepth 100000 in
theorem hasLetters_any (b off cap : Nat) (l : List Nat) (w : World) (h : Sec w b off cap l) :
    Calls Tryz.prog 86 #[.slice (some ⟨b, off, none⟩) 128 cap] w fun e w' => e = .returned (.bool (spOk l 1)) ∧ w = w' := by
  have HC := Lib.hid (letters_any b off cap w h.cap)
  have hb := h.piece 0 2 cap (by omega) (by have := h.cap; omega)
  have c1 := hb.toString byT (P := Tryz.prog) (d := 9) (by kernel_rfl)
  rw [Nat.add_zero] at c1
  have hd : ((strOf (pc l 0 2)).toList == [80, 68]) = spOk l 1 := by
    show _ = (pc l 0 2 == [80, 68])
    rw [Bool.eq_iff_iff, beq_iff_eq, beq_iff_eq, Lib.toList_data]
    constructor
    · intro e
      refine strOf_inj hb.small (by decide) ?_
      have e2 : strOf [80, 68] = ⟨#[80, 68]⟩ := rfl
      rw [e2]
      exact ByteArray.ext (Array.toList_inj.1 e)
    · intro e
      rw [e]; rfl
  generalize spOk l 1 = ok at *
  generalize strOf (pc l 0 2) = s at *
  clear h hb
  go_enter Tryz.func86, Tryz.ntmps86
  go_wp2_with fail
  refine HC.out.mono ?_
  rintro e w1 ⟨rfl, rfl⟩
  go_wp2
  go_ret
  exact ⟨rfl, rfl⟩

set_option maxRecDepth 100000 in
theorem hasSize_any (b off cap : Nat) (l : List Nat) (w : World) (h : Sec w b off cap l) :
    Calls Tryz.prog 87 #[.slice (some ⟨b, off, none⟩) 128 cap] w fun e w' => e = .returned (.bool (spOk l 2)) ∧ w = w' := by
  have HC := Lib.hid (bodyEnd_any b off cap l w h)
  have hd : decide (11 + (slotSize l : Int) ≤ 124) = spOk l 2 := by
    show _ = decide (slotSize l ≤ 113)
    rw [decide_eq_decide]
    omega
  clear h
  generalize spOk l 2 = ok at *
  generalize slotSize l = x at *
  go_enter Tryz.func87, Tryz.ntmps87
  go_wp2_with fail
  refine HC.out.mono ?_
  rintro e w1 ⟨rfl, rfl⟩
  go_wp2
  go_ret
  exact ⟨rfl, rfl⟩

set_option maxRecDepth 100000 in
theorem hasSum_any (b off cap : Nat) (l : List Nat) (w : World) (h : Sec w b off cap l) :
    Calls Tryz.prog 89 #[.slice (some ⟨b, off, none⟩) 128 cap] w fun e w' => e = .returned (.bool (spOk l 4)) ∧ Below w.heap.size w w' := by
  have HC := Lib.hid (sumPart_any b off cap w h.cap)
  have HN := Lib.hid (number_any _ _ w (h.piece 124 4 (cap - 124) (by omega) (by have := h.cap; omega)) (by rw [pc_length (by rw [h.2]; omega)]; omega))
  have HS := Lib.hid (ahead_any b off cap l w h.2 h.1)
  have hd : (((numOf (pc l 124 4) : Nat) : Int) == ((Crc.sum (l.take 124) : Nat) : Int)) = spOk l 4 := by
    show _ = (numOf (pc l 124 4) == Crc.sum (l.take 124))
    rw [Bool.eq_iff_iff, beq_iff_eq, beq_iff_eq]
    omega
  clear h
  generalize spOk l 4 = ok at *
  generalize numOf (pc l 124 4) = x at *
  generalize Crc.sum (l.take 124) = y at *
  go_enter Tryz.func89, Tryz.ntmps89
  go_wp2_with fail
  refine HC.out.mono ?_
  rintro e w1 ⟨rfl, rfl⟩
  go_wp2_with fail
  refine HN.out.mono ?_
  rintro e w1 ⟨rfl, rfl⟩
  go_wp2_with fail
  refine HS.out.mono ?_
  rintro e w1 ⟨rfl, hb⟩
  have HB := Lib.hid hb; clear hb
  go_wp2
  go_ret
  exact ⟨rfl, HB.out⟩

set_option maxRecDepth 100000 in
theorem hasNoughts_any (b off cap : Nat) (l : List Nat) (w : World) (h : Sec w b off cap l) (h2 : slotSize l ≤ 113) :
    Calls Tryz.prog 88 #[.slice (some ⟨b, off, none⟩) 128 cap] w fun e w' => e = .returned (.bool (spOk l 3)) ∧ w = w' := by
  have HC := Lib.hid (noughts_any b off cap l w h h2)
  have hp := h.piece (11 + slotSize l) (113 - slotSize l) (cap - (11 + slotSize l)) (by omega) (by have := h.cap; omega)
  have hpl : (pc l (11 + slotSize l) (113 - slotSize l)).length = 113 - slotSize l := pc_length (by rw [h.2]; omega)
  have HO : Hid (spOk l 3 = (pc l (11 + slotSize l) (113 - slotSize l)).all (· == 0)) := rfl
  have HP := Lib.hid hp
  have HL := Lib.hid hpl
  have hn : 113 - slotSize l ≤ 113 := by omega
  clear hp h h2 hpl
  generalize pc l (11 + slotSize l) (113 - slotSize l) = m at *
  generalize 113 - slotSize l = n at *
  generalize off + (11 + slotSize l) = o at *
  generalize cap - (11 + slotSize l) = c at *
  go_enter Tryz.func88, Tryz.ntmps88
  go_wp2_with fail
  refine HC.out.mono ?_
  rintro e w1 ⟨rfl, rfl⟩
  go_wp2
  go_loop [8] (fun i => ∃ k : Nat, k ≤ n ∧ i = .int .i64 k ∧ (m.take k).all (· == 0) = true) (fun i => n - (intOf i).toNat)
  case atStart => exact ⟨0, by omega, rfl, rfl⟩
  case round =>
    obtain ⟨k, hk, rfl, hall⟩ := hrel
    have HA := Lib.hid hall; clear hall
    by_cases hlt : k < n
    · obtain ⟨b1, o1, hbo, hcell⟩ := HP.out.spot k (by rw [HL.out]; exact hlt)
      simp only [Option.some.injEq, Addr.mk.injEq, and_true] at hbo
      obtain ⟨rfl, rfl⟩ := hbo
      have hmk : k < m.length := by rw [HL.out]; exact hlt
      have hall2 : (m.take (k + 1)).all (· == 0) = (atB m k == 0) := by
        rw [List.take_succ_eq_append_getElem hmk, List.all_append, HA.out, atB_of hmk]
        simp
      have HA2 := Lib.hid hall2; clear hall2 hmk
      by_cases h0 : atB m k = 0
      · rw [h0] at hcell HA2
        clear h0
        go_wp2
        go_round
        case rel => exact ⟨k + 1, by omega, by go_num, HA2.out⟩
        case measure => simp [intOf]; omega
      · have hf : m.all (· == 0) = false := by
          rw [List.all_eq_false]
          refine ⟨atB m k, ?_, by simpa using h0⟩
          rw [atB_of (by rw [HL.out]; exact hlt)]
          exact List.getElem_mem _
        have HF := Lib.hid hf; clear hf
        have h0' : ((atB m k : Nat) : Int) ≠ 0 := by omega
        have h0b : ((atB m k : Nat) : Int) != 0 := by simpa using h0
        have h0c : (((atB m k : Nat) : Int) == 0) = false := by simpa using h0
        clear h0
        go_wp2
        go_ret
        rw [HO.out, HF.out]
        exact ⟨rfl, rfl⟩
    · obtain rfl : k = n := by omega
      have hf : m.all (· == 0) = true := by
        have := HA.out
        rw [List.take_of_length_le (by rw [HL.out]; omega)] at this
        exact this
      have HF := Lib.hid hf; clear hf
      go_wp2
      go_ret
      rw [HO.out, HF.out]
      exact ⟨rfl, rfl⟩
end Go.Proofs.YtldkeelgnfegeaaGreat.Sl

/- slot: a number is put; a slot is put. -/
namespace Go.Proofs.YtldkeelgnfegeaaGreat.Sl
open Go Go.RowKit Go.By

theorem splice_length {L X : List Nat} {i : Nat} (h : i + X.length ≤ L.length) : (splice L i X).length = L.length := length_splice L i X h
theorem splice_mid {A M C X : List Nat} {i : Nat} (hA : A.length = i) (hM : M.length = X.length) : splice (A ++ (M ++ C)) i X = A ++ (X ++ C) := by
  subst hA
  unfold splice
  rw [← hM]
  simp
theorem splice_set {L X : List Nat} {i c : Nat} (h : i + 1 + X.length ≤ L.length) : (splice L (i + 1) X).set i c = splice L i (c :: X) := by
  unfold splice
  rw [List.set_append_left _ _ (by simp; omega), List.take_succ_eq_append_getElem (by omega), List.set_append_right _ _ (by simp; omega)]
  simp [Nat.min_eq_left (by omega : i ≤ L.length)]
  congr 1
  omega

theorem tup_none : (Value.tuple #[]) = .tuple #[] := rfl

set_option maxRecDepth 100000 in
theorem putNumber_any (w0 w : World) (L : List Nat) (off n c v : Nat) (h : Filled w0 w L) (ho : off + n ≤ L.length) (hn : n ≤ 8) (hv : v < 18446744073709551616) :
    Calls Tryz.prog 76 #[.slice (some ⟨w0.heap.size, off, none⟩) n c, .int .u64 v] w fun e w' => e = .returned (.tuple #[]) ∧ Filled w0 w' (splice L off (highOf v n)) := by
  have H := Lib.hid h
  have hv' : (v : Int) < 18446744073709551616 := by omega
  clear h
  go_enter Tryz.func76, Tryz.ntmps76
  go_wp2
  go_loopw [7] (fun i wr => ∃ k : Nat, k ≤ n ∧ i = .int .i64 k ∧ Filled w0 wr (splice L (off + (n - k)) (highOf v k))) (fun i _ => n - (intOf i).toNat)
  case atStart =>
    refine ⟨0, by omega, rfl, ?_⟩
    have e : splice L (off + (n - 0)) (highOf v 0) = L := by simp [splice, highOf]
    rw [e]; exact H.out
  case round =>
    clear H
    obtain ⟨k, hk, rfl, hF⟩ := hrel
    by_cases hlt : k < n
    · obtain ⟨j, hj⟩ : ∃ j, j = n - 1 - k := ⟨_, rfl⟩
      have hj1 : (n : Int) - 1 - (k : Int) = j := by omega
      have hlen : (splice L (off + (n - k)) (highOf v k)).length = L.length := splice_length (by rw [highOf_length]; omega)
      have hc := hF.cell (i := off + j) (by rw [hlen]; omega)
      have hf := hF.free (off + j)
      have hset := hF.set (off + j) (v / 256 ^ k % 256)
      have e1 : off + (n - k) = off + j + 1 := by omega
      have e2 : off + (n - (k + 1)) = off + j := by omega
      rw [e1, splice_set (by rw [highOf_length]; omega), ← highOf_cons, ← e2] at hset
      have HS := Lib.hid hset
      have hsh : (v : Int) / 2 ^ (8 * (k : Int)).toNat = ((v / 256 ^ k : Nat) : Int) := by
        have : (8 * (k : Int)).toNat = 8 * k := by omega
        rw [this, show 256 ^ k = 2 ^ (8 * k) by rw [Nat.pow_mul], Int.natCast_ediv, Int.natCast_pow]
        rfl
      have hvk : v / 256 ^ k < 18446744073709551616 := Nat.lt_of_le_of_lt (Nat.div_le_self _ _) hv
      generalize v / 256 ^ k = x at *
      have hjl : (j : Int) < n := by omega
      have E2 := Lib.hid e2
      clear hset hF e1 e2 hlen hj hvk
      go_wp2
      go_roundw
      case rel => exact ⟨k + 1, by omega, by go_num, by have := HS.out; rw [E2.out] at this ⊢; exact this⟩
      case measure => simp [intOf]; omega
    · obtain rfl : k = n := by omega
      rw [Nat.sub_self, Nat.add_zero] at hF
      have HF := Lib.hid hF; clear hF
      go_wp2
      go_returns
      exact ⟨rfl, HF.out⟩
end Go.Proofs.YtldkeelgnfegeaaGreat.Sl
