/- slot: a slot is taken. -/
import Derived.Test.YtldkeelgnfegeaaGreatMSlF
import Derived.Test.YtldkeelgnfegeaaGreatCloneG
import Derived.Deep.RegionWith

namespace Go.Proofs.YtldkeelgnfegeaaGreat.Sl
open Go Go.RowKit Go.By

/-- What Take tells. -/
def Taken (w0 : World) (l : List Nat) (e : Ending) (w' : World) : Prop :=
  ∃ p c, e = .returned (.tuple #[.int .u64 (stGen l : Nat), .slice p (stBody l).length c, .int .i64 (stErr l : Nat)]) ∧ Bytes w' (.slice p (stBody l).length c) (stBody l) ∧ Below w0.heap.size w0 w'
theorem taken_no {w0 w' : World} {l : List Nat} (h : isSlot l = false) (hb : Below w0.heap.size w0 w') : Taken w0 l (.returned (.tuple #[.int .u64 0, .slice none 0 0, .int .i64 2])) w' := by
  obtain ⟨e1, e2, e3⟩ := st_none h
  refine ⟨none, 0, ?_, ?_, hb⟩
  · rw [e1, e2, e3]; rfl
  · rw [e3]; exact Bytes.nil _
theorem taken_yes {w0 w' : World} {l : List Nat} {v : Value} (h : isSlot l = true) (hs : ∀ c ∈ l, c < 256) (hl : l.length = 128) (hb : Below w0.heap.size w0 w') (ho : w'.ownsRow w0.heap.size 5 1 v (slotBody l).length (cellsOf (slotBody l))) : Taken w0 l (.returned (.tuple #[.int .u64 (slotGen l : Nat), v, .int .i64 0])) w' := by
  obtain ⟨e1, e2, e3⟩ := st_some h
  obtain ⟨p, c, rfl⟩ := shape_of ho
  refine ⟨p, c, ?_, ?_, hb⟩
  · rw [e1, e2, e3]; rfl
  · rw [e3]; exact Bytes.of_owns ho (pc_small hs) (by simp only [slotBody, pc, List.length_take, List.length_drop]; unfold maxLen; omega)

theorem fidx (f1 f2 f3 f4 f5 : FuncId) (w : World) :
    (Instr.index 143 (.agg #[.func (.func f1) #[] #[], .func (.func f2) #[] #[], .func (.func f3) #[] #[], .func (.func f4) #[] #[], .func (.func f5) #[] #[]]) (.int .i64 0)).run Tryz.prog w = .ok (.func (.func f1) #[] #[]) w ∧
    (Instr.index 143 (.agg #[.func (.func f1) #[] #[], .func (.func f2) #[] #[], .func (.func f3) #[] #[], .func (.func f4) #[] #[], .func (.func f5) #[] #[]]) (.int .i64 1)).run Tryz.prog w = .ok (.func (.func f2) #[] #[]) w ∧
    (Instr.index 143 (.agg #[.func (.func f1) #[] #[], .func (.func f2) #[] #[], .func (.func f3) #[] #[], .func (.func f4) #[] #[], .func (.func f5) #[] #[]]) (.int .i64 2)).run Tryz.prog w = .ok (.func (.func f3) #[] #[]) w ∧
    (Instr.index 143 (.agg #[.func (.func f1) #[] #[], .func (.func f2) #[] #[], .func (.func f3) #[] #[], .func (.func f4) #[] #[], .func (.func f5) #[] #[]]) (.int .i64 3)).run Tryz.prog w = .ok (.func (.func f4) #[] #[]) w ∧
    (Instr.index 143 (.agg #[.func (.func f1) #[] #[], .func (.func f2) #[] #[], .func (.func f3) #[] #[], .func (.func f4) #[] #[], .func (.func f5) #[] #[]]) (.int .i64 4)).run Tryz.prog w = .ok (.func (.func f5) #[] #[]) w := by
  refine ⟨?_, ?_, ?_, ?_, ?_⟩ <;> kernel_rfl

/-- How far it has come. -/
inductive SlotRel (w0 : World) (l : List Nat) : Value → World → Prop where
  | r0 {w : World} : Below w0.heap.size w0 w → SlotRel w0 l (.int .i64 0) w
  | r1 {w : World} : spOk l 0 = true → Below w0.heap.size w0 w → SlotRel w0 l (.int .i64 1) w
  | r2 {w : World} : spOk l 1 = true → Below w0.heap.size w0 w → SlotRel w0 l (.int .i64 2) w
  | r3 {w : World} : spOk l 1 = true → spOk l 2 = true → Below w0.heap.size w0 w → SlotRel w0 l (.int .i64 3) w
  | r4 {w : World} : spOk l 1 = true → spOk l 2 = true → spOk l 3 = true → Below w0.heap.size w0 w → SlotRel w0 l (.int .i64 4) w
  | r5 {w : World} : isSlot l = true → Below w0.heap.size w0 w → SlotRel w0 l (.int .i64 5) w

set_option maxRecDepth 100000 in
theorem take_short (p : Option Addr) (cap : Nat) (l : List Nat) (w : World) (hl : l.length ≤ 17592186044416) (h : l.length ≠ 128) :
    Calls Tryz.prog 67 #[.slice p l.length cap] w fun e w' => Taken w l e w' := by
  have HN := Lib.hid (isSlot_long h)
  have hw := fun w => isWhole_any p l.length cap w hl
  rw [decide_eq_false h] at hw
  have HW := Lib.hid hw
  clear hw h hl
  obtain ⟨h0, -⟩ := fidx 85 86 87 88 89 w
  go_enter Tryz.func67, Tryz.ntmps67
  go_wp2
  go_loopw [9] (fun i wr => i = .int .i64 0 ∧ wr = w) (fun _ _ => 0)
  case atStart => exact ⟨rfl, rfl⟩
  case round =>
    obtain ⟨rfl, rfl⟩ := hrel
    go_wp2_with fail
    refine (HW.out _).mono ?_
    rintro e w1 ⟨rfl, rfl⟩
    go_wp2
    exact bodyPost_ret (v := .tuple #[.int .u64 0, .slice none 0 0, .int .i64 2]) (by simp [results, go_sem]) rfl (taken_no HN.out (Below.refl _ _))

set_option maxRecDepth 100000 in
set_option maxHeartbeats 2000000 in
theorem take_sec (b off cap : Nat) (l : List Nat) (w : World) (h : Sec w b off cap l) :
    Calls Tryz.prog 67 #[.slice (some ⟨b, off, none⟩) 128 cap] w fun e w' => Taken w l e w' := by
  have HSEC := Lib.hid (fun w' (hb : Below w.heap.size w w') => h.below hb)
  have HLEN : Hid (l.length = 128) := h.2
  have HSM : Hid (∀ c ∈ l, c < 256) := h.1.small
  have hcap := h.cap
  clear h
  go_enter Tryz.func67, Tryz.ntmps67
  go_wp2
  go_loopw [9] (fun i wr => SlotRel w l i wr) (fun i _ => 5 - (intOf i).toNat)
  case atStart => exact .r0 (Below.refl _ _)
  case round =>
    obtain ⟨hi0, hi1, hi2, hi3, hi4⟩ := fidx 85 86 87 88 89 wr
    cases hrel with
    | r0 hb =>
      have hw := isWhole_any (some ⟨b, off, none⟩) 128 cap wr (by omega)
      have HW := Lib.hid hw
      have HB := Lib.hid hb
      have HP : Hid (spOk l 0 = true) := decide_eq_true HLEN.out
      clear hw hb hi1 hi2 hi3 hi4
      go_wp2_with fail
      refine HW.out.mono ?_
      rintro e w1 ⟨rfl, rfl⟩
      go_wp2
      go_roundw
      case rel => exact .r1 HP.out HB.out
      case measure => decide
    | r1 hp hb =>
      have HW := Lib.hid (hasLetters_any b off cap l wr (HSEC.out wr hb))
      have HB := Lib.hid hb
      clear hb hi0 hi2 hi3 hi4 hp
      cases ho : spOk l 1
      · have HN : Hid (isSlot l = false) := by unfold Hid isSlot; rw [ho]; simp
        rw [ho] at HW
        clear ho
        go_wp2_with fail
        refine HW.out.mono ?_
        rintro e w1 ⟨rfl, rfl⟩
        go_wp2
        exact bodyPost_ret (v := .tuple #[.int .u64 0, .slice none 0 0, .int .i64 2]) (by simp [results, go_sem]) rfl (taken_no HN.out HB.out)
      · have HP := Lib.hid ho
        rw [ho] at HW
        clear ho
        go_wp2_with fail
        refine HW.out.mono ?_
        rintro e w1 ⟨rfl, rfl⟩
        go_wp2
        go_roundw
        case rel => exact .r2 HP.out HB.out
        case measure => decide
    | r2 hp hb =>
      have HW := Lib.hid (hasSize_any b off cap l wr (HSEC.out wr hb))
      have HB := Lib.hid hb
      have HP1 := Lib.hid hp
      clear hb hi0 hi1 hi3 hi4 hp
      cases ho : spOk l 2
      · have HN : Hid (isSlot l = false) := by unfold Hid isSlot; rw [ho]; simp
        rw [ho] at HW
        clear ho
        go_wp2_with fail
        refine HW.out.mono ?_
        rintro e w1 ⟨rfl, rfl⟩
        go_wp2
        exact bodyPost_ret (v := .tuple #[.int .u64 0, .slice none 0 0, .int .i64 2]) (by simp [results, go_sem]) rfl (taken_no HN.out HB.out)
      · have HP := Lib.hid ho
        rw [ho] at HW
        clear ho
        go_wp2_with fail
        refine HW.out.mono ?_
        rintro e w1 ⟨rfl, rfl⟩
        go_wp2
        go_roundw
        case rel => exact .r3 HP1.out HP.out HB.out
        case measure => decide
    | r3 hp1 hp2 hb =>
      have HW := Lib.hid (hasNoughts_any b off cap l wr (HSEC.out wr hb) (of_decide_eq_true hp2))
      have HB := Lib.hid hb
      have HP1 := Lib.hid hp1
      have HP2 := Lib.hid hp2
      clear hb hi0 hi1 hi2 hi4 hp1 hp2
      cases ho : spOk l 3
      · have HN : Hid (isSlot l = false) := by unfold Hid isSlot; rw [ho]; simp
        rw [ho] at HW
        clear ho
        go_wp2_with fail
        refine HW.out.mono ?_
        rintro e w1 ⟨rfl, rfl⟩
        go_wp2
        exact bodyPost_ret (v := .tuple #[.int .u64 0, .slice none 0 0, .int .i64 2]) (by simp [results, go_sem]) rfl (taken_no HN.out HB.out)
      · have HP := Lib.hid ho
        rw [ho] at HW
        clear ho
        go_wp2_with fail
        refine HW.out.mono ?_
        rintro e w1 ⟨rfl, rfl⟩
        go_wp2
        go_roundw
        case rel => exact .r4 HP1.out HP2.out HP.out HB.out
        case measure => decide
    | r4 hp1 hp2 hp3 hb =>
      have HW := Lib.hid (hasSum_any b off cap l wr (HSEC.out wr hb))
      have HB := Lib.hid hb
      have HP : Hid (isSlot l = spOk l 4) := by
        unfold Hid isSlot
        rw [hp1, hp2, hp3, show spOk l 0 = true from decide_eq_true HLEN.out]; simp
      clear hb hi0 hi1 hi2 hi3 hp1 hp2 hp3
      cases ho : spOk l 4
      · have HN : Hid (isSlot l = false) := HP.out.trans ho
        rw [ho] at HW
        clear ho
        go_wp2_with fail
        refine HW.out.mono ?_
        rintro e w1 ⟨rfl, hb1⟩
        have HB1 : Hid (Below w.heap.size w w1) := HB.out.trans (hb1.mono HB.out.size)
        clear hb1
        go_wp2
        exact bodyPost_ret (v := .tuple #[.int .u64 0, .slice none 0 0, .int .i64 2]) (by simp [results, go_sem]) rfl (taken_no HN.out HB1.out)
      · have HY : Hid (isSlot l = true) := HP.out.trans ho
        rw [ho] at HW
        clear ho
        go_wp2_with fail
        refine HW.out.mono ?_
        rintro e w1 ⟨rfl, hb1⟩
        have HB1 : Hid (Below w.heap.size w w1) := HB.out.trans (hb1.mono HB.out.size)
        clear hb1
        go_wp2
        go_roundw
        case rel => exact .r5 HY.out HB1.out
        case measure => decide
    | r5 hy hb =>
      clear hi0 hi1 hi2 hi3 hi4
      have HSC := Lib.hid (HSEC.out wr hb)
      have HB := Lib.hid hb
      have HY := Lib.hid hy
      have h2 : slotSize l ≤ 113 := by
        simp only [isSlot, Bool.and_eq_true] at hy
        exact of_decide_eq_true hy.2.2.1
      have H2 := Lib.hid h2
      clear hy hb h2
      go_wp2_with fail
      refine (gen_any b off cap wr hcap).mono ?_
      rintro e w1 ⟨rfl, rfl⟩
      have hn := number_any _ _ wr (HSC.out.piece 2 8 (cap - 2) (by omega) (by omega)) (by rw [pc_length (by rw [HLEN.out]; omega)]; omega)
      have HN := Lib.hid hn; clear hn
      go_wp2_with fail
      refine HN.out.mono ?_
      rintro e w1 ⟨rfl, rfl⟩
      go_wp2_with fail
      refine (body_any b off cap l wr HSC.out H2.out).mono ?_
      rintro e w1 ⟨rfl, rfl⟩
      have hbp : Bytes wr (.slice (some ⟨b, off + 11, none⟩) (slotSize l) (cap - 11)) (slotBody l) := HSC.out.piece 11 (slotSize l) (cap - 11) (by have := H2.out; omega) (by have := H2.out; omega)
      have HC := Lib.hid (clone_any _ _ wr hbp (by rw [slotBody, pc_length (by rw [HLEN.out]; have := H2.out; omega)]; have := H2.out; omega))
      clear hbp
      go_wp2_with fail
      refine HC.out.mono ?_
      rintro e w2 ⟨v2, rfl, ho2, hb2⟩
      have hT : Taken w l (.returned (.tuple #[.int .u64 (slotGen l : Nat), v2, .int .i64 0])) w2 := by
        refine taken_yes HY.out HSM.out HLEN.out (HB.out.trans (hb2.mono HB.out.size)) ⟨ho2.1, ?_⟩
        rcases ho2.2 with h | ⟨g, c, cur, h1, h2, h3⟩
        · exact .inl h
        · exact .inr ⟨g, c, cur, h1, by have := HB.out.size; omega, h3⟩
      have HT := Lib.hid hT
      have HG : Hid (slotGen l = numOf (pc l 2 8)) := rfl
      clear hT ho2 hb2
      go_wp2
      exact bodyPost_ret (v := .tuple #[.int .u64 (slotGen l : Nat), v2, .int .i64 0]) (by rw [HG.out]; simp [results, go_sem]) rfl HT.out

/-- What Take tells, whatever it is asked. -/
theorem take_all (v : Value) (l : List Nat) (w : World) (hv : Bytes w v l) (hl : l.length ≤ 17592186044416) :
    Calls Tryz.prog 67 #[v] w fun e w' => Taken w l e w' := by
  obtain ⟨p, cap, rfl, hs⟩ := hv.any
  by_cases h : l.length = 128
  · obtain ⟨b, off, rfl, _⟩ := hs 0 (by omega)
    rw [h]
    exact take_sec b off cap l w ⟨by rw [← h]; exact hv, h⟩
  · exact take_short p cap l w hl h
theorem put_all (g : Nat) (v : Value) (l : List Nat) (w : World) (hg : g < 18446744073709551616) (hv : Bytes w v l) :
    Calls Tryz.prog 62 #[.int .u64 g, v] w fun e w' => ∃ p c, e = .returned (.tuple #[.slice p (spBytes g l).length c, .int .i64 (spErr l : Nat)]) ∧ Bytes w' (.slice p (spBytes g l).length c) (spBytes g l) ∧ Below w.heap.size w w' := by
  by_cases hl : l.length ≤ 113
  · refine (put_any g v l w hg hv hl).mono ?_
    rintro e w' ⟨rfl, hF⟩
    have e1 : spBytes g l = slotOf g l := if_pos hl
    have e2 : spErr l = 0 := if_pos hl
    have h3 := hF.sec (slotOf_length hl) (slotOf_small hl hv.small)
    rw [e1, e2, slotOf_length hl]
    exact ⟨_, _, rfl, h3.1, hF.2⟩
  · refine (put_long g v l w hv (by omega)).mono ?_
    rintro e w' ⟨rfl, rfl⟩
    have e1 : spBytes g l = [] := if_neg hl
    have e2 : spErr l = 4 := if_neg hl
    rw [e1, e2]
    exact ⟨none, 0, rfl, Bytes.nil _, Below.refl _ _⟩
end Go.Proofs.YtldkeelgnfegeaaGreat.Sl

/- slot: which of two is better. -/
namespace Go.Proofs.YtldkeelgnfegeaaGreat.Sl
open Go Go.RowKit Go.By

/-- What Better tells. -/
def Bettered (w0 : World) (a b : List Nat) (e : Ending) (w' : World) : Prop :=
  ∃ p c, e = .returned (.tuple #[.int .i64 (btWhich a b : Nat), .int .u64 (btGen a b : Nat), .slice p (btBody a b).length c, .int .i64 (btErr a b : Nat)]) ∧ Bytes w' (.slice p (btBody a b).length c) (btBody a b) ∧ Below w0.heap.size w0 w'
theorem bt_yes {a b : List Nat} (h : btWins a b = true) : btWhich a b = 1 ∧ btGen a b = stGen b ∧ btBody a b = stBody b ∧ btErr a b = 0 := by
  unfold btWhich btGen btBody btErr
  rw [h]; exact ⟨rfl, rfl, rfl, rfl⟩
theorem bt_no {a b : List Nat} (h : btWins a b = false) : btWhich a b = 0 ∧ btGen a b = stGen a ∧ btBody a b = stBody a ∧ btErr a b = stErr a := by
  unfold btWhich btGen btBody btErr
  rw [h]; exact ⟨rfl, rfl, rfl, rfl⟩
theorem stErr_ok (l : List Nat) : (((stErr l : Nat) : Int) == 0) = isSlot l := by
  unfold stErr
  cases isSlot l <;> rfl
theorem better_yes {w0 w' : World} {a b : List Nat} {p : Option Addr} {c : Nat} (h : btWins a b = true) (hy : Bytes w' (.slice p (stBody b).length c) (stBody b)) (hb : Below w0.heap.size w0 w') : Bettered w0 a b (.returned (.tuple #[.int .i64 1, .int .u64 (stGen b : Nat), .slice p (stBody b).length c, .int .i64 0])) w' := by
  obtain ⟨e1, e2, e3, e4⟩ := bt_yes h
  refine ⟨p, c, ?_, ?_, hb⟩
  · rw [e1, e2, e3, e4]; rfl
  · rw [e3]; exact hy
theorem better_no {w0 w' : World} {a b : List Nat} {p : Option Addr} {c : Nat} (h : btWins a b = false) (hy : Bytes w' (.slice p (stBody a).length c) (stBody a)) (hb : Below w0.heap.size w0 w') : Bettered w0 a b (.returned (.tuple #[.int .i64 0, .int .u64 (stGen a : Nat), .slice p (stBody a).length c, .int .i64 (stErr a : Nat)])) w' := by
  obtain ⟨e1, e2, e3, e4⟩ := bt_no h
  refine ⟨p, c, ?_, ?_, hb⟩
  · rw [e1, e2, e3, e4]; rfl
  · rw [e3]; exact hy

set_option maxRecDepth 100000 in
theorem better_all (u v : Value) (a b : List Nat) (w : World) (hu : Bytes w u a) (hv : Bytes w v b) (ha : a.length ≤ 17592186044416) (hb : b.length ≤ 17592186044416) :
    Calls Tryz.prog 42 #[u, v] w fun e w' => Bettered w a b e w' := by
  have HA := Lib.hid (take_all u a w hu ha)
  have HV := Lib.hid hv
  have HBL := Lib.hid hb
  obtain ⟨p, cap, hu'⟩ : ∃ p cap, u = .slice p a.length cap := let ⟨p, cap, h, _⟩ := hu.any; ⟨p, cap, h⟩
  obtain ⟨q, cup, hv'⟩ : ∃ p cap, v = .slice p b.length cap := let ⟨p, cap, h, _⟩ := hv.any; ⟨p, cap, h⟩
  subst hu' hv'
  clear hu hv ha hb
  have hg : isSlot a = true → stGen a = slotGen a := fun h => (st_some h).2.1
  have hg2 : isSlot b = true → stGen b = slotGen b := fun h => (st_some h).2.1
  have hE0 : isSlot a = true → stErr a = 0 := fun h => (st_some h).1
  have hE2 : isSlot a = false → stErr a = 2 := fun h => (st_none h).1
  have hF0 : isSlot b = true → stErr b = 0 := fun h => (st_some h).1
  have hF2 : isSlot b = false → stErr b = 2 := fun h => (st_none h).1
  cases hib : isSlot b
  · have HW : Hid (btWins a b = false) := by unfold Hid btWins; rw [hib]; rfl
    have f2 := hF2 hib
    clear hg hg2 hib hE0 hE2 hF0 hF2
    go_enter Tryz.func42, Tryz.ntmps42
    go_wp2_with fail
    refine HA.out.mono ?_
    rintro e w1 ⟨p1, c1, rfl, hy1, hb1⟩
    have HY1 := Lib.hid hy1
    have HB1 := Lib.hid hb1
    have HB2 := Lib.hid (take_all _ b w1 (HV.out.below hb1) HBL.out)
    clear hy1 hb1 HA
    go_wp2_with fail
    refine HB2.out.mono ?_
    rintro e w2 ⟨p2, c2, rfl, hy2, hb2⟩
    have HT := Lib.hid (better_no HW.out (HY1.out.below hb2) (HB1.out.trans (hb2.mono HB1.out.size)))
    clear hy2 hb2
    go_wp2
    exact bodyPost_ret (v := .tuple #[.int .i64 0, .int .u64 (stGen a : Nat), .slice p1 (stBody a).length c1, .int .i64 (stErr a : Nat)]) (by simp [results, go_sem]) rfl HT.out
  · have f0 := hF0 hib
    cases hia : isSlot a
    · have HW : Hid (btWins a b = true) := by unfold Hid btWins; rw [hib, hia]; rfl
      have e2 := hE2 hia
      clear hg hg2 hib hia hE0 hE2 hF0 hF2
      go_enter Tryz.func42, Tryz.ntmps42
      go_wp2_with fail
      refine HA.out.mono ?_
      rintro e w1 ⟨p1, c1, rfl, hy1, hb1⟩
      have HB1 := Lib.hid hb1
      have HB2 := Lib.hid (take_all _ b w1 (HV.out.below hb1) HBL.out)
      clear hy1 hb1 HA
      go_wp2_with fail
      refine HB2.out.mono ?_
      rintro e w2 ⟨p2, c2, rfl, hy2, hb2⟩
      have HT := Lib.hid (better_yes HW.out hy2 (HB1.out.trans (hb2.mono HB1.out.size)))
      clear hy2 hb2
      go_wp2
      exact bodyPost_ret (v := .tuple #[.int .i64 1, .int .u64 (stGen b : Nat), .slice p2 (stBody b).length c2, .int .i64 0]) (by simp [results, go_sem]) rfl HT.out
    · have e0 := hE0 hia
      have hga := hg hia
      have hgb := hg2 hib
      by_cases hlt : stGen a < stGen b
      · have HW : Hid (btWins a b = true) := by unfold Hid btWins; rw [hib, hia, ← hga, ← hgb, decide_eq_true hlt]; rfl
        have hlt' : ((stGen a : Nat) : Int) < ((stGen b : Nat) : Int) := by omega
        clear hg hg2 hib hia hE0 hE2 hF0 hF2 hga hgb hlt
        go_enter Tryz.func42, Tryz.ntmps42
        go_wp2_with fail
        refine HA.out.mono ?_
        rintro e w1 ⟨p1, c1, rfl, hy1, hb1⟩
        have HB1 := Lib.hid hb1
        have HB2 := Lib.hid (take_all _ b w1 (HV.out.below hb1) HBL.out)
        clear hy1 hb1 HA
        go_wp2_with fail
        refine HB2.out.mono ?_
        rintro e w2 ⟨p2, c2, rfl, hy2, hb2⟩
        have HT := Lib.hid (better_yes HW.out hy2 (HB1.out.trans (hb2.mono HB1.out.size)))
        clear hy2 hb2
        go_wp2
        exact bodyPost_ret (v := .tuple #[.int .i64 1, .int .u64 (stGen b : Nat), .slice p2 (stBody b).length c2, .int .i64 0]) (by simp [results, go_sem]) rfl HT.out
      · have HW : Hid (btWins a b = false) := by unfold Hid btWins; rw [hib, hia, ← hga, ← hgb, decide_eq_false hlt]; rfl
        have hlt' : ¬ ((stGen a : Nat) : Int) < ((stGen b : Nat) : Int) := by omega
        have hge : ((stGen b : Nat) : Int) ≤ ((stGen a : Nat) : Int) := by omega
        clear hg hg2 hib hia hE0 hE2 hF0 hF2 hga hgb hlt
        go_enter Tryz.func42, Tryz.ntmps42
        go_wp2_with fail
        refine HA.out.mono ?_
        rintro e w1 ⟨p1, c1, rfl, hy1, hb1⟩
        have HY1 := Lib.hid hy1
        have HB1 := Lib.hid hb1
        have HB2 := Lib.hid (take_all _ b w1 (HV.out.below hb1) HBL.out)
        clear hy1 hb1 HA
        go_wp2_with fail
        refine HB2.out.mono ?_
        rintro e w2 ⟨p2, c2, rfl, hy2, hb2⟩
        have HT := Lib.hid (better_no HW.out (HY1.out.below hb2) (HB1.out.trans (hb2.mono HB1.out.size)))
        rw [e0] at HT
        clear hy2 hb2
        go_wp2
        exact bodyPost_ret (v := .tuple #[.int .i64 0, .int .u64 (stGen a : Nat), .slice p1 (stBody a).length c1, .int .i64 0]) (by simp [results, go_sem]) rfl HT.out
end Go.Proofs.YtldkeelgnfegeaaGreat.Sl
