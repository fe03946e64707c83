/- Own texts, merged: RecC, Clone, RecD, Gen, CloneG, SlA, SlB, SlC, SlD, SlE, SlF, SlG, SlH. -/
import Derived.Test.YtldkeelgnfegeaaGreatM1
import Derived.Lib.SliceRun
import Derived.Deep.RegionWith
import Derived.Handy
import Derived.Maps.AppendAt
import Derived.Laws.OwnMore
import Derived.Laws.CopyOwn
import Derived.Deep.RegionLaw
import Derived.Deep.QuietTactic
import Derived.BigQuiet
import Derived.Deep.RegionHeld3
import Derived.Lib.Bytes
import Derived.Lib.BufferWrite

/- rec: the reader's numbers and parts. -/
namespace Go.Proofs.YtldkeelgnfegeaaGreat.Rc
open Go Go.RowKit Go.By

set_option maxRecDepth 100000 in
theorem number_no (B b : Nat) (w0 w : World) (sv : Value) (l : List Nat) (i size kind : Nat) (bv : Value) (h : Rd B b w0 w sv i size kind bv) (hsv : Bytes w0 sv l) (hi : i ≤ l.length) (hlt : l.length < i + 4) :
    Calls Tryz.prog 73 #[.pointer (some ⟨b, 0, none⟩)] w fun e w' => e = .returned (.tuple #[.int .u32 0, .bool false]) ∧ Rd B b w0 w' sv i size kind bv := by
  have hc := next_no B b w0 w sv l i size kind 4 bv h hsv hi (by omega) hlt
  have HC := Lib.hid hc
  clear hc h hsv hi hlt
  go_enter Tryz.func73, Tryz.ntmps73
  go_wp2_with fail
  refine HC.out.mono ?_
  rintro e w1 ⟨rfl, hr⟩
  have HR := Lib.hid hr; clear hr
  go_wp2
  go_loop [6, 16] (fun x i => x = .int .u32 0 ∧ i = .int .i64 0) (fun _ _ => 0)
  case atStart => exact ⟨rfl, rfl⟩
  case round =>
    obtain ⟨rfl, rfl⟩ := hrel
    go_wp2
    go_ret2
    exact ⟨rfl, HR.out⟩

theorem or_byte (n c : Nat) (hn : n < 16777216) (hc : c < 256) : bits .or .u32 ((n * 256 : Nat) : Int) (c : Int) = ((n * 256 + c : Nat) : Int) := by
  have h := Nat.two_pow_add_eq_or_of_lt (i := 8) (b := c) hc n
  rw [(bits_nat .u32 32 (by decide) (fun n h0 h1 => by rw [IntKind.wrap_u32]; omega) (n * 256) c (by omega) (by omega)).2]
  have h3 : n * 256 ||| c = n * 256 + c := by rw [show n * 256 = 2 ^ 8 * n by omega, ← h]
  rw [h3]

set_option maxRecDepth 100000 in
theorem number_yes (B b : Nat) (w0 w : World) (sv : Value) (l : List Nat) (i size kind : Nat) (bv : Value) (h : Rd B b w0 w sv i size kind bv) (hsv : Bytes w0 sv l) (hB : B ≤ b) (hw : w0.heap.size ≤ B) (hlt : i + 4 ≤ l.length) :
    Calls Tryz.prog 73 #[.pointer (some ⟨b, 0, none⟩)] w fun e w' => e = .returned (.tuple #[.int .u32 (numOf (pc l i 4) : Nat), .bool true]) ∧ Rd B b w0 w' sv (i + 4) size kind bv := by
  have hc := next_yes B b w0 w sv l i size kind 4 bv h hsv hB hlt
  have HC := Lib.hid hc
  have hps : ∀ c ∈ pc l i 4, c < 256 := pc_small hsv.small
  have hpl : (pc l i 4).length = 4 := pc_length hlt
  have HW := Lib.hid hw
  clear hc h hsv hlt hB hw
  generalize pc l i 4 = m at *
  have HM := Lib.hid hps; have HL := Lib.hid hpl
  clear hps hpl
  go_enter Tryz.func73, Tryz.ntmps73
  go_wp2_with fail
  refine HC.out.mono ?_
  rintro e w1 ⟨q, c, rfl, hbq, hr⟩
  have HQ := Lib.hid (hbq.below (hr.2.mono HW.out)); have HR := Lib.hid hr; clear hr hbq HC
  go_wp2
  go_loop [6, 16] (fun x i => ∃ k : Nat, k ≤ 4 ∧ i = .int .i64 k ∧ x = .int .u32 (numOf (m.take k) : Nat)) (fun _ i => 4 - (intOf i).toNat)
  case atStart => exact ⟨0, by omega, rfl, rfl⟩
  case round =>
    obtain ⟨k, hk, rfl, rfl⟩ := hrel
    by_cases hk4 : k < 4
    · have hmk : k < m.length := by rw [HL.out]; exact hk4
      obtain ⟨b1, o1, rfl, hcell⟩ := HQ.out.spot k hmk
      have hn : numOf (m.take k) < 16777216 := by
        have h1 := numOf_lt (m.take k) (fun c hc => HM.out c (List.mem_of_mem_take hc))
        have h2 : 256 ^ (m.take k).length ≤ 256 ^ 3 := Nat.pow_le_pow_right (by omega) (by rw [List.length_take]; omega)
        omega
      have hcl : atB m k < 256 := HM.out _ (by rw [atB_of hmk]; exact List.getElem_mem hmk)
      have hs : numOf (m.take (k + 1)) = numOf (m.take k) * 256 + atB m k := by
        rw [List.take_succ_eq_append_getElem hmk, numOf_snoc, atB_of hmk]
      have HS := Lib.hid hs; clear hs
      have e1 := or_byte (numOf (m.take k)) (atB m k) hn hcl
      have e2 : IntKind.u32.wrap ((numOf (m.take k) : Int) * 256) = ((numOf (m.take k) * 256 : Nat) : Int) := by rw [IntKind.wrap_u32]; omega
      generalize numOf (m.take k) * 256 = z at *
      generalize numOf (m.take k) = x at *
      generalize atB m k = y at *
      generalize hzy : z + y = zy at *
      clear hmk hn hzy
      go_wp2
      go_round
      case rel => exact ⟨k + 1, by omega, by go_num, by rw [HS.out]⟩
      case measure => simp [intOf]; omega
    · obtain rfl : k = 4 := by omega
      have ht : m.take 4 = m := List.take_of_length_le (by rw [HL.out]; omega)
      rw [ht]
      clear ht
      go_wp2
      go_ret2
      exact ⟨rfl, HR.out⟩

/-- What a part that is not there tells. -/
def PartNo (B : Nat) (w0 : World) (e : Ending) (w' : World) : Prop := e = .returned (.bool false) ∧ Below B w0 w'

set_option maxRecDepth 100000 in
theorem size_no (B b : Nat) (w0 w : World) (sv : Value) (l : List Nat) (bv : Value) (h : Rd B b w0 w sv 0 0 0 bv) (hsv : Bytes w0 sv l) (hB : B ≤ b) (hw : w0.heap.size ≤ B) (hp : partOk l 0 = false) :
    Calls Tryz.prog 58 #[.pointer (some ⟨b, 0, none⟩)] w fun e w' => PartNo B w0 e w' := by
  by_cases h4 : 4 ≤ l.length
  · have hc := number_yes B b w0 w sv l 0 0 0 bv h hsv hB hw (by omega)
    have hn : 4096 < (numOf (pc l 0 4) : Int) := by
      simp only [partOk, decide_eq_true h4, Bool.true_and, decide_eq_false_iff_not] at hp
      unfold bodyLen at hp
      omega
    have HC := Lib.hid hc
    clear hc h hsv hB hw hp h4
    generalize numOf (pc l 0 4) = x at *
    go_enter Tryz.func58, Tryz.ntmps58
    go_wp2_with fail
    refine HC.out.mono ?_
    rintro e w1 ⟨rfl, hr⟩
    have HR := Lib.hid hr; clear hr
    go_wp2
    go_ret
    exact ⟨rfl, HR.out.2⟩
  · have hc := number_no B b w0 w sv l 0 0 0 bv h hsv (by omega) (by omega)
    have HC := Lib.hid hc
    clear hc h hsv hB hw hp h4
    go_enter Tryz.func58, Tryz.ntmps58
    go_wp2_with fail
    refine HC.out.mono ?_
    rintro e w1 ⟨rfl, hr⟩
    have HR := Lib.hid hr; clear hr
    go_wp2
    go_ret
    exact ⟨rfl, HR.out.2⟩

set_option maxRecDepth 100000 in
theorem size_yes (B b : Nat) (w0 w : World) (sv : Value) (l : List Nat) (bv : Value) (h : Rd B b w0 w sv 0 0 0 bv) (hsv : Bytes w0 sv l) (hB : B ≤ b) (hw : w0.heap.size ≤ B) (hp : partOk l 0 = true) :
    Calls Tryz.prog 58 #[.pointer (some ⟨b, 0, none⟩)] w fun e w' => e = .returned (.bool true) ∧ Rd B b w0 w' sv 4 (bodyLen l) 0 bv := by
  simp only [partOk, Bool.and_eq_true, decide_eq_true_eq] at hp
  have hc := number_yes B b w0 w sv l 0 0 0 bv h hsv hB hw (by omega)
  have hn : (numOf (pc l 0 4) : Int) ≤ 4096 := by have := hp.2; unfold bodyLen at this; omega
  have HC := Lib.hid hc
  have HBB := Lib.hid hB
  clear hc h hsv hB hw hp
  unfold bodyLen
  generalize numOf (pc l 0 4) = x at *
  go_enter Tryz.func58, Tryz.ntmps58
  go_wp2_with fail
  refine HC.out.mono ?_
  rintro e w1 ⟨rfl, hr⟩
  have c2 := cells_of hr.1 2
  have f0 := free_of hr.1
  simp only [List.getElem?_toArray, List.getElem?_cons_zero, List.getElem?_cons_succ] at c2
  have HR := Lib.hid (hr.setSize HBB.out x); clear hr
  go_wp2
  go_ret
  exact ⟨rfl, HR.out⟩

set_option maxRecDepth 100000 in
theorem kind_no (B b : Nat) (w0 w : World) (sv : Value) (l : List Nat) (size : Nat) (bv : Value) (h : Rd B b w0 w sv 4 size 0 bv) (hsv : Bytes w0 sv l) (h4 : 4 ≤ l.length) (hp : partOk l 1 = false) :
    Calls Tryz.prog 59 #[.pointer (some ⟨b, 0, none⟩)] w fun e w' => PartNo B w0 e w' := by
  have hc := next_no B b w0 w sv l 4 size 0 1 bv h hsv h4 (by omega) (by simp only [partOk, decide_eq_false_iff_not] at hp; omega)
  have HC := Lib.hid hc
  clear hc h hsv hp h4
  go_enter Tryz.func59, Tryz.ntmps59
  go_wp2_with fail
  refine HC.out.mono ?_
  rintro e w1 ⟨rfl, hr⟩
  have HR := Lib.hid hr; clear hr
  go_wp2
  go_ret
  exact ⟨rfl, HR.out.2⟩

set_option maxRecDepth 100000 in
theorem kind_yes (B b : Nat) (w0 w : World) (sv : Value) (l : List Nat) (size : Nat) (bv : Value) (h : Rd B b w0 w sv 4 size 0 bv) (hsv : Bytes w0 sv l) (hB : B ≤ b) (hw : w0.heap.size ≤ B) (hp : partOk l 1 = true) :
    Calls Tryz.prog 59 #[.pointer (some ⟨b, 0, none⟩)] w fun e w' => e = .returned (.bool true) ∧ Rd B b w0 w' sv 5 size (atB l 4) bv := by
  simp only [partOk, decide_eq_true_eq] at hp
  have hc := next_yes B b w0 w sv l 4 size 0 1 bv h hsv hB (by omega)
  have ha : Hid (atB (pc l 4 1) 0 = atB l 4) := pc_at (by omega)
  have hpl : Hid ((pc l 4 1).length = 1) := pc_length (by omega)
  have HC := Lib.hid hc
  have HBB := Lib.hid hB
  have HW := Lib.hid hw
  clear hc h hsv hB hw hp
  generalize pc l 4 1 = m at *
  generalize atB l 4 = y at *
  go_enter Tryz.func59, Tryz.ntmps59
  go_wp2_with fail
  refine HC.out.mono ?_
  rintro e w1 ⟨q, c, rfl, hbq, hr⟩
  obtain ⟨b1, o1, rfl, hcell⟩ := (hbq.below (hr.2.mono HW.out)).spot 0 (by rw [hpl.out]; omega)
  rw [ha.out, Nat.add_zero] at hcell
  have c3 := cells_of hr.1 3
  have f0 := free_of hr.1
  simp only [List.getElem?_toArray, List.getElem?_cons_zero, List.getElem?_cons_succ] at c3
  have HR := Lib.hid (hr.setKind HBB.out y); clear hr hbq
  go_wp2
  go_ret
  exact ⟨rfl, HR.out⟩

set_option maxRecDepth 100000 in
theorem body_no (B b : Nat) (w0 w : World) (sv : Value) (l : List Nat) (kind : Nat) (bv : Value) (h : Rd B b w0 w sv 5 (bodyLen l) kind bv) (hsv : Bytes w0 sv l) (hB : B ≤ b) (h5 : 5 ≤ l.length) (hn : bodyLen l ≤ 4096) (hp : partOk l 2 = false) :
    Calls Tryz.prog 60 #[.pointer (some ⟨b, 0, none⟩)] w fun e w' => PartNo B w0 e w' := by
  have hc := next_no B b w0 w sv l 5 (bodyLen l) kind (bodyLen l) bv h hsv h5 (by omega) (by simp only [partOk, decide_eq_false_iff_not] at hp; omega)
  have HC := Lib.hid hc
  have c2 := cells_of h.1 2
  have c4 := cells_of h.1 4
  simp only [List.getElem?_toArray, List.getElem?_cons_zero, List.getElem?_cons_succ] at c2 c4
  have HBB := Lib.hid hB
  clear hc h hsv hp h5 hn hB
  generalize bodyLen l = x at *
  go_enter Tryz.func60, Tryz.ntmps60
  go_wp2_with fail
  refine HC.out.mono ?_
  rintro e w1 ⟨rfl, hr⟩
  have f0 := free_of hr.1
  have d4 := cells_of hr.1 4
  simp only [List.getElem?_toArray, List.getElem?_cons_zero, List.getElem?_cons_succ] at d4
  have HR := Lib.hid (hr.setBody HBB.out (.slice none 0 0)); clear hr c2 c4
  go_wp2
  go_ret
  exact ⟨rfl, HR.out.2⟩

set_option maxRecDepth 100000 in
theorem body_yes (B b : Nat) (w0 w : World) (sv : Value) (l : List Nat) (kind : Nat) (bv : Value) (h : Rd B b w0 w sv 5 (bodyLen l) kind bv) (hsv : Bytes w0 sv l) (hB : B ≤ b) (hn : bodyLen l ≤ 4096) (hp : partOk l 2 = true) :
    Calls Tryz.prog 60 #[.pointer (some ⟨b, 0, none⟩)] w fun e w' => e = .returned (.bool true) ∧ ∃ v, Bytes w0 v (pc l 5 (bodyLen l)) ∧ Rd B b w0 w' sv (5 + bodyLen l) (bodyLen l) kind v := by
  simp only [partOk, decide_eq_true_eq] at hp
  have hc := next_yes B b w0 w sv l 5 (bodyLen l) kind (bodyLen l) bv h hsv hB hp
  have HC := Lib.hid hc
  have c2 := cells_of h.1 2
  simp only [List.getElem?_toArray, List.getElem?_cons_zero, List.getElem?_cons_succ] at c2
  have HBB := Lib.hid hB
  clear hc h hsv hp hB
  generalize pc l 5 (bodyLen l) = m at *
  generalize bodyLen l = x at *
  go_enter Tryz.func60, Tryz.ntmps60
  go_wp2_with fail
  refine HC.out.mono ?_
  rintro e w1 ⟨q, c, rfl, hbq, hr⟩
  have f0 := free_of hr.1
  have d4 := cells_of hr.1 4
  simp only [List.getElem?_toArray, List.getElem?_cons_zero, List.getElem?_cons_succ] at d4
  have HR := Lib.hid (hr.setBody HBB.out (.slice q x c)); clear hr c2
  have HQ := Lib.hid hbq; clear hbq
  go_wp2
  go_ret
  exact ⟨rfl, _, HQ.out, HR.out⟩

set_option maxRecDepth 100000 in
/-- b[:n]. -/
theorem upto_run (p : Option Addr) (len cap n : Nat) (hn : n ≤ cap) (w : World) : (Instr.slice 23 (.slice p len cap) none (some (.int .i64 (n : Int))) none).run Tryz.prog w = .ok (.slice p n cap) w := by
  have hr := run_slice_h (P := Tryz.prog) w 23 p len cap (by kernel_rfl) .i64 (n : Int) (by omega) (by omega)
  have e2 : (n : Int).toNat = n := by omega
  simp only [bytT_size, Result.andThen, e2, sliced, Nat.zero_mul, Nat.sub_zero] at hr
  rw [hr]
  congr 2
  split
  · rfl
  · cases p with
    | none => rfl
    | some a => simp [Addr.add]

theorem upto_runI (p : Option Addr) (len cap n : Nat) (N : Int) (hN : N = n) (hn : n ≤ cap) (w : World) : (Instr.slice 23 (.slice p len cap) none (some (.int .i64 N)) none).run Tryz.prog w = .ok (.slice p n cap) w := by
  subst hN; exact upto_run p len cap n hn w

set_option maxRecDepth 100000 in
theorem sum_no (B b : Nat) (w0 w : World) (sv : Value) (l : List Nat) (kind : Nat) (bv : Value) (h : Rd B b w0 w sv (5 + bodyLen l) (bodyLen l) kind bv) (hsv : Bytes w0 sv l) (hB : B ≤ b) (hw : w0.heap.size ≤ B) (hl : 5 + bodyLen l ≤ l.length) (hp : partOk l 3 = false) :
    Calls Tryz.prog 61 #[.pointer (some ⟨b, 0, none⟩)] w fun e w' => PartNo B w0 e w' := by
  obtain ⟨p, cap, rfl, _⟩ := hsv.any
  have hm := hsv.room.2
  have hup := upto_run p l.length cap (5 + bodyLen l) (by omega)
  have hms := hsv.short
  unfold maxLen at hms
  by_cases h4 : 5 + bodyLen l + 4 ≤ l.length
  · have hne : ¬ numOf (pc l (5 + bodyLen l) 4) = Crc.sum (l.take (5 + bodyLen l)) := by
      intro he
      simp [partOk, he] at hp
      omega
    have HC := Lib.hid (fun w' h' => number_yes B b w0 w' (.slice p l.length cap) l (5 + bodyLen l) (bodyLen l) kind bv h' hsv hB hw h4)
    have HT := Lib.hid (fun w' (hb : Below B w0 w') => (hsv.upto hl).below (hb.mono hw))
    have c0 := cells_of h.1 0
    have c1 := cells_of h.1 1
    have f0 := free_of h.1
    simp only [List.getElem?_toArray, List.getElem?_cons_zero, List.getElem?_cons_succ] at c0 c1
    have H := Lib.hid h
    have HBB := Lib.hid hB
    have HW := Lib.hid hw
    clear h hsv hB hw hp h4
    generalize numOf (pc l (5 + bodyLen l) 4) = x at *
    generalize l.take (5 + bodyLen l) = m at *
    generalize bodyLen l = size at *
    generalize hat : 5 + size = i at *
    have hne' : ((x : Int) == ((Crc.sum m : Nat) : Int)) = false := by rw [beq_eq_false_iff_ne]; omega
    generalize hsm : Crc.sum m = y at *
    have HSM := Lib.hid hsm
    clear hat hne hl hsm
    go_enter Tryz.func61, Tryz.ntmps61
    go_wp2
    go_region
    clear c0 c1 f0
    go_wp2_with fail
    refine (HC.out _ H.out.drew).mono ?_
    rintro e w1 ⟨rfl, hr⟩
    have HR := Lib.hid hr; clear hr
    go_wp2_with fail
    refine (sum_any _ m w1 (HT.out w1 HR.out.2)).mono ?_
    rintro e w2 ⟨rfl, hb2⟩
    have HB2 := Lib.hid (HR.out.2.trans (hb2.mono (Nat.le_trans (by have := HR.out.2.size; have := (Array.getElem?_eq_some_iff.1 HR.out.1).1; have := HBB.out; omega) (Nat.le_refl _))))
    clear hb2
    rw [HSM.out]
    go_wp2
    go_ret
    exact ⟨rfl, HB2.out⟩
  · have HC := Lib.hid (fun w' h' => number_no B b w0 w' (.slice p l.length cap) l (5 + bodyLen l) (bodyLen l) kind bv h' hsv (by omega) (by omega))
    have c0 := cells_of h.1 0
    have c1 := cells_of h.1 1
    have f0 := free_of h.1
    simp only [List.getElem?_toArray, List.getElem?_cons_zero, List.getElem?_cons_succ] at c0 c1
    have H := Lib.hid h
    clear h hsv hB hw hp h4
    generalize bodyLen l = size at *
    generalize hat : 5 + size = i at *
    clear hat hl
    go_enter Tryz.func61, Tryz.ntmps61
    go_wp2
    go_region
    clear c0 c1 f0
    go_wp2_with fail
    refine (HC.out _ H.out.drew).mono ?_
    rintro e w1 ⟨rfl, hr⟩
    have HR := Lib.hid hr; clear hr
    go_wp2
    go_ret
    exact ⟨rfl, HR.out.2⟩

set_option maxRecDepth 100000 in
theorem sum_yes (B b : Nat) (w0 w : World) (sv : Value) (l : List Nat) (kind : Nat) (bv : Value) (h : Rd B b w0 w sv (5 + bodyLen l) (bodyLen l) kind bv) (hsv : Bytes w0 sv l) (hB : B ≤ b) (hw : w0.heap.size ≤ B) (hp : partOk l 3 = true) :
    Calls Tryz.prog 61 #[.pointer (some ⟨b, 0, none⟩)] w fun e w' => e = .returned (.bool true) ∧ Rd B b w0 w' sv (9 + bodyLen l) (bodyLen l) kind bv := by
  obtain ⟨p, cap, rfl, _⟩ := hsv.any
  have hm := hsv.room.2
  simp only [partOk, Bool.and_eq_true, decide_eq_true_eq, beq_iff_eq] at hp
  obtain ⟨h4, he⟩ := hp
  have hl : 5 + bodyLen l ≤ l.length := by omega
  have hup := upto_run p l.length cap (5 + bodyLen l) (by omega)
  have hms := hsv.short
  unfold maxLen at hms
  have hc := fun w' h' => number_yes B b w0 w' (.slice p l.length cap) l (5 + bodyLen l) (bodyLen l) kind bv h' hsv hB hw (by omega)
  have h9 : 5 + bodyLen l + 4 = 9 + bodyLen l := by omega
  rw [h9, he] at hc
  have HC := Lib.hid hc
  have HT := Lib.hid (fun w' (hb : Below B w0 w') => (hsv.upto hl).below (hb.mono hw))
  have c0 := cells_of h.1 0
  have c1 := cells_of h.1 1
  have f0 := free_of h.1
  simp only [List.getElem?_toArray, List.getElem?_cons_zero, List.getElem?_cons_succ] at c0 c1
  have H := Lib.hid h
  have HBB := Lib.hid hB
  clear h hsv hB hw h4 hc he h9
  generalize l.take (5 + bodyLen l) = m at *
  generalize bodyLen l = size at *
  generalize hat : 5 + size = i at *
  clear hat hl
  generalize hsm : Crc.sum m = y at *
  have HSM := Lib.hid hsm
  clear hsm
  go_enter Tryz.func61, Tryz.ntmps61
  go_wp2
  go_region
  clear c0 c1 f0
  go_wp2_with fail
  refine (HC.out _ H.out.drew).mono ?_
  rintro e w1 ⟨rfl, hr⟩
  have HR := Lib.hid hr; clear hr
  go_wp2_with fail
  refine (sum_any _ m w1 (HT.out w1 HR.out.2)).mono ?_
  rintro e w2 ⟨rfl, hb2⟩
  have HB2 := Lib.hid (HR.out.below hb2 HBB.out)
  clear hb2
  rw [HSM.out]
  go_wp2
  go_ret
  exact ⟨rfl, HB2.out⟩
end Go.Proofs.YtldkeelgnfegeaaGreat.Rc

/- bytes.Clone. -/
namespace Go.Proofs.YtldkeelgnfegeaaGreat.Rc
open Go Go.RowKit Go.By

set_option maxRecDepth 100000 in
theorem clone_any (v : Value) (l : List Nat) (w : World) (hv : Bytes w v l) (hl : l.length ≤ 17592186044416) :
    Calls Tryz.prog 33 #[v] w fun e w' => ∃ v', e = .returned v' ∧ w'.ownsRow w.heap.size 5 1 v' l.length (cellsOf l) ∧ Below w.heap.size w w' := by
  obtain ⟨p, cap, rfl, _⟩ := hv.any
  have HV := Lib.hid hv
  clear hv
  have hn : ∀ (q : Option Addr) (n c : Nat) (w0 : World), (binOp .eql 23 (.slice q n c) (.slice none 0 0)).run Tryz.prog w0 = .ok (.bool q.isNone) w0 := fun q n c w0 => Lib.run_eql_slice_nil w0 _ _ q n c 0 0 byT.slice
  cases p with
  | none =>
    have hl0 : l = [] := by
      rcases HV.out.out with ⟨_, h⟩ | ⟨a, h, _⟩ | ⟨b, o, c, h, _⟩
      · exact h
      · cases h
      · cases h
    subst hl0
    go_enter Tryz.func33, Tryz.ntmps33
    go_wp2
    go_ret
    exact ⟨_, rfl, World.ownsRow_nil _ _ _ _, Below.refl _ _⟩
  | some ad =>
    go_enter Tryz.func33, Tryz.ntmps33
    go_wp2_with (at_builtin; refine wpList_append_bytes rfl (.tmp 5) (.tmp 6) byT rfl w.heap.size (.slice (some ⟨w.heap.size, 0, none⟩) 0 0) 0 [] rfl (World.ownsRow_made w #[] 0 (Nat.le_refl _) (by decide) rfl) (.slice (some ad) l.length cap) l rfl (HV.out.below ((Below.refl _ _).alloc (Nat.le_refl _) _)) (by omega) (by simp) ?_; intro v1 w1 hown hgrow hnil)
    have hb : Below w.heap.size w w1 := ⟨hgrow.os, hgrow.tape, hgrow.output, by have := hgrow.size; simp at this; omega, fun k hk => (hgrow.block k (by simp; omega) (by simp [Value.ownBlock]; omega)).trans (Below.heap_alloc w _ k hk)⟩
    have hown0 : w1.ownsRow w.heap.size 5 1 v1 l.length (cellsOf l) := by
      have h := hown
      rw [Nat.zero_add, List.nil_append] at h
      exact h
    have HOWN := Lib.hid hown0; have HB := Lib.hid hb
    obtain ⟨p1, c1, rfl⟩ : ∃ p c, v1 = .slice p l.length c := by
      rcases hown.2 with ⟨h, h2⟩ | ⟨g, c, _, h, _⟩
      · exact ⟨none, 0, by rw [h]; congr 1; omega⟩
      · exact ⟨_, c, by rw [h]; congr 1; omega⟩
    clear hown hgrow hnil hb hown0
    go_wp2
    go_ret
    exact ⟨_, rfl, HOWN.out, HB.out⟩
end Go.Proofs.YtldkeelgnfegeaaGreat.Rc

/- rec: a record is taken. -/
namespace Go.Proofs.YtldkeelgnfegeaaGreat.Rc
open Go Go.RowKit Go.By

/-- How far it has come. -/
inductive TakeRel (w0 : World) (sv : Value) (l : List Nat) : Value → World → Prop where
  | r0 {w : World} : Rd w0.heap.size w0.heap.size w0 w sv 0 0 0 (.slice none 0 0) → TakeRel w0 sv l (.int .i64 0) w
  | r1 {w : World} : partOk l 0 = true → Rd w0.heap.size w0.heap.size w0 w sv 4 (bodyLen l) 0 (.slice none 0 0) → TakeRel w0 sv l (.int .i64 1) w
  | r2 {w : World} : partOk l 0 = true → partOk l 1 = true → Rd w0.heap.size w0.heap.size w0 w sv 5 (bodyLen l) (atB l 4) (.slice none 0 0) → TakeRel w0 sv l (.int .i64 2) w
  | r3 {w : World} (v : Value) : partOk l 0 = true → partOk l 1 = true → partOk l 2 = true → Bytes w0 v (pc l 5 (bodyLen l)) → Rd w0.heap.size w0.heap.size w0 w sv (5 + bodyLen l) (bodyLen l) (atB l 4) v → TakeRel w0 sv l (.int .i64 3) w
  | r4 {w : World} (v : Value) : isRec l = true → Bytes w0 v (pc l 5 (bodyLen l)) → Rd w0.heap.size w0.heap.size w0 w sv (9 + bodyLen l) (bodyLen l) (atB l 4) v → TakeRel w0 sv l (.int .i64 4) w

/-- What Take tells. -/
def Took (B : Nat) (w0 : World) (l : List Nat) (e : Ending) (w' : World) : Prop :=
  ∃ v, Below B w0 w' ∧ (if isRec l then e = .returned (.tuple #[.int .u8 (atB l 4 : Nat), v, .int .i64 (9 + bodyLen l : Nat), .int .i64 0]) ∧ w'.ownsRow B 5 1 v (pc l 5 (bodyLen l)).length (cellsOf (pc l 5 (bodyLen l)))
    else e = .returned (.tuple #[.int .u8 0, .slice none 0 0, .int .i64 0, .int .i64 2]))

theorem took_yes {B : Nat} {w0 w' : World} {l : List Nat} {v : Value} (h : isRec l = true) (hb : Below B w0 w') (ho : w'.ownsRow B 5 1 v (pc l 5 (bodyLen l)).length (cellsOf (pc l 5 (bodyLen l)))) : Took B w0 l (.returned (.tuple #[.int .u8 (atB l 4 : Nat), v, .int .i64 (9 + bodyLen l : Nat), .int .i64 0])) w' := ⟨v, hb, by rw [if_pos h]; exact ⟨rfl, ho⟩⟩
theorem index0 (f1 f2 f3 f4 : FuncId) (a : Value) (w : World) : (Instr.index 116 (.agg #[.func (.func f1) #[a] #[], .func (.func f2) #[a] #[], .func (.func f3) #[a] #[], .func (.func f4) #[a] #[]]) (.int .i64 0)).run Tryz.prog w = .ok (.func (.func f1) #[a] #[]) w := by kernel_rfl
theorem index1 (f1 f2 f3 f4 : FuncId) (a : Value) (w : World) : (Instr.index 116 (.agg #[.func (.func f1) #[a] #[], .func (.func f2) #[a] #[], .func (.func f3) #[a] #[], .func (.func f4) #[a] #[]]) (.int .i64 1)).run Tryz.prog w = .ok (.func (.func f2) #[a] #[]) w := by kernel_rfl
theorem index2 (f1 f2 f3 f4 : FuncId) (a : Value) (w : World) : (Instr.index 116 (.agg #[.func (.func f1) #[a] #[], .func (.func f2) #[a] #[], .func (.func f3) #[a] #[], .func (.func f4) #[a] #[]]) (.int .i64 2)).run Tryz.prog w = .ok (.func (.func f3) #[a] #[]) w := by kernel_rfl
theorem index3 (f1 f2 f3 f4 : FuncId) (a : Value) (w : World) : (Instr.index 116 (.agg #[.func (.func f1) #[a] #[], .func (.func f2) #[a] #[], .func (.func f3) #[a] #[], .func (.func f4) #[a] #[]]) (.int .i64 3)).run Tryz.prog w = .ok (.func (.func f4) #[a] #[]) w := by kernel_rfl

/-- The body is copied, whatever has been drawn ahead. -/
theorem clone_body {sv v : Value} {b : List Nat} {i size kind : Nat} {w wr : World} (hv : Bytes w v b) (hb : b.length ≤ 17592186044416) (hr : Rd w.heap.size w.heap.size w wr sv i size kind v)
    (w1 : World) (e1 : w1.heap = wr.heap) (e2 : w1.os = wr.os) (e3 : w1.tape = wr.tape) (e4 : w1.output = wr.output) :
    Calls Tryz.prog 33 #[v] w1 fun e w' => ∃ v', e = .returned v' ∧ w'.cell? ⟨w.heap.size, 1, none⟩ = some (.int .i64 i) ∧ w'.cell? ⟨w.heap.size, 3, none⟩ = some (.int .u8 kind) ∧ w'.ownsRow w.heap.size 5 1 v' b.length (cellsOf b) ∧ Below w.heap.size w w' := by
  have hb1 : Below wr.heap.size wr w1 := ⟨e2, e3, e4, by rw [e1]; exact Nat.le_refl _, fun k _ => by rw [e1]⟩
  have hr1 : Rd w.heap.size w.heap.size w w1 sv i size kind v := hr.below hb1 (Nat.le_refl _)
  refine (clone_any v b w1 (hv.below hr1.2) hb).mono ?_
  rintro e w2 ⟨v', rfl, ho, hb2⟩
  have hr2 := hr1.below hb2 (Nat.le_refl _)
  refine ⟨v', rfl, cells_of hr2.1 1, cells_of hr2.1 3, ⟨ho.1, ?_⟩, hr2.2⟩
  rcases ho.2 with h | ⟨g, c, cur, h1, h2, h3⟩
  · exact .inl h
  · exact .inr ⟨g, c, cur, h1, by have := hr1.2.size; omega, h3⟩

theorem took_no {B : Nat} {w0 w' : World} {l : List Nat} (h : isRec l = false) (hb : Below B w0 w') : Took B w0 l (.returned (.tuple #[.int .u8 0, .slice none 0 0, .int .i64 0, .int .i64 2])) w' := ⟨.slice none 0 0, hb, by rw [h]; rfl⟩

set_option maxRecDepth 100000 in
set_option maxHeartbeats 2000000 in
theorem take_any (sv : Value) (l : List Nat) (w : World) (hsv : Bytes w sv l) (hl : l.length ≤ 17592186044416) :
    Calls Tryz.prog 36 #[sv] w fun e w' => Took w.heap.size w l e w' := by
  obtain ⟨p, cap, rfl, _⟩ := hsv.any
  have HSV := Lib.hid hsv; clear hsv
  go_enter Tryz.func36, Tryz.ntmps36
  go_wp2
  have h0 : Rd w.heap.size w.heap.size w (w.alloc (.cells #[.slice p l.length cap, .int .i64 0, .int .i64 0, .int .u8 0, .slice none 0 0] 115)) (.slice p l.length cap) 0 0 0 (.slice none 0 0) := ⟨heap_alloc_new w _, (Below.refl _ _).alloc (Nat.le_refl _) _⟩
  have H0 := Lib.hid h0; clear h0
  go_loopw [16] (fun i wr => TakeRel w (.slice p l.length cap) l i wr) (fun i _ => 4 - (intOf i).toNat)
  case atStart => exact .r0 H0.out
  case round =>
    clear H0
    have hi0 := index0 58 59 60 61 (.pointer (some ⟨w.heap.size, 0, none⟩))
    have hi1 := index1 58 59 60 61 (.pointer (some ⟨w.heap.size, 0, none⟩))
    have hi2 := index2 58 59 60 61 (.pointer (some ⟨w.heap.size, 0, none⟩))
    have hi3 := index3 58 59 60 61 (.pointer (some ⟨w.heap.size, 0, none⟩))
    cases hrel with
    | r0 hr =>
      cases hp : partOk l 0
      · have HC := Lib.hid (size_no _ _ _ _ _ l _ hr HSV.out (Nat.le_refl _) (Nat.le_refl _) hp)
        have HN : Hid (isRec l = false) := by unfold Hid isRec; rw [hp]; rfl
        clear hr hp
        go_wp2_with fail
        refine HC.out.mono ?_
        rintro e w1 ⟨rfl, hb⟩
        have HB := Lib.hid hb; clear hb
        go_wp2
        exact bodyPost_ret (v := .tuple #[.int .u8 0, .slice none 0 0, .int .i64 0, .int .i64 2]) (by simp [results, go_sem]) rfl (took_no HN.out HB.out)
      · have HC := Lib.hid (size_yes _ _ _ _ _ l _ hr HSV.out (Nat.le_refl _) (Nat.le_refl _) hp)
        have HP0 := Lib.hid hp
        clear hr hp
        go_wp2_with fail
        refine HC.out.mono ?_
        rintro e w1 ⟨rfl, hr⟩
        have HR := Lib.hid hr; clear hr
        go_wp2
        go_roundw
        case rel => exact .r1 HP0.out HR.out
        case measure => decide
    | r1 hp0 hr =>
      have h4 : 4 ≤ l.length := by simp only [partOk, Bool.and_eq_true, decide_eq_true_eq] at hp0; exact hp0.1
      have HP0 := Lib.hid hp0
      cases hp : partOk l 1
      · have HC := Lib.hid (kind_no _ _ _ _ _ l _ _ hr HSV.out h4 hp)
        have HN : Hid (isRec l = false) := by unfold Hid isRec; rw [hp]; simp
        clear hr hp hp0 h4
        go_wp2_with fail
        refine HC.out.mono ?_
        rintro e w1 ⟨rfl, hb⟩
        have HB := Lib.hid hb; clear hb
        go_wp2
        exact bodyPost_ret (v := .tuple #[.int .u8 0, .slice none 0 0, .int .i64 0, .int .i64 2]) (by simp [results, go_sem]) rfl (took_no HN.out HB.out)
      · have HC := Lib.hid (kind_yes _ _ _ _ _ l _ _ hr HSV.out (Nat.le_refl _) (Nat.le_refl _) hp)
        have HP1 := Lib.hid hp
        clear hr hp hp0 h4
        go_wp2_with fail
        refine HC.out.mono ?_
        rintro e w1 ⟨rfl, hr⟩
        have HR := Lib.hid hr; clear hr
        go_wp2
        go_roundw
        case rel => exact .r2 HP0.out HP1.out HR.out
        case measure => decide
    | r2 hp0 hp1 hr =>
      have h5 : 5 ≤ l.length := by simp only [partOk, decide_eq_true_eq] at hp1; exact hp1
      have hn : bodyLen l ≤ 4096 := by simp only [partOk, Bool.and_eq_true, decide_eq_true_eq] at hp0; exact hp0.2
      have HP0 := Lib.hid hp0
      have HP1 := Lib.hid hp1
      cases hp : partOk l 2
      · have HC := Lib.hid (body_no _ _ _ _ _ l _ _ hr HSV.out (Nat.le_refl _) h5 hn hp)
        have HN : Hid (isRec l = false) := by unfold Hid isRec; rw [hp]; simp
        clear hr hp hp0 hp1 h5 hn
        go_wp2_with fail
        refine HC.out.mono ?_
        rintro e w1 ⟨rfl, hb⟩
        have HB := Lib.hid hb; clear hb
        go_wp2
        exact bodyPost_ret (v := .tuple #[.int .u8 0, .slice none 0 0, .int .i64 0, .int .i64 2]) (by simp [results, go_sem]) rfl (took_no HN.out HB.out)
      · have HC := Lib.hid (body_yes _ _ _ _ _ l _ _ hr HSV.out (Nat.le_refl _) hn hp)
        have HP2 := Lib.hid hp
        clear hr hp hp0 hp1 h5 hn
        go_wp2_with fail
        refine HC.out.mono ?_
        rintro e w1 ⟨rfl, v, hv, hr⟩
        have HR := Lib.hid hr; clear hr
        have HV := Lib.hid hv; clear hv
        go_wp2
        go_roundw
        case rel => exact .r3 v HP0.out HP1.out HP2.out HV.out HR.out
        case measure => decide
    | r3 v hp0 hp1 hp2 hv hr =>
      have hl2 : 5 + bodyLen l ≤ l.length := by simp only [partOk, decide_eq_true_eq] at hp2; exact hp2
      have HV := Lib.hid hv
      cases hp : partOk l 3
      · have HC := Lib.hid (sum_no _ _ _ _ _ l _ _ hr HSV.out (Nat.le_refl _) (Nat.le_refl _) hl2 hp)
        have HN : Hid (isRec l = false) := by unfold Hid isRec; rw [hp]; simp
        clear hr hp hp0 hp1 hp2 hv hl2
        go_wp2_with fail
        refine HC.out.mono ?_
        rintro e w1 ⟨rfl, hb⟩
        have HB := Lib.hid hb; clear hb
        go_wp2
        exact bodyPost_ret (v := .tuple #[.int .u8 0, .slice none 0 0, .int .i64 0, .int .i64 2]) (by simp [results, go_sem]) rfl (took_no HN.out HB.out)
      · have HC := Lib.hid (sum_yes _ _ _ _ _ l _ _ hr HSV.out (Nat.le_refl _) (Nat.le_refl _) hp)
        have HY : Hid (isRec l = true) := by unfold Hid isRec; rw [hp0, hp1, hp2, hp]; rfl
        clear hr hp hp0 hp1 hp2 hv hl2
        go_wp2_with fail
        refine HC.out.mono ?_
        rintro e w1 ⟨rfl, hr⟩
        have HR := Lib.hid hr; clear hr
        go_wp2
        go_roundw
        case rel => exact .r4 v HY.out HV.out HR.out
        case measure => decide
    | r4 v hp hv hr =>
      clear hi0 hi1 hi2 hi3
      have HV := Lib.hid hv
      have HP := Lib.hid hp
      have c1 := cells_of hr.1 1
      have c3 := cells_of hr.1 3
      have c4 := cells_of hr.1 4
      simp only [List.getElem?_toArray, List.getElem?_cons_zero, List.getElem?_cons_succ] at c1 c3 c4
      have hpl : (pc l 5 (bodyLen l)).length ≤ 17592186044416 := by simp only [pc, List.length_take, List.length_drop]; omega
      have HC := Lib.hid (clone_body hv hpl hr)
      clear hr hv hp hpl
      go_wp2
      go_region_with (go_at_call 33; refine (HC.out _ (by rfl) (by rfl) (by rfl) (by rfl)).mono ?_; rintro e w4 ⟨v', rfl, d1, d3, ho, hb⟩)
      all_goals
        have HO := Lib.hid ho
        have HB := Lib.hid hb
        clear ho hb d1 d3
        go_wp2
        exact bodyPost_ret (v := .tuple #[.int .u8 (atB l 4 : Nat), v', .int .i64 (9 + bodyLen l : Nat), .int .i64 0]) (by simp [results, go_sem]) rfl (took_yes HP.out HB.out HO.out)
end Go.Proofs.YtldkeelgnfegeaaGreat.Rc

/- Rows of bytes in a program: makes, pieces, rows that are filled. -/
namespace Go.By
open Go Go.RowKit
/-- append(s, x...), s one's own, x whatever row of bytes. -/
theorem run_append_bytes {P : Program} {w : World} (ty : TypeId) {t e : TypeId} (T : ByT P t e) (base : Nat) (v : Value) (n : Nat) (xs : List Value) (hown : w.ownsRow base e 1 v n xs) (xv : Value) (l : List Nat) (hl : Bytes w xv l)
    (hbytes : n + l.length ≤ 140737488355328) (hbase : base ≤ w.heap.size) :
    ∃ v' w', (Builtin.append_ #[t, t] ty #[v, xv]).run P w = .ok v' w' ∧ w'.ownsRow base e 1 v' (n + l.length) (xs ++ cellsOf l) ∧ w.grownBy w' v.ownBlock := by
  obtain ⟨i, hi, hz, hz1, hz2⟩ := info_parts T.info
  rcases hl.out with ⟨rfl, rfl⟩ | ⟨ad, rfl, rfl⟩ | ⟨b, off, cap, rfl, hcap, hc⟩
  · exact ⟨v, w, run_append_owned_none (P := P) (w := w) base t ty e i 1 T.slice hi v n xs hown, by simpa [cellsOf] using hown, World.grownBy.refl _ _⟩
  · obtain ⟨v', w', h1, h2, h3, _⟩ := run_append_own_at (P := P) w base t ty e i (.int .u8 0) 1 1 T.slice hi hz hz1 hz2 rfl (by omega) v n xs hown ad 0 0 [] rfl (by simp) (by simp) (by simp at hbytes; unfold maxLen; omega) (by simpa using hbytes) hbase
    exact ⟨v', w', h1, h2, h3⟩
  · obtain ⟨v', w', h1, h2, h3, _⟩ := run_append_own_at (P := P) w base t ty e i (.int .u8 0) 1 1 T.slice hi hz hz1 hz2 rfl (by omega) v n xs hown ⟨b, off, none⟩ l.length cap (cellsOf l) (by rw [cellsOf_length, Nat.mul_one]) (by
      intro j u hu
      obtain ⟨hj, rfl⟩ := cellsOf_at hu
      rw [Addr.add_lit]; exact hc j hj) (cellsOf_one l) (by unfold maxLen; omega) (by omega) hbase
    exact ⟨v', w', h1, h2, h3⟩

/-- The same, at a step of a region that draws its order. -/
theorem step_append_bytes {P : Program} {w : World} {ops : Array Oper} {o : Oper} {a : Act} {K : Act → World → Prop} {Q : Exit → Act → World → Prop} {E : Prop} (hgd : o.guard = none) (s x : Operand) {t e : TypeId} (T : ByT P t e)
    (ho : o.op = .call { callee := .builtin .append, args := #[s, x], argTypes := #[t, t] })
    (base : Nat) (v : Value) (n : Nat) (xs : List Value) (hs : a.eval s = v) (hown : w.ownsRow base e 1 v n xs) (xv : Value) (l : List Nat) (hx : a.eval x = xv) (hl : Bytes w xv l)
    (hbytes : n + l.length ≤ 140737488355328) (hbase : base ≤ w.heap.size)
    (h : ∀ v' w', w'.ownsRow base e 1 v' (n + l.length) (xs ++ cellsOf l) → w.grownBy w' v.ownBlock → K (a.put o.dst v') w') :
    if Region.wanted o (yielded ops a.tmps) = true then Oper.wp P o a w K Q else E := by
  have hw : Region.wanted o (yielded ops a.tmps) = true := by simp [Region.wanted, hgd]
  rw [if_pos hw]
  obtain ⟨v', w', h1, h2, h3⟩ := run_append_bytes (P := P) o.type T base v n xs hown xv l hl hbytes hbase
  unfold Oper.wp execOp
  simp only [ho, resolve, invoke, builtin, Sem.run_bind, Sem.run_pure, Result.andThen_ok, List.map_toArray, List.map_cons, List.map_nil, hs, hx, h1]
  exact h v' w' h2 h3
end Go.By
namespace Go.Proofs.YtldkeelgnfegeaaGreat.Sl
open Go Go.RowKit Go.By

theorem grownBy_alloc {w w' : World} {o : Obj} {r : Option Nat} (h : (w.alloc o).grownBy w' r) : w.grownBy w' r :=
  ⟨h.os, h.tape, h.output, by have := h.size; simp at this; omega, fun k hk hn => (h.block k (by simp; omega) hn).trans (Below.heap_alloc w o k hk)⟩

theorem owns_below {w w' : World} {base : Nat} {e : TypeId} {v : Value} {n : Nat} {xs : List Value} (h : w.ownsRow base e 1 v n xs) (hb : Below w.heap.size w w') : w'.ownsRow base e 1 v n xs :=
  ⟨h.1, by
    rcases h.2 with h2 | ⟨g, cap, cur, h1, h2, h3, h4⟩
    · exact .inl h2
    · exact .inr ⟨g, cap, cur, h1, h2, (hb.block g (Array.getElem?_eq_some_iff.1 h3).1).trans h3, h4⟩⟩

def zeros (n : Nat) : Array Value := (cellsOf (List.replicate n 0)).toArray

theorem zeros_size (n : Nat) : (zeros n).size = n := by simp [zeros, cellsOf]

/-- make([]byte, m, c). -/
theorem made_run (m c : Nat) (M C : Int) (hM : M = m) (hC : C = c) (hmc : m ≤ c) (hc : c < 1099511627776) (w : World) : (Instr.makeSlice 23 (.int .i64 M) (.int .i64 C)).run Tryz.prog w = .ok (.slice (some ⟨w.heap.size, 0, none⟩) m c) (w.alloc (.cells (zeros c) 5)) := by
  subst hM hC
  obtain ⟨i, hi, hz, hz1, hz2⟩ := info_parts byT.info
  have h := run_make (P := Tryz.prog) (w := w) 23 5 i (.int .u8 0) byT.slice hi hz .i64 .i64 (m : Int) (c : Int) (by omega) (by omega) (by rw [hz2]; omega) (by omega)
  rw [h]
  have e : madeCells (Value.int .u8 0).cells ((c : Int).toNat * i.size) = zeros c := by
    rw [hz1]
    apply Array.toList_inj.1
    apply List.ext_getElem
    · simp [madeCells, cellsOf, zeros]
    · intro j h1 h2
      simp [madeCells, cellsOf, zeros, Value.cells, Nat.mod_one]
  rw [e]; simp

theorem owns_bytes {w : World} {base : Nat} {v : Value} {l : List Nat} (h : w.ownsRow base 5 1 v l.length (cellsOf l)) (hs : ∀ c ∈ l, c < 256) (hm : l.length ≤ maxLen) : Bytes w v l := Bytes.of_owns h hs hm

theorem bytT_size (w : World) : (sizeOf (Tryz.prog.elem 23)).run Tryz.prog w = .ok 1 w := by kernel_rfl

/-- b[i:i+n]. -/
theorem piece_run {w : World} {p : Option Addr} {cap : Nat} {l : List Nat} (h : Bytes w (.slice p l.length cap) l) (i n : Nat) (hn : i + n ≤ l.length) :
    ∃ q c, (∀ w0 : World, (Instr.slice 23 (.slice p l.length cap) (some (.int .i64 (i : Int))) (some (.int .i64 ((i : Int) + (n : Int)))) none).run Tryz.prog w0 = .ok (.slice q n c) w0) ∧ Bytes w (.slice q n c) (pc l i n) := by
  have hcap := h.room.2
  have hr := fun w0 => run_slice_lh (P := Tryz.prog) w0 23 p l.length cap (by kernel_rfl) .i64 .i64 (i : Int) ((i : Int) + (n : Int)) (by omega) (by omega) (by omega)
  have e1 : ((i : Int) + (n : Int)).toNat = i + n := by omega
  have e2 : (i : Int).toNat = i := by omega
  simp only [bytT_size, Result.andThen, e1, e2, sliced, Nat.add_sub_cancel_left, Nat.mul_one] at hr
  refine ⟨_, _, hr, ?_⟩
  have hpl := pc_length hn
  rcases h.out with ⟨h1, rfl⟩ | ⟨a, h1, rfl⟩ | ⟨b, off, cap', h1, h2, hc⟩
  · simp only [Value.slice.injEq] at h1
    obtain ⟨rfl, _, rfl⟩ := h1
    simp only [List.length_nil] at hn
    obtain rfl : i = 0 := by omega
    obtain rfl : n = 0 := by omega
    simpa [pc] using Bytes.nil w
  · simp only [Value.slice.injEq] at h1
    obtain ⟨rfl, _, rfl⟩ := h1
    simp only [List.length_nil] at hn
    obtain rfl : i = 0 := by omega
    obtain rfl : n = 0 := by omega
    simp only [↓reduceIte, Nat.sub_zero, pc, List.drop_nil, List.take_nil]
    exact ⟨.inr (.inl ⟨a, rfl, rfl⟩), by simp, by simp⟩
  · simp only [Value.slice.injEq, true_and] at h1
    obtain ⟨rfl, rfl⟩ := h1
    by_cases he : cap = i
    · obtain rfl : n = 0 := by omega
      rw [if_pos he]
      subst he
      simp only [Nat.sub_self, pc, List.take_zero]
      exact ⟨.inr (.inl ⟨_, rfl, rfl⟩), by simp, by simp⟩
    · rw [if_neg he]
      refine ⟨.inr (.inr ⟨b, off + i, cap - i, by simp [Addr.add_lit, hpl], by rw [hpl]; omega, fun j hj => ?_⟩), pc_small h.small, by rw [hpl]; have := h.short; omega⟩
      rw [hpl] at hj
      rw [Nat.add_assoc, hc (i + j) (by omega), pc_at hj]

theorem cells_of {w : World} {a : Nat} {c : Array Value} {t : TypeId} {fr : Nat × Nat} (h : w.heap[a]? = some (.cells c t fr)) (i : Nat) : w.cell? ⟨a, i, none⟩ = c[i]? := cell_of_row w a i c t fr h

theorem free_of {w : World} {a : Nat} {c : Array Value} {t : TypeId} (h : w.heap[a]? = some (.cells c t (0, 0))) (i : Nat) : w.frozen? ⟨a, i, none⟩ = false := frozen_of_row w a i c t h

theorem set_heap {w : World} {a : Nat} {c : Array Value} {t : TypeId} (h : w.heap[a]? = some (.cells c t (0, 0))) (i : Nat) (v : Value) :
    (w.setCell ⟨a, i, none⟩ v).heap[a]? = some (.cells (c.setIfInBounds i v) t (0, 0)) := heap_setCell_same w a i c t v h

set_option maxRecDepth 100000 in
/-- b[:n]. -/
theorem upto_run (p : Option Addr) (len cap n : Nat) (hn : n ≤ cap) (w : World) : (Instr.slice 23 (.slice p len cap) none (some (.int .i64 (n : Int))) none).run Tryz.prog w = .ok (.slice p n cap) w := by
  have hr := run_slice_h (P := Tryz.prog) w 23 p len cap (by kernel_rfl) .i64 (n : Int) (by omega) (by omega)
  have e2 : (n : Int).toNat = n := by omega
  simp only [bytT_size, Result.andThen, e2, sliced, Nat.zero_mul, Nat.sub_zero] at hr
  rw [hr]
  congr 2
  split
  · rfl
  · cases p with
    | none => rfl
    | some a => simp [Addr.add]

theorem upto_runI (p : Option Addr) (len cap n : Nat) (N : Int) (hN : N = n) (hn : n ≤ cap) (w : World) : (Instr.slice 23 (.slice p len cap) none (some (.int .i64 N)) none).run Tryz.prog w = .ok (.slice p n cap) w := by
  subst hN; exact upto_run p len cap n hn w

theorem shape_of {w : World} {base : Nat} {v : Value} {l : List Nat} (h : w.ownsRow base 5 1 v l.length (cellsOf l)) : ∃ p c, v = .slice p l.length c := by
  rcases h.2 with ⟨h, h2⟩ | ⟨g, c, _, h, _⟩
  · exact ⟨none, 0, by rw [h]; congr 1; omega⟩
  · exact ⟨_, c, by rw [h]⟩

/-- A row of one's own, as it is filled. -/
def Filled (w0 w : World) (L : List Nat) : Prop := w.heap[w0.heap.size]? = some (.cells (cellsOf L).toArray 5 (0, 0)) ∧ Below w0.heap.size w0 w

theorem Filled.set {w0 w : World} {L : List Nat} (h : Filled w0 w L) (i y : Nat) : Filled w0 (w.setCell ⟨w0.heap.size, i, none⟩ (.int .u8 y)) (L.set i y) := by
  refine ⟨?_, h.2.setCell (Nat.le_refl _) _⟩
  have := heap_setCell_same w w0.heap.size i (cellsOf L).toArray 5 (.int .u8 (y : Int)) h.1
  rw [this]
  congr 2
  rw [← cellsOf_set]
  simp

theorem Filled.cell {w0 w : World} {L : List Nat} (h : Filled w0 w L) {i : Nat} (hi : i < L.length) : w.cell? ⟨w0.heap.size, i, none⟩ = some (.int .u8 (atB L i : Nat)) := by
  rw [cell_of_row w w0.heap.size i (cellsOf L).toArray 5 (0, 0) h.1, List.getElem?_toArray]
  exact cellsOf_get hi

theorem Filled.free {w0 w : World} {L : List Nat} (h : Filled w0 w L) (i : Nat) : w.frozen? ⟨w0.heap.size, i, none⟩ = false := frozen_of_row w w0.heap.size i _ 5 h.1

theorem Filled.owns {w0 w : World} {L : List Nat} (h : Filled w0 w L) (hm : L.length ≤ maxLen) : w.ownsRow w0.heap.size 5 1 (.slice (some ⟨w0.heap.size, 0, none⟩) L.length L.length) L.length (cellsOf L) :=
  ⟨by simp [cellsOf], .inr ⟨w0.heap.size, L.length, _, rfl, Nat.le_refl _, h.1, Nat.le_refl _, hm, by simp [cellsOf], by simp [cellsOf, List.take_of_length_le]⟩⟩

theorem bytes_drewN {w : World} {v : Value} {l : List Nat} (h : Bytes w v l) (n : Nat) : Bytes (w.drewN n) v l where
  out := by
    rcases h.out with h1 | h1 | ⟨b, off, cap, rfl, h2, hc⟩
    · exact .inl h1
    · exact .inr (.inl h1)
    · exact .inr <| .inr ⟨b, off, cap, rfl, h2, fun i hi => hc i hi⟩
  small := h.small
  short := h.short

theorem below_drewN {B : Nat} (w : World) (n : Nat) : Below B w (w.drewN n) := ⟨rfl, rfl, rfl, Nat.le_refl _, fun _ _ => rfl⟩

theorem zeros_bytes (w : World) (n : Nat) (hn : n ≤ maxLen) : Bytes (w.alloc (.cells (zeros n) 5)) (.slice (some ⟨w.heap.size, 0, none⟩) n n) (List.replicate n 0) :=
  Bytes.lit (List.replicate n 0) rfl (by simp) (by intro c hc; have := List.eq_of_mem_replicate hc; omega) (by simpa using hn)

theorem own_open {w : World} {base : Nat} {v : Value} {n : Nat} {l : List Nat} (h : w.ownsRow base 5 1 v n (cellsOf l)) (hn : 0 < n) :
    ∃ g c, v = .slice (some ⟨g, 0, none⟩) n c ∧ n ≤ c ∧ c ≤ maxLen ∧ base ≤ g ∧ (∀ j, j < l.length → w.cell? ⟨g, j, none⟩ = some (.int .u8 (atB l j : Nat))) ∧ ∀ j, w.frozen? ⟨g, j, none⟩ = false := by
  rcases h.2 with ⟨_, h0⟩ | ⟨g, c, cur, rfl, hg, hh, hc, hm, _, _⟩
  · omega
  · refine ⟨g, c, rfl, hc, hm, hg, fun j hj => ?_, fun j => frozen_of_row w g j cur 5 hh⟩
    have := h.cells (g := g) rfl j _ (cellsOf_get hj)
    rw [Addr.add_lit, Nat.zero_add] at this
    exact this

theorem u16_of_wf {a : Int} (h : (Lit.int .u16 a).wf = true) : ∃ n : Nat, a = n ∧ n < 65536 := by
  have h' : 0 ≤ a ∧ a ≤ 65535 := by simpa [Lit.wf, IntKind.min, IntKind.max, IntKind.signed, IntKind.bits] using h
  exact ⟨a.toNat, by omega, by omega⟩

theorem own_none : ownKnob Tryz.prog.godebug = none := by kernel_rfl

theorem laidOut : laidOutB Tryz.prog = true := by kernel_rfl

theorem Lent.below {B : Nat} {w w' : World} {v : Value} {l : List Nat} (h : Lent B w v l) (hb : Below w.heap.size w w') : Lent B w' v l := by
  obtain ⟨g, cap, rfl, hown⟩ := h
  exact ⟨g, cap, rfl, hown.kept (row := none) ⟨hb.os, hb.tape, hb.output, hb.size, fun k hk _ => hb.block k hk⟩ (.inr (by simp [Value.ownBlock]))⟩

theorem bytes_below {w w' : World} {v : Value} {l : List Nat} {B : Nat} (h : Bytes w v l) (hb : Below B w w') (hB : w.heap.size ≤ B) : Bytes w' v l := h.below (hb.mono hB)

end Go.Proofs.YtldkeelgnfegeaaGreat.Sl

/- bytes.Clone. -/
namespace Go.Proofs.YtldkeelgnfegeaaGreat.Sl
open Go Go.RowKit Go.By

set_option maxRecDepth 100000 in
theorem clone_any (v : Value) (l : List Nat) (w : World) (hv : Bytes w v l) (hl : l.length ≤ 17592186044416) :
    Calls Tryz.prog 33 #[v] w fun e w' => ∃ v', e = .returned v' ∧ w'.ownsRow w.heap.size 5 1 v' l.length (cellsOf l) ∧ Below w.heap.size w w' := by
  obtain ⟨p, cap, rfl, _⟩ := hv.any
  have HV := Lib.hid hv
  clear hv
  have hn : ∀ (q : Option Addr) (n c : Nat) (w0 : World), (binOp .eql 23 (.slice q n c) (.slice none 0 0)).run Tryz.prog w0 = .ok (.bool q.isNone) w0 := fun q n c w0 => Lib.run_eql_slice_nil w0 _ _ q n c 0 0 byT.slice
  cases p with
  | none =>
    have hl0 : l = [] := by
      rcases HV.out.out with ⟨_, h⟩ | ⟨a, h, _⟩ | ⟨b, o, c, h, _⟩
      · exact h
      · cases h
      · cases h
    subst hl0
    go_enter Tryz.func33, Tryz.ntmps33
    go_wp2
    go_ret
    exact ⟨_, rfl, World.ownsRow_nil _ _ _ _, Below.refl _ _⟩
  | some ad =>
    go_enter Tryz.func33, Tryz.ntmps33
    go_wp2_with (at_builtin; refine wpList_append_bytes rfl (.tmp 5) (.tmp 6) byT rfl w.heap.size (.slice (some ⟨w.heap.size, 0, none⟩) 0 0) 0 [] rfl (World.ownsRow_made w #[] 0 (Nat.le_refl _) (by decide) rfl) (.slice (some ad) l.length cap) l rfl (HV.out.below ((Below.refl _ _).alloc (Nat.le_refl _) _)) (by omega) (by simp) ?_; intro v1 w1 hown hgrow hnil)
    have hb : Below w.heap.size w w1 := ⟨hgrow.os, hgrow.tape, hgrow.output, by have := hgrow.size; simp at this; omega, fun k hk => (hgrow.block k (by simp; omega) (by simp [Value.ownBlock]; omega)).trans (Below.heap_alloc w _ k hk)⟩
    have hown0 : w1.ownsRow w.heap.size 5 1 v1 l.length (cellsOf l) := by
      have h := hown
      rw [Nat.zero_add, List.nil_append] at h
      exact h
    have HOWN := Lib.hid hown0; have HB := Lib.hid hb
    obtain ⟨p1, c1, rfl⟩ : ∃ p c, v1 = .slice p l.length c := by
      rcases hown.2 with ⟨h, h2⟩ | ⟨g, c, _, h, _⟩
      · exact ⟨none, 0, by rw [h]; congr 1; omega⟩
      · exact ⟨_, c, by rw [h]; congr 1; omega⟩
    clear hown hgrow hnil hb hown0
    go_wp2
    go_ret
    exact ⟨_, rfl, HOWN.out, HB.out⟩
end Go.Proofs.YtldkeelgnfegeaaGreat.Sl

/- Slots as rows of bytes. Plain. -/
namespace Go.By
open Go

theorem drop_pc (l : List Nat) (i n : Nat) : l.drop i = pc l i n ++ l.drop (i + n) := by
  unfold pc
  rw [← List.drop_drop, List.take_append_drop]
theorem pc_mid {A M C : List Nat} {i n : Nat} (hA : A.length = i) (hM : M.length = n) : pc (A ++ (M ++ C)) i n = M := by
  subst hA hM
  unfold pc
  simp
theorem at_mid {A C : List Nat} {c i : Nat} (hA : A.length = i) : atB (A ++ (c :: C)) i = c := by
  subst hA
  unfold atB
  simp
theorem drop_at {l : List Nat} {i : Nat} (h : i < l.length) : l.drop i = atB l i :: l.drop (i + 1) := by
  rw [atB_of h, List.drop_eq_getElem_cons h]

/-- What stands ahead of a slot's sum. -/
def slotHead (g : Nat) (b : List Nat) : List Nat := [80, 68] ++ (highOf g 8 ++ (b.length :: (b ++ List.replicate (113 - b.length) 0)))
def slotOf (g : Nat) (b : List Nat) : List Nat := slotHead g b ++ highOf (Crc.sum (slotHead g b)) 4
theorem slotHead_length {g : Nat} {b : List Nat} (h : b.length ≤ 113) : (slotHead g b).length = 124 := by simp [slotHead, highOf_length]; omega
theorem slotOf_length {g : Nat} {b : List Nat} (h : b.length ≤ 113) : (slotOf g b).length = 128 := by simp [slotOf, highOf_length, slotHead_length h]
theorem slotHead_small {g : Nat} {b : List Nat} (h : b.length ≤ 113) (hb : ∀ c ∈ b, c < 256) : ∀ c ∈ slotHead g b, c < 256 := by
  intro c hc
  simp only [slotHead, List.mem_append, List.mem_cons, List.mem_replicate, List.not_mem_nil, or_false] at hc
  rcases hc with (rfl | rfl) | hc | rfl | hc | ⟨_, rfl⟩
  · omega
  · omega
  · exact highOf_small _ _ c hc
  · omega
  · exact hb c hc
  · omega
theorem slotOf_small {g : Nat} {b : List Nat} (h : b.length ≤ 113) (hb : ∀ c ∈ b, c < 256) : ∀ c ∈ slotOf g b, c < 256 := by
  intro c hc
  simp only [slotOf, List.mem_append] at hc
  rcases hc with hc | hc
  · exact slotHead_small h hb c hc
  · exact highOf_small _ _ c hc

def slotGen (l : List Nat) : Nat := numOf (pc l 2 8)
def slotSize (l : List Nat) : Nat := atB l 10
def slotBody (l : List Nat) : List Nat := pc l 11 (slotSize l)
/-- Is a part of a slot just so? (0: its length, 1: the letters, 2: the body's length, 3: the noughts, 4: the sum.) -/
def spOk (l : List Nat) : Nat → Bool
  | 0 => decide (l.length = 128)
  | 1 => pc l 0 2 == [80, 68]
  | 2 => decide (slotSize l ≤ 113)
  | 3 => (pc l (11 + slotSize l) (113 - slotSize l)).all (· == 0)
  | _ => numOf (pc l 124 4) == Crc.sum (l.take 124)
def isSlot (l : List Nat) : Bool := spOk l 0 && (spOk l 1 && (spOk l 2 && (spOk l 3 && spOk l 4)))

theorem slotOf_parts (g : Nat) (b : List Nat) : slotOf g b = [80, 68] ++ (highOf g 8 ++ (b.length :: (b ++ (List.replicate (113 - b.length) 0 ++ highOf (Crc.sum (slotHead g b)) 4)))) := by
  rw [slotOf]
  simp [slotHead]
theorem gen_slot {g : Nat} {b : List Nat} (hg : g < 18446744073709551616) : slotGen (slotOf g b) = g := by
  unfold slotGen
  rw [slotOf_parts, pc_mid (by rfl) (highOf_length g 8), numOf_high]
  exact Nat.lt_of_lt_of_le hg (by decide)
theorem size_slot (g : Nat) (b : List Nat) : slotSize (slotOf g b) = b.length := by
  unfold slotSize
  rw [slotOf_parts, ← List.append_assoc, at_mid (by simp [highOf_length])]
theorem body_slot (g : Nat) (b : List Nat) : slotBody (slotOf g b) = b := by
  unfold slotBody
  have e : slotOf g b = ([80, 68] ++ highOf g 8 ++ [b.length]) ++ (b ++ (List.replicate (113 - b.length) 0 ++ highOf (Crc.sum (slotHead g b)) 4)) := by
    rw [slotOf_parts]; simp
  rw [size_slot, e, pc_mid (by simp [highOf_length]) rfl]
theorem take_slot {g : Nat} {b : List Nat} (h : b.length ≤ 113) : (slotOf g b).take 124 = slotHead g b := by
  unfold slotOf
  rw [List.take_append, slotHead_length h]
  simp [List.take_of_length_le, slotHead_length h]
theorem end_slot {g : Nat} {b : List Nat} (h : b.length ≤ 113) : pc (slotOf g b) 124 4 = highOf (Crc.sum (slotHead g b)) 4 := by
  have := pc_mid (C := []) (slotHead_length (g := g) h) (highOf_length (Crc.sum (slotHead g b)) 4)
  rw [List.append_nil] at this
  exact this
theorem noughts_slot {g : Nat} {b : List Nat} (h : b.length ≤ 113) : pc (slotOf g b) (11 + b.length) (113 - b.length) = List.replicate (113 - b.length) 0 := by
  have e : slotOf g b = ([80, 68] ++ highOf g 8 ++ [b.length] ++ b) ++ (List.replicate (113 - b.length) 0 ++ highOf (Crc.sum (slotHead g b)) 4) := by
    rw [slotOf_parts]; simp
  rw [e, pc_mid (by simp [highOf_length]; omega) (by simp)]
theorem isSlot_slot {g : Nat} {b : List Nat} (h : b.length ≤ 113) (hb : ∀ c ∈ b, c < 256) : isSlot (slotOf g b) = true := by
  have h1 : pc (slotOf g b) 0 2 = [80, 68] := by rw [slotOf_parts]; rfl
  have h4 := Crc.sum_lt _ (slotHead_small (g := g) h hb)
  simp only [isSlot, spOk, slotOf_length h, h1, size_slot, noughts_slot h, end_slot h, take_slot h, numOf_high 4 _ h4]
  simp [h]

theorem slot_split {l : List Nat} (h : l.length = 128) (hs : slotSize l ≤ 113) :
    l = pc l 0 2 ++ (pc l 2 8 ++ (slotSize l :: (slotBody l ++ (pc l (11 + slotSize l) (113 - slotSize l) ++ pc l 124 4)))) := by
  have h1 := drop_pc l 0 2
  have h2 := drop_pc l 2 8
  have h3 := drop_at (l := l) (i := 10) (by omega)
  have h4 := drop_pc l 11 (slotSize l)
  have h5 := drop_pc l (11 + slotSize l) (113 - slotSize l)
  have h6 : l.drop 124 = pc l 124 4 := by unfold pc; rw [List.take_of_length_le (by simp; omega)]
  rw [show 11 + slotSize l + (113 - slotSize l) = 124 by omega, h6] at h5
  rw [h5] at h4
  rw [h4] at h3
  rw [show 2 + 8 = 10 from rfl, h3] at h2
  rw [show 0 + 2 = 2 from rfl, h2, List.drop_zero] at h1
  exact h1
theorem take_split {l : List Nat} (h : l.length = 128) : l.take 124 ++ pc l 124 4 = l := by
  have h6 : l.drop 124 = pc l 124 4 := by unfold pc; rw [List.take_of_length_le (by simp; omega)]
  rw [← h6, List.take_append_drop]
theorem all_zero {l : List Nat} (h : l.all (· == 0) = true) : l = List.replicate l.length 0 := by
  apply List.eq_replicate_of_mem
  intro c hc
  have := List.all_eq_true.1 h c hc
  simpa using this

theorem slot_of_is {l : List Nat} (hs : ∀ c ∈ l, c < 256) (h : isSlot l = true) : slotOf (slotGen l) (slotBody l) = l := by
  simp only [isSlot, spOk, Bool.and_eq_true, decide_eq_true_eq, beq_iff_eq] at h
  obtain ⟨h0, h1, h2, h3, h4⟩ := h
  have hb : (slotBody l).length = slotSize l := pc_length (by omega)
  have h5 := slot_split h0 h2
  have e2 : highOf (numOf (pc l 2 8)) 8 = pc l 2 8 := by
    have := high_numOf (pc l 2 8) (pc_small hs)
    rw [pc_length (by omega)] at this
    exact this
  have e3 := all_zero h3
  rw [pc_length (by omega)] at e3
  have hh : slotHead (slotGen l) (slotBody l) = l.take 124 := by
    have : slotHead (slotGen l) (slotBody l) ++ pc l 124 4 = l := by
      refine Eq.trans ?_ h5.symm
      unfold slotHead slotGen
      rw [hb, e2, ← e3, ← h1]
      simp
    exact List.append_cancel_right (this.trans (take_split h0).symm)
  unfold slotOf
  rw [hh, ← h4]
  have e4 := high_numOf (pc l 124 4) (pc_small hs)
  rw [pc_length (by omega)] at e4
  rw [e4, take_split h0]
theorem isSlot_iff {l : List Nat} (hs : ∀ c ∈ l, c < 256) (h : l.length = 128) (h2 : slotSize l ≤ 113) : isSlot l = decide (slotOf (slotGen l) (slotBody l) = l) := by
  by_cases he : slotOf (slotGen l) (slotBody l) = l
  · rw [decide_eq_true he]
    have := isSlot_slot (g := slotGen l) (b := slotBody l) (by rw [slotBody, pc_length (by omega)]; exact h2) (pc_small hs)
    rw [he] at this
    exact this
  · rw [decide_eq_false he]
    cases hi : isSlot l
    · rfl
    · exact absurd (slot_of_is hs hi) he
theorem slotGen_lt {l : List Nat} (hs : ∀ c ∈ l, c < 256) : slotGen l < 18446744073709551616 := by
  have h1 := numOf_lt (pc l 2 8) (pc_small hs)
  have h2 : 256 ^ (pc l 2 8).length ≤ 256 ^ 8 := Nat.pow_le_pow_right (by omega) (by simp [pc]; omega)
  exact Nat.lt_of_lt_of_le h1 (Nat.le_trans h2 (by decide))

/-- A slot of which a byte is turned is none. -/
theorem isSlot_turned {g : Nat} {b : List Nat} (hb : b.length ≤ 113) (hs : ∀ c ∈ b, c < 256) {j y : Nat} (hj : j < 128) (hy : y < 256) :
    isSlot ((slotOf g b).set j (atB (slotOf g b) j ^^^ y)) = decide (y = 0) := by
  have hjl : j < (slotOf g b).length := by rw [slotOf_length hb]; exact hj
  by_cases hy0 : y = 0
  · subst hy0
    have : (slotOf g b).set j (atB (slotOf g b) j ^^^ 0) = slotOf g b := by
      rw [Nat.xor_zero, atB_of hjl, List.set_getElem_self]
    rw [this, isSlot_slot hb hs]; rfl
  · have hlen : ((slotOf g b).set j (atB (slotOf g b) j ^^^ y)).length = 128 := by rw [List.length_set, slotOf_length hb]
    have hsum := Crc.sum_lt _ (slotHead_small (g := g) hb hs)
    have hat : ∀ i, i < 124 → atB (slotOf g b) i = atB (slotHead g b) i := fun i hi => by
      unfold atB slotOf
      rw [List.getD_eq_getElem?_getD, List.getD_eq_getElem?_getD, List.getElem?_append_left (by rw [slotHead_length hb]; exact hi)]
    have hne : (numOf (pc ((slotOf g b).set j (atB (slotOf g b) j ^^^ y)) 124 4) == Crc.sum (((slotOf g b).set j (atB (slotOf g b) j ^^^ y)).take 124)) = false := by
      rw [beq_eq_false_iff_ne]
      by_cases hlt : j < 124
      · have e1 : ((slotOf g b).set j (atB (slotOf g b) j ^^^ y)).take 124 = (slotHead g b).set j (atB (slotHead g b) j ^^^ y) := by
          rw [List.take_set, hat j hlt, take_slot hb]
        have e2 : pc ((slotOf g b).set j (atB (slotOf g b) j ^^^ y)) 124 4 = highOf (Crc.sum (slotHead g b)) 4 := by
          rw [← end_slot hb]
          unfold pc
          rw [List.drop_set_of_lt hlt]
        rw [e1, e2, numOf_high 4 _ hsum]
        intro h
        exact hy0 ((sum_set (by rw [slotHead_length hb]; exact hlt) hy).1 h)
      · have e1 : ((slotOf g b).set j (atB (slotOf g b) j ^^^ y)).take 124 = slotHead g b := by
          rw [List.take_set_of_le (by omega), take_slot hb]
        rw [e1]
        intro h
        have hp := pc_length (l := (slotOf g b).set j (atB (slotOf g b) j ^^^ y)) (i := 124) (n := 4) (by rw [hlen]; omega)
        have hall : ∀ c ∈ (slotOf g b).set j (atB (slotOf g b) j ^^^ y), c < 256 := by
          intro c hc
          rcases List.mem_or_eq_of_mem_set hc with hc | rfl
          · exact slotOf_small hb hs c hc
          · refine Nat.xor_lt_two_pow (n := 8) ?_ hy
            rw [atB_of hjl]
            exact slotOf_small hb hs _ (List.getElem_mem _)
        have hh := high_numOf _ (pc_small (i := 124) (n := 4) hall)
        rw [hp, h, ← end_slot hb] at hh
        have h5 := congrArg (fun l => atB l (j - 124)) hh
        simp only [pc_at (show j - 124 < 4 by omega), show 124 + (j - 124) = j by omega] at h5
        rw [atB_of (l := (slotOf g b).set j _) (by rw [hlen]; exact hj), List.getElem_set_self] at h5
        have h6 : atB (slotOf g b) j ^^^ (atB (slotOf g b) j ^^^ y) = 0 := by
          rw [← h5, Nat.xor_self]
        rw [← Nat.xor_assoc, Nat.xor_self, Nat.zero_xor] at h6
        exact hy0 h6
    rw [decide_eq_false hy0]
    simp [isSlot, spOk, hne]

/-- What Take tells. -/
def stErr (l : List Nat) : Nat := if isSlot l then 0 else 2
def stGen (l : List Nat) : Nat := if isSlot l then slotGen l else 0
def stBody (l : List Nat) : List Nat := if isSlot l then slotBody l else []
/-- What Better tells. -/
def btWins (a b : List Nat) : Bool := isSlot b && (!isSlot a || decide (slotGen a < slotGen b))
def btWhich (a b : List Nat) : Nat := if btWins a b then 1 else 0
def btGen (a b : List Nat) : Nat := if btWins a b then stGen b else stGen a
def btBody (a b : List Nat) : List Nat := if btWins a b then stBody b else stBody a
def btErr (a b : List Nat) : Nat := if btWins a b then 0 else stErr a
/-- What Put tells. -/
def spErr (b : List Nat) : Nat := if b.length ≤ 113 then 0 else 4
def spBytes (g : Nat) (b : List Nat) : List Nat := if b.length ≤ 113 then slotOf g b else []
theorem st_none {l : List Nat} (h : isSlot l = false) : stErr l = 2 ∧ stGen l = 0 ∧ stBody l = [] := by
  unfold stErr stGen stBody
  rw [h]; exact ⟨rfl, rfl, rfl⟩
theorem st_some {l : List Nat} (h : isSlot l = true) : stErr l = 0 ∧ stGen l = slotGen l ∧ stBody l = slotBody l := by
  unfold stErr stGen stBody
  rw [h]; exact ⟨rfl, rfl, rfl⟩
theorem st_slot {g : Nat} {b : List Nat} (h : b.length ≤ 113) (hb : ∀ c ∈ b, c < 256) (hg : g < 18446744073709551616) : stErr (slotOf g b) = 0 ∧ stGen (slotOf g b) = g ∧ stBody (slotOf g b) = b := by
  have := st_some (isSlot_slot (g := g) h hb)
  rw [gen_slot hg, body_slot] at this
  exact this
theorem isSlot_long {l : List Nat} (h : l.length ≠ 128) : isSlot l = false := by simp [isSlot, spOk, h]

theorem highOf_cons (v : Nat) (n : Nat) : highOf v (n + 1) = v / 256 ^ n % 256 :: highOf v n := by
  induction n generalizing v with
  | zero => simp [highOf]
  | succ n ih =>
    rw [highOf, ih, highOf]
    simp only [List.cons_append, Nat.div_div_eq_div_mul]
    rw [Nat.pow_succ, Nat.mul_comm 256]
end Go.By

/- slot: the parts of a sector, as slices; numbers. -/
namespace Go.Proofs.YtldkeelgnfegeaaGreat.Sl
open Go Go.RowKit Go.By

theorem secT : ByT Tryz.prog 134 5 := ⟨by kernel_rfl, by kernel_rfl, by kernel_rfl⟩
theorem secT_size (w : World) : (sizeOf (Tryz.prog.elem 134)).run Tryz.prog w = .ok 1 w := by kernel_rfl
/-- s[i:n], s[:n], s[i:]. -/
theorem cut_lh (b off len cap i n : Nat) (I N : Int) (hI : I = i) (hN : N = (i + n : Nat)) (hn : i + n ≤ cap) (hi : i < cap) (w : World) :
    (Instr.slice 134 (.slice (some ⟨b, off, none⟩) len cap) (some (.int .i64 I)) (some (.int .i64 N)) none).run Tryz.prog w = .ok (.slice (some ⟨b, off + i, none⟩) n (cap - i)) w := by
  have hr := run_slice_lh (P := Tryz.prog) w 134 (some ⟨b, off, none⟩) len cap (by kernel_rfl) .i64 .i64 I N (by omega) (by omega) (by omega)
  have e1 : N.toNat = i + n := by omega
  have e2 : I.toNat = i := by omega
  have e3 : ¬ cap - i = 0 := by omega
  simp only [secT_size, Result.andThen, e1, e2, sliced, Nat.add_sub_cancel_left, Nat.mul_one] at hr
  rw [hr]
  simp [Addr.add_lit]
  omega
set_option maxRecDepth 100000 in
theorem cut_h (b off len cap n : Nat) (N : Int) (hN : N = n) (hn : n ≤ cap) (w : World) :
    (Instr.slice 134 (.slice (some ⟨b, off, none⟩) len cap) none (some (.int .i64 N)) none).run Tryz.prog w = .ok (.slice (some ⟨b, off, none⟩) n cap) w := by
  subst hN
  have hr := run_slice_h (P := Tryz.prog) w 134 (some ⟨b, off, none⟩) len cap (by kernel_rfl) .i64 (n : Int) (by omega) (by omega)
  have e2 : (n : Int).toNat = n := by omega
  simp only [secT_size, Result.andThen, e2, sliced, Nat.zero_mul, Nat.sub_zero] at hr
  rw [hr]
  congr 2
  split
  · rfl
  · simp [Addr.add]
theorem cut_l (b off len cap i : Nat) (I : Int) (hI : I = i) (hn : i ≤ len) (hlc : len ≤ cap) (hi : i < cap) (w : World) :
    (Instr.slice 134 (.slice (some ⟨b, off, none⟩) len cap) (some (.int .i64 I)) none none).run Tryz.prog w = .ok (.slice (some ⟨b, off + i, none⟩) (len - i) (cap - i)) w := by
  have hr := run_slice_l (P := Tryz.prog) w 134 (some ⟨b, off, none⟩) len cap (by kernel_rfl) .i64 I (by omega) (by omega)
  have e2 : I.toNat = i := by omega
  simp only [secT_size, Result.andThen, e2, sliced, Nat.mul_one] at hr
  rw [hr]
  simp [Addr.add_lit]
  omega

theorem letters_any (b off cap : Nat) (w : World) (hc : 128 ≤ cap) :
    Calls Tryz.prog 75 #[.slice (some ⟨b, off, none⟩) 128 cap] w fun e w' => e = .returned (.slice (some ⟨b, off, none⟩) 2 cap) ∧ w = w' := by
  have hr := cut_h b off 128 cap 2 2 rfl (by omega)
  clear hc
  go_enter Tryz.func75, Tryz.ntmps75
  go_wp2
  go_ret
  exact ⟨rfl, rfl⟩
theorem gen_any (b off cap : Nat) (w : World) (hc : 128 ≤ cap) :
    Calls Tryz.prog 77 #[.slice (some ⟨b, off, none⟩) 128 cap] w fun e w' => e = .returned (.slice (some ⟨b, off + 2, none⟩) 8 (cap - 2)) ∧ w = w' := by
  have hr := cut_lh b off 128 cap 2 8 2 10 rfl rfl (by omega) (by omega)
  clear hc
  go_enter Tryz.func77, Tryz.ntmps77
  go_wp2
  go_ret
  exact ⟨rfl, rfl⟩
theorem size_any (b off cap : Nat) (w : World) (hc : 128 ≤ cap) :
    Calls Tryz.prog 78 #[.slice (some ⟨b, off, none⟩) 128 cap] w fun e w' => e = .returned (.slice (some ⟨b, off + 10, none⟩) 1 (cap - 10)) ∧ w = w' := by
  have hr := cut_lh b off 128 cap 10 1 10 11 rfl rfl (by omega) (by omega)
  clear hc
  go_enter Tryz.func78, Tryz.ntmps78
  go_wp2
  go_ret
  exact ⟨rfl, rfl⟩
theorem sumPart_any (b off cap : Nat) (w : World) (hc : 128 ≤ cap) :
    Calls Tryz.prog 80 #[.slice (some ⟨b, off, none⟩) 128 cap] w fun e w' => e = .returned (.slice (some ⟨b, off + 124, none⟩) 4 (cap - 124)) ∧ w = w' := by
  have hr := cut_l b off 128 cap 124 124 rfl (by omega) (by omega) (by omega)
  clear hc
  go_enter Tryz.func80, Tryz.ntmps80
  go_wp2
  go_ret
  exact ⟨rfl, rfl⟩

theorem wrap_u64_in (x : Int) (h0 : 0 ≤ x) (h1 : x < 18446744073709551616) : IntKind.u64.wrap x = x := by rw [IntKind.wrap_u64]; omega

/-- The sum of what stands ahead of it. -/
theorem ahead_any (b off cap : Nat) (l : List Nat) (w : World) (hl : l.length = 128) (hv : Bytes w (.slice (some ⟨b, off, none⟩) 128 cap) l) :
    Calls Tryz.prog 81 #[.slice (some ⟨b, off, none⟩) 128 cap] w fun e w' => e = .returned (.int .u64 (Crc.sum (l.take 124) : Nat)) ∧ Below w.heap.size w w' := by
  have hr := cut_h b off 128 cap 124 124 rfl (by have := hv.room.2; omega)
  have hv' : Bytes w (.slice (some ⟨b, off, none⟩) l.length cap) l := by rw [hl]; exact hv
  have HU := Lib.hid (hv'.upto (n := 124) (by omega))
  have hs := Crc.sum_lt (l.take 124) (fun c hc => hv.small c (List.mem_of_mem_take hc))
  have hw := wrap_u64_in ((Crc.sum (l.take 124) : Nat) : Int) (by omega) (by omega)
  clear hv hv' hs
  go_enter Tryz.func81, Tryz.ntmps81
  go_wp2_with fail
  refine (sum_any _ (l.take 124) w HU.out).mono ?_
  rintro e w1 ⟨rfl, hb⟩
  have HB := Lib.hid hb; clear hb
  go_wp2
  go_ret
  exact ⟨rfl, HB.out⟩

theorem or_byte64 (n c : Nat) (hn : n < 72057594037927936) (hc : c < 256) : bits .or .u64 ((n * 256 : Nat) : Int) (c : Int) = ((n * 256 + c : Nat) : Int) := by
  have h := Nat.two_pow_add_eq_or_of_lt (i := 8) (b := c) hc n
  rw [(bits_nat .u64 64 (by decide) (fun n h0 h1 => by rw [IntKind.wrap_u64]; omega) (n * 256) c (by omega) (by omega)).2]
  have h3 : n * 256 ||| c = n * 256 + c := by rw [show n * 256 = 2 ^ 8 * n by omega, ← h]
  rw [h3]

set_option maxRecDepth 100000 in
theorem number_any (v : Value) (l : List Nat) (w : World) (hv : Bytes w v l) (hl : l.length ≤ 8) :
    Calls Tryz.prog 90 #[v] w fun e w' => e = .returned (.int .u64 (numOf l : Nat)) ∧ w = w' := by
  obtain ⟨p, cap, rfl, _⟩ := hv.any
  have HV := Lib.hid hv; clear hv
  go_enter Tryz.func90, Tryz.ntmps90
  go_wp2
  go_loop [3, 8] (fun x i => ∃ k : Nat, k ≤ l.length ∧ i = .int .i64 k ∧ x = .int .u64 (numOf (l.take k) : Nat)) (fun _ i => l.length - (intOf i).toNat)
  case atStart => exact ⟨0, by omega, rfl, rfl⟩
  case round =>
    obtain ⟨k, hk, rfl, rfl⟩ := hrel
    by_cases hlt : k < l.length
    · obtain ⟨b1, o1, rfl, hcell⟩ := HV.out.spot k hlt
      have hn : numOf (l.take k) < 72057594037927936 := by
        have h1 := numOf_lt (l.take k) (fun c hc => HV.out.small c (List.mem_of_mem_take hc))
        have h2 : 256 ^ (l.take k).length ≤ 256 ^ 7 := Nat.pow_le_pow_right (by omega) (by rw [List.length_take]; omega)
        exact Nat.lt_of_lt_of_le h1 (Nat.le_trans h2 (by decide))
      have hcl : atB l k < 256 := HV.out.at_lt hlt
      have hs : numOf (l.take (k + 1)) = numOf (l.take k) * 256 + atB l k := by
        rw [List.take_succ_eq_append_getElem hlt, numOf_snoc, atB_of hlt]
      have HS := Lib.hid hs; clear hs
      have e1 := or_byte64 (numOf (l.take k)) (atB l k) hn hcl
      have e2 : IntKind.u64.wrap ((numOf (l.take k) : Int) * 256) = ((numOf (l.take k) * 256 : Nat) : Int) := by rw [IntKind.wrap_u64]; omega
      generalize numOf (l.take k) * 256 = z at *
      generalize numOf (l.take k) = x at *
      generalize atB l k = y at *
      generalize hzy : z + y = zy at *
      clear hn hzy
      go_wp2
      go_round
      case rel => exact ⟨k + 1, by omega, by go_num, by rw [HS.out]⟩
      case measure => simp [intOf]; omega
    · obtain rfl : k = l.length := by omega
      rw [List.take_length]
      go_wp2
      go_ret
      exact ⟨rfl, rfl⟩
end Go.Proofs.YtldkeelgnfegeaaGreat.Sl

/- slot: what a sector's parts say. -/
namespace Go.Proofs.YtldkeelgnfegeaaGreat.Sl
open Go Go.RowKit Go.By

/-- A piece of a row that has an address. -/
theorem piece_at {w : World} {b off cap : Nat} {l : List Nat} (h : Bytes w (.slice (some ⟨b, off, none⟩) l.length cap) l) (i n c : Nat) (hn : i + n ≤ l.length) (hc : n ≤ c) : Bytes w (.slice (some ⟨b, off + i, none⟩) n c) (pc l i n) where
  out := by
    have hpl := pc_length hn
    refine .inr <| .inr ⟨b, off + i, c, by rw [hpl], by rw [hpl]; exact hc, fun j hj => ?_⟩
    rw [hpl] at hj
    obtain ⟨b', o', h1, h2⟩ := h.spot (i + j) (by omega)
    simp only [Option.some.injEq, Addr.mk.injEq, true_and, and_true] at h1
    obtain ⟨rfl, rfl⟩ := h1
    rw [Nat.add_assoc, h2, pc_at hj]
  small := pc_small h.small
  short := by rw [pc_length hn]; have := h.short; omega

theorem pc_one {l : List Nat} {i : Nat} (h : i < l.length) : pc l i 1 = [atB l i] := by
  unfold pc
  rw [drop_at h]; rfl
theorem numOf_one (c : Nat) : numOf [c] = c := by simp [numOf]
theorem slotSize_lt {l : List Nat} (hl : l.length = 128) (hs : ∀ c ∈ l, c < 256) : slotSize l < 256 := by
  unfold slotSize
  rw [atB_of (by omega)]
  exact hs _ (List.getElem_mem _)

/-- The bytes of a sector, at an address. -/
def Sec (w : World) (b off cap : Nat) (l : List Nat) : Prop := Bytes w (.slice (some ⟨b, off, none⟩) 128 cap) l ∧ l.length = 128
theorem Sec.cap {w : World} {b off cap : Nat} {l : List Nat} (h : Sec w b off cap l) : 128 ≤ cap := h.1.room.2
theorem Sec.full {w : World} {b off cap : Nat} {l : List Nat} (h : Sec w b off cap l) : Bytes w (.slice (some ⟨b, off, none⟩) l.length cap) l := by
  have := h.1
  rw [h.2]; exact this
theorem Sec.piece {w : World} {b off cap : Nat} {l : List Nat} (h : Sec w b off cap l) (i n c : Nat) (hn : i + n ≤ 128) (hc : n ≤ c) : Bytes w (.slice (some ⟨b, off + i, none⟩) n c) (pc l i n) := piece_at h.full i n c (by rw [h.2]; exact hn) hc
theorem Sec.below {w w' : World} {b off cap : Nat} {l : List Nat} (h : Sec w b off cap l) (hb : Below w.heap.size w w') : Sec w' b off cap l := ⟨h.1.below hb, h.2⟩

set_option maxRecDepth 100000 in
theorem bodyEnd_any (b off cap : Nat) (l : List Nat) (w : World) (h : Sec w b off cap l) :
    Calls Tryz.prog 94 #[.slice (some ⟨b, off, none⟩) 128 cap] w fun e w' => e = .returned (.int .i64 (11 + (slotSize l : Int))) ∧ w = w' := by
  have hc := size_any b off cap w h.cap
  have hn := number_any _ _ w (h.piece 10 1 (cap - 10) (by omega) (by have := h.cap; omega)) (by rw [pc_length (by rw [h.2]; omega)]; omega)
  rw [pc_one (by rw [h.2]; omega), numOf_one] at hn
  have hs := slotSize_lt h.2 h.1.small
  unfold slotSize at hs ⊢
  have HC := Lib.hid hc; have HN := Lib.hid hn
  clear hc hn h
  generalize atB l 10 = x at *
  go_enter Tryz.func94, Tryz.ntmps94
  go_wp2_with fail
  refine HC.out.mono ?_
  rintro e w1 ⟨rfl, rfl⟩
  go_wp2_with fail
  refine HN.out.mono ?_
  rintro e w1 ⟨rfl, rfl⟩
  go_wp2
  go_ret
  exact ⟨ret_int (by omega), rfl⟩

set_option maxRecDepth 100000 in
theorem body_any (b off cap : Nat) (l : List Nat) (w : World) (h : Sec w b off cap l) (h2 : slotSize l ≤ 113) :
    Calls Tryz.prog 79 #[.slice (some ⟨b, off, none⟩) 128 cap] w fun e w' => e = .returned (.slice (some ⟨b, off + 11, none⟩) (slotSize l) (cap - 11)) ∧ w = w' := by
  have HC := Lib.hid (bodyEnd_any b off cap l w h)
  have hr := cut_lh b off 128 cap 11 (slotSize l) 11 (11 + (slotSize l : Int)) rfl (by omega) (by have := h.cap; omega) (by have := h.cap; omega)
  clear h h2
  generalize slotSize l = x at *
  go_enter Tryz.func79, Tryz.ntmps79
  go_wp2_with fail
  refine HC.out.mono ?_
  rintro e w1 ⟨rfl, rfl⟩
  go_wp2
  go_ret
  exact ⟨rfl, rfl⟩

set_option maxRecDepth 100000 in
theorem noughts_any (b off cap : Nat) (l : List Nat) (w : World) (h : Sec w b off cap l) (h2 : slotSize l ≤ 113) :
    Calls Tryz.prog 106 #[.slice (some ⟨b, off, none⟩) 128 cap] w fun e w' => e = .returned (.slice (some ⟨b, off + (11 + slotSize l), none⟩) (113 - slotSize l) (cap - (11 + slotSize l))) ∧ w = w' := by
  have HC := Lib.hid (bodyEnd_any b off cap l w h)
  have hr := cut_lh b off 128 cap (11 + slotSize l) (113 - slotSize l) (11 + (slotSize l : Int)) 124 (by omega) (by omega) (by have := h.cap; omega) (by have := h.cap; omega)
  clear h h2
  generalize slotSize l = x at *
  go_enter Tryz.func106, Tryz.ntmps106
  go_wp2_with fail
  refine HC.out.mono ?_
  rintro e w1 ⟨rfl, rfl⟩
  go_wp2
  go_ret
  exact ⟨rfl, rfl⟩

theorem isWhole_any (p : Option Addr) (n cap : Nat) (w : World) (hm : n ≤ 17592186044416) :
    Calls Tryz.prog 85 #[.slice p n cap] w fun e w' => e = .returned (.bool (decide (n = 128))) ∧ w = w' := by
  have hd : ((n : Int) == 128) = decide (n = 128) := by rw [Bool.eq_iff_iff]; simp; omega
  go_enter Tryz.func85, Tryz.ntmps85
  go_wp2
  go_ret
  exact ⟨rfl, rfl⟩

theorem strOf_inj {l m : List Nat} (hl : ∀ c ∈ l, c < 256) (hm : ∀ c ∈ m, c < 256) (h : strOf l = strOf m) : l = m := by
  have e : ∀ l : List Nat, (∀ c ∈ l, c < 256) → (strOf l).data.toList.map UInt8.toNat = l := by
    intro l hl
    unfold strOf
    rw [strOfNums_data, List.map_map, List.map_map]
    conv => rhs; rw [← List.map_id l]
    apply List.map_congr_left
    intro c hc
    have := hl c hc
    simp
    omega
  rw [← e l hl, ← e m hm, h]

set_option maxRecDepth 100000 in
theorem hasLetters_any (b off cap : Nat) (l : List Nat) (w : World) (h : Sec w b off cap l) :
    Calls Tryz.prog 86 #[.slice (some ⟨b, off, none⟩) 128 cap] w fun e w' => e = .returned (.bool (spOk l 1)) ∧ w = w' := by
  have HC := Lib.hid (letters_any b off cap w h.cap)
  have hb := h.piece 0 2 cap (by omega) (by have := h.cap; omega)
  have c1 := hb.toString byT (P := Tryz.prog) (d := 9) (by kernel_rfl)
  rw [Nat.add_zero] at c1
  have hd : ((strOf (pc l 0 2)).toList == [80, 68]) = spOk l 1 := by
    show _ = (pc l 0 2 == [80, 68])
    rw [Bool.eq_iff_iff, beq_iff_eq, beq_iff_eq, Lib.toList_data]
    constructor
    · intro e
      refine strOf_inj hb.small (by decide) ?_
      have e2 : strOf [80, 68] = ⟨#[80, 68]⟩ := rfl
      rw [e2]
      exact ByteArray.ext (Array.toList_inj.1 e)
    · intro e
      rw [e]; rfl
  generalize spOk l 1 = ok at *
  generalize strOf (pc l 0 2) = s at *
  clear h hb
  go_enter Tryz.func86, Tryz.ntmps86
  go_wp2_with fail
  refine HC.out.mono ?_
  rintro e w1 ⟨rfl, rfl⟩
  go_wp2
  go_ret
  exact ⟨rfl, rfl⟩

set_option maxRecDepth 100000 in
theorem hasSize_any (b off cap : Nat) (l : List Nat) (w : World) (h : Sec w b off cap l) :
    Calls Tryz.prog 87 #[.slice (some ⟨b, off, none⟩) 128 cap] w fun e w' => e = .returned (.bool (spOk l 2)) ∧ w = w' := by
  have HC := Lib.hid (bodyEnd_any b off cap l w h)
  have hd : decide (11 + (slotSize l : Int) ≤ 124) = spOk l 2 := by
    show _ = decide (slotSize l ≤ 113)
    rw [decide_eq_decide]
    omega
  clear h
  generalize spOk l 2 = ok at *
  generalize slotSize l = x at *
  go_enter Tryz.func87, Tryz.ntmps87
  go_wp2_with fail
  refine HC.out.mono ?_
  rintro e w1 ⟨rfl, rfl⟩
  go_wp2
  go_ret
  exact ⟨rfl, rfl⟩

set_option maxRecDepth 100000 in
theorem hasSum_any (b off cap : Nat) (l : List Nat) (w : World) (h : Sec w b off cap l) :
    Calls Tryz.prog 89 #[.slice (some ⟨b, off, none⟩) 128 cap] w fun e w' => e = .returned (.bool (spOk l 4)) ∧ Below w.heap.size w w' := by
  have HC := Lib.hid (sumPart_any b off cap w h.cap)
  have HN := Lib.hid (number_any _ _ w (h.piece 124 4 (cap - 124) (by omega) (by have := h.cap; omega)) (by rw [pc_length (by rw [h.2]; omega)]; omega))
  have HS := Lib.hid (ahead_any b off cap l w h.2 h.1)
  have hd : (((numOf (pc l 124 4) : Nat) : Int) == ((Crc.sum (l.take 124) : Nat) : Int)) = spOk l 4 := by
    show _ = (numOf (pc l 124 4) == Crc.sum (l.take 124))
    rw [Bool.eq_iff_iff, beq_iff_eq, beq_iff_eq]
    omega
  clear h
  generalize spOk l 4 = ok at *
  generalize numOf (pc l 124 4) = x at *
  generalize Crc.sum (l.take 124) = y at *
  go_enter Tryz.func89, Tryz.ntmps89
  go_wp2_with fail
  refine HC.out.mono ?_
  rintro e w1 ⟨rfl, rfl⟩
  go_wp2_with fail
  refine HN.out.mono ?_
  rintro e w1 ⟨rfl, rfl⟩
  go_wp2_with fail
  refine HS.out.mono ?_
  rintro e w1 ⟨rfl, hb⟩
  have HB := Lib.hid hb; clear hb
  go_wp2
  go_ret
  exact ⟨rfl, HB.out⟩

set_option maxRecDepth 100000 in
theorem hasNoughts_any (b off cap : Nat) (l : List Nat) (w : World) (h : Sec w b off cap l) (h2 : slotSize l ≤ 113) :
    Calls Tryz.prog 88 #[.slice (some ⟨b, off, none⟩) 128 cap] w fun e w' => e = .returned (.bool (spOk l 3)) ∧ w = w' := by
  have HC := Lib.hid (noughts_any b off cap l w h h2)
  have hp := h.piece (11 + slotSize l) (113 - slotSize l) (cap - (11 + slotSize l)) (by omega) (by have := h.cap; omega)
  have hpl : (pc l (11 + slotSize l) (113 - slotSize l)).length = 113 - slotSize l := pc_length (by rw [h.2]; omega)
  have HO : Hid (spOk l 3 = (pc l (11 + slotSize l) (113 - slotSize l)).all (· == 0)) := rfl
  have HP := Lib.hid hp
  have HL := Lib.hid hpl
  have hn : 113 - slotSize l ≤ 113 := by omega
  clear hp h h2 hpl
  generalize pc l (11 + slotSize l) (113 - slotSize l) = m at *
  generalize 113 - slotSize l = n at *
  generalize off + (11 + slotSize l) = o at *
  generalize cap - (11 + slotSize l) = c at *
  go_enter Tryz.func88, Tryz.ntmps88
  go_wp2_with fail
  refine HC.out.mono ?_
  rintro e w1 ⟨rfl, rfl⟩
  go_wp2
  go_loop [8] (fun i => ∃ k : Nat, k ≤ n ∧ i = .int .i64 k ∧ (m.take k).all (· == 0) = true) (fun i => n - (intOf i).toNat)
  case atStart => exact ⟨0, by omega, rfl, rfl⟩
  case round =>
    obtain ⟨k, hk, rfl, hall⟩ := hrel
    have HA := Lib.hid hall; clear hall
    by_cases hlt : k < n
    · obtain ⟨b1, o1, hbo, hcell⟩ := HP.out.spot k (by rw [HL.out]; exact hlt)
      simp only [Option.some.injEq, Addr.mk.injEq, true_and, and_true] at hbo
      obtain ⟨rfl, rfl⟩ := hbo
      have hmk : k < m.length := by rw [HL.out]; exact hlt
      have hall2 : (m.take (k + 1)).all (· == 0) = (atB m k == 0) := by
        rw [List.take_succ_eq_append_getElem hmk, List.all_append, HA.out, atB_of hmk]
        simp
      have HA2 := Lib.hid hall2; clear hall2 hmk
      by_cases h0 : atB m k = 0
      · rw [h0] at hcell HA2
        clear h0
        go_wp2
        go_round
        case rel => exact ⟨k + 1, by omega, by go_num, HA2.out⟩
        case measure => simp [intOf]; omega
      · have hf : m.all (· == 0) = false := by
          rw [List.all_eq_false]
          refine ⟨atB m k, ?_, by simpa using h0⟩
          rw [atB_of (by rw [HL.out]; exact hlt)]
          exact List.getElem_mem _
        have HF := Lib.hid hf; clear hf
        have h0' : ((atB m k : Nat) : Int) ≠ 0 := by omega
        have h0b : ((atB m k : Nat) : Int) != 0 := by simpa using h0
        have h0c : (((atB m k : Nat) : Int) == 0) = false := by simpa using h0
        clear h0
        go_wp2
        go_ret
        rw [HO.out, HF.out]
        exact ⟨rfl, rfl⟩
    · obtain rfl : k = n := by omega
      have hf : m.all (· == 0) = true := by
        have := HA.out
        rw [List.take_of_length_le (by rw [HL.out]; omega)] at this
        exact this
      have HF := Lib.hid hf; clear hf
      go_wp2
      go_ret
      rw [HO.out, HF.out]
      exact ⟨rfl, rfl⟩
end Go.Proofs.YtldkeelgnfegeaaGreat.Sl

/- slot: a number is put; a slot is put. -/
namespace Go.Proofs.YtldkeelgnfegeaaGreat.Sl
open Go Go.RowKit Go.By

theorem splice_length {L X : List Nat} {i : Nat} (h : i + X.length ≤ L.length) : (splice L i X).length = L.length := length_splice L i X h
theorem splice_mid {A M C X : List Nat} {i : Nat} (hA : A.length = i) (hM : M.length = X.length) : splice (A ++ (M ++ C)) i X = A ++ (X ++ C) := by
  subst hA
  unfold splice
  rw [← hM]
  simp
theorem splice_set {L X : List Nat} {i c : Nat} (h : i + 1 + X.length ≤ L.length) : (splice L (i + 1) X).set i c = splice L i (c :: X) := by
  unfold splice
  rw [List.set_append_left _ _ (by simp; omega), List.take_succ_eq_append_getElem (by omega), List.set_append_right _ _ (by simp; omega)]
  simp [Nat.min_eq_left (by omega : i ≤ L.length)]
  congr 1
  omega

theorem tup_none : (Value.tuple #[]) = .tuple #[] := rfl

set_option maxRecDepth 100000 in
theorem putNumber_any (w0 w : World) (L : List Nat) (off n c v : Nat) (h : Filled w0 w L) (ho : off + n ≤ L.length) (hn : n ≤ 8) (hv : v < 18446744073709551616) :
    Calls Tryz.prog 76 #[.slice (some ⟨w0.heap.size, off, none⟩) n c, .int .u64 v] w fun e w' => e = .returned (.tuple #[]) ∧ Filled w0 w' (splice L off (highOf v n)) := by
  have H := Lib.hid h
  have hv' : (v : Int) < 18446744073709551616 := by omega
  clear h
  go_enter Tryz.func76, Tryz.ntmps76
  go_wp2
  go_loopw [7] (fun i wr => ∃ k : Nat, k ≤ n ∧ i = .int .i64 k ∧ Filled w0 wr (splice L (off + (n - k)) (highOf v k))) (fun i _ => n - (intOf i).toNat)
  case atStart =>
    refine ⟨0, by omega, rfl, ?_⟩
    have e : splice L (off + (n - 0)) (highOf v 0) = L := by simp [splice, highOf]
    rw [e]; exact H.out
  case round =>
    clear H
    obtain ⟨k, hk, rfl, hF⟩ := hrel
    by_cases hlt : k < n
    · obtain ⟨j, hj⟩ : ∃ j, j = n - 1 - k := ⟨_, rfl⟩
      have hj1 : (n : Int) - 1 - (k : Int) = j := by omega
      have hlen : (splice L (off + (n - k)) (highOf v k)).length = L.length := splice_length (by rw [highOf_length]; omega)
      have hc := hF.cell (i := off + j) (by rw [hlen]; omega)
      have hf := hF.free (off + j)
      have hset := hF.set (off + j) (v / 256 ^ k % 256)
      have e1 : off + (n - k) = off + j + 1 := by omega
      have e2 : off + (n - (k + 1)) = off + j := by omega
      rw [e1, splice_set (by rw [highOf_length]; omega), ← highOf_cons, ← e2] at hset
      have HS := Lib.hid hset
      have hsh : (v : Int) / 2 ^ (8 * (k : Int)).toNat = ((v / 256 ^ k : Nat) : Int) := by
        have : (8 * (k : Int)).toNat = 8 * k := by omega
        rw [this, show 256 ^ k = 2 ^ (8 * k) by rw [Nat.pow_mul], Int.natCast_ediv, Int.natCast_pow]
        rfl
      have hvk : v / 256 ^ k < 18446744073709551616 := Nat.lt_of_le_of_lt (Nat.div_le_self _ _) hv
      generalize v / 256 ^ k = x at *
      have hjl : (j : Int) < n := by omega
      have E2 := Lib.hid e2
      clear hset hF e1 e2 hlen hj hvk
      go_wp2
      go_roundw
      case rel => exact ⟨k + 1, by omega, by go_num, by have := HS.out; rw [E2.out] at this ⊢; exact this⟩
      case measure => simp [intOf]; omega
    · obtain rfl : k = n := by omega
      rw [Nat.sub_self, Nat.add_zero] at hF
      have HF := Lib.hid hF; clear hF
      go_wp2
      go_returns
      exact ⟨rfl, HF.out⟩
end Go.Proofs.YtldkeelgnfegeaaGreat.Sl

/- slot: a slot is put. -/
namespace Go.Proofs.YtldkeelgnfegeaaGreat.Sl
open Go Go.RowKit Go.By

theorem Filled.splice {w0 w : World} {L X : List Nat} (h : Filled w0 w L) {i : Nat} (hX : i + X.length ≤ L.length) :
    Filled w0 (w.setRow w0.heap.size ((cellsOf L).take i ++ cellsOf X ++ (cellsOf L).drop (i + X.length)).toArray) (splice L i X) := by
  refine ⟨?_, below_setRow h.2 (Nat.le_refl _) _⟩
  rw [setRow_heap w w0.heap.size _ _ 5 _ h.1]
  congr 2
  simp [Go.splice, cellsOf]
/-- copy(s, x), s a piece of the row that is filled: bytes, a string. -/
theorem run_fill (dT sT ty : TypeId) (hu : Tryz.prog.underlying dT = some (.slice 5)) {w0 w : World} {L X : List Nat} (off dCap n : Nat) (sv : Value) (hn : X.length = n) (hF : Filled w0 w L) (hX : Bytes w sv X) (hfit : off + X.length ≤ L.length) :
    ∃ w', (Builtin.copy_ #[dT, sT] ty #[.slice (some ⟨w0.heap.size, off, none⟩) n dCap, sv]).run Tryz.prog w = .ok (.int .i64 n) w' ∧ Filled w0 w' (splice L off X) := by
  subst hn
  have hsz : (Tryz.prog.info? 5).map (·.size) = some 1 := by kernel_rfl
  have hnil : splice L off [] = L := by simp [Go.splice]
  rcases hX.out with ⟨h1, rfl⟩ | ⟨ad, h1, rfl⟩ | ⟨b, so, cap, h1, _, hc⟩
  · subst h1
    exact ⟨w, run_copy_none (P := Tryz.prog) w dT sT ty 5 _ _ _ _ _ _ hu hsz (by simp), by rw [hnil]; exact hF⟩
  · subst h1
    exact ⟨w, run_copy_none (P := Tryz.prog) w dT sT ty 5 _ _ _ _ _ _ hu hsz (by simp), by rw [hnil]; exact hF⟩
  · subst h1
    have hrun := run_copy_row (P := Tryz.prog) w dT sT ty 5 w0.heap.size off X.length dCap ⟨b, so, none⟩ X.length cap (cellsOf L).toArray 5 (cellsOf X) hu hsz hF.1 (by rw [cellsOf_length]; simp) (fun j v hv => by
      obtain ⟨hj, rfl⟩ := cellsOf_at hv
      rw [Addr.add_lit]; exact hc j hj) (by simp [cellsOf_length]; exact hfit) (cellsOf_one _)
    rw [cellsOf_length] at hrun
    exact ⟨_, hrun, hF.splice hfit⟩
theorem run_fill_string (dT sT ty : TypeId) (hu : Tryz.prog.underlying dT = some (.slice 5)) {w0 w : World} {L : List Nat} (X : List Nat) (off dCap n : Nat) (t : ByteArray) (hn : X.length = n) (ht : Lib.byteCells t.data.toList = cellsOf X) (hF : Filled w0 w L) (hfit : off + X.length ≤ L.length) :
    ∃ w', (Builtin.copy_ #[dT, sT] ty #[.slice (some ⟨w0.heap.size, off, none⟩) n dCap, .string t]).run Tryz.prog w = .ok (.int .i64 n) w' ∧ Filled w0 w' (splice L off X) := by
  subst hn
  have hsz : (Tryz.prog.info? 5).map (·.size) = some 1 := by kernel_rfl
  have hlen : t.size = X.length := by
    have := congrArg List.length ht
    rw [Lib.byteCells_length, cellsOf_length, ← Lib.size_eq] at this
    exact this
  have hrun := Lib.run_copy_row_string (P := Tryz.prog) w dT sT ty 5 w0.heap.size off X.length dCap t (cellsOf L).toArray 5 hu hsz hF.1 (by omega) (by simp [cellsOf_length]; omega)
  rw [ht, hlen] at hrun
  exact ⟨_, hrun, hF.splice hfit⟩

/-- make(sector, n). -/
theorem madeSec_run (m : Nat) (M : Int) (hM : M = m) (hc : m < 1099511627776) (w : World) : (Instr.makeSlice 134 (.int .i64 M) (.int .i64 M)).run Tryz.prog w = .ok (.slice (some ⟨w.heap.size, 0, none⟩) m m) (w.alloc (.cells (zeros m) 5)) := by
  subst hM
  obtain ⟨i, hi, hz, hz1, hz2⟩ := info_parts byT.info
  have h := run_make (P := Tryz.prog) (w := w) 134 5 i (.int .u8 0) secT.slice hi hz .i64 .i64 (m : Int) (m : Int) (by omega) (by omega) (by rw [hz2]; omega) (by omega)
  rw [h]
  have e : madeCells (Value.int .u8 0).cells ((m : Int).toNat * i.size) = zeros m := by
    rw [hz1]
    apply Array.toList_inj.1
    apply List.ext_getElem
    · simp [madeCells, cellsOf, zeros]
    · intro j h1 h2
      simp [madeCells, cellsOf, zeros, Value.cells, Nat.mod_one]
  rw [e]; simp

/-- How a sector is filled. -/
def fill0 : List Nat := List.replicate 128 0
def fill1 : List Nat := Go.splice fill0 0 [80, 68]
def fill2 (g : Nat) : List Nat := Go.splice fill1 2 (highOf g 8)
def fill3 (g : Nat) (b : List Nat) : List Nat := Go.splice (fill2 g) 10 (highOf b.length 1)
def fill4 (g : Nat) (b : List Nat) : List Nat := Go.splice (fill3 g b) 11 b
def fill5 (g : Nat) (b : List Nat) : List Nat := Go.splice (fill4 g b) 124 (highOf (Crc.sum (slotHead g b)) 4)
theorem rep_split {n a b : Nat} (h : n = a + b) : List.replicate n 0 = List.replicate a 0 ++ List.replicate b 0 := by rw [h, List.replicate_append_replicate]
theorem fill0_length : fill0.length = 128 := List.length_replicate
theorem fill1_length : fill1.length = 128 := by rw [fill1, splice_length (by rw [fill0_length]; simp), fill0_length]
theorem fill2_length (g : Nat) : (fill2 g).length = 128 := by rw [fill2, splice_length (by rw [fill1_length, highOf_length]; omega), fill1_length]
theorem fill3_length (g : Nat) (b : List Nat) : (fill3 g b).length = 128 := by rw [fill3, splice_length (by rw [fill2_length, highOf_length]; omega), fill2_length]
theorem fill4_length (g : Nat) {b : List Nat} (h : b.length ≤ 113) : (fill4 g b).length = 128 := by rw [fill4, splice_length (by rw [fill3_length]; omega), fill3_length]
theorem fill_two (g : Nat) : fill2 g = [80, 68] ++ (highOf g 8 ++ List.replicate 118 0) := by
  have h1 : fill1 = [80, 68] ++ List.replicate 126 0 := by
    rw [fill1, fill0, rep_split (show 128 = 2 + 126 from rfl)]
    exact splice_mid (A := []) rfl rfl
  rw [fill2, h1, rep_split (show 126 = 8 + 118 from rfl)]
  exact splice_mid rfl (by rw [highOf_length]; rfl)
theorem fill_three (g : Nat) {b : List Nat} (h : b.length ≤ 113) : fill3 g b = ([80, 68] ++ highOf g 8) ++ ([b.length] ++ List.replicate 117 0) := by
  have e : highOf b.length 1 = [b.length] := by simp [highOf]; omega
  rw [fill3, fill_two, rep_split (show 118 = 1 + 117 from rfl), ← List.append_assoc, e]
  exact splice_mid (by rw [List.length_append, highOf_length]; rfl) rfl
theorem fill_four (g : Nat) {b : List Nat} (h : b.length ≤ 113) : fill4 g b = slotHead g b ++ List.replicate 4 0 := by
  have e : splice (([80, 68] ++ highOf g 8 ++ [b.length]) ++ (List.replicate b.length 0 ++ List.replicate (117 - b.length) 0)) 11 b = ([80, 68] ++ highOf g 8 ++ [b.length]) ++ (b ++ List.replicate (117 - b.length) 0) :=
    splice_mid (by rw [List.length_append, List.length_append, highOf_length]; rfl) List.length_replicate
  rw [fill4, fill_three g h, ← List.append_assoc, rep_split (show 117 = b.length + (117 - b.length) by omega), e, rep_split (show 117 - b.length = (113 - b.length) + 4 by omega), slotHead]
  simp only [List.append_assoc, List.cons_append, List.nil_append]
theorem fill_five (g : Nat) {b : List Nat} (h : b.length ≤ 113) : fill5 g b = slotOf g b := by
  have e : splice (slotHead g b ++ (List.replicate 4 0 ++ [])) 124 (highOf (Crc.sum (slotHead g b)) 4) = slotHead g b ++ (highOf (Crc.sum (slotHead g b)) 4 ++ []) := splice_mid (slotHead_length h) (by rw [highOf_length]; rfl)
  rw [List.append_nil, List.append_nil] at e
  rw [fill5, fill_four g h, e, slotOf]
theorem fill_size (g : Nat) {b : List Nat} (h : b.length ≤ 113) : slotSize (fill3 g b) = b.length := by
  unfold slotSize
  rw [fill_three g h, List.singleton_append]
  exact at_mid (by rw [List.length_append, highOf_length]; rfl)
theorem fill_head (g : Nat) {b : List Nat} (h : b.length ≤ 113) : (fill4 g b).take 124 = slotHead g b := by
  rw [fill_four g h, List.take_append, slotHead_length h]
  simp [List.take_of_length_le, slotHead_length h]
theorem fill_small (g : Nat) {b : List Nat} (h : b.length ≤ 113) (hb : ∀ c ∈ b, c < 256) : (∀ c ∈ fill3 g b, c < 256) ∧ ∀ c ∈ fill4 g b, c < 256 := by
  constructor
  · intro c hc
    rw [fill_three g h] at hc
    simp only [List.mem_append, List.mem_cons, List.mem_replicate, List.not_mem_nil, or_false] at hc
    rcases hc with ((rfl | rfl) | hc) | rfl | ⟨_, rfl⟩
    · omega
    · omega
    · exact highOf_small _ _ c hc
    · omega
    · omega
  · intro c hc
    rw [fill_four g h] at hc
    simp only [List.mem_append, List.mem_replicate] at hc
    rcases hc with hc | ⟨_, rfl⟩
    · exact slotHead_small h hb c hc
    · omega
theorem Filled.sec {w0 w : World} {L : List Nat} (h : Filled w0 w L) (hl : L.length = 128) (hs : ∀ c ∈ L, c < 256) : Sec w w0.heap.size 0 128 L := by
  refine ⟨?_, hl⟩
  have := Bytes.of_owns (h.owns (by rw [hl]; decide)) hs (by rw [hl]; decide)
  rw [hl] at this
  exact this

theorem put_long (g : Nat) (v : Value) (l : List Nat) (w : World) (hv : Bytes w v l) (hl : 113 < l.length) :
    Calls Tryz.prog 62 #[.int .u64 g, v] w fun e w' => e = .returned (.tuple #[.slice none 0 0, .int .i64 4]) ∧ w = w' := by
  obtain ⟨p, cap, rfl, _⟩ := hv.any
  have hm := hv.short
  unfold maxLen at hm
  clear hv
  go_enter Tryz.func62, Tryz.ntmps62
  go_wp2
  go_ret2
  exact ⟨rfl, rfl⟩

end Go.Proofs.YtldkeelgnfegeaaGreat.Sl

/- slot: a slot is put. -/
namespace Go.Proofs.YtldkeelgnfegeaaGreat.Sl
open Go Go.RowKit Go.By

theorem filled_new (w : World) : Filled w (w.alloc (.cells (zeros 128) 5)) fill0 := ⟨heap_alloc_new w _, (Below.refl _ _).alloc (Nat.le_refl _) _⟩

set_option maxRecDepth 100000 in
theorem put_any (g : Nat) (v : Value) (l : List Nat) (w : World) (hg : g < 18446744073709551616) (hv : Bytes w v l) (hl : l.length ≤ 113) :
    Calls Tryz.prog 62 #[.int .u64 g, v] w fun e w' => e = .returned (.tuple #[.slice (some ⟨w.heap.size, 0, none⟩) 128 128, .int .i64 0]) ∧ Filled w w' (slotOf g l) := by
  obtain ⟨p, cap, rfl, _⟩ := hv.any
  have HV := Lib.hid hv; clear hv
  have hmk := madeSec_run 128 128 rfl (by omega)
  go_enter Tryz.func62, Tryz.ntmps62
  go_wp2_with fail
  clear hmk
  have HF0 := Lib.hid (filled_new w)
  generalize w.alloc (.cells (zeros 128) 5) = w1 at *
  refine (letters_any w.heap.size 0 128 w1 (by omega)).mono ?_
  rintro e w2 ⟨rfl, rfl⟩
  obtain ⟨w2, hrun, hF1⟩ := run_fill_string 23 9 3 byT.slice [80, 68] 0 128 2 ⟨#[80, 68]⟩ rfl rfl HF0.out (by rw [fill0_length]; decide)
  have HF1 : Hid (Filled w w2 fill1) := hF1
  clear hF1 HF0
  go_wp2_with fail
  clear hrun
  refine (gen_any w.heap.size 0 128 w2 (by omega)).mono ?_
  rintro e w3 ⟨rfl, rfl⟩
  go_wp2_with fail
  refine (putNumber_any w w2 fill1 2 8 126 g HF1.out (by rw [fill1_length]; omega) (by omega) hg).mono ?_
  rintro e w3 ⟨rfl, hF2⟩
  have HF2 : Hid (Filled w w3 (fill2 g)) := hF2
  clear hF2 HF1
  go_wp2_with fail
  refine (size_any w.heap.size 0 128 w3 (by omega)).mono ?_
  rintro e w4 ⟨rfl, rfl⟩
  have hw64 := wrap_u64_in (l.length : Int) (by omega) (by omega)
  go_wp2_with fail
  refine (putNumber_any w w3 (fill2 g) 10 1 118 l.length HF2.out (by rw [fill2_length]; omega) (by omega) (by omega)).mono ?_
  rintro e w4 ⟨rfl, hF3⟩
  have HF3 : Hid (Filled w w4 (fill3 g l)) := hF3
  clear hF3 HF2 hw64
  have hbody := body_any w.heap.size 0 128 (fill3 g l) w4 (HF3.out.sec (fill3_length g l) (fill_small g hl HV.out.small).1) (by rw [fill_size g hl]; exact hl)
  rw [fill_size g hl] at hbody
  have HBODY := Lib.hid hbody; clear hbody
  go_wp2_with fail
  refine HBODY.out.mono ?_
  rintro e w5 ⟨rfl, rfl⟩
  obtain ⟨w5, hrun, hF4⟩ := run_fill 23 23 3 byT.slice 11 117 l.length (.slice p l.length cap) rfl HF3.out (HV.out.below HF3.out.2) (by rw [fill3_length]; omega)
  have HF4 : Hid (Filled w w5 (fill4 g l)) := hF4
  clear hF4 HF3 HBODY
  go_wp2_with fail
  clear hrun
  refine (sumPart_any w.heap.size 0 128 w5 (by omega)).mono ?_
  rintro e w6 ⟨rfl, rfl⟩
  have hsec := HF4.out.sec (fill4_length g hl) (fill_small g hl HV.out.small).2
  have hah := ahead_any w.heap.size 0 128 (fill4 g l) w5 hsec.2 hsec.1
  rw [fill_head g hl] at hah
  have HAH := Lib.hid hah
  have HCS : Hid (Crc.sum (slotHead g l) < 18446744073709551616) := by
    have := Crc.sum_lt _ (slotHead_small (g := g) hl HV.out.small)
    unfold Hid; omega
  clear hsec hah
  go_wp2_with fail
  refine HAH.out.mono ?_
  rintro e w6 ⟨rfl, hb6⟩
  have hF6 : Filled w w6 (fill4 g l) := ⟨(hb6.block _ (Array.getElem?_eq_some_iff.1 HF4.out.1).1).trans HF4.out.1, HF4.out.2.trans (hb6.mono (by have := (Array.getElem?_eq_some_iff.1 HF4.out.1).1; omega))⟩
  have HF6 := Lib.hid hF6
  clear hF6 hb6 HAH HF4
  go_wp2_with fail
  refine (putNumber_any w w6 (fill4 g l) 124 4 4 _ HF6.out (by rw [fill4_length g hl]; omega) (by omega) HCS.out).mono ?_
  rintro e w7 ⟨rfl, hF7⟩
  have hF8 : Filled w w7 (slotOf g l) := by rw [← fill_five g hl]; exact hF7
  have HF8 := Lib.hid hF8
  clear hF7 hF8 HF6
  go_wp2
  go_ret2
  exact ⟨rfl, HF8.out⟩
end Go.Proofs.YtldkeelgnfegeaaGreat.Sl

/- slot: a slot is taken. -/
namespace Go.Proofs.YtldkeelgnfegeaaGreat.Sl
open Go Go.RowKit Go.By

/-- What Take tells. -/
def Taken (w0 : World) (l : List Nat) (e : Ending) (w' : World) : Prop :=
  ∃ p c, e = .returned (.tuple #[.int .u64 (stGen l : Nat), .slice p (stBody l).length c, .int .i64 (stErr l : Nat)]) ∧ Bytes w' (.slice p (stBody l).length c) (stBody l) ∧ Below w0.heap.size w0 w'
theorem taken_no {w0 w' : World} {l : List Nat} (h : isSlot l = false) (hb : Below w0.heap.size w0 w') : Taken w0 l (.returned (.tuple #[.int .u64 0, .slice none 0 0, .int .i64 2])) w' := by
  obtain ⟨e1, e2, e3⟩ := st_none h
  refine ⟨none, 0, ?_, ?_, hb⟩
  · rw [e1, e2, e3]; rfl
  · rw [e3]; exact Bytes.nil _
theorem taken_yes {w0 w' : World} {l : List Nat} {v : Value} (h : isSlot l = true) (hs : ∀ c ∈ l, c < 256) (hl : l.length = 128) (hb : Below w0.heap.size w0 w') (ho : w'.ownsRow w0.heap.size 5 1 v (slotBody l).length (cellsOf (slotBody l))) : Taken w0 l (.returned (.tuple #[.int .u64 (slotGen l : Nat), v, .int .i64 0])) w' := by
  obtain ⟨e1, e2, e3⟩ := st_some h
  obtain ⟨p, c, rfl⟩ := shape_of ho
  refine ⟨p, c, ?_, ?_, hb⟩
  · rw [e1, e2, e3]; rfl
  · rw [e3]; exact Bytes.of_owns ho (pc_small hs) (by simp only [slotBody, pc, List.length_take, List.length_drop]; unfold maxLen; omega)

theorem fidx (f1 f2 f3 f4 f5 : FuncId) (w : World) :
    (Instr.index 143 (.agg #[.func (.func f1) #[] #[], .func (.func f2) #[] #[], .func (.func f3) #[] #[], .func (.func f4) #[] #[], .func (.func f5) #[] #[]]) (.int .i64 0)).run Tryz.prog w = .ok (.func (.func f1) #[] #[]) w ∧
    (Instr.index 143 (.agg #[.func (.func f1) #[] #[], .func (.func f2) #[] #[], .func (.func f3) #[] #[], .func (.func f4) #[] #[], .func (.func f5) #[] #[]]) (.int .i64 1)).run Tryz.prog w = .ok (.func (.func f2) #[] #[]) w ∧
    (Instr.index 143 (.agg #[.func (.func f1) #[] #[], .func (.func f2) #[] #[], .func (.func f3) #[] #[], .func (.func f4) #[] #[], .func (.func f5) #[] #[]]) (.int .i64 2)).run Tryz.prog w = .ok (.func (.func f3) #[] #[]) w ∧
    (Instr.index 143 (.agg #[.func (.func f1) #[] #[], .func (.func f2) #[] #[], .func (.func f3) #[] #[], .func (.func f4) #[] #[], .func (.func f5) #[] #[]]) (.int .i64 3)).run Tryz.prog w = .ok (.func (.func f4) #[] #[]) w ∧
    (Instr.index 143 (.agg #[.func (.func f1) #[] #[], .func (.func f2) #[] #[], .func (.func f3) #[] #[], .func (.func f4) #[] #[], .func (.func f5) #[] #[]]) (.int .i64 4)).run Tryz.prog w = .ok (.func (.func f5) #[] #[]) w := by
  refine ⟨?_, ?_, ?_, ?_, ?_⟩ <;> kernel_rfl

/-- How far it has come. -/
inductive SlotRel (w0 : World) (l : List Nat) : Value → World → Prop where
  | r0 {w : World} : Below w0.heap.size w0 w → SlotRel w0 l (.int .i64 0) w
  | r1 {w : World} : spOk l 0 = true → Below w0.heap.size w0 w → SlotRel w0 l (.int .i64 1) w
  | r2 {w : World} : spOk l 1 = true → Below w0.heap.size w0 w → SlotRel w0 l (.int .i64 2) w
  | r3 {w : World} : spOk l 1 = true → spOk l 2 = true → Below w0.heap.size w0 w → SlotRel w0 l (.int .i64 3) w
  | r4 {w : World} : spOk l 1 = true → spOk l 2 = true → spOk l 3 = true → Below w0.heap.size w0 w → SlotRel w0 l (.int .i64 4) w
  | r5 {w : World} : isSlot l = true → Below w0.heap.size w0 w → SlotRel w0 l (.int .i64 5) w

set_option maxRecDepth 100000 in
theorem take_short (p : Option Addr) (cap : Nat) (l : List Nat) (w : World) (hl : l.length ≤ 17592186044416) (h : l.length ≠ 128) :
    Calls Tryz.prog 67 #[.slice p l.length cap] w fun e w' => Taken w l e w' := by
  have HN := Lib.hid (isSlot_long h)
  have hw := fun w => isWhole_any p l.length cap w hl
  rw [decide_eq_false h] at hw
  have HW := Lib.hid hw
  clear hw h hl
  obtain ⟨h0, -⟩ := fidx 85 86 87 88 89 w
  go_enter Tryz.func67, Tryz.ntmps67
  go_wp2
  go_loopw [9] (fun i wr => i = .int .i64 0 ∧ wr = w) (fun _ _ => 0)
  case atStart => exact ⟨rfl, rfl⟩
  case round =>
    obtain ⟨rfl, rfl⟩ := hrel
    go_wp2_with fail
    refine (HW.out _).mono ?_
    rintro e w1 ⟨rfl, rfl⟩
    go_wp2
    exact bodyPost_ret (v := .tuple #[.int .u64 0, .slice none 0 0, .int .i64 2]) (by simp [results, go_sem]) rfl (taken_no HN.out (Below.refl _ _))

set_option maxRecDepth 100000 in
set_option maxHeartbeats 2000000 in
theorem take_sec (b off cap : Nat) (l : List Nat) (w : World) (h : Sec w b off cap l) :
    Calls Tryz.prog 67 #[.slice (some ⟨b, off, none⟩) 128 cap] w fun e w' => Taken w l e w' := by
  have HSEC := Lib.hid (fun w' (hb : Below w.heap.size w w') => h.below hb)
  have HLEN : Hid (l.length = 128) := h.2
  have HSM : Hid (∀ c ∈ l, c < 256) := h.1.small
  have hcap := h.cap
  clear h
  go_enter Tryz.func67, Tryz.ntmps67
  go_wp2
  go_loopw [9] (fun i wr => SlotRel w l i wr) (fun i _ => 5 - (intOf i).toNat)
  case atStart => exact .r0 (Below.refl _ _)
  case round =>
    obtain ⟨hi0, hi1, hi2, hi3, hi4⟩ := fidx 85 86 87 88 89 wr
    cases hrel with
    | r0 hb =>
      have hw := isWhole_any (some ⟨b, off, none⟩) 128 cap wr (by omega)
      have HW := Lib.hid hw
      have HB := Lib.hid hb
      have HP : Hid (spOk l 0 = true) := decide_eq_true HLEN.out
      clear hw hb hi1 hi2 hi3 hi4
      go_wp2_with fail
      refine HW.out.mono ?_
      rintro e w1 ⟨rfl, rfl⟩
      go_wp2
      go_roundw
      case rel => exact .r1 HP.out HB.out
      case measure => decide
    | r1 hp hb =>
      have HW := Lib.hid (hasLetters_any b off cap l wr (HSEC.out wr hb))
      have HB := Lib.hid hb
      clear hb hi0 hi2 hi3 hi4 hp
      cases ho : spOk l 1
      · have HN : Hid (isSlot l = false) := by unfold Hid isSlot; rw [ho]; simp
        rw [ho] at HW
        clear ho
        go_wp2_with fail
        refine HW.out.mono ?_
        rintro e w1 ⟨rfl, rfl⟩
        go_wp2
        exact bodyPost_ret (v := .tuple #[.int .u64 0, .slice none 0 0, .int .i64 2]) (by simp [results, go_sem]) rfl (taken_no HN.out HB.out)
      · have HP := Lib.hid ho
        rw [ho] at HW
        clear ho
        go_wp2_with fail
        refine HW.out.mono ?_
        rintro e w1 ⟨rfl, rfl⟩
        go_wp2
        go_roundw
        case rel => exact .r2 HP.out HB.out
        case measure => decide
    | r2 hp hb =>
      have HW := Lib.hid (hasSize_any b off cap l wr (HSEC.out wr hb))
      have HB := Lib.hid hb
      have HP1 := Lib.hid hp
      clear hb hi0 hi1 hi3 hi4 hp
      cases ho : spOk l 2
      · have HN : Hid (isSlot l = false) := by unfold Hid isSlot; rw [ho]; simp
        rw [ho] at HW
        clear ho
        go_wp2_with fail
        refine HW.out.mono ?_
        rintro e w1 ⟨rfl, rfl⟩
        go_wp2
        exact bodyPost_ret (v := .tuple #[.int .u64 0, .slice none 0 0, .int .i64 2]) (by simp [results, go_sem]) rfl (taken_no HN.out HB.out)
      · have HP := Lib.hid ho
        rw [ho] at HW
        clear ho
        go_wp2_with fail
        refine HW.out.mono ?_
        rintro e w1 ⟨rfl, rfl⟩
        go_wp2
        go_roundw
        case rel => exact .r3 HP1.out HP.out HB.out
        case measure => decide
    | r3 hp1 hp2 hb =>
      have HW := Lib.hid (hasNoughts_any b off cap l wr (HSEC.out wr hb) (of_decide_eq_true hp2))
      have HB := Lib.hid hb
      have HP1 := Lib.hid hp1
      have HP2 := Lib.hid hp2
      clear hb hi0 hi1 hi2 hi4 hp1 hp2
      cases ho : spOk l 3
      · have HN : Hid (isSlot l = false) := by unfold Hid isSlot; rw [ho]; simp
        rw [ho] at HW
        clear ho
        go_wp2_with fail
        refine HW.out.mono ?_
        rintro e w1 ⟨rfl, rfl⟩
        go_wp2
        exact bodyPost_ret (v := .tuple #[.int .u64 0, .slice none 0 0, .int .i64 2]) (by simp [results, go_sem]) rfl (taken_no HN.out HB.out)
      · have HP := Lib.hid ho
        rw [ho] at HW
        clear ho
        go_wp2_with fail
        refine HW.out.mono ?_
        rintro e w1 ⟨rfl, rfl⟩
        go_wp2
        go_roundw
        case rel => exact .r4 HP1.out HP2.out HP.out HB.out
        case measure => decide
    | r4 hp1 hp2 hp3 hb =>
      have HW := Lib.hid (hasSum_any b off cap l wr (HSEC.out wr hb))
      have HB := Lib.hid hb
      have HP : Hid (isSlot l = spOk l 4) := by
        unfold Hid isSlot
        rw [hp1, hp2, hp3, show spOk l 0 = true from decide_eq_true HLEN.out]; simp
      clear hb hi0 hi1 hi2 hi3 hp1 hp2 hp3
      cases ho : spOk l 4
      · have HN : Hid (isSlot l = false) := HP.out.trans ho
        rw [ho] at HW
        clear ho
        go_wp2_with fail
        refine HW.out.mono ?_
        rintro e w1 ⟨rfl, hb1⟩
        have HB1 : Hid (Below w.heap.size w w1) := HB.out.trans (hb1.mono HB.out.size)
        clear hb1
        go_wp2
        exact bodyPost_ret (v := .tuple #[.int .u64 0, .slice none 0 0, .int .i64 2]) (by simp [results, go_sem]) rfl (taken_no HN.out HB1.out)
      · have HY : Hid (isSlot l = true) := HP.out.trans ho
        rw [ho] at HW
        clear ho
        go_wp2_with fail
        refine HW.out.mono ?_
        rintro e w1 ⟨rfl, hb1⟩
        have HB1 : Hid (Below w.heap.size w w1) := HB.out.trans (hb1.mono HB.out.size)
        clear hb1
        go_wp2
        go_roundw
        case rel => exact .r5 HY.out HB1.out
        case measure => decide
    | r5 hy hb =>
      clear hi0 hi1 hi2 hi3 hi4
      have HSC := Lib.hid (HSEC.out wr hb)
      have HB := Lib.hid hb
      have HY := Lib.hid hy
      have h2 : slotSize l ≤ 113 := by
        simp only [isSlot, Bool.and_eq_true] at hy
        exact of_decide_eq_true hy.2.2.1
      have H2 := Lib.hid h2
      clear hy hb h2
      go_wp2_with fail
      refine (gen_any b off cap wr hcap).mono ?_
      rintro e w1 ⟨rfl, rfl⟩
      have hn := number_any _ _ wr (HSC.out.piece 2 8 (cap - 2) (by omega) (by omega)) (by rw [pc_length (by rw [HLEN.out]; omega)]; omega)
      have HN := Lib.hid hn; clear hn
      go_wp2_with fail
      refine HN.out.mono ?_
      rintro e w1 ⟨rfl, rfl⟩
      go_wp2_with fail
      refine (body_any b off cap l wr HSC.out H2.out).mono ?_
      rintro e w1 ⟨rfl, rfl⟩
      have hbp : Bytes wr (.slice (some ⟨b, off + 11, none⟩) (slotSize l) (cap - 11)) (slotBody l) := HSC.out.piece 11 (slotSize l) (cap - 11) (by have := H2.out; omega) (by have := H2.out; omega)
      have HC := Lib.hid (clone_any _ _ wr hbp (by rw [slotBody, pc_length (by rw [HLEN.out]; have := H2.out; omega)]; have := H2.out; omega))
      clear hbp
      go_wp2_with fail
      refine HC.out.mono ?_
      rintro e w2 ⟨v2, rfl, ho2, hb2⟩
      have hT : Taken w l (.returned (.tuple #[.int .u64 (slotGen l : Nat), v2, .int .i64 0])) w2 := by
        refine taken_yes HY.out HSM.out HLEN.out (HB.out.trans (hb2.mono HB.out.size)) ⟨ho2.1, ?_⟩
        rcases ho2.2 with h | ⟨g, c, cur, h1, h2, h3⟩
        · exact .inl h
        · exact .inr ⟨g, c, cur, h1, by have := HB.out.size; omega, h3⟩
      have HT := Lib.hid hT
      have HG : Hid (slotGen l = numOf (pc l 2 8)) := rfl
      clear hT ho2 hb2
      go_wp2
      exact bodyPost_ret (v := .tuple #[.int .u64 (slotGen l : Nat), v2, .int .i64 0]) (by rw [HG.out]; simp [results, go_sem]) rfl HT.out

/-- What Take tells, whatever it is asked. -/
theorem take_all (v : Value) (l : List Nat) (w : World) (hv : Bytes w v l) (hl : l.length ≤ 17592186044416) :
    Calls Tryz.prog 67 #[v] w fun e w' => Taken w l e w' := by
  obtain ⟨p, cap, rfl, hs⟩ := hv.any
  by_cases h : l.length = 128
  · obtain ⟨b, off, rfl, _⟩ := hs 0 (by omega)
    rw [h]
    exact take_sec b off cap l w ⟨by rw [← h]; exact hv, h⟩
  · exact take_short p cap l w hl h
theorem put_all (g : Nat) (v : Value) (l : List Nat) (w : World) (hg : g < 18446744073709551616) (hv : Bytes w v l) :
    Calls Tryz.prog 62 #[.int .u64 g, v] w fun e w' => ∃ p c, e = .returned (.tuple #[.slice p (spBytes g l).length c, .int .i64 (spErr l : Nat)]) ∧ Bytes w' (.slice p (spBytes g l).length c) (spBytes g l) ∧ Below w.heap.size w w' := by
  by_cases hl : l.length ≤ 113
  · refine (put_any g v l w hg hv hl).mono ?_
    rintro e w' ⟨rfl, hF⟩
    have e1 : spBytes g l = slotOf g l := if_pos hl
    have e2 : spErr l = 0 := if_pos hl
    have h3 := hF.sec (slotOf_length hl) (slotOf_small hl hv.small)
    rw [e1, e2, slotOf_length hl]
    exact ⟨_, _, rfl, h3.1, hF.2⟩
  · refine (put_long g v l w hv (by omega)).mono ?_
    rintro e w' ⟨rfl, rfl⟩
    have e1 : spBytes g l = [] := if_neg hl
    have e2 : spErr l = 4 := if_neg hl
    rw [e1, e2]
    exact ⟨none, 0, rfl, Bytes.nil _, Below.refl _ _⟩
end Go.Proofs.YtldkeelgnfegeaaGreat.Sl

/- slot: which of two is better. -/
namespace Go.Proofs.YtldkeelgnfegeaaGreat.Sl
open Go Go.RowKit Go.By

/-- What Better tells. -/
def Bettered (w0 : World) (a b : List Nat) (e : Ending) (w' : World) : Prop :=
  ∃ p c, e = .returned (.tuple #[.int .i64 (btWhich a b : Nat), .int .u64 (btGen a b : Nat), .slice p (btBody a b).length c, .int .i64 (btErr a b : Nat)]) ∧ Bytes w' (.slice p (btBody a b).length c) (btBody a b) ∧ Below w0.heap.size w0 w'
theorem bt_yes {a b : List Nat} (h : btWins a b = true) : btWhich a b = 1 ∧ btGen a b = stGen b ∧ btBody a b = stBody b ∧ btErr a b = 0 := by
  unfold btWhich btGen btBody btErr
  rw [h]; exact ⟨rfl, rfl, rfl, rfl⟩
theorem bt_no {a b : List Nat} (h : btWins a b = false) : btWhich a b = 0 ∧ btGen a b = stGen a ∧ btBody a b = stBody a ∧ btErr a b = stErr a := by
  unfold btWhich btGen btBody btErr
  rw [h]; exact ⟨rfl, rfl, rfl, rfl⟩
theorem stErr_ok (l : List Nat) : (((stErr l : Nat) : Int) == 0) = isSlot l := by
  unfold stErr
  cases isSlot l <;> rfl
theorem better_yes {w0 w' : World} {a b : List Nat} {p : Option Addr} {c : Nat} (h : btWins a b = true) (hy : Bytes w' (.slice p (stBody b).length c) (stBody b)) (hb : Below w0.heap.size w0 w') : Bettered w0 a b (.returned (.tuple #[.int .i64 1, .int .u64 (stGen b : Nat), .slice p (stBody b).length c, .int .i64 0])) w' := by
  obtain ⟨e1, e2, e3, e4⟩ := bt_yes h
  refine ⟨p, c, ?_, ?_, hb⟩
  · rw [e1, e2, e3, e4]; rfl
  · rw [e3]; exact hy
theorem better_no {w0 w' : World} {a b : List Nat} {p : Option Addr} {c : Nat} (h : btWins a b = false) (hy : Bytes w' (.slice p (stBody a).length c) (stBody a)) (hb : Below w0.heap.size w0 w') : Bettered w0 a b (.returned (.tuple #[.int .i64 0, .int .u64 (stGen a : Nat), .slice p (stBody a).length c, .int .i64 (stErr a : Nat)])) w' := by
  obtain ⟨e1, e2, e3, e4⟩ := bt_no h
  refine ⟨p, c, ?_, ?_, hb⟩
  · rw [e1, e2, e3, e4]; rfl
  · rw [e3]; exact hy

set_option maxRecDepth 100000 in
theorem better_all (u v : Value) (a b : List Nat) (w : World) (hu : Bytes w u a) (hv : Bytes w v b) (ha : a.length ≤ 17592186044416) (hb : b.length ≤ 17592186044416) :
    Calls Tryz.prog 42 #[u, v] w fun e w' => Bettered w a b e w' := by
  have HA := Lib.hid (take_all u a w hu ha)
  have HV := Lib.hid hv
  have HBL := Lib.hid hb
  obtain ⟨p, cap, hu'⟩ : ∃ p cap, u = .slice p a.length cap := let ⟨p, cap, h, _⟩ := hu.any; ⟨p, cap, h⟩
  obtain ⟨q, cup, hv'⟩ : ∃ p cap, v = .slice p b.length cap := let ⟨p, cap, h, _⟩ := hv.any; ⟨p, cap, h⟩
  subst hu' hv'
  clear hu hv ha hb
  have hg : isSlot a = true → stGen a = slotGen a := fun h => (st_some h).2.1
  have hg2 : isSlot b = true → stGen b = slotGen b := fun h => (st_some h).2.1
  have hE0 : isSlot a = true → stErr a = 0 := fun h => (st_some h).1
  have hE2 : isSlot a = false → stErr a = 2 := fun h => (st_none h).1
  have hF0 : isSlot b = true → stErr b = 0 := fun h => (st_some h).1
  have hF2 : isSlot b = false → stErr b = 2 := fun h => (st_none h).1
  cases hib : isSlot b
  · have HW : Hid (btWins a b = false) := by unfold Hid btWins; rw [hib]; rfl
    have f2 := hF2 hib
    clear hg hg2 hib hE0 hE2 hF0 hF2
    go_enter Tryz.func42, Tryz.ntmps42
    go_wp2_with fail
    refine HA.out.mono ?_
    rintro e w1 ⟨p1, c1, rfl, hy1, hb1⟩
    have HY1 := Lib.hid hy1
    have HB1 := Lib.hid hb1
    have HB2 := Lib.hid (take_all _ b w1 (HV.out.below hb1) HBL.out)
    clear hy1 hb1 HA
    go_wp2_with fail
    refine HB2.out.mono ?_
    rintro e w2 ⟨p2, c2, rfl, hy2, hb2⟩
    have HT := Lib.hid (better_no HW.out (HY1.out.below hb2) (HB1.out.trans (hb2.mono HB1.out.size)))
    clear hy2 hb2
    go_wp2
    exact bodyPost_ret (v := .tuple #[.int .i64 0, .int .u64 (stGen a : Nat), .slice p1 (stBody a).length c1, .int .i64 (stErr a : Nat)]) (by simp [results, go_sem]) rfl HT.out
  · have f0 := hF0 hib
    cases hia : isSlot a
    · have HW : Hid (btWins a b = true) := by unfold Hid btWins; rw [hib, hia]; rfl
      have e2 := hE2 hia
      clear hg hg2 hib hia hE0 hE2 hF0 hF2
      go_enter Tryz.func42, Tryz.ntmps42
      go_wp2_with fail
      refine HA.out.mono ?_
      rintro e w1 ⟨p1, c1, rfl, hy1, hb1⟩
      have HB1 := Lib.hid hb1
      have HB2 := Lib.hid (take_all _ b w1 (HV.out.below hb1) HBL.out)
      clear hy1 hb1 HA
      go_wp2_with fail
      refine HB2.out.mono ?_
      rintro e w2 ⟨p2, c2, rfl, hy2, hb2⟩
      have HT := Lib.hid (better_yes HW.out hy2 (HB1.out.trans (hb2.mono HB1.out.size)))
      clear hy2 hb2
      go_wp2
      exact bodyPost_ret (v := .tuple #[.int .i64 1, .int .u64 (stGen b : Nat), .slice p2 (stBody b).length c2, .int .i64 0]) (by simp [results, go_sem]) rfl HT.out
    · have e0 := hE0 hia
      have hga := hg hia
      have hgb := hg2 hib
      by_cases hlt : stGen a < stGen b
      · have HW : Hid (btWins a b = true) := by unfold Hid btWins; rw [hib, hia, ← hga, ← hgb, decide_eq_true hlt]; rfl
        have hlt' : ((stGen a : Nat) : Int) < ((stGen b : Nat) : Int) := by omega
        clear hg hg2 hib hia hE0 hE2 hF0 hF2 hga hgb hlt
        go_enter Tryz.func42, Tryz.ntmps42
        go_wp2_with fail
        refine HA.out.mono ?_
        rintro e w1 ⟨p1, c1, rfl, hy1, hb1⟩
        have HB1 := Lib.hid hb1
        have HB2 := Lib.hid (take_all _ b w1 (HV.out.below hb1) HBL.out)
        clear hy1 hb1 HA
        go_wp2_with fail
        refine HB2.out.mono ?_
        rintro e w2 ⟨p2, c2, rfl, hy2, hb2⟩
        have HT := Lib.hid (better_yes HW.out hy2 (HB1.out.trans (hb2.mono HB1.out.size)))
        clear hy2 hb2
        go_wp2
        exact bodyPost_ret (v := .tuple #[.int .i64 1, .int .u64 (stGen b : Nat), .slice p2 (stBody b).length c2, .int .i64 0]) (by simp [results, go_sem]) rfl HT.out
      · have HW : Hid (btWins a b = false) := by unfold Hid btWins; rw [hib, hia, ← hga, ← hgb, decide_eq_false hlt]; rfl
        have hlt' : ¬ ((stGen a : Nat) : Int) < ((stGen b : Nat) : Int) := by omega
        have hge : ((stGen b : Nat) : Int) ≤ ((stGen a : Nat) : Int) := by omega
        clear hg hg2 hib hia hE0 hE2 hF0 hF2 hga hgb hlt
        go_enter Tryz.func42, Tryz.ntmps42
        go_wp2_with fail
        refine HA.out.mono ?_
        rintro e w1 ⟨p1, c1, rfl, hy1, hb1⟩
        have HY1 := Lib.hid hy1
        have HB1 := Lib.hid hb1
        have HB2 := Lib.hid (take_all _ b w1 (HV.out.below hb1) HBL.out)
        clear hy1 hb1 HA
        go_wp2_with fail
        refine HB2.out.mono ?_
        rintro e w2 ⟨p2, c2, rfl, hy2, hb2⟩
        have HT := Lib.hid (better_no HW.out (HY1.out.below hb2) (HB1.out.trans (hb2.mono HB1.out.size)))
        rw [e0] at HT
        clear hy2 hb2
        go_wp2
        exact bodyPost_ret (v := .tuple #[.int .i64 0, .int .u64 (stGen a : Nat), .slice p1 (stBody a).length c1, .int .i64 0]) (by simp [results, go_sem]) rfl HT.out
end Go.Proofs.YtldkeelgnfegeaaGreat.Sl
