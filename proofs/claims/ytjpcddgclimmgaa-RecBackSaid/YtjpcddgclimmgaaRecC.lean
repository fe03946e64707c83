/- rec: the reader's numbers and parts. -/
import Derived.Test.YtjpcddgclimmgaaRecB
namespace Go.Proofs.Ytjpcddgclimmgaa
open Go Go.RowKit Go.By

set_option maxRecDepth 100000 in
theorem number_no (B b : Nat) (w0 w : World) (sv : Value) (l : List Nat) (i size kind : Nat) (bv : Value) (h : Rd B b w0 w sv i size kind bv) (hsv : Bytes w0 sv l) (hi : i ≤ l.length) (hlt : l.length < i + 4) :
    Calls Try.prog 25 #[.pointer (some ⟨b, 0, none⟩)] w fun e w' => e = .returned (.tuple #[.int .u32 0, .bool false]) ∧ Rd B b w0 w' sv i size kind bv := by
  have hc := next_no B b w0 w sv l i size kind 4 bv h hsv hi (by omega) hlt
  have HC := Lib.hid hc
  clear hc h hsv hi hlt
  go_enter Try.func25, Try.ntmps25
  go_wp2_with fail
  refine HC.out.mono ?_
  rintro e w1 ⟨rfl, hr⟩
  have HR := Lib.hid hr; clear hr
  go_wp2
  go_loop [6, 16] (fun x i => x = .int .u32 0 ∧ i = .int .i64 0) (fun _ _ => 0)
  case atStart => exact ⟨rfl, rfl⟩
  case round =>
    obtain ⟨rfl, rfl⟩ := hrel
    go_wp2
    go_ret2
    exact ⟨rfl, HR.out⟩

theorem or_byte (n c : Nat) (hn : n < 16777216) (hc : c < 256) : bits .or .u32 ((n * 256 : Nat) : Int) (c : Int) = ((n * 256 + c : Nat) : Int) := by
  have h := Nat.two_pow_add_eq_or_of_lt (i := 8) (b := c) hc n
  rw [(bits_nat .u32 32 (by decide) (fun n h0 h1 => by rw [IntKind.wrap_u32]; omega) (n * 256) c (by omega) (by omega)).2]
  have h3 : n * 256 ||| c = n * 256 + c := by rw [show n * 256 = 2 ^ 8 * n by omega, ← h]
  rw [h3]

set_option maxRecDepth 100000 in
theorem number_yes (B b : Nat) (w0 w : World) (sv : Value) (l : List Nat) (i size kind : Nat) (bv : Value) (h : Rd B b w0 w sv i size kind bv) (hsv : Bytes w0 sv l) (hB : B ≤ b) (hw : w0.heap.size ≤ B) (hlt : i + 4 ≤ l.length) :
    Calls Try.prog 25 #[.pointer (some ⟨b, 0, none⟩)] w fun e w' => e = .returned (.tuple #[.int .u32 (numOf (pc l i 4) : Nat), .bool true]) ∧ Rd B b w0 w' sv (i + 4) size kind bv := by
  have hc := next_yes B b w0 w sv l i size kind 4 bv h hsv hB hlt
  have HC := Lib.hid hc
  have hps : ∀ c ∈ pc l i 4, c < 256 := pc_small hsv.small
  have hpl : (pc l i 4).length = 4 := pc_length hlt
  have HW := Lib.hid hw
  clear hc h hsv hlt hB hw
  generalize pc l i 4 = m at *
  have HM := Lib.hid hps; have HL := Lib.hid hpl
  clear hps hpl
  go_enter Try.func25, Try.ntmps25
  go_wp2_with fail
  refine HC.out.mono ?_
  rintro e w1 ⟨q, c, rfl, hbq, hr⟩
  have HQ := Lib.hid (hbq.below (hr.2.mono HW.out)); have HR := Lib.hid hr; clear hr hbq HC
  go_wp2
  go_loop [6, 16] (fun x i => ∃ k : Nat, k ≤ 4 ∧ i = .int .i64 k ∧ x = .int .u32 (numOf (m.take k) : Nat)) (fun _ i => 4 - (intOf i).toNat)
  case atStart => exact ⟨0, by omega, rfl, rfl⟩
  case round =>
    obtain ⟨k, hk, rfl, rfl⟩ := hrel
    by_cases hk4 : k < 4
    · have hmk : k < m.length := by rw [HL.out]; exact hk4
      obtain ⟨b1, o1, rfl, hcell⟩ := HQ.out.spot k hmk
      have hn : numOf (m.take k) < 16777216 := by
        have h1 := numOf_lt (m.take k) (fun c hc => HM.out c (List.mem_of_mem_take hc))
        have h2 : 256 ^ (m.take k).length ≤ 256 ^ 3 := Nat.pow_le_pow_right (by omega) (by rw [List.length_take]; omega)
        omega
      have hcl : atB m k < 256 := HM.out _ (by rw [atB_of hmk]; exact List.getElem_mem hmk)
      have hs : numOf (m.take (k + 1)) = numOf (m.take k) * 256 + atB m k := by
        rw [List.take_succ_eq_append_getElem hmk, numOf_snoc, atB_of hmk]
      have HS := Lib.hid hs; clear hs
      have e1 := or_byte (numOf (m.take k)) (atB m k) hn hcl
      have e2 : IntKind.u32.wrap ((numOf (m.take k) : Int) * 256) = ((numOf (m.take k) * 256 : Nat) : Int) := by rw [IntKind.wrap_u32]; omega
      generalize numOf (m.take k) * 256 = z at *
      generalize numOf (m.take k) = x at *
      generalize atB m k = y at *
      generalize hzy : z + y = zy at *
      clear hmk hn hzy
      go_wp2
      go_round
      case rel => exact ⟨k + 1, by omega, by go_num, by rw [HS.out]⟩
      case measure => simp [intOf]; omega
    · obtain rfl : k = 4 := by omega
      have ht : m.take 4 = m := List.take_of_length_le (by rw [HL.out]; omega)
      rw [ht]
      clear ht
      go_wp2
      go_ret2
      exact ⟨rfl, HR.out⟩

/-- What a part that is not there tells. -/
def PartNo (B : Nat) (w0 : World) (e : Ending) (w' : World) : Prop := e = .returned (.bool false) ∧ Below B w0 w'

set_option maxRecDepth 100000 in
theorem size_no (B b : Nat) (w0 w : World) (sv : Value) (l : List Nat) (bv : Value) (h : Rd B b w0 w sv 0 0 0 bv) (hsv : Bytes w0 sv l) (hB : B ≤ b) (hw : w0.heap.size ≤ B) (hp : partOk l 0 = false) :
    Calls Try.prog 17 #[.pointer (some ⟨b, 0, none⟩)] w fun e w' => PartNo B w0 e w' := by
  by_cases h4 : 4 ≤ l.length
  · have hc := number_yes B b w0 w sv l 0 0 0 bv h hsv hB hw (by omega)
    have hn : 4096 < (numOf (pc l 0 4) : Int) := by
      simp only [partOk, decide_eq_true h4, Bool.true_and, decide_eq_false_iff_not] at hp
      unfold bodyLen at hp
      omega
    have HC := Lib.hid hc
    clear hc h hsv hB hw hp h4
    generalize numOf (pc l 0 4) = x at *
    go_enter Try.func17, Try.ntmps17
    go_wp2_with fail
    refine HC.out.mono ?_
    rintro e w1 ⟨rfl, hr⟩
    have HR := Lib.hid hr; clear hr
    go_wp2
    go_ret
    exact ⟨rfl, HR.out.2⟩
  · have hc := number_no B b w0 w sv l 0 0 0 bv h hsv (by omega) (by omega)
    have HC := Lib.hid hc
    clear hc h hsv hB hw hp h4
    go_enter Try.func17, Try.ntmps17
    go_wp2_with fail
    refine HC.out.mono ?_
    rintro e w1 ⟨rfl, hr⟩
    have HR := Lib.hid hr; clear hr
    go_wp2
    go_ret
    exact ⟨rfl, HR.out.2⟩

set_option maxRecDepth 100000 in
theorem size_yes (B b : Nat) (w0 w : World) (sv : Value) (l : List Nat) (bv : Value) (h : Rd B b w0 w sv 0 0 0 bv) (hsv : Bytes w0 sv l) (hB : B ≤ b) (hw : w0.heap.size ≤ B) (hp : partOk l 0 = true) :
    Calls Try.prog 17 #[.pointer (some ⟨b, 0, none⟩)] w fun e w' => e = .returned (.bool true) ∧ Rd B b w0 w' sv 4 (bodyLen l) 0 bv := by
  simp only [partOk, Bool.and_eq_true, decide_eq_true_eq] at hp
  have hc := number_yes B b w0 w sv l 0 0 0 bv h hsv hB hw (by omega)
  have hn : (numOf (pc l 0 4) : Int) ≤ 4096 := by have := hp.2; unfold bodyLen at this; omega
  have HC := Lib.hid hc
  have HBB := Lib.hid hB
  clear hc h hsv hB hw hp
  unfold bodyLen
  generalize numOf (pc l 0 4) = x at *
  go_enter Try.func17, Try.ntmps17
  go_wp2_with fail
  refine HC.out.mono ?_
  rintro e w1 ⟨rfl, hr⟩
  have c2 := cells_of hr.1 2
  have f0 := free_of hr.1
  simp only [List.getElem?_toArray, List.getElem?_cons_zero, List.getElem?_cons_succ] at c2
  have HR := Lib.hid (hr.setSize HBB.out x); clear hr
  go_wp2
  go_ret
  exact ⟨rfl, HR.out⟩

set_option maxRecDepth 100000 in
theorem kind_no (B b : Nat) (w0 w : World) (sv : Value) (l : List Nat) (size : Nat) (bv : Value) (h : Rd B b w0 w sv 4 size 0 bv) (hsv : Bytes w0 sv l) (h4 : 4 ≤ l.length) (hp : partOk l 1 = false) :
    Calls Try.prog 18 #[.pointer (some ⟨b, 0, none⟩)] w fun e w' => PartNo B w0 e w' := by
  have hc := next_no B b w0 w sv l 4 size 0 1 bv h hsv h4 (by omega) (by simp only [partOk, decide_eq_false_iff_not] at hp; omega)
  have HC := Lib.hid hc
  clear hc h hsv hp h4
  go_enter Try.func18, Try.ntmps18
  go_wp2_with fail
  refine HC.out.mono ?_
  rintro e w1 ⟨rfl, hr⟩
  have HR := Lib.hid hr; clear hr
  go_wp2
  go_ret
  exact ⟨rfl, HR.out.2⟩

set_option maxRecDepth 100000 in
theorem kind_yes (B b : Nat) (w0 w : World) (sv : Value) (l : List Nat) (size : Nat) (bv : Value) (h : Rd B b w0 w sv 4 size 0 bv) (hsv : Bytes w0 sv l) (hB : B ≤ b) (hw : w0.heap.size ≤ B) (hp : partOk l 1 = true) :
    Calls Try.prog 18 #[.pointer (some ⟨b, 0, none⟩)] w fun e w' => e = .returned (.bool true) ∧ Rd B b w0 w' sv 5 size (atB l 4) bv := by
  simp only [partOk, decide_eq_true_eq] at hp
  have hc := next_yes B b w0 w sv l 4 size 0 1 bv h hsv hB (by omega)
  have ha : Hid (atB (pc l 4 1) 0 = atB l 4) := pc_at (by omega)
  have hpl : Hid ((pc l 4 1).length = 1) := pc_length (by omega)
  have HC := Lib.hid hc
  have HBB := Lib.hid hB
  have HW := Lib.hid hw
  clear hc h hsv hB hw hp
  generalize pc l 4 1 = m at *
  generalize atB l 4 = y at *
  go_enter Try.func18, Try.ntmps18
  go_wp2_with fail
  refine HC.out.mono ?_
  rintro e w1 ⟨q, c, rfl, hbq, hr⟩
  obtain ⟨b1, o1, rfl, hcell⟩ := (hbq.below (hr.2.mono HW.out)).spot 0 (by rw [hpl.out]; omega)
  rw [ha.out, Nat.add_zero] at hcell
  have c3 := cells_of hr.1 3
  have f0 := free_of hr.1
  simp only [List.getElem?_toArray, List.getElem?_cons_zero, List.getElem?_cons_succ] at c3
  have HR := Lib.hid (hr.setKind HBB.out y); clear hr hbq
  go_wp2
  go_ret
  exact ⟨rfl, HR.out⟩

set_option maxRecDepth 100000 in
theorem body_no (B b : Nat) (w0 w : World) (sv : Value) (l : List Nat) (kind : Nat) (bv : Value) (h : Rd B b w0 w sv 5 (bodyLen l) kind bv) (hsv : Bytes w0 sv l) (hB : B ≤ b) (h5 : 5 ≤ l.length) (hn : bodyLen l ≤ 4096) (hp : partOk l 2 = false) :
    Calls Try.prog 19 #[.pointer (some ⟨b, 0, none⟩)] w fun e w' => PartNo B w0 e w' := by
  have hc := next_no B b w0 w sv l 5 (bodyLen l) kind (bodyLen l) bv h hsv h5 (by omega) (by simp only [partOk, decide_eq_false_iff_not] at hp; omega)
  have HC := Lib.hid hc
  have c2 := cells_of h.1 2
  have c4 := cells_of h.1 4
  simp only [List.getElem?_toArray, List.getElem?_cons_zero, List.getElem?_cons_succ] at c2 c4
  have HBB := Lib.hid hB
  clear hc h hsv hp h5 hn hB
  generalize bodyLen l = x at *
  go_enter Try.func19, Try.ntmps19
  go_wp2_with fail
  refine HC.out.mono ?_
  rintro e w1 ⟨rfl, hr⟩
  have f0 := free_of hr.1
  have d4 := cells_of hr.1 4
  simp only [List.getElem?_toArray, List.getElem?_cons_zero, List.getElem?_cons_succ] at d4
  have HR := Lib.hid (hr.setBody HBB.out (.slice none 0 0)); clear hr c2 c4
  go_wp2
  go_ret
  exact ⟨rfl, HR.out.2⟩

set_option maxRecDepth 100000 in
theorem body_yes (B b : Nat) (w0 w : World) (sv : Value) (l : List Nat) (kind : Nat) (bv : Value) (h : Rd B b w0 w sv 5 (bodyLen l) kind bv) (hsv : Bytes w0 sv l) (hB : B ≤ b) (_hn : bodyLen l ≤ 4096) (hp : partOk l 2 = true) :
    Calls Try.prog 19 #[.pointer (some ⟨b, 0, none⟩)] w fun e w' => e = .returned (.bool true) ∧ ∃ v, Bytes w0 v (pc l 5 (bodyLen l)) ∧ Rd B b w0 w' sv (5 + bodyLen l) (bodyLen l) kind v := by
  simp only [partOk, decide_eq_true_eq] at hp
  have hc := next_yes B b w0 w sv l 5 (bodyLen l) kind (bodyLen l) bv h hsv hB hp
  have HC := Lib.hid hc
  have c2 := cells_of h.1 2
  simp only [List.getElem?_toArray, List.getElem?_cons_zero, List.getElem?_cons_succ] at c2
  have HBB := Lib.hid hB
  clear hc h hsv hp hB
  generalize pc l 5 (bodyLen l) = m at *
  generalize bodyLen l = x at *
  go_enter Try.func19, Try.ntmps19
  go_wp2_with fail
  refine HC.out.mono ?_
  rintro e w1 ⟨q, c, rfl, hbq, hr⟩
  have f0 := free_of hr.1
  have d4 := cells_of hr.1 4
  simp only [List.getElem?_toArray, List.getElem?_cons_zero, List.getElem?_cons_succ] at d4
  have HR := Lib.hid (hr.setBody HBB.out (.slice q x c)); clear hr c2
  have HQ := Lib.hid hbq; clear hbq
  go_wp2
  go_ret
  exact ⟨rfl, _, HQ.out, HR.out⟩

/-- b[:n]. -/
theorem upto_run (p : Option Addr) (len cap n : Nat) (hn : n ≤ cap) (w : World) : (Instr.slice 22 (.slice p len cap) none (some (.int .i64 (n : Int))) none).run Try.prog w = .ok (.slice p n cap) w := by
  have hr := run_slice_h (P := Try.prog) w 22 p len cap (by kernel_rfl) .i64 (n : Int) (by omega) (by omega)
  have e2 : (n : Int).toNat = n := by omega
  simp only [bytT_size, Result.andThen, e2, sliced, Nat.zero_mul, Nat.sub_zero] at hr
  rw [hr]
  congr 2
  split
  · rfl
  · cases p with
    | none => rfl
    | some a => simp [Addr.add]

theorem upto_runI (p : Option Addr) (len cap n : Nat) (N : Int) (hN : N = n) (hn : n ≤ cap) (w : World) : (Instr.slice 22 (.slice p len cap) none (some (.int .i64 N)) none).run Try.prog w = .ok (.slice p n cap) w := by
  subst hN; exact upto_run p len cap n hn w

set_option maxRecDepth 100000 in
theorem sum_no (B b : Nat) (w0 w : World) (sv : Value) (l : List Nat) (kind : Nat) (bv : Value) (h : Rd B b w0 w sv (5 + bodyLen l) (bodyLen l) kind bv) (hsv : Bytes w0 sv l) (hB : B ≤ b) (hw : w0.heap.size ≤ B) (hl : 5 + bodyLen l ≤ l.length) (hp : partOk l 3 = false) :
    Calls Try.prog 20 #[.pointer (some ⟨b, 0, none⟩)] w fun e w' => PartNo B w0 e w' := by
  obtain ⟨p, cap, rfl, _⟩ := hsv.any
  have hm := hsv.room.2
  have hup := upto_run p l.length cap (5 + bodyLen l) (by omega)
  have hms := hsv.short
  unfold maxLen at hms
  by_cases h4 : 5 + bodyLen l + 4 ≤ l.length
  · have hne : ¬ numOf (pc l (5 + bodyLen l) 4) = Crc.sum (l.take (5 + bodyLen l)) := by
      intro he
      simp [partOk, he] at hp
      omega
    have HC := Lib.hid (fun w' h' => number_yes B b w0 w' (.slice p l.length cap) l (5 + bodyLen l) (bodyLen l) kind bv h' hsv hB hw h4)
    have HT := Lib.hid (fun w' (hb : Below B w0 w') => (hsv.upto hl).below (hb.mono hw))
    have c0 := cells_of h.1 0
    have c1 := cells_of h.1 1
    have f0 := free_of h.1
    simp only [List.getElem?_toArray, List.getElem?_cons_zero, List.getElem?_cons_succ] at c0 c1
    have H := Lib.hid h
    have HBB := Lib.hid hB
    have HW := Lib.hid hw
    clear h hsv hB hw hp h4
    generalize numOf (pc l (5 + bodyLen l) 4) = x at *
    generalize l.take (5 + bodyLen l) = m at *
    generalize bodyLen l = size at *
    generalize hat : 5 + size = i at *
    have hne' : ((x : Int) == ((Crc.sum m : Nat) : Int)) = false := by rw [beq_eq_false_iff_ne]; omega
    generalize hsm : Crc.sum m = y at *
    have HSM := Lib.hid hsm
    clear hat hne hl hsm
    go_enter Try.func20, Try.ntmps20
    go_wp2
    go_region
    clear c0 c1 f0
    go_wp2_with fail
    refine (HC.out _ H.out.drew).mono ?_
    rintro e w1 ⟨rfl, hr⟩
    have HR := Lib.hid hr; clear hr
    go_wp2_with fail
    refine (sum_any _ m w1 (HT.out w1 HR.out.2)).mono ?_
    rintro e w2 ⟨rfl, hb2⟩
    have HB2 := Lib.hid (HR.out.2.trans (hb2.mono (Nat.le_trans (by have := HR.out.2.size; have := (Array.getElem?_eq_some_iff.1 HR.out.1).1; have := HBB.out; omega) (Nat.le_refl _))))
    clear hb2
    rw [HSM.out]
    go_wp2
    go_ret
    exact ⟨rfl, HB2.out⟩
  · have HC := Lib.hid (fun w' h' => number_no B b w0 w' (.slice p l.length cap) l (5 + bodyLen l) (bodyLen l) kind bv h' hsv (by omega) (by omega))
    have c0 := cells_of h.1 0
    have c1 := cells_of h.1 1
    have f0 := free_of h.1
    simp only [List.getElem?_toArray, List.getElem?_cons_zero, List.getElem?_cons_succ] at c0 c1
    have H := Lib.hid h
    clear h hsv hB hw hp h4
    generalize bodyLen l = size at *
    generalize hat : 5 + size = i at *
    clear hat hl
    go_enter Try.func20, Try.ntmps20
    go_wp2
    go_region
    clear c0 c1 f0
    go_wp2_with fail
    refine (HC.out _ H.out.drew).mono ?_
    rintro e w1 ⟨rfl, hr⟩
    have HR := Lib.hid hr; clear hr
    go_wp2
    go_ret
    exact ⟨rfl, HR.out.2⟩

set_option maxRecDepth 100000 in
theorem sum_yes (B b : Nat) (w0 w : World) (sv : Value) (l : List Nat) (kind : Nat) (bv : Value) (h : Rd B b w0 w sv (5 + bodyLen l) (bodyLen l) kind bv) (hsv : Bytes w0 sv l) (hB : B ≤ b) (hw : w0.heap.size ≤ B) (hp : partOk l 3 = true) :
    Calls Try.prog 20 #[.pointer (some ⟨b, 0, none⟩)] w fun e w' => e = .returned (.bool true) ∧ Rd B b w0 w' sv (9 + bodyLen l) (bodyLen l) kind bv := by
  obtain ⟨p, cap, rfl, _⟩ := hsv.any
  have hm := hsv.room.2
  simp only [partOk, Bool.and_eq_true, decide_eq_true_eq, beq_iff_eq] at hp
  obtain ⟨h4, he⟩ := hp
  have hl : 5 + bodyLen l ≤ l.length := by omega
  have hup := upto_run p l.length cap (5 + bodyLen l) (by omega)
  have hms := hsv.short
  unfold maxLen at hms
  have hc := fun w' h' => number_yes B b w0 w' (.slice p l.length cap) l (5 + bodyLen l) (bodyLen l) kind bv h' hsv hB hw (by omega)
  have h9 : 5 + bodyLen l + 4 = 9 + bodyLen l := by omega
  rw [h9, he] at hc
  have HC := Lib.hid hc
  have HT := Lib.hid (fun w' (hb : Below B w0 w') => (hsv.upto hl).below (hb.mono hw))
  have c0 := cells_of h.1 0
  have c1 := cells_of h.1 1
  have f0 := free_of h.1
  simp only [List.getElem?_toArray, List.getElem?_cons_zero, List.getElem?_cons_succ] at c0 c1
  have H := Lib.hid h
  have HBB := Lib.hid hB
  clear h hsv hB hw h4 hc he h9
  generalize l.take (5 + bodyLen l) = m at *
  generalize bodyLen l = size at *
  generalize hat : 5 + size = i at *
  clear hat hl
  generalize hsm : Crc.sum m = y at *
  have HSM := Lib.hid hsm
  clear hsm
  go_enter Try.func20, Try.ntmps20
  go_wp2
  go_region
  clear c0 c1 f0
  go_wp2_with fail
  refine (HC.out _ H.out.drew).mono ?_
  rintro e w1 ⟨rfl, hr⟩
  have HR := Lib.hid hr; clear hr
  go_wp2_with fail
  refine (sum_any _ m w1 (HT.out w1 HR.out.2)).mono ?_
  rintro e w2 ⟨rfl, hb2⟩
  have HB2 := Lib.hid (HR.out.below hb2 HBB.out)
  clear hb2
  rw [HSM.out]
  go_wp2
  go_ret
  exact ⟨rfl, HB2.out⟩
end Go.Proofs.Ytjpcddgclimmgaa
