/- Events in a program: the reader. -/
import Derived.Test.YtjjcfflgndclkaaEvF
namespace Go.Proofs.Ytjjcfflgndclkaa
open Go Go.RowKit Go.By

theorem or_byte64 (n c : Nat) (hn : n < 72057594037927936) (hc : c < 256) : bits .or .u64 ((n * 256 : Nat) : Int) (c : Int) = ((n * 256 + c : Nat) : Int) := by
  have h := Nat.two_pow_add_eq_or_of_lt (i := 8) (b := c) hc n
  rw [(bits_nat .u64 64 (by decide) (fun n h0 h1 => by rw [IntKind.wrap_u64]; omega) (n * 256) c (by omega) (by omega)).2]
  have h3 : n * 256 ||| c = n * 256 + c := by rw [show n * 256 = 2 ^ 8 * n by omega, ← h]
  rw [h3]

/-- Reading on, by places. -/
theorem rdTake_at {l : List Nat} {i n : Nat} (h : i + n ≤ l.length) : rdTake n (some (l.drop i)) = (pc l i n, some (l.drop (i + n))) := by
  unfold rdTake pc
  dsimp only
  rw [if_pos (by rw [List.length_drop]; omega), List.drop_drop]
theorem rdTake_no {l : List Nat} {i n : Nat} (h : l.length < i + n) (hn : 0 < n) : rdTake n (some (l.drop i)) = ([], none) := by
  unfold rdTake
  dsimp only
  rw [if_neg (by rw [List.length_drop]; omega)]
theorem pc_one {l : List Nat} {i : Nat} (h : i + 1 ≤ l.length) : pc l i 1 = [atB l i] := by
  unfold pc
  rw [List.drop_eq_getElem_cons (by omega), atB_of (by omega)]
  rfl
theorem rdText_at {l : List Nat} {i : Nat} (h : i + 1 + atB l i ≤ l.length) : rdText (some (l.drop i)) = (pc l (i + 1) (atB l i), some (l.drop (i + 1 + atB l i))) := by
  unfold rdText
  rw [rdTake_at (by omega), pc_one (by omega), numOf_one]
  exact rdTake_at h
theorem rdText_no {l : List Nat} {i : Nat} (h : ¬ (i + 1 + atB l i ≤ l.length)) : (rdText (some (l.drop i))).2 = none := by
  unfold rdText
  by_cases h1 : i + 1 ≤ l.length
  · rw [rdTake_at h1, pc_one h1, numOf_one]
    unfold rdTake
    dsimp only
    rw [if_neg (by rw [List.length_drop]; omega)]
  · rw [rdTake_no (by omega) (by omega)]
    rfl
/-- The reader, in its block. -/
def Ro (B b : Nat) (w0 w : World) (sv : Value) (i : Nat) (q : Int) (s : ByteArray) (r : Int) (t : ByteArray) (d : Value) : Prop :=
  w.heap[b]? = some (.cells #[sv, .int .i64 i, .int .i64 q, .string s, .int .i64 r, .string t, d] 39 (0, 0)) ∧ Below B w0 w
theorem Ro.setAt {B b : Nat} {w0 w : World} {sv : Value} {i : Nat} {q r : Int} {s t : ByteArray} {d : Value} (h : Ro B b w0 w sv i q s r t d) (hB : B ≤ b) (x : Nat) : Ro B b w0 (w.setCell ⟨b, 1, none⟩ (.int .i64 x)) sv x q s r t d :=
  ⟨set_heap h.1 1 _, h.2.setCell hB _⟩
theorem Ro.setQ {B b : Nat} {w0 w : World} {sv : Value} {i : Nat} {q r : Int} {s t : ByteArray} {d : Value} (h : Ro B b w0 w sv i q s r t d) (hB : B ≤ b) (x : Int) : Ro B b w0 (w.setCell ⟨b, 2, none⟩ (.int .i64 x)) sv i x s r t d :=
  ⟨set_heap h.1 2 _, h.2.setCell hB _⟩
theorem Ro.setS {B b : Nat} {w0 w : World} {sv : Value} {i : Nat} {q r : Int} {s t : ByteArray} {d : Value} (h : Ro B b w0 w sv i q s r t d) (hB : B ≤ b) (x : ByteArray) : Ro B b w0 (w.setCell ⟨b, 3, none⟩ (.string x)) sv i q x r t d :=
  ⟨set_heap h.1 3 _, h.2.setCell hB _⟩
theorem Ro.setR {B b : Nat} {w0 w : World} {sv : Value} {i : Nat} {q r : Int} {s t : ByteArray} {d : Value} (h : Ro B b w0 w sv i q s r t d) (hB : B ≤ b) (x : Int) : Ro B b w0 (w.setCell ⟨b, 4, none⟩ (.int .i64 x)) sv i q s x t d :=
  ⟨set_heap h.1 4 _, h.2.setCell hB _⟩
theorem Ro.setT {B b : Nat} {w0 w : World} {sv : Value} {i : Nat} {q r : Int} {s t : ByteArray} {d : Value} (h : Ro B b w0 w sv i q s r t d) (hB : B ≤ b) (x : ByteArray) : Ro B b w0 (w.setCell ⟨b, 5, none⟩ (.string x)) sv i q s r x d :=
  ⟨set_heap h.1 5 _, h.2.setCell hB _⟩
theorem Ro.setD {B b : Nat} {w0 w : World} {sv : Value} {i : Nat} {q r : Int} {s t : ByteArray} {d : Value} (h : Ro B b w0 w sv i q s r t d) (hB : B ≤ b) (x : Value) : Ro B b w0 (w.setCell ⟨b, 6, none⟩ x) sv i q s r t x :=
  ⟨set_heap h.1 6 _, h.2.setCell hB _⟩
theorem Ro.drew {B b : Nat} {w0 w : World} {sv : Value} {i : Nat} {q r : Int} {s t : ByteArray} {d : Value} (h : Ro B b w0 w sv i q s r t d) : Ro B b w0 w.drew sv i q s r t d := ⟨h.1, h.2.drew⟩
theorem Ro.below {B b : Nat} {w0 w : World} {sv : Value} {i : Nat} {q r : Int} {s t : ByteArray} {d : Value} {w' : World} (h : Ro B b w0 w sv i q s r t d) (hb : Below w.heap.size w w') (hB : B ≤ b) : Ro B b w0 w' sv i q s r t d := by
  have hlt : b < w.heap.size := (Array.getElem?_eq_some_iff.1 h.1).1
  exact ⟨(hb.block b hlt).trans h.1, h.2.trans (hb.mono (by omega))⟩

set_option maxRecDepth 100000 in
theorem next_no (B b : Nat) (w0 w : World) (sv : Value) (l : List Nat) (i : Nat) (q r : Int) (s t : ByteArray) (d : Value) (h : Ro B b w0 w sv i q s r t d) (hsv : Bytes w0 sv l) (n : Nat) (hi : i ≤ l.length) (hn : n ≤ 4611686018427387904) (hlt : l.length < i + n) :
    Calls Try.prog 39 #[.pointer (some ⟨b, 0, none⟩), .int .i64 n] w fun e w' => e = .returned (.tuple #[.slice none 0 0, .bool false]) ∧ Ro B b w0 w' sv i q s r t d := by
  obtain ⟨p, cap, rfl, _⟩ := hsv.any
  have hm := hsv.short
  unfold maxLen at hm
  clear hsv
  have c0 := cells_of h.1 0
  have c1 := cells_of h.1 1
  simp only [List.getElem?_toArray, List.getElem?_cons_zero, List.getElem?_cons_succ] at c0 c1
  have H := Lib.hid h; clear h
  have b1 : (l.length : Int) - i < n := by omega
  clear hlt
  go_enter Try.func39, Try.ntmps39
  go_wp2
  go_region
  go_wp2
  go_ret2
  exact ⟨rfl, H.out.drew⟩

set_option maxRecDepth 100000 in
theorem next_yes (B b : Nat) (w0 w : World) (sv : Value) (l : List Nat) (i : Nat) (q r : Int) (s t : ByteArray) (d : Value) (h : Ro B b w0 w sv i q s r t d) (hsv : Bytes w0 sv l) (n : Nat) (hB : B ≤ b) (hlt : i + n ≤ l.length) :
    Calls Try.prog 39 #[.pointer (some ⟨b, 0, none⟩), .int .i64 n] w fun e w' => ∃ u c, e = .returned (.tuple #[.slice u n c, .bool true]) ∧ Bytes w0 (.slice u n c) (pc l i n) ∧ Ro B b w0 w' sv (i + n) q s r t d := by
  obtain ⟨p, cap, rfl, _⟩ := hsv.any
  have hm := hsv.short
  unfold maxLen at hm
  obtain ⟨u, c, hsl, hbq⟩ := piece_run hsv i n hlt
  have HBZ := Lib.hid hbq
  clear hsv hbq
  have c0 := cells_of h.1 0
  have c1 := cells_of h.1 1
  have f0 := free_of h.1
  simp only [List.getElem?_toArray, List.getElem?_cons_zero, List.getElem?_cons_succ] at c0 c1
  have H2 := Lib.hid (h.drew.setAt hB (i + n))
  have H := Lib.hid h; clear h
  have b1 : ¬ (l.length : Int) - i < n := by omega
  clear hlt
  go_enter Try.func39, Try.ntmps39
  go_wp2
  go_region
  go_wp2
  go_region
  go_wp2
  go_ret2
  exact ⟨_, _, rfl, HBZ.out, H2.out.drew⟩

set_option maxRecDepth 100000 in
theorem text_no (B b : Nat) (w0 w : World) (sv : Value) (l : List Nat) (i : Nat) (q r : Int) (s t : ByteArray) (d : Value) (h : Ro B b w0 w sv i q s r t d) (hsv : Bytes w0 sv l) (hB : B ≤ b) (hw : w0.heap.size ≤ B) (hi : i ≤ l.length) (hlt : ¬ (i + 1 + atB l i ≤ l.length)) :
    Calls Try.prog 36 #[.pointer (some ⟨b, 0, none⟩)] w fun e w' => e = .returned (.tuple #[.slice none 0 0, .bool false]) ∧ ∃ i', Ro B b w0 w' sv i' q s r t d := by
  have hms := hsv.short
  unfold maxLen at hms
  by_cases h1 : i + 1 ≤ l.length
  · have HC := Lib.hid (next_yes B b w0 w sv l i q r s t d h hsv 1 hB h1)
    have HN := Lib.hid (fun w' (h' : Ro B b w0 w' sv (i + 1) q s r t d) => next_no B b w0 w' sv l (i + 1) q r s t d h' hsv (atB l i) h1 (by have := hsv.at_lt (show i < l.length by omega); omega) (by omega))
    have hcl : atB l i < 256 := hsv.at_lt (by omega)
    rw [pc_one h1] at HC
    have HW := Lib.hid hw
    clear h hsv hB hw hi hlt h1
    generalize atB l i = y at *
    have hy : (y : Int) < 256 := by omega
    go_enter Try.func36, Try.ntmps36
    go_wp2_with fail
    refine HC.out.mono ?_
    rintro e w1 ⟨u, c, rfl, hbq, hr⟩
    obtain ⟨b1, o1, rfl, hcell⟩ := (hbq.below (hr.2.mono HW.out)).spot 0 (by simp)
    rw [show atB [y] 0 = y by simp [atB], Nat.add_zero] at hcell
    have HR := Lib.hid hr; clear hr hbq
    go_wp2_with fail
    refine (HN.out _ HR.out).mono ?_
    rintro e w2 ⟨rfl, hr2⟩
    have HR2 := Lib.hid hr2; clear hr2
    go_wp2
    go_ret2
    exact ⟨rfl, _, HR2.out⟩
  · have HC := Lib.hid (next_no B b w0 w sv l i q r s t d h hsv 1 hi (by omega) (by omega))
    clear h hsv hB hw hi hlt h1
    go_enter Try.func36, Try.ntmps36
    go_wp2_with fail
    refine HC.out.mono ?_
    rintro e w1 ⟨rfl, hr⟩
    have HR := Lib.hid hr; clear hr
    go_wp2
    go_ret2
    exact ⟨rfl, _, HR.out⟩

set_option maxRecDepth 100000 in
theorem text_yes (B b : Nat) (w0 w : World) (sv : Value) (l : List Nat) (i : Nat) (q r : Int) (s t : ByteArray) (d : Value) (h : Ro B b w0 w sv i q s r t d) (hsv : Bytes w0 sv l) (hB : B ≤ b) (hw : w0.heap.size ≤ B) (hlt : i + 1 + atB l i ≤ l.length) :
    Calls Try.prog 36 #[.pointer (some ⟨b, 0, none⟩)] w fun e w' => ∃ u c, e = .returned (.tuple #[.slice u (atB l i) c, .bool true]) ∧ Bytes w0 (.slice u (atB l i) c) (pc l (i + 1) (atB l i)) ∧ Ro B b w0 w' sv (i + 1 + atB l i) q s r t d := by
  have hms := hsv.short
  unfold maxLen at hms
  have h1 : i + 1 ≤ l.length := by omega
  have HC := Lib.hid (next_yes B b w0 w sv l i q r s t d h hsv 1 hB h1)
  have HN := Lib.hid (fun w' (h' : Ro B b w0 w' sv (i + 1) q s r t d) => next_yes B b w0 w' sv l (i + 1) q r s t d h' hsv (atB l i) hB hlt)
  have hcl : atB l i < 256 := hsv.at_lt (by omega)
  rw [pc_one h1] at HC
  have HW := Lib.hid hw
  clear h hsv hB hw hlt h1
  generalize atB l i = y at *
  have hy : (y : Int) < 256 := by omega
  generalize pc l (i + 1) y = m at *
  go_enter Try.func36, Try.ntmps36
  go_wp2_with fail
  refine HC.out.mono ?_
  rintro e w1 ⟨u, c, rfl, hbq, hr⟩
  obtain ⟨b1, o1, rfl, hcell⟩ := (hbq.below (hr.2.mono HW.out)).spot 0 (by simp)
  rw [show atB [y] 0 = y by simp [atB], Nat.add_zero] at hcell
  have HR := Lib.hid hr; clear hr hbq
  go_wp2_with fail
  refine (HN.out _ HR.out).mono ?_
  rintro e w2 ⟨u2, c2, rfl, hbq2, hr2⟩
  have HR2 := Lib.hid hr2; have HQ2 := Lib.hid hbq2; clear hr2 hbq2
  go_wp2
  go_ret2
  exact ⟨_, _, rfl, HQ2.out, HR2.out⟩

/-- What a part that is not there tells. -/
def PartNo (B : Nat) (w0 : World) (e : Ending) (w' : World) : Prop := e = .returned (.bool false) ∧ Below B w0 w'

set_option maxRecDepth 100000 in
theorem seq_no (B b : Nat) (w0 w : World) (sv : Value) (l : List Nat) (i : Nat) (q r : Int) (s t : ByteArray) (d : Value) (h : Ro B b w0 w sv i q s r t d) (hsv : Bytes w0 sv l) (hB : B ≤ b) (hi : i ≤ l.length) (hlt : l.length < i + 8) :
    Calls Try.prog 17 #[.pointer (some ⟨b, 0, none⟩)] w (PartNo B w0) := by
  have HC := Lib.hid (next_no B b w0 w sv l i q r s t d h hsv 8 hi (by omega) hlt)
  have HBB := Lib.hid hB
  clear h hsv hB hi hlt
  have HD : Hid (Calls Try.prog 34 #[.pointer (some ⟨b, 0, none⟩), .pointer (some ⟨b, 2, none⟩)] w (PartNo B w0)) := by
    unfold Hid
    go_enter Try.func34, Try.ntmps34
    go_wp2_with fail
    refine HC.out.mono ?_
    rintro e w1 ⟨rfl, hr⟩
    have f0 := free_of hr.1
    have d2 := cells_of hr.1 2
    simp only [List.getElem?_toArray, List.getElem?_cons_zero, List.getElem?_cons_succ] at d2
    have HR := Lib.hid (hr.setQ HBB.out 0); clear hr
    go_wp2
    go_loop [7, 17] (fun x i => x = .int .u64 0 ∧ i = .int .i64 0) (fun _ _ => 0)
    case atStart => exact ⟨rfl, rfl⟩
    case round =>
      obtain ⟨rfl, rfl⟩ := hrel
      go_wp2
      go_ret
      exact ⟨rfl, HR.out.2⟩
  clear HC
  go_enter Try.func17, Try.ntmps17
  go_wp2_with fail
  refine HD.out.mono ?_
  rintro e w1 ⟨rfl, hr⟩
  have HR := Lib.hid hr; clear hr
  go_wp2
  go_ret
  exact ⟨rfl, HR.out⟩

set_option maxRecDepth 100000 in
theorem seq_yes (B b : Nat) (w0 w : World) (sv : Value) (l : List Nat) (i : Nat) (q r : Int) (s t : ByteArray) (d : Value) (h : Ro B b w0 w sv i q s r t d) (hsv : Bytes w0 sv l) (hB : B ≤ b) (hw : w0.heap.size ≤ B) (hlt : i + 8 ≤ l.length) :
    Calls Try.prog 17 #[.pointer (some ⟨b, 0, none⟩)] w fun e w' => e = .returned (.bool true) ∧ Ro B b w0 w' sv (i + 8) (wrap64 (numOf (pc l i 8) : Nat)) s r t d := by
  have HC := Lib.hid (next_yes B b w0 w sv l i q r s t d h hsv 8 hB hlt)
  have HBB := Lib.hid hB
  have hpl : (pc l i 8).length = 8 := pc_length hlt
  have HW := Lib.hid hw
  clear h hsv hB hw hlt
  generalize pc l i 8 = m at *
  have HL := Lib.hid hpl
  clear hpl
  generalize hX : wrap64 (numOf m : Nat) = X
  have HX := Lib.hid hX
  clear hX
  have HD : Hid (Calls Try.prog 34 #[.pointer (some ⟨b, 0, none⟩), .pointer (some ⟨b, 2, none⟩)] w fun e w' => e = .returned (.bool true) ∧ Ro B b w0 w' sv (i + 8) X s r t d) := by
    unfold Hid
    go_enter Try.func34, Try.ntmps34
    go_wp2_with fail
    refine HC.out.mono ?_
    rintro e w1 ⟨u, c, rfl, hbq, hr⟩
    have f0 := free_of hr.1
    have d2 := cells_of hr.1 2
    simp only [List.getElem?_toArray, List.getElem?_cons_zero, List.getElem?_cons_succ] at d2
    have HV := Lib.hid (hbq.below (hr.2.mono HW.out))
    have HR := Lib.hid (hr.setQ HBB.out X); clear hr hbq HC
    go_wp2
    go_loop [7, 17] (fun x i => ∃ k : Nat, k ≤ 8 ∧ i = .int .i64 k ∧ x = .int .u64 (numOf (m.take k) : Nat)) (fun _ i => 8 - (intOf i).toNat)
    case atStart => exact ⟨0, by omega, rfl, rfl⟩
    case round =>
      obtain ⟨k, hk, rfl, rfl⟩ := hrel
      by_cases hlt : k < 8
      · have hlm : k < m.length := by rw [HL.out]; exact hlt
        obtain ⟨b1, o1, rfl, hcell⟩ := HV.out.spot k hlm
        have hn : numOf (m.take k) < 72057594037927936 := by
          have h1 := numOf_lt (m.take k) (fun c hc => HV.out.small c (List.mem_of_mem_take hc))
          have h2 : 256 ^ (m.take k).length ≤ 256 ^ 7 := Nat.pow_le_pow_right (by omega) (by rw [List.length_take]; omega)
          exact Nat.lt_of_lt_of_le h1 (Nat.le_trans h2 (by decide))
        have hcl : atB m k < 256 := HV.out.at_lt hlm
        have hs : numOf (m.take (k + 1)) = numOf (m.take k) * 256 + atB m k := by
          rw [List.take_succ_eq_append_getElem hlm, numOf_snoc, atB_of hlm]
        have HS := Lib.hid hs; clear hs hlm
        have e1 := or_byte64 (numOf (m.take k)) (atB m k) hn hcl
        have e2 : IntKind.u64.wrap ((numOf (m.take k) : Int) * 256) = ((numOf (m.take k) * 256 : Nat) : Int) := by rw [IntKind.wrap_u64]; omega
        generalize numOf (m.take k) * 256 = z at *
        generalize numOf (m.take k) = x at *
        generalize atB m k = y at *
        generalize hzy : z + y = zy at *
        clear hn hzy
        go_wp2
        go_round
        case rel => exact ⟨k + 1, by omega, by go_num, by rw [HS.out]⟩
        case measure => simp [intOf]; omega
      · obtain rfl : k = 8 := by omega
        rw [List.take_of_length_le (by rw [HL.out]; omega)]
        have hX := HX.out
        generalize numOf m = y at *
        go_wp2
        go_ret
        exact ⟨rfl, HR.out⟩
  clear HC
  go_enter Try.func17, Try.ntmps17
  go_wp2_with fail
  refine HD.out.mono ?_
  rintro e w1 ⟨rfl, hr⟩
  have HR := Lib.hid hr; clear hr
  go_wp2
  go_ret
  exact ⟨rfl, HR.out⟩

set_option maxRecDepth 100000 in
theorem ver_no (B b : Nat) (w0 w : World) (sv : Value) (l : List Nat) (i : Nat) (q r : Int) (s t : ByteArray) (d : Value) (h : Ro B b w0 w sv i q s r t d) (hsv : Bytes w0 sv l) (hB : B ≤ b) (hi : i ≤ l.length) (hlt : l.length < i + 8) :
    Calls Try.prog 18 #[.pointer (some ⟨b, 0, none⟩)] w (PartNo B w0) := by
  have HC := Lib.hid (next_no B b w0 w sv l i q r s t d h hsv 8 hi (by omega) hlt)
  have HBB := Lib.hid hB
  clear h hsv hB hi hlt
  have HD : Hid (Calls Try.prog 34 #[.pointer (some ⟨b, 0, none⟩), .pointer (some ⟨b, 4, none⟩)] w (PartNo B w0)) := by
    unfold Hid
    go_enter Try.func34, Try.ntmps34
    go_wp2_with fail
    refine HC.out.mono ?_
    rintro e w1 ⟨rfl, hr⟩
    have f0 := free_of hr.1
    have d2 := cells_of hr.1 4
    simp only [List.getElem?_toArray, List.getElem?_cons_zero, List.getElem?_cons_succ] at d2
    have HR := Lib.hid (hr.setR HBB.out 0); clear hr
    go_wp2
    go_loop [7, 17] (fun x i => x = .int .u64 0 ∧ i = .int .i64 0) (fun _ _ => 0)
    case atStart => exact ⟨rfl, rfl⟩
    case round =>
      obtain ⟨rfl, rfl⟩ := hrel
      go_wp2
      go_ret
      exact ⟨rfl, HR.out.2⟩
  clear HC
  go_enter Try.func18, Try.ntmps18
  go_wp2_with fail
  refine HD.out.mono ?_
  rintro e w1 ⟨rfl, hr⟩
  have HR := Lib.hid hr; clear hr
  go_wp2
  go_ret
  exact ⟨rfl, HR.out⟩

set_option maxRecDepth 100000 in
theorem ver_yes (B b : Nat) (w0 w : World) (sv : Value) (l : List Nat) (i : Nat) (q r : Int) (s t : ByteArray) (d : Value) (h : Ro B b w0 w sv i q s r t d) (hsv : Bytes w0 sv l) (hB : B ≤ b) (hw : w0.heap.size ≤ B) (hlt : i + 8 ≤ l.length) :
    Calls Try.prog 18 #[.pointer (some ⟨b, 0, none⟩)] w fun e w' => e = .returned (.bool true) ∧ Ro B b w0 w' sv (i + 8) q s (wrap64 (numOf (pc l i 8) : Nat)) t d := by
  have HC := Lib.hid (next_yes B b w0 w sv l i q r s t d h hsv 8 hB hlt)
  have HBB := Lib.hid hB
  have hpl : (pc l i 8).length = 8 := pc_length hlt
  have HW := Lib.hid hw
  clear h hsv hB hw hlt
  generalize pc l i 8 = m at *
  have HL := Lib.hid hpl
  clear hpl
  generalize hX : wrap64 (numOf m : Nat) = X
  have HX := Lib.hid hX
  clear hX
  have HD : Hid (Calls Try.prog 34 #[.pointer (some ⟨b, 0, none⟩), .pointer (some ⟨b, 4, none⟩)] w fun e w' => e = .returned (.bool true) ∧ Ro B b w0 w' sv (i + 8) q s X t d) := by
    unfold Hid
    go_enter Try.func34, Try.ntmps34
    go_wp2_with fail
    refine HC.out.mono ?_
    rintro e w1 ⟨u, c, rfl, hbq, hr⟩
    have f0 := free_of hr.1
    have d2 := cells_of hr.1 4
    simp only [List.getElem?_toArray, List.getElem?_cons_zero, List.getElem?_cons_succ] at d2
    have HV := Lib.hid (hbq.below (hr.2.mono HW.out))
    have HR := Lib.hid (hr.setR HBB.out X); clear hr hbq HC
    go_wp2
    go_loop [7, 17] (fun x i => ∃ k : Nat, k ≤ 8 ∧ i = .int .i64 k ∧ x = .int .u64 (numOf (m.take k) : Nat)) (fun _ i => 8 - (intOf i).toNat)
    case atStart => exact ⟨0, by omega, rfl, rfl⟩
    case round =>
      obtain ⟨k, hk, rfl, rfl⟩ := hrel
      by_cases hlt : k < 8
      · have hlm : k < m.length := by rw [HL.out]; exact hlt
        obtain ⟨b1, o1, rfl, hcell⟩ := HV.out.spot k hlm
        have hn : numOf (m.take k) < 72057594037927936 := by
          have h1 := numOf_lt (m.take k) (fun c hc => HV.out.small c (List.mem_of_mem_take hc))
          have h2 : 256 ^ (m.take k).length ≤ 256 ^ 7 := Nat.pow_le_pow_right (by omega) (by rw [List.length_take]; omega)
          exact Nat.lt_of_lt_of_le h1 (Nat.le_trans h2 (by decide))
        have hcl : atB m k < 256 := HV.out.at_lt hlm
        have hs : numOf (m.take (k + 1)) = numOf (m.take k) * 256 + atB m k := by
          rw [List.take_succ_eq_append_getElem hlm, numOf_snoc, atB_of hlm]
        have HS := Lib.hid hs; clear hs hlm
        have e1 := or_byte64 (numOf (m.take k)) (atB m k) hn hcl
        have e2 : IntKind.u64.wrap ((numOf (m.take k) : Int) * 256) = ((numOf (m.take k) * 256 : Nat) : Int) := by rw [IntKind.wrap_u64]; omega
        generalize numOf (m.take k) * 256 = z at *
        generalize numOf (m.take k) = x at *
        generalize atB m k = y at *
        generalize hzy : z + y = zy at *
        clear hn hzy
        go_wp2
        go_round
        case rel => exact ⟨k + 1, by omega, by go_num, by rw [HS.out]⟩
        case measure => simp [intOf]; omega
      · obtain rfl : k = 8 := by omega
        rw [List.take_of_length_le (by rw [HL.out]; omega)]
        have hX := HX.out
        generalize numOf m = y at *
        go_wp2
        go_ret
        exact ⟨rfl, HR.out⟩
  clear HC
  go_enter Try.func18, Try.ntmps18
  go_wp2_with fail
  refine HD.out.mono ?_
  rintro e w1 ⟨rfl, hr⟩
  have HR := Lib.hid hr; clear hr
  go_wp2
  go_ret
  exact ⟨rfl, HR.out⟩

set_option maxRecDepth 100000 in
theorem stream_no (B b : Nat) (w0 w : World) (sv : Value) (l : List Nat) (i : Nat) (q r : Int) (s t : ByteArray) (d : Value) (h : Ro B b w0 w sv i q s r t d) (hsv : Bytes w0 sv l) (hB : B ≤ b) (hw : w0.heap.size ≤ B) (hi : i ≤ l.length) (hlt : ¬ (i + 1 + atB l i ≤ l.length)) :
    Calls Try.prog 19 #[.pointer (some ⟨b, 0, none⟩)] w (PartNo B w0) := by
  have HC := Lib.hid (text_no B b w0 w sv l i q r s t d h hsv hB hw hi hlt)
  have HBB := Lib.hid hB
  clear h hsv hB hi hlt hw
  have HD : Hid (Calls Try.prog 35 #[.pointer (some ⟨b, 0, none⟩), .pointer (some ⟨b, 3, none⟩)] w (PartNo B w0)) := by
    unfold Hid
    go_enter Try.func35, Try.ntmps35
    go_wp2_with fail
    refine HC.out.mono ?_
    rintro e w1 ⟨rfl, i', hr⟩
    have f0 := free_of hr.1
    have d2 := cells_of hr.1 3
    simp only [List.getElem?_toArray, List.getElem?_cons_zero, List.getElem?_cons_succ] at d2
    have HR := Lib.hid (hr.setS HBB.out (strOf [])); clear hr
    have hcv := (Bytes.nil w1).toString (P := Try.prog) byT (d := 9) (by kernel_rfl)
    generalize strOf [] = X at *
    go_wp2
    go_ret
    exact ⟨rfl, HR.out.2⟩
  clear HC
  go_enter Try.func19, Try.ntmps19
  go_wp2_with fail
  refine HD.out.mono ?_
  rintro e w1 ⟨rfl, hr⟩
  have HR := Lib.hid hr; clear hr
  go_wp2
  go_ret
  exact ⟨rfl, HR.out⟩

set_option maxRecDepth 100000 in
theorem stream_yes (B b : Nat) (w0 w : World) (sv : Value) (l : List Nat) (i : Nat) (q r : Int) (s t : ByteArray) (d : Value) (h : Ro B b w0 w sv i q s r t d) (hsv : Bytes w0 sv l) (hB : B ≤ b) (hw : w0.heap.size ≤ B) (hlt : i + 1 + atB l i ≤ l.length) :
    Calls Try.prog 19 #[.pointer (some ⟨b, 0, none⟩)] w fun e w' => e = .returned (.bool true) ∧ Ro B b w0 w' sv (i + 1 + atB l i) q (strOf (pc l (i + 1) (atB l i))) r t d := by
  have HC := Lib.hid (text_yes B b w0 w sv l i q r s t d h hsv hB hw hlt)
  have HBB := Lib.hid hB
  have HW := Lib.hid hw
  clear h hsv hB hw hlt
  generalize pc l (i + 1) (atB l i) = m at *
  generalize atB l i = y at *
  generalize hX : strOf m = X
  have HX := Lib.hid hX
  clear hX
  have HD : Hid (Calls Try.prog 35 #[.pointer (some ⟨b, 0, none⟩), .pointer (some ⟨b, 3, none⟩)] w fun e w' => e = .returned (.bool true) ∧ Ro B b w0 w' sv (i + 1 + y) q X r t d) := by
    unfold Hid
    go_enter Try.func35, Try.ntmps35
    go_wp2_with fail
    refine HC.out.mono ?_
    rintro e w1 ⟨u, c, rfl, hbq, hr⟩
    have f0 := free_of hr.1
    have d2 := cells_of hr.1 3
    simp only [List.getElem?_toArray, List.getElem?_cons_zero, List.getElem?_cons_succ] at d2
    have hcv := (hbq.below (hr.2.mono HW.out)).toString (P := Try.prog) byT (d := 9) (by kernel_rfl)
    rw [HX.out] at hcv
    have HR := Lib.hid (hr.setS HBB.out X); clear hr hbq HC
    go_wp2
    go_ret
    exact ⟨rfl, HR.out⟩
  clear HC
  go_enter Try.func19, Try.ntmps19
  go_wp2_with fail
  refine HD.out.mono ?_
  rintro e w1 ⟨rfl, hr⟩
  have HR := Lib.hid hr; clear hr
  go_wp2
  go_ret
  exact ⟨rfl, HR.out⟩

set_option maxRecDepth 100000 in
theorem type_no (B b : Nat) (w0 w : World) (sv : Value) (l : List Nat) (i : Nat) (q r : Int) (s t : ByteArray) (d : Value) (h : Ro B b w0 w sv i q s r t d) (hsv : Bytes w0 sv l) (hB : B ≤ b) (hw : w0.heap.size ≤ B) (hi : i ≤ l.length) (hlt : ¬ (i + 1 + atB l i ≤ l.length)) :
    Calls Try.prog 20 #[.pointer (some ⟨b, 0, none⟩)] w (PartNo B w0) := by
  have HC := Lib.hid (text_no B b w0 w sv l i q r s t d h hsv hB hw hi hlt)
  have HBB := Lib.hid hB
  clear h hsv hB hi hlt hw
  have HD : Hid (Calls Try.prog 35 #[.pointer (some ⟨b, 0, none⟩), .pointer (some ⟨b, 5, none⟩)] w (PartNo B w0)) := by
    unfold Hid
    go_enter Try.func35, Try.ntmps35
    go_wp2_with fail
    refine HC.out.mono ?_
    rintro e w1 ⟨rfl, i', hr⟩
    have f0 := free_of hr.1
    have d2 := cells_of hr.1 5
    simp only [List.getElem?_toArray, List.getElem?_cons_zero, List.getElem?_cons_succ] at d2
    have HR := Lib.hid (hr.setT HBB.out (strOf [])); clear hr
    have hcv := (Bytes.nil w1).toString (P := Try.prog) byT (d := 9) (by kernel_rfl)
    generalize strOf [] = X at *
    go_wp2
    go_ret
    exact ⟨rfl, HR.out.2⟩
  clear HC
  go_enter Try.func20, Try.ntmps20
  go_wp2_with fail
  refine HD.out.mono ?_
  rintro e w1 ⟨rfl, hr⟩
  have HR := Lib.hid hr; clear hr
  go_wp2
  go_ret
  exact ⟨rfl, HR.out⟩

set_option maxRecDepth 100000 in
theorem type_yes (B b : Nat) (w0 w : World) (sv : Value) (l : List Nat) (i : Nat) (q r : Int) (s t : ByteArray) (d : Value) (h : Ro B b w0 w sv i q s r t d) (hsv : Bytes w0 sv l) (hB : B ≤ b) (hw : w0.heap.size ≤ B) (hlt : i + 1 + atB l i ≤ l.length) :
    Calls Try.prog 20 #[.pointer (some ⟨b, 0, none⟩)] w fun e w' => e = .returned (.bool true) ∧ Ro B b w0 w' sv (i + 1 + atB l i) q s r (strOf (pc l (i + 1) (atB l i))) d := by
  have HC := Lib.hid (text_yes B b w0 w sv l i q r s t d h hsv hB hw hlt)
  have HBB := Lib.hid hB
  have HW := Lib.hid hw
  clear h hsv hB hw hlt
  generalize pc l (i + 1) (atB l i) = m at *
  generalize atB l i = y at *
  generalize hX : strOf m = X
  have HX := Lib.hid hX
  clear hX
  have HD : Hid (Calls Try.prog 35 #[.pointer (some ⟨b, 0, none⟩), .pointer (some ⟨b, 5, none⟩)] w fun e w' => e = .returned (.bool true) ∧ Ro B b w0 w' sv (i + 1 + y) q s r X d) := by
    unfold Hid
    go_enter Try.func35, Try.ntmps35
    go_wp2_with fail
    refine HC.out.mono ?_
    rintro e w1 ⟨u, c, rfl, hbq, hr⟩
    have f0 := free_of hr.1
    have d2 := cells_of hr.1 5
    simp only [List.getElem?_toArray, List.getElem?_cons_zero, List.getElem?_cons_succ] at d2
    have hcv := (hbq.below (hr.2.mono HW.out)).toString (P := Try.prog) byT (d := 9) (by kernel_rfl)
    rw [HX.out] at hcv
    have HR := Lib.hid (hr.setT HBB.out X); clear hr hbq HC
    go_wp2
    go_ret
    exact ⟨rfl, HR.out⟩
  clear HC
  go_enter Try.func20, Try.ntmps20
  go_wp2_with fail
  refine HD.out.mono ?_
  rintro e w1 ⟨rfl, hr⟩
  have HR := Lib.hid hr; clear hr
  go_wp2
  go_ret
  exact ⟨rfl, HR.out⟩

set_option maxRecDepth 100000 in
theorem data_no (B b : Nat) (w0 w : World) (sv : Value) (l : List Nat) (i : Nat) (q r : Int) (s t : ByteArray) (d : Value) (h : Ro B b w0 w sv i q s r t d) (hsv : Bytes w0 sv l) (hB : B ≤ b) (hw : w0.heap.size ≤ B) (hi : i ≤ l.length) (hlt : ¬ (i + 1 + atB l i ≤ l.length)) :
    Calls Try.prog 21 #[.pointer (some ⟨b, 0, none⟩)] w (PartNo B w0) := by
  have HC := Lib.hid (text_no B b w0 w sv l i q r s t d h hsv hB hw hi hlt)
  have HBB := Lib.hid hB
  clear h hsv hB hi hlt hw
  go_enter Try.func21, Try.ntmps21
  go_wp2_with fail
  refine HC.out.mono ?_
  rintro e w1 ⟨rfl, i', hr⟩
  have f0 := free_of hr.1
  have d2 := cells_of hr.1 6
  simp only [List.getElem?_toArray, List.getElem?_cons_zero, List.getElem?_cons_succ] at d2
  have HR := Lib.hid (hr.setD HBB.out (.slice none 0 0)); clear hr
  go_wp2_with (at_builtin; refine Lib.wpList_append_run _ rfl (.const (.slice none 0 0)) (.tmp 11) 22 22 rfl _ _ rfl rfl (.slice none 0 0) w1 (by kernel_rfl) ?_)
  go_ret
  exact ⟨rfl, HR.out.2⟩

set_option maxRecDepth 100000 in
theorem data_yes (B b : Nat) (w0 w : World) (sv : Value) (l : List Nat) (i : Nat) (q r : Int) (s t : ByteArray) (d : Value) (h : Ro B b w0 w sv i q s r t d) (hsv : Bytes w0 sv l) (hB : B ≤ b) (hw : w0.heap.size ≤ B) (hlt : i + 1 + atB l i ≤ l.length) :
    Calls Try.prog 21 #[.pointer (some ⟨b, 0, none⟩)] w fun e w' => e = .returned (.bool true) ∧ ∃ d', Bytes w' d' (pc l (i + 1) (atB l i)) ∧ Ro B b w0 w' sv (i + 1 + atB l i) q s r t d' := by
  have HC := Lib.hid (text_yes B b w0 w sv l i q r s t d h hsv hB hw hlt)
  have HBB := Lib.hid hB
  have HW := Lib.hid hw
  have hcl : atB l i < 256 := hsv.at_lt (by omega)
  have hpl : (pc l (i + 1) (atB l i)).length = atB l i := pc_length hlt
  clear h hsv hB hw hlt
  generalize pc l (i + 1) (atB l i) = m at *
  generalize atB l i = y at *
  have HL := Lib.hid hpl; have HCL := Lib.hid hcl
  clear hpl hcl
  go_enter Try.func21, Try.ntmps21
  go_wp2_with fail
  refine HC.out.mono ?_
  rintro e w1 ⟨u, c, rfl, hbq, hr⟩
  have hbs : b < w1.heap.size := (Array.getElem?_eq_some_iff.1 hr.1).1
  have hm := hbq.below (hr.2.mono HW.out)
  have hown : w1.ownsRow w1.heap.size 5 1 (.slice none 0 0) 0 [] := ⟨rfl, .inl ⟨rfl, rfl⟩⟩
  obtain ⟨v2, w2, hrun, ho2, hg2⟩ := run_append_bytes (P := Try.prog) 22 byT w1.heap.size (.slice none 0 0) 0 [] hown (.slice u y c) m hm (by have := HL.out; have := HCL.out; omega) (Nat.le_refl _)
  have hb2 : Below w1.heap.size w1 w2 := (Below.refl _ _).grown hg2 (Nat.le_refl _) (by simp [Value.ownBlock])
  have ho2' : w2.ownsRow w1.heap.size 5 1 v2 m.length (cellsOf m) := by simpa using ho2
  have hb2' : Bytes w2 v2 m := owns_bytes ho2' hm.small hm.short
  have hr2 := hr.below hb2 HBB.out
  have f0 := free_of hr2.1
  have d2 := cells_of hr2.1 6
  simp only [List.getElem?_toArray, List.getElem?_cons_zero, List.getElem?_cons_succ] at d2
  have hdb : Bytes (w2.setCell ⟨b, 6, none⟩ v2) v2 m := hb2'.kept (row := some b) ⟨rfl, rfl, rfl, by simp [World.setCell], fun k _ hne => heap_setCell_other w2 _ k _ (fun e => hne (by rw [e]))⟩ (by
    rcases ho2'.2 with ⟨h, _⟩ | ⟨g, c1, cur, h, hge, _⟩
    · exact .inl (by rw [h]; rfl)
    · exact .inr (by rw [h]; simp only [Value.ownBlock]; intro h; have := Option.some.inj h; omega))
  have HR := Lib.hid (hr2.setD HBB.out v2); have HRUN := Lib.hid hrun; have HDB := Lib.hid hdb
  obtain ⟨pv, cv, rfl⟩ := shape_of ho2'
  clear hr hbq hm hown hrun ho2 hg2 hb2 ho2' hb2' hr2 hdb hbs
  go_wp2_with (at_builtin; refine Lib.wpList_append_run _ rfl (.const (.slice none 0 0)) (.tmp 11) 22 22 rfl _ _ rfl rfl _ w2 HRUN.out ?_)
  go_ret
  exact ⟨rfl, _, HDB.out, HR.out⟩

set_option maxRecDepth 100000 in
theorem end_any (B b : Nat) (w0 w : World) (sv : Value) (l : List Nat) (i : Nat) (q r : Int) (s t : ByteArray) (d : Value) (h : Ro B b w0 w sv i q s r t d) (hsv : Bytes w0 sv l) (hi : i ≤ l.length) :
    Calls Try.prog 22 #[.pointer (some ⟨b, 0, none⟩)] w fun e w' => e = .returned (.bool (decide (i = l.length))) ∧ w' = w.drew := by
  obtain ⟨p, cap, rfl, _⟩ := hsv.any
  have hm := hsv.short
  unfold maxLen at hm
  clear hsv
  have c0 := cells_of h.1 0
  have c1 := cells_of h.1 1
  simp only [List.getElem?_toArray, List.getElem?_cons_zero, List.getElem?_cons_succ] at c0 c1
  clear h
  have E : Hid (((i : Int) == (l.length : Int)) = decide (i = l.length)) := by
    unfold Hid
    rw [Bool.eq_iff_iff]; simp; omega
  go_enter Try.func22, Try.ntmps22
  go_wp2
  go_region
  go_wp2
  go_ret
  exact ⟨by rw [← E.out]; rfl, rfl⟩

set_option maxRecDepth 100000 in
theorem be_any {B b : Nat} {w0 w : World} {sv : Value} {i : Nat} {q r : Int} {s t : ByteArray} {d : Value} {ev : Ev} (h : Ro B b w0 w sv i q s r t d) (he : IsEv w (evVal q r s t d) ev q r s t d) :
    Calls Try.prog 23 #[.pointer (some ⟨b, 0, none⟩)] w fun e w' => e = .returned (.bool (mayEv ev)) ∧ Below w.heap.size w w' := by
  have HC := Lib.hid (may_any he)
  have c2 := cells_of h.1 2
  have c3 := cells_of h.1 3
  have c4 := cells_of h.1 4
  have c5 := cells_of h.1 5
  have c6 := cells_of h.1 6
  simp only [List.getElem?_toArray, List.getElem?_cons_zero, List.getElem?_cons_succ] at c2 c3 c4 c5 c6
  unfold evVal at HC
  clear h he
  go_enter Try.func23, Try.ntmps23
  go_wp2_with fail
  refine HC.out.mono ?_
  rintro e w1 ⟨rfl, hr⟩
  have HR := Lib.hid hr; clear hr
  go_wp2
  go_ret
  exact ⟨rfl, HR.out⟩
end Go.Proofs.Ytjjcfflgndclkaa

