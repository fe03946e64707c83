/- Nodes in a program: the reader's parts. -/
import Derived.Test.YtbjjaabmdjbodaaNdJ
import Derived.Deep.RegionWith
namespace Go.By
open Go Go.RowKit
theorem or_byte64 (n c : Nat) (hn : n < 72057594037927936) (hc : c < 256) : bits .or .u64 ((n * 256 : Nat) : Int) (c : Int) = ((n * 256 + c : Nat) : Int) := by
  have h := Nat.two_pow_add_eq_or_of_lt (i := 8) (b := c) hc n
  rw [(bits_nat .u64 64 (by decide) (fun n h0 h1 => by rw [IntKind.wrap_u64]; omega) (n * 256) c (by omega) (by omega)).2]
  have h3 : n * 256 ||| c = n * 256 + c := by rw [show n * 256 = 2 ^ 8 * n by omega, ← h]
  rw [h3]
theorem pTake_at {l : List Nat} {i n : Nat} (h : i + n ≤ l.length) : pTake n (l.drop i) = some (pc l i n, l.drop (i + n)) := by
  unfold pTake pc
  rw [if_pos (by rw [List.length_drop]; omega), List.drop_drop]
theorem pTake_no {l : List Nat} {i n : Nat} (h : ¬ i + n ≤ l.length) (hi : i ≤ l.length) : pTake n (l.drop i) = none := by
  unfold pTake
  rw [if_neg (by rw [List.length_drop]; omega)]
theorem drop_at {l : List Nat} {i : Nat} (h : i < l.length) : l.drop i = atB l i :: l.drop (i + 1) := by
  rw [List.drop_eq_getElem_cons h, atB_of h]
theorem pText_at {l : List Nat} {i : Nat} (h : i + 1 + atB l i ≤ l.length) : pText (l.drop i) = some (pc l (i + 1) (atB l i), l.drop (i + 1 + atB l i)) := by
  rw [drop_at (by omega)]
  exact pTake_at h
theorem pText_no {l : List Nat} {i : Nat} (h : ¬ i + 1 + atB l i ≤ l.length) (hi : i ≤ l.length) : pText (l.drop i) = none := by
  by_cases h1 : i < l.length
  · rw [drop_at h1]
    exact pTake_no h (by omega)
  · rw [List.drop_of_length_le (by omega)]
    rfl
theorem pc_one {l : List Nat} {i : Nat} (h : i + 1 ≤ l.length) : pc l i 1 = [atB l i] := by
  unfold pc
  rw [List.drop_eq_getElem_cons (by omega), atB_of (by omega)]
  rfl
end Go.By
namespace Go.Proofs.Ytbjjaabmdjbodaa
open Go Go.RowKit Go.By

/-- The reader, in its block. -/
def RdAt (w : World) (b : Nat) (sv : Value) (i : Nat) (lf : Bool) (iv kv dv fv : Value) : Prop := w.heap[b]? = some (.cells #[sv, .int .i64 i, .bool lf, iv, kv, dv, fv] 47 (0, 0))
section
variable {w : World} {b i : Nat} {sv : Value} {lf : Bool} {iv kv dv fv : Value}
theorem RdAt.lt (h : RdAt w b sv i lf iv kv dv fv) : b < w.heap.size := (Array.getElem?_eq_some_iff.1 h).1
theorem RdAt.setAt (h : RdAt w b sv i lf iv kv dv fv) (x : Nat) : RdAt (w.setCell ⟨b, 1, none⟩ (.int .i64 x)) b sv x lf iv kv dv fv := set_heap h 1 _
theorem RdAt.setLf (h : RdAt w b sv i lf iv kv dv fv) (x : Bool) : RdAt (w.setCell ⟨b, 2, none⟩ (.bool x)) b sv i x iv kv dv fv := set_heap h 2 _
theorem RdAt.setIv (h : RdAt w b sv i lf iv kv dv fv) (x : Value) : RdAt (w.setCell ⟨b, 3, none⟩ x) b sv i lf x kv dv fv := set_heap h 3 _
theorem RdAt.setKv (h : RdAt w b sv i lf iv kv dv fv) (x : Value) : RdAt (w.setCell ⟨b, 4, none⟩ x) b sv i lf iv x dv fv := set_heap h 4 _
theorem RdAt.setDv (h : RdAt w b sv i lf iv kv dv fv) (x : Value) : RdAt (w.setCell ⟨b, 5, none⟩ x) b sv i lf iv kv x fv := set_heap h 5 _
theorem RdAt.setFv (h : RdAt w b sv i lf iv kv dv fv) (x : Value) : RdAt (w.setCell ⟨b, 6, none⟩ x) b sv i lf iv kv dv x := set_heap h 6 _
theorem RdAt.below' {w' : World} (h : RdAt w b sv i lf iv kv dv fv) (hb : Below w.heap.size w w') : RdAt w' b sv i lf iv kv dv fv := (hb.block _ h.lt).trans h
end

/-- What next tells. -/
def NextNo (b : Nat) (w : World) (sv : Value) (i : Nat) (lf : Bool) (iv kv dv fv : Value) (e : Ending) (w' : World) : Prop :=
  e = .returned (.tuple #[.slice none 0 0, .bool false]) ∧ RdAt w' b sv i lf iv kv dv fv ∧ Only b w w'
def NextYes (w0 : World) (b : Nat) (w : World) (sv : Value) (l : List Nat) (i n : Nat) (lf : Bool) (iv kv dv fv : Value) (e : Ending) (w' : World) : Prop :=
  ∃ u c, e = .returned (.tuple #[.slice u n c, .bool true]) ∧ Bytes w0 (.slice u n c) (pc l i n) ∧ RdAt w' b sv (i + n) lf iv kv dv fv ∧ Only b w w'
/-- What size tells. -/
def SizeTold (b : Nat) (w : World) (sv : Value) (l : List Nat) (i : Nat) (lf : Bool) (iv kv dv fv : Value) (e : Ending) (w' : World) : Prop :=
  (i < l.length ∧ e = .returned (.tuple #[.int .i64 (atB l i : Nat), .bool true]) ∧ RdAt w' b sv (i + 1) lf iv kv dv fv ∧ Only b w w') ∨
  (l.length ≤ i ∧ e = .returned (.tuple #[.int .i64 0, .bool false]) ∧ RdAt w' b sv i lf iv kv dv fv ∧ Only b w w')
/-- What text tells, where it lays it. -/
def TextTold (b t c : Nat) (cs : Array Value) (T : TypeId) (w : World) (sv : Value) (l : List Nat) (i : Nat) (lf : Bool) (iv kv dv fv : Value) (e : Ending) (w' : World) : Prop :=
  ∃ v m i' ok, e = .returned (.bool ok) ∧ Txt w' b v m ∧ w'.heap[t]? = some (.cells (cs.setIfInBounds c v) T (0, 0)) ∧ RdAt w' b sv i' lf iv kv dv fv ∧ Only2 b t w w' ∧ i' ≤ l.length ∧
    ((ok = true ∧ pText (l.drop i) = some (m, l.drop i')) ∨ (ok = false ∧ pText (l.drop i) = none))
/-- What number tells, where it lays it. -/
def NumTold (b t : Nat) (T : TypeId) (w : World) (sv : Value) (l : List Nat) (i : Nat) (lf : Bool) (iv kv dv fv : Value) (e : Ending) (w' : World) : Prop :=
  ∃ n i' ok, e = .returned (.bool ok) ∧ n < 18446744073709551616 ∧ w'.heap[t]? = some (.cells #[.int .u64 (n : Nat)] T (0, 0)) ∧ RdAt w' b sv i' lf iv kv dv fv ∧ Only2 b t w w' ∧ i' ≤ l.length ∧
    ((ok = true ∧ ∃ a, pTake 8 (l.drop i) = some (a, l.drop i') ∧ n = numOf a) ∨ (ok = false ∧ pTake 8 (l.drop i) = none))

section
variable (w0 : World) (b : Nat) (w : World) (sv : Value) (l : List Nat) (i : Nat) (lf : Bool) (iv kv dv fv : Value)

set_option maxRecDepth 100000 in
theorem next_no (h : RdAt w b sv i lf iv kv dv fv) (hsv : Bytes w0 sv l) (n : Nat) (hi : i ≤ l.length) (hn : n ≤ 4611686018427387904) (hlt : l.length < i + n) :
    Calls Try.prog 33 #[.pointer (some ⟨b, 0, none⟩), .int .i64 n] w (NextNo b w sv i lf iv kv dv fv) := by
  obtain ⟨p, cap, rfl, _⟩ := hsv.any
  have hm := hsv.short
  unfold maxLen at hm
  clear hsv
  have c0 := cells_of h 0
  have c1 := cells_of h 1
  simp only [List.getElem?_toArray, List.getElem?_cons_zero, List.getElem?_cons_succ] at c0 c1
  have H := Lib.hid h; clear h
  have b1 : (l.length : Int) - i < n := by omega
  clear hlt
  go_enter Try.func33, Try.ntmps33
  go_wp2
  go_region
  go_wp2
  go_ret2
  exact ⟨rfl, H.out, Only.drewN b w 1⟩

set_option maxRecDepth 100000 in
theorem next_yes (h : RdAt w b sv i lf iv kv dv fv) (hsv : Bytes w0 sv l) (n : Nat) (hlt : i + n ≤ l.length) :
    Calls Try.prog 33 #[.pointer (some ⟨b, 0, none⟩), .int .i64 n] w (NextYes w0 b w sv l i n lf iv kv dv fv) := by
  obtain ⟨p, cap, rfl, _⟩ := hsv.any
  have hm := hsv.short
  unfold maxLen at hm
  obtain ⟨u, c, hsl, hbq⟩ := piece_run hsv i n hlt
  have HBZ := Lib.hid hbq
  clear hsv hbq
  have c0 := cells_of h 0
  have c1 := cells_of h 1
  have f0 := free_of h
  simp only [List.getElem?_toArray, List.getElem?_cons_zero, List.getElem?_cons_succ] at c0 c1
  have hd : RdAt w.drew b (.slice p l.length cap) i lf iv kv dv fv := h
  have H2 := Lib.hid (hd.setAt (i + n))
  have H := Lib.hid h; clear h hd
  have b1 : ¬ (l.length : Int) - i < n := by omega
  clear hlt
  go_enter Try.func33, Try.ntmps33
  go_wp2
  go_region
  go_wp2
  go_region
  go_wp2
  go_ret2
  exact ⟨_, _, rfl, HBZ.out, H2.out, ((Only.drewN b w 1).trans (Only.set b 1 _ _)).trans (Only.drewN b _ 1)⟩

set_option maxRecDepth 100000 in
theorem size_any (h : RdAt w b sv i lf iv kv dv fv) (hsv : Bytes w0 sv l) (h0 : Below w0.heap.size w0 w) (hb : w0.heap.size ≤ b) (hi : i ≤ l.length) :
    Calls Try.prog 36 #[.pointer (some ⟨b, 0, none⟩)] w (SizeTold b w sv l i lf iv kv dv fv) := by
  by_cases h1 : i + 1 ≤ l.length
  · have HC := Lib.hid (next_yes w0 b w sv l i lf iv kv dv fv h hsv 1 h1)
    have hcl : atB l i < 256 := hsv.at_lt (by omega)
    unfold NextYes at HC
    rw [pc_one h1] at HC
    have H0 := Lib.hid h0; have HB := Lib.hid hb; have HL := Lib.hid h1; have HS := Lib.hid h.lt
    clear h hsv h0 hb hi h1
    generalize hya : atB l i = y at *
    have HYA := Lib.hid hya
    have hy : (y : Int) < 256 := by omega
    clear hya
    go_enter Try.func36, Try.ntmps36
    go_wp2_with fail
    refine HC.out.mono ?_
    rintro e w1 ⟨u, c, rfl, hbq, hr, ho⟩
    have hb1 : Below w0.heap.size w0 w1 := Below.only H0.out HB.out (Nat.le_of_lt (Nat.lt_of_le_of_lt HB.out HS.out)) ho
    obtain ⟨b1, o1, rfl, hcell⟩ := (hbq.below hb1).spot 0 (by simp)
    rw [show atB [y] 0 = y by simp [atB], Nat.add_zero] at hcell
    have HR := Lib.hid hr; have HO := Lib.hid ho; clear hr ho hbq hb1
    go_wp2
    go_ret2
    exact .inl ⟨HL.out, by rw [HYA.out]; rfl, HR.out, HO.out⟩
  · have HC := Lib.hid (next_no w0 b w sv l i lf iv kv dv fv h hsv 1 hi (by omega) (by omega))
    have HL : Hid (l.length ≤ i) := by unfold Hid; omega
    unfold NextNo at HC
    clear h hsv h0 hb hi h1
    go_enter Try.func36, Try.ntmps36
    go_wp2_with fail
    refine HC.out.mono ?_
    rintro e w1 ⟨rfl, hr, ho⟩
    have HR := Lib.hid hr; have HO := Lib.hid ho; clear hr ho
    go_wp2
    go_ret2
    exact .inr ⟨HL.out, rfl, HR.out, HO.out⟩
end
end Go.Proofs.Ytbjjaabmdjbodaa

