/- Own texts, merged: FlB, FlC, FlD, FlE, FlF, FlG, FlP, FlI, FlH, FlJ, FlK, FlL, FlM. -/
import Derived.Test.YtldkeelgnfegeaaGreatM5
import Derived.Handy
import Derived.BigQuiet
import Derived.Deep.QuietTactic
import Derived.Lib.SlBytesConst
import Derived.Maps.AppendAt

/- A file of a disk: what it is in memory; what is asked of it without an operation; records and slots, put. -/
namespace Go.Proofs.YtldkeelgnfegeaaGreat
open Go Go.RowKit Go.By

/-- A row of one's own: where it lies. -/
theorem own_shape {w : World} {base : Nat} {v : Value} {l : List Nat} (h : w.ownsRow base 5 1 v l.length (cellsOf l)) : ∃ p c, v = .slice p l.length c ∧ ∀ k, (Value.slice p l.length c).ownBlock = some k → base ≤ k ∧ k < w.heap.size := by
  rcases h.2 with ⟨h1, h2⟩ | ⟨g, c, cur, h1, h2, h3, h4⟩
  · exact ⟨none, 0, by rw [h1]; congr 1; omega, fun k hk => (by cases hk)⟩
  · refine ⟨_, c, h1, fun k hk => ?_⟩
    cases hk
    exact ⟨by first | exact h2 | exact h3 | exact h4.1 | omega, (Array.getElem?_eq_some_iff.1 (by first | exact h2 | exact h3)).1⟩

theorem recPut (k : Nat) (v : Value) (l : List Nat) (w : World) (hk : k < 256) (hv : Bytes w v l) (hl : l.length ≤ 4096) :
    Calls Tryz.prog 56 #[.int .u8 k, v] w fun e w' => ∃ p c, e = .returned (.tuple #[.slice p (recOf k l).length c, .int .i64 0]) ∧ Bytes w' (.slice p (recOf k l).length c) (recOf k l) ∧ (∀ j, (Value.slice p (recOf k l).length c).ownBlock = some j → w.heap.size ≤ j) ∧ Below w.heap.size w w' := by
  refine (Rc.put_any k v l w hk hv hl).mono ?_
  rintro e w' ⟨v', rfl, ho, hb⟩
  obtain ⟨p, c, rfl, hg⟩ := own_shape ho
  exact ⟨p, c, rfl, Bytes.of_owns ho (recOf_small hk hv.small) (by rw [recOf_length]; unfold maxLen; omega), fun j hj => (hg j hj).1, hb⟩
theorem recTake (k : Nat) (b m : List Nat) (sv : Value) (w : World) (hk : k < 256) (hb : b.length ≤ 4096) (hm : m.length ≤ 1048576) (hs : ∀ c ∈ b, c < 256) (hsv : Bytes w sv (recOf k b ++ m)) :
    Calls Tryz.prog 36 #[sv] w fun e w' => ∃ p c, e = .returned (.tuple #[.int .u8 k, .slice p b.length c, .int .i64 (9 + b.length : Nat), .int .i64 0]) ∧ Bytes w' (.slice p b.length c) b ∧ Below w.heap.size w w' := by
  refine (Rc.take_any sv _ w hsv (by rw [List.length_append, recOf_length]; omega)).mono ?_
  rintro e w' ⟨v, hbw, h⟩
  rw [if_pos (isRec_rec hk hb hs), kind_rec, bodyLen_rec k b m hb, body_rec] at h
  obtain ⟨p, c, rfl, _⟩ := own_shape h.2
  exact ⟨p, c, h.1, Bytes.of_owns h.2 hs (by unfold maxLen; omega), hbw⟩
theorem slotPut (g : Nat) (v : Value) (l : List Nat) (w : World) (hg : g < 18446744073709551616) (hv : Bytes w v l) (hl : l.length ≤ 113) :
    Calls Tryz.prog 62 #[.int .u64 g, v] w fun e w' => ∃ p c, e = .returned (.tuple #[.slice p (slotOf g l).length c, .int .i64 0]) ∧ Bytes w' (.slice p (slotOf g l).length c) (slotOf g l) ∧ (∀ j, (Value.slice p (slotOf g l).length c).ownBlock = some j → w.heap.size ≤ j) ∧ Below w.heap.size w w' := by
  refine (Sl.put_any g v l w hg hv hl).mono ?_
  rintro e w' ⟨rfl, hF⟩
  have h3 := hF.sec (slotOf_length hl) (slotOf_small hl hv.small)
  rw [slotOf_length hl]
  exact ⟨_, _, rfl, h3.1, fun j hj => (by cases hj; exact Nat.le_refl _), hF.2⟩

/-- The file of the name s on the disk at a, in its block g; E is what it knows to have been written. -/
structure Fil (W : World) (g a : Nat) (s : ByteArray) (E : Nat) (own : Own) (w : World) : Prop where
  cells : w.heap[g]? = some (.cells #[.pointer (some ⟨a, 0, none⟩), .string s, .int .i64 E] 59 (0, 0))
  free : own g = none
  far : W.heap.size ≤ g
theorem Fil.lt {W w : World} {g a : Nat} {s : ByteArray} {E : Nat} {own : Own} (h : Fil W g a s E own w) : g < w.heap.size := (Array.getElem?_eq_some_iff.1 h.cells).1
theorem Fil.steps {W w w' : World} {g a : Nat} {s : ByteArray} {E : Nat} {own own' : Own} (h : Fil W g a s E own w) (hs : Steps own own' w w') : Fil W g a s E own' w' :=
  ⟨(hs.block g h.lt (.inl h.free)).trans h.cells, (hs.same g h.lt).trans h.free, h.far⟩
theorem Fil.stay {W w w' : World} {g a : Nat} {s : ByteArray} {E : Nat} {own : Own} (h : Fil W g a s E own w) (hb : Below w.heap.size w w') : Fil W g a s E own w' := h.steps (Steps.of_below hb)
theorem Fil.same {W w w' : World} {g a : Nat} {s : ByteArray} {E : Nat} {own : Own} (h : Fil W g a s E own w) (hk : w'.heap[g]? = w.heap[g]?) : Fil W g a s E own w' := ⟨hk.trans h.cells, h.free, h.far⟩

set_option maxRecDepth 100000 in
theorem isNone_any {W w : World} {g a : Nat} {s : ByteArray} {E : Nat} {own : Own} (h : Fil W g a s E own w) :
    Calls Tryz.prog 28 #[.pointer (some ⟨g, 0, none⟩)] w fun e w' => e = .returned (.bool false) ∧ w = w' := by
  have c0 := cells_of h.cells 0
  clear h
  go_enter Tryz.func28, Tryz.ntmps28
  go_wp2
  go_ret
  exact ⟨rfl, rfl⟩
set_option maxRecDepth 100000 in
theorem isNone_nil (w : World) : Calls Tryz.prog 28 #[.pointer none] w fun e w' => e = .returned (.bool true) ∧ w = w' := by
  go_enter Tryz.func28, Tryz.ntmps28
  go_wp2
  go_ret
  exact ⟨rfl, rfl⟩

set_option maxRecDepth 100000 in
theorem name_any {W w : World} {g a : Nat} {s : ByteArray} {E : Nat} {own : Own} (h : Fil W g a s E own w) :
    Calls Tryz.prog 18 #[.pointer (some ⟨g, 0, none⟩)] w fun e w' => e = .returned (.string s) ∧ w = w' := by
  have HN := Lib.hid (isNone_any h)
  have c1 := cells_of h.cells 1
  clear h
  go_enter Tryz.func18, Tryz.ntmps18
  go_wp2_with fail
  refine HN.out.mono ?_
  rintro e w1 ⟨rfl, rfl⟩
  go_wp2
  go_ret
  exact ⟨rfl, rfl⟩

/-- Where the next record goes. -/
def endAt (S : Sk) (s : ByteArray) (E : Nat) : Nat := max E ((S.size s).getD 0)
set_option maxRecDepth 100000 in
theorem end_any {W w : World} {g a : Nat} {s : ByteArray} {E : Nat} {S : Sk} {own : Own} (hD : Dsk W a S own w) (h : Fil W g a s E own w) :
    Calls Tryz.prog 20 #[.pointer (some ⟨g, 0, none⟩)] w fun e w' => e = .returned (.int .i64 (endAt S s E)) ∧ ∃ m, w' = w.drewN m := by
  have HN := Lib.hid (isNone_any h)
  have c0 := cells_of h.cells 0
  have c1 := cells_of h.cells 1
  have c2 := cells_of h.cells 2
  have hs : ∀ n, Calls Tryz.prog 34 #[.pointer (some ⟨a, 0, none⟩), .string s] (w.drewN n) fun e w' => e = .returned (sizeV (S.size s)) ∧ w' = w.drewN n := fun n => (Dsk.size (w := w.drewN n) (hD.stay (Sl.below_drewN w n)) s).mono fun _ _ h => ⟨h.1, h.2.symm⟩
  have HS := Lib.hid hs
  have HE : Hid (endAt S s E = max E ((S.size s).getD 0)) := rfl
  clear h hD hs
  cases hz : S.size s with
  | none =>
    rw [hz] at HS HE
    unfold sizeV at HS
    clear hz
    go_enter Tryz.func20, Tryz.ntmps20
    go_wp2_with (go_at_call 28; refine HN.out.mono ?_; rintro e w1 ⟨rfl, rfl⟩)
    go_quiet ((go_at_call 34; exact Calls.quiet_of_same (HS.out _)))
    go_wp2
    go_ret
    exact ⟨by rw [HE.out]; simp, _, rfl⟩
  | some n =>
    rw [hz] at HS HE
    unfold sizeV at HS
    clear hz
    go_enter Tryz.func20, Tryz.ntmps20
    go_wp2_with (go_at_call 28; refine HN.out.mono ?_; rintro e w1 ⟨rfl, rfl⟩)
    go_quiet ((go_at_call 34; exact Calls.quiet_of_same (HS.out _)))
    go_wp2
    all_goals
      go_ret
      exact ⟨by rw [HE.out, Option.getD_some]; first | rw [Nat.max_eq_right (by omega)]; rfl | rw [Nat.max_eq_left (by omega)]; rfl, _, rfl⟩

theorem below_same {w w0 : World} (e1 : w0.heap = w.heap) (e2 : w0.os = w.os) (e3 : w0.tape = w.tape) (e4 : w0.output = w.output) : Below w.heap.size w w0 := ⟨e2, e3, e4, by rw [e1]; exact Nat.le_refl _, fun _ _ => by rw [e1]⟩
theorem Fil.at_ {W w : World} {g a : Nat} {s : ByteArray} {E : Nat} {own : Own} (h : Fil W g a s E own w) : w.cell? ⟨g, 0, none⟩ = some (.pointer (some ⟨a, 0, none⟩)) ∧ w.cell? ⟨g, 1, none⟩ = some (.string s) ∧ w.cell? ⟨g, 2, none⟩ = some (.int .i64 E) := ⟨cells_of h.cells 0, cells_of h.cells 1, cells_of h.cells 2⟩

theorem Dsk.write_held {W w : World} {g a : Nat} {s : ByteArray} {E : Nat} {S : Sk} {own : Own} (h : Dsk W a S own w) (hf : Fil W g a s E own w) (hF : S.Fine) (hs : s.size ≤ maxLen) (off : Int) {bv : Value} {b : List Nat} (hb : Bytes w bv b) (hbk : b ≠ [] → ∀ k, bv.ownBlock = some k → own k = none ∨ own k = some .ink) (hbl : b.length ≤ 1048576) :
    ∀ w0 : World, w0.heap = w.heap → w0.os = w.os → w0.tape = w.tape → w0.output = w.output → Calls Tryz.prog 55 #[.pointer (some ⟨a, 0, none⟩), .string s, .int .i64 off, bv] w0 fun e w' => e = .returned (.int .i64 (S.write s off b).2) ∧
      w'.cell? ⟨g, 0, none⟩ = some (.pointer (some ⟨a, 0, none⟩)) ∧ w'.cell? ⟨g, 1, none⟩ = some (.string s) ∧ ∃ own', Steps own own' w w' ∧ Dsk W a (S.write s off b).1 own' w' := by
  intro w0 e1 e2 e3 e4
  have hb0 := below_same e1 e2 e3 e4
  refine ((h.stay hb0).write hF s hs off (hb.below hb0) hbk hbl).mono ?_
  rintro e w' ⟨rfl, own', hst, hd⟩
  have hf' := (hf.stay hb0).steps hst
  exact ⟨rfl, hf'.at_.1, hf'.at_.2.1, own', (Steps.of_below hb0).trans hst, hd⟩

set_option maxRecDepth 100000 in
theorem recordPut (k : Nat) (v : Value) (l : List Nat) (w : World) (hk : k < 256) (hv : Bytes w v l) (hl : l.length ≤ 4096) :
    Calls Tryz.prog 27 #[.agg #[.int .u8 k, v]] w fun e w' => ∃ p c, e = .returned (.tuple #[.slice p (recOf k l).length c, .int .i64 0]) ∧ Bytes w' (.slice p (recOf k l).length c) (recOf k l) ∧ (∀ j, (Value.slice p (recOf k l).length c).ownBlock = some j → w.heap.size ≤ j) ∧ Below w.heap.size w w' := by
  have HP := Lib.hid (recPut k v l (w.alloc (.cells #[.int .u8 k, v] 65)) hk (hv.below ((Below.refl _ _).alloc (Nat.le_refl _) _)) hl)
  have hlt := fun (i : Nat) (x : Value) (h : #[Value.int .u8 k, v][i]? = some x) => (cells_of (heap_alloc_new w (.cells #[Value.int .u8 k, v] 65)) i).trans h
  have h0 := hlt 0 _ rfl
  have h1 := hlt 1 _ rfl
  clear hv hlt
  go_enter Tryz.func27, Tryz.ntmps27
  go_wp2_with fail
  refine HP.out.mono ?_
  rintro e w1 ⟨p, c, rfl, hb1, hfar, hbw⟩
  have hz : w.heap.size + 1 = (w.alloc (.cells #[Value.int .u8 k, v] 65)).heap.size := by simp
  have HFIN : Hid (Bytes w1 (.slice p (recOf k l).length c) (recOf k l) ∧ (∀ j, (Value.slice p (recOf k l).length c).ownBlock = some j → w.heap.size ≤ j) ∧ Below w.heap.size w w1) :=
    ⟨hb1, fun j hj => by have := hfar j hj; omega, ((Below.refl w.heap.size w).alloc (Nat.le_refl _) _).trans (hbw.mono (by omega))⟩
  clear hb1 hfar hbw hz HP h0 h1
  go_wp2
  go_ret2
  exact ⟨p, c, rfl, HFIN.out⟩
set_option maxRecDepth 100000 in
theorem layRec_any {W w : World} {g a : Nat} {s : ByteArray} {E : Nat} {S : Sk} {own : Own} (hD : Dsk W a S own w) (h : Fil W g a s E own w) (hF : S.Fine) (hs : s.size ≤ maxLen) (off : Int) (k : Nat) (hk : k < 256) {bv : Value} {b : List Nat} (hb : Bytes w bv b) (hbl : b.length ≤ 4096) :
    Calls Tryz.prog 26 #[.pointer (some ⟨g, 0, none⟩), .int .i64 off, .func (.func 27) #[.agg #[.int .u8 k, bv]] #[]] w fun e w' =>
      e = .returned (.tuple #[.int .i64 (if (S.write s off (recOf k b)).2 = 0 then 9 + b.length else 0 : Nat), .int .i64 (S.write s off (recOf k b)).2]) ∧ ∃ own', Steps own own' w w' ∧ Dsk W a (S.write s off (recOf k b)).1 own' w' := by
  have HN := Lib.hid (isNone_any h)
  have HP := Lib.hid (recordPut k bv b w hk hb hbl)
  have hrl : (recOf k b).length = 9 + b.length := recOf_length k b
  have HW : Hid (∀ w1 p c, Bytes w1 (.slice p (recOf k b).length c) (recOf k b) → (∀ j, (Value.slice p (recOf k b).length c).ownBlock = some j → w.heap.size ≤ j) → Below w.heap.size w w1 → _) := fun w1 p c hb1 hfar hbw => (hD.stay hbw).write_held (h.stay hbw) hF hs off hb1 (fun _ j hj => .inl (hD.new_none (hfar j hj))) (by omega)
  have HH := Lib.hid h
  clear hD h hb hF
  rw [hrl] at HW HP
  have hsb : ∃ S2 x, S.write s off (recOf k b) = (S2, x) := ⟨_, _, rfl⟩
  obtain ⟨S2, x, hR⟩ := hsb
  rw [hR] at HW ⊢
  clear hR
  dsimp only at HW ⊢
  go_enter Tryz.func26, Tryz.ntmps26
  go_wp2_with (go_at_call 28; refine HN.out.mono ?_; rintro e w1 ⟨rfl, rfl⟩)
  refine HP.out.mono ?_
  rintro e w1 ⟨p, c, rfl, hb1, hfar, hbw⟩
  have HW1 := Lib.hid (HW.out w1 p c hb1 hfar hbw)
  obtain ⟨c0, c1, _⟩ := (HH.out.stay hbw).at_
  have HB := Lib.hid hbw
  clear hb1 hfar hbw HN HP HH HW
  go_wp2
  go_region_held3 (fun w' => w'.cell? ⟨g, 0, none⟩ = some (.pointer (some ⟨a, 0, none⟩)) ∧ w'.cell? ⟨g, 1, none⟩ = some (.string s)) (go_keep)
    (first | (go_at_call 55; refine (HW1.out _ (by rfl) (by rfl) (by rfl) (by rfl)).mono ?_; rintro e w2 ⟨rfl, d0, d1, hfin⟩))
  have HFIN : Hid (∃ own', Steps own own' w w2 ∧ Dsk W a S2 own' w2) := let ⟨own', hs, hd⟩ := hfin; ⟨own', (Steps.of_below HB.out).trans hs, hd⟩
  clear hfin HW1 HB
  by_cases hx : x = 0
  · subst hx
    go_wp2
    go_ret2
    exact ⟨rfl, HFIN.out⟩
  · go_wp2
    go_ret2
    exact ⟨rfl, HFIN.out⟩

/-- Append: a record at the end. -/
def appendAt (S : Sk) (s : ByteArray) (E k : Nat) (b : List Nat) : Sk × Int := S.write s (endAt S s E) (recOf k b)
/-- What turned is the disk's, or the file's block. -/
structure Moves (g : Nat) (own own' : Own) (w w' : World) : Prop where
  os : w'.os = w.os
  tape : w'.tape = w.tape
  output : w'.output = w.output
  size : w.heap.size ≤ w'.heap.size
  block : ∀ k, k < w.heap.size → k ≠ g → (own k = none ∨ own k = some .ink) → w'.heap[k]? = w.heap[k]?
  same : ∀ k, k < w.heap.size → own' k = own k
theorem Steps.moves {own own' : Own} {w w' : World} (h : Steps own own' w w') (g : Nat) : Moves g own own' w w' := ⟨h.os, h.tape, h.output, h.size, fun k hk _ ho => h.block k hk ho, h.same⟩
theorem Moves.trans {g : Nat} {o1 o2 o3 : Own} {w1 w2 w3 : World} (h : Moves g o1 o2 w1 w2) (k : Moves g o2 o3 w2 w3) : Moves g o1 o3 w1 w3 :=
  ⟨k.os.trans h.os, k.tape.trans h.tape, k.output.trans h.output, Nat.le_trans h.size k.size,
    fun b hb hg hn => (k.block b (Nat.lt_of_lt_of_le hb h.size) hg (by rw [h.same b hb]; exact hn)).trans (h.block b hb hg hn),
    fun b hb => (k.same b (Nat.lt_of_lt_of_le hb h.size)).trans (h.same b hb)⟩
theorem Moves.refl (g : Nat) (own : Own) (w : World) : Moves g own own w w := ⟨rfl, rfl, rfl, Nat.le_refl _, fun _ _ _ _ => rfl, fun _ _ => rfl⟩
theorem Moves.set (g : Nat) (own : Own) (w : World) (j : Nat) (v : Value) : Moves g own own w (w.setCell ⟨g, j, none⟩ v) :=
  ⟨rfl, rfl, rfl, by simp, fun _ _ hk _ => Below.heap_setCell _ _ _ _ hk, fun _ _ => rfl⟩
theorem Fil.move {W w w' : World} {g g' a : Nat} {s : ByteArray} {E : Nat} {own own' : Own} (h : Fil W g a s E own w) (hs : Moves g' own own' w w') (hne : g ≠ g') : Fil W g a s E own' w' :=
  ⟨(hs.block g h.lt hne (.inl h.free)).trans h.cells, (hs.same g h.lt).trans h.free, h.far⟩

set_option maxRecDepth 100000 in
theorem append_any {W w : World} {g a : Nat} {s : ByteArray} {E : Nat} {S : Sk} {own : Own} (hD : Dsk W a S own w) (h : Fil W g a s E own w) (hF : S.Fine) (hs : s.size ≤ maxLen) (k : Nat) (hk : k < 256) {bv : Value} {b : List Nat} (hb : Bytes w bv b) (hbl : b.length ≤ 4096) (hE : endAt S s E ≤ 1099511627776) :
    Calls Tryz.prog 10 #[.pointer (some ⟨g, 0, none⟩), .int .u8 k, bv] w fun e w' =>
      e = .returned (.tuple #[.int .i64 (if (appendAt S s E k b).2 = 0 then endAt S s E else 0 : Nat), .int .i64 (appendAt S s E k b).2]) ∧ ∃ own', Moves g own own' w w' ∧ Dsk W a (appendAt S s E k b).1 own' w' ∧
        Fil W g a s (if (appendAt S s E k b).2 = 0 then endAt S s E + (9 + b.length) else E) own' w' := by
  obtain ⟨q, cq, rfl, _⟩ := hb.any
  have HE := Lib.hid (end_any hD h)
  have HL : Hid (∀ m, _) := fun m => layRec_any (hD.stay (Sl.below_drewN w m)) (h.stay (Sl.below_drewN w m)) hF hs (endAt S s E) k hk (Sl.bytes_drewN hb m) hbl
  have HH := Lib.hid h
  clear hD h hb hF
  have hsb : ∃ S2 x, S.write s (endAt S s E) (recOf k b) = (S2, x) := ⟨_, _, rfl⟩
  unfold appendAt
  obtain ⟨S2, x, hR⟩ := hsb
  rw [hR] at HL ⊢
  clear hR
  dsimp only at HL ⊢
  obtain ⟨N, hN⟩ : ∃ N, N = endAt S s E := ⟨_, rfl⟩
  rw [← hN] at HE HL hE ⊢
  clear hN
  go_enter Tryz.func10, Tryz.ntmps10
  go_wp2_with fail
  refine HE.out.mono ?_
  rintro e w1 ⟨rfl, m, rfl⟩
  go_wp2_with fail
  refine (HL.out m).mono ?_
  rintro e w2 ⟨rfl, own2, hst, hd⟩
  have hst2 := (Steps.of_below (own := own) (Sl.below_drewN w m)).trans hst
  have hf2 := HH.out.steps hst2
  have c2 := hf2.at_.2.2
  have fz := free_of hf2.cells 2
  have hset : ∀ M : Nat, Moves g own own2 w (w2.setCell ⟨g, 2, none⟩ (.int .i64 M)) ∧ Dsk W a S2 own2 (w2.setCell ⟨g, 2, none⟩ (.int .i64 M)) ∧ Fil W g a s M own2 (w2.setCell ⟨g, 2, none⟩ (.int .i64 M)) := fun M =>
    ⟨(hst2.moves g).trans (Moves.set g own2 w2 2 _), hd.set hf2.free hf2.far 2 _, (set_heap hf2.cells 2 _).1, hf2.free, hf2.far⟩
  have HSET := Lib.hid hset
  have HNO : Hid (Moves g own own2 w w2 ∧ Dsk W a S2 own2 w2 ∧ Fil W g a s E own2 w2) := ⟨hst2.moves g, hd, hf2⟩
  clear hst hd hst2 hf2 hset HE HL HH
  by_cases hx : x = 0
  · subst hx
    have hw : IntKind.i64.wrap ((N : Int) + ((9 + b.length : Nat) : Int)) = ((N + (9 + b.length) : Nat) : Int) := by rw [IntWalk.i64_in _ (by omega)]; omega
    go_wp2
    have hn : (N : Int) + (9 + (b.length : Int)) = ((N + (9 + b.length) : Nat) : Int) := by omega
    rw [hn]
    go_ret2
    exact ⟨rfl, own2, HSET.out _⟩
  · go_wp2
    go_ret2
    exact ⟨rfl, own2, HNO.out⟩
end Go.Proofs.YtldkeelgnfegeaaGreat

/- A file of a disk: what is held; what is read; Sync; Create; Open. -/
namespace Go.Proofs.YtldkeelgnfegeaaGreat
open Go Go.RowKit Go.By

set_option maxRecDepth 100000 in
theorem statePut (k : Nat) (v : Value) (l : List Nat) (w : World) (hk : k < 18446744073709551616) (hv : Bytes w v l) (hl : l.length ≤ 113) :
    Calls Tryz.prog 37 #[.agg #[.int .u64 k, v]] w fun e w' => ∃ p c, e = .returned (.tuple #[.slice p (slotOf k l).length c, .int .i64 0]) ∧ Bytes w' (.slice p (slotOf k l).length c) (slotOf k l) ∧ (∀ j, (Value.slice p (slotOf k l).length c).ownBlock = some j → w.heap.size ≤ j) ∧ Below w.heap.size w w' := by
  have HP := Lib.hid (slotPut k v l (w.alloc (.cells #[.int .u64 k, v] 83)) hk (hv.below ((Below.refl _ _).alloc (Nat.le_refl _) _)) hl)
  have hlt := fun (i : Nat) (x : Value) (h : #[Value.int .u64 k, v][i]? = some x) => (cells_of (heap_alloc_new w (.cells #[Value.int .u64 k, v] 83)) i).trans h
  have h0 := hlt 0 _ rfl
  have h1 := hlt 1 _ rfl
  clear hv hlt
  go_enter Tryz.func37, Tryz.ntmps37
  go_wp2_with fail
  refine HP.out.mono ?_
  rintro e w1 ⟨p, c, rfl, hb1, hfar, hbw⟩
  have hz : w.heap.size + 1 = (w.alloc (.cells #[Value.int .u64 k, v] 83)).heap.size := by simp
  have HFIN : Hid (Bytes w1 (.slice p (slotOf k l).length c) (slotOf k l) ∧ (∀ j, (Value.slice p (slotOf k l).length c).ownBlock = some j → w.heap.size ≤ j) ∧ Below w.heap.size w w1) :=
    ⟨hb1, fun j hj => by have := hfar j hj; omega, ((Below.refl w.heap.size w).alloc (Nat.le_refl _) _).trans (hbw.mono (by omega))⟩
  clear hb1 hfar hbw hz HP h0 h1
  go_wp2
  go_ret2
  exact ⟨p, c, rfl, HFIN.out⟩

set_option maxRecDepth 100000 in
theorem laySlot_any {W w : World} {g a : Nat} {s : ByteArray} {E : Nat} {S : Sk} {own : Own} (hD : Dsk W a S own w) (h : Fil W g a s E own w) (hF : S.Fine) (hs : s.size ≤ maxLen) (off : Int) (k : Nat) (hk : k < 18446744073709551616) {bv : Value} {b : List Nat} (hb : Bytes w bv b) (hbl : b.length ≤ 113) :
    Calls Tryz.prog 26 #[.pointer (some ⟨g, 0, none⟩), .int .i64 off, .func (.func 37) #[.agg #[.int .u64 k, bv]] #[]] w fun e w' =>
      e = .returned (.tuple #[.int .i64 (if (S.write s off (slotOf k b)).2 = 0 then 128 else 0 : Nat), .int .i64 (S.write s off (slotOf k b)).2]) ∧ ∃ own', Steps own own' w w' ∧ Dsk W a (S.write s off (slotOf k b)).1 own' w' := by
  have HN := Lib.hid (isNone_any h)
  have HP := Lib.hid (statePut k bv b w hk hb hbl)
  have hrl : (slotOf k b).length = 128 := slotOf_length hbl
  have HW : Hid (∀ w1 p c, Bytes w1 (.slice p (slotOf k b).length c) (slotOf k b) → (∀ j, (Value.slice p (slotOf k b).length c).ownBlock = some j → w.heap.size ≤ j) → Below w.heap.size w w1 → _) := fun w1 p c hb1 hfar hbw => (hD.stay hbw).write_held (h.stay hbw) hF hs off hb1 (fun _ j hj => .inl (hD.new_none (hfar j hj))) (by omega)
  have HH := Lib.hid h
  clear hD h hb hF
  rw [hrl] at HW HP
  have hsb : ∃ S2 x, S.write s off (slotOf k b) = (S2, x) := ⟨_, _, rfl⟩
  obtain ⟨S2, x, hR⟩ := hsb
  rw [hR] at HW ⊢
  clear hR hrl
  dsimp only at HW ⊢
  go_enter Tryz.func26, Tryz.ntmps26
  go_wp2_with (go_at_call 28; refine HN.out.mono ?_; rintro e w1 ⟨rfl, rfl⟩)
  refine HP.out.mono ?_
  rintro e w1 ⟨p, c, rfl, hb1, hfar, hbw⟩
  have HW1 := Lib.hid (HW.out w1 p c hb1 hfar hbw)
  obtain ⟨c0, c1, _⟩ := (HH.out.stay hbw).at_
  have HB := Lib.hid hbw
  clear hb1 hfar hbw HN HP HH HW
  go_wp2
  go_region_held3 (fun w' => w'.cell? ⟨g, 0, none⟩ = some (.pointer (some ⟨a, 0, none⟩)) ∧ w'.cell? ⟨g, 1, none⟩ = some (.string s)) (go_keep)
    (first | (go_at_call 55; refine (HW1.out _ (by rfl) (by rfl) (by rfl) (by rfl)).mono ?_; rintro e w2 ⟨rfl, d0, d1, hfin⟩))
  have HFIN : Hid (∃ own', Steps own own' w w2 ∧ Dsk W a S2 own' w2) := let ⟨own', hs, hd⟩ := hfin; ⟨own', (Steps.of_below HB.out).trans hs, hd⟩
  clear hfin HW1 HB
  by_cases hx : x = 0
  · subst hx
    go_wp2
    go_ret2
    exact ⟨rfl, HFIN.out⟩
  · go_wp2
    go_ret2
    exact ⟨rfl, HFIN.out⟩

/-- Hold: a slot, at its turn. -/
def holdAt (S : Sk) (s : ByteArray) (k : Nat) (b : List Nat) : Sk × Int := S.write s (k % 2 * 128 : Nat) (slotOf k b)
set_option maxRecDepth 100000 in
theorem hold_any {W w : World} {g a : Nat} {s : ByteArray} {E : Nat} {S : Sk} {own : Own} (hD : Dsk W a S own w) (h : Fil W g a s E own w) (hF : S.Fine) (hs : s.size ≤ maxLen) (k : Nat) (hk : k < 18446744073709551616) {bv : Value} {b : List Nat} (hb : Bytes w bv b) (hbl : b.length ≤ 113) :
    Calls Tryz.prog 15 #[.pointer (some ⟨g, 0, none⟩), .int .u64 k, bv] w fun e w' =>
      e = .returned (.int .i64 (holdAt S s k b).2) ∧ ∃ own', Steps own own' w w' ∧ Dsk W a (holdAt S s k b).1 own' w' ∧ Fil W g a s E own' w' := by
  obtain ⟨q, cq, rfl, _⟩ := hb.any
  have HL := Lib.hid (laySlot_any hD h hF hs (k % 2 * 128 : Nat) k hk hb hbl)
  have HH := Lib.hid h
  clear hD h hb hF
  have hsb : ∃ S2 x, S.write s (k % 2 * 128 : Nat) (slotOf k b) = (S2, x) := ⟨_, _, rfl⟩
  unfold holdAt
  obtain ⟨S2, x, hR⟩ := hsb
  rw [hR] at HL ⊢
  clear hR
  dsimp only at HL ⊢
  go_enter Tryz.func15, Tryz.ntmps15
  have hc : ((k % 2 * 128 : Nat) : Int) = (k : Int) % 2 * 128 := by omega
  rw [hc] at HL
  clear hc
  go_wp2_with fail
  refine HL.out.mono ?_
  rintro e w1 ⟨rfl, own', hst, hd⟩
  have HFIN : Hid (∃ own', Steps own own' w w1 ∧ Dsk W a S2 own' w1 ∧ Fil W g a s E own' w1) := ⟨own', hst, hd, HH.out.steps hst⟩
  clear hst hd HL HH
  go_wp2
  all_goals
    go_ret
    exact ⟨rfl, HFIN.out⟩

/-- What stands from off on, as far as a record may go. -/
def Sk.piece (S : Sk) (s : ByteArray) (off : Int) : List Nat × Int :=
  if (S.read s off (min (max (((S.size s).getD 0 : Nat) - off) 0) 4105)).2 = 1 then ([], 2) else S.read s off (min (max (((S.size s).getD 0 : Nat) - off) 0) 4105)

theorem Dsk.read_held {W w : World} {g a : Nat} {s : ByteArray} {E : Nat} {S : Sk} {own : Own} (h : Dsk W a S own w) (hf : Fil W g a s E own w) (hF : S.Fine) (hs : s.size ≤ maxLen) (off n : Int) :
    ∀ w0 : World, w0.heap = w.heap → w0.os = w.os → w0.tape = w.tape → w0.output = w.output → Calls Tryz.prog 41 #[.pointer (some ⟨a, 0, none⟩), .string s, .int .i64 off, .int .i64 n] w0 fun e w' => ∃ p c, e = .returned (.tuple #[.slice p (S.read s off n).1.length c, .int .i64 (S.read s off n).2]) ∧
      w'.cell? ⟨g, 0, none⟩ = some (.pointer (some ⟨a, 0, none⟩)) ∧ w'.cell? ⟨g, 1, none⟩ = some (.string s) ∧
      w'.ownsRow w.heap.size 5 1 (.slice p (S.read s off n).1.length c) (S.read s off n).1.length (cellsOf (S.read s off n).1) ∧ ((S.read s off n).2 ≠ 0 → p = none ∧ c = 0) ∧ Steps own own w w' ∧ Dsk W a S.tick own w' := by
  intro w0 e1 e2 e3 e4
  have hb0 := below_same e1 e2 e3 e4
  refine ((h.stay hb0).read hF s hs off n).mono ?_
  rintro e w' ⟨p, c, rfl, hown, hz, hst, hd⟩
  have hf' := (hf.stay hb0).steps hst
  rw [e1] at hown
  exact ⟨p, c, rfl, hf'.at_.1, hf'.at_.2.1, hown, hz, (Steps.of_below hb0).trans hst, hd⟩

set_option maxRecDepth 100000 in
theorem from_any {W w : World} {g a : Nat} {s : ByteArray} {E : Nat} {S : Sk} {own : Own} (hD : Dsk W a S own w) (h : Fil W g a s E own w) (hF : S.Fine) (hs : s.size ≤ maxLen) (off : Int) (ho : 0 ≤ off ∧ off ≤ 1099511627776) :
    Calls Tryz.prog 35 #[.pointer (some ⟨g, 0, none⟩), .int .i64 off] w fun e w' => ∃ p c, e = .returned (.tuple #[.slice p (S.piece s off).1.length c, .int .i64 (S.piece s off).2]) ∧
      w'.ownsRow w.heap.size 5 1 (.slice p (S.piece s off).1.length c) (S.piece s off).1.length (cellsOf (S.piece s off).1) ∧ Steps own own w w' ∧ Dsk W a S.tick own w' := by
  obtain ⟨c0, c1, _⟩ := h.at_
  have hsz : ((S.size s).getD 0) ≤ 1099511627776 := by
    unfold Sk.size
    cases hg : Mp.get S.seen s with
    | none => exact Nat.zero_le _
    | some n => exact hF.short n
  obtain ⟨L, hL⟩ : ∃ L, L = (S.size s).getD 0 := ⟨_, rfl⟩
  have hs0 : ∀ n, Calls Tryz.prog 34 #[.pointer (some ⟨a, 0, none⟩), .string s] (w.drewN n) fun e w' => e = .returned (.tuple #[.int .i64 L, .bool (S.size s).isSome]) ∧ w' = w.drewN n := fun n => (Dsk.size (w := w.drewN n) (hD.stay (Sl.below_drewN w n)) s).mono fun _ _ h => ⟨h.1.trans (by rw [hL]; cases S.size s <;> rfl), h.2.symm⟩
  have HS := Lib.hid hs0
  have HR : Hid (∀ m, _) := fun m => (hD.stay (Sl.below_drewN w m)).read_held (h.stay (Sl.below_drewN w m)) hF hs off (min (max ((L : Int) - off) 0) 4105)
  have HP : Hid (S.piece s off = if (S.read s off (min (max ((L : Int) - off) 0) 4105)).2 = 1 then ([], 2) else S.read s off (min (max ((L : Int) - off) 0) 4105)) := by rw [hL]; rfl
  rw [← hL] at hsz
  obtain ⟨n, hn⟩ : ∃ n, n = min (max ((L : Int) - off) 0) 4105 := ⟨_, rfl⟩
  rw [← hn] at HR HP
  have hsb : ∃ l x, S.read s off n = (l, x) := ⟨_, _, rfl⟩
  obtain ⟨l, x, hR⟩ := hsb
  rw [hR] at HR HP
  dsimp only at HR HP
  obtain ⟨bb, hbb⟩ : ∃ bb, bb = (S.size s).isSome := ⟨_, rfl⟩
  rw [← hbb] at HS
  have hw : IntKind.i64.wrap ((L : Int) - off) = (L : Int) - off := IntWalk.i64_in _ (by omega)
  clear hR hL hbb hD h hF hs0
  have hcase : ((L : Int) - off < 0 ∧ n = 0) ∨ (¬ (L : Int) - off < 0 ∧ (L : Int) - off ≤ 4105 ∧ n = (L : Int) - off) ∨ (¬ (L : Int) - off < 0 ∧ ¬ (L : Int) - off ≤ 4105 ∧ n = 4105) := by omega
  clear hn
  rcases hcase with ⟨h1, rfl⟩ | ⟨h1, h2, rfl⟩ | ⟨h1, h2, rfl⟩
  all_goals
    go_enter Tryz.func35, Tryz.ntmps35
    go_wp2_with fail
    go_quiet ((go_at_call 34; exact Calls.quiet_of_same (HS.out _)))
    have HR1 := Lib.hid (HR.out nq)
    have d0 : (w.drewN nq).cell? ⟨g, 0, none⟩ = some (.pointer (some ⟨a, 0, none⟩)) := c0
    have d1 : (w.drewN nq).cell? ⟨g, 1, none⟩ = some (.string s) := c1
    have HQ : Hid (Steps own own w (w.drewN nq)) := Steps.of_below (Sl.below_drewN w nq)
    have hqs : Hid ((w.drewN nq).heap.size = w.heap.size) := rfl
    clear c0 c1 HR
    generalize w.drewN nq = wq at *
    go_wp2
    go_region_held3 (fun w' => w'.cell? ⟨g, 0, none⟩ = some (.pointer (some ⟨a, 0, none⟩)) ∧ w'.cell? ⟨g, 1, none⟩ = some (.string s)) (go_keep)
      (first | (go_at_call 41; refine (HR1.out _ (by rfl) (by rfl) (by rfl) (by rfl)).mono ?_; rintro e w2 ⟨p, c, rfl, e0, e1, hown, hz, hst, hd⟩))
    rw [hqs.out] at hown
    have HFIN : Hid (w2.ownsRow w.heap.size 5 1 (.slice p l.length c) l.length (cellsOf l) ∧ Steps own own w w2 ∧ Dsk W a S.tick own w2) := ⟨hown, HQ.out.trans hst, hd⟩
    clear hown hst hd HR1 HQ
    by_cases hx : x = 1
    · subst hx
      rw [if_pos rfl] at HP
      go_wp2
      go_ret2
      rw [HP.out]
      exact ⟨none, 0, rfl, World.ownsRow_nil _ _ _ _, HFIN.out.2⟩
    · rw [if_neg hx] at HP
      go_wp2
      go_ret2
      rw [HP.out]
      exact ⟨p, c, rfl, HFIN.out⟩
end Go.Proofs.YtldkeelgnfegeaaGreat

/- A file of a disk: Read, Held, Sync, Open. -/
namespace Go.Proofs.YtldkeelgnfegeaaGreat
open Go Go.RowKit Go.By

def tkErr (l : List Nat) : Nat := if isRec l then 0 else 2
def tkKind (l : List Nat) : Nat := if isRec l then atB l 4 else 0
def tkBody (l : List Nat) : List Nat := if isRec l then pc l 5 (bodyLen l) else []
def tkLen (l : List Nat) : Nat := if isRec l then 9 + bodyLen l else 0
theorem tk_rec {k : Nat} {b : List Nat} (m : List Nat) (hk : k < 256) (hb : b.length ≤ 4096) (hs : ∀ c ∈ b, c < 256) :
    tkErr (recOf k b ++ m) = 0 ∧ tkKind (recOf k b ++ m) = k ∧ tkBody (recOf k b ++ m) = b := by
  have h := isRec_rec (m := m) hk hb hs
  unfold tkErr tkKind tkBody
  rw [if_pos h, if_pos h, if_pos h, bodyLen_rec k b m hb, kind_rec, body_rec]
  exact ⟨rfl, rfl, rfl⟩
theorem recTakeAll (sv : Value) (l : List Nat) (w : World) (hsv : Bytes w sv l) (hl : l.length ≤ 17592186044416) :
    Calls Tryz.prog 36 #[sv] w fun e w' => ∃ p c, e = .returned (.tuple #[.int .u8 (tkKind l : Nat), .slice p (tkBody l).length c, .int .i64 (tkLen l : Nat), .int .i64 (tkErr l : Nat)]) ∧ Bytes w' (.slice p (tkBody l).length c) (tkBody l) ∧ (∀ j, (Value.slice p (tkBody l).length c).ownBlock = some j → w.heap.size ≤ j) ∧ Below w.heap.size w w' := by
  refine (Rc.take_any sv l w hsv hl).mono ?_
  rintro e w' ⟨v, hb, h⟩
  unfold tkErr tkKind tkBody tkLen
  cases hr : isRec l
  · rw [hr] at h
    exact ⟨none, 0, h, Bytes.nil _, fun j hj => (by cases hj), hb⟩
  · rw [if_pos hr] at h
    obtain ⟨p, c, rfl, hg⟩ := own_shape h.2
    rw [if_pos rfl, if_pos rfl, if_pos rfl, if_pos rfl]
    exact ⟨p, c, h.1, Bytes.of_owns h.2 (pc_small hsv.small) (by simp only [pc, List.length_take, List.length_drop]; unfold maxLen; omega), fun j hj => (hg j hj).1, hb⟩

theorem Sk.read_small {S : Sk} {s : ByteArray} (h : ∀ n, ∀ c ∈ (S.cont n).seen, c < 256) (off n : Int) : ∀ c ∈ (S.read s off n).1, c < 256 := by
  unfold Sk.read
  split
  · exact fun c hc => (by cases hc)
  · split
    · exact fun c hc => (by cases hc)
    · split
      · exact fun c hc => (by cases hc)
      · exact fun c hc => h _ c (List.mem_of_mem_drop (List.mem_of_mem_take hc))
theorem Sk.read_short {S : Sk} (hF : S.Fine) (s : ByteArray) (off n : Int) : (S.read s off n).1.length ≤ 1099511627776 := by
  unfold Sk.read
  split
  · exact Nat.zero_le _
  · split
    · exact Nat.zero_le _
    · rename_i k _
      split
      · exact Nat.zero_le _
      · have := hF.short k
        simp only [List.length_take, List.length_drop]; omega
theorem Sk.read_len {S : Sk} {s : ByteArray} {n : Nat} (h : (S.read s 0 n).2 = 0) : (S.read s 0 n).1.length = n := by
  unfold Sk.read at h ⊢
  split at h
  · rename_i h1; exact absurd h h1
  · rename_i h1
    rw [if_neg h1]
    split at h
    · cases h
    · split at h
      · cases h
      · rename_i h2
        rw [if_neg h2]
        simp only [List.length_take, List.length_drop]; omega
theorem Dsk.small {W w : World} {a : Nat} {S : Sk} {own : Own} (h : Dsk W a S own w) {s : ByteArray} {n : Nat} (hn : Mp.get S.seen s = some n) : ∀ c ∈ (S.cont n).seen, c < 256 := by
  obtain ⟨D, hd, hok, rfl⟩ := h.out
  obtain ⟨ms, mk, mf, lv, _, h2⟩ := hd.out
  obtain ⟨fb, hfb⟩ := Option.isSome_iff_exists.1 (hok.seenIn s n hn)
  obtain ⟨⟨sv, kv, lv', cs, _, g2, _⟩, _⟩ := h2.each n fb hfb
  exact g2.small
theorem Dsk.read_small {W w : World} {a : Nat} {S : Sk} {own : Own} (h : Dsk W a S own w) (s : ByteArray) (off n : Int) : ∀ c ∈ (S.read s off n).1, c < 256 := by
  unfold Sk.read
  split
  · exact fun c hc => (by cases hc)
  · split
    · exact fun c hc => (by cases hc)
    · rename_i k hk
      split
      · exact fun c hc => (by cases hc)
      · exact fun c hc => h.small hk c (List.mem_of_mem_drop (List.mem_of_mem_take hc))
theorem Dsk.piece_small {W w : World} {a : Nat} {S : Sk} {own : Own} (h : Dsk W a S own w) (hF : S.Fine) (s : ByteArray) (off : Int) : (∀ c ∈ (S.piece s off).1, c < 256) ∧ (S.piece s off).1.length ≤ 1099511627776 := by
  unfold Sk.piece
  split
  · exact ⟨fun c hc => (by cases hc), Nat.zero_le _⟩
  · exact ⟨h.read_small s _ _, Sk.read_short hF s _ _⟩

/-- What Read tells. -/
def readOut (S : Sk) (s : ByteArray) (E : Nat) (off : Int) : Nat × List Nat × Int :=
  if off < 256 ∨ (endAt S s E : Int) ≤ off then (0, [], 2)
  else if (S.piece s off).2 ≠ 0 then (0, [], (S.piece s off).2)
  else (tkKind (S.piece s off).1, tkBody (S.piece s off).1, tkErr (S.piece s off).1)
def readS (S : Sk) (s : ByteArray) (E : Nat) (off : Int) : Sk := if off < 256 ∨ (endAt S s E : Int) ≤ off then S else S.tick

set_option maxRecDepth 100000 in
theorem fileRead_any {W w : World} {g a : Nat} {s : ByteArray} {E : Nat} {S : Sk} {own : Own} (hD : Dsk W a S own w) (h : Fil W g a s E own w) (hF : S.Fine) (hs : s.size ≤ maxLen) (off : Int) (hE : endAt S s E ≤ 1099511627776) :
    Calls Tryz.prog 14 #[.pointer (some ⟨g, 0, none⟩), .int .i64 off] w fun e w' => ∃ p c, e = .returned (.tuple #[.int .u8 (readOut S s E off).1, .slice p (readOut S s E off).2.1.length c, .int .i64 (readOut S s E off).2.2]) ∧
      Bytes w' (.slice p (readOut S s E off).2.1.length c) (readOut S s E off).2.1 ∧ (∀ j, (Value.slice p (readOut S s E off).2.1.length c).ownBlock = some j → w.heap.size ≤ j) ∧ Steps own own w w' ∧ Dsk W a (readS S s E off) own w' ∧ Fil W g a s E own w' := by
  have HN := Lib.hid (isNone_any h)
  have HE := Lib.hid (end_any hD h)
  have hfil : ∀ w', Steps own own w w' → Fil W g a s E own w' := fun w' hst => h.steps hst
  have HFIL := Lib.hid hfil
  have HO : Hid (readOut S s E off = if off < 256 ∨ (endAt S s E : Int) ≤ off then (0, [], 2) else if (S.piece s off).2 ≠ 0 then (0, [], (S.piece s off).2) else (tkKind (S.piece s off).1, tkBody (S.piece s off).1, tkErr (S.piece s off).1)) := rfl
  have HS : Hid (readS S s E off = if off < 256 ∨ (endAt S s E : Int) ≤ off then S else S.tick) := rfl
  by_cases h1 : off < 256
  · have HD := Lib.hid hD
    rw [if_pos (.inl h1)] at HO HS
    clear hD h hF hfil
    go_enter Tryz.func14, Tryz.ntmps14
    go_wp2_with (go_at_call 28; refine HN.out.mono ?_; rintro e w1 ⟨rfl, rfl⟩)
    go_returns
    rw [HO.out, HS.out]
    exact ⟨none, 0, rfl, Bytes.nil _, fun j hj => (by cases hj), ⟨rfl, rfl, rfl, Nat.le_refl _, fun _ _ _ => rfl, fun _ _ => rfl⟩, HD.out, HFIL.out _ ⟨rfl, rfl, rfl, Nat.le_refl _, fun _ _ _ => rfl, fun _ _ => rfl⟩⟩
  by_cases h2 : (endAt S s E : Int) ≤ off
  · have HD := Lib.hid hD
    rw [if_pos (.inr h2)] at HO HS
    clear hD h hF hfil
    go_enter Tryz.func14, Tryz.ntmps14
    go_wp2_with (go_at_call 28; refine HN.out.mono ?_; rintro e w1 ⟨rfl, rfl⟩)
    refine HE.out.mono ?_
    rintro e w1 ⟨rfl, m, rfl⟩
    have HQ : Hid (Steps own own w (w.drewN m)) := Steps.of_below (Sl.below_drewN w m)
    have HDQ := Lib.hid (HD.out.stay (Sl.below_drewN w m))
    go_wp2
    go_returns
    rw [HO.out, HS.out]
    exact ⟨none, 0, rfl, Bytes.nil _, fun j hj => (by cases hj), HQ.out, HDQ.out, HFIL.out _ HQ.out⟩
  · rw [if_neg (by omega)] at HO HS
    have HFR : Hid (∀ m, _) := fun m => from_any (hD.stay (Sl.below_drewN w m)) (h.stay (Sl.below_drewN w m)) hF hs off (by omega)
    have HPS := Lib.hid (hD.piece_small hF s off)
    clear hD h hF hfil
    have hsb : ∃ l x, S.piece s off = (l, x) := ⟨_, _, rfl⟩
    obtain ⟨l, x, hR⟩ := hsb
    rw [hR] at HFR HO HPS
    clear hR
    dsimp only at HFR HO HPS
    have hdec : decide (off < 256) = false := decide_eq_false h1
    have hdec2 : decide ((endAt S s E : Int) ≤ off) = false := decide_eq_false h2
    go_enter Tryz.func14, Tryz.ntmps14
    go_wp2_with (go_at_call 28; refine HN.out.mono ?_; rintro e w1 ⟨rfl, rfl⟩)
    refine HE.out.mono ?_
    rintro e w1 ⟨rfl, m, rfl⟩
    have HQ : Hid (Steps own own w (w.drewN m)) := Steps.of_below (Sl.below_drewN w m)
    go_wp2_with fail
    refine (HFR.out m).mono ?_
    rintro e w2 ⟨p, c, rfl, hown, hst, hd⟩
    have HST := Lib.hid (HQ.out.trans hst)
    have HD2 := Lib.hid hd
    have hby := Bytes.of_owns hown HPS.out.1 (by have := HPS.out.2; unfold maxLen; omega)
    have HTK := Lib.hid (recTakeAll _ l w2 hby (by have := HPS.out.2; omega))
    clear hown hst hd hby HQ HFR HN HE HPS
    by_cases hx : x = 0
    · subst hx
      rw [if_neg (by simp)] at HO
      go_wp2_with fail
      refine HTK.out.mono ?_
      rintro e w3 ⟨p3, c3, rfl, hb3, hfr, hbw⟩
      have HFIN : Hid (Bytes w3 (.slice p3 (tkBody l).length c3) (tkBody l) ∧ (∀ j, (Value.slice p3 (tkBody l).length c3).ownBlock = some j → w.heap.size ≤ j) ∧ Steps own own w w3 ∧ Dsk W a S.tick own w3 ∧ Fil W g a s E own w3) :=
        ⟨hb3, fun j hj => Nat.le_trans HST.out.size (hfr j hj), HST.out.trans (Steps.of_below hbw), HD2.out.stay hbw, HFIL.out _ (HST.out.trans (Steps.of_below hbw))⟩
      clear hb3 hfr hbw
      go_wp2
      go_returns
      rw [HO.out, HS.out]
      exact ⟨p3, c3, rfl, HFIN.out⟩
    · rw [if_pos hx] at HO
      go_wp2
      go_returns
      rw [HO.out, HS.out]
      exact ⟨none, 0, rfl, Bytes.nil _, fun j hj => (by cases hj), HST.out, HD2.out, HFIL.out _ HST.out⟩

set_option maxRecDepth 100000 in
theorem fileSync_any {W w : World} {g a : Nat} {s : ByteArray} {E : Nat} {S : Sk} {own : Own} (hD : Dsk W a S own w) (h : Fil W g a s E own w) (hF : S.Fine) (hs : s.size ≤ maxLen) :
    Calls Tryz.prog 11 #[.pointer (some ⟨g, 0, none⟩)] w fun e w' => e = .returned (.int .i64 (S.sync s).2) ∧ ∃ own', Steps own own' w w' ∧ Dsk W a (S.sync s).1 own' w' ∧ Fil W g a s E own' w' := by
  have HN := Lib.hid (isNone_any h)
  obtain ⟨c0, c1, _⟩ := h.at_
  have hsy : ∀ w0 : World, w0.heap = w.heap → w0.os = w.os → w0.tape = w.tape → w0.output = w.output → Calls Tryz.prog 29 #[.pointer (some ⟨a, 0, none⟩), .string s] w0 fun e w' => e = .returned (.int .i64 (S.sync s).2) ∧
      w'.cell? ⟨g, 0, none⟩ = some (.pointer (some ⟨a, 0, none⟩)) ∧ w'.cell? ⟨g, 1, none⟩ = some (.string s) ∧ ∃ own', Steps own own' w w' ∧ Dsk W a (S.sync s).1 own' w' ∧ Fil W g a s E own' w' := by
    intro w0 e1 e2 e3 e4
    have hb0 := below_same e1 e2 e3 e4
    refine ((hD.stay hb0).sync hF s hs).mono ?_
    rintro e w' ⟨rfl, own', hst, hd⟩
    have hf' := (h.stay hb0).steps hst
    exact ⟨rfl, hf'.at_.1, hf'.at_.2.1, own', (Steps.of_below hb0).trans hst, hd, hf'⟩
  have HSY := Lib.hid hsy
  have hsb : ∃ S2 x, S.sync s = (S2, x) := ⟨_, _, rfl⟩
  obtain ⟨S2, x, hR⟩ := hsb
  rw [hR] at HSY ⊢
  clear hR hD h hF hsy
  dsimp only at HSY ⊢
  go_enter Tryz.func11, Tryz.ntmps11
  go_wp2_with (go_at_call 28; refine HN.out.mono ?_; rintro e w1 ⟨rfl, rfl⟩)
  go_region_held3 (fun w' => w'.cell? ⟨g, 0, none⟩ = some (.pointer (some ⟨a, 0, none⟩)) ∧ w'.cell? ⟨g, 1, none⟩ = some (.string s)) (go_keep)
    (first | (go_at_call 29; refine (HSY.out _ (by rfl) (by rfl) (by rfl) (by rfl)).mono ?_; rintro e w2 ⟨rfl, d0, d1, hfin⟩))
  have HFIN := Lib.hid hfin
  clear hfin
  go_wp2
  go_ret
  exact ⟨rfl, HFIN.out⟩

set_option maxRecDepth 100000 in
theorem open_any {W w : World} {a : Nat} {S : Sk} {own : Own} (hD : Dsk W a S own w) (s : ByteArray) :
    Calls Tryz.prog 13 #[.pointer (some ⟨a, 0, none⟩), .string s] w fun e w' => Dsk W a S own w' ∧ Below w.heap.size w w' ∧
      ((S.size s = none ∧ e = .returned (.tuple #[.pointer none, .int .i64 3])) ∨ (∃ n, S.size s = some n ∧ n < 256 ∧ e = .returned (.tuple #[.pointer none, .int .i64 2])) ∨
       (∃ n, S.size s = some n ∧ 256 ≤ n ∧ ∃ g, w.heap.size ≤ g ∧ e = .returned (.tuple #[.pointer (some ⟨g, 0, none⟩), .int .i64 0]) ∧ Fil W g a s n own w')) := by
  have HS := Lib.hid (hD.size s)
  have HD := Lib.hid hD
  clear hD
  cases hz : S.size s with
  | none =>
    rw [hz] at HS
    unfold sizeV at HS
    clear hz
    go_enter Tryz.func13, Tryz.ntmps13
    go_wp2_with fail
    refine HS.out.mono ?_
    rintro e w1 ⟨rfl, rfl⟩
    go_wp2
    go_ret2
    exact ⟨HD.out, Below.refl _ _, .inl ⟨by first | rfl | trivial, rfl⟩⟩
  | some n =>
    rw [hz] at HS
    unfold sizeV at HS
    clear hz
    by_cases hn : n < 256
    · have hn' : (n : Int) < 256 := by omega
      go_enter Tryz.func13, Tryz.ntmps13
      go_wp2_with fail
      refine HS.out.mono ?_
      rintro e w1 ⟨rfl, rfl⟩
      go_wp2
      go_ret2
      exact ⟨HD.out, Below.refl _ _, .inr (.inl ⟨n, rfl, hn, rfl⟩)⟩
    · have hn' : ¬ (n : Int) < 256 := by omega
      have HB := Lib.hid ((Below.refl w.heap.size w).alloc (Nat.le_refl _) (.cells #[.pointer (some ⟨a, 0, none⟩), .string s, .int .i64 n] 59))
      have HNW := Lib.hid (heap_alloc_new w (.cells #[.pointer (some ⟨a, 0, none⟩), .string s, .int .i64 n] 59))
      go_enter Tryz.func13, Tryz.ntmps13
      go_wp2_with fail
      refine HS.out.mono ?_
      rintro e w1 ⟨rfl, rfl⟩
      go_wp2
      go_ret2
      exact ⟨HD.out.stay HB.out, HB.out, .inr (.inr ⟨n, rfl, by omega, w.heap.size, Nat.le_refl _, rfl, HNW.out, HD.out.new_none (Nat.le_refl _), HD.out.below.size⟩)⟩
end Go.Proofs.YtldkeelgnfegeaaGreat

/- A file of a disk: Held. -/
namespace Go.Proofs.YtldkeelgnfegeaaGreat
open Go Go.RowKit Go.By

/-- What Held tells: the generation, the body, the error. -/
def heldOut (S : Sk) (s : ByteArray) : Nat × List Nat × Int :=
  if (S.read s 0 256).2 ≠ 0 then (0, [], (S.read s 0 256).2)
  else (btGen ((S.read s 0 256).1.take 128) ((S.read s 0 256).1.drop 128), btBody ((S.read s 0 256).1.take 128) ((S.read s 0 256).1.drop 128), btErr ((S.read s 0 256).1.take 128) ((S.read s 0 256).1.drop 128))

theorem low_run (b len cap i : Nat) (hn : i ≤ len) (hlc : len ≤ cap) (hi : i < cap) (w : World) :
    (Instr.slice 23 (.slice (some ⟨b, 0, none⟩) len cap) (some (.int .i64 (i : Int))) none none).run Tryz.prog w = .ok (.slice (some ⟨b, i, none⟩) (len - i) (cap - i)) w := by
  have hr := run_slice_l (P := Tryz.prog) w 23 (some ⟨b, 0, none⟩) len cap (by kernel_rfl) .i64 (i : Int) (by omega) (by omega)
  have e2 : (i : Int).toNat = i := by omega
  simp only [Sl.bytT_size, Result.andThen, e2, sliced, Nat.mul_one] at hr
  rw [hr]
  rw [if_neg (by omega)]
  simp [Addr.add_lit]
theorem bytes_upper {w : World} {g cap i : Nat} {l : List Nat} (h : Bytes w (.slice (some ⟨g, 0, none⟩) l.length cap) l) (hi : i ≤ l.length) (hc : l.length ≤ cap) : Bytes w (.slice (some ⟨g, i, none⟩) (l.length - i) (cap - i)) (l.drop i) := by
  have hlen : (l.drop i).length = l.length - i := by simp
  refine ⟨?_, fun c hc => h.small c (List.mem_of_mem_drop hc), by rw [hlen]; have := h.short; omega⟩
  rcases h.out with ⟨h1, _⟩ | ⟨a, h1, h2⟩ | ⟨b, off, cap', h1, h2, hcell⟩
  · cases h1
  · have hl0 : l.length = 0 := by rw [h2]; rfl
    have hc0 : cap = 0 := by
      simp only [Value.slice.injEq] at h1
      exact h1.2.2
    exact .inr (.inl ⟨⟨g, i, none⟩, by rw [hl0, hc0]; simp, by rw [h2]; simp⟩)
  · simp only [Value.slice.injEq, Option.some.injEq, Addr.mk.injEq, true_and, and_true] at h1
    obtain ⟨⟨rfl, rfl⟩, rfl⟩ := h1
    refine .inr (.inr ⟨g, i, cap - i, by rw [hlen], by rw [hlen]; omega, fun j hj => ?_⟩)
    rw [hlen] at hj
    have := hcell (i + j) (by omega)
    rw [Nat.zero_add] at this
    rw [this]
    unfold atB
    simp [List.getD_eq_getElem?_getD]

set_option maxRecDepth 100000 in
theorem held_any {W w : World} {g a : Nat} {s : ByteArray} {E : Nat} {S : Sk} {own : Own} (hD : Dsk W a S own w) (h : Fil W g a s E own w) (hF : S.Fine) (hs : s.size ≤ maxLen) :
    Calls Tryz.prog 19 #[.pointer (some ⟨g, 0, none⟩)] w fun e w' => ∃ p c, e = .returned (.tuple #[.int .u64 (heldOut S s).1, .slice p (heldOut S s).2.1.length c, .int .i64 (heldOut S s).2.2]) ∧
      Bytes w' (.slice p (heldOut S s).2.1.length c) (heldOut S s).2.1 ∧ Steps own own w w' ∧ Dsk W a S.tick own w' ∧ Fil W g a s E own w' := by
  have HN := Lib.hid (isNone_any h)
  obtain ⟨c0, c1, _⟩ := h.at_
  have hfil : ∀ w', Steps own own w w' → Fil W g a s E own w' := fun w' hst => h.steps hst
  have HFIL := Lib.hid hfil
  have HO : Hid (heldOut S s = if (S.read s 0 256).2 ≠ 0 then (0, [], (S.read s 0 256).2) else (btGen ((S.read s 0 256).1.take 128) ((S.read s 0 256).1.drop 128), btBody ((S.read s 0 256).1.take 128) ((S.read s 0 256).1.drop 128), btErr ((S.read s 0 256).1.take 128) ((S.read s 0 256).1.drop 128))) := rfl
  have HR := Lib.hid (hD.read_held h hF hs 0 256)
  have HL : Hid ((S.read s 0 256).2 = 0 → (S.read s 0 256).1.length = 256) := fun h0 => Sk.read_len (n := 256) h0
  have HSM := Lib.hid (hD.read_small s 0 256)
  clear hD h hF hfil
  have hsb : ∃ l x, S.read s 0 256 = (l, x) := ⟨_, _, rfl⟩
  obtain ⟨l, x, hR⟩ := hsb
  rw [hR] at HR HO HL HSM
  clear hR
  dsimp only at HR HO HL HSM
  go_enter Tryz.func19, Tryz.ntmps19
  go_wp2_with (go_at_call 28; refine HN.out.mono ?_; rintro e w1 ⟨rfl, rfl⟩)
  go_region_held3 (fun w' => w'.cell? ⟨g, 0, none⟩ = some (.pointer (some ⟨a, 0, none⟩)) ∧ w'.cell? ⟨g, 1, none⟩ = some (.string s)) (go_keep)
    (first | (go_at_call 41; refine (HR.out _ (by rfl) (by rfl) (by rfl) (by rfl)).mono ?_; rintro e w2 ⟨p, c, rfl, d0, d1, hown, hz, hst, hd⟩))
  have HST := Lib.hid hst
  have HD2 := Lib.hid hd
  by_cases hx : x = 0
  · subst hx
    have hl := HL.out rfl
    rw [if_neg (by simp)] at HO
    have hby := Bytes.of_owns hown HSM.out (by rw [hl]; decide)
    obtain ⟨b, rfl, hcap⟩ : ∃ b, p = some ⟨b, 0, none⟩ ∧ l.length ≤ c := by
      rcases hown.2 with ⟨h1, h2⟩ | ⟨b, c', cur, h1, h2, h3, h4⟩
      · omega
      · simp only [Value.slice.injEq, true_and] at h1
        exact ⟨b, h1.1, by have := hby.room.2; omega⟩
    have hu1 := fun w => Sl.upto_run (some ⟨b, 0, none⟩) l.length c 128 (by omega) w
    have hu2 := fun w => low_run b l.length c 128 (by omega) hcap (by omega) w
    have hy1 : Bytes w2 (.slice (some ⟨b, 0, none⟩) 128 c) (l.take 128) := hby.upto (by omega)
    have hy2 : Bytes w2 (.slice (some ⟨b, 128, none⟩) (l.length - 128) (c - 128)) (l.drop 128) := bytes_upper hby (by omega) hcap
    have hbt : ∀ w0 : World, w0.heap = w2.heap → w0.os = w2.os → w0.tape = w2.tape → w0.output = w2.output → Calls Tryz.prog 42 #[.slice (some ⟨b, 0, none⟩) 128 c, .slice (some ⟨b, 128, none⟩) (l.length - 128) (c - 128)] w0 fun e w' => ∃ p c, e = .returned (.tuple #[.int .i64 (btWhich (l.take 128) (l.drop 128) : Nat), .int .u64 (btGen (l.take 128) (l.drop 128) : Nat), .slice p (btBody (l.take 128) (l.drop 128)).length c, .int .i64 (btErr (l.take 128) (l.drop 128) : Nat)]) ∧ Bytes w' (.slice p (btBody (l.take 128) (l.drop 128)).length c) (btBody (l.take 128) (l.drop 128)) ∧ Below w2.heap.size w2 w' := by
      intro w0 e1 e2 e3 e4
      have hb0 := below_same e1 e2 e3 e4
      refine (Sl.better_all _ _ _ _ w0 (hy1.below hb0) (hy2.below hb0) (by simp; omega) (by simp; omega)).mono ?_
      rintro e w' ⟨p', c', h1, h2, h3⟩
      exact ⟨p', c', h1, h2, hb0.trans (by rw [e1] at h3; exact h3)⟩
    have HBT := Lib.hid hbt
    clear hbt
    rw [hl] at hu1 hu2 HBT ⊢
    have hi1 : ((128 : Nat) : Int) = 128 := rfl
    simp only [hi1] at hu1 hu2
    clear hown hz hst hd hby hy1 hy2 HR HL HSM HN hi1
    generalize btWhich (l.take 128) (l.drop 128) = B1 at *
    generalize btGen (l.take 128) (l.drop 128) = B2 at *
    generalize btBody (l.take 128) (l.drop 128) = B3 at *
    generalize btErr (l.take 128) (l.drop 128) = B4 at *
    go_wp2
    go_region_held3 (fun _ => True) (trivial)
      (first | (go_at_call 42; refine (HBT.out _ (by rfl) (by rfl) (by rfl) (by rfl)).mono ?_; rintro e w3 ⟨p3, c3, rfl, hb3, hbw⟩))
    have HFIN : Hid (Bytes w3 (.slice p3 B3.length c3) B3 ∧ Steps own own w w3 ∧ Dsk W a S.tick own w3 ∧ Fil W g a s E own w3) :=
      ⟨hb3, HST.out.trans (Steps.of_below hbw), HD2.out.stay hbw, HFIL.out _ (HST.out.trans (Steps.of_below hbw))⟩
    clear hb3 hbw HBT
    go_wp2
    go_returns
    rw [HO.out]
    exact ⟨p3, c3, rfl, HFIN.out⟩
  · rw [if_pos hx] at HO
    clear hown hz hst hd HR HL HSM HN
    go_wp2
    go_returns
    rw [HO.out]
    exact ⟨none, 0, rfl, Bytes.nil _, HST.out, HD2.out, HFIL.out _ HST.out⟩
end Go.Proofs.YtldkeelgnfegeaaGreat

/- A file of a disk: Create. -/
namespace Go.Proofs.YtldkeelgnfegeaaGreat
open Go Go.RowKit Go.By

theorem Dsk.remove {W w : World} {a : Nat} {S : Sk} {own : Own} (h : Dsk W a S own w) (hF : S.Fine) (s : ByteArray) (hs : s.size ≤ maxLen) :
    Calls Tryz.prog 23 #[.pointer (some ⟨a, 0, none⟩), .string s] w fun e w' => (∃ x, e = .returned (.int .i64 x)) ∧ ∃ own', Steps own own' w w' := by
  obtain ⟨D, hd, hok, rfl⟩ := h.out
  exact remove_any own a D s w hd hok hF.ops hF.left hs (by have := hF.used; exact ⟨by have := this.1; show _ ≤ D.sk.used; omega, this.2⟩) hF.short hF.laid

/-- What a new file is on. -/
def Sk.made2 (S : Sk) (s : ByteArray) : Sk × Int := (S.create s).1.truncate s 256
def Sk.Made (W : World) (a : Nat) (s : ByteArray) (S2 : Sk) (x : Int) (S3 : Sk) (y : Int) (own : Own) (w : World) (e : Ending) (w' : World) : Prop :=
  ∃ own', Steps own own' w w' ∧
      ((x ≠ 0 ∧ e = .returned (.tuple #[.pointer none, .int .i64 x]) ∧ Dsk W a S2 own' w') ∨
       (x = 0 ∧ y ≠ 0 ∧ e = .returned (.tuple #[.pointer none, .int .i64 y])) ∨
       (x = 0 ∧ y = 0 ∧ ∃ g, w.heap.size ≤ g ∧ e = .returned (.tuple #[.pointer (some ⟨g, 0, none⟩), .int .i64 0]) ∧ Dsk W a S3 own' w' ∧ Fil W g a s 256 own' w'))
set_option maxRecDepth 100000 in
theorem fileCreate_any {W w : World} {a : Nat} {S : Sk} {own : Own} (hD : Dsk W a S own w) (hF : S.Fine) (s : ByteArray) (hF2 : (S.create s).2 = 0 → (S.create s).1.Fine ∧ (S.made2 s).1.Fine) (hs : s.size ≤ maxLen) :
    Calls Tryz.prog 8 #[.pointer (some ⟨a, 0, none⟩), .string s] w (Sk.Made W a s (S.create s).1 (S.create s).2 (S.made2 s).1 (S.made2 s).2 own w) := by
  have HC := Lib.hid (hD.create hF s hs)
  have hn := hD.below.size
  unfold Sk.made2 at hF2 ⊢
  have hsb : ∃ S2 x, S.create s = (S2, x) := ⟨_, _, rfl⟩
  obtain ⟨S2, x, hR⟩ := hsb
  rw [hR] at HC hF2 ⊢
  dsimp only at HC hF2 ⊢
  have HT : Hid (x = 0 → ∀ own2 w2, Dsk W a S2 own2 w2 → _) := fun hx own2 w2 h2 => h2.truncate (hF2 hx).1 s hs 256
  have hsb : ∃ S3 y, S2.truncate s 256 = (S3, y) := ⟨_, _, rfl⟩
  obtain ⟨S3, y, hR2⟩ := hsb
  rw [hR2] at HT hF2 ⊢
  dsimp only at HT hF2 ⊢
  have HRM : Hid (x = 0 → ∀ own3 w3, Dsk W a S3 own3 w3 → _) := fun hx own3 w3 h3 => h3.remove (hF2 hx).2 s hs
  clear hD hF hF2 hR hR2
  go_enter Tryz.func8, Tryz.ntmps8
  go_wp2_with fail
  refine HC.out.mono ?_
  rintro e w1 ⟨rfl, own1, hst1, hd1⟩
  have HST1 := Lib.hid hst1
  have HD1 := Lib.hid hd1
  have HT1 : Hid (x = 0 → _) := fun hx => HT.out hx own1 w1 hd1
  clear hst1 hd1 HT HC
  by_cases hx : x = 0
  · subst hx
    go_wp2_with fail
    refine (HT1.out (by trivial)).mono ?_
    rintro e w2 ⟨rfl, own2, hst2, hd2⟩
    have HST2 := Lib.hid (HST1.out.trans hst2)
    have HD2 := Lib.hid hd2
    have HRM1 := Lib.hid (HRM.out (by trivial) own2 w2 hd2)
    clear hst2 hd2 HT1 HRM
    by_cases hy : y = 0
    · subst hy
      have HNW := Lib.hid (heap_alloc_new w2 (.cells #[.pointer (some ⟨a, 0, none⟩), .string s, .int .i64 (256 : Nat)] 59))
      have HB := Lib.hid ((Below.refl w2.heap.size w2).alloc (Nat.le_refl _) (.cells #[.pointer (some ⟨a, 0, none⟩), .string s, .int .i64 (256 : Nat)] 59))
      go_wp2
      go_ret2
      exact ⟨own2, HST2.out.trans (Steps.of_below HB.out), .inr (.inr ⟨rfl, rfl, w2.heap.size, HST2.out.size, rfl, HD2.out.stay HB.out, HNW.out, HD2.out.new_none (Nat.le_refl _), HD2.out.below.size⟩)⟩
    · go_wp2_with fail
      refine HRM1.out.mono ?_
      rintro e w3 ⟨⟨z, rfl⟩, own3, hst3⟩
      have HST3 := Lib.hid (HST2.out.trans hst3)
      clear hst3
      go_wp2
      go_ret2
      exact ⟨own3, HST3.out, .inr (.inl ⟨rfl, hy, rfl⟩)⟩
  · go_wp2
    go_ret2
    exact ⟨own1, HST1.out, .inl ⟨hx, rfl, HD1.out⟩⟩
end Go.Proofs.YtldkeelgnfegeaaGreat

/- A file that is none, a disk that is none: what they tell. -/
namespace Go.Proofs.YtldkeelgnfegeaaGreat
open Go Go.RowKit Go.By

set_option maxRecDepth 100000 in
theorem end_nil (w : World) : Calls Tryz.prog 20 #[.pointer none] w fun e w' => e = .returned (.int .i64 0) ∧ w = w' := by
  go_enter Tryz.func20, Tryz.ntmps20
  go_wp2_with (go_at_call 28; refine (isNone_nil _).mono ?_; rintro e w1 ⟨rfl, rfl⟩)
  go_ret
  exact ⟨rfl, rfl⟩
set_option maxRecDepth 100000 in
theorem name_nil (w : World) : Calls Tryz.prog 18 #[.pointer none] w fun e w' => e = .returned (.string ByteArray.empty) ∧ w = w' := by
  go_enter Tryz.func18, Tryz.ntmps18
  go_wp2_with (go_at_call 28; refine (isNone_nil _).mono ?_; rintro e w1 ⟨rfl, rfl⟩)
  go_ret
  exact ⟨rfl, rfl⟩
set_option maxRecDepth 100000 in
theorem sync_nil (w : World) : Calls Tryz.prog 11 #[.pointer none] w fun e w' => e = .returned (.int .i64 1) ∧ w = w' := by
  go_enter Tryz.func11, Tryz.ntmps11
  go_wp2_with (go_at_call 28; refine (isNone_nil _).mono ?_; rintro e w1 ⟨rfl, rfl⟩)
  go_ret
  exact ⟨rfl, rfl⟩
set_option maxRecDepth 100000 in
theorem renamed_nil (t : ByteArray) (w : World) : Calls Tryz.prog 16 #[.pointer none, .string t] w fun e w' => e = .returned (.int .i64 1) ∧ w = w' := by
  go_enter Tryz.func16, Tryz.ntmps16
  go_wp2_with (go_at_call 28; refine (isNone_nil _).mono ?_; rintro e w1 ⟨rfl, rfl⟩)
  go_ret
  exact ⟨rfl, rfl⟩
set_option maxRecDepth 100000 in
theorem held_nil (w : World) : Calls Tryz.prog 19 #[.pointer none] w fun e w' => e = .returned (.tuple #[.int .u64 0, .slice none 0 0, .int .i64 1]) ∧ w = w' := by
  go_enter Tryz.func19, Tryz.ntmps19
  go_wp2_with (go_at_call 28; refine (isNone_nil _).mono ?_; rintro e w1 ⟨rfl, rfl⟩)
  go_returns
  exact ⟨rfl, rfl⟩
set_option maxRecDepth 100000 in
theorem read_nil (off : Int) (w : World) : Calls Tryz.prog 14 #[.pointer none, .int .i64 off] w fun e w' => e = .returned (.tuple #[.int .u8 0, .slice none 0 0, .int .i64 1]) ∧ w = w' := by
  go_enter Tryz.func14, Tryz.ntmps14
  go_wp2_with (go_at_call 28; refine (isNone_nil _).mono ?_; rintro e w1 ⟨rfl, rfl⟩)
  go_returns
  exact ⟨rfl, rfl⟩
set_option maxRecDepth 100000 in
theorem lay_nil (off : Int) (v : Value) (w : World) : Calls Tryz.prog 26 #[.pointer none, .int .i64 off, v] w fun e w' => e = .returned (.tuple #[.int .i64 0, .int .i64 1]) ∧ w = w' := by
  go_enter Tryz.func26, Tryz.ntmps26
  go_wp2_with (go_at_call 28; refine (isNone_nil _).mono ?_; rintro e w1 ⟨rfl, rfl⟩)
  go_ret2
  exact ⟨rfl, rfl⟩
set_option maxRecDepth 100000 in
theorem append_nil (k : Int) (w : World) : Calls Tryz.prog 10 #[.pointer none, .int .u8 k, .slice none 0 0] w fun e w' => e = .returned (.tuple #[.int .i64 0, .int .i64 1]) ∧ w = w' := by
  go_enter Tryz.func10, Tryz.ntmps10
  go_wp2_with fail
  refine (end_nil w).mono ?_
  rintro e w1 ⟨rfl, rfl⟩
  go_wp2_with fail
  refine (lay_nil _ _ w).mono ?_
  rintro e w1 ⟨rfl, rfl⟩
  go_wp2
  go_ret2
  exact ⟨rfl, rfl⟩
set_option maxRecDepth 100000 in
theorem hold_nil (k : Nat) (w : World) : Calls Tryz.prog 15 #[.pointer none, .int .u64 k, .slice none 0 0] w fun e w' => e = .returned (.int .i64 1) ∧ w = w' := by
  go_enter Tryz.func15, Tryz.ntmps15
  go_wp2_with fail
  refine (lay_nil _ _ w).mono ?_
  rintro e w1 ⟨rfl, rfl⟩
  go_wp2
  go_ret
  exact ⟨rfl, rfl⟩
set_option maxRecDepth 100000 in
theorem open_nil (s : ByteArray) (w : World) : Calls Tryz.prog 13 #[.pointer none, .string s] w fun e w' => e = .returned (.tuple #[.pointer none, .int .i64 1]) ∧ w = w' := by
  go_enter Tryz.func13, Tryz.ntmps13
  go_wp2
  go_ret2
  exact ⟨rfl, rfl⟩
set_option maxRecDepth 100000 in
theorem begin_nil (m : Bool) (w : World) : Calls Tryz.prog 24 #[.pointer none, .bool m] w fun e w' => e = .returned (.int .i64 1) ∧ w = w' := by
  go_enter Tryz.func24, Tryz.ntmps24
  go_wp2
  go_ret
  exact ⟨rfl, rfl⟩
set_option maxRecDepth 100000 in
theorem create_nil (s : ByteArray) (hs : s.size ≤ maxLen) (w : World) : Calls Tryz.prog 21 #[.pointer none, .string s] w fun e w' => e = .returned (.int .i64 1) ∧ w = w' := by
  go_enter Tryz.func21, Tryz.ntmps21
  go_wp2_with (go_at_call 43; refine (mayName_any s _ hs).mono ?_; rintro e w1 ⟨rfl, rfl⟩)
  refine (begin_nil _ w).mono ?_
  rintro e w1 ⟨rfl, rfl⟩
  go_wp2
  go_ret
  exact ⟨rfl, rfl⟩
set_option maxRecDepth 100000 in
theorem fileCreate_nil (s : ByteArray) (hs : s.size ≤ maxLen) (w : World) : Calls Tryz.prog 8 #[.pointer none, .string s] w fun e w' => e = .returned (.tuple #[.pointer none, .int .i64 1]) ∧ w = w' := by
  go_enter Tryz.func8, Tryz.ntmps8
  go_wp2_with fail
  refine (create_nil s hs w).mono ?_
  rintro e w1 ⟨rfl, rfl⟩
  go_wp2
  go_ret2
  exact ⟨rfl, rfl⟩
end Go.Proofs.YtldkeelgnfegeaaGreat

/- A disk with one file of slots and records: what operations make of it. Plain. -/
namespace Go.Proofs.YtldkeelgnfegeaaGreat
open Go Go.RowKit Go.By

def noFile : FileA := ⟨[], [], []⟩
def oneF (s : ByteArray) (R : Int) (ops lf : Nat) (kp : List (ByteArray × Nat)) (ld : List NameOp) (K K0 : List Nat) (os : List ByteOp) : Sk :=
  ⟨R, K.length, ops, lf, 1, [(s, 1)], kp, ld, fun n => if n = 1 then ⟨K, K0, os⟩ else noFile⟩

theorem num_may {off : Nat} (h : off ≤ 16777216) : mayNumber (off : Int) = true := by unfold mayNumber; simp; omega
theorem err_ok {S : Sk} {m : Bool} (h : S.left ≠ 1) (hm : m = true) : S.err m = 0 := by
  unfold Sk.err
  rw [if_neg h, if_pos hm]
theorem err_io {S : Sk} {m : Bool} (h : S.left = 1) : S.err m = 5 := by
  unfold Sk.err
  rw [if_pos h]
theorem get_one (s : ByteArray) (n : Nat) : Mp.get [(s, n)] s = some n := by simp [Mp.get]

theorem oneF_fine {s : ByteArray} {R : Int} {ops lf : Nat} {kp : List (ByteArray × Nat)} {ld : List NameOp} {K K0 : List Nat} {os : List ByteOp} (ho : ops < 1000000) (hl : lf < 1000000) (hld : ld.length < 1000000) (hK : K.length ≤ 16777216) (hos : os.length < 1000000) (hR : 0 ≤ R ∧ R ≤ 1099511627776) : (oneF s R ops lf kp ld K K0 os).Fine where
  ops := by show ops < _; omega
  left := by show lf < _; omega
  made := by show 1 < _; omega
  laid := hld
  few := fun n => by
    show (if n = 1 then (⟨K, K0, os⟩ : FileA) else noFile).laid.length < _
    split
    · exact hos
    · show 0 < _; omega
  short := fun n => by
    show (if n = 1 then (⟨K, K0, os⟩ : FileA) else noFile).seen.length ≤ _
    split
    · show K.length ≤ _; omega
    · show 0 ≤ _; omega
  room := by show 0 ≤ R ∧ R ≤ _; omega
  used := by show 0 ≤ (K.length : Int) ∧ (K.length : Int) ≤ _; omega

/-- The bytes behind a write. -/
def nextK (K : List Nat) (off : Nat) (b : List Nat) : List Nat := (redoWrite off b allBits b.length 0 0 K).1
theorem nextK_at (K : List Nat) (off : Nat) (b : List Nat) (k : Nat) : atB (nextK K off b) k = if off ≤ k ∧ k < off + b.length then atB b (k - off) else atB K k := by
  unfold nextK
  by_cases h : 0 < b.length
  · exact (redoWrite_all b.length 0 0 K (by omega) h).1 k
  · have : b = [] := List.length_eq_zero_iff.1 (by omega)
    subst this
    rw [if_neg (by simp)]; rfl
theorem nextK_length (K : List Nat) (off : Nat) {b : List Nat} (h : b ≠ []) : (nextK K off b).length = max K.length (off + b.length) := (redoWrite_all b.length 0 0 K (by omega) (List.length_pos_iff.2 h)).2
theorem ext_at {l m : List Nat} (h : l.length = m.length) (h2 : ∀ k, k < l.length → atB l k = atB m k) : l = m := by
  refine List.ext_getElem h fun k h1 h3 => ?_
  have := h2 k h1
  rw [atB_of h1, atB_of h3] at this
  exact this
theorem atB_left {l m : List Nat} {k : Nat} (h : k < l.length) : atB (l ++ m) k = atB l k := by
  rw [atB_getD, atB_getD, List.getElem?_append_left h]
theorem atB_right {l m : List Nat} {k : Nat} (h : l.length ≤ k) : atB (l ++ m) k = atB m (k - l.length) := by
  rw [atB_getD, atB_getD, List.getElem?_append_right h]
/-- What is written over a part. -/
theorem nextK_mid {A X Y C : List Nat} (hX : X ≠ []) (h : Y.length = X.length) : nextK (A ++ (Y ++ C)) A.length X = A ++ (X ++ C) := by
  have hp := List.length_pos_iff.2 hX
  refine ext_at ?_ fun k hk => ?_
  · rw [nextK_length _ _ hX]; simp; omega
  · rw [nextK_at]
    split
    · rename_i h1
      rw [atB_right (by omega), atB_left (by omega)]
    · rename_i h1
      by_cases h2 : k < A.length
      · rw [atB_left h2, atB_left h2]
      · rw [atB_right (by omega), atB_right (by omega), atB_right (by omega), atB_right (by omega), h]
/-- What is written at the end. -/
theorem nextK_end {A X : List Nat} (hX : X ≠ []) : nextK A A.length X = A ++ X := by
  refine ext_at ?_ fun k hk => ?_
  · rw [nextK_length _ _ hX]; simp
  · rw [nextK_at]
    split
    · rename_i h1
      rw [atB_right (by omega)]
    · rename_i h1
      rw [nextK_length _ _ hX] at hk
      rw [atB_left (by omega)]

theorem oneF_write {s : ByteArray} {R : Int} {ops lf : Nat} {kp : List (ByteArray × Nat)} {ld : List NameOp} {K K0 : List Nat} {os : List ByteOp} (hs : mayName s = true) (hl : lf ≠ 1) {off : Nat} (ho : off ≤ 16777216) {b : List Nat} (hb : b ≠ []) (hR : ((off + b.length : Nat) : Int) ≤ R) :
    (oneF s R ops lf kp ld K K0 os).write s off b = (oneF s R (ops + 1) (lf - 1) kp ld (nextK K off b) K0 (os ++ [.write off b]), 0) := by
  unfold Sk.write Sk.onFile
  rw [err_ok hl (by rw [num_may ho, hs]; rfl), if_neg (by decide)]
  have hg : Mp.get (oneF s R ops lf kp ld K K0 os).seen s = some 1 := get_one s 1
  rw [hg]
  dsimp only
  unfold Sk.writeAt
  rw [if_neg hb, if_pos]
  · have h1 : (oneF s R ops lf kp ld K K0 os).tick.cont 1 = ⟨K, K0, os⟩ := rfl
    have hal : (⟨K, K0, os⟩ : FileA).alter (.write (off : Int).toNat b) = ⟨nextK K off b, K0, os ++ [.write off b]⟩ := rfl
    unfold Sk.alterFile
    rw [h1, hal]
    have hm : (⟨K, K0, os⟩ : FileA).more (.write (off : Int).toNat b) = ((nextK K off b).length : Int) - K.length := rfl
    rw [hm]
    have hu : (oneF s R ops lf kp ld K K0 os).tick.used + (((nextK K off b).length : Int) - K.length) = (nextK K off b).length := by
      show (K.length : Int) + (((nextK K off b).length : Int) - K.length) = _
      omega
    rw [hu]
    refine congrArg (·, (0 : Int)) ?_
    unfold oneF Sk.tick Sk.withFile
    refine congrArg (Sk.mk _ _ _ _ _ _ _ _) ?_
    funext n
    dsimp only
    by_cases e : n = 1
    · rw [if_pos e, if_pos e]
    · rw [if_neg e, if_neg e, if_neg e]
  · unfold Sk.hasRoom
    have h1 : (oneF s R ops lf kp ld K K0 os).tick.cont 1 = ⟨K, K0, os⟩ := rfl
    rw [h1]
    have h2 : (oneF s R ops lf kp ld K K0 os).tick.room = R := rfl
    have h3 : (oneF s R ops lf kp ld K K0 os).tick.used = K.length := rfl
    rw [h2, h3, Bool.or_eq_true, decide_eq_true_eq, decide_eq_true_eq]
    dsimp only
    right; omega
theorem oneF_write_io {s : ByteArray} {R : Int} {ops : Nat} {kp : List (ByteArray × Nat)} {ld : List NameOp} {K K0 : List Nat} {os : List ByteOp} {off : Int} {b : List Nat} :
    (oneF s R ops 1 kp ld K K0 os).write s off b = (oneF s R (ops + 1) 0 kp ld K K0 os, 5) := by
  unfold Sk.write Sk.onFile
  rw [err_io (show (oneF s R ops 1 kp ld K K0 os).left = 1 from rfl), if_pos (by decide)]
  rfl
theorem oneF_size (s : ByteArray) (R : Int) (ops lf : Nat) (kp : List (ByteArray × Nat)) (ld : List NameOp) (K K0 : List Nat) (os : List ByteOp) : (oneF s R ops lf kp ld K K0 os).size s = some K.length := by
  unfold Sk.size
  rw [show (oneF s R ops lf kp ld K K0 os).seen = [(s, 1)] from rfl, get_one]
  rfl
theorem oneF_end {s : ByteArray} {R : Int} {ops lf : Nat} {kp : List (ByteArray × Nat)} {ld : List NameOp} {K K0 : List Nat} {os : List ByteOp} {E : Nat} (h : E = K.length) : endAt (oneF s R ops lf kp ld K K0 os) s E = K.length := by
  unfold endAt
  rw [oneF_size, h]; simp
theorem oneF_read {s : ByteArray} {R : Int} {ops lf : Nat} {kp : List (ByteArray × Nat)} {ld : List NameOp} {K K0 : List Nat} {os : List ByteOp} (hs : mayName s = true) (hl : lf ≠ 1) {off n : Nat} (ho : off ≤ 16777216) (hn : n ≤ 16777216) (hon : off + n ≤ K.length) :
    (oneF s R ops lf kp ld K K0 os).read s off n = ((K.drop off).take n, 0) := by
  unfold Sk.read
  rw [err_ok hl (by rw [num_may ho, num_may hn, hs]; rfl), if_neg (by decide)]
  rw [show (oneF s R ops lf kp ld K K0 os).seen = [(s, 1)] from rfl, get_one]
  dsimp only
  rw [show (oneF s R ops lf kp ld K K0 os).cont 1 = ⟨K, K0, os⟩ from rfl, if_neg (by dsimp only; omega)]
  simp
theorem oneF_tick (s : ByteArray) (R : Int) (ops lf : Nat) (kp : List (ByteArray × Nat)) (ld : List NameOp) (K K0 : List Nat) (os : List ByteOp) : (oneF s R ops lf kp ld K K0 os).tick = oneF s R (ops + 1) (lf - 1) kp ld K K0 os := rfl
theorem oneF_piece {s : ByteArray} {R : Int} {ops lf : Nat} {kp : List (ByteArray × Nat)} {ld : List NameOp} {K K0 : List Nat} {os : List ByteOp} (hs : mayName s = true) (hl : lf ≠ 1) {off : Nat} (ho : off ≤ K.length) (hK : K.length ≤ 16777216) :
    (oneF s R ops lf kp ld K K0 os).piece s off = ((K.drop off).take 4105, 0) := by
  have e : min (max ((((oneF s R ops lf kp ld K K0 os).size s).getD 0 : Nat) - (off : Int)) 0) 4105 = ((min (K.length - off) 4105 : Nat) : Int) := by
    rw [oneF_size]
    simp only [Option.getD_some]
    omega
  unfold Sk.piece
  rw [e, oneF_read hs hl (by omega) (by omega) (by omega)]
  rw [if_neg (show ¬ (0 : Int) = 1 by decide)]
  refine congrArg (·, (0 : Int)) ?_
  by_cases h : K.length - off ≤ 4105
  · rw [Nat.min_eq_left h, List.take_of_length_le (by simp), List.take_of_length_le (by simp; omega)]
  · rw [Nat.min_eq_right (by omega)]
/-- A record is read. -/
theorem oneF_record {s : ByteArray} {R : Int} {ops lf : Nat} {kp : List (ByteArray × Nat)} {ld : List NameOp} {K K0 : List Nat} {os : List ByteOp} (hs : mayName s = true) (hl : lf ≠ 1) {off E : Nat} (h256 : 256 ≤ off) (hE : K.length ≤ max E K.length) (hK : K.length ≤ 16777216) {k : Nat} {b m : List Nat} (hk : k < 256) (hb : b.length ≤ 4096) (hbs : ∀ c ∈ b, c < 256) (hd : K.drop off = recOf k b ++ m) :
    readOut (oneF s R ops lf kp ld K K0 os) s E off = (k, b, 0) ∧ readS (oneF s R ops lf kp ld K K0 os) s E off = oneF s R (ops + 1) (lf - 1) kp ld K K0 os := by
  have hlen : off + (9 + b.length) ≤ K.length := by
    have h := congrArg List.length hd
    rw [List.length_drop, List.length_append, recOf_length] at h
    omega
  have hend : K.length ≤ endAt (oneF s R ops lf kp ld K K0 os) s E := by
    unfold endAt
    rw [oneF_size, Option.getD_some]
    omega
  have hn : ¬ ((off : Int) < 256 ∨ (endAt (oneF s R ops lf kp ld K K0 os) s E : Int) ≤ off) := by omega
  unfold readOut readS
  rw [if_neg hn, if_neg hn, oneF_piece hs hl (by omega) hK]
  dsimp only
  rw [if_neg (by simp), hd]
  have ht : (recOf k b ++ m).take 4105 = recOf k b ++ m.take (4105 - (recOf k b).length) := by
    rw [List.take_append, List.take_of_length_le (by rw [recOf_length]; omega)]
  rw [ht]
  obtain ⟨e1, e2, e3⟩ := tk_rec (m.take (4105 - (recOf k b).length)) hk hb hbs
  rw [e1, e2, e3]
  exact ⟨rfl, rfl⟩

theorem redoWrite_ix (off : Nat) (b : List Nat) : ∀ (fuel at_ i j : Nat) (l : List Nat), (redoWrite off b allBits fuel at_ i l).1 = (redoWrite off b allBits fuel at_ j l).1
  | 0, _, _, _, _ => rfl
  | fuel + 1, at_, i, j, l => by
    unfold redoWrite
    split
    · exact redoWrite_ix off b fuel _ (i + 1) (j + 1) _
    · rfl
/-- The bytes seen are what was laid by, done again on those that last. -/
def Redone (K K0 : List Nat) (os : List ByteOp) : Prop := K = (redoOps allBits os 0 K0).1
theorem Redone.next {K K0 : List Nat} {os : List ByteOp} (h : Redone K K0 os) (off : Nat) (b : List Nat) : Redone (nextK K off b) K0 (os ++ [.write off b]) := by
  unfold Redone at h ⊢
  rw [redoOps_append]
  show nextK K off b = (redoWrite off b allBits b.length 0 _ (redoOps allBits os 0 K0).1).1
  rw [← h]
  exact redoWrite_ix _ _ _ _ _ _ _
theorem Redone.self (K : List Nat) : Redone K K [] := rfl
theorem oneF_sync {s : ByteArray} {R : Int} {ops lf : Nat} {kp : List (ByteArray × Nat)} {ld : List NameOp} {K K0 : List Nat} {os : List ByteOp} (hs : mayName s = true) (hl : lf ≠ 1) (hr : Redone K K0 os) :
    (oneF s R ops lf kp ld K K0 os).sync s = (oneF s R (ops + 1) (lf - 1) kp ld K K [], 0) := by
  unfold Sk.sync Sk.onFile
  rw [err_ok hl (by rw [hs]; rfl), if_neg (by decide)]
  rw [show (oneF s R ops lf kp ld K K0 os).seen = [(s, 1)] from rfl, get_one]
  dsimp only
  refine congrArg (·, (0 : Int)) ?_
  have h1 : ((oneF s R ops lf kp ld K K0 os).tick.cont 1).settle = ⟨K, K, []⟩ := by
    show (⟨K, (redoOps allBits os 0 K0).1, []⟩ : FileA) = _
    rw [← hr]
  rw [h1]
  unfold oneF Sk.tick Sk.withFile
  refine congrArg (Sk.mk _ _ _ _ _ _ _ _) ?_
  funext n
  dsimp only
  by_cases e : n = 1
  · rw [if_pos e, if_pos e]
  · rw [if_neg e, if_neg e, if_neg e]

/-- A new file. -/
def noughts256 : List Nat := List.replicate 256 0
theorem noughts256_length : noughts256.length = 256 := List.length_replicate
theorem oneF_made {s : ByteArray} {R : Int} (hs : mayName s = true) (hR : 256 ≤ R) :
    (DiskA.new R).sk.create s = (oneF s R 1 0 [] [.create s 1] [] [] [], 0) ∧ (DiskA.new R).sk.made2 s = (oneF s R 2 0 [] [.create s 1] noughts256 [] [.cut 256], 0) := by
  have hr : (DiskA.new R).room = R := by unfold DiskA.new; dsimp only; rw [if_neg (by omega)]
  have h1 : (DiskA.new R).sk.create s = (oneF s R 1 0 [] [.create s 1] [] [] [], 0) := by
    unfold Sk.create
    rw [err_ok (show (DiskA.new R).sk.left ≠ 1 from (show (0 : Nat) ≠ 1 by decide)) hs, if_neg (by decide), if_neg (show ¬ (Mp.get (DiskA.new R).sk.seen s).isSome = true from (show ¬ (none : Option Nat).isSome = true by decide))]
    refine congrArg (·, (0 : Int)) ?_
    unfold oneF Sk.tick Sk.withFile DiskA.sk
    rw [hr]
    rfl
  refine ⟨h1, ?_⟩
  unfold Sk.made2
  rw [h1]
  dsimp only
  unfold Sk.truncate Sk.onFile
  rw [err_ok (show (oneF s R 1 0 [] [.create s 1] [] [] []).left ≠ 1 from (show (0 : Nat) ≠ 1 by decide)) (by rw [show (256 : Int) = ((256 : Nat) : Int) from rfl, num_may (by omega), hs]; rfl), if_neg (by decide)]
  rw [show (oneF s R 1 0 [] [.create s 1] [] [] []).seen = [(s, 1)] from rfl, get_one]
  dsimp only
  unfold Sk.cutAt
  rw [if_pos]
  · refine congrArg (·, (0 : Int)) ?_
    have h2 : (oneF s R 1 0 [] [.create s 1] [] [] []).tick.cont 1 = ⟨[], [], []⟩ := rfl
    have hal : (⟨[], [], []⟩ : FileA).alter (.cut (256 : Int).toNat) = ⟨noughts256, [], [.cut 256]⟩ := rfl
    have hm : (⟨[], [], []⟩ : FileA).more (.cut (256 : Int).toNat) = 256 := by
      unfold FileA.more
      rw [hal]
      show ((noughts256.length : Int)) - 0 = 256
      rw [noughts256_length]; rfl
    unfold Sk.alterFile
    rw [h2, hal, hm]
    unfold oneF Sk.tick Sk.withFile
    rw [noughts256_length]
    refine congrArg (Sk.mk _ _ _ _ _ _ _ _) ?_
    funext n
    dsimp only
    by_cases e : n = 1
    · rw [if_pos e, if_pos e]
    · rw [if_neg e, if_neg e, if_neg e]
  · unfold Sk.hasRoom
    rw [show (oneF s R 1 0 [] [.create s 1] [] [] []).tick.cont 1 = ⟨[], [], []⟩ from rfl, show (oneF s R 1 0 [] [.create s 1] [] [] []).tick.room = R from rfl, show (oneF s R 1 0 [] [.create s 1] [] [] []).tick.used = 0 from rfl]
    rw [Bool.or_eq_true, decide_eq_true_eq, decide_eq_true_eq]
    right
    show (256 : Int) - 0 ≤ R - 0
    omega
theorem Redone.new : Redone noughts256 [] [.cut 256] := rfl
end Go.Proofs.YtldkeelgnfegeaaGreat

/- A disk with one file: its steps. -/
namespace Go.Proofs.YtldkeelgnfegeaaGreat
open Go Go.RowKit Go.By

def tT : ByteArray := ⟨#[116]⟩
theorem tT_may : mayName tT = true := by decide +kernel
theorem new_fine {R : Int} (hR : 0 ≤ R ∧ R ≤ 1099511627776) : (DiskA.new R).sk.Fine where
  ops := by show 0 < _; omega
  left := by show 0 < _; omega
  made := by show 0 < _; omega
  laid := by show 0 < _; omega
  few := fun n => by show 0 < _; omega
  short := fun n => Nat.zero_le _
  room := by
    show 0 ≤ (DiskA.new R).room ∧ (DiskA.new R).room ≤ _
    unfold DiskA.new; dsimp only
    split <;> omega
  used := by show 0 ≤ (0 : Int) ∧ (0 : Int) ≤ _; omega

/-- A new file on a new disk. -/
theorem new_file (s : ByteArray) (hs : mayName s = true) (hsz : s.size ≤ maxLen) (R : Int) (hR : 256 ≤ R ∧ R ≤ 1099511627776) {W w : World} {a : Nat} {own : Own} (hD : Dsk W a (DiskA.new R).sk own w) :
    Calls Tryz.prog 8 #[.pointer (some ⟨a, 0, none⟩), .string s] w fun e w' => ∃ g own', w.heap.size ≤ g ∧ e = .returned (.tuple #[.pointer (some ⟨g, 0, none⟩), .int .i64 0]) ∧ Steps own own' w w' ∧ Dsk W a (oneF s R 2 0 [] [.create s 1] noughts256 [] [.cut 256]) own' w' ∧ Fil W g a s 256 own' w' := by
  obtain ⟨e1, e2⟩ := oneF_made hs hR.1
  have f1 : ((DiskA.new R).sk.create s).1.Fine := by rw [e1]; exact oneF_fine (by omega) (by omega) (Nat.lt_of_le_of_lt (Nat.le_refl 1) (by omega)) (by decide) (by decide) (by omega)
  have f2 : ((DiskA.new R).sk.made2 s).1.Fine := by rw [e2]; exact oneF_fine (by omega) (by omega) (Nat.lt_of_le_of_lt (Nat.le_refl 1) (by omega)) (by rw [noughts256_length]; omega) (by decide) (by omega)
  refine (fileCreate_any hD (new_fine (by omega)) s (fun _ => ⟨f1, f2⟩) hsz).mono ?_
  rintro e w' ⟨own', hst, hc⟩
  rw [e1, e2] at hc
  rcases hc with ⟨h1, _⟩ | ⟨_, h1, _⟩ | ⟨_, _, g, hg, rfl, hd, hf⟩
  · exact absurd rfl h1
  · exact absurd rfl h1
  · exact ⟨g, own', hg, rfl, hst, hd, hf⟩

/-- The two slots and the records. -/
def K3 (A B C : List Nat) : List Nat := A ++ (B ++ C)
def zero128 : List Nat := List.replicate 128 0
theorem zero128_length : zero128.length = 128 := List.length_replicate
theorem noughts_K3 : noughts256 = K3 zero128 zero128 [] := by
  unfold noughts256 K3 zero128
  rw [List.append_nil, List.replicate_append_replicate]
theorem K3_length {A B C : List Nat} (hA : A.length = 128) (hB : B.length = 128) : (K3 A B C).length = 256 + C.length := by simp [K3, hA, hB]; omega
theorem K3_append {A B C X : List Nat} (hA : A.length = 128) (hB : B.length = 128) (hX : X ≠ []) : nextK (K3 A B C) (256 + C.length) X = K3 A B (C ++ X) := by
  rw [← K3_length hA hB (C := C), nextK_end hX]
  simp [K3]
theorem K3_one {A B C X : List Nat} (hB : B.length = 128) (hA : A.length = 128) (hX : X.length = 128) : nextK (K3 A B C) 128 X = K3 A X C := by
  have h : X ≠ [] := by intro e; rw [e] at hX; cases hX
  have := nextK_mid (A := A) (X := X) (Y := B) (C := C) h (by omega)
  rw [hA] at this
  exact this
theorem K3_zero {A B C X : List Nat} (hA : A.length = 128) (hX : X.length = 128) : nextK (K3 A B C) 0 X = K3 X B C := by
  have h : X ≠ [] := by intro e; rw [e] at hX; cases hX
  exact nextK_mid (A := []) (X := X) (Y := A) (C := B ++ C) h (by omega)
theorem K3_drop {A B C : List Nat} (hA : A.length = 128) (hB : B.length = 128) (j : Nat) : (K3 A B C).drop (256 + j) = C.drop j := by
  unfold K3
  rw [List.drop_append, List.drop_append, List.drop_of_length_le (by omega : A.length ≤ 256 + j), List.drop_of_length_le (by omega : B.length ≤ 256 + j - A.length)]
  simp only [List.nil_append]
  congr 1; omega
theorem K3_held {A B C : List Nat} (hA : A.length = 128) (hB : B.length = 128) : (((K3 A B C).drop 0).take 256).take 128 = A ∧ (((K3 A B C).drop 0).take 256).drop 128 = B := by
  unfold K3
  rw [List.drop_zero]
  have e : (A ++ (B ++ C)).take 256 = A ++ B := by
    rw [← List.append_assoc, List.take_append_of_le_length (by simp; omega), List.take_of_length_le (by simp; omega)]
  rw [e]
  refine ⟨?_, ?_⟩
  · rw [List.take_append_of_le_length (by omega), List.take_of_length_le (by omega)]
  · rw [List.drop_append_of_le_length (by omega), List.drop_of_length_le (by omega), List.nil_append]
theorem oneF_held {s : ByteArray} {R : Int} {ops lf : Nat} {kp : List (ByteArray × Nat)} {ld : List NameOp} {A B C K0 : List Nat} {os : List ByteOp} (hs : mayName s = true) (hl : lf ≠ 1) (hA : A.length = 128) (hB : B.length = 128) :
    heldOut (oneF s R ops lf kp ld (K3 A B C) K0 os) s = (btGen A B, btBody A B, ((btErr A B : Nat) : Int)) := by
  have hr := oneF_read (s := s) (R := R) (ops := ops) (lf := lf) (kp := kp) (ld := ld) (K := K3 A B C) (K0 := K0) (os := os) hs hl (off := 0) (n := 256) (by omega) (by omega) (by rw [K3_length hA hB]; omega)
  have hr' : (oneF s R ops lf kp ld (K3 A B C) K0 os).read s 0 256 = ((((K3 A B C).drop 0).take 256), 0) := hr
  unfold heldOut
  rw [hr']
  dsimp only
  rw [if_neg (by simp)]
  obtain ⟨e1, e2⟩ := K3_held (C := C) hA hB
  rw [e1, e2]
theorem isSlot_zero : isSlot zero128 = false := by
  have h : spOk zero128 1 = false := by
    unfold spOk zero128
    rw [show List.replicate 128 0 = List.replicate 2 0 ++ List.replicate 126 0 by rw [List.replicate_append_replicate]]
    rfl
  simp [isSlot, h]
theorem bt_first {a b : List Nat} (ha : isSlot a = true) (hb : isSlot b = false ∨ slotGen b ≤ slotGen a) : btGen a b = slotGen a ∧ btBody a b = slotBody a ∧ btErr a b = 0 := by
  have hw : btWins a b = false := by
    unfold btWins
    rcases hb with hb | hb
    · rw [hb]; rfl
    · rw [ha, decide_eq_false (p := slotGen a < slotGen b) (by omega)]; simp
  obtain ⟨_, e2, e3, e4⟩ := Sl.bt_no hw
  obtain ⟨f1, f2, f3⟩ := st_some ha
  rw [e2, e3, e4, f1, f2, f3]
  exact ⟨rfl, rfl, rfl⟩
theorem bt_second {a b : List Nat} (hb : isSlot b = true) (ha : isSlot a = false ∨ slotGen a < slotGen b) : btGen a b = slotGen b ∧ btBody a b = slotBody b ∧ btErr a b = 0 := by
  have hw : btWins a b = true := by
    unfold btWins
    rcases ha with ha | ha
    · rw [ha, hb]; rfl
    · rw [hb, decide_eq_true ha]; simp
  obtain ⟨_, e2, e3, e4⟩ := Sl.bt_yes hw
  obtain ⟨f1, f2, f3⟩ := st_some hb
  rw [e2, e3, e4, f2, f3]
  exact ⟨rfl, rfl, rfl⟩

/-- Steps and moves keep what is not the disk's and not the file's. -/
theorem Moves.below {g : Nat} {own own' : Own} {W w w' : World} (h : Moves g own own' w w') (hb : Below W.heap.size W w) (far : ∀ k r, own k = some r → W.heap.size ≤ k) (hg : W.heap.size ≤ g) : Below W.heap.size W w' :=
  ⟨h.os.trans hb.os, h.tape.trans hb.tape, h.output.trans hb.output, Nat.le_trans hb.size h.size, fun k hk => (h.block k (Nat.lt_of_lt_of_le hk hb.size) (by omega) (.inl (by
    cases e : own k with
    | none => rfl
    | some r => have := far k r e; omega))).trans (hb.block k hk)⟩

/-- Bytes of an argument: their block is not the disk's. -/
def Free (own : Own) (bv : Value) : Prop := ∀ k, bv.ownBlock = some k → own k = none

theorem oneF_append {s : ByteArray} {R : Int} {ops lf : Nat} {kp : List (ByteArray × Nat)} {ld : List NameOp} {A B C K0 : List Nat} {os : List ByteOp} (hs : mayName s = true) (hl : lf ≠ 1) (hA : A.length = 128) (hB : B.length = 128) (k : Nat) (b : List Nat) (hR : ((256 + C.length + (9 + b.length) : Nat) : Int) ≤ R) (h16 : 256 + C.length ≤ 16777216) :
    appendAt (oneF s R ops lf kp ld (K3 A B C) K0 os) s (256 + C.length) k b = (oneF s R (ops + 1) (lf - 1) kp ld (K3 A B (C ++ recOf k b)) K0 (os ++ [.write (256 + C.length) (recOf k b)]), 0) ∧ endAt (oneF s R ops lf kp ld (K3 A B C) K0 os) s (256 + C.length) = 256 + C.length := by
  have he : endAt (oneF s R ops lf kp ld (K3 A B C) K0 os) s (256 + C.length) = 256 + C.length := by
    rw [oneF_end (K3_length hA hB).symm, K3_length hA hB]
  have hne : recOf k b ≠ [] := by
    intro e
    have := recOf_length k b
    rw [e] at this; simp at this; omega
  refine ⟨?_, he⟩
  unfold appendAt
  rw [he, oneF_write hs hl h16 hne (by rw [recOf_length]; exact hR), K3_append hA hB hne]

theorem one_append {W w : World} {g a : Nat} {s : ByteArray} {R : Int} {ops lf : Nat} {kp : List (ByteArray × Nat)} {ld : List NameOp} {A B C K0 : List Nat} {os : List ByteOp} {own : Own} (hD : Dsk W a (oneF s R ops lf kp ld (K3 A B C) K0 os) own w) (hf : Fil W g a s (256 + C.length) own w) (hs : mayName s = true) (hsz : s.size ≤ maxLen)
    (hl : lf ≠ 1) (hA : A.length = 128) (hB : B.length = 128) (hR : ((256 + C.length + 4105 : Nat) : Int) ≤ R ∧ R ≤ 1099511627776) (h16 : 256 + C.length ≤ 16777216) (hops : ops < 1000000 ∧ lf < 1000000 ∧ ld.length < 1000000 ∧ os.length < 1000000) {k : Nat} (hk : k < 256) {bv : Value} {b : List Nat} (hb : Bytes w bv b) (hbl : b.length ≤ 4096) :
    Calls Tryz.prog 10 #[.pointer (some ⟨g, 0, none⟩), .int .u8 k, bv] w fun e w' => e = .returned (.tuple #[.int .i64 (256 + C.length : Nat), .int .i64 0]) ∧
      ∃ own', Moves g own own' w w' ∧ Dsk W a (oneF s R (ops + 1) (lf - 1) kp ld (K3 A B (C ++ recOf k b)) K0 (os ++ [.write (256 + C.length) (recOf k b)])) own' w' ∧ Fil W g a s (256 + (C ++ recOf k b).length) own' w' := by
  obtain ⟨e1, e2⟩ := oneF_append (s := s) (R := R) (ops := ops) (lf := lf) (kp := kp) (ld := ld) (K0 := K0) (os := os) hs hl hA hB k b (by omega) h16
  refine (append_any hD hf (oneF_fine hops.1 hops.2.1 hops.2.2.1 (by rw [K3_length hA hB]; exact h16) hops.2.2.2 (by omega)) hsz k hk hb hbl (by rw [e2]; omega)).mono ?_
  rintro e w' ⟨rfl, own', hm, hd, hf'⟩
  rw [e1] at hd hf' ⊢
  rw [e2] at hf' ⊢
  rw [if_pos rfl] at hf' ⊢
  refine ⟨rfl, own', hm, hd, ?_⟩
  rw [List.length_append, recOf_length]
  rw [Nat.add_assoc] at hf'
  exact hf'
/-- .. where the disk says no. -/
theorem one_append_io {W w : World} {g a : Nat} {s : ByteArray} {R : Int} {ops : Nat} {kp : List (ByteArray × Nat)} {ld : List NameOp} {A B C K0 : List Nat} {os : List ByteOp} {own : Own} (hD : Dsk W a (oneF s R ops 1 kp ld (K3 A B C) K0 os) own w) (hf : Fil W g a s (256 + C.length) own w) (hsz : s.size ≤ maxLen)
    (hA : A.length = 128) (hB : B.length = 128) (hR : 0 ≤ R ∧ R ≤ 1099511627776) (h16 : 256 + C.length ≤ 16777216) (hops : ops < 1000000 ∧ ld.length < 1000000 ∧ os.length < 1000000) {k : Nat} (hk : k < 256) {bv : Value} {b : List Nat} (hb : Bytes w bv b) (hbl : b.length ≤ 4096) :
    Calls Tryz.prog 10 #[.pointer (some ⟨g, 0, none⟩), .int .u8 k, bv] w fun e w' => e = .returned (.tuple #[.int .i64 0, .int .i64 5]) ∧
      ∃ own', Moves g own own' w w' ∧ Dsk W a (oneF s R (ops + 1) 0 kp ld (K3 A B C) K0 os) own' w' ∧ Fil W g a s (256 + C.length) own' w' := by
  have e2 : endAt (oneF s R ops 1 kp ld (K3 A B C) K0 os) s (256 + C.length) = 256 + C.length := by
    rw [oneF_end (K3_length hA hB).symm, K3_length hA hB]
  have e1 : appendAt (oneF s R ops 1 kp ld (K3 A B C) K0 os) s (256 + C.length) k b = (oneF s R (ops + 1) 0 kp ld (K3 A B C) K0 os, 5) := oneF_write_io
  refine (append_any hD hf (oneF_fine hops.1 (by omega) hops.2.1 (by rw [K3_length hA hB]; exact h16) hops.2.2 (by omega)) hsz k hk hb hbl (by rw [e2]; omega)).mono ?_
  rintro e w' ⟨rfl, own', hm, hd, hf'⟩
  rw [e1] at hd hf' ⊢
  rw [if_neg (show ¬ (5 : Int) = 0 by decide)] at hf' ⊢
  exact ⟨rfl, own', hm, hd, hf'⟩

theorem one_read {W w : World} {g a : Nat} {s : ByteArray} {R : Int} {ops lf E : Nat} {kp : List (ByteArray × Nat)} {ld : List NameOp} {K K0 : List Nat} {os : List ByteOp} {own : Own} (hD : Dsk W a (oneF s R ops lf kp ld K K0 os) own w) (hf : Fil W g a s E own w) (hs : mayName s = true) (hsz : s.size ≤ maxLen)
    (hl : lf ≠ 1) (hR : 0 ≤ R ∧ R ≤ 1099511627776) (h16 : K.length ≤ 16777216) (hE : E ≤ 16777216) (hops : ops < 1000000 ∧ lf < 1000000 ∧ ld.length < 1000000 ∧ os.length < 1000000) {off : Nat} (h256 : 256 ≤ off) {k : Nat} {b m : List Nat} (hk : k < 256) (hb : b.length ≤ 4096) (hbs : ∀ c ∈ b, c < 256) (hd : K.drop off = recOf k b ++ m) :
    Calls Tryz.prog 14 #[.pointer (some ⟨g, 0, none⟩), .int .i64 (off : Int)] w fun e w' => ∃ p c, e = .returned (.tuple #[.int .u8 k, .slice p b.length c, .int .i64 0]) ∧ Bytes w' (.slice p b.length c) b ∧ (∀ j, (Value.slice p b.length c).ownBlock = some j → w.heap.size ≤ j) ∧ Steps own own w w' ∧
      Dsk W a (oneF s R (ops + 1) (lf - 1) kp ld K K0 os) own w' ∧ Fil W g a s E own w' := by
  obtain ⟨e1, e2⟩ := oneF_record (s := s) (R := R) (ops := ops) (lf := lf) (kp := kp) (ld := ld) (K0 := K0) (os := os) (E := E) hs hl h256 (by omega) h16 hk hb hbs hd
  have he : endAt (oneF s R ops lf kp ld K K0 os) s E ≤ 1099511627776 := by
    unfold endAt
    rw [oneF_size, Option.getD_some]
    omega
  have h := fileRead_any hD hf (oneF_fine hops.1 hops.2.1 hops.2.2.1 h16 hops.2.2.2 hR) hsz (off : Int) he
  rw [e1, e2] at h
  exact h

theorem one_hold {W w : World} {g a : Nat} {s : ByteArray} {R : Int} {ops lf E : Nat} {kp : List (ByteArray × Nat)} {ld : List NameOp} {A B C K0 : List Nat} {os : List ByteOp} {own : Own} (hD : Dsk W a (oneF s R ops lf kp ld (K3 A B C) K0 os) own w) (hf : Fil W g a s E own w) (hs : mayName s = true) (hsz : s.size ≤ maxLen)
    (hl : lf ≠ 1) (hA : A.length = 128) (hB : B.length = 128) (hR : 256 ≤ R ∧ R ≤ 1099511627776) (h16 : 256 + C.length ≤ 16777216) (hops : ops < 1000000 ∧ lf < 1000000 ∧ ld.length < 1000000 ∧ os.length < 1000000) {k : Nat} (hk : k < 18446744073709551616) {bv : Value} {b : List Nat} (hb : Bytes w bv b) (hbl : b.length ≤ 113) :
    Calls Tryz.prog 15 #[.pointer (some ⟨g, 0, none⟩), .int .u64 k, bv] w fun e w' => e = .returned (.int .i64 0) ∧
      ∃ own', Steps own own' w w' ∧ Dsk W a (oneF s R (ops + 1) (lf - 1) kp ld (K3 (if k % 2 = 0 then slotOf k b else A) (if k % 2 = 0 then B else slotOf k b) C) K0 (os ++ [.write (k % 2 * 128) (slotOf k b)])) own' w' ∧ Fil W g a s E own' w' := by
  have hl2 := slotOf_length (g := k) hbl
  have hne : slotOf k b ≠ [] := by intro e; rw [e] at hl2; cases hl2
  have e1 : holdAt (oneF s R ops lf kp ld (K3 A B C) K0 os) s k b = (oneF s R (ops + 1) (lf - 1) kp ld (K3 (if k % 2 = 0 then slotOf k b else A) (if k % 2 = 0 then B else slotOf k b) C) K0 (os ++ [.write (k % 2 * 128) (slotOf k b)]), 0) := by
    unfold holdAt
    rw [oneF_write hs hl (by omega) hne (by rw [hl2]; omega)]
    by_cases h : k % 2 = 0
    · rw [if_pos h, if_pos h, h, Nat.zero_mul, K3_zero hA hl2]
    · have h1 : k % 2 = 1 := by omega
      rw [if_neg h, if_neg h, h1, Nat.one_mul, K3_one hB hA hl2]
  refine (hold_any hD hf (oneF_fine hops.1 hops.2.1 hops.2.2.1 (by rw [K3_length hA hB]; exact h16) hops.2.2.2 (by omega)) hsz k hk hb hbl).mono ?_
  rintro e w' ⟨rfl, own', hm, hd, hf'⟩
  rw [e1] at hd ⊢
  exact ⟨rfl, own', hm, hd, hf'⟩

theorem one_held {W w : World} {g a : Nat} {s : ByteArray} {R : Int} {ops lf E : Nat} {kp : List (ByteArray × Nat)} {ld : List NameOp} {A B C K0 : List Nat} {os : List ByteOp} {own : Own} (hD : Dsk W a (oneF s R ops lf kp ld (K3 A B C) K0 os) own w) (hf : Fil W g a s E own w) (hs : mayName s = true) (hsz : s.size ≤ maxLen)
    (hl : lf ≠ 1) (hA : A.length = 128) (hB : B.length = 128) (hR : 0 ≤ R ∧ R ≤ 1099511627776) (h16 : 256 + C.length ≤ 16777216) (hops : ops < 1000000 ∧ lf < 1000000 ∧ ld.length < 1000000 ∧ os.length < 1000000) {k : Nat} {b : List Nat} (h1 : btGen A B = k) (h2 : btBody A B = b) (h3 : btErr A B = 0) :
    Calls Tryz.prog 19 #[.pointer (some ⟨g, 0, none⟩)] w fun e w' => ∃ p c, e = .returned (.tuple #[.int .u64 k, .slice p b.length c, .int .i64 0]) ∧ Bytes w' (.slice p b.length c) b ∧ Steps own own w w' ∧
      Dsk W a (oneF s R (ops + 1) (lf - 1) kp ld (K3 A B C) K0 os) own w' ∧ Fil W g a s E own w' := by
  have h := held_any hD hf (oneF_fine hops.1 hops.2.1 hops.2.2.1 (by rw [K3_length hA hB]; exact h16) hops.2.2.2 (by omega)) hsz
  rw [oneF_held hs hl hA hB, h1, h2, h3] at h
  exact h

theorem one_sync {W w : World} {g a : Nat} {s : ByteArray} {R : Int} {ops lf E : Nat} {kp : List (ByteArray × Nat)} {ld : List NameOp} {K K0 : List Nat} {os : List ByteOp} {own : Own} (hD : Dsk W a (oneF s R ops lf kp ld K K0 os) own w) (hf : Fil W g a s E own w) (hs : mayName s = true) (hsz : s.size ≤ maxLen)
    (hl : lf ≠ 1) (hR : 0 ≤ R ∧ R ≤ 1099511627776) (h16 : K.length ≤ 16777216) (hops : ops < 1000000 ∧ lf < 1000000 ∧ ld.length < 1000000 ∧ os.length < 1000000) (hr : Redone K K0 os) :
    Calls Tryz.prog 11 #[.pointer (some ⟨g, 0, none⟩)] w fun e w' => e = .returned (.int .i64 0) ∧ ∃ own', Steps own own' w w' ∧ Dsk W a (oneF s R (ops + 1) (lf - 1) kp ld K K []) own' w' ∧ Fil W g a s E own' w' := by
  have h := fileSync_any hD hf (oneF_fine hops.1 hops.2.1 hops.2.2.1 h16 hops.2.2.2 hR) hsz
  rw [oneF_sync hs hl hr] at h
  exact h

theorem one_open {W w : World} {a : Nat} {s : ByteArray} {R : Int} {ops lf : Nat} {kp : List (ByteArray × Nat)} {ld : List NameOp} {K K0 : List Nat} {os : List ByteOp} {own : Own} (hD : Dsk W a (oneF s R ops lf kp ld K K0 os) own w) (h256 : 256 ≤ K.length) :
    Calls Tryz.prog 13 #[.pointer (some ⟨a, 0, none⟩), .string s] w fun e w' => ∃ g, w.heap.size ≤ g ∧ e = .returned (.tuple #[.pointer (some ⟨g, 0, none⟩), .int .i64 0]) ∧ Below w.heap.size w w' ∧ Dsk W a (oneF s R ops lf kp ld K K0 os) own w' ∧ Fil W g a s K.length own w' := by
  refine (open_any hD s).mono ?_
  rintro e w' ⟨hd, hst, hc⟩
  rw [oneF_size] at hc
  rcases hc with ⟨h, _⟩ | ⟨n, h, h2, _⟩ | ⟨n, h, _, g, hg, rfl, hf⟩
  · cases h
  · cases h; omega
  · cases h
    exact ⟨g, hg, rfl, hst, hd, hf⟩
/-- Bytes in a block of no disk's stay. -/
theorem bytes_steps {w w' : World} {own own' : Own} {v : Value} {l : List Nat} (h : Bytes w v l) (hs : Steps own own' w w') (ho : ∀ k, v.ownBlock = some k → own k = none) : Bytes w' v l where
  out := by
    rcases h.out with h1 | h1 | ⟨b, off, cap, rfl, h2, hc⟩
    · exact .inl h1
    · exact .inr (.inl h1)
    · exact .inr (.inr ⟨b, off, cap, rfl, h2, fun i hi => (World.cell?_of_block (hs.block b (block_lt_of_cell (hc i hi)) (.inl (ho b rfl)))).trans (hc i hi)⟩)
  small := h.small
  short := h.short
theorem free_steps {w w' : World} {own own' : Own} {v : Value} {l : List Nat} (h : Bytes w v l) (hl : l ≠ []) (hs : Steps own own' w w') (ho : ∀ k, v.ownBlock = some k → own k = none) : ∀ k, v.ownBlock = some k → own' k = none := by
  intro k hk
  rcases h.out with ⟨_, h1⟩ | ⟨_, _, h1⟩ | ⟨b, off, cap, rfl, h2, hc⟩
  · exact absurd h1 hl
  · exact absurd h1 hl
  · cases hk
    rw [hs.same b (block_lt_of_cell (hc 0 (List.length_pos_iff.2 hl)))]
    exact ho b rfl
theorem rec_ne (k : Nat) (b : List Nat) : recOf k b ≠ [] := by
  intro e
  have := recOf_length k b
  rw [e] at this; simp at this; omega
theorem Redone.append {A B C K0 : List Nat} {os : List ByteOp} (h : Redone (K3 A B C) K0 os) (hA : A.length = 128) (hB : B.length = 128) (k : Nat) (b : List Nat) : Redone (K3 A B (C ++ recOf k b)) K0 (os ++ [.write (256 + C.length) (recOf k b)]) := by
  have := h.next (256 + C.length) (recOf k b)
  rw [K3_append hA hB (rec_ne k b)] at this
  exact this
theorem Redone.hold {A B C K0 : List Nat} {os : List ByteOp} (h : Redone (K3 A B C) K0 os) (hA : A.length = 128) (hB : B.length = 128) (k : Nat) {b : List Nat} (hb : b.length ≤ 113) :
    Redone (K3 (if k % 2 = 0 then slotOf k b else A) (if k % 2 = 0 then B else slotOf k b) C) K0 (os ++ [.write (k % 2 * 128) (slotOf k b)]) := by
  have hl2 := slotOf_length (g := k) hb
  have := h.next (k % 2 * 128) (slotOf k b)
  by_cases h0 : k % 2 = 0
  · rw [if_pos h0, if_pos h0]
    rw [h0, Nat.zero_mul, K3_zero hA hl2] at this
    rw [h0, Nat.zero_mul]
    exact this
  · have h1 : k % 2 = 1 := by omega
    rw [if_neg h0, if_neg h0]
    rw [h1, Nat.one_mul, K3_one hB hA hl2] at this
    rw [h1, Nat.one_mul]
    exact this
end Go.Proofs.YtldkeelgnfegeaaGreat

/- file has begun. -/
namespace Go.Proofs.YtldkeelgnfegeaaGreat
open Go Go.RowKit Go.By

set_option maxRecDepth 100000 in
theorem begun_any (w : World) : Calls Tryz.prog 6 #[] w fun e w' => e = .returned (.bool true) ∧ Below w.heap.size w w' := by
  have hcv := fun (w : World) (C : Array Value) (n c : Nat) => Lib.run_convert_bytes_const (P := Tryz.prog) w 23 5 C n c byT.slice byT.elem
  go_enter Tryz.func6, Tryz.ntmps6
  go_wp2_with fail
  refine (new_any 10000 w).mono ?_
  rintro e w1 ⟨rfl, hd1, hb1⟩
  have HD1 := Lib.hid (Dsk.new hd1 hb1)
  clear hd1 hb1
  go_wp2_with fail
  refine (new_file tT tT_may (by decide +kernel) 10000 (by omega) HD1.out).mono ?_
  rintro e w2 ⟨g, own2, hg, rfl, hst2, hd2, hf2⟩
  rw [noughts_K3] at hd2
  have HD2 := Lib.hid hd2; have HF2 := Lib.hid hf2
  clear hg hst2 hd2 hf2 HD1
  go_wp2_with fail
  have hb0 := (Below.refl w2.heap.size w2).alloc (Nat.le_refl _) (.cells #[.int .u8 120] 5 (1, 2))
  refine (one_append (A := zero128) (B := zero128) (C := []) (b := [120]) (k := 1) (HD2.out.stay hb0) (HF2.out.stay hb0) tT_may (by decide +kernel) (by omega) zero128_length zero128_length (by decide) (by decide) (by decide) (by omega) (Bytes.lit [120] rfl rfl (by decide) (by decide)) (by decide)).mono ?_
  rintro e w3 ⟨rfl, own3, hm3, hd3, hf3⟩
  have HD3 := Lib.hid hd3; have HF3 := Lib.hid hf3
  clear hm3 hd3 hf3 HD2 HF2 hb0
  go_wp2_with fail
  refine (one_read (k := 1) (b := [120]) (m := []) (off := 256) HD3.out HF3.out tT_may (by decide +kernel) (by omega) (by decide) (by rw [K3_length zero128_length zero128_length, List.nil_append, recOf_length]; decide) (by rw [List.nil_append, recOf_length]; decide) (by decide) (by omega) (by omega) (by decide) (by decide) (by rw [show 256 = 256 + 0 from rfl, K3_drop zero128_length zero128_length]; simp)).mono ?_
  rintro e w4 ⟨p4, c4, rfl, hy4, hfr4, hst4, hd4, hf4⟩
  have HO4 : Hid (∀ j, (Value.slice p4 1 c4).ownBlock = some j → own3 j = none) := fun j hj => HD3.out.new_none (hfr4 j hj)
  have HD4 := Lib.hid hd4; have HF4 := Lib.hid hf4; have HY4 := Lib.hid hy4
  clear hst4 hd4 hf4 hy4 hfr4 HD3 HF3
  go_wp2_with fail
  have hb0 := (Below.refl w4.heap.size w4).alloc (Nat.le_refl _) (.cells #[.int .u8 114] 5 (1, 2))
  refine (one_hold (A := zero128) (B := zero128) (C := [] ++ recOf 1 [120]) (b := [114]) (k := 3) (HD4.out.stay hb0) (HF4.out.stay hb0) tT_may (by decide +kernel) (by omega) zero128_length zero128_length (by decide) (by rw [List.nil_append, recOf_length]; decide) (by decide) (by omega) (Bytes.lit [114] rfl rfl (by decide) (by decide)) (by decide)).mono ?_
  rintro e w5 ⟨rfl, own5, hst5, hd5, hf5⟩
  rw [if_neg (by decide), if_neg (by decide)] at hd5
  have hy40 : Bytes _ (.slice p4 1 c4) [120] := HY4.out.below hb0
  have HY5 : Hid (Bytes w5 (.slice p4 1 c4) [120]) := bytes_steps hy40 hst5 HO4.out
  have HO5 : Hid (∀ j, (Value.slice p4 1 c4).ownBlock = some j → own5 j = none) := free_steps hy40 (by decide) hst5 HO4.out
  have HD5 := Lib.hid hd5; have HF5 := Lib.hid hf5
  clear hst5 hd5 hf5 hb0 hy40 HD4 HF4 HY4 HO4
  go_wp2_with fail
  have hbt : btGen zero128 (slotOf 3 [114]) = 3 ∧ btBody zero128 (slotOf 3 [114]) = [114] ∧ btErr zero128 (slotOf 3 [114]) = 0 := by
    have h := bt_second (a := zero128) (b := slotOf 3 [114]) (isSlot_slot (by decide) (by decide)) (.inl isSlot_zero)
    rw [gen_slot (by decide), body_slot] at h
    exact h
  refine (one_held (k := 3) (b := [114]) HD5.out HF5.out tT_may (by decide +kernel) (by omega) zero128_length (slotOf_length (by decide)) (by decide) (by rw [List.nil_append, recOf_length]; decide) (by decide) hbt.1 hbt.2.1 hbt.2.2).mono ?_
  rintro e w6 ⟨p6, c6, rfl, hy6, hst6, hd6, hf6⟩
  have HD6 := Lib.hid hd6; have HF6 := Lib.hid hf6; have HY6 := Lib.hid hy6
  have HY61 : Hid (Bytes w6 (.slice p4 1 c4) [120]) := bytes_steps HY5.out hst6 HO5.out
  clear hst6 hd6 hf6 hy6 hbt HD5 HF5 HY5 HO5
  go_wp2_with fail
  refine (open_any HD6.out ⟨#[117]⟩).mono ?_
  rintro e w7 ⟨hd7, hb7, hc⟩
  have he7 : e = .returned (.tuple #[.pointer none, .int .i64 3]) := by
    rcases hc with ⟨_, h⟩ | ⟨n, h, _⟩ | ⟨n, h, _⟩
    · exact h
    · exact absurd h (by intro h; cases h)
    · exact absurd h (by intro h; cases h)
  subst he7
  have HD7 := Lib.hid hd7; have HF7 := Lib.hid (HF6.out.stay hb7)
  have c1 := (HY61.out.below hb7).toString byT (P := Tryz.prog) (d := 9) (by kernel_rfl)
  have c2 := (HY6.out.below hb7).toString byT (P := Tryz.prog) (d := 9) (by kernel_rfl)
  rw [show strOf [120] = ⟨#[120]⟩ from rfl] at c1
  rw [show strOf [114] = ⟨#[114]⟩ from rfl, show [114].length = 1 from rfl] at c2
  have hlen : 256 + ([] ++ recOf 1 [120]).length = 266 := by rw [List.nil_append, recOf_length]; rfl
  have hEA := fun (S : Sk) (E : Nat) (h : endAt S tT E = 256 + ([] ++ recOf 1 [120]).length) => h.trans hlen
  have HE := Lib.hid (end_any HD7.out HF7.out)
  rw [hEA _ _ (by rw [oneF_end (by rw [K3_length zero128_length (slotOf_length (by decide))]), K3_length zero128_length (slotOf_length (by decide))])] at HE
  rw [show ((266 : Nat) : Int) = 266 from rfl] at HE
  have hre : Redone (K3 zero128 zero128 []) [] [.cut 256] := by rw [← noughts_K3]; exact Redone.new
  have hr2 := (hre.append zero128_length zero128_length 1 [120]).hold zero128_length zero128_length 3 (b := [114]) (by decide)
  rw [if_neg (by decide), if_neg (by decide)] at hr2
  have HSY : Hid (∀ m, _) := fun m => one_sync (HD7.out.stay (Sl.below_drewN w7 m)) (HF7.out.stay (Sl.below_drewN w7 m)) tT_may (by decide +kernel) (by omega) (by decide) (by rw [K3_length zero128_length (slotOf_length (by decide)), hlen]; decide) (by decide) hr2
  have hnm : ∀ m, Calls Tryz.prog 18 #[.pointer (some ⟨g, 0, none⟩)] (w7.drewN m) fun e w' => e = .returned (.string ⟨#[116]⟩) ∧ w7.drewN m = w' := fun m => name_any (HF7.out.stay (Sl.below_drewN w7 m))
  have HNM := Lib.hid hnm
  clear hnm
  clear hd7 hb7 hc HD6 HF6 HY6 HY61 hre hr2 hEA hlen
  go_wp2_with fail
  refine HE.out.mono ?_
  rintro e w8 ⟨rfl, m, rfl⟩
  go_wp2_with fail
  refine (HNM.out m).mono ?_
  rintro e w9 ⟨rfl, rfl⟩
  go_wp2_with fail
  refine (HSY.out m).mono ?_
  rintro e w10 ⟨rfl, own10, _, hd10, _⟩
  have HB := Lib.hid hd10.below
  clear hd10 HSY HNM HE HD7 HF7
  go_wp2
  go_ret
  exact ⟨rfl, HB.out⟩
end Go.Proofs.YtldkeelgnfegeaaGreat

/- A disk that shall fail; rows of numbers of the law's own. -/
namespace Go.Proofs.YtldkeelgnfegeaaGreat
open Go Go.RowKit Go.By

/-- Numbers, in a row of the law's own. -/
def intsOf (l : List Nat) : List Value := l.map fun (n : Nat) => Value.int .i64 (n : Int)
structure IRow (W : World) (g : Nat) (e : TypeId) (v : Value) (l : List Nat) (own : Own) (w : World) : Prop where
  owns : w.ownsRow W.heap.size e 1 v l.length (intsOf l)
  free : ∀ k, v.ownBlock = some k → own k = none ∧ k ≠ g
theorem IRow.lt {W w : World} {g : Nat} {e : TypeId} {v : Value} {l : List Nat} {own : Own} (h : IRow W g e v l own w) : ∀ k, v.ownBlock = some k → W.heap.size ≤ k ∧ k < w.heap.size := fun k hk => h.owns.lt k hk
theorem IRow.nil (W : World) (g : Nat) (e : TypeId) (own : Own) (w : World) : IRow W g e (.slice none 0 0) [] own w := ⟨World.ownsRow_nil _ _ _ _, fun k hk => (by cases hk)⟩
theorem ownsRow_heap {w w' : World} {base : Nat} {e : TypeId} {v : Value} {n : Nat} {xs : List Value} (h : w.ownsRow base e 1 v n xs) (hb : ∀ k, v.ownBlock = some k → w'.heap[k]? = w.heap[k]?) : w'.ownsRow base e 1 v n xs := by
  refine ⟨h.1, ?_⟩
  rcases h.2 with hn | ⟨g, cap, cur, rfl, h1, h2, rest⟩
  · exact .inl hn
  · exact .inr ⟨g, cap, cur, rfl, h1, (hb g rfl).trans h2, rest⟩
theorem IRow.moves {W w w' : World} {g : Nat} {e : TypeId} {v : Value} {l : List Nat} {own own' : Own} (h : IRow W g e v l own w) (hm : Moves g own own' w w') : IRow W g e v l own' w' :=
  ⟨ownsRow_heap h.owns fun k hk => hm.block k (h.lt k hk).2 (h.free k hk).2 (.inl (h.free k hk).1), fun k hk => ⟨(hm.same k (h.lt k hk).2).trans (h.free k hk).1, (h.free k hk).2⟩⟩
theorem IRow.steps {W w w' : World} {g : Nat} {e : TypeId} {v : Value} {l : List Nat} {own own' : Own} (h : IRow W g e v l own w) (hs : Steps own own' w w') : IRow W g e v l own' w' := h.moves (hs.moves g)
theorem IRow.stay {W w w' : World} {g : Nat} {e : TypeId} {v : Value} {l : List Nat} {own : Own} (h : IRow W g e v l own w) (hb : Below w.heap.size w w') : IRow W g e v l own w' := h.steps (Steps.of_below hb)
theorem IRow.shape {W w : World} {g : Nat} {e : TypeId} {v : Value} {l : List Nat} {own : Own} (h : IRow W g e v l own w) : ∃ p c, v = .slice p l.length c := by
  rcases h.owns.2 with ⟨h1, h2⟩ | ⟨k, c, _, h1, _⟩
  · exact ⟨none, 0, by rw [h1, h2]⟩
  · exact ⟨_, c, h1⟩
theorem IRow.cell {W w : World} {g : Nat} {e : TypeId} {p : Option Addr} {n c : Nat} {l : List Nat} {own : Own} (h : IRow W g e (.slice p n c) l own w) {i : Nat} (hi : i < l.length) : ∃ b, p = some ⟨b, 0, none⟩ ∧ w.cell? ⟨b, i, none⟩ = some (.int .i64 (l.getD i 0 : Nat)) := by
  rcases h.owns.2 with ⟨_, h2⟩ | ⟨b, c', _, h1, _⟩
  · omega
  · simp only [Value.slice.injEq] at h1
    have hc := World.ownsRow.cells h.owns (g := b) (by rw [h1.1]; rfl) i (.int .i64 (l.getD i 0 : Nat)) (by
      unfold intsOf
      rw [List.getElem?_map, List.getElem?_eq_getElem hi, List.getD_eq_getElem?_getD, List.getElem?_eq_getElem hi]; rfl)
    rw [Addr.add_lit, Nat.zero_add] at hc
    exact ⟨b, h1.1, hc⟩
/-- A row has grown; the others stand. -/
theorem Dsk.grown {W w w' : World} {a : Nat} {S : Sk} {own : Own} (h : Dsk W a S own w) {r : Option Nat} (hg : w.grownBy w' r) (hr : ∀ k, r = some k → own k = none ∧ W.heap.size ≤ k) : Dsk W a S own w' := by
  have hst : Steps (fun k => if r = some k then some .disk else none) (fun k => if r = some k then some .disk else none) w w' :=
    ⟨hg.os, hg.tape, hg.output, hg.size, fun k hk ho => hg.block k hk (fun e => by
      rw [if_pos e.symm] at ho
      rcases ho with h | h <;> cases h), fun _ _ => rfl⟩
  obtain ⟨D, hd, hok, e⟩ := h.out
  refine ⟨⟨D, hd.beside hst (fun k r' hr' => .inl (if_neg (by intro e; rw [(hr k e).1] at hr'; cases hr'))), hok, e⟩, h.far, ?_⟩
  exact ⟨hg.os.trans h.below.os, hg.tape.trans h.below.tape, hg.output.trans h.below.output, Nat.le_trans h.below.size hg.size, fun k hk => (hg.block k (Nat.lt_of_lt_of_le hk h.below.size) (fun e => by have := (hr k e.symm).2; omega)).trans (h.below.block k hk)⟩
theorem Fil.grown {W w w' : World} {g a : Nat} {s : ByteArray} {E : Nat} {own : Own} (h : Fil W g a s E own w) {r : Option Nat} (hg : w.grownBy w' r) (hr : r ≠ some g) : Fil W g a s E own w' :=
  h.same (hg.block g h.lt (fun e => hr e.symm))
theorem IRow.grown {W w w' : World} {g : Nat} {e : TypeId} {v : Value} {l : List Nat} {own : Own} (h : IRow W g e v l own w) {r : Option Nat} (hg : w.grownBy w' r) (hr : ∀ k, v.ownBlock = some k → r ≠ some k) : IRow W g e v l own w' :=
  ⟨ownsRow_heap h.owns fun k hk => hg.block k (h.lt k hk).2 (fun e => hr k hk e.symm), h.free⟩
/-- The row that has grown. -/
theorem IRow.appended {W w w' : World} {g : Nat} {e : TypeId} {v v' : Value} {l : List Nat} {own : Own} (h : IRow W g e v l own w) (hW : W.heap.size ≤ w.heap.size) (hnew : ∀ k, w.heap.size ≤ k → own k = none) (hgl : g < w.heap.size) {x : Nat} (ho : w'.ownsRow W.heap.size e 1 v' (l.length + 1) (intsOf l ++ [.int .i64 (x : Int)]))
    (hat : v'.ownBlock = v.ownBlock ∨ ∃ k, w.heap.size ≤ k ∧ v'.ownBlock = some k) : IRow W g e v' (l ++ [x]) own w' := by
  refine ⟨?_, fun k hk => ?_⟩
  · rw [List.length_append, List.length_singleton]
    have : intsOf (l ++ [x]) = intsOf l ++ [.int .i64 (x : Int)] := by simp [intsOf]
    rw [this]; exact ho
  · rcases hat with h1 | ⟨j, hj, h1⟩
    · exact h.free k (h1 ▸ hk)
    · rw [h1] at hk; cases hk
      exact ⟨hnew k hj, by omega⟩
theorem info_of {P : Program} {e : TypeId} {z : Value} {s b : Nat} (h : (P.info? e).map (fun i => (i.zero, i.size, i.bytes)) = some (some z, s, b)) : ∃ i, P.info? e = some i ∧ i.zero = some z ∧ i.size = s ∧ i.bytes = b := by
  cases hi : P.info? e with
  | none => rw [hi] at h; cases h
  | some i =>
    rw [hi] at h
    simp only [Option.map_some, Option.some.injEq, Prod.mk.injEq] at h
    exact ⟨i, rfl, h.1, h.2.1, h.2.2⟩
/-- append of a number to a row of the law's own. -/
theorem wpList_append_int {P : Program} {ops : Array Oper} {rest : List Oper} {o : Oper} {a : Act} {Q : Exit → Act → World → Prop} (hgd : o.guard = none) (s x : Operand) (t e : TypeId)
    (ho : o.op = .call { callee := .builtin .append, args := #[s, x], argTypes := #[t, t] }) (ht : P.underlying t = some (.slice e)) (hi : (P.info? e).map (fun i => (i.zero, i.size, i.bytes)) = some (some (.int .i64 0), 1, 8))
    {W w0 : World} {g : Nat} {v : Value} {l : List Nat} {own : Own} (h : IRow W g e v l own w0) (hW : W.heap.size ≤ w0.heap.size) (hnew : ∀ k, w0.heap.size ≤ k → own k = none) (hgl : g < w0.heap.size) (hl : l.length ≤ 1000000) (hs : a.eval s = v) {X : Nat} {tt : TypeId} (hx : a.eval x = .slice (some ⟨w0.heap.size, 0, none⟩) 1 1)
    (hK : ∀ v' w', IRow W g e v' (l ++ [X]) own w' → (w0.alloc (.cells #[.int .i64 (X : Int)] tt)).grownBy w' v.ownBlock → (v'.ownBlock = v.ownBlock ∨ ∃ k, w0.heap.size ≤ k ∧ v'.ownBlock = some k) → wpList P ops Q rest (a.put o.dst v') w') :
    wpList P ops Q (o :: rest) a (w0.alloc (.cells #[.int .i64 (X : Int)] tt)) := by
  obtain ⟨i, h1, h2, h3, h4⟩ := info_of hi
  have hst := h.stay ((Below.refl _ _).alloc (Nat.le_refl _) (.cells #[.int .i64 (X : Int)] tt))
  refine wpList_append_own_at _ hgd s x t ho W.heap.size e i (.int .i64 0) 1 8 ht h1 h2 h3 h4 rfl (by decide) v l.length (intsOf l) hs hst.owns ⟨w0.heap.size, 0, none⟩ 1 1 [.int .i64 (X : Int)] hx rfl (cell_one_new _ _ _) (fun u hu => by simp at hu; subst hu; rfl) (by unfold maxLen; omega) (by omega) (by simp; omega) ?_
  intro v' w' hown hgrow _ hat
  have hat' : v'.ownBlock = v.ownBlock ∨ ∃ k, w0.heap.size ≤ k ∧ v'.ownBlock = some k := by
    rcases hat with h | h
    · exact .inl h
    · exact .inr ⟨_, by simp, h⟩
  refine hK v' w' ?_ hgrow hat'
  refine ⟨?_, fun k hk => ?_⟩
  · rw [List.length_append, List.length_singleton]
    have : intsOf (l ++ [X]) = intsOf l ++ [.int .i64 (X : Int)] := by simp [intsOf]
    rw [this]; exact hown
  · rcases hat' with h1 | ⟨j, hj, h1⟩
    · exact h.free k (h1 ▸ hk)
    · rw [h1] at hk; cases hk
      exact ⟨hnew k hj, by omega⟩
end Go.Proofs.YtldkeelgnfegeaaGreat

/- A disk with one file: SyncDir; a crash. -/
namespace Go.Proofs.YtldkeelgnfegeaaGreat
open Go Go.RowKit Go.By

theorem one_syncDir {W w : World} {a : Nat} {s : ByteArray} {R : Int} {ops lf : Nat} {K K0 : List Nat} {os : List ByteOp} {own : Own} (hD : Dsk W a (oneF s R ops lf [] [.create s 1] K K0 os) own w) (hl : lf ≠ 1) (hops : ops < 1000000 ∧ lf < 1000000) :
    Calls Tryz.prog 9 #[.pointer (some ⟨a, 0, none⟩)] w fun e w' => e = .returned (.int .i64 0) ∧ ∃ own', Steps own own' w w' ∧ Dsk W a (oneF s R (ops + 1) (lf - 1) [(s, 1)] [] K K0 os) own' w' := by
  obtain ⟨D, hd, hok, e⟩ := hD.out
  have hlaid : D.laid = [.create s 1] := congrArg Sk.laid e
  have hkept : D.kept = [] := congrArg Sk.kept e
  have hseen : D.seen = [(s, 1)] := congrArg Sk.seen e
  have hops' : D.ops = ops := congrArg Sk.ops e
  have hleft : D.left = lf := congrArg Sk.left e
  have hbeg := sk_begin D true
  have herr : (D.begin true).2 = 0 := by rw [hbeg.2]; exact err_ok (show D.sk.left ≠ 1 by rw [show D.sk.left = D.left from rfl, hleft]; exact hl) rfl
  refine (syncDir_any own a D w hd hok (by omega) (by omega) (by rw [hlaid]; exact Nat.lt_of_le_of_lt (Nat.le_refl 1) (by omega)) (by rw [hlaid]; intro o ho; rw [List.mem_singleton] at ho; subst ho; rfl)).mono ?_
  rintro e' w' hc
  rcases hc with ⟨_, _, h1, _⟩ | ⟨_, rfl, own', fm', hs, hd', hk⟩
  · exact absurd herr h1
  · have hsame := DiskA.begin_same D true
    have hok1 := DiskA.begin_ok hok true
    have hb1 := hbeg.1
    have hr : redoNames ((D.begin true).1.laid.take D.laid.length) (D.begin true).1.kept = [(s, 1)] := by
      rw [hsame.2.2.1, hsame.2.1, List.take_length, hlaid, hkept]; rfl
    refine ⟨rfl, own', hs, hD.of_steps hs ⟨_, hd', ?_, ?_⟩⟩
    · refine DiskA.settled_ok hok1 hk (fun j hj => ?_)
      rw [hr] at hj
      obtain rfl : j = 1 := by simpa using hj
      exact hok1.seenIn s 1 (by rw [hsame.1, hseen]; exact get_one s 1)
    · have h2 : ((D.begin true).1.settled D.laid.length fm').sk = { (D.begin true).1.sk with kept := redoNames ((D.begin true).1.laid.take D.laid.length) (D.begin true).1.kept, seen := redoNames ((D.begin true).1.laid.take D.laid.length) (D.begin true).1.kept, laid := [] } := rfl
      rw [h2, hr, hb1, e]; rfl

/-- The bytes that a crash leaves. -/
def leftK (bits : List Nat) (K0 : List Nat) (os : List ByteOp) : List Nat := (redoOps (drawBit bits) os 0 K0).1
theorem one_crash {W w : World} {a : Nat} {s : ByteArray} {R : Int} {ops lf : Nat} {K K0 : List Nat} {os : List ByteOp} {own : Own} (hD : Dsk W a (oneF s R ops lf [(s, 1)] [] K K0 os) own w) (hsz : s.size ≤ maxLen) {bv : Value} {bits : List Nat} (hb : Bytes w bv bits) (hbo : bits ≠ [] → ∀ k, bv.ownBlock = some k → own k = none)
    (hos : os.length ≤ 1000000) (hlong : ∀ j, (redoOps (drawBit bits) os j K0).1.length ≤ 1099511627776) :
    Calls Tryz.prog 12 #[.pointer (some ⟨a, 0, none⟩), bv] w fun e w' => e = .returned (.tuple #[]) ∧ ∃ own', Steps own own' w w' ∧ Dsk W a (oneF s R ops 0 [(s, 1)] [] (leftK bits K0 os) (leftK bits K0 os) []) own' w' := by
  obtain ⟨D, hd, hok, e⟩ := hD.out
  have hlaid : D.laid = [] := congrArg Sk.laid e
  have hkept : D.kept = [(s, 1)] := congrArg Sk.kept e
  have hseen : D.seen = [(s, 1)] := congrArg Sk.seen e
  have hcont : D.cont = fun n => if n = 1 then ⟨K, K0, os⟩ else noFile := congrArg Sk.cont e
  have hroom : D.room = R := congrArg Sk.room e
  have hops : D.ops = ops := congrArg Sk.ops e
  have hmade : D.made = 1 := congrArg Sk.made e
  have hr : redoNames (D.laid.take (firstOf bits D.laid.length)) D.kept = [(s, 1)] := by
    rw [hlaid, hkept, List.take_nil]; rfl
  refine (crash_any own a D bv bits w hd hok hb hbo (by rw [hlaid]; decide) (by rw [hlaid]; intro o ho; cases ho) ⟨fun n => ?_, fun n j => ?_⟩ (by rw [hr]; exact Nat.le_trans (Nat.le_refl 1) (by omega)) (by rw [hr]; intro p hp; rw [List.mem_singleton] at hp; subst hp; exact hsz)).mono ?_
  · rw [hcont]; dsimp only
    split
    · exact hos
    · exact Nat.zero_le _
  · rw [hcont]; dsimp only
    split
    · exact hlong j
    · exact Nat.zero_le _
  · rintro e' w' ⟨rfl, own', fm', hs, hd', hok', _⟩
    have hn : namesOf [(s, 1)] = [s] := by
      unfold namesOf sortedNames
      rw [show ([(s, 1)] : List (ByteArray × Nat)).map (fun p => p.1.data.toList) = [s.data.toList] from rfl, List.mergeSort_singleton]
      simp
    have hs2 : (({ D with left := 0 } : DiskA).settled (firstOf bits D.laid.length) fm').seen = [(s, 1)] := hr
    have hk2 : (({ D with left := 0 } : DiskA).settled (firstOf bits D.laid.length) fm').kept = [(s, 1)] := hr
    have hc : crashed bits D fm' = (crashFile bits ({ (({ D with left := 0 } : DiskA).settled (firstOf bits D.laid.length) fm') with used := 0 }, 0) s).1 := by
      unfold crashed
      dsimp only
      rw [hs2, hn]
      rfl
    have hg : (Mp.get (({ D with left := 0 } : DiskA).settled (firstOf bits D.laid.length) fm').seen s).getD 0 = 1 := by
      rw [hs2, get_one]; rfl
    refine ⟨rfl, own', hs, hD.of_steps hs ⟨_, hd', hok', ?_⟩⟩
    rw [hc]
    have hcf : (crashFile bits ({ (({ D with left := 0 } : DiskA).settled (firstOf bits D.laid.length) fm') with used := 0 }, 0) s).1.sk = ⟨D.room, (0 : Int) + ((redoOps (drawBit bits) (D.cont 1).laid 0 (D.cont 1).kept).1.length : Int), D.ops, 0, D.made, (({ D with left := 0 } : DiskA).settled (firstOf bits D.laid.length) fm').seen, (({ D with left := 0 } : DiskA).settled (firstOf bits D.laid.length) fm').kept, [], fun k => if k = 1 then ⟨(redoOps (drawBit bits) (D.cont 1).laid 0 (D.cont 1).kept).1, (redoOps (drawBit bits) (D.cont 1).laid 0 (D.cont 1).kept).1, []⟩ else D.cont k⟩ := by
      unfold crashFile
      dsimp only
      rw [hg]
      rfl
    rw [hcf, hs2, hk2, hroom, hops, hmade, hcont]
    unfold oneF leftK
    dsimp only
    rw [if_pos rfl, Int.zero_add]
    refine congrArg (Sk.mk _ _ _ _ _ _ _ _) ?_
    funext n
    by_cases h1 : n = 1
    · rw [if_pos h1, if_pos h1]
    · rw [if_neg h1, if_neg h1, if_neg h1]
end Go.Proofs.YtldkeelgnfegeaaGreat

/- What a crash leaves of the bytes of a file. Plain. -/
namespace Go.Proofs.YtldkeelgnfegeaaGreat
open Go Go.RowKit Go.By

/-- Where all that was laid by is written behind the bytes that last, these stand at the front. -/
theorem left_front {bit : Nat → Bool} {K0 : List Nat} {ws : List (Nat × List Nat)} {m : Nat} (h : ∀ p ∈ ws, K0.length ≤ p.1) (hm : ∀ p ∈ ws, p.1 + p.2.length ≤ m) (j : Nat) :
    (∃ Y, (redoOps bit (writeOps ws) j K0).1 = K0 ++ Y) ∧ (redoOps bit (writeOps ws) j K0).1.length ≤ max K0.length m := by
  obtain ⟨h1, h2, h3⟩ := redoOps_out (bit := bit) ws j K0 hm
  generalize (redoOps bit (writeOps ws) j K0).1 = S at *
  refine ⟨⟨S.drop K0.length, ?_⟩, h3⟩
  have : S.take K0.length = K0 := by
    refine ext_at (by simp; omega) fun k hk => ?_
    have hk' : k < K0.length := by simp at hk; omega
    rw [atB_take hk', h1 k (fun ⟨p, hp, q1, _⟩ => by have := h p hp; omega)]
  calc S = S.take K0.length ++ S.drop K0.length := (List.take_append_drop _ _).symm
    _ = K0 ++ S.drop K0.length := by rw [this]
theorem writeOps_snoc (ws : List (Nat × List Nat)) (off : Nat) (b : List Nat) : writeOps ws ++ [.write off b] = writeOps (ws ++ [(off, b)]) := by simp [writeOps]

/-- A sector is written, or not. -/
theorem redo_sector {off : Nat} {b : List Nat} {bit : Nat → Bool} (hb : b.length = 128) (ho : off % 128 = 0) (i : Nat) (l : List Nat) : (redoWrite off b bit b.length 0 i l).1 = if bit i then nextK l off b else l := by
  have hp : pieceLen off b.length 0 = 128 := by
    unfold pieceLen
    omega
  have h1 : ∀ (bit : Nat → Bool) i l, (redoWrite off b bit b.length 0 i l).1 = if bit i then putL l (off + 0) ((b.drop 0).take 128) else l := by
    intro bit i l
    rw [hb]
    unfold redoWrite
    rw [if_pos (by omega), ← hb, hp, hb]
    unfold redoWrite
    rw [if_neg (by omega)]
  rw [h1]
  have h2 : nextK l off b = putL l (off + 0) ((b.drop 0).take 128) := by
    unfold nextK
    rw [h1, if_pos (show allBits 0 = true from rfl)]
  rw [h2]
end Go.Proofs.YtldkeelgnfegeaaGreat

/- The disk, its file, rows of numbers of the law's own. -/
namespace Go.Proofs.YtldkeelgnfegeaaGreat
open Go Go.ChangeShapes Go.WideShapes Go.ChangeAt Go.RowKit Go.By

theorem int64T : Tryz.prog.underlying 32 = some (.slice 2) := by kernel_rfl
theorem info64 : (Tryz.prog.info? 2).map (fun i => (i.zero, i.size, i.bytes)) = some (some (.int .i64 0), 1, 8) := by kernel_rfl
theorem infoInt : (Tryz.prog.info? 3).map (fun i => (i.zero, i.size, i.bytes)) = some (some (.int .i64 0), 1, 8) := by kernel_rfl

/-- The disk, its file, two rows of numbers. -/
structure Two (W : World) (a g : Nat) (s : ByteArray) (E : Nat) (S : Sk) (e1 e2 : TypeId) (v1 v2 : Value) (l1 l2 : List Nat) (own : Own) (w : World) : Prop where
  disk : Dsk W a S own w
  file : Fil W g a s E own w
  r1 : IRow W g e1 v1 l1 own w
  r2 : IRow W g e2 v2 l2 own w
  apart : ∀ j, v1.ownBlock = some j → v2.ownBlock ≠ some j
theorem after_one {W w w' : World} {a g : Nat} {s : ByteArray} {E : Nat} {S : Sk} {e1 e2 : TypeId} {v1 v2 v' : Value} {l1 l2 : List Nat} {own : Own} {x : Nat} {tt : TypeId} (hD : Dsk W a S own w) (hF : Fil W g a s E own w) (h1 : IRow W g e1 v1 l1 own w) (h2 : IRow W g e2 v2 l2 own w) (hap : ∀ j, v1.ownBlock = some j → v2.ownBlock ≠ some j)
    (hr : IRow W g e1 v' (l1 ++ [x]) own w') (hg : (w.alloc (.cells #[.int .i64 (x : Int)] tt)).grownBy w' v1.ownBlock) (hat : v'.ownBlock = v1.ownBlock ∨ ∃ k, w.heap.size ≤ k ∧ v'.ownBlock = some k) : Two W a g s E S e1 e2 v' v2 (l1 ++ [x]) l2 own w' := by
  have hb := (Below.refl w.heap.size w).alloc (Nat.le_refl _) (.cells #[.int .i64 (x : Int)] tt)
  refine ⟨(hD.stay hb).grown hg fun k hk => ⟨(h1.free k hk).1, (h1.lt k hk).1⟩, (hF.stay hb).grown hg fun e => (h1.free g e).2 rfl, hr, (h2.stay hb).grown hg fun k hk e => hap k e hk, fun j hj e => ?_⟩
  rcases hat with h | ⟨k, hk, h⟩
  · exact hap j (h ▸ hj) e
  · rw [h] at hj; cases hj
    have := (h2.lt _ e).2; omega
theorem after_two {W w w' : World} {a g : Nat} {s : ByteArray} {E : Nat} {S : Sk} {e1 e2 : TypeId} {v1 v2 v' : Value} {l1 l2 : List Nat} {own : Own} {x : Nat} {tt : TypeId} (h : Two W a g s E S e1 e2 v1 v2 l1 l2 own w)
    (hr : IRow W g e2 v' (l2 ++ [x]) own w') (hg : (w.alloc (.cells #[.int .i64 (x : Int)] tt)).grownBy w' v2.ownBlock) (hat : v'.ownBlock = v2.ownBlock ∨ ∃ k, w.heap.size ≤ k ∧ v'.ownBlock = some k) : Two W a g s E S e1 e2 v1 v' l1 (l2 ++ [x]) own w' := by
  have hb := (Below.refl w.heap.size w).alloc (Nat.le_refl _) (.cells #[.int .i64 (x : Int)] tt)
  refine ⟨(h.disk.stay hb).grown hg fun k hk => ⟨(h.r2.free k hk).1, (h.r2.lt k hk).1⟩, (h.file.stay hb).grown hg fun e => (h.r2.free g e).2 rfl, (h.r1.stay hb).grown hg fun k hk e => h.apart k hk e, hr, fun j hj e => ?_⟩
  rcases hat with h' | ⟨k, hk, h'⟩
  · exact h.apart j hj (h' ▸ e)
  · rw [h'] at e; cases e
    have := (h.r1.lt _ hj).2; omega
theorem drop_more {C X Y m : List Nat} {j k : Nat} (h : C.drop j = recOf k Y ++ m) : (C ++ X).drop j = recOf k Y ++ (m ++ X) := by
  have hl := congrArg List.length h
  rw [List.length_drop, List.length_append, recOf_length] at hl
  rw [List.drop_append_of_le_length (by omega), h, List.append_assoc]
end Go.Proofs.YtldkeelgnfegeaaGreat
