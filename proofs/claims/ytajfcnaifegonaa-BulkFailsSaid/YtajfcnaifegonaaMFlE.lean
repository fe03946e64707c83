/- A file of a disk: what it is in memory; what is asked of it without an operation; records and slots, put. -/
import Derived.Test.YtajfcnaifegonaaMFlA
import Derived.Test.YtajfcnaifegonaaMRecD
import Derived.Test.YtajfcnaifegonaaMSlH
import Derived.Handy
import Derived.BigQuiet
import Derived.Deep.QuietTactic
namespace Go.Proofs.Ytajfcnaifegonaa
open Go Go.RowKit Go.By
theorem own_shape {w : World} {base : Nat} {v : Value} {l : List Nat} (h : w.ownsRow base 5 1 v l.length (cellsOf l)) : ∃ p c, v = .slice p l.length c ∧ ∀ k, (Value.slice p l.length c).ownBlock = some k → base ≤ k ∧ k < w.heap.size := by
  rcases h.2 with ⟨h1, h2⟩ | ⟨g, c, cur, h1, h2, h3, h4⟩
  · exact ⟨none, 0, by rw [h1]; congr 1; omega, fun k hk => (by cases hk)⟩
  · refine ⟨_, c, h1, fun k hk => ?_⟩
    cases hk
    exact ⟨by first | exact h2 | exact h3 | exact h4.1 | omega, (Array.getElem?_eq_some_iff.1 (by first | exact h2 | exact h3)).1⟩
theorem recPut (k : Nat) (v : Value) (l : List Nat) (w : World) (hk : k < 256) (hv : Bytes w v l) (hl : l.length ≤ 4096) :
    Calls Try.prog 60 #[.int .u8 k, v] w fun e w' => ∃ p c, e = .returned (.tuple #[.slice p (recOf k l).length c, .int .i64 0]) ∧ Bytes w' (.slice p (recOf k l).length c) (recOf k l) ∧ (∀ j, (Value.slice p (recOf k l).length c).ownBlock = some j → w.heap.size ≤ j) ∧ Below w.heap.size w w' := by
  refine (Rc.put_any k v l w hk hv hl).mono ?_
  rintro e w' ⟨v', rfl, ho, hb⟩
  obtain ⟨p, c, rfl, hg⟩ := own_shape ho
  exact ⟨p, c, rfl, Bytes.of_owns ho (recOf_small hk hv.small) (by rw [recOf_length]; unfold maxLen; omega), fun j hj => (hg j hj).1, hb⟩
structure Fil (W : World) (g a : Nat) (s : ByteArray) (E : Nat) (own : Own) (w : World) : Prop where
  cells : w.heap[g]? = some (.cells #[.pointer (some ⟨a, 0, none⟩), .string s, .int .i64 E] 76 (0, 0))
  free : own g = none
  far : W.heap.size ≤ g
theorem Fil.lt {W w : World} {g a : Nat} {s : ByteArray} {E : Nat} {own : Own} (h : Fil W g a s E own w) : g < w.heap.size := (Array.getElem?_eq_some_iff.1 h.cells).1
theorem Fil.steps {W w w' : World} {g a : Nat} {s : ByteArray} {E : Nat} {own own' : Own} (h : Fil W g a s E own w) (hs : Steps own own' w w') : Fil W g a s E own' w' :=
  ⟨(hs.block g h.lt (.inl h.free)).trans h.cells, (hs.same g h.lt).trans h.free, h.far⟩
theorem Fil.stay {W w w' : World} {g a : Nat} {s : ByteArray} {E : Nat} {own : Own} (h : Fil W g a s E own w) (hb : Below w.heap.size w w') : Fil W g a s E own w' := h.steps (Steps.of_below hb)
theorem Fil.same {W w w' : World} {g a : Nat} {s : ByteArray} {E : Nat} {own : Own} (h : Fil W g a s E own w) (hk : w'.heap[g]? = w.heap[g]?) : Fil W g a s E own w' := ⟨hk.trans h.cells, h.free, h.far⟩
set_option maxRecDepth 100000 in
theorem isNone_any {W w : World} {g a : Nat} {s : ByteArray} {E : Nat} {own : Own} (h : Fil W g a s E own w) :
    Calls Try.prog 58 #[.pointer (some ⟨g, 0, none⟩)] w fun e w' => e = .returned (.bool false) ∧ w = w' := by
  have c0 := cells_of h.cells 0
  clear h
  go_enter Try.func58, Try.ntmps58
  go_wp2
  go_ret
  exact ⟨rfl, rfl⟩
set_option maxRecDepth 100000 in
theorem isNone_nil (w : World) : Calls Try.prog 58 #[.pointer none] w fun e w' => e = .returned (.bool true) ∧ w = w' := by
  go_enter Try.func58, Try.ntmps58
  go_wp2
  go_ret
  exact ⟨rfl, rfl⟩
def endAt (S : Sk) (s : ByteArray) (E : Nat) : Nat := max E ((S.size s).getD 0)
set_option maxRecDepth 100000 in
theorem end_any {W w : World} {g a : Nat} {s : ByteArray} {E : Nat} {S : Sk} {own : Own} (hD : Dsk W a S own w) (h : Fil W g a s E own w) :
    Calls Try.prog 32 #[.pointer (some ⟨g, 0, none⟩)] w fun e w' => e = .returned (.int .i64 (endAt S s E)) ∧ ∃ m, w' = w.drewN m := by
  have HN := Lib.hid (isNone_any h)
  have c0 := cells_of h.cells 0
  have c1 := cells_of h.cells 1
  have c2 := cells_of h.cells 2
  have hs : ∀ n, Calls Try.prog 26 #[.pointer (some ⟨a, 0, none⟩), .string s] (w.drewN n) fun e w' => e = .returned (sizeV (S.size s)) ∧ w' = w.drewN n := fun n => (Dsk.size (w := w.drewN n) (hD.stay (Sl.below_drewN w n)) s).mono fun _ _ h => ⟨h.1, h.2.symm⟩
  have HS := Lib.hid hs
  have HE : Hid (endAt S s E = max E ((S.size s).getD 0)) := rfl
  clear h hD hs
  cases hz : S.size s with
  | none =>
    rw [hz] at HS HE
    unfold sizeV at HS
    clear hz
    go_enter Try.func32, Try.ntmps32
    go_wp2_with (go_at_call 58; refine HN.out.mono ?_; rintro e w1 ⟨rfl, rfl⟩)
    go_quiet ((go_at_call 26; exact Calls.quiet_of_same (HS.out _)))
    go_wp2
    go_ret
    exact ⟨by rw [HE.out]; simp, _, rfl⟩
  | some n =>
    rw [hz] at HS HE
    unfold sizeV at HS
    clear hz
    go_enter Try.func32, Try.ntmps32
    go_wp2_with (go_at_call 58; refine HN.out.mono ?_; rintro e w1 ⟨rfl, rfl⟩)
    go_quiet ((go_at_call 26; exact Calls.quiet_of_same (HS.out _)))
    go_wp2
    all_goals
      go_ret
      exact ⟨by rw [HE.out, Option.getD_some]; first | rw [Nat.max_eq_right (by omega)]; rfl | rw [Nat.max_eq_left (by omega)]; rfl, _, rfl⟩
theorem below_same {w w0 : World} (e1 : w0.heap = w.heap) (e2 : w0.os = w.os) (e3 : w0.tape = w.tape) (e4 : w0.output = w.output) : Below w.heap.size w w0 := ⟨e2, e3, e4, by rw [e1]; exact Nat.le_refl _, fun _ _ => by rw [e1]⟩
theorem Fil.at_ {W w : World} {g a : Nat} {s : ByteArray} {E : Nat} {own : Own} (h : Fil W g a s E own w) : w.cell? ⟨g, 0, none⟩ = some (.pointer (some ⟨a, 0, none⟩)) ∧ w.cell? ⟨g, 1, none⟩ = some (.string s) ∧ w.cell? ⟨g, 2, none⟩ = some (.int .i64 E) := ⟨cells_of h.cells 0, cells_of h.cells 1, cells_of h.cells 2⟩
theorem Dsk.write_held {W w : World} {g a : Nat} {s : ByteArray} {E : Nat} {S : Sk} {own : Own} (h : Dsk W a S own w) (hf : Fil W g a s E own w) (hF : S.Fine) (hs : s.size ≤ maxLen) (off : Int) {bv : Value} {b : List Nat} (hb : Bytes w bv b) (hbk : b ≠ [] → ∀ k, bv.ownBlock = some k → own k = none ∨ own k = some .ink) (hbl : b.length ≤ 1048576) :
    ∀ w0 : World, w0.heap = w.heap → w0.os = w.os → w0.tape = w.tape → w0.output = w.output → Calls Try.prog 59 #[.pointer (some ⟨a, 0, none⟩), .string s, .int .i64 off, bv] w0 fun e w' => e = .returned (.int .i64 (S.write s off b).2) ∧
      w'.cell? ⟨g, 0, none⟩ = some (.pointer (some ⟨a, 0, none⟩)) ∧ w'.cell? ⟨g, 1, none⟩ = some (.string s) ∧ ∃ own', Steps own own' w w' ∧ Dsk W a (S.write s off b).1 own' w' := by
  intro w0 e1 e2 e3 e4
  have hb0 := below_same e1 e2 e3 e4
  refine ((h.stay hb0).write hF s hs off (hb.below hb0) hbk hbl).mono ?_
  rintro e w' ⟨rfl, own', hst, hd⟩
  have hf' := (hf.stay hb0).steps hst
  exact ⟨rfl, hf'.at_.1, hf'.at_.2.1, own', (Steps.of_below hb0).trans hst, hd⟩
set_option maxRecDepth 100000 in
theorem recordPut (k : Nat) (v : Value) (l : List Nat) (w : World) (hk : k < 256) (hv : Bytes w v l) (hl : l.length ≤ 4096) :
    Calls Try.prog 34 #[.agg #[.int .u8 k, v]] w fun e w' => ∃ p c, e = .returned (.tuple #[.slice p (recOf k l).length c, .int .i64 0]) ∧ Bytes w' (.slice p (recOf k l).length c) (recOf k l) ∧ (∀ j, (Value.slice p (recOf k l).length c).ownBlock = some j → w.heap.size ≤ j) ∧ Below w.heap.size w w' := by
  have HP := Lib.hid (recPut k v l (w.alloc (.cells #[.int .u8 k, v] 88)) hk (hv.below ((Below.refl _ _).alloc (Nat.le_refl _) _)) hl)
  have hlt := fun (i : Nat) (x : Value) (h : #[Value.int .u8 k, v][i]? = some x) => (cells_of (heap_alloc_new w (.cells #[Value.int .u8 k, v] 88)) i).trans h
  have h0 := hlt 0 _ rfl
  have h1 := hlt 1 _ rfl
  clear hv hlt
  go_enter Try.func34, Try.ntmps34
  go_wp2_with fail
  refine HP.out.mono ?_
  rintro e w1 ⟨p, c, rfl, hb1, hfar, hbw⟩
  have hz : w.heap.size + 1 = (w.alloc (.cells #[Value.int .u8 k, v] 88)).heap.size := by simp
  have HFIN : Hid (Bytes w1 (.slice p (recOf k l).length c) (recOf k l) ∧ (∀ j, (Value.slice p (recOf k l).length c).ownBlock = some j → w.heap.size ≤ j) ∧ Below w.heap.size w w1) :=
    ⟨hb1, fun j hj => by have := hfar j hj; omega, ((Below.refl w.heap.size w).alloc (Nat.le_refl _) _).trans (hbw.mono (by omega))⟩
  clear hb1 hfar hbw hz HP h0 h1
  go_wp2
  go_ret2
  exact ⟨p, c, rfl, HFIN.out⟩
set_option maxRecDepth 100000 in
theorem layRec_any {W w : World} {g a : Nat} {s : ByteArray} {E : Nat} {S : Sk} {own : Own} (hD : Dsk W a S own w) (h : Fil W g a s E own w) (hF : S.Fine) (hs : s.size ≤ maxLen) (off : Int) (k : Nat) (hk : k < 256) {bv : Value} {b : List Nat} (hb : Bytes w bv b) (hbl : b.length ≤ 4096) :
    Calls Try.prog 33 #[.pointer (some ⟨g, 0, none⟩), .int .i64 off, .func (.func 34) #[.agg #[.int .u8 k, bv]] #[]] w fun e w' =>
      e = .returned (.tuple #[.int .i64 (if (S.write s off (recOf k b)).2 = 0 then 9 + b.length else 0 : Nat), .int .i64 (S.write s off (recOf k b)).2]) ∧ ∃ own', Steps own own' w w' ∧ Dsk W a (S.write s off (recOf k b)).1 own' w' := by
  have HN := Lib.hid (isNone_any h)
  have HP := Lib.hid (recordPut k bv b w hk hb hbl)
  have hrl : (recOf k b).length = 9 + b.length := recOf_length k b
  have HW : Hid (∀ w1 p c, Bytes w1 (.slice p (recOf k b).length c) (recOf k b) → (∀ j, (Value.slice p (recOf k b).length c).ownBlock = some j → w.heap.size ≤ j) → Below w.heap.size w w1 → _) := fun w1 p c hb1 hfar hbw => (hD.stay hbw).write_held (h.stay hbw) hF hs off hb1 (fun _ j hj => .inl (hD.new_none (hfar j hj))) (by omega)
  have HH := Lib.hid h
  clear hD h hb hF
  rw [hrl] at HW HP
  have hsb : ∃ S2 x, S.write s off (recOf k b) = (S2, x) := ⟨_, _, rfl⟩
  obtain ⟨S2, x, hR⟩ := hsb
  rw [hR] at HW ⊢
  clear hR
  dsimp only at HW ⊢
  go_enter Try.func33, Try.ntmps33
  go_wp2_with (go_at_call 58; refine HN.out.mono ?_; rintro e w1 ⟨rfl, rfl⟩)
  refine HP.out.mono ?_
  rintro e w1 ⟨p, c, rfl, hb1, hfar, hbw⟩
  have HW1 := Lib.hid (HW.out w1 p c hb1 hfar hbw)
  obtain ⟨c0, c1, _⟩ := (HH.out.stay hbw).at_
  have HB := Lib.hid hbw
  clear hb1 hfar hbw HN HP HH HW
  go_wp2
  go_region_held3 (fun w' => w'.cell? ⟨g, 0, none⟩ = some (.pointer (some ⟨a, 0, none⟩)) ∧ w'.cell? ⟨g, 1, none⟩ = some (.string s)) (go_keep)
    (first | (go_at_call 59; refine (HW1.out _ (by rfl) (by rfl) (by rfl) (by rfl)).mono ?_; rintro e w2 ⟨rfl, d0, d1, hfin⟩))
  have HFIN : Hid (∃ own', Steps own own' w w2 ∧ Dsk W a S2 own' w2) := let ⟨own', hs, hd⟩ := hfin; ⟨own', (Steps.of_below HB.out).trans hs, hd⟩
  clear hfin HW1 HB
  by_cases hx : x = 0
  · subst hx
    go_wp2
    go_ret2
    exact ⟨rfl, HFIN.out⟩
  · go_wp2
    go_ret2
    exact ⟨rfl, HFIN.out⟩
def appendAt (S : Sk) (s : ByteArray) (E k : Nat) (b : List Nat) : Sk × Int := S.write s (endAt S s E) (recOf k b)
structure Moves (g : Nat) (own own' : Own) (w w' : World) : Prop where
  os : w'.os = w.os
  tape : w'.tape = w.tape
  output : w'.output = w.output
  size : w.heap.size ≤ w'.heap.size
  block : ∀ k, k < w.heap.size → k ≠ g → (own k = none ∨ own k = some .ink) → w'.heap[k]? = w.heap[k]?
  same : ∀ k, k < w.heap.size → own' k = own k
theorem Steps.moves {own own' : Own} {w w' : World} (h : Steps own own' w w') (g : Nat) : Moves g own own' w w' := ⟨h.os, h.tape, h.output, h.size, fun k hk _ ho => h.block k hk ho, h.same⟩
theorem Moves.trans {g : Nat} {o1 o2 o3 : Own} {w1 w2 w3 : World} (h : Moves g o1 o2 w1 w2) (k : Moves g o2 o3 w2 w3) : Moves g o1 o3 w1 w3 :=
  ⟨k.os.trans h.os, k.tape.trans h.tape, k.output.trans h.output, Nat.le_trans h.size k.size,
    fun b hb hg hn => (k.block b (Nat.lt_of_lt_of_le hb h.size) hg (by rw [h.same b hb]; exact hn)).trans (h.block b hb hg hn),
    fun b hb => (k.same b (Nat.lt_of_lt_of_le hb h.size)).trans (h.same b hb)⟩
theorem Moves.refl (g : Nat) (own : Own) (w : World) : Moves g own own w w := ⟨rfl, rfl, rfl, Nat.le_refl _, fun _ _ _ _ => rfl, fun _ _ => rfl⟩
theorem Moves.set (g : Nat) (own : Own) (w : World) (j : Nat) (v : Value) : Moves g own own w (w.setCell ⟨g, j, none⟩ v) :=
  ⟨rfl, rfl, rfl, by simp, fun _ _ hk _ => Below.heap_setCell _ _ _ _ hk, fun _ _ => rfl⟩
theorem Fil.move {W w w' : World} {g g' a : Nat} {s : ByteArray} {E : Nat} {own own' : Own} (h : Fil W g a s E own w) (hs : Moves g' own own' w w') (hne : g ≠ g') : Fil W g a s E own' w' :=
  ⟨(hs.block g h.lt hne (.inl h.free)).trans h.cells, (hs.same g h.lt).trans h.free, h.far⟩
set_option maxRecDepth 100000 in
theorem append_any {W w : World} {g a : Nat} {s : ByteArray} {E : Nat} {S : Sk} {own : Own} (hD : Dsk W a S own w) (h : Fil W g a s E own w) (hF : S.Fine) (hs : s.size ≤ maxLen) (k : Nat) (hk : k < 256) {bv : Value} {b : List Nat} (hb : Bytes w bv b) (hbl : b.length ≤ 4096) (hE : endAt S s E ≤ 1099511627776) :
    Calls Try.prog 18 #[.pointer (some ⟨g, 0, none⟩), .int .u8 k, bv] w fun e w' =>
      e = .returned (.tuple #[.int .i64 (if (appendAt S s E k b).2 = 0 then endAt S s E else 0 : Nat), .int .i64 (appendAt S s E k b).2]) ∧ ∃ own', Moves g own own' w w' ∧ Dsk W a (appendAt S s E k b).1 own' w' ∧
        Fil W g a s (if (appendAt S s E k b).2 = 0 then endAt S s E + (9 + b.length) else E) own' w' := by
  obtain ⟨q, cq, rfl, _⟩ := hb.any
  have HE := Lib.hid (end_any hD h)
  have HL : Hid (∀ m, _) := fun m => layRec_any (hD.stay (Sl.below_drewN w m)) (h.stay (Sl.below_drewN w m)) hF hs (endAt S s E) k hk (Sl.bytes_drewN hb m) hbl
  have HH := Lib.hid h
  clear hD h hb hF
  have hsb : ∃ S2 x, S.write s (endAt S s E) (recOf k b) = (S2, x) := ⟨_, _, rfl⟩
  unfold appendAt
  obtain ⟨S2, x, hR⟩ := hsb
  rw [hR] at HL ⊢
  clear hR
  dsimp only at HL ⊢
  obtain ⟨N, hN⟩ : ∃ N, N = endAt S s E := ⟨_, rfl⟩
  rw [← hN] at HE HL hE ⊢
  clear hN
  go_enter Try.func18, Try.ntmps18
  go_wp2_with fail
  refine HE.out.mono ?_
  rintro e w1 ⟨rfl, m, rfl⟩
  go_wp2_with fail
  refine (HL.out m).mono ?_
  rintro e w2 ⟨rfl, own2, hst, hd⟩
  have hst2 := (Steps.of_below (own := own) (Sl.below_drewN w m)).trans hst
  have hf2 := HH.out.steps hst2
  have c2 := hf2.at_.2.2
  have fz := free_of hf2.cells 2
  have hset : ∀ M : Nat, Moves g own own2 w (w2.setCell ⟨g, 2, none⟩ (.int .i64 M)) ∧ Dsk W a S2 own2 (w2.setCell ⟨g, 2, none⟩ (.int .i64 M)) ∧ Fil W g a s M own2 (w2.setCell ⟨g, 2, none⟩ (.int .i64 M)) := fun M =>
    ⟨(hst2.moves g).trans (Moves.set g own2 w2 2 _), hd.set hf2.free hf2.far 2 _, (set_heap hf2.cells 2 _).1, hf2.free, hf2.far⟩
  have HSET := Lib.hid hset
  have HNO : Hid (Moves g own own2 w w2 ∧ Dsk W a S2 own2 w2 ∧ Fil W g a s E own2 w2) := ⟨hst2.moves g, hd, hf2⟩
  clear hst hd hst2 hf2 hset HE HL HH
  by_cases hx : x = 0
  · subst hx
    have hw : IntKind.i64.wrap ((N : Int) + ((9 + b.length : Nat) : Int)) = ((N + (9 + b.length) : Nat) : Int) := by rw [IntWalk.i64_in _ (by omega)]; omega
    go_wp2
    have hn : (N : Int) + (9 + (b.length : Int)) = ((N + (9 + b.length) : Nat) : Int) := by omega
    rw [hn]
    go_ret2
    exact ⟨rfl, own2, HSET.out _⟩
  · go_wp2
    go_ret2
    exact ⟨rfl, own2, HNO.out⟩
end Go.Proofs.Ytajfcnaifegonaa
/- A file of a disk: what is held; what is read; Sync; Create; Open. -/
namespace Go.Proofs.Ytajfcnaifegonaa
open Go Go.RowKit Go.By
def Sk.piece (S : Sk) (s : ByteArray) (off : Int) : List Nat × Int :=
  if (S.read s off (min (max (((S.size s).getD 0 : Nat) - off) 0) 4105)).2 = 1 then ([], 2) else S.read s off (min (max (((S.size s).getD 0 : Nat) - off) 0) 4105)
end Go.Proofs.Ytajfcnaifegonaa
/- A file of a disk: Read, Held, Sync, Open. -/
namespace Go.Proofs.Ytajfcnaifegonaa
open Go Go.RowKit Go.By
theorem Dsk.small {W w : World} {a : Nat} {S : Sk} {own : Own} (h : Dsk W a S own w) {s : ByteArray} {n : Nat} (hn : Mp.get S.seen s = some n) : ∀ c ∈ (S.cont n).seen, c < 256 := by
  obtain ⟨D, hd, hok, rfl⟩ := h.out
  obtain ⟨ms, mk, mf, lv, _, h2⟩ := hd.out
  obtain ⟨fb, hfb⟩ := Option.isSome_iff_exists.1 (hok.seenIn s n hn)
  obtain ⟨⟨sv, kv, lv', cs, _, g2, _⟩, _⟩ := h2.each n fb hfb
  exact g2.small
end Go.Proofs.Ytajfcnaifegonaa
/- A file of a disk: Held. -/
namespace Go.Proofs.Ytajfcnaifegonaa
open Go Go.RowKit Go.By
end Go.Proofs.Ytajfcnaifegonaa
