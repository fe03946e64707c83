/- A file of a disk: what it is in memory; what is asked of it without an operation; records and slots, put. -/
import Derived.Test.YtlagllhhahomlaaGreatMFlA
import Derived.Test.YtlagllhhahomlaaGreatMRecD
import Derived.Test.YtlagllhhahomlaaGreatMSlH
import Derived.Handy
import Derived.BigQuiet
import Derived.Deep.QuietTactic
namespace Go.Proofs.YtlagllhhahomlaaGreat
open Go Go.RowKit Go.By
theorem own_shape {w : World} {base : Nat} {v : Value} {l : List Nat} (h : w.ownsRow base 5 1 v l.length (cellsOf l)) : ∃ p c, v = .slice p l.length c ∧ ∀ k, (Value.slice p l.length c).ownBlock = some k → base ≤ k ∧ k < w.heap.size := by
  rcases h.2 with ⟨h1, h2⟩ | ⟨g, c, cur, h1, h2, h3, h4⟩
  · exact ⟨none, 0, by rw [h1]; congr 1; omega, fun k hk => (by cases hk)⟩
  · refine ⟨_, c, h1, fun k hk => ?_⟩
    cases hk
    exact ⟨by first | exact h2 | exact h3 | exact h4.1 | omega, (Array.getElem?_eq_some_iff.1 (by first | exact h2 | exact h3)).1⟩
theorem recPut (k : Nat) (v : Value) (l : List Nat) (w : World) (hk : k < 256) (hv : Bytes w v l) (hl : l.length ≤ 4096) :
    Calls Tryz.prog 70 #[.int .u8 k, v] w fun e w' => ∃ p c, e = .returned (.tuple #[.slice p (recOf k l).length c, .int .i64 0]) ∧ Bytes w' (.slice p (recOf k l).length c) (recOf k l) ∧ (∀ j, (Value.slice p (recOf k l).length c).ownBlock = some j → w.heap.size ≤ j) ∧ Below w.heap.size w w' := by
  refine (Rc.put_any k v l w hk hv hl).mono ?_
  rintro e w' ⟨v', rfl, ho, hb⟩
  obtain ⟨p, c, rfl, hg⟩ := own_shape ho
  exact ⟨p, c, rfl, Bytes.of_owns ho (recOf_small hk hv.small) (by rw [recOf_length]; unfold maxLen; omega), fun j hj => (hg j hj).1, hb⟩
structure Fil (W : World) (g a : Nat) (s : ByteArray) (E : Nat) (own : Own) (w : World) : Prop where
  cells : w.heap[g]? = some (.cells #[.pointer (some ⟨a, 0, none⟩), .string s, .int .i64 E] 82 (0, 0))
  free : own g = none
  far : W.heap.size ≤ g
theorem Fil.lt {W w : World} {g a : Nat} {s : ByteArray} {E : Nat} {own : Own} (h : Fil W g a s E own w) : g < w.heap.size := (Array.getElem?_eq_some_iff.1 h.cells).1
theorem Fil.steps {W w w' : World} {g a : Nat} {s : ByteArray} {E : Nat} {own own' : Own} (h : Fil W g a s E own w) (hs : Steps own own' w w') : Fil W g a s E own' w' :=
  ⟨(hs.block g h.lt (.inl h.free)).trans h.cells, (hs.same g h.lt).trans h.free, h.far⟩
theorem Fil.stay {W w w' : World} {g a : Nat} {s : ByteArray} {E : Nat} {own : Own} (h : Fil W g a s E own w) (hb : Below w.heap.size w w') : Fil W g a s E own w' := h.steps (Steps.of_below hb)
theorem Fil.same {W w w' : World} {g a : Nat} {s : ByteArray} {E : Nat} {own : Own} (h : Fil W g a s E own w) (hk : w'.heap[g]? = w.heap[g]?) : Fil W g a s E own w' := ⟨hk.trans h.cells, h.free, h.far⟩
set_option maxRecDepth 100000 in
theorem isNone_any {W w : World} {g a : Nat} {s : ByteArray} {E : Nat} {own : Own} (h : Fil W g a s E own w) :
    Calls Tryz.prog 68 #[.pointer (some ⟨g, 0, none⟩)] w fun e w' => e = .returned (.bool false) ∧ w = w' := by
  have c0 := cells_of h.cells 0
  clear h
  go_enter Tryz.func68, Tryz.ntmps68
  go_wp2
  go_ret
  exact ⟨rfl, rfl⟩
set_option maxRecDepth 100000 in
theorem isNone_nil (w : World) : Calls Tryz.prog 68 #[.pointer none] w fun e w' => e = .returned (.bool true) ∧ w = w' := by
  go_enter Tryz.func68, Tryz.ntmps68
  go_wp2
  go_ret
  exact ⟨rfl, rfl⟩
def endAt (S : Sk) (s : ByteArray) (E : Nat) : Nat := max E ((S.size s).getD 0)
set_option maxRecDepth 100000 in
theorem end_any {W w : World} {g a : Nat} {s : ByteArray} {E : Nat} {S : Sk} {own : Own} (hD : Dsk W a S own w) (h : Fil W g a s E own w) :
    Calls Tryz.prog 36 #[.pointer (some ⟨g, 0, none⟩)] w fun e w' => e = .returned (.int .i64 (endAt S s E)) ∧ ∃ m, w' = w.drewN m := by
  have HN := Lib.hid (isNone_any h)
  have c0 := cells_of h.cells 0
  have c1 := cells_of h.cells 1
  have c2 := cells_of h.cells 2
  have hs : ∀ n, Calls Tryz.prog 39 #[.pointer (some ⟨a, 0, none⟩), .string s] (w.drewN n) fun e w' => e = .returned (sizeV (S.size s)) ∧ w' = w.drewN n := fun n => (Dsk.size (w := w.drewN n) (hD.stay (Sl.below_drewN w n)) s).mono fun _ _ h => ⟨h.1, h.2.symm⟩
  have HS := Lib.hid hs
  have HE : Hid (endAt S s E = max E ((S.size s).getD 0)) := rfl
  clear h hD hs
  cases hz : S.size s with
  | none =>
    rw [hz] at HS HE
    unfold sizeV at HS
    clear hz
    go_enter Tryz.func36, Tryz.ntmps36
    go_wp2_with (go_at_call 68; refine HN.out.mono ?_; rintro e w1 ⟨rfl, rfl⟩)
    go_quiet ((go_at_call 39; exact Calls.quiet_of_same (HS.out _)))
    go_wp2
    go_ret
    exact ⟨by rw [HE.out]; simp, _, rfl⟩
  | some n =>
    rw [hz] at HS HE
    unfold sizeV at HS
    clear hz
    go_enter Tryz.func36, Tryz.ntmps36
    go_wp2_with (go_at_call 68; refine HN.out.mono ?_; rintro e w1 ⟨rfl, rfl⟩)
    go_quiet ((go_at_call 39; exact Calls.quiet_of_same (HS.out _)))
    go_wp2
    all_goals
      go_ret
      exact ⟨by rw [HE.out, Option.getD_some]; first | rw [Nat.max_eq_right (by omega)]; rfl | rw [Nat.max_eq_left (by omega)]; rfl, _, rfl⟩
theorem below_same {w w0 : World} (e1 : w0.heap = w.heap) (e2 : w0.os = w.os) (e3 : w0.tape = w.tape) (e4 : w0.output = w.output) : Below w.heap.size w w0 := ⟨e2, e3, e4, by rw [e1]; exact Nat.le_refl _, fun _ _ => by rw [e1]⟩
theorem Fil.at_ {W w : World} {g a : Nat} {s : ByteArray} {E : Nat} {own : Own} (h : Fil W g a s E own w) : w.cell? ⟨g, 0, none⟩ = some (.pointer (some ⟨a, 0, none⟩)) ∧ w.cell? ⟨g, 1, none⟩ = some (.string s) ∧ w.cell? ⟨g, 2, none⟩ = some (.int .i64 E) := ⟨cells_of h.cells 0, cells_of h.cells 1, cells_of h.cells 2⟩
theorem Dsk.write_held {W w : World} {g a : Nat} {s : ByteArray} {E : Nat} {S : Sk} {own : Own} (h : Dsk W a S own w) (hf : Fil W g a s E own w) (hF : S.Fine) (hs : s.size ≤ maxLen) (off : Int) {bv : Value} {b : List Nat} (hb : Bytes w bv b) (hbk : b ≠ [] → ∀ k, bv.ownBlock = some k → own k = none ∨ own k = some .ink) (hbl : b.length ≤ 1048576) :
    ∀ w0 : World, w0.heap = w.heap → w0.os = w.os → w0.tape = w.tape → w0.output = w.output → Calls Tryz.prog 69 #[.pointer (some ⟨a, 0, none⟩), .string s, .int .i64 off, bv] w0 fun e w' => e = .returned (.int .i64 (S.write s off b).2) ∧
      w'.cell? ⟨g, 0, none⟩ = some (.pointer (some ⟨a, 0, none⟩)) ∧ w'.cell? ⟨g, 1, none⟩ = some (.string s) ∧ ∃ own', Steps own own' w w' ∧ Dsk W a (S.write s off b).1 own' w' := by
  intro w0 e1 e2 e3 e4
  have hb0 := below_same e1 e2 e3 e4
  refine ((h.stay hb0).write hF s hs off (hb.below hb0) hbk hbl).mono ?_
  rintro e w' ⟨rfl, own', hst, hd⟩
  have hf' := (hf.stay hb0).steps hst
  exact ⟨rfl, hf'.at_.1, hf'.at_.2.1, own', (Steps.of_below hb0).trans hst, hd⟩
set_option maxRecDepth 100000 in
theorem recordPut (k : Nat) (v : Value) (l : List Nat) (w : World) (hk : k < 256) (hv : Bytes w v l) (hl : l.length ≤ 4096) :
    Calls Tryz.prog 38 #[.agg #[.int .u8 k, v]] w fun e w' => ∃ p c, e = .returned (.tuple #[.slice p (recOf k l).length c, .int .i64 0]) ∧ Bytes w' (.slice p (recOf k l).length c) (recOf k l) ∧ (∀ j, (Value.slice p (recOf k l).length c).ownBlock = some j → w.heap.size ≤ j) ∧ Below w.heap.size w w' := by
  have HP := Lib.hid (recPut k v l (w.alloc (.cells #[.int .u8 k, v] 90)) hk (hv.below ((Below.refl _ _).alloc (Nat.le_refl _) _)) hl)
  have hlt := fun (i : Nat) (x : Value) (h : #[Value.int .u8 k, v][i]? = some x) => (cells_of (heap_alloc_new w (.cells #[Value.int .u8 k, v] 90)) i).trans h
  have h0 := hlt 0 _ rfl
  have h1 := hlt 1 _ rfl
  clear hv hlt
  go_enter Tryz.func38, Tryz.ntmps38
  go_wp2_with fail
  refine HP.out.mono ?_
  rintro e w1 ⟨p, c, rfl, hb1, hfar, hbw⟩
  have hz : w.heap.size + 1 = (w.alloc (.cells #[Value.int .u8 k, v] 90)).heap.size := by simp
  have HFIN : Hid (Bytes w1 (.slice p (recOf k l).length c) (recOf k l) ∧ (∀ j, (Value.slice p (recOf k l).length c).ownBlock = some j → w.heap.size ≤ j) ∧ Below w.heap.size w w1) :=
    ⟨hb1, fun j hj => by have := hfar j hj; omega, ((Below.refl w.heap.size w).alloc (Nat.le_refl _) _).trans (hbw.mono (by omega))⟩
  clear hb1 hfar hbw hz HP h0 h1
  go_wp2
  go_ret2
  exact ⟨p, c, rfl, HFIN.out⟩
set_option maxRecDepth 100000 in
theorem layRec_any {W w : World} {g a : Nat} {s : ByteArray} {E : Nat} {S : Sk} {own : Own} (hD : Dsk W a S own w) (h : Fil W g a s E own w) (hF : S.Fine) (hs : s.size ≤ maxLen) (off : Int) (k : Nat) (hk : k < 256) {bv : Value} {b : List Nat} (hb : Bytes w bv b) (hbl : b.length ≤ 4096) :
    Calls Tryz.prog 37 #[.pointer (some ⟨g, 0, none⟩), .int .i64 off, .func (.func 38) #[.agg #[.int .u8 k, bv]] #[]] w fun e w' =>
      e = .returned (.tuple #[.int .i64 (if (S.write s off (recOf k b)).2 = 0 then 9 + b.length else 0 : Nat), .int .i64 (S.write s off (recOf k b)).2]) ∧ ∃ own', Steps own own' w w' ∧ Dsk W a (S.write s off (recOf k b)).1 own' w' := by
  have HN := Lib.hid (isNone_any h)
  have HP := Lib.hid (recordPut k bv b w hk hb hbl)
  have hrl : (recOf k b).length = 9 + b.length := recOf_length k b
  have HW : Hid (∀ w1 p c, Bytes w1 (.slice p (recOf k b).length c) (recOf k b) → (∀ j, (Value.slice p (recOf k b).length c).ownBlock = some j → w.heap.size ≤ j) → Below w.heap.size w w1 → _) := fun w1 p c hb1 hfar hbw => (hD.stay hbw).write_held (h.stay hbw) hF hs off hb1 (fun _ j hj => .inl (hD.new_none (hfar j hj))) (by omega)
  have HH := Lib.hid h
  clear hD h hb hF
  rw [hrl] at HW HP
  have hsb : ∃ S2 x, S.write s off (recOf k b) = (S2, x) := ⟨_, _, rfl⟩
  obtain ⟨S2, x, hR⟩ := hsb
  rw [hR] at HW ⊢
  clear hR
  dsimp only at HW ⊢
  go_enter Tryz.func37, Tryz.ntmps37
  go_wp2_with (go_at_call 68; refine HN.out.mono ?_; rintro e w1 ⟨rfl, rfl⟩)
  refine HP.out.mono ?_
  rintro e w1 ⟨p, c, rfl, hb1, hfar, hbw⟩
  have HW1 := Lib.hid (HW.out w1 p c hb1 hfar hbw)
  obtain ⟨c0, c1, _⟩ := (HH.out.stay hbw).at_
  have HB := Lib.hid hbw
  clear hb1 hfar hbw HN HP HH HW
  go_wp2
  go_region_held3 (fun w' => w'.cell? ⟨g, 0, none⟩ = some (.pointer (some ⟨a, 0, none⟩)) ∧ w'.cell? ⟨g, 1, none⟩ = some (.string s)) (go_keep)
    (first | (go_at_call 69; refine (HW1.out _ (by rfl) (by rfl) (by rfl) (by rfl)).mono ?_; rintro e w2 ⟨rfl, d0, d1, hfin⟩))
  have HFIN : Hid (∃ own', Steps own own' w w2 ∧ Dsk W a S2 own' w2) := let ⟨own', hs, hd⟩ := hfin; ⟨own', (Steps.of_below HB.out).trans hs, hd⟩
  clear hfin HW1 HB
  by_cases hx : x = 0
  · subst hx
    go_wp2
    go_ret2
    exact ⟨rfl, HFIN.out⟩
  · go_wp2
    go_ret2
    exact ⟨rfl, HFIN.out⟩
def appendAt (S : Sk) (s : ByteArray) (E k : Nat) (b : List Nat) : Sk × Int := S.write s (endAt S s E) (recOf k b)
structure Moves (g : Nat) (own own' : Own) (w w' : World) : Prop where
  os : w'.os = w.os
  tape : w'.tape = w.tape
  output : w'.output = w.output
  size : w.heap.size ≤ w'.heap.size
  block : ∀ k, k < w.heap.size → k ≠ g → (own k = none ∨ own k = some .ink) → w'.heap[k]? = w.heap[k]?
  same : ∀ k, k < w.heap.size → own' k = own k
theorem Steps.moves {own own' : Own} {w w' : World} (h : Steps own own' w w') (g : Nat) : Moves g own own' w w' := ⟨h.os, h.tape, h.output, h.size, fun k hk _ ho => h.block k hk ho, h.same⟩
theorem Moves.trans {g : Nat} {o1 o2 o3 : Own} {w1 w2 w3 : World} (h : Moves g o1 o2 w1 w2) (k : Moves g o2 o3 w2 w3) : Moves g o1 o3 w1 w3 :=
  ⟨k.os.trans h.os, k.tape.trans h.tape, k.output.trans h.output, Nat.le_trans h.size k.size,
    fun b hb hg hn => (k.block b (Nat.lt_of_lt_of_le hb h.size) hg (by rw [h.same b hb]; exact hn)).trans (h.block b hb hg hn),
    fun b hb => (k.same b (Nat.lt_of_lt_of_le hb h.size)).trans (h.same b hb)⟩
theorem Moves.refl (g : Nat) (own : Own) (w : World) : Moves g own own w w := ⟨rfl, rfl, rfl, Nat.le_refl _, fun _ _ _ _ => rfl, fun _ _ => rfl⟩
theorem Moves.set (g : Nat) (own : Own) (w : World) (j : Nat) (v : Value) : Moves g own own w (w.setCell ⟨g, j, none⟩ v) :=
  ⟨rfl, rfl, rfl, by simp, fun _ _ hk _ => Below.heap_setCell _ _ _ _ hk, fun _ _ => rfl⟩
theorem Fil.move {W w w' : World} {g g' a : Nat} {s : ByteArray} {E : Nat} {own own' : Own} (h : Fil W g a s E own w) (hs : Moves g' own own' w w') (hne : g ≠ g') : Fil W g a s E own' w' :=
  ⟨(hs.block g h.lt hne (.inl h.free)).trans h.cells, (hs.same g h.lt).trans h.free, h.far⟩
set_option maxRecDepth 100000 in
theorem append_any {W w : World} {g a : Nat} {s : ByteArray} {E : Nat} {S : Sk} {own : Own} (hD : Dsk W a S own w) (h : Fil W g a s E own w) (hF : S.Fine) (hs : s.size ≤ maxLen) (k : Nat) (hk : k < 256) {bv : Value} {b : List Nat} (hb : Bytes w bv b) (hbl : b.length ≤ 4096) (hE : endAt S s E ≤ 1099511627776) :
    Calls Tryz.prog 13 #[.pointer (some ⟨g, 0, none⟩), .int .u8 k, bv] w fun e w' =>
      e = .returned (.tuple #[.int .i64 (if (appendAt S s E k b).2 = 0 then endAt S s E else 0 : Nat), .int .i64 (appendAt S s E k b).2]) ∧ ∃ own', Moves g own own' w w' ∧ Dsk W a (appendAt S s E k b).1 own' w' ∧
        Fil W g a s (if (appendAt S s E k b).2 = 0 then endAt S s E + (9 + b.length) else E) own' w' := by
  obtain ⟨q, cq, rfl, _⟩ := hb.any
  have HE := Lib.hid (end_any hD h)
  have HL : Hid (∀ m, _) := fun m => layRec_any (hD.stay (Sl.below_drewN w m)) (h.stay (Sl.below_drewN w m)) hF hs (endAt S s E) k hk (Sl.bytes_drewN hb m) hbl
  have HH := Lib.hid h
  clear hD h hb hF
  have hsb : ∃ S2 x, S.write s (endAt S s E) (recOf k b) = (S2, x) := ⟨_, _, rfl⟩
  unfold appendAt
  obtain ⟨S2, x, hR⟩ := hsb
  rw [hR] at HL ⊢
  clear hR
  dsimp only at HL ⊢
  obtain ⟨N, hN⟩ : ∃ N, N = endAt S s E := ⟨_, rfl⟩
  rw [← hN] at HE HL hE ⊢
  clear hN
  go_enter Tryz.func13, Tryz.ntmps13
  go_wp2_with fail
  refine HE.out.mono ?_
  rintro e w1 ⟨rfl, m, rfl⟩
  go_wp2_with fail
  refine (HL.out m).mono ?_
  rintro e w2 ⟨rfl, own2, hst, hd⟩
  have hst2 := (Steps.of_below (own := own) (Sl.below_drewN w m)).trans hst
  have hf2 := HH.out.steps hst2
  have c2 := hf2.at_.2.2
  have fz := free_of hf2.cells 2
  have hset : ∀ M : Nat, Moves g own own2 w (w2.setCell ⟨g, 2, none⟩ (.int .i64 M)) ∧ Dsk W a S2 own2 (w2.setCell ⟨g, 2, none⟩ (.int .i64 M)) ∧ Fil W g a s M own2 (w2.setCell ⟨g, 2, none⟩ (.int .i64 M)) := fun M =>
    ⟨(hst2.moves g).trans (Moves.set g own2 w2 2 _), hd.set hf2.free hf2.far 2 _, (set_heap hf2.cells 2 _).1, hf2.free, hf2.far⟩
  have HSET := Lib.hid hset
  have HNO : Hid (Moves g own own2 w w2 ∧ Dsk W a S2 own2 w2 ∧ Fil W g a s E own2 w2) := ⟨hst2.moves g, hd, hf2⟩
  clear hst hd hst2 hf2 hset HE HL HH
  by_cases hx : x = 0
  · subst hx
    have hw : IntKind.i64.wrap ((N : Int) + ((9 + b.length : Nat) : Int)) = ((N + (9 + b.length) : Nat) : Int) := by rw [IntWalk.i64_in _ (by omega)]; omega
    go_wp2
    have hn : (N : Int) + (9 + (b.length : Int)) = ((N + (9 + b.length) : Nat) : Int) := by omega
    rw [hn]
    go_ret2
    exact ⟨rfl, own2, HSET.out _⟩
  · go_wp2
    go_ret2
    exact ⟨rfl, own2, HNO.out⟩
end Go.Proofs.YtlagllhhahomlaaGreat
/- A file of a disk: what is held; what is read; Sync; Create; Open. -/
namespace Go.Proofs.YtlagllhhahomlaaGreat
open Go Go.RowKit Go.By
def Sk.piece (S : Sk) (s : ByteArray) (off : Int) : List Nat × Int :=
  if (S.read s off (min (max (((S.size s).getD 0 : Nat) - off) 0) 4105)).2 = 1 then ([], 2) else S.read s off (min (max (((S.size s).getD 0 : Nat) - off) 0) 4105)
theorem Dsk.read_held {W w : World} {g a : Nat} {s : ByteArray} {E : Nat} {S : Sk} {own : Own} (h : Dsk W a S own w) (hf : Fil W g a s E own w) (hF : S.Fine) (hs : s.size ≤ maxLen) (off n : Int) :
    ∀ w0 : World, w0.heap = w.heap → w0.os = w.os → w0.tape = w.tape → w0.output = w.output → Calls Tryz.prog 40 #[.pointer (some ⟨a, 0, none⟩), .string s, .int .i64 off, .int .i64 n] w0 fun e w' => ∃ p c, e = .returned (.tuple #[.slice p (S.read s off n).1.length c, .int .i64 (S.read s off n).2]) ∧
      w'.cell? ⟨g, 0, none⟩ = some (.pointer (some ⟨a, 0, none⟩)) ∧ w'.cell? ⟨g, 1, none⟩ = some (.string s) ∧
      w'.ownsRow w.heap.size 5 1 (.slice p (S.read s off n).1.length c) (S.read s off n).1.length (cellsOf (S.read s off n).1) ∧ ((S.read s off n).2 ≠ 0 → p = none ∧ c = 0) ∧ Steps own own w w' ∧ Dsk W a S.tick own w' := by
  intro w0 e1 e2 e3 e4
  have hb0 := below_same e1 e2 e3 e4
  refine ((h.stay hb0).read hF s hs off n).mono ?_
  rintro e w' ⟨p, c, rfl, hown, hz, hst, hd⟩
  have hf' := (hf.stay hb0).steps hst
  rw [e1] at hown
  exact ⟨p, c, rfl, hf'.at_.1, hf'.at_.2.1, hown, hz, (Steps.of_below hb0).trans hst, hd⟩
set_option maxRecDepth 100000 in
theorem from_any {W w : World} {g a : Nat} {s : ByteArray} {E : Nat} {S : Sk} {own : Own} (hD : Dsk W a S own w) (h : Fil W g a s E own w) (hF : S.Fine) (hs : s.size ≤ maxLen) (off : Int) (ho : 0 ≤ off ∧ off ≤ 1099511627776) :
    Calls Tryz.prog 137 #[.pointer (some ⟨g, 0, none⟩), .int .i64 off] w fun e w' => ∃ p c, e = .returned (.tuple #[.slice p (S.piece s off).1.length c, .int .i64 (S.piece s off).2]) ∧
      w'.ownsRow w.heap.size 5 1 (.slice p (S.piece s off).1.length c) (S.piece s off).1.length (cellsOf (S.piece s off).1) ∧ Steps own own w w' ∧ Dsk W a S.tick own w' := by
  obtain ⟨c0, c1, _⟩ := h.at_
  have hsz : ((S.size s).getD 0) ≤ 1099511627776 := by
    unfold Sk.size
    cases hg : Mp.get S.seen s with
    | none => exact Nat.zero_le _
    | some n => exact hF.short n
  obtain ⟨L, hL⟩ : ∃ L, L = (S.size s).getD 0 := ⟨_, rfl⟩
  have hs0 : ∀ n, Calls Tryz.prog 39 #[.pointer (some ⟨a, 0, none⟩), .string s] (w.drewN n) fun e w' => e = .returned (.tuple #[.int .i64 L, .bool (S.size s).isSome]) ∧ w' = w.drewN n := fun n => (Dsk.size (w := w.drewN n) (hD.stay (Sl.below_drewN w n)) s).mono fun _ _ h => ⟨h.1.trans (by rw [hL]; cases S.size s <;> rfl), h.2.symm⟩
  have HS := Lib.hid hs0
  have HR : Hid (∀ m, _) := fun m => (hD.stay (Sl.below_drewN w m)).read_held (h.stay (Sl.below_drewN w m)) hF hs off (min (max ((L : Int) - off) 0) 4105)
  have HP : Hid (S.piece s off = if (S.read s off (min (max ((L : Int) - off) 0) 4105)).2 = 1 then ([], 2) else S.read s off (min (max ((L : Int) - off) 0) 4105)) := by rw [hL]; rfl
  rw [← hL] at hsz
  obtain ⟨n, hn⟩ : ∃ n, n = min (max ((L : Int) - off) 0) 4105 := ⟨_, rfl⟩
  rw [← hn] at HR HP
  have hsb : ∃ l x, S.read s off n = (l, x) := ⟨_, _, rfl⟩
  obtain ⟨l, x, hR⟩ := hsb
  rw [hR] at HR HP
  dsimp only at HR HP
  obtain ⟨bb, hbb⟩ : ∃ bb, bb = (S.size s).isSome := ⟨_, rfl⟩
  rw [← hbb] at HS
  have hw : IntKind.i64.wrap ((L : Int) - off) = (L : Int) - off := IntWalk.i64_in _ (by omega)
  clear hR hL hbb hD h hF hs0
  have hcase : ((L : Int) - off < 0 ∧ n = 0) ∨ (¬ (L : Int) - off < 0 ∧ (L : Int) - off ≤ 4105 ∧ n = (L : Int) - off) ∨ (¬ (L : Int) - off < 0 ∧ ¬ (L : Int) - off ≤ 4105 ∧ n = 4105) := by omega
  clear hn
  rcases hcase with ⟨h1, rfl⟩ | ⟨h1, h2, rfl⟩ | ⟨h1, h2, rfl⟩
  all_goals
    go_enter Tryz.func137, Tryz.ntmps137
    go_wp2_with fail
    go_quiet ((go_at_call 39; exact Calls.quiet_of_same (HS.out _)))
    have HR1 := Lib.hid (HR.out nq)
    have d0 : (w.drewN nq).cell? ⟨g, 0, none⟩ = some (.pointer (some ⟨a, 0, none⟩)) := c0
    have d1 : (w.drewN nq).cell? ⟨g, 1, none⟩ = some (.string s) := c1
    have HQ : Hid (Steps own own w (w.drewN nq)) := Steps.of_below (Sl.below_drewN w nq)
    have hqs : Hid ((w.drewN nq).heap.size = w.heap.size) := rfl
    clear c0 c1 HR
    generalize w.drewN nq = wq at *
    go_wp2
    go_region_held3 (fun w' => w'.cell? ⟨g, 0, none⟩ = some (.pointer (some ⟨a, 0, none⟩)) ∧ w'.cell? ⟨g, 1, none⟩ = some (.string s)) (go_keep)
      (first | (go_at_call 40; refine (HR1.out _ (by rfl) (by rfl) (by rfl) (by rfl)).mono ?_; rintro e w2 ⟨p, c, rfl, e0, e1, hown, hz, hst, hd⟩))
    rw [hqs.out] at hown
    have HFIN : Hid (w2.ownsRow w.heap.size 5 1 (.slice p l.length c) l.length (cellsOf l) ∧ Steps own own w w2 ∧ Dsk W a S.tick own w2) := ⟨hown, HQ.out.trans hst, hd⟩
    clear hown hst hd HR1 HQ
    by_cases hx : x = 1
    · subst hx
      rw [if_pos rfl] at HP
      go_wp2
      go_ret2
      rw [HP.out]
      exact ⟨none, 0, rfl, World.ownsRow_nil _ _ _ _, HFIN.out.2⟩
    · rw [if_neg hx] at HP
      go_wp2
      go_ret2
      rw [HP.out]
      exact ⟨p, c, rfl, HFIN.out⟩
end Go.Proofs.YtlagllhhahomlaaGreat
/- A file of a disk: Read, Held, Sync, Open. -/
namespace Go.Proofs.YtlagllhhahomlaaGreat
open Go Go.RowKit Go.By
def tkErr (l : List Nat) : Nat := if isRec l then 0 else 2
def tkKind (l : List Nat) : Nat := if isRec l then atB l 4 else 0
def tkBody (l : List Nat) : List Nat := if isRec l then pc l 5 (bodyLen l) else []
def tkLen (l : List Nat) : Nat := if isRec l then 9 + bodyLen l else 0
theorem recTakeAll (sv : Value) (l : List Nat) (w : World) (hsv : Bytes w sv l) (hl : l.length ≤ 17592186044416) :
    Calls Tryz.prog 138 #[sv] w fun e w' => ∃ p c, e = .returned (.tuple #[.int .u8 (tkKind l : Nat), .slice p (tkBody l).length c, .int .i64 (tkLen l : Nat), .int .i64 (tkErr l : Nat)]) ∧ Bytes w' (.slice p (tkBody l).length c) (tkBody l) ∧ (∀ j, (Value.slice p (tkBody l).length c).ownBlock = some j → w.heap.size ≤ j) ∧ Below w.heap.size w w' := by
  refine (Rc.take_any sv l w hsv hl).mono ?_
  rintro e w' ⟨v, hb, h⟩
  unfold tkErr tkKind tkBody tkLen
  cases hr : isRec l
  · rw [hr] at h
    exact ⟨none, 0, h, Bytes.nil _, fun j hj => (by cases hj), hb⟩
  · rw [if_pos hr] at h
    obtain ⟨p, c, rfl, hg⟩ := own_shape h.2
    rw [if_pos rfl, if_pos rfl, if_pos rfl, if_pos rfl]
    exact ⟨p, c, h.1, Bytes.of_owns h.2 (pc_small hsv.small) (by simp only [pc, List.length_take, List.length_drop]; unfold maxLen; omega), fun j hj => (hg j hj).1, hb⟩
theorem Sk.read_small {S : Sk} {s : ByteArray} (h : ∀ n, ∀ c ∈ (S.cont n).seen, c < 256) (off n : Int) : ∀ c ∈ (S.read s off n).1, c < 256 := by
  unfold Sk.read
  split
  · exact fun c hc => (by cases hc)
  · split
    · exact fun c hc => (by cases hc)
    · split
      · exact fun c hc => (by cases hc)
      · exact fun c hc => h _ c (List.mem_of_mem_drop (List.mem_of_mem_take hc))
theorem Sk.read_short {S : Sk} (hF : S.Fine) (s : ByteArray) (off n : Int) : (S.read s off n).1.length ≤ 1099511627776 := by
  unfold Sk.read
  split
  · exact Nat.zero_le _
  · split
    · exact Nat.zero_le _
    · rename_i k _
      split
      · exact Nat.zero_le _
      · have := hF.short k
        simp only [List.length_take, List.length_drop]; omega
theorem Dsk.small {W w : World} {a : Nat} {S : Sk} {own : Own} (h : Dsk W a S own w) {s : ByteArray} {n : Nat} (hn : Mp.get S.seen s = some n) : ∀ c ∈ (S.cont n).seen, c < 256 := by
  obtain ⟨D, hd, hok, rfl⟩ := h.out
  obtain ⟨ms, mk, mf, lv, _, h2⟩ := hd.out
  obtain ⟨fb, hfb⟩ := Option.isSome_iff_exists.1 (hok.seenIn s n hn)
  obtain ⟨⟨sv, kv, lv', cs, _, g2, _⟩, _⟩ := h2.each n fb hfb
  exact g2.small
theorem Dsk.read_small {W w : World} {a : Nat} {S : Sk} {own : Own} (h : Dsk W a S own w) (s : ByteArray) (off n : Int) : ∀ c ∈ (S.read s off n).1, c < 256 := by
  unfold Sk.read
  split
  · exact fun c hc => (by cases hc)
  · split
    · exact fun c hc => (by cases hc)
    · rename_i k hk
      split
      · exact fun c hc => (by cases hc)
      · exact fun c hc => h.small hk c (List.mem_of_mem_drop (List.mem_of_mem_take hc))
theorem Dsk.piece_small {W w : World} {a : Nat} {S : Sk} {own : Own} (h : Dsk W a S own w) (hF : S.Fine) (s : ByteArray) (off : Int) : (∀ c ∈ (S.piece s off).1, c < 256) ∧ (S.piece s off).1.length ≤ 1099511627776 := by
  unfold Sk.piece
  split
  · exact ⟨fun c hc => (by cases hc), Nat.zero_le _⟩
  · exact ⟨h.read_small s _ _, Sk.read_short hF s _ _⟩
def readOut (S : Sk) (s : ByteArray) (E : Nat) (off : Int) : Nat × List Nat × Int :=
  if off < 256 ∨ (endAt S s E : Int) ≤ off then (0, [], 2)
  else if (S.piece s off).2 ≠ 0 then (0, [], (S.piece s off).2)
  else (tkKind (S.piece s off).1, tkBody (S.piece s off).1, tkErr (S.piece s off).1)
def readS (S : Sk) (s : ByteArray) (E : Nat) (off : Int) : Sk := if off < 256 ∨ (endAt S s E : Int) ≤ off then S else S.tick
set_option maxRecDepth 100000 in
theorem fileRead_any {W w : World} {g a : Nat} {s : ByteArray} {E : Nat} {S : Sk} {own : Own} (hD : Dsk W a S own w) (h : Fil W g a s E own w) (hF : S.Fine) (hs : s.size ≤ maxLen) (off : Int) (hE : endAt S s E ≤ 1099511627776) :
    Calls Tryz.prog 106 #[.pointer (some ⟨g, 0, none⟩), .int .i64 off] w fun e w' => ∃ p c, e = .returned (.tuple #[.int .u8 (readOut S s E off).1, .slice p (readOut S s E off).2.1.length c, .int .i64 (readOut S s E off).2.2]) ∧
      Bytes w' (.slice p (readOut S s E off).2.1.length c) (readOut S s E off).2.1 ∧ (∀ j, (Value.slice p (readOut S s E off).2.1.length c).ownBlock = some j → w.heap.size ≤ j) ∧ Steps own own w w' ∧ Dsk W a (readS S s E off) own w' ∧ Fil W g a s E own w' := by
  have HN := Lib.hid (isNone_any h)
  have HE := Lib.hid (end_any hD h)
  have hfil : ∀ w', Steps own own w w' → Fil W g a s E own w' := fun w' hst => h.steps hst
  have HFIL := Lib.hid hfil
  have HO : Hid (readOut S s E off = if off < 256 ∨ (endAt S s E : Int) ≤ off then (0, [], 2) else if (S.piece s off).2 ≠ 0 then (0, [], (S.piece s off).2) else (tkKind (S.piece s off).1, tkBody (S.piece s off).1, tkErr (S.piece s off).1)) := rfl
  have HS : Hid (readS S s E off = if off < 256 ∨ (endAt S s E : Int) ≤ off then S else S.tick) := rfl
  by_cases h1 : off < 256
  · have HD := Lib.hid hD
    rw [if_pos (.inl h1)] at HO HS
    clear hD h hF hfil
    go_enter Tryz.func106, Tryz.ntmps106
    go_wp2_with (go_at_call 68; refine HN.out.mono ?_; rintro e w1 ⟨rfl, rfl⟩)
    go_returns
    rw [HO.out, HS.out]
    exact ⟨none, 0, rfl, Bytes.nil _, fun j hj => (by cases hj), ⟨rfl, rfl, rfl, Nat.le_refl _, fun _ _ _ => rfl, fun _ _ => rfl⟩, HD.out, HFIL.out _ ⟨rfl, rfl, rfl, Nat.le_refl _, fun _ _ _ => rfl, fun _ _ => rfl⟩⟩
  by_cases h2 : (endAt S s E : Int) ≤ off
  · have HD := Lib.hid hD
    rw [if_pos (.inr h2)] at HO HS
    clear hD h hF hfil
    go_enter Tryz.func106, Tryz.ntmps106
    go_wp2_with (go_at_call 68; refine HN.out.mono ?_; rintro e w1 ⟨rfl, rfl⟩)
    refine HE.out.mono ?_
    rintro e w1 ⟨rfl, m, rfl⟩
    have HQ : Hid (Steps own own w (w.drewN m)) := Steps.of_below (Sl.below_drewN w m)
    have HDQ := Lib.hid (HD.out.stay (Sl.below_drewN w m))
    go_wp2
    go_returns
    rw [HO.out, HS.out]
    exact ⟨none, 0, rfl, Bytes.nil _, fun j hj => (by cases hj), HQ.out, HDQ.out, HFIL.out _ HQ.out⟩
  · rw [if_neg (by omega)] at HO HS
    have HFR : Hid (∀ m, _) := fun m => from_any (hD.stay (Sl.below_drewN w m)) (h.stay (Sl.below_drewN w m)) hF hs off (by omega)
    have HPS := Lib.hid (hD.piece_small hF s off)
    clear hD h hF hfil
    have hsb : ∃ l x, S.piece s off = (l, x) := ⟨_, _, rfl⟩
    obtain ⟨l, x, hR⟩ := hsb
    rw [hR] at HFR HO HPS
    clear hR
    dsimp only at HFR HO HPS
    have hdec : decide (off < 256) = false := decide_eq_false h1
    have hdec2 : decide ((endAt S s E : Int) ≤ off) = false := decide_eq_false h2
    go_enter Tryz.func106, Tryz.ntmps106
    go_wp2_with (go_at_call 68; refine HN.out.mono ?_; rintro e w1 ⟨rfl, rfl⟩)
    refine HE.out.mono ?_
    rintro e w1 ⟨rfl, m, rfl⟩
    have HQ : Hid (Steps own own w (w.drewN m)) := Steps.of_below (Sl.below_drewN w m)
    go_wp2_with fail
    refine (HFR.out m).mono ?_
    rintro e w2 ⟨p, c, rfl, hown, hst, hd⟩
    have HST := Lib.hid (HQ.out.trans hst)
    have HD2 := Lib.hid hd
    have hby := Bytes.of_owns hown HPS.out.1 (by have := HPS.out.2; unfold maxLen; omega)
    have HTK := Lib.hid (recTakeAll _ l w2 hby (by have := HPS.out.2; omega))
    clear hown hst hd hby HQ HFR HN HE HPS
    by_cases hx : x = 0
    · subst hx
      rw [if_neg (by simp)] at HO
      go_wp2_with fail
      refine HTK.out.mono ?_
      rintro e w3 ⟨p3, c3, rfl, hb3, hfr, hbw⟩
      have HFIN : Hid (Bytes w3 (.slice p3 (tkBody l).length c3) (tkBody l) ∧ (∀ j, (Value.slice p3 (tkBody l).length c3).ownBlock = some j → w.heap.size ≤ j) ∧ Steps own own w w3 ∧ Dsk W a S.tick own w3 ∧ Fil W g a s E own w3) :=
        ⟨hb3, fun j hj => Nat.le_trans HST.out.size (hfr j hj), HST.out.trans (Steps.of_below hbw), HD2.out.stay hbw, HFIL.out _ (HST.out.trans (Steps.of_below hbw))⟩
      clear hb3 hfr hbw
      go_wp2
      go_returns
      rw [HO.out, HS.out]
      exact ⟨p3, c3, rfl, HFIN.out⟩
    · rw [if_pos hx] at HO
      go_wp2
      go_returns
      rw [HO.out, HS.out]
      exact ⟨none, 0, rfl, Bytes.nil _, fun j hj => (by cases hj), HST.out, HD2.out, HFIL.out _ HST.out⟩
end Go.Proofs.YtlagllhhahomlaaGreat
/- A file of a disk: Held. -/
namespace Go.Proofs.YtlagllhhahomlaaGreat
open Go Go.RowKit Go.By
end Go.Proofs.YtlagllhhahomlaaGreat
