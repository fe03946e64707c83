/- Batches in a program: a part that is a leaf is laid. -/
import Derived.Test.YtlagllhhahomlaaGreatMBaF
import Derived.Test.YtlagllhhahomlaaGreatMBaE
import Derived.Test.YtlagllhhahomlaaGreatMBaC
namespace Go.Proofs.YtlagllhhahomlaaGreat.Sl.Nd
open Go Go.RowKit Go.By
theorem laidLf_set {R : Int} {C : List Nat} {os : List ByteOp} {W w Wn w' : World} {g a o b : Nat} {own : Own} {its : List NIt} {e : Ending} (h : Tf (fsT R C os) W g a o own w) (hb : Below w.heap.size w Wn) (hb1 : w.heap.size ≤ b) (hb2 : b < Wn.heap.size) (hl : LaidLf R C os W g a o own its Wn e w') (x y : Value) :
    LaidLf R C os W g a o own its w e ((w'.setCell ⟨b, 0, none⟩ x).setCell ⟨b, 1, none⟩ y) ∧ w'.heap[b]? = Wn.heap[b]? := by
  obtain ⟨he, own4, hm4, ht4⟩ := hl
  have hgl : g < w.heap.size := h.file.lt
  have hWl : W.heap.size ≤ w.heap.size := h.disk.below.size
  have hn : own b = none := h.disk.new_none hb1
  have hon : own4 b = none := (hm4.same _ hb2).trans hn
  have hgne : g ≠ b := by omega
  refine ⟨⟨he, own4, ?_, (ht4.set hon (by omega) hgne 0 _).set hon (by omega) hgne 1 _⟩, hm4.block b hb2 (fun e => hgne e.symm) (.inl hn)⟩
  have m2 : Moves g own own4 w w' := ((Steps.of_below hb).moves g).trans hm4
  refine ⟨m2.os, m2.tape, m2.output, by have := m2.size; simpa [World.setCell] using this, fun k hk hkg ho => ?_, m2.same⟩
  rw [Below.heap_setCell _ _ _ _ (by show k ≠ b; omega), Below.heap_setCell _ _ _ _ (by show k ≠ b; omega)]
  exact m2.block k hk hkg ho
set_option maxRecDepth 100000 in
set_option maxHeartbeats 4000000 in
theorem laid_leaf {R : Int} {C : List Nat} {os : List ByteOp} {W w : World} {g a o uu : Nat} {lv : Int} {own : Own} (h : Tf (fsT R C os) W g a o own w) (hR : ((256 + C.length + 4105 : Nat) : Int) ≤ R ∧ R ≤ 1099511627776) (h16 : 256 + C.length ≤ 16777216) (ho : o < 1000000 ∧ os.length < 1000000)
    (hu : w.heap[uu]? = some (.cells #[.pointer (some ⟨g, 0, none⟩), .int .i64 lv] 106 (0, 0))) {pi qx : Option Addr} {ci lx cx : Nat} {its : List NIt} (hi : RowAt KItem w pi ci its) (hm : mayNd (lfOf its) = true) :
    Calls Tryz.prog 48 #[.pointer (some ⟨uu, 0, none⟩), .agg #[.slice qx lx cx, .int .i64 0, .int .u64 0, .int .i64 0, .slice none 0 0, .slice none 0 0, .slice pi its.length ci, .slice none 0 0]] w (LaidLf R C os W g a o own its w) := by
  have h8 := (may_lf (n := lfOf its) rfl hm).1
  have h81 : 1 ≤ its.length := h8.1
  have h82 : its.length ≤ 8 := h8.2
  obtain ⟨W1, hW1⟩ : ∃ W1, W1 = (w.alloc (.cells #[.slice qx lx cx, .int .i64 0, .int .u64 0, .int .i64 0, .slice none 0 0, .slice none 0 0, .slice pi its.length ci, .slice none 0 0] 113)).alloc (.cells #[.int .i64 0, .int .u64 0] 25) := ⟨_, rfl⟩
  have hWs : W1 = allocs w [.cells #[.slice qx lx cx, .int .i64 0, .int .u64 0, .int .i64 0, .slice none 0 0, .slice none 0 0, .slice pi its.length ci, .slice none 0 0] 113, .cells #[.int .i64 0, .int .u64 0] 25] := hW1
  have g0 : W1.heap[w.heap.size]? = some (.cells #[.slice qx lx cx, .int .i64 0, .int .u64 0, .int .i64 0, .slice none 0 0, .slice none 0 0, .slice pi its.length ci, .slice none 0 0] 113 (0, 0)) := by rw [hWs]; exact allocs_at (i := 0) rfl
  have g1 : W1.heap[w.heap.size + 1]? = some (.cells #[.int .i64 0, .int .u64 0] 25 (0, 0)) := by rw [hWs]; exact allocs_at (i := 1) rfl
  have hb1 : Below w.heap.size w W1 := by rw [hWs]; exact allocs_below _ _
  have hz1 : W1.heap.size = w.heap.size + 2 := by rw [hW1]; simp
  have HFR : Hid (∀ Wx, Calls Tryz.prog 89 #[.agg #[.slice qx lx cx, .int .i64 0, .int .u64 0, .int .i64 0, .slice none 0 0, .slice none 0 0, .slice pi its.length ci, .slice none 0 0]] Wx fun e w' => e = .returned (.bool true) ∧ Below Wx.heap.size Wx w') := fun Wx => by
    have := fresh_any Wx 0 qx pi none lx cx its.length ci 0 0 (by omega)
    have e : decide (0 < its.length + 0) = true := decide_eq_true (by omega)
    rw [e] at this
    exact this
  have HLY : Hid (∀ Wn, Below w.heap.size w Wn → Calls Tryz.prog 90 #[.pointer (some ⟨uu, 0, none⟩), .agg #[.bool true, .slice pi its.length ci, .slice none 0 0, .slice none 0 0]] Wn (LaidLf R C os W g a o own its Wn)) := fun Wn hb => lay_leaf (h.stay hb) hR h16 ho ((hb.block _ (Array.getElem?_eq_some_iff.1 hu).1).trans hu) (hi.below hb) hm
  have HST : Hid (∀ Wn w' e x y, Below w.heap.size w Wn → w.heap.size + 1 < Wn.heap.size → LaidLf R C os W g a o own its Wn e w' → LaidLf R C os W g a o own its w e ((w'.setCell ⟨w.heap.size + 1, 0, none⟩ x).setCell ⟨w.heap.size + 1, 1, none⟩ y) ∧ w'.heap[w.heap.size + 1]? = Wn.heap[w.heap.size + 1]?) := fun Wn w' e x y hb hb2 hl => laidLf_set h hb (Nat.le_succ _) hb2 hl x y
  have HG0 := Lib.hid g0; have HG1 := Lib.hid g1; have HB1 := Lib.hid hb1; have HZ1 := Lib.hid hz1
  have HW1 := Lib.hid hW1
  have hLi : (its.length : Int) > 0 := by omega
  have hdc : decide (0 < its.length) = true := decide_eq_true h81
  clear h hR h16 ho hu hi hm h8 h82 hWs g0 g1 hb1 hz1 hW1
  obtain ⟨L, hL⟩ : ∃ L, L = its.length := ⟨_, rfl⟩
  have HL := Lib.hid hL
  rw [← hL] at HFR HLY HG0 HW1 hLi hdc h81 ⊢
  clear hL
  go_enter Tryz.func48, Tryz.ntmps48
  go_wp2_with fail
  rw [← HW1.out]
  refine (HFR.out _).mono ?_
  rintro e w2 ⟨rfl, hb2⟩
  have kn := (hb2.block _ (Array.getElem?_eq_some_iff.1 HG0.out).1).trans HG0.out
  have kr := (hb2.block _ (Array.getElem?_eq_some_iff.1 HG1.out).1).trans HG1.out
  have p6 : w2.cell? ⟨w.heap.size, 6, none⟩ = some (.slice pi L ci) := cells_of kn 6
  have p7 : w2.cell? ⟨w.heap.size, 7, none⟩ = some (.slice none 0 0) := cells_of kn 7
  obtain ⟨W3, hW3⟩ : ∃ W3, W3 = w2.alloc (.cells #[.bool true, .slice pi L ci, .slice none 0 0, .slice none 0 0] 38) := ⟨_, rfl⟩
  have hb3 : Below w2.heap.size w2 W3 := by rw [hW3]; exact (Below.refl _ _).alloc (Nat.le_refl _) _
  have kn3 := (hb3.block _ (Array.getElem?_eq_some_iff.1 kn).1).trans kn
  have p73 : W3.cell? ⟨w.heap.size, 7, none⟩ = some (.slice none 0 0) := cells_of kn3 7
  rw [hW3] at p73
  have hg3 : W3.heap[w2.heap.size]? = some (.cells #[.bool true, .slice pi L ci, .slice none 0 0, .slice none 0 0] 38 (0, 0)) := by rw [hW3]; exact heap_alloc_new w2 _
  have hbw3 : Below w.heap.size w W3 := HB1.out.trans ((hb2.trans (hb3.mono hb2.size)).mono HB1.out.size)
  have hs3 : w.heap.size + 1 < W3.heap.size := by have := hb2.size; have := hb3.size; have := HZ1.out; omega
  have kr3 := (hb3.block _ (Array.getElem?_eq_some_iff.1 kr).1).trans kr
  have HLY3 := Lib.hid (HLY.out W3 hbw3)
  have HST3 : Hid (∀ w' e, LaidLf R C os W g a o own its W3 e w' → w'.heap[w.heap.size + 1]? = some (.cells #[.int .i64 0, .int .u64 0] 25 (0, 0)) ∧ ∀ x y, LaidLf R C os W g a o own its w e ((w'.setCell ⟨w.heap.size + 1, 0, none⟩ x).setCell ⟨w.heap.size + 1, 1, none⟩ y)) := fun w' e hl => ⟨((HST.out W3 w' e undef undef hbw3 hs3 hl).2).trans kr3, fun x y => (HST.out W3 w' e x y hbw3 hs3 hl).1⟩
  have i0 : W3.cell? ⟨w2.heap.size, 0, none⟩ = some (.bool true) := cells_of hg3 0
  have i1 : W3.cell? ⟨w2.heap.size, 1, none⟩ = some (.slice pi L ci) := cells_of hg3 1
  have i2 : W3.cell? ⟨w2.heap.size, 2, none⟩ = some (.slice none 0 0) := cells_of hg3 2
  have i3 : W3.cell? ⟨w2.heap.size, 3, none⟩ = some (.slice none 0 0) := cells_of hg3 3
  have HW3 := Lib.hid hW3
  clear hb2 kn kr hb3 kn3 hg3 hbw3 hs3 kr3 hW3 HFR HLY HST HG0 HG1 HB1 HZ1 HW1
  go_wp2_with fail
  rw [← HW3.out]
  go_loopw [29] (fun i W' => i = .int .i64 0 ∧ W' = W3) (fun _ _ => 0)
  case atStart => exact ⟨rfl, rfl⟩
  case round =>
    obtain ⟨rfl, rfl⟩ := hrel
    go_wp2_with fail
    refine HLY3.out.mono ?_
    rintro e w5 hl
    obtain ⟨hk5, hF⟩ := HST3.out w5 e hl
    obtain ⟨rfl, -⟩ := hl
    have t0 : w5.cell? ⟨w.heap.size + 1, 0, none⟩ = some (.int .i64 0) := cells_of hk5 0
    have t1 : w5.cell? ⟨w.heap.size + 1, 1, none⟩ = some (.int .u64 0) := cells_of hk5 1
    have q0 := free_of hk5 0; have q1 := free_of hk5 1
    have HX := Lib.hid (fun (_ : Unit) => two_set (a := .int .i64 (256 + C.length : Nat)) (b := .int .u64 (its.length : Nat)) hk5)
    have HF := Lib.hid (hF (.int .i64 (256 + C.length : Nat)) (.int .u64 (its.length : Nat)))
    clear hk5 hF HLY3 HST3
    go_wp2
    exact bodyPost_ret (cell_ret2 (p := 4) (u := 5) (x := .int .i64 0) (ty := 25) (n := 2) (by kernel_rfl) (by kernel_rfl) (by kernel_rfl) rfl rfl (HX.out ()) rfl) rfl HF.out
end Go.Proofs.YtlagllhhahomlaaGreat.Sl.Nd
/- Batches in a program: a node is laid. -/
namespace Go.Proofs.YtlagllhhahomlaaGreat.Sl.Nd
open Go Go.RowKit Go.By
def LaidNd (R : Int) (C : List Nat) (os : List ByteOp) (W : World) (g a o : Nat) (own : Own) (n : Nd) (w : World) (e : Ending) (w' : World) : Prop :=
  e = .returned (.tuple #[.agg #[.int .i64 (256 + C.length : Nat), .int .u64 (cntN n : Nat)], .int .i64 0]) ∧
    ∃ own', Moves g own own' w w' ∧ Tf (fsT R (C ++ recOf 2 (putNd n)) (os ++ [.write (256 + C.length) (recOf 2 (putNd n))])) W g a (o + 1) own' w'
set_option maxRecDepth 100000 in
set_option maxHeartbeats 4000000 in
theorem lay_any {R : Int} {C : List Nat} {os : List ByteOp} {W w : World} {g a o uu : Nat} {lv : Int} {own : Own} (h : Tf (fsT R C os) W g a o own w) (hR : ((256 + C.length + 4105 : Nat) : Int) ≤ R ∧ R ≤ 1099511627776) (h16 : 256 + C.length ≤ 16777216) (ho : o < 1000000 ∧ os.length < 1000000)
    (hu : w.heap[uu]? = some (.cells #[.pointer (some ⟨g, 0, none⟩), .int .i64 lv] 106 (0, 0))) {pi pk pd : Option Addr} {ci ck cd : Nat} {n : Nd} (hn : ∀ own' W', Moves g own own' w W' → IsNd W' (.agg #[.bool n.leaf, .slice pi n.its.length ci, .slice pk n.ks.length ck, .slice pd n.kids.length cd]) n pi ci pk ck pd cd) (hm : mayNd n = true) :
    Calls Tryz.prog 90 #[.pointer (some ⟨uu, 0, none⟩), .agg #[.bool n.leaf, .slice pi n.its.length ci, .slice pk n.ks.length ck, .slice pd n.kids.length cd]] w (LaidNd R C os W g a o own n w) := by
  have hi : IsNd w (.agg #[.bool n.leaf, .slice pi n.its.length ci, .slice pk n.ks.length ck, .slice pd n.kids.length cd]) n pi ci pk ck pd cd := hn own w (Moves.refl ..)
  obtain ⟨W1, hW1⟩ : ∃ W1, W1 = (w.alloc (.cells #[.bool n.leaf, .slice pi n.its.length ci, .slice pk n.ks.length ck, .slice pd n.kids.length cd] 38)).alloc (.cells #[.int .i64 0, .int .u64 0] 25) := ⟨_, rfl⟩
  have hWs : W1 = allocs w [.cells #[.bool n.leaf, .slice pi n.its.length ci, .slice pk n.ks.length ck, .slice pd n.kids.length cd] 38, .cells #[.int .i64 0, .int .u64 0] 25] := hW1
  have g0 : W1.heap[w.heap.size]? = some (.cells #[.bool n.leaf, .slice pi n.its.length ci, .slice pk n.ks.length ck, .slice pd n.kids.length cd] 38 (0, 0)) := by rw [hWs]; exact allocs_at (i := 0) rfl
  have g1 : W1.heap[w.heap.size + 1]? = some (.cells #[.int .i64 0, .int .u64 0] 25 (0, 0)) := by rw [hWs]; exact allocs_at (i := 1) rfl
  have hb1 : Below w.heap.size w W1 := by rw [hWs]; exact allocs_below _ _
  have hz1 : W1.heap.size = w.heap.size + 2 := by rw [hW1]; simp
  have hul : uu < w.heap.size := (Array.getElem?_eq_some_iff.1 hu).1
  have gu : W1.heap[uu]? = some (.cells #[.pointer (some ⟨g, 0, none⟩), .int .i64 lv] 106 (0, 0)) := (hb1.block _ hul).trans hu
  have HM : Hid (Calls Tryz.prog 123 #[.agg #[.bool n.leaf, .slice pi n.its.length ci, .slice pk n.ks.length ck, .slice pd n.kids.length cd]] W1 fun e w' => e = .returned (.bool true) ∧ Below W1.heap.size W1 w') := by
    have := may_any (hi.below hb1)
    rw [hm] at this
    exact this
  have HPU : Hid (∀ Wx, Below W1.heap.size W1 Wx → Calls Tryz.prog 124 #[.agg #[.bool n.leaf, .slice pi n.its.length ci, .slice pk n.ks.length ck, .slice pd n.kids.length cd]] Wx (Rows Wx (putNd n))) := fun Wx hx => put_any ((hi.below hb1).below hx)
  have HAP : Hid (∀ Wx bv, Below W1.heap.size W1 Wx → Bytes Wx bv (putNd n) → Calls Tryz.prog 13 #[.pointer (some ⟨g, 0, none⟩), .int .u8 2, bv] Wx fun e w' => e = .returned (.tuple #[.int .i64 (256 + C.length : Nat), .int .i64 0]) ∧
      ∃ own', Moves g own own' Wx w' ∧ Tf (fsT R (C ++ recOf 2 (putNd n)) (os ++ [.write (256 + C.length) (recOf 2 (putNd n))])) W g a (o + 1) own' w') := fun Wx bv hx hbv => app_tf ((h.stay hb1).stay hx) hR h16 ho (by decide) hbv (by have := putNd_length n; omega)
  have HT := Lib.hid h; have HB1 := Lib.hid hb1; have HG0 := Lib.hid g0; have HG1 := Lib.hid g1; have HGU := Lib.hid gu; have HZ1 := Lib.hid hz1; have HUL := Lib.hid hul
  have HW1 : Hid (W1 = (w.alloc (.cells #[.bool n.leaf, .slice pi n.its.length ci, .slice pk n.ks.length ck, .slice pd n.kids.length cd] 38)).alloc (.cells #[.int .i64 0, .int .u64 0] 25)) := hW1
  have n0 : W1.cell? ⟨w.heap.size, 0, none⟩ = some (.bool n.leaf) := cells_of g0 0
  have n1 : W1.cell? ⟨w.heap.size, 1, none⟩ = some (.slice pi n.its.length ci) := cells_of g0 1
  have n2 : W1.cell? ⟨w.heap.size, 2, none⟩ = some (.slice pk n.ks.length ck) := cells_of g0 2
  have n3 : W1.cell? ⟨w.heap.size, 3, none⟩ = some (.slice pd n.kids.length cd) := cells_of g0 3
  have hlz : (putNd n).length ≤ 1300 := putNd_length _
  have HLZ := Lib.hid hlz
  have HPS : Hid (∀ c ∈ putNd n, c < 256) := putNd_small (IsNd.fine hi)
  have hgl : g < w.heap.size := h.file.lt
  have hnn : ∀ k, w.heap.size ≤ k → own k = none := fun k hk => h.disk.new_none hk
  have hWl : W.heap.size ≤ w.heap.size := h.disk.below.size
  have HK4 : Hid (∀ Wx Wy own4, Below W1.heap.size W1 Wx → Moves g own own4 Wx Wy → Wy.heap[w.heap.size]? = some (.cells #[.bool n.leaf, .slice pi n.its.length ci, .slice pk n.ks.length ck, .slice pd n.kids.length cd] 38 (0, 0)) ∧ Wy.heap[w.heap.size + 1]? = some (.cells #[.int .i64 0, .int .u64 0] 25 (0, 0))) := fun Wx Wy own4 hx hm => by
    have hsz := hx.size
    exact ⟨(hm.block w.heap.size (by omega) (by omega) (.inl (hnn _ (Nat.le_refl _)))).trans ((hx.block w.heap.size (by omega)).trans g0), (hm.block (w.heap.size + 1) (by omega) (by omega) (.inl (hnn _ (Nat.le_succ _)))).trans ((hx.block (w.heap.size + 1) (by omega)).trans g1)⟩
  have HCT : Hid (∀ w3 w4 own4, Below W1.heap.size W1 w3 → Moves g own own4 w3 w4 → Calls Tryz.prog 108 #[.agg #[.bool n.leaf, .slice pi n.its.length ci, .slice pk n.ks.length ck, .slice pd n.kids.length cd]] w4 fun e w' => e = .returned (.int .u64 (cntN n : Nat)) ∧ Below w4.heap.size w4 w') := fun w3 w4 own4 hx hm4 => by
    have := count_any (hn own4 w4 (((Steps.of_below (hb1.trans (hx.mono hb1.size))).moves g).trans hm4)) (by have := sum_may hm; omega)
    rw [cnt_cntN] at this
    exact this
  have HFN : Hid (∀ w3 w4 w5 own4, Below W1.heap.size W1 w3 → Moves g own own4 w3 w4 → Tf (fsT R (C ++ recOf 2 (putNd n)) (os ++ [.write (256 + C.length) (recOf 2 (putNd n))])) W g a (o + 1) own4 w4 → Below w4.heap.size w4 w5 →
      LaidNd R C os W g a o own n w (.returned (.tuple #[.agg #[.int .i64 (256 + C.length : Nat), .int .u64 (cntN n : Nat)], .int .i64 0])) ((w5.setCell ⟨w.heap.size + 1, 0, none⟩ (.int .i64 (256 + C.length : Nat))).setCell ⟨w.heap.size + 1, 1, none⟩ (.int .u64 (cntN n : Nat)))) := fun w3 w4 w5 own4 hx hm4 ht4 hb5 => by
    have hsz := hx.size
    have hon : own4 (w.heap.size + 1) = none := (hm4.same _ (by omega)).trans (hnn _ (Nat.le_succ _))
    have hgne : g ≠ w.heap.size + 1 := by omega
    refine ⟨rfl, own4, ?_, ((ht4.stay hb5).set hon (by omega) hgne 0 _).set hon (by omega) hgne 1 _⟩
    have m1 : Moves g own own w w3 := (Steps.of_below (hb1.trans (hx.mono hb1.size))).moves g
    have m2 := (m1.trans hm4).trans ((Steps.of_below (own := own4) hb5).moves g)
    refine ⟨m2.os, m2.tape, m2.output, by have := m2.size; simpa [World.setCell] using this, fun k hk hkg ho => ?_, m2.same⟩
    rw [Below.heap_setCell _ _ _ _ (by show k ≠ w.heap.size + 1; omega), Below.heap_setCell _ _ _ _ (by show k ≠ w.heap.size + 1; omega)]
    exact m2.block k hk hkg ho
  clear h hR h16 ho hu hi hm hWs g0 g1 gu hb1 hz1 hul hlz hgl hnn hWl hn
  clear hW1 n0 n1 n2 n3
  generalize n.leaf = LF at *
  generalize n.its.length = L at *
  generalize n.ks.length = KN at *
  generalize n.kids.length = DN at *
  go_enter Tryz.func90, Tryz.ntmps90
  go_wp2_with fail
  rw [← HW1.out]
  refine HM.out.mono ?_
  rintro e w2 ⟨rfl, hb2⟩
  have hd : Below W1.heap.size W1 w2.drew := hb2.drew
  have kp : ∀ {Wx : World} {k : Nat} {x : Obj}, Below W1.heap.size W1 Wx → W1.heap[k]? = some x → Wx.heap[k]? = some x := fun hx hk => (hx.block _ (Array.getElem?_eq_some_iff.1 hk).1).trans hk
  have KP := Lib.hid (fun (Wx : World) (hx : Below W1.heap.size W1 Wx) => (⟨kp hx HGU.out, kp hx HG0.out, kp hx HG1.out⟩ : _ ∧ _ ∧ _))
  obtain ⟨ku, kn, -⟩ := KP.out _ hd
  have u0 : w2.drew.cell? ⟨uu, 0, none⟩ = some (.pointer (some ⟨g, 0, none⟩)) := cells_of ku 0
  have m0 : w2.drew.cell? ⟨w.heap.size, 0, none⟩ = some (.bool LF) := cells_of kn 0
  have m1 : w2.drew.cell? ⟨w.heap.size, 1, none⟩ = some (.slice pi L ci) := cells_of kn 1
  have m2 : w2.drew.cell? ⟨w.heap.size, 2, none⟩ = some (.slice pk KN ck) := cells_of kn 2
  have m3 : w2.drew.cell? ⟨w.heap.size, 3, none⟩ = some (.slice pd DN cd) := cells_of kn 3
  have HD := Lib.hid hd
  clear hd hb2 kp ku kn HM
  go_wp2_with fail
  go_region_law (first
    | (go_simp; go_at_call 124; (with_reducible refine (HPU.out _ HD.out).mono ?_); rintro e3 w3 ⟨v3, rfl, o3, b3⟩
       have HB3 := Lib.hid (HD.out.trans (b3.mono HD.out.size))
       obtain ⟨ku3, kn3, -⟩ := KP.out _ HB3.out
       have u3 : w3.cell? ⟨uu, 0, none⟩ = some (.pointer (some ⟨g, 0, none⟩)) := cells_of ku3 0
       have p0 : w3.cell? ⟨w.heap.size, 0, none⟩ = some (.bool LF) := cells_of kn3 0
       have p1 : w3.cell? ⟨w.heap.size, 1, none⟩ = some (.slice pi L ci) := cells_of kn3 1
       have p2 : w3.cell? ⟨w.heap.size, 2, none⟩ = some (.slice pk KN ck) := cells_of kn3 2
       have p3 : w3.cell? ⟨w.heap.size, 3, none⟩ = some (.slice pd DN cd) := cells_of kn3 3
       have HV3 : Hid (Bytes w3 v3 (putNd n)) := Bytes.of_owns o3 HPS.out (by have := HLZ.out; unfold maxLen; omega)
       obtain ⟨q3, d3, rfl, -⟩ := HV3.out.any
       clear o3 b3 ku3 kn3)
    | (go_simp; go_at_call 13; (with_reducible refine (HAP.out _ _ HB3.out HV3.out).mono ?_); rintro e4 w4 ⟨rfl, own4, mv4, tf4⟩
       have HM4 := Lib.hid mv4; have HT4 := Lib.hid tf4
       obtain ⟨kn4, kr4⟩ := HK4.out _ _ own4 HB3.out mv4
       have s0 : w4.cell? ⟨w.heap.size, 0, none⟩ = some (.bool LF) := cells_of kn4 0
       have s1 : w4.cell? ⟨w.heap.size, 1, none⟩ = some (.slice pi L ci) := cells_of kn4 1
       have s2 : w4.cell? ⟨w.heap.size, 2, none⟩ = some (.slice pk KN ck) := cells_of kn4 2
       have s3 : w4.cell? ⟨w.heap.size, 3, none⟩ = some (.slice pd DN cd) := cells_of kn4 3
       have HR4 := Lib.hid kr4
       clear mv4 tf4 kn4 kr4))
  all_goals
    go_wp2_with fail
    refine (HCT.out _ _ _ HB3.out HM4.out).mono ?_
    rintro e5 w5 ⟨rfl, hb5⟩
    have kr5 : w5.heap[w.heap.size + 1]? = some (.cells #[.int .i64 0, .int .u64 0] 25 (0, 0)) := (hb5.block _ (Array.getElem?_eq_some_iff.1 HR4.out).1).trans HR4.out
    have t0 : w5.cell? ⟨w.heap.size + 1, 0, none⟩ = some (.int .i64 0) := cells_of kr5 0
    have t1 : w5.cell? ⟨w.heap.size + 1, 1, none⟩ = some (.int .u64 0) := cells_of kr5 1
    have q0 := free_of kr5 0; have q1 := free_of kr5 1
    have HX := Lib.hid (fun (_ : Unit) => two_set (a := .int .i64 (256 + C.length : Nat)) (b := .int .u64 (cntN n : Nat)) kr5)
    have HF := Lib.hid (HFN.out w3 w4 w5 own4 HB3.out HM4.out HT4.out hb5)
    clear hb5 kr5 HM4 HT4 HR4
    go_wp2
    exact bodyPost_ret (cell_ret2 (p := 4) (u := 5) (x := .int .i64 0) (ty := 25) (n := 2) (by kernel_rfl) (by kernel_rfl) (by kernel_rfl) rfl rfl (HX.out ()) rfl) rfl HF.out
end Go.Proofs.YtlagllhhahomlaaGreat.Sl.Nd
