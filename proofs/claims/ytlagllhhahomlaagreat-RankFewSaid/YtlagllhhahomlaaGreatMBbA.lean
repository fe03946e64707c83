/- Batches in a program: a node over fresh parts is laid. -/
import Derived.Test.YtlagllhhahomlaaGreatMBaJ
import Derived.Test.YtlagllhhahomlaaGreatMLfF
import Derived.Test.YtlagllhhahomlaaGreatMBaY
namespace Go.By
open Go
theorem layPts_app : ∀ (C : List Nat) (ps qs : List Pt), layPts C (ps ++ qs) = ((layPts (layPts C ps).1 qs).1, (layPts C ps).2 ++ (layPts (layPts C ps).1 qs).2)
  | C, [], qs => by simp [layPts]
  | C, p :: r, qs => by rw [List.cons_append, layPts, layPts_app (layPt C p).1 r qs]; simp [layPts]
theorem layPts_mem {C : List Nat} {ps : List Pt} {k : Nat} (h : k < ps.length) : (layPt (layPts C (ps.take k)).1 ps[k]).2 ∈ (layPts C ps).2 := by
  have e : ps = ps.take k ++ (ps[k] :: ps.drop (k + 1)) := by rw [← List.drop_eq_getElem_cons h, List.take_append_drop]
  have := layPts_app C (ps.take k) (ps[k] :: ps.drop (k + 1))
  rw [← e] at this
  rw [this]
  simp [layPts]
end Go.By
namespace Go.Proofs.YtlagllhhahomlaaGreat.Sl.Nd
open Go Go.RowKit Go.By
theorem moves_set2 {g A : Nat} {own own' : Own} {w w' : World} (h : Moves g own own' w w') (hA : w.heap.size ≤ A) (x y : Value) : Moves g own own' w ((w'.setCell ⟨A, 0, none⟩ x).setCell ⟨A, 1, none⟩ y) :=
  ⟨h.os, h.tape, h.output, by have := h.size; simpa [World.setCell] using this, fun k hk hkg ho => by
    rw [Below.heap_setCell _ _ _ _ (by show k ≠ A; omega), Below.heap_setCell _ _ _ _ (by show k ≠ A; omega)]
    exact h.block k hk hkg ho, h.same⟩
theorem KyB.stay {wB w w' : World} {B L : Nat} {v : Value} {ks : List (List Nat)} (h : KyB wB B L w v ks) (hk : ∀ j, v.ownBlock = some j → w'.heap[j]? = w.heap[j]?) : KyB wB B L w' v ks := by
  obtain ⟨cs, h1, h2, h3⟩ := h
  exact ⟨cs, h1, owns_stay h2 hk, h3⟩
theorem KyB.row {wB w : World} {B L : Nat} {v : Value} {ks : List (List Nat)} (h : KyB wB B L w v ks) (hk : Keep B 0 wB w) : ∃ p c, v = .slice p ks.length c ∧ RowAt KBytes w p c ks := by
  obtain ⟨cs, h1, h2, h3⟩ := h
  obtain ⟨p, cap, rfl, q1, q2, q3⟩ := owns_at h2 (by decide)
  refine ⟨p, cap, rfl, q1, q2, fun j hj => ?_⟩
  have hj' : j < cs.length := by omega
  obtain ⟨g, rfl, c0⟩ := q3 j cs[j] (List.getElem?_eq_getElem hj')
  refine ⟨g, 0, [cs[j]], rfl, fun i hi => ?_, cs[j], rfl, h3 j hj hj' w hk⟩
  match i, hi with
  | 0, _ => simpa [KBytes] using c0
def LdLoop (R : Int) (C : List Nat) (os : List ByteOp) (W : World) (g a o : Nat) (own : Own) (w wB : World) (B : Nat) (kids : List Pt) (A4 A6 : Nat) (i : Value) (wr : World) : Prop :=
  ∃ (k : Nat) (own1 : Own) (os1 : List ByteOp) (pk : Option Addr) (ck : Nat) (pd : Option Addr) (cd : Nat), k ≤ kids.length ∧ i = .int .i64 k ∧ Moves g own own1 w wr ∧ os1.length = os.length + nodesPts (kids.take k) ∧
    Tf (fsT R (layPts C (kids.take k)).1 os1) W g a (o + nodesPts (kids.take k)) own1 wr ∧ wr.heap[A4]? = some (.cells #[.int .i64 0, .int .u64 0] 25 (0, 0)) ∧
    wr.heap[A6]? = some (.cells #[.bool false, .slice none 0 0, .slice pk k ck, .slice pd k cd] 38 (0, 0)) ∧ own1 A4 = none ∧ own1 A6 = none ∧
    KyB wB B w.heap.size wr (.slice pk k ck) ((kids.take k).map Pt.key) ∧ KdRow wr w.heap.size (.slice pd k cd) (layPts C (kids.take k)).2 ∧
    (∀ j, (Value.slice pk k ck).ownBlock = some j → own1 j = none) ∧ (∀ j, (Value.slice pd k cd).ownBlock = some j → own1 j = none ∧ j ≠ A4)
structure LdAt (F : FS) (W : World) (g a oo : Nat) (own own2 : Own) (w0 wB : World) (B A4 A6 t8 t9 : Nat) (part : Array Value) (D : NKd) (vk vd v2 v3 : Value) (K1 : List (List Nat)) (K2 : List NKd) (w4 w : World) : Prop where
  mv : Moves g own own2 w0 w
  tf : Tf F W g a oo own2 w
  size : w4.heap.size ≤ w.heap.size
  new : ∀ j, w4.heap.size ≤ j → own2 j = none
  a4 : w.heap[A4]? = some (.cells #[.int .i64 0, .int .u64 0] 25 (0, 0))
  a6 : w.heap[A6]? = some (.cells #[.bool false, .slice none 0 0, v2, v3] 38 (0, 0))
  b8 : w.heap[t8]? = some (.cells part 113 (0, 0))
  b9 : w.heap[t9]? = some (.cells #[.int .i64 D.off, .int .u64 (D.ct : Nat)] 25 (0, 0))
  ky : KyB wB B w0.heap.size w vk K1
  kd : KdRow w w0.heap.size vd K2
  ok : ∀ j, vk.ownBlock = some j → own2 j = none
  od : ∀ j, vd.ownBlock = some j → own2 j = none ∧ j ≠ A4 ∧ j ≠ t9
section
variable {F : FS} {W : World} {g a oo : Nat} {own own2 : Own} {w0 wB : World} {B A4 A6 t8 t9 : Nat} {part : Array Value} {D : NKd} {vk vd v2 v3 : Value} {K1 : List (List Nat)} {K2 : List NKd} {w4 w : World}
theorem LdAt.below {w' : World} (h : LdAt F W g a oo own own2 w0 wB B A4 A6 t8 t9 part D vk vd v2 v3 K1 K2 w4 w) (hb : Below w.heap.size w w') : LdAt F W g a oo own own2 w0 wB B A4 A6 t8 t9 part D vk vd v2 v3 K1 K2 w4 w' := by
  have kp : ∀ {j : Nat} {x : Obj}, w.heap[j]? = some x → w'.heap[j]? = some x := fun hj => (hb.block _ (Array.getElem?_eq_some_iff.1 hj).1).trans hj
  exact ⟨h.mv.trans ((Steps.of_below (own := own2) hb).moves g), h.tf.stay hb, Nat.le_trans h.size hb.size, h.new, kp h.a4, kp h.a6, kp h.b8, kp h.b9, h.ky.stay (fun j hj => hb.block j (h.ky.choose_spec.2.1.lt j hj).2), ⟨owns_below' h.kd.1 hb, h.kd.2⟩, h.ok, h.od⟩
theorem ty_ld : 26 ≠ 25 ∧ 26 ≠ 38 ∧ 26 ≠ 113 ∧ 25 ≠ 38 ∧ 25 ≠ 113 := by decide
theorem moves_grows {v v' : Value} {w' : World} (h : LdAt F W g a oo own own2 w0 wB B A4 A6 t8 t9 part D vk vd v2 v3 K1 K2 w4 w) (hg : Grows w w' v v') (hv : ∀ j, v.ownBlock = some j → w0.heap.size ≤ j ∧ own2 j = none) (hgw : g < w0.heap.size) (hWl : W.heap.size ≤ w0.heap.size) :
    Moves g own own2 w0 w' ∧ Tf F W g a oo own2 w' := by
  refine ⟨⟨hg.by_.os.trans h.mv.os, hg.by_.tape.trans h.mv.tape, hg.by_.output.trans h.mv.output, Nat.le_trans h.mv.size hg.by_.size, fun k hk hkg ho => ?_, h.mv.same⟩, h.tf.disk.grown hg.by_ (fun j hj => ⟨(hv j hj).2, Nat.le_trans hWl (hv j hj).1⟩), h.tf.file.same (hg.by_.block g (h.tf.file.lt) (fun e => ?_))⟩
  · exact (hg.by_.block k (Nat.lt_of_lt_of_le hk h.mv.size) (fun e => by have := (hv k e.symm).1; omega)).trans (h.mv.block k hk hkg ho)
  · have := (hv g e.symm).1
    omega
theorem LdAt.key {b : Nat} {x : Value} {k : List Nat} (h : LdAt F W g a oo own own2 w0 wB B A4 A6 t8 t9 part D vk vd v2 v3 K1 K2 w4 w) (hgw : g < w0.heap.size) (hWl : W.heap.size ≤ w0.heap.size) (hn : K1.length ≤ 1000000) (hx : ∀ W', Keep B 0 wB W' → Bytes W' x k) (hx1 : x.oneCell' = true) (hb : w.cell? ⟨b, 0, none⟩ = some x) :
    ∃ v' w', (Builtin.append_ #[36, 36] 36 #[vk, .slice (some ⟨b, 0, none⟩) 1 1]).run Tryz.prog w = .ok v' w' ∧ LdAt F W g a oo own own2 w0 wB B A4 A6 t8 t9 part D v' vd v2 v3 (K1 ++ [k]) K2 w4 w' ∧ ∀ {j : Nat} {c : Array Value} {T : TypeId} {fr : Nat × Nat}, w.heap[j]? = some (.cells c T fr) → 26 ≠ T → w'.heap[j]? = some (.cells c T fr) := by
  obtain ⟨v', w', hr, hky, hg⟩ := h.ky.app hn h.mv.size hx hx1 hb
  obtain ⟨cs, c1, c2, c3⟩ := h.ky
  refine ⟨v', w', hr, ?_⟩
  obtain ⟨m1, m2⟩ := moves_grows h hg (fun j hj => ⟨(c2.lt j hj).1, h.ok j hj⟩) hgw hWl
  have kp : ∀ {j : Nat} {c : Array Value} {T : TypeId} {fr : Nat × Nat}, w.heap[j]? = some (.cells c T fr) → 26 ≠ T → w'.heap[j]? = some (.cells c T fr) := fun {j c T fr} hj hT => (hg.block (Array.getElem?_eq_some_iff.1 hj).1 (owns_ne c2 hj hT)).trans hj
  refine ⟨⟨m1, m2, Nat.le_trans h.size hg.by_.size, h.new, kp h.a4 ty_ld.1, kp h.a6 ty_ld.2.1, kp h.b8 ty_ld.2.2.1, kp h.b9 ty_ld.1, hky, ⟨owns_grows h.kd.1 c2 (Ne.symm ty_ld.1) hg, h.kd.2⟩, fun j hj => ?_, h.od⟩, kp⟩
  rcases hg.new with e | ⟨j2, e, hj2⟩
  · exact h.ok j (by rw [← e]; exact hj)
  · rw [e] at hj
    cases hj
    exact h.new _ (Nat.le_trans h.size hj2)
theorem LdAt.kid {b : Nat} (h : LdAt F W g a oo own own2 w0 wB B A4 A6 t8 t9 part D vk vd v2 v3 K1 K2 w4 w) (hgw : g < w0.heap.size) (hWl : W.heap.size ≤ w0.heap.size) (hA4 : A4 < w4.heap.size) (hn : K2.length ≤ 1000000) (hd : D.off ≤ 9223372036854775807 ∧ D.ct < 18446744073709551616) (h0 : w.cell? ⟨b, 0, none⟩ = some (.int .i64 D.off)) (h1 : w.cell? ⟨b, 1, none⟩ = some (.int .u64 (D.ct : Nat))) :
    ∃ v' w', (Builtin.append_ #[34, 34] 34 #[vd, .slice (some ⟨b, 0, none⟩) 1 1]).run Tryz.prog w = .ok v' w' ∧ (Moves g own own2 w0 w' ∧ Tf F W g a oo own2 w' ∧ w4.heap.size ≤ w'.heap.size ∧ w'.heap[A4]? = some (.cells #[.int .i64 0, .int .u64 0] 25 (0, 0)) ∧
      w'.heap[A6]? = some (.cells #[.bool false, .slice none 0 0, v2, v3] 38 (0, 0)) ∧ w'.heap[t8]? = some (.cells part 113 (0, 0)) ∧ w'.heap[t9]? = some (.cells #[.int .i64 D.off, .int .u64 (D.ct : Nat)] 25 (0, 0)) ∧ KyB wB B w0.heap.size w' vk K1 ∧ KdRow w' w0.heap.size v' (K2 ++ [D]) ∧ ∀ j, v'.ownBlock = some j → own2 j = none ∧ j ≠ A4) := by
  obtain ⟨v', w', hr, hkd, hg⟩ := kd_app h.kd hn h.mv.size hd h0 h1
  refine ⟨v', w', hr, ?_⟩
  obtain ⟨m1, m2⟩ := moves_grows h hg (fun j hj => ⟨(h.kd.1.lt j hj).1, (h.od j hj).1⟩) hgw hWl
  obtain ⟨cs, c1, c2, c3⟩ := h.ky
  refine ⟨m1, m2, Nat.le_trans h.size hg.by_.size, (hg.block (Array.getElem?_eq_some_iff.1 h.a4).1 (fun e => (h.od _ e).2.1 rfl)).trans h.a4, (hg.block (Array.getElem?_eq_some_iff.1 h.a6).1 (owns_ne h.kd.1 h.a6 ty_ld.2.2.2.1)).trans h.a6, (hg.block (Array.getElem?_eq_some_iff.1 h.b8).1 (owns_ne h.kd.1 h.b8 ty_ld.2.2.2.2)).trans h.b8, (hg.block (Array.getElem?_eq_some_iff.1 h.b9).1 (fun e => (h.od _ e).2.2 rfl)).trans h.b9, ⟨cs, c1, owns_grows c2 h.kd.1 ty_ld.1 hg, c3⟩, hkd, fun j hj => ?_⟩
  rcases hg.new with e | ⟨j2, e, hj2⟩
  · have := h.od j (by rw [← e]; exact hj)
    exact ⟨this.1, this.2.1⟩
  · rw [e] at hj
    cases hj
    exact ⟨h.new _ (Nat.le_trans h.size hj2), by have := h.size; omega⟩
end
theorem ld_next {R : Int} {C : List Nat} {os os2 : List ByteOp} {W w wB w7 : World} {g a o : Nat} {own own2 : Own} {B A4 A6 k k6 k7 : Nat} {p6 p7 : Option Addr} {x2 x3 : Value} {kids : List Pt} {D : NKd} (hlt : k < kids.length) (hD : D = (layPt (layPts C (kids.take k)).1 kids[k]).2)
    (mv : Moves g own own2 w w7) (tf : Tf (fsT R (layPts C (kids.take (k + 1))).1 os2) W g a (o + nodesPts (kids.take (k + 1))) own2 w7) (a4 : w7.heap[A4]? = some (.cells #[.int .i64 0, .int .u64 0] 25 (0, 0))) (a6 : w7.heap[A6]? = some (.cells #[.bool false, .slice none 0 0, x2, x3] 38 (0, 0)))
    (ky : KyB wB B w.heap.size w7 (.slice p6 (k + 1) k6) ((kids.take k).map Pt.key ++ [kids[k].key])) (kd : KdRow w7 w.heap.size (.slice p7 (k + 1) k7) ((layPts C (kids.take k)).2 ++ [D]))
    (hos : os2.length = os.length + nodesPts (kids.take (k + 1))) (hn4 : own2 A4 = none) (hn6 : own2 A6 = none) (h46 : A4 ≠ A6) (hA6 : w.heap.size ≤ A6) (hW : W.heap.size ≤ w.heap.size) (hg : g < w.heap.size) (ok : ∀ j, (Value.slice p6 (k + 1) k6).ownBlock = some j → own2 j = none) (od : ∀ j, (Value.slice p7 (k + 1) k7).ownBlock = some j → own2 j = none ∧ j ≠ A4) :
    LdLoop R C os W g a o own w wB B kids A4 A6 (.int .i64 (k + 1 : Nat)) ((w7.setCell ⟨A6, 2, none⟩ (.slice p6 (k + 1) k6)).setCell ⟨A6, 3, none⟩ (.slice p7 (k + 1) k7)) := by
  have st : ∀ j, j ≠ A6 → ((w7.setCell ⟨A6, 2, none⟩ (.slice p6 (k + 1) k6)).setCell ⟨A6, 3, none⟩ (.slice p7 (k + 1) k7)).heap[j]? = w7.heap[j]? := fun j hj => by
    rw [Below.heap_setCell _ _ _ _ hj, Below.heap_setCell _ _ _ _ hj]
  have nk : ∀ j, (Value.slice p6 (k + 1) k6).ownBlock = some j → j ≠ A6 := fun j hj e => owns_ne ky.choose_spec.2.1 a6 ty_ld.2.1 (e ▸ hj)
  have nd : ∀ j, (Value.slice p7 (k + 1) k7).ownBlock = some j → j ≠ A6 := fun j hj e => owns_ne kd.1 a6 ty_ld.2.2.2.1 (e ▸ hj)
  have et : kids.take (k + 1) = kids.take k ++ [kids[k]] := List.take_succ_eq_append_getElem hlt
  refine ⟨k + 1, own2, os2, p6, k6, p7, k7, hlt, rfl, ⟨mv.os, mv.tape, mv.output, by have := mv.size; simpa [World.setCell] using this, fun j hj hjg ho => (st j (by omega)).trans (mv.block j hj hjg ho), mv.same⟩, hos, (tf.set hn6 (by omega) (by omega) 2 _).set hn6 (by omega) (by omega) 3 _, (st _ h46).trans a4, heap_setCell_same _ A6 3 _ _ _ (heap_setCell_same _ A6 2 _ _ _ a6), hn4, hn6, ?_, ?_, ok, od⟩
  · have e : (kids.take (k + 1)).map Pt.key = (kids.take k).map Pt.key ++ [kids[k].key] := by rw [et, List.map_append]; rfl
    rw [e]
    exact ky.stay (fun j hj => st j (nk j hj))
  · have e : (layPts C (kids.take (k + 1))).2 = (layPts C (kids.take k)).2 ++ [D] := by rw [et, layPts_snoc, hD]
    rw [e]
    exact ⟨owns_stay kd.1 (fun j hj => st j (nd j hj)), kd.2⟩
set_option maxRecDepth 100000 in
set_option maxHeartbeats 4000000 in
theorem laid_of_node {R : Int} {W wB : World} {g a uu B : Nat} {lv : Int} (hB0 : 0 < B) (hgB : g < B) (huB : B ≤ uu) (hu : wB.heap[uu]? = some (.cells #[.pointer (some ⟨g, 0, none⟩), .int .i64 lv] 106 (0, 0))) {M : Nat} (hM : M ≤ 16777216) (hR : (M : Int) ≤ R ∧ R ≤ 1099511627776)
    {C : List Nat} {os : List ByteOp} {own : Own} {o : Nat} {w : World} {cs : List Value} {key : List Nat} {kids : List Pt} (h : Tf (fsT R C os) W g a o own w) (hk : Keep B 0 wB w) (hf : ∀ k, B ≤ k → k < wB.heap.size → own k = none) (hp : PtB B 0 wB cs (.node key kids)) (hok : okPt C (.node key kids))
    (hC : 256 + C.length + 1309 * nodesPt (.node key kids) + 4105 ≤ M) (ho : o + nodesPt (.node key kids) < 1000000 ∧ os.length + nodesPt (.node key kids) < 1000000)
    (hIH : ∀ k (h : k < kids.length) {C os own o w cs}, Tf (fsT R C os) W g a o own w → Keep B 0 wB w → (∀ k, B ≤ k → k < wB.heap.size → own k = none) → PtB B 0 wB cs kids[k] → okPt C kids[k] → 256 + C.length + 1309 * nodesPt kids[k] + 4105 ≤ M → o + nodesPt kids[k] < 1000000 ∧ os.length + nodesPt kids[k] < 1000000 →
      Calls Tryz.prog 48 #[.pointer (some ⟨uu, 0, none⟩), .agg cs.toArray] w (LaidPt R C os W g a o own kids[k] w)) :
    Calls Tryz.prog 48 #[.pointer (some ⟨uu, 0, none⟩), .agg cs.toArray] w (LaidPt R C os W g a o own (.node key kids) w) := by
  have HU : Hid (∀ Wx, Keep B 0 wB Wx → Wx.heap[uu]? = some (.cells #[.pointer (some ⟨g, 0, none⟩), .int .i64 lv] 106 (0, 0))) := fun Wx hx => (hx.block uu (Array.getElem?_eq_some_iff.1 hu).1 huB (by omega)).trans hu
  have HR := Lib.hid hR; have HM := Lib.hid hM
  have hwB : B ≤ wB.heap.size := by have := (Array.getElem?_eq_some_iff.1 hu).1; omega
  cases hp with
  | @node kv lb lo c _ _ css hkey hle hc hl h0 hat hps =>
  obtain ⟨qx, cx, hkv, -⟩ := (hkey _ (Keep.refl ..)).any
  subst hkv
  generalize hlx : key.length = lx at *
  simp only [okPt] at hok
  simp only [nodesPt] at hC ho
  obtain ⟨W1, hW1⟩ : ∃ W1, W1 = (w.alloc (.cells #[.slice qx lx cx, .int .i64 0, .int .u64 0, .int .i64 0, .slice none 0 0, .slice none 0 0, .slice none 0 0, .slice (some ⟨lb, lo, none⟩) kids.length c] 113)).alloc (.cells #[.int .i64 0, .int .u64 0] 25) := ⟨_, rfl⟩
  have hWs : W1 = allocs w [.cells #[.slice qx lx cx, .int .i64 0, .int .u64 0, .int .i64 0, .slice none 0 0, .slice none 0 0, .slice none 0 0, .slice (some ⟨lb, lo, none⟩) kids.length c] 113, .cells #[.int .i64 0, .int .u64 0] 25] := hW1
  have g0 : W1.heap[w.heap.size]? = some (.cells #[.slice qx lx cx, .int .i64 0, .int .u64 0, .int .i64 0, .slice none 0 0, .slice none 0 0, .slice none 0 0, .slice (some ⟨lb, lo, none⟩) kids.length c] 113 (0, 0)) := by rw [hWs]; exact allocs_at (i := 0) rfl
  have g1 : W1.heap[w.heap.size + 1]? = some (.cells #[.int .i64 0, .int .u64 0] 25 (0, 0)) := by rw [hWs]; exact allocs_at (i := 1) rfl
  have hb1 : Below w.heap.size w W1 := by rw [hWs]; exact allocs_below _ _
  have hz1 : W1.heap.size = w.heap.size + 2 := by rw [hW1]; simp
  have HFR : Hid (∀ Wx, Calls Tryz.prog 89 #[.agg #[.slice qx lx cx, .int .i64 0, .int .u64 0, .int .i64 0, .slice none 0 0, .slice none 0 0, .slice none 0 0, .slice (some ⟨lb, lo, none⟩) kids.length c]] Wx fun e w' => e = .returned (.bool true) ∧ Below Wx.heap.size Wx w') := fun Wx => by
    have h8 := (may_in (n := overNd kids (layPts C kids).2) rfl hok.2.1).2.1
    have h9 := (may_in (n := overNd kids (layPts C kids).2) rfl hok.2.1).1
    have hkl : kids.length ≤ 8 := by simp only [overNd, List.length_map] at h8 h9; omega
    have := fresh_any Wx 0 qx none (some ⟨lb, lo, none⟩) lx cx 0 0 kids.length c (by omega)
    have e : decide (0 < 0 + kids.length) = true := decide_eq_true (by omega)
    rw [e] at this
    exact this
  have HG0 := Lib.hid g0; have HG1 := Lib.hid g1; have HB1 := Lib.hid hb1; have HZ1 := Lib.hid hz1
  have HW1 := Lib.hid hW1
  have HH := Lib.hid h; have HK := Lib.hid hk; have HFN := Lib.hid hf; have HKEY := Lib.hid hkey; have HL := Lib.hid hl; have HAT := Lib.hid hat; have HPS := Lib.hid hps; have HOK := Lib.hid hok; have HC := Lib.hid hC; have HO := Lib.hid ho; have HBB := Lib.hid (And.intro hB0 hgB); have HIH : Hid _ := hIH
  have HLE := Lib.hid hle; have HCM := Lib.hid hc; have H0 := Lib.hid h0
  obtain ⟨n, hn⟩ : ∃ n, n = kids.length := ⟨_, rfl⟩
  have HN := Lib.hid hn
  rw [← hn] at HFR HG0 HW1 ⊢
  have hn0 : 0 < n := by omega
  clear h hk hf hkey hl hat hps hok hC ho hIH hle hc h0 hWs g0 g1 hb1 hz1 hW1 hn hB0 hgB huB hu hwB hlx
  go_enter Tryz.func48, Tryz.ntmps48
  go_wp2_with fail
  rw [← HW1.out]
  refine (HFR.out _).mono ?_
  rintro e w2 ⟨rfl, hb2⟩
  have kn := (hb2.block _ (Array.getElem?_eq_some_iff.1 HG0.out).1).trans HG0.out
  have kr := (hb2.block _ (Array.getElem?_eq_some_iff.1 HG1.out).1).trans HG1.out
  have p6 : w2.cell? ⟨w.heap.size, 6, none⟩ = some (.slice none 0 0) := cells_of kn 6
  have p7 : w2.cell? ⟨w.heap.size, 7, none⟩ = some (.slice (some ⟨lb, lo, none⟩) n c) := cells_of kn 7
  obtain ⟨W3, hW3⟩ : ∃ W3, W3 = w2.alloc (.cells #[.bool false, .slice none 0 0, .slice none 0 0, .slice none 0 0] 38) := ⟨_, rfl⟩
  have hb3 : Below w2.heap.size w2 W3 := by rw [hW3]; exact (Below.refl _ _).alloc (Nat.le_refl _) _
  have kn3 := (hb3.block _ (Array.getElem?_eq_some_iff.1 kn).1).trans kn
  have kr3 := (hb3.block _ (Array.getElem?_eq_some_iff.1 kr).1).trans kr
  have p73 : W3.cell? ⟨w.heap.size, 7, none⟩ = some (.slice (some ⟨lb, lo, none⟩) n c) := cells_of kn3 7
  rw [hW3] at p73
  have hg3 : W3.heap[w2.heap.size]? = some (.cells #[.bool false, .slice none 0 0, .slice none 0 0, .slice none 0 0] 38 (0, 0)) := by rw [hW3]; exact heap_alloc_new w2 _
  have hbw3 : Below w.heap.size w W3 := HB1.out.trans ((hb2.trans (hb3.mono hb2.size)).mono HB1.out.size)
  have hs2 : w.heap.size + 2 ≤ w2.heap.size := by have := hb2.size; have := HZ1.out; omega
  have HS2 := Lib.hid hs2
  have HL0 : Hid (LdLoop R C os W g a o own w wB B kids (w.heap.size + 1) w2.heap.size (.int .i64 (0 : Nat)) W3) :=
    ⟨0, own, os, none, 0, none, 0, Nat.zero_le _, rfl, (Steps.of_below hbw3).moves g, by simp [nodesPts], by simpa [layPts, nodesPts] using HH.out.stay hbw3, kr3, hg3, HH.out.disk.new_none (Nat.le_succ _), HH.out.disk.new_none (by omega), by simpa using KyB.nil wB B w.heap.size W3, by simpa [layPts] using KdRow.nil W3 w.heap.size, fun j hj => (by cases hj), fun j hj => (by cases hj)⟩
  have HW3 := Lib.hid hW3
  clear hb2 kn kr hb3 kn3 kr3 hg3 hbw3 hs2 hW3 HFR HG0 HG1 HB1 HZ1 HW1
  go_wp2_with fail
  rw [← HW3.out]
  go_loopw [29] (fun i W' => LdLoop R C os W g a o own w wB B kids (w.heap.size + 1) w2.heap.size i W') (fun i _ => n - (intOf i).toNat)
  case atStart => exact HL0.out
  case round =>
    clear HL0
    obtain ⟨k, own1, os1, pk, ck, pd, cd, hkn, rfl, hmv, hos, htf, hA4, hA6, hn4, hn6, hky, hkd, hok1, hod1⟩ := hrel
    by_cases hlt : k < kids.length
    · obtain ⟨hkp, hfp⟩ := keep_moves HBB.out.2 HK.out HFN.out hmv
      have hgw : g < w.heap.size := HH.out.file.lt
      have hws := hmv.size
      have hlb0 : lb ≠ 0 := by have := HL.out; have := HBB.out; omega
      have hps := HPS.out k hlt
      have hcell : ∀ j (hj : j < (css k).length), wr.cell? ⟨lb, lo + k * 8 + j, none⟩ = some (css k)[j] := fun j hj => (cell_heap (hkp.block lb (block_lt_of_cell (HAT.out k hlt j hj)) HL.out.1 hlb0)).trans (HAT.out k hlt j hj)
      obtain ⟨q0, n0, c0, off, ct, deep, q1, n1, c1, q2, n2, c2, q3, n3, c3, q4, c4, hcs⟩ := hps.plain.parts
      obtain ⟨kv, rest, hkv, hkb⟩ := hps.keyB
      obtain rfl : kv = .slice q0 n0 c0 := by rw [hcs] at hkv; cases hkv; rfl
      have hcc : ∀ j u, [Value.slice q0 n0 c0, .int .i64 off, .int .u64 ct, .int .i64 deep, .slice q1 n1 c1, .slice q2 n2 c2, .slice q3 n3 c3, .slice q4 kids[k].kidsN c4][j]? = some u → wr.cell? ⟨lb, lo + k * 8 + j, none⟩ = some u := fun j u hu => by
        rw [← hcs] at hu
        obtain ⟨hj, hju⟩ := List.getElem?_eq_some_iff.1 hu
        rw [← hju]
        exact hcell j hj
      have x0 : wr.cell? ⟨lb, lo + k * 8, none⟩ = some (.slice q0 n0 c0) := hcc 0 _ rfl
      have x1 := hcc 1 _ rfl; have x2 := hcc 2 _ rfl; have x3 := hcc 3 _ rfl; have x4 := hcc 4 _ rfl; have x5 := hcc 5 _ rfl; have x6 := hcc 6 _ rfl; have x7 := hcc 7 _ rfl
      have hCC := HC.out
      have hOO := HO.out
      have hnt : nodesPts (kids.take k) + nodesPt kids[k] ≤ nodesPts kids := by
        have := nodesPts_take kids (k + 1)
        rw [List.take_succ_eq_append_getElem hlt, nodesPts_snoc] at this
        exact this
      have hnl := lays_len C (kids.take k)
      obtain ⟨w1, hw1⟩ : ∃ w1, w1 = wr.alloc (.cells #[.slice q0 n0 c0, .int .i64 off, .int .u64 ct, .int .i64 deep, .slice q1 n1 c1, .slice q2 n2 c2, .slice q3 n3 c3, .slice q4 kids[k].kidsN c4] 113) := ⟨_, rfl⟩
      have hb1 : Below wr.heap.size wr w1 := by rw [hw1]; exact (Below.refl _ _).alloc (Nat.le_refl _) _
      have hx1 : w1.heap[wr.heap.size]? = some (.cells #[.slice q0 n0 c0, .int .i64 off, .int .u64 ct, .int .i64 deep, .slice q1 n1 c1, .slice q2 n2 c2, .slice q3 n3 c3, .slice q4 kids[k].kidsN c4] 113 (0, 0)) := by rw [hw1]; exact heap_alloc_new wr _
      have HLD := Lib.hid (HIH.out k hlt (htf.stay hb1) ⟨Nat.le_trans hkp.size hb1.size, fun j hj h1 h2 => (hb1.block j (Nat.lt_of_lt_of_le hj hkp.size)).trans (hkp.block j hj h1 h2)⟩ hfp hps (okPts_at HOK.out.1 k hlt) (by omega) ⟨by omega, by omega⟩)
      rw [hcs] at HLD
      obtain ⟨D, hD⟩ : ∃ D, D = (layPt (layPts C (kids.take k)).1 kids[k]).2 := ⟨_, rfl⟩
      have hDb : D.off ≤ 9223372036854775807 ∧ D.ct < 18446744073709551616 := by rw [hD]; exact HOK.out.2.2.kids _ (layPts_mem hlt)
      have hn8 := htf.disk.new_none (Nat.le_refl wr.heap.size)
      have HST : Hid (∀ w4 e, LaidPt R (layPts C (kids.take k)).1 os1 W g a (o + nodesPts (kids.take k)) own1 kids[k] w1 e w4 → e = .returned (.tuple #[.agg #[.int .i64 D.off, .int .u64 (D.ct : Nat)], .int .i64 0]) ∧ w4.heap[wr.heap.size]? = some (.cells #[.slice q0 n0 c0, .int .i64 off, .int .u64 ct, .int .i64 deep, .slice q1 n1 c1, .slice q2 n2 c2, .slice q3 n3 c3, .slice q4 kids[k].kidsN c4] 113 (0, 0)) ∧
          ∃ own2 os2, os2.length = os.length + nodesPts (kids.take (k + 1)) ∧ Moves g own own2 w w4 ∧ Tf (fsT R (layPts C (kids.take (k + 1))).1 os2) W g a (o + nodesPts (kids.take (k + 1))) own2 w4 ∧ w4.heap[w.heap.size + 1]? = some (.cells #[.int .i64 0, .int .u64 0] 25 (0, 0)) ∧
            w4.heap[w2.heap.size]? = some (.cells #[.bool false, .slice none 0 0, .slice pk k ck, .slice pd k cd] 38 (0, 0)) ∧ own2 (w.heap.size + 1) = none ∧ own2 w2.heap.size = none ∧ KyB wB B w.heap.size w4 (.slice pk k ck) ((kids.take k).map Pt.key) ∧ KdRow w4 w.heap.size (.slice pd k cd) (layPts C (kids.take k)).2 ∧
            (∀ j, (Value.slice pk k ck).ownBlock = some j → own2 j = none) ∧ (∀ j, (Value.slice pd k cd).ownBlock = some j → own2 j = none ∧ j ≠ w.heap.size + 1)) := fun w4 e hl => by
        obtain ⟨rfl, own2, os2, ho2, hm2, ht2⟩ := hl
        have hm1 : Moves g own own1 w w1 := hmv.trans ((Steps.of_below (own := own1) hb1).moves g)
        have stay : ∀ {j : Nat} {x : Obj}, wr.heap[j]? = some x → own1 j = none → j ≠ g → w4.heap[j]? = some x ∧ own2 j = none := fun {j x} hj hn hg => by
          have hjl := (Array.getElem?_eq_some_iff.1 hj).1
          have hjl1 := Nat.lt_of_lt_of_le hjl hb1.size
          exact ⟨(hm2.block j hjl1 hg (.inl hn)).trans ((hb1.block j hjl).trans hj), (hm2.same j hjl1).trans hn⟩
        have stayb : ∀ {j : Nat}, j < wr.heap.size → own1 j = none → j ≠ g → w4.heap[j]? = wr.heap[j]? ∧ own2 j = none := fun {j} hjl hn hg => by
          have hjl1 := Nat.lt_of_lt_of_le hjl hb1.size
          exact ⟨(hm2.block j hjl1 hg (.inl hn)).trans (hb1.block j hjl), (hm2.same j hjl1).trans hn⟩
        have h2w : w.heap.size + 2 ≤ w2.heap.size := HS2.out
        have hs1 : w1.heap.size = wr.heap.size + 1 := by rw [hw1]; simp
        obtain ⟨hA4', hn4'⟩ := stay hA4 hn4 (by omega)
        obtain ⟨hA6', hn6'⟩ := stay hA6 hn6 (by omega)
        have hky2 : ∀ j, (Value.slice pk k ck).ownBlock = some j → w4.heap[j]? = wr.heap[j]? ∧ own2 j = none := fun j hj => by
          have := hky.choose_spec.2.1.lt j hj
          exact stayb this.2 (hok1 j hj) (by omega)
        have hkd2 : ∀ j, (Value.slice pd k cd).ownBlock = some j → w4.heap[j]? = wr.heap[j]? ∧ own2 j = none := fun j hj => by
          have := hkd.1.lt j hj
          exact stayb this.2 (hod1 j hj).1 (by omega)
        have et : kids.take (k + 1) = kids.take k ++ [kids[k]] := List.take_succ_eq_append_getElem hlt
        refine ⟨by rw [hD], (hm2.block _ (by omega) (by omega) (.inl hn8)).trans hx1, own2, os2, by rw [et, nodesPts_snoc]; omega, hm1.trans hm2, ?_, hA4', hA6', hn4', hn6', hky.stay (fun j hj => (hky2 j hj).1), ⟨owns_stay hkd.1 (fun j hj => (hkd2 j hj).1), hkd.2⟩, fun j hj => (hky2 j hj).2, fun j hj => ⟨(hkd2 j hj).2, (hod1 j hj).2⟩⟩
        rw [et, layPts_snoc, nodesPts_snoc, ← Nat.add_assoc]
        exact ht2
      have hki : ((k : Nat) : Int) < n := by rw [HN.out]; omega
      have hk8 : kids.length ≤ 8 := by
        have h8 := (may_in (n := overNd kids (layPts C kids).2) rfl HOK.out.2.1).2.1
        have h9 := (may_in (n := overNd kids (layPts C kids).2) rfl HOK.out.2.1).1
        simp only [overNd, List.length_map] at h8 h9
        omega
      have hwi : IntKind.i64.wrap ((k : Int) + 1) = (k + 1 : Nat) := by
        rw [IntKind.wrap_i64]
        omega
      have HKP := Lib.hid hkp
      have HKB := Lib.hid hkb
      have HCS := Lib.hid hcs
      have HDB := Lib.hid hDb
      have HDE := Lib.hid hD
      have HZR := Lib.hid hws; have HKVE := Lib.hid hkv
      have HW1 := Lib.hid hw1
      generalize hkn' : kids[k].kidsN = kn at *
      clear hkn hmv hos htf hA4 hA6 hn4 hn6 hky hkd hok1 hod1 hkp hfp hgw hws hlb0 hps hcell hkb hcc hCC hOO hnt hnl hb1 hx1 hDb hn8 hcs hD HIH hw1 hkv
      go_wp2_with fail
      rw [← HW1.out]
      refine HLD.out.mono ?_
      rintro e w4 hl
      obtain ⟨rfl, kx4, own2, os2, ho2, hm4, ht4, hA44, hA64, hn44, hn64, hky4, hkd4, hok4, hod4⟩ := HST.out w4 e hl
      clear hl
      obtain ⟨W5, hW5⟩ : ∃ W5, W5 = w4.alloc (.cells #[.int .i64 D.off, .int .u64 (D.ct : Nat)] 25) := ⟨_, rfl⟩
      have hb5 : Below w4.heap.size w4 W5 := by rw [hW5]; exact (Below.refl _ _).alloc (Nat.le_refl _) _
      have kp : ∀ {j : Nat} {x : Obj}, w4.heap[j]? = some x → W5.heap[j]? = some x := fun hj => (hb5.block _ (Array.getElem?_eq_some_iff.1 hj).1).trans hj
      have HL5 : Hid (LdAt (fsT R (layPts C (kids.take (k + 1))).1 os2) W g a (o + nodesPts (kids.take (k + 1))) own own2 w wB B (w.heap.size + 1) w2.heap.size wr.heap.size w4.heap.size #[.slice q0 n0 c0, .int .i64 off, .int .u64 ct, .int .i64 deep, .slice q1 n1 c1, .slice q2 n2 c2, .slice q3 n3 c3, .slice q4 kn c4] D (.slice pk k ck) (.slice pd k cd) (.slice pk k ck) (.slice pd k cd) ((kids.take k).map Pt.key) (layPts C (kids.take k)).2 w4 W5) :=
        ⟨hm4.trans ((Steps.of_below (own := own2) hb5).moves g), ht4.stay hb5, hb5.size, fun j hj => ht4.disk.new_none hj, kp hA44, kp hA64, kp kx4, by rw [hW5]; exact heap_alloc_new w4 _, hky4.stay (fun j hj => hb5.block j (hky4.choose_spec.2.1.lt j hj).2), ⟨owns_below' hkd4.1 hb5, hkd4.2⟩, hok4, fun j hj => ⟨(hod4 j hj).1, (hod4 j hj).2, by have := (hkd4.1.lt j hj).2; omega⟩⟩
      have HN4 := Lib.hid hn44; have HN6 := Lib.hid hn64; have HO2 := Lib.hid ho2
      have HW5 := Lib.hid hW5
      have HA4l : Hid (w.heap.size + 1 < w4.heap.size) := (Array.getElem?_eq_some_iff.1 hA44).1
      clear kx4 ho2 hm4 ht4 hA44 hA64 hn44 hn64 hky4 hkd4 hok4 hod4 hb5 kp HLD HST HW1 hW5 x0 x1 x2 x3 x4 x5 x6 x7
      go_wp2_with fail
      rw [← HW5.out]
      have HGW : Hid (g < w.heap.size) := HH.out.file.lt
      have HWL : Hid (W.heap.size ≤ w.heap.size) := HH.out.disk.below.size
      have HKL : Hid (((kids.take k).map Pt.key).length ≤ 1000000 ∧ (layPts C (kids.take k)).2.length ≤ 1000000) := by
        refine ⟨?_, ?_⟩
        · rw [List.length_map, List.length_take]; omega
        · rw [layPts_len, List.length_take]; omega
      have s0 : W5.cell? ⟨wr.heap.size, 0, none⟩ = some (.slice q0 n0 c0) := cells_of HL5.out.b8 0
      have r0 : W5.cell? ⟨w4.heap.size, 0, none⟩ = some (.int .i64 D.off) := cells_of HL5.out.b9 0
      have r1 : W5.cell? ⟨w4.heap.size, 1, none⟩ = some (.int .u64 (D.ct : Nat)) := cells_of HL5.out.b9 1
      have c2 : W5.cell? ⟨w2.heap.size, 2, none⟩ = some (.slice pk k ck) := cells_of HL5.out.a6 2
      have c3 : W5.cell? ⟨w2.heap.size, 3, none⟩ = some (.slice pd k cd) := cells_of HL5.out.a6 3
      have BD1 : ∀ x, Below W5.heap.size W5 (W5.alloc x).drew := fun x => ((Below.refl _ _).alloc (Nat.le_refl _) _).drew
      have BD2 : ∀ x y, Below W5.heap.size W5 ((W5.alloc x).alloc y).drew := fun x y => (((Below.refl _ _).alloc (Nat.le_refl _) x).alloc ((Below.refl W5.heap.size W5).alloc (Nat.le_refl _) x).size y).drew
      have HWI := Lib.hid hwi
      clear hki hk8 hwi
      refine wp_region_pop3_held (o1 := ?o1) (o2 := ?o2) (o3 := ?o3) (n := 12) (by kernel_rfl) (fun w' => w'.cell? ⟨wr.heap.size, 0, none⟩ = some (.slice q0 n0 c0) ∧ w'.cell? ⟨w4.heap.size, 0, none⟩ = some (.int .i64 D.off) ∧ w'.cell? ⟨w4.heap.size, 1, none⟩ = some (.int .u64 (D.ct : Nat)) ∧ w'.cell? ⟨w2.heap.size, 2, none⟩ = some (.slice pk k ck) ∧ w'.cell? ⟨w2.heap.size, 3, none⟩ = some (.slice pd k cd)) ?p1 ?p2 ?p3 ?psz ?q1 ?q2 ?q3 ⟨s0, r0, r1, c2, c3⟩ (fun hHeld => ?hgo)
      case p1 => (simp only [List.pop_toArray, List.dropLast]; rfl)
      case p2 => (simp only [List.pop_toArray, List.dropLast]; rfl)
      case p3 => (simp only [List.pop_toArray, List.dropLast]; rfl)
      case psz => rfl
      case q1 => kernel_rfl
      case q2 => kernel_rfl
      case q3 => kernel_rfl
      refine wpAnyH_takeAt 0 43 (.pointer (some ⟨w2.heap.size, 2, none⟩)) rfl rfl (by kernel_rfl) (by kernel_rfl) (by kernel_rfl) (fun _ _ _ h => h) (Or.inl ⟨by rfl, fun w h => by (dsimp only at h; go_split_ands; go_simp)⟩) hHeld ?_
      try simp only [Act.put, arr0, arr1, arr2]
      refine wpAnyH_takeAt 1 44 (.slice pk k ck) rfl rfl (by kernel_rfl) (by kernel_rfl) (by kernel_rfl) (fun _ _ _ h => h) (Or.inl ⟨by rfl, fun w h => by (dsimp only at h; go_split_ands; go_simp)⟩) hHeld ?_
      try simp only [Act.put, arr0, arr1, arr2]
      refine wpAnyH_takeAt 2 45 (.pointer (some ⟨wr.heap.size, 0, none⟩)) rfl rfl (by kernel_rfl) (by kernel_rfl) (by kernel_rfl) (fun _ _ _ h => h) (Or.inl ⟨by rfl, fun w h => by (dsimp only at h; go_split_ands; go_simp)⟩) hHeld ?_
      try simp only [Act.put, arr0, arr1, arr2]
      refine wpAnyH_takeAt 3 46 (.slice q0 n0 c0) rfl rfl (by kernel_rfl) (by kernel_rfl) (by kernel_rfl) (fun _ _ _ h => h) (Or.inl ⟨by rfl, fun w h => by (dsimp only at h; go_split_ands; go_simp)⟩) hHeld ?_
      try simp only [Act.put, arr0, arr1, arr2]
      refine wpAnyH_takeAt 6 49 (.pointer (some ⟨w2.heap.size, 3, none⟩)) rfl rfl (by kernel_rfl) (by kernel_rfl) (by kernel_rfl) (fun _ _ _ h => h) (Or.inl ⟨by rfl, fun w h => by (dsimp only at h; go_split_ands; go_simp)⟩) hHeld ?_
      try simp only [Act.put, arr0, arr1, arr2]
      refine wpAnyH_takeAt 7 50 (.slice pd k cd) rfl rfl (by kernel_rfl) (by kernel_rfl) (by kernel_rfl) (fun _ _ _ h => h) (Or.inl ⟨by rfl, fun w h => by (dsimp only at h; go_split_ands; go_simp)⟩) hHeld ?_
      try simp only [Act.put, arr0, arr1, arr2]
      refine wpAnyH_takeAt 8 51 (.agg #[.int .i64 D.off, .int .u64 (D.ct : Nat)]) rfl rfl (by kernel_rfl) (by kernel_rfl) (by kernel_rfl) (fun _ _ _ h => h) (Or.inl ⟨by rfl, fun w h => by (dsimp only at h; go_split_ands; go_simp)⟩) hHeld ?_
      try simp only [Act.put, arr0, arr1, arr2]
      refine wpAnyH_two 4 9 (by kernel_rfl) (fun K hK => ?_) (fun K hK => ?_)
      · refine wpOp_as rfl rfl 47 (.buildSlice 36 1 #[(0, .tmp 46)]) 36 rfl rfl rfl ?_
        go_simp
        refine hK _ _ ⟨by go_keep, by go_keep, by go_keep, by go_keep, by go_keep⟩ (fun hHeld => ?_)
        clear hK K
        try simp only [Act.put, arr0, arr1, arr2]
        refine wpAnyH_two 5 9 (by kernel_rfl) (fun K hK => ?_) (fun K hK => ?_)
        · refine wpOp_if rfl rfl ?_
          refine step_app rfl (.tmp 44) (.tmp 47) 36 36 rfl (.slice pk k ck) _ rfl rfl (LdAt.key (HL5.out.below (BD1 _)) HGW.out HWL.out HKL.out.1 HKB.out rfl (by go_keep)) ?_
          rintro v6 w6 ⟨h6, kp6⟩
          have s6 : w6.cell? ⟨wr.heap.size, 0, none⟩ = some (.slice q0 n0 c0) := cells_of h6.b8 0
          have r6 : w6.cell? ⟨w4.heap.size, 0, none⟩ = some (.int .i64 D.off) := cells_of h6.b9 0
          have r61 : w6.cell? ⟨w4.heap.size, 1, none⟩ = some (.int .u64 (D.ct : Nat)) := cells_of h6.b9 1
          have c62 : w6.cell? ⟨w2.heap.size, 2, none⟩ = some (.slice pk k ck) := cells_of h6.a6 2
          have c63 : w6.cell? ⟨w2.heap.size, 3, none⟩ = some (.slice pd k cd) := cells_of h6.a6 3
          refine hK _ _ ⟨s6, r6, r61, c62, c63⟩ (fun hHeld => ?_)
          clear hK K
          try simp only [Act.put, List.setIfInBounds_toArray]
          refine wpAnyH_takeAt 11 54 (.pointer (some ⟨w2.heap.size, 2, none⟩)) rfl rfl (by kernel_rfl) (by kernel_rfl) (by kernel_rfl) (fun _ _ _ h => h) (Or.inl ⟨by rfl, fun w h => by (dsimp only at h; go_split_ands; go_simp)⟩) hHeld ?_
          try simp only [Act.put]
          refine wpAnyH_one 9 (by kernel_rfl) (fun K hK => ?_)
          refine wpOp_as rfl rfl 52 (.buildSlice 34 1 #[(0, .tmp 51)]) 34 rfl rfl rfl ?_
          go_simp
          refine hK _ _ ⟨by go_keep, by go_keep, by go_keep, by go_keep, by go_keep⟩ (fun hHeld => ?_)
          clear hK K
          try simp only [Act.put, arr0, arr1, arr2]
          refine wpAnyH_one 10 (by kernel_rfl) (fun K hK => ?_)
          refine wpOp_if rfl rfl ?_
          refine step_app rfl (.tmp 50) (.tmp 52) 34 34 rfl (.slice pd k cd) _ rfl rfl (LdAt.kid (h6.below ((Below.refl _ _).alloc (Nat.le_refl _) _)) HGW.out HWL.out HA4l.out HKL.out.2 HDB.out (by go_keep) (by go_keep)) ?_
          rintro v7 w7 h7
          refine hK _ _ ⟨cells_of h7.2.2.2.2.2.1 0, cells_of h7.2.2.2.2.2.2.1 0, cells_of h7.2.2.2.2.2.2.1 1, cells_of h7.2.2.2.2.1 2, cells_of h7.2.2.2.2.1 3⟩ (fun hHeld => ?_)
          clear hK K
          try simp only [Act.put, List.setIfInBounds_toArray]
          refine wpAnyH_done (by kernel_rfl) ?_ _
          have c72 : w7.cell? ⟨w2.heap.size, 2, none⟩ = some (.slice pk k ck) := cells_of h7.2.2.2.2.1 2
          have c73 : w7.cell? ⟨w2.heap.size, 3, none⟩ = some (.slice pd k cd) := cells_of h7.2.2.2.2.1 3
          have f7 := free_of h7.2.2.2.2.1 2; have f73 := free_of h7.2.2.2.2.1 3
          have hl6 : ((kids.take k).map Pt.key ++ [kids[k].key]).length = k + 1 := by rw [List.length_append, List.length_map, List.length_take, List.length_singleton]; omega
          have hl7 : ((layPts C (kids.take k)).2 ++ [D]).length = k + 1 := by rw [List.length_append, layPts_len, List.length_take, List.length_singleton]; omega
          obtain ⟨p6, k6, e6, -⟩ := h6.ky.row (keep_moves HBB.out.2 HK.out HFN.out h6.mv).1
          obtain ⟨p7, k7, e7, -⟩ := h7.2.2.2.2.2.2.2.2.1.at_
          rw [hl6] at e6; rw [hl7] at e7
          subst e6; subst e7
          clear hHeld s6 r6 r61 c62 c63 kp6
          refine popQ_st rfl rfl (.store 36 (.tmp 54) (.tmp 48)) 0 rfl rfl rfl ?_
          go_simp
          refine popQ_as rfl rfl 55 (.fieldAddr 38 (.tmp 6) 3) 0 rfl rfl rfl ?_
          go_simp
          refine popQ_st rfl rfl (.store 34 (.tmp 55) (.tmp 53)) 0 rfl rfl rfl ?_
          go_simp
          have HNX : Hid (LdLoop R C os W g a o own w wB B kids (w.heap.size + 1) w2.heap.size (.int .i64 (k + 1 : Nat)) ((w7.setCell ⟨w2.heap.size, 2, none⟩ (.slice p6 (k + 1) k6)).setCell ⟨w2.heap.size, 3, none⟩ (.slice p7 (k + 1) k7))) := ld_next (by assumption) HDE.out h7.1 h7.2.1 h7.2.2.2.1 h7.2.2.2.2.1 h7.2.2.2.2.2.2.2.1 h7.2.2.2.2.2.2.2.2.1 HO2.out HN4.out HN6.out (by have := HS2.out; omega) (by have := HS2.out; omega) HWL.out HGW.out h6.ok h7.2.2.2.2.2.2.2.2.2
          clear h6 h7 c72 c73 f7 f73
          have hwi := HWI.out
          have hk1 : k < kids.length := by assumption
          clear HL5 BD1 BD2 s0 r0 r1 c2 c3
          generalize ((w7.setCell ⟨w2.heap.size, 2, none⟩ (.slice p6 (k + 1) k6)).setCell ⟨w2.heap.size, 3, none⟩ (.slice p7 (k + 1) k7)) = w9 at *
          go_wp2_with fail
          go_roundw
          case rel => exact HNX.out
          case measure => simp [intOf]; have := HN.out; omega
        · refine wpOp_as rfl rfl 52 (.buildSlice 34 1 #[(0, .tmp 51)]) 34 rfl rfl rfl ?_
          go_simp
          refine hK _ _ ⟨by go_keep, by go_keep, by go_keep, by go_keep, by go_keep⟩ (fun hHeld => ?_)
          clear hK K
          try simp only [Act.put, arr0, arr1, arr2]
          refine wpAnyH_one 5 (by kernel_rfl) (fun K hK => ?_)
          refine wpOp_if rfl rfl ?_
          refine step_app rfl (.tmp 44) (.tmp 47) 36 36 rfl (.slice pk k ck) _ rfl rfl (LdAt.key (HL5.out.below (BD2 _ _)) HGW.out HWL.out HKL.out.1 HKB.out rfl (by go_keep)) ?_
          rintro v6 w6 ⟨h6, kp6⟩
          have s6 : w6.cell? ⟨wr.heap.size, 0, none⟩ = some (.slice q0 n0 c0) := cells_of h6.b8 0
          have r6 : w6.cell? ⟨w4.heap.size, 0, none⟩ = some (.int .i64 D.off) := cells_of h6.b9 0
          have r61 : w6.cell? ⟨w4.heap.size, 1, none⟩ = some (.int .u64 (D.ct : Nat)) := cells_of h6.b9 1
          have c62 : w6.cell? ⟨w2.heap.size, 2, none⟩ = some (.slice pk k ck) := cells_of h6.a6 2
          have c63 : w6.cell? ⟨w2.heap.size, 3, none⟩ = some (.slice pd k cd) := cells_of h6.a6 3
          refine hK _ _ ⟨s6, r6, r61, c62, c63⟩ (fun hHeld => ?_)
          clear hK K
          try simp only [Act.put, List.setIfInBounds_toArray]
          refine wpAnyH_takeAt 11 54 (.pointer (some ⟨w2.heap.size, 2, none⟩)) rfl rfl (by kernel_rfl) (by kernel_rfl) (by kernel_rfl) (fun _ _ _ h => h) (Or.inl ⟨by rfl, fun w h => by (dsimp only at h; go_split_ands; go_simp)⟩) hHeld ?_
          try simp only [Act.put]
          refine wpAnyH_one 10 (by kernel_rfl) (fun K hK => ?_)
          refine wpOp_if rfl rfl ?_
          refine step_app rfl (.tmp 50) (.tmp 52) 34 34 rfl (.slice pd k cd) _ rfl rfl (LdAt.kid (h6) HGW.out HWL.out HA4l.out HKL.out.2 HDB.out (cells_of (kp6 (allocs_at (w := W5) (os := [_, _]) (i := 1) rfl) ty_ld.1) 0) (cells_of (kp6 (allocs_at (w := W5) (os := [_, _]) (i := 1) rfl) ty_ld.1) 1)) ?_
          rintro v7 w7 h7
          refine hK _ _ ⟨cells_of h7.2.2.2.2.2.1 0, cells_of h7.2.2.2.2.2.2.1 0, cells_of h7.2.2.2.2.2.2.1 1, cells_of h7.2.2.2.2.1 2, cells_of h7.2.2.2.2.1 3⟩ (fun hHeld => ?_)
          clear hK K
          try simp only [Act.put]
          refine wpAnyH_done (by kernel_rfl) ?_ _
          have c72 : w7.cell? ⟨w2.heap.size, 2, none⟩ = some (.slice pk k ck) := cells_of h7.2.2.2.2.1 2
          have c73 : w7.cell? ⟨w2.heap.size, 3, none⟩ = some (.slice pd k cd) := cells_of h7.2.2.2.2.1 3
          have f7 := free_of h7.2.2.2.2.1 2; have f73 := free_of h7.2.2.2.2.1 3
          have hl6 : ((kids.take k).map Pt.key ++ [kids[k].key]).length = k + 1 := by rw [List.length_append, List.length_map, List.length_take, List.length_singleton]; omega
          have hl7 : ((layPts C (kids.take k)).2 ++ [D]).length = k + 1 := by rw [List.length_append, layPts_len, List.length_take, List.length_singleton]; omega
          obtain ⟨p6, k6, e6, -⟩ := h6.ky.row (keep_moves HBB.out.2 HK.out HFN.out h6.mv).1
          obtain ⟨p7, k7, e7, -⟩ := h7.2.2.2.2.2.2.2.2.1.at_
          rw [hl6] at e6; rw [hl7] at e7
          subst e6; subst e7
          clear hHeld s6 r6 r61 c62 c63 kp6
          refine popQ_st rfl rfl (.store 36 (.tmp 54) (.tmp 48)) 0 rfl rfl rfl ?_
          go_simp
          refine popQ_as rfl rfl 55 (.fieldAddr 38 (.tmp 6) 3) 0 rfl rfl rfl ?_
          go_simp
          refine popQ_st rfl rfl (.store 34 (.tmp 55) (.tmp 53)) 0 rfl rfl rfl ?_
          go_simp
          have HNX : Hid (LdLoop R C os W g a o own w wB B kids (w.heap.size + 1) w2.heap.size (.int .i64 (k + 1 : Nat)) ((w7.setCell ⟨w2.heap.size, 2, none⟩ (.slice p6 (k + 1) k6)).setCell ⟨w2.heap.size, 3, none⟩ (.slice p7 (k + 1) k7))) := ld_next (by assumption) HDE.out h7.1 h7.2.1 h7.2.2.2.1 h7.2.2.2.2.1 h7.2.2.2.2.2.2.2.1 h7.2.2.2.2.2.2.2.2.1 HO2.out HN4.out HN6.out (by have := HS2.out; omega) (by have := HS2.out; omega) HWL.out HGW.out h6.ok h7.2.2.2.2.2.2.2.2.2
          clear h6 h7 c72 c73 f7 f73
          have hwi := HWI.out
          have hk1 : k < kids.length := by assumption
          clear HL5 BD1 BD2 s0 r0 r1 c2 c3
          generalize ((w7.setCell ⟨w2.heap.size, 2, none⟩ (.slice p6 (k + 1) k6)).setCell ⟨w2.heap.size, 3, none⟩ (.slice p7 (k + 1) k7)) = w9 at *
          go_wp2_with fail
          go_roundw
          case rel => exact HNX.out
          case measure => simp [intOf]; have := HN.out; omega
      · refine wpOp_as rfl rfl 52 (.buildSlice 34 1 #[(0, .tmp 51)]) 34 rfl rfl rfl ?_
        go_simp
        refine hK _ _ ⟨by go_keep, by go_keep, by go_keep, by go_keep, by go_keep⟩ (fun hHeld => ?_)
        clear hK K
        try simp only [Act.put, arr0, arr1, arr2]
        refine wpAnyH_one 4 (by kernel_rfl) (fun K hK => ?_)
        refine wpOp_as rfl rfl 47 (.buildSlice 36 1 #[(0, .tmp 46)]) 36 rfl rfl rfl ?_
        go_simp
        refine hK _ _ ⟨by go_keep, by go_keep, by go_keep, by go_keep, by go_keep⟩ (fun hHeld => ?_)
        clear hK K
        try simp only [Act.put, arr0, arr1, arr2]
        refine wpAnyH_one 5 (by kernel_rfl) (fun K hK => ?_)
        refine wpOp_if rfl rfl ?_
        refine step_app rfl (.tmp 44) (.tmp 47) 36 36 rfl (.slice pk k ck) _ rfl rfl (LdAt.key (HL5.out.below (BD2 _ _)) HGW.out HWL.out HKL.out.1 HKB.out rfl (by go_keep)) ?_
        rintro v6 w6 ⟨h6, kp6⟩
        have s6 : w6.cell? ⟨wr.heap.size, 0, none⟩ = some (.slice q0 n0 c0) := cells_of h6.b8 0
        have r6 : w6.cell? ⟨w4.heap.size, 0, none⟩ = some (.int .i64 D.off) := cells_of h6.b9 0
        have r61 : w6.cell? ⟨w4.heap.size, 1, none⟩ = some (.int .u64 (D.ct : Nat)) := cells_of h6.b9 1
        have c62 : w6.cell? ⟨w2.heap.size, 2, none⟩ = some (.slice pk k ck) := cells_of h6.a6 2
        have c63 : w6.cell? ⟨w2.heap.size, 3, none⟩ = some (.slice pd k cd) := cells_of h6.a6 3
        refine hK _ _ ⟨s6, r6, r61, c62, c63⟩ (fun hHeld => ?_)
        clear hK K
        try simp only [Act.put, List.setIfInBounds_toArray]
        refine wpAnyH_takeAt 11 54 (.pointer (some ⟨w2.heap.size, 2, none⟩)) rfl rfl (by kernel_rfl) (by kernel_rfl) (by kernel_rfl) (fun _ _ _ h => h) (Or.inl ⟨by rfl, fun w h => by (dsimp only at h; go_split_ands; go_simp)⟩) hHeld ?_
        try simp only [Act.put]
        refine wpAnyH_one 10 (by kernel_rfl) (fun K hK => ?_)
        refine wpOp_if rfl rfl ?_
        refine step_app rfl (.tmp 50) (.tmp 52) 34 34 rfl (.slice pd k cd) _ rfl rfl (LdAt.kid (h6) HGW.out HWL.out HA4l.out HKL.out.2 HDB.out (cells_of (kp6 (allocs_at (w := W5) (os := [_, _]) (i := 0) rfl) ty_ld.1) 0) (cells_of (kp6 (allocs_at (w := W5) (os := [_, _]) (i := 0) rfl) ty_ld.1) 1)) ?_
        rintro v7 w7 h7
        refine hK _ _ ⟨cells_of h7.2.2.2.2.2.1 0, cells_of h7.2.2.2.2.2.2.1 0, cells_of h7.2.2.2.2.2.2.1 1, cells_of h7.2.2.2.2.1 2, cells_of h7.2.2.2.2.1 3⟩ (fun hHeld => ?_)
        clear hK K
        try simp only [Act.put]
        refine wpAnyH_done (by kernel_rfl) ?_ _
        have c72 : w7.cell? ⟨w2.heap.size, 2, none⟩ = some (.slice pk k ck) := cells_of h7.2.2.2.2.1 2
        have c73 : w7.cell? ⟨w2.heap.size, 3, none⟩ = some (.slice pd k cd) := cells_of h7.2.2.2.2.1 3
        have f7 := free_of h7.2.2.2.2.1 2; have f73 := free_of h7.2.2.2.2.1 3
        have hl6 : ((kids.take k).map Pt.key ++ [kids[k].key]).length = k + 1 := by rw [List.length_append, List.length_map, List.length_take, List.length_singleton]; omega
        have hl7 : ((layPts C (kids.take k)).2 ++ [D]).length = k + 1 := by rw [List.length_append, layPts_len, List.length_take, List.length_singleton]; omega
        obtain ⟨p6, k6, e6, -⟩ := h6.ky.row (keep_moves HBB.out.2 HK.out HFN.out h6.mv).1
        obtain ⟨p7, k7, e7, -⟩ := h7.2.2.2.2.2.2.2.2.1.at_
        rw [hl6] at e6; rw [hl7] at e7
        subst e6; subst e7
        clear hHeld s6 r6 r61 c62 c63 kp6
        refine popQ_st rfl rfl (.store 36 (.tmp 54) (.tmp 48)) 0 rfl rfl rfl ?_
        go_simp
        refine popQ_as rfl rfl 55 (.fieldAddr 38 (.tmp 6) 3) 0 rfl rfl rfl ?_
        go_simp
        refine popQ_st rfl rfl (.store 34 (.tmp 55) (.tmp 53)) 0 rfl rfl rfl ?_
        go_simp
        have HNX : Hid (LdLoop R C os W g a o own w wB B kids (w.heap.size + 1) w2.heap.size (.int .i64 (k + 1 : Nat)) ((w7.setCell ⟨w2.heap.size, 2, none⟩ (.slice p6 (k + 1) k6)).setCell ⟨w2.heap.size, 3, none⟩ (.slice p7 (k + 1) k7))) := ld_next (by assumption) HDE.out h7.1 h7.2.1 h7.2.2.2.1 h7.2.2.2.2.1 h7.2.2.2.2.2.2.2.1 h7.2.2.2.2.2.2.2.2.1 HO2.out HN4.out HN6.out (by have := HS2.out; omega) (by have := HS2.out; omega) HWL.out HGW.out h6.ok h7.2.2.2.2.2.2.2.2.2
        clear h6 h7 c72 c73 f7 f73
        have hwi := HWI.out
        have hk1 : k < kids.length := by assumption
        clear HL5 BD1 BD2 s0 r0 r1 c2 c3
        generalize ((w7.setCell ⟨w2.heap.size, 2, none⟩ (.slice p6 (k + 1) k6)).setCell ⟨w2.heap.size, 3, none⟩ (.slice p7 (k + 1) k7)) = w9 at *
        go_wp2_with fail
        go_roundw
        case rel => exact HNX.out
        case measure => simp [intOf]; have := HN.out; omega
    · have hkk : k = kids.length := by omega
      subst hkk
      rw [List.take_length] at hos htf hky hkd
      obtain ⟨hkp, hfp⟩ := keep_moves HBB.out.2 HK.out HFN.out hmv
      have hgw : g < w.heap.size := HH.out.file.lt
      have hky9 : ((kids.map Pt.key)).length = kids.length := List.length_map ..
      have HND : ∀ own' W', Moves g own1 own' wr W' → IsNd W' (.agg #[.bool (overNd kids (layPts C kids).2).leaf, .slice none (overNd kids (layPts C kids).2).its.length 0, .slice pk (overNd kids (layPts C kids).2).ks.length ck, .slice pd (overNd kids (layPts C kids).2).kids.length cd]) (overNd kids (layPts C kids).2) none 0 pk ck pd cd := fun own' W' hm => by
        have hsz := hmv.size
        have hk' := (keep_moves HBB.out.2 hkp hfp hm).1
        have hky' := hky.stay (w' := W') (fun j hj => by
          have hj2 := hky.choose_spec.2.1.lt j hj
          exact hm.block j hj2.2 (by omega) (.inl (hok1 j hj)))
        have hkd' : KdRow W' w.heap.size (.slice pd kids.length cd) (layPts C kids).2 := ⟨owns_stay hkd.1 (fun j hj => by
          have hj2 := hkd.1.lt j hj
          exact hm.block j hj2.2 (by omega) (.inl (hod1 j hj).1)), hkd.2⟩
        obtain ⟨p1, c1, e1, hr1⟩ := hky'.row hk'
        obtain ⟨p2, c2, e2, hr2⟩ := hkd'.at_
        simp only [Value.slice.injEq] at e1 e2
        obtain ⟨rfl, -, rfl⟩ := e1
        obtain ⟨rfl, -, rfl⟩ := e2
        exact ⟨rfl, rowAt_nil _ _, hr1, hr2⟩
      have hlen := layPts_len C kids
      have hnl := lays_len C kids
      have hCC := HC.out
      have hOO := HO.out
      have HLY := Lib.hid (lay_any htf ⟨by have := HR.out; omega, HR.out.2⟩ (by have := HM.out; omega) ⟨by omega, by omega⟩ (HU.out wr hkp) HND HOK.out.2.1)
      have hcn : cntN (overNd kids (layPts C kids).2) = sumK (layPts C kids).2 := rfl
      have HFIN : Hid (∀ w5 e, LaidNd R (layPts C kids).1 os1 W g a (o + nodesPts kids) own1 (overNd kids (layPts C kids).2) wr e w5 → e = .returned (.tuple #[.agg #[.int .i64 (256 + (layPts C kids).1.length : Nat), .int .u64 (sumK (layPts C kids).2 : Nat)], .int .i64 0]) ∧ w5.heap[w.heap.size + 1]? = some (.cells #[.int .i64 0, .int .u64 0] 25 (0, 0)) ∧
          ∀ x y, LaidPt R C os W g a o own (.node key kids) w (.returned (.tuple #[.agg #[.int .i64 (256 + (layPts C kids).1.length : Nat), .int .u64 (sumK (layPts C kids).2 : Nat)], .int .i64 0])) ((w5.setCell ⟨w.heap.size + 1, 0, none⟩ x).setCell ⟨w.heap.size + 1, 1, none⟩ y)) := fun w5 e hl => by
        obtain ⟨rfl, own2, hm2, ht2⟩ := hl
        have hAlt := (Array.getElem?_eq_some_iff.1 hA4).1
        have hWl : W.heap.size ≤ w.heap.size := HH.out.disk.below.size
        have hon : own2 (w.heap.size + 1) = none := (hm2.same _ hAlt).trans hn4
        refine ⟨by rw [hcn], (hm2.block _ hAlt (by omega) (.inl hn4)).trans hA4, fun x y => ⟨by simp only [layPt], own2, os1 ++ [.write (256 + (layPts C kids).1.length) (recOf 2 (putNd (overNd kids (layPts C kids).2)))], ?_, moves_set2 (hmv.trans hm2) (Nat.le_succ _) x y, ?_⟩⟩
        · simp only [List.length_append, List.length_singleton, nodesPt]; omega
        · have := (ht2.set hon (by omega) (by omega) 0 x).set hon (by omega) (by omega) 1 y
          simpa only [layPt, nodesPt, Nat.add_assoc] using this
      have s0 : wr.cell? ⟨w2.heap.size, 0, none⟩ = some (.bool false) := cells_of hA6 0
      have s1 : wr.cell? ⟨w2.heap.size, 1, none⟩ = some (.slice none 0 0) := cells_of hA6 1
      have s2 : wr.cell? ⟨w2.heap.size, 2, none⟩ = some (.slice pk kids.length ck) := cells_of hA6 2
      have s3 : wr.cell? ⟨w2.heap.size, 3, none⟩ = some (.slice pd kids.length cd) := cells_of hA6 3
      have hki : ¬ ((kids.length : Nat) : Int) < n := by rw [HN.out]; omega
      have e1 : (overNd kids (layPts C kids).2).ks.length = kids.length := by simp [overNd]
      have e2 : (overNd kids (layPts C kids).2).kids.length = kids.length := by simpa [overNd] using hlen
      simp only [e1, e2] at HLY
      have e3 : (overNd kids (layPts C kids).2).leaf = false := rfl
      have e4 : (overNd kids (layPts C kids).2).its.length = 0 := rfl
      simp only [e3, e4] at HLY
      clear hos htf hA4 hA6 hn4 hn6 hky hkd hok1 hod1 hkp hfp hgw hky9 HND hlen hnl hCC hOO hcn e1 e2 e3 e4 hmv hlt hkn HIH HN HAT HPS HLE H0
      generalize sumK (layPts C kids).2 = SK at *
      generalize kids.length = KN at *
      go_wp2_with fail
      refine HLY.out.mono ?_
      rintro e5 w5 hl
      obtain ⟨rfl, hk5, hF⟩ := HFIN.out w5 e5 hl
      clear hl
      have t0 : w5.cell? ⟨w.heap.size + 1, 0, none⟩ = some (.int .i64 0) := cells_of hk5 0
      have t1 : w5.cell? ⟨w.heap.size + 1, 1, none⟩ = some (.int .u64 0) := cells_of hk5 1
      have q0 := free_of hk5 0; have q1 := free_of hk5 1
      have HX := Lib.hid (fun (_ : Unit) => two_set (a := .int .i64 (256 + (layPts C kids).1.length : Nat)) (b := .int .u64 (SK : Nat)) hk5)
      have HF := Lib.hid (hF (.int .i64 (256 + (layPts C kids).1.length : Nat)) (.int .u64 (SK : Nat)))
      clear hk5 hF HLY HFIN s0 s1 s2 s3
      go_wp2
      exact bodyPost_ret (cell_ret2 (p := 4) (u := 5) (x := .int .i64 0) (ty := 25) (n := 2) (by kernel_rfl) (by kernel_rfl) (by kernel_rfl) rfl rfl (HX.out ()) rfl) rfl HF.out
end Go.Proofs.YtlagllhhahomlaaGreat.Sl.Nd
/- Batches in a program: fresh parts are laid, whatever their shape. -/
namespace Go.Proofs.YtlagllhhahomlaaGreat.Sl.Nd
open Go Go.RowKit Go.By
theorem laid_any {R : Int} {W wB : World} {g a uu B : Nat} {lv : Int} (hB0 : 0 < B) (hgB : g < B) (huB : B ≤ uu) (hu : wB.heap[uu]? = some (.cells #[.pointer (some ⟨g, 0, none⟩), .int .i64 lv] 106 (0, 0))) {M : Nat} (hM : M ≤ 16777216) (hR : (M : Int) ≤ R ∧ R ≤ 1099511627776)
    (p : Pt) {C : List Nat} {os : List ByteOp} {own : Own} {o : Nat} {w : World} {cs : List Value} (h : Tf (fsT R C os) W g a o own w) (hk : Keep B 0 wB w) (hf : ∀ k, B ≤ k → k < wB.heap.size → own k = none) (hp : PtB B 0 wB cs p) (hok : okPt C p)
    (hC : 256 + C.length + 1309 * nodesPt p + 4105 ≤ M) (ho : o + nodesPt p < 1000000 ∧ os.length + nodesPt p < 1000000) :
    Calls Tryz.prog 48 #[.pointer (some ⟨uu, 0, none⟩), .agg cs.toArray] w (LaidPt R C os W g a o own p w) := by
  match p with
  | .old .. => simp only [okPt] at hok
  | .leaf key its =>
    simp only [nodesPt] at hC ho
    exact laid_of_leaf hB0 hgB huB hu hM hR h hk hp hok (by omega) ho
  | .node key kids =>
    exact laid_of_node hB0 hgB huB hu hM hR h hk hf hp hok hC ho (fun k hkl {_ _ _ _ _ _} h1 h2 h3 h4 h5 h6 h7 => laid_any hB0 hgB huB hu hM hR kids[k] h1 h2 h3 h4 h5 h6 h7)
termination_by SizeOf.sizeOf p
decreasing_by
  have := List.sizeOf_lt_of_mem (List.getElem_mem hkl)
  simp only [Pt.node.sizeOf_spec]
  omega
end Go.Proofs.YtlagllhhahomlaaGreat.Sl.Nd
