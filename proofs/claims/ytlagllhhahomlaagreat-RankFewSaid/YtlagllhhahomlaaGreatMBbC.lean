/- Batches in a program: what becomes of an empty tree with any number of items. -/
import Derived.Test.YtlagllhhahomlaaGreatMBbA
import Derived.Test.YtlagllhhahomlaaGreatMPlE
import Derived.Test.YtlagllhhahomlaaGreatMLfF
namespace Go.Proofs.YtlagllhhahomlaaGreat.Sl.Nd
open Go Go.RowKit Go.By Lf
theorem Txt.keep {w W' : World} {B0 B : Nat} {v : Value} {l : List Nat} (h : Txt w B0 v l) (hB : 0 < B ∧ B ≤ B0) (hk : Keep B 0 w W') : Txt W' B0 v l :=
  ⟨owns_stay h.1 (fun k hkk => hk.block k (h.1.lt k hkk).2 (Nat.le_trans hB.2 (h.1.lt k hkk).1) (by have := (h.1.lt k hkk).1; omega)), h.2⟩
theorem ItRow.atK {w : World} {B0 B : Nat} {v : Value} {its : List NIt} (h : ItRow w B0 v its) (hB : 0 < B ∧ B ≤ B0) : ∃ p cap, v = .slice p its.length cap ∧ RowAt (KeepK KItem B 0) w p cap its ∧ ∀ g, p = some g → B0 ≤ g.block := by
  obtain ⟨cs, h1, h2, h3⟩ := h
  obtain ⟨p, cap, rfl, q1, q2, q3⟩ := owns_at h2 (by decide)
  refine ⟨p, cap, rfl, ⟨q1, q2, fun j hj => ?_⟩, fun g hg => (h2.lt g.block (by rw [hg]; rfl)).1⟩
  have hj' : j < cs.length := by omega
  have e0 := flat_two (f := itCells) (fun _ => rfl) (xs := cs) (j := j) (i := 0) hj' (by decide)
  have e1 := flat_two (f := itCells) (fun _ => rfl) (xs := cs) (j := j) (i := 1) hj' (by decide)
  obtain ⟨g, rfl, c0⟩ := q3 _ cs[j].1 (by rw [e0]; rfl)
  obtain ⟨g', hg', c1⟩ := q3 _ cs[j].2 (by rw [e1]; rfl)
  obtain rfl : g = g' := by simpa using hg'
  refine ⟨g, 0, [cs[j].1, cs[j].2], rfl, fun i hi => ?_, fun W' hW' => ⟨cs[j].1, cs[j].2, rfl, ((h3 j hj hj').1.keep hB hW').bytes, ((h3 j hj hj').2.keep hB hW').bytes⟩⟩
  match i, hi with
  | 0, _ => simpa [KeepK, KItem] using c0
  | 1, _ => simpa [KeepK, KItem, Nat.add_assoc] using c1
set_option maxRecDepth 100000 in
theorem opened_none (w : World) (u : Value) : Calls Tryz.prog 84 #[u, partV (.slice none 0 0) 1 (.slice none 0 0) (.slice none 0 0)] w fun e w' => e = .returned (.tuple #[.agg #[.slice none 0 0, .slice none 0 0], .int .i64 0]) ∧ Below w.heap.size w w' := by
  obtain ⟨W1, hW1⟩ : ∃ W1, W1 = (w.alloc (.cells #[.slice none 0 0, .int .i64 0, .int .u64 0, .int .i64 1, .slice none 0 0, .slice none 0 0, .slice none 0 0, .slice none 0 0] 113)).alloc (.cells #[.slice none 0 0, .slice none 0 0] 111) := ⟨_, rfl⟩
  have hb1 : Below w.heap.size w W1 := by rw [hW1]; exact ((Below.refl _ _).alloc (Nat.le_refl _) _).alloc (by simp) _
  have hx0 : W1.heap[w.heap.size]? = some (.cells #[.slice none 0 0, .int .i64 0, .int .u64 0, .int .i64 1, .slice none 0 0, .slice none 0 0, .slice none 0 0, .slice none 0 0] 113 (0, 0)) := by
    rw [hW1]
    exact (((Below.refl _ _).alloc (Nat.le_refl _) _).block _ (by simp)).trans (heap_alloc_new w _)
  have hx1 : W1.heap[w.heap.size + 1]? = some (.cells #[.slice none 0 0, .slice none 0 0] 111 (0, 0)) := by
    rw [hW1]
    have := heap_alloc_new (w.alloc (.cells #[.slice none 0 0, .int .i64 0, .int .u64 0, .int .i64 1, .slice none 0 0, .slice none 0 0, .slice none 0 0, .slice none 0 0] 113)) (.cells #[.slice none 0 0, .slice none 0 0] 111)
    simpa using this
  have HEM := Lib.hid (isEmpty_any 0 0 W1)
  have HX0 := Lib.hid hx0
  have HX1 := Lib.hid hx1
  have HF := Lib.hid hb1
  have HW1 := Lib.hid hW1
  clear hb1 hx1 hx0 hW1
  unfold partV
  go_enter Tryz.func84, Tryz.ntmps84
  go_wp2_with fail
  rw [← HW1.out]
  refine HEM.out.mono ?_
  rintro e w2 ⟨rfl, hb2⟩
  have hy0 := (hb2.block _ (Array.getElem?_eq_some_iff.1 HX0.out).1).trans HX0.out
  have hy1 := (hb2.block _ (Array.getElem?_eq_some_iff.1 HX1.out).1).trans HX1.out
  have r0 : w2.cell? ⟨w.heap.size + 1, 0, none⟩ = some (.slice none 0 0) := cells_of hy1 0
  have r1 : w2.cell? ⟨w.heap.size + 1, 1, none⟩ = some (.slice none 0 0) := cells_of hy1 1
  have q0 := free_of hy1 0; have q1 := free_of hy1 1
  have p6 : w2.cell? ⟨w.heap.size, 6, none⟩ = some (.slice none 0 0) := cells_of hy0 6
  have p7 : w2.cell? ⟨w.heap.size, 7, none⟩ = some (.slice none 0 0) := cells_of hy0 7
  have HX := Lib.hid (two_set (a := .slice none 0 0) (b := .slice none 0 0) hy1)
  have HB := Lib.hid (((HF.out.trans (hb2.mono HF.out.size)).setCell (p := ⟨w.heap.size + 1, 0, none⟩) (Nat.le_succ _) (.slice none 0 0)).setCell (p := ⟨w.heap.size + 1, 1, none⟩) (Nat.le_succ _) (.slice none 0 0))
  clear hy0 hy1 hb2 HX0 HX1 HF HEM HW1
  simp only [decide_true, and_self]
  go_wp2
  exact bodyPost_ret (cell_ret2 (p := 4) (u := 5) (x := .int .i64 0) (ty := 111) (n := 2) (by kernel_rfl) (by kernel_rfl) (by kernel_rfl) rfl rfl HX.out rfl) rfl ⟨rfl, HB.out⟩
def PartsOf (B : Nat) (w : World) (ps : List Pt) (e : Ending) (w' : World) : Prop := ∃ lb lo c, e = .returned (.tuple #[.slice (some ⟨lb, lo, none⟩) ps.length c, .int .i64 0]) ∧ RowAt (KPtB B 0) w' (some ⟨lb, lo, none⟩) c ps ∧ B ≤ lb ∧ Below w.heap.size w w'
theorem parts_pos {n : Nat} {α : Type} {f : List NIt → α} {its : List NIt} (h1 : 1 ≤ n) : 1 ≤ ((cutBy (groupsOf n) its).map f).length := by
  rw [List.length_map, cutBy_length, groupsOf_length]
  unfold gk
  omega
set_option maxRecDepth 100000 in
set_option maxHeartbeats 1000000 in
theorem changed_new {w : World} {B : Nat} (u : Value) (hB0 : 0 < B ∧ B ≤ w.heap.size) {pc : Option Addr} {cc : Nat} {l : List NCh} (hl : RowAt KChange w pc cc l) (h0 : 0 < l.length) (hs : ∀ c ∈ l, ShortIt ⟨c.k, c.v⟩) (hm : l.length ≤ 500000) (h1 : 1 ≤ (applyN [] l).length) :
    Calls Tryz.prog 47 #[u, partV (.slice none 0 0) 1 (.slice none 0 0) (.slice none 0 0), .slice pc l.length cc] w (PartsOf B w ((cutBy (groupsOf (applyN [] l).length) (applyN [] l)).map leafOf)) := by
  have HO : Hid (∀ W, Calls Tryz.prog 84 #[u, .agg #[.slice none 0 0, .int .i64 0, .int .u64 0, .int .i64 1, .slice none 0 0, .slice none 0 0, .slice none 0 0, .slice none 0 0]] W fun e w' => e = .returned (.tuple #[.agg #[.slice none 0 0, .slice none 0 0], .int .i64 0]) ∧ Below W.heap.size W w') := fun W => opened_none W u
  have HI : Hid (∀ W, Below w.heap.size w W → Calls Tryz.prog 85 #[u, .agg #[.slice none 0 0, .slice none 0 0], .slice pc l.length cc] W (RowTold W (applyN [] l))) := fun W hb => changedItems_any u none none 0 0 0 [] pc cc l W (rowAt_nil _ _) (hl.below hb) (fun i hi => by cases hi) hs (by simpa using hm)
  have hl9 : (l.length : Int) ≤ 9223372036854775807 := by omega
  have hlz : ((l.length : Int) == 0) = false := by
    have : ¬ (l.length : Int) = 0 := by omega
    simpa using this
  have hn6 : (applyN [] l).length ≤ 1000000 := by
    have := fold_len l ([], [])
    unfold applyN
    simp only [List.length_append, List.length_nil] at this ⊢
    omega
  obtain ⟨out, ho⟩ : ∃ o, o = applyN [] l := ⟨_, rfl⟩
  rw [← ho] at HI h1 hn6 ⊢
  have HL : Hid (∀ W p c, RowAt KItem W p c out → Calls Tryz.prog 87 #[.agg #[.slice p out.length c, .slice none 0 0], .agg #[.slice none 0 0, .slice none 0 0]] W fun e w' => e = .returned (.bool false) ∧ Below W.heap.size W w') := fun W p c h => isLike_no (js := []) h (rowAt_nil _ _) (fun e => by rw [e] at h1; exact absurd h1 (by decide))
  have HP : Hid (∀ W lb lo c, B ≤ lb → RowAt (KeepK KItem B 0) W (some ⟨lb, lo, none⟩) c out → Calls Tryz.prog 88 #[.agg #[.slice (some ⟨lb, lo, none⟩) out.length c, .slice none 0 0]] W (PartsToldK B 0 W ((cutBy (groupsOf out.length) out).map leafOf))) := fun W lb lo c hlb h =>
    parted_itemsK ⟨hlb, by omega⟩ h h1 hn6 ⟨groups_sum h1, fun g hg => ((groups_each h1) g hg).1.1⟩
  have hps := parts_pos (f := leafOf) (its := out) h1
  obtain ⟨ps, hpse⟩ : ∃ ps, ps = (cutBy (groupsOf out.length) out).map leafOf := ⟨_, rfl⟩
  rw [← hpse] at HP hps ⊢
  have HB0 := Lib.hid hB0; have H1 := Lib.hid h1; have HPS := Lib.hid hps
  clear hl h0 hs hm h1 ho hn6 hps hpse hB0
  generalize l.length = L at *
  generalize hq : out.length = q at *
  have HQ := Lib.hid hq
  clear hq
  unfold partV
  go_enter Tryz.func47, Tryz.ntmps47
  go_wp2_with fail
  refine (HO.out _).mono ?_
  rintro e w2 ⟨rfl, hb2⟩
  have hbw2 : Below w.heap.size w w2 := ((Below.refl w.heap.size w).alloc (Nat.le_refl _) _).trans (hb2.mono (by simp))
  go_wp2_with fail
  have hb3 : Below w.heap.size w (w2.alloc (.cells #[.slice none 0 0, .slice none 0 0] 111)) := hbw2.alloc hbw2.size _
  have hx3 : (w2.alloc (.cells #[.slice none 0 0, .slice none 0 0] 111)).heap[w2.heap.size]? = some (.cells #[.slice none 0 0, .slice none 0 0] 111 (0, 0)) := heap_alloc_new w2 _
  refine (HI.out _ hb3).mono ?_
  rintro e w4 ⟨p, c, rfl, hit4, hb4⟩
  have hsz3 : B ≤ (w2.alloc (.cells #[.slice none 0 0, .slice none 0 0] 111)).heap.size := Nat.le_trans HB0.out.2 hb3.size
  obtain ⟨p', c', he, hr4, hpb⟩ := hit4.atK ⟨HB0.out.1, hsz3⟩
  cases he
  obtain ⟨lb, lo, cs0, rfl, -, -⟩ := hr4.at_ 0 (by have := H1.out; have := HQ.out; omega)
  have hlb : B ≤ lb := Nat.le_trans hsz3 (hpb _ rfl)
  rw [HQ.out]
  have hz3 : w2.heap.size < (w2.alloc (.cells #[.slice none 0 0, .slice none 0 0] 111)).heap.size := by simp
  have hx4 : w4.heap[w2.heap.size]? = some (.cells #[.slice none 0 0, .slice none 0 0] 111 (0, 0)) := (hb4.block _ hz3).trans hx3
  have hbw4 : Below w.heap.size w w4 := hb3.trans (hb4.mono hb3.size)
  have hb5 : Below w4.heap.size w4 (w4.alloc (.cells #[.slice (some ⟨lb, lo, none⟩) q c, .slice none 0 0] 111)) := (Below.refl _ _).alloc (Nat.le_refl _) _
  have hx5 := (hb5.block _ (Array.getElem?_eq_some_iff.1 hx4).1).trans hx4
  have hy5 : (w4.alloc (.cells #[.slice (some ⟨lb, lo, none⟩) q c, .slice none 0 0] 111)).heap[w4.heap.size]? = some (.cells #[.slice (some ⟨lb, lo, none⟩) q c, .slice none 0 0] 111 (0, 0)) := heap_alloc_new w4 _
  have y0 : (w4.alloc (.cells #[.slice (some ⟨lb, lo, none⟩) q c, .slice none 0 0] 111)).cell? ⟨w2.heap.size, 0, none⟩ = some (.slice none 0 0) := cells_of hx5 0
  have y1 : (w4.alloc (.cells #[.slice (some ⟨lb, lo, none⟩) q c, .slice none 0 0] 111)).cell? ⟨w2.heap.size, 1, none⟩ = some (.slice none 0 0) := cells_of hx5 1
  have hr5 := rowK_keep hr4 ⟨hlb, by have := HB0.out.1; omega⟩ (Keep.of_below hb5)
  have HLK := Lib.hid (HL.out _ (some ⟨lb, lo, none⟩) c (rowK_plain hr5))
  have hbw5 : Below w.heap.size w (w4.alloc (.cells #[.slice (some ⟨lb, lo, none⟩) q c, .slice none 0 0] 111)) := hbw4.trans (hb5.mono hbw4.size)
  have HPD : Hid (∀ w6, Below (w4.alloc (.cells #[.slice (some ⟨lb, lo, none⟩) q c, .slice none 0 0] 111)).heap.size (w4.alloc (.cells #[.slice (some ⟨lb, lo, none⟩) q c, .slice none 0 0] 111)) w6 → w6.heap[w4.heap.size]? = some (.cells #[.slice (some ⟨lb, lo, none⟩) q c, .slice none 0 0] 111 (0, 0)) ∧ Calls Tryz.prog 88 #[.agg #[.slice (some ⟨lb, lo, none⟩) q c, .slice none 0 0]] w6 fun e w7 => ∃ b n d, e = .returned (.slice b n d) ∧ PartsOf B w ps (.returned (.tuple #[.slice b n d, .int .i64 0])) w7) := fun w6 hb6 => by
    refine ⟨(hb6.block _ (Array.getElem?_eq_some_iff.1 hy5).1).trans hy5, (HP.out w6 lb lo c hlb (rowK_keep hr5 ⟨hlb, by have := HB0.out.1; omega⟩ (Keep.of_below hb6))).mono ?_⟩
    rintro e w7 ⟨b, d, rfl, hrow, hbb, hb7⟩
    have hbw6 : Below w.heap.size w w6 := hbw5.trans (hb6.mono hbw5.size)
    obtain ⟨b1, b2, cs1, rfl, -, -⟩ := hrow.at_ 0 HPS.out
    exact ⟨_, _, _, rfl, b1, b2, d, rfl, hrow, Nat.le_trans (Nat.le_trans HB0.out.2 hbw6.size) (hbb _ rfl), hbw6.trans (hb7.mono hbw6.size)⟩
  clear hb2 hbw2 hb3 hx3 hr4 hit4 hb4 hz3 hx4 hbw4 hb5 hx5 hy5 hbw5 HO HI HL HP hpb hlb hr5 hsz3
  go_wp2_with fail
  refine HLK.out.mono ?_
  rintro e w6 ⟨rfl, hb6⟩
  obtain ⟨hy6, hP⟩ := HPD.out w6 hb6
  have z0 : w6.cell? ⟨w4.heap.size, 0, none⟩ = some (.slice (some ⟨lb, lo, none⟩) q c) := cells_of hy6 0
  have z1 : w6.cell? ⟨w4.heap.size, 1, none⟩ = some (.slice none 0 0) := cells_of hy6 1
  have HPP := Lib.hid hP
  clear hy6 hP HPD HLK hb6 y0 y1
  go_wp2_with fail
  refine HPP.out.mono ?_
  rintro e w7 ⟨b, n, d, rfl, hF⟩
  have HF := Lib.hid hF
  clear hF HPP z0 z1
  go_wp2
  go_ret2
  exact HF.out
end Go.Proofs.YtlagllhhahomlaaGreat.Sl.Nd
/- Batches in a program: an empty tree with any number of items is laid. -/
namespace Go.By
open Go Go.RowKit
theorem nodes_kids {h : Nat} (ih : ∀ (p : Pt) (l : List NIt), Rep h false p l → nodesPt p + 1 ≤ 2 * l.length) : ∀ (kids : List Pt) (ls : List (List NIt)), ls.length = kids.length → (∀ i (hi : i < kids.length) (hi' : i < ls.length), Rep h false kids[i] ls[i]) → nodesPts kids + kids.length ≤ 2 * ls.flatten.length
  | [], ls, hl, _ => by
    have : ls = [] := List.length_eq_zero_iff.1 hl
    subst this
    simp [nodesPts]
  | p :: r, [], hl, _ => by simp at hl
  | p :: r, l :: ls, hl, hr => by
    have h1 := ih p l (hr 0 (by simp) (by simp))
    have h2 := nodes_kids ih r ls (by simpa using hl) (fun i hi hi' => hr (i + 1) (by simpa using hi) (by simpa using hi'))
    simp only [nodesPts, List.length_cons, List.flatten_cons, List.length_append]
    omega
theorem nodes_le : ∀ (h : Nat) (root : Bool) (p : Pt) (l : List NIt), Rep h root p l → nodesPt p + 1 ≤ 2 * l.length
  | 0, _, _, _, hr => by simp [Rep] at hr
  | h + 1, root, .old .., l, hr => by simp [Rep] at hr
  | h + 1, root, .leaf k its, l, hr => by
    simp only [Rep] at hr
    obtain ⟨-, rfl, hne, -⟩ := hr
    have : 0 < l.length := List.length_pos_iff.2 hne
    simp only [nodesPt]
    omega
  | h + 1, root, .node k kids, l, hr => by
    simp only [Rep] at hr
    obtain ⟨-, h2, -, ls, hll, rfl, hk⟩ := hr
    have := nodes_kids (fun p l => nodes_le h false p l) kids ls hll hk
    simp only [nodesPt]
    omega
end Go.By
namespace Go.Proofs.YtlagllhhahomlaaGreat.Sl.Nd
open Go Go.RowKit Go.By Lf
theorem laidPt_set {R : Int} {C : List Nat} {os : List ByteOp} {W w Wn w' : World} {g a o b : Nat} {own : Own} {q : Pt} {e : Ending} (h : Tf (fsT R C os) W g a o own w) (hb : Below w.heap.size w Wn) (hb1 : w.heap.size ≤ b) (hb2 : b < Wn.heap.size) (hl : LaidPt R C os W g a o own q Wn e w') (x y : Value) :
    LaidPt R C os W g a o own q w e ((w'.setCell ⟨b, 0, none⟩ x).setCell ⟨b, 1, none⟩ y) ∧ w'.heap[b]? = Wn.heap[b]? := by
  obtain ⟨he, own4, os4, ho4, hm4, ht4⟩ := hl
  have hgl : g < w.heap.size := h.file.lt
  have hWl : W.heap.size ≤ w.heap.size := h.disk.below.size
  have hn : own b = none := h.disk.new_none hb1
  have hon : own4 b = none := (hm4.same _ hb2).trans hn
  have hgne : g ≠ b := by omega
  refine ⟨⟨he, own4, os4, ho4, ?_, (ht4.set hon (by omega) hgne 0 _).set hon (by omega) hgne 1 _⟩, hm4.block b hb2 (fun e => hgne e.symm) (.inl hn)⟩
  have m2 : Moves g own own4 w w' := ((Steps.of_below hb).moves g).trans hm4
  refine ⟨m2.os, m2.tape, m2.output, by have := m2.size; simpa [World.setCell] using this, fun k hk hkg ho => ?_, m2.same⟩
  rw [Below.heap_setCell _ _ _ _ (by show k ≠ b; omega), Below.heap_setCell _ _ _ _ (by show k ≠ b; omega)]
  exact m2.block k hk hkg ho
def NewTold (R : Int) (C : List Nat) (os : List ByteOp) (W : World) (g a o : Nat) (own : Own) (its : List NIt) (w : World) (e : Ending) (w' : World) : Prop :=
  ∃ q h, Rep h true q its ∧ okPt C q ∧ LaidPt R C os W g a o own q w e w'
set_option maxRecDepth 100000 in
set_option maxHeartbeats 4000000 in
theorem update_new {R : Int} {C : List Nat} {os : List ByteOp} {W w : World} {g a o : Nat} {own : Own} (h : Tf (fsT R C os) W g a o own w) {M : Nat} (hM : M ≤ 16777216) (hR : (M : Int) ≤ R ∧ R ≤ 1099511627776)
    {pc : Option Addr} {cc : Nat} {l : List NCh} (hl : RowAt KChange w pc cc l) (hr : risesCh [] l = true) (h0 : 0 < l.length) (hs : ∀ c ∈ l, ShortIt ⟨c.k, c.v⟩) (hlm : l.length ≤ 500000)
    (h1 : 1 ≤ (applyN [] l).length) (hpw : (applyN [] l).Pairwise BelowIt) (hfi : ∀ i ∈ applyN [] l, FineIt i)
    (hC : 256 + C.length + 2618 * (applyN [] l).length + 4105 ≤ M) (ho : o + 2 * (applyN [] l).length < 1000000 ∧ os.length + 2 * (applyN [] l).length < 1000000) :
    Calls Tryz.prog 23 #[.pointer (some ⟨g, 0, none⟩), .agg #[.int .i64 0, .int .u64 0], .slice pc l.length cc] w (NewTold R C os W g a o own (applyN [] l) w) := by
  obtain ⟨W1, hW1⟩ : ∃ W1, W1 = (w.alloc (.cells #[.int .i64 0, .int .u64 0] 25)).alloc (.cells #[.int .i64 0, .int .u64 0] 25) := ⟨_, rfl⟩
  have hWs : W1 = allocs w [.cells #[.int .i64 0, .int .u64 0] 25, .cells #[.int .i64 0, .int .u64 0] 25] := hW1
  have g0 : W1.heap[w.heap.size]? = some (.cells #[.int .i64 0, .int .u64 0] 25 (0, 0)) := by rw [hWs]; exact allocs_at (i := 0) rfl
  have g1 : W1.heap[w.heap.size + 1]? = some (.cells #[.int .i64 0, .int .u64 0] 25 (0, 0)) := by rw [hWs]; exact allocs_at (i := 1) rfl
  have hb1 : Below w.heap.size w W1 := by rw [hWs]; exact allocs_below _ _
  have hz1 : W1.heap.size = w.heap.size + 2 := by rw [hW1]; simp
  have hgl : g < w.heap.size := h.file.lt
  have hB0 : 0 < w.heap.size := by omega
  have HR : Hid (Calls Tryz.prog 46 #[.slice pc l.length cc] W1 fun e w' => e = .returned (.bool true) ∧ Below W1.heap.size W1 w') := by
    have := rising_any pc cc l W1 (hl.below hb1)
    rw [hr] at this
    exact this
  have HRT := Lib.hid root_any
  obtain ⟨its, hits⟩ : ∃ x, x = applyN [] l := ⟨_, rfl⟩
  have HCH : Hid (∀ u Wx, Below w.heap.size w Wx → Calls Tryz.prog 47 #[u, .agg #[.slice none 0 0, .int .i64 0, .int .u64 0, .int .i64 1, .slice none 0 0, .slice none 0 0, .slice none 0 0, .slice none 0 0], .slice pc l.length cc] Wx (PartsOf w.heap.size Wx ((cutBy (groupsOf its.length) its).map leafOf))) := fun u Wx hb => by
    rw [hits]
    exact changed_new u ⟨hB0, hb.size⟩ (hl.below hb) h0 hs hlm h1
  rw [← hits] at h1 hpw hfi hC ho ⊢
  have hps := parts_pos (f := leafOf) (its := its) h1
  have hst := stands_items h1
  have hp6 : ((cutBy (groupsOf its.length) its).map leafOf).length ≤ 1000000 := by
    rw [List.length_map, cutBy_length, groupsOf_length]
    have := gk_le h1
    omega
  obtain ⟨ps, hpse⟩ : ∃ ps, ps = (cutBy (groupsOf its.length) its).map leafOf := ⟨_, rfl⟩
  rw [← hpse] at HCH hps hst hp6
  have HTP : Hid (∀ Wx lb lo c, Below w.heap.size w Wx → w.heap.size ≤ lb → RowAt (KPtB w.heap.size 0) Wx (some ⟨lb, lo, none⟩) c ps → Calls Tryz.prog 49 #[.slice (some ⟨lb, lo, none⟩) ps.length c] Wx (TopTold w.heap.size Wx ps)) := fun Wx lb lo c hb hlb hrow =>
    top_any ⟨hB0, hb.size⟩ hlb hrow hps hp6 (fun n hn => ⟨groups_sum hn, fun gg hg => ((groups_each hn) gg hg).1.1⟩) (fun q hq => (stands_root (stands_lv hst hq)).2)
  have HLD : Hid (∀ Wx uu cs q, Below w.heap.size w Wx → w.heap.size ≤ uu → Wx.heap[uu]? = some (.cells #[.pointer (some ⟨g, 0, none⟩), .int .i64 0] 106 (0, 0)) → PtB w.heap.size 0 Wx cs q → Lv ps [q] → (∃ hh, Rep hh true q its) ∧ okPt C q ∧ Calls Tryz.prog 48 #[.pointer (some ⟨uu, 0, none⟩), .agg cs.toArray] Wx (LaidPt R C os W g a o own q Wx)) := fun Wx uu cs q hb huu hu hp hlv => by
    obtain ⟨hh, hrep⟩ := (stands_root (stands_lv hst hlv)).1
    have hnn := nodes_le hh true q its hrep
    have hok : okPt C q := rep_ok (Z := List.replicate 256 0) (by simp) hh true q C its hrep hpw hfi (by omega) (by omega)
    exact ⟨⟨hh, hrep⟩, hok, laid_any hB0 hgl huu hu hM hR q (h.stay hb) (Keep.refl ..) (fun k hk _ => h.disk.new_none hk) hp hok (by omega) ⟨by omega, by omega⟩⟩
  have HST : Hid (∀ Wn w' e q x y, Below w.heap.size w Wn → w.heap.size + 1 < Wn.heap.size → LaidPt R C os W g a o own q Wn e w' → LaidPt R C os W g a o own q w e ((w'.setCell ⟨w.heap.size + 1, 0, none⟩ x).setCell ⟨w.heap.size + 1, 1, none⟩ y) ∧ w'.heap[w.heap.size + 1]? = Wn.heap[w.heap.size + 1]?) := fun Wn w' e q x y hb hb2 hl => laidPt_set h hb (Nat.le_succ _) hb2 hl x y
  have HG0 := Lib.hid g0; have HG1 := Lib.hid g1; have HB1 := Lib.hid hb1; have HZ1 := Lib.hid hz1; have HW1 := Lib.hid hW1; have HPL := Lib.hid hps
  clear h hR ho hl hr h0 hs hlm hWs g0 g1 hb1 hz1 hW1 hits hps hst hp6 h1 hpw hfi hC hpse
  unfold PartsOf at HCH
  generalize l.length = L at *
  generalize ps.length = PN at *
  go_enter Tryz.func23, Tryz.ntmps23
  go_wp2_with fail
  rw [← HW1.out]
  refine HR.out.mono ?_
  rintro e w2 ⟨rfl, hb2⟩
  obtain ⟨W3, hW3⟩ : ∃ W3, W3 = w2.alloc (.cells #[.pointer (some ⟨g, 0, none⟩), .int .i64 0] 106) := ⟨_, rfl⟩
  have hb3 : Below w2.heap.size w2 W3 := by rw [hW3]; exact (Below.refl _ _).alloc (Nat.le_refl _) _
  have hu3 : W3.heap[w2.heap.size]? = some (.cells #[.pointer (some ⟨g, 0, none⟩), .int .i64 0] 106 (0, 0)) := by rw [hW3]; exact heap_alloc_new w2 _
  have hb13 : Below W1.heap.size W1 W3 := hb2.trans (hb3.mono hb2.size)
  have KP : Hid (∀ Wx, Below W3.heap.size W3 Wx → Below w.heap.size w Wx ∧ w.heap.size + 1 < Wx.heap.size ∧ (w.heap.size ≤ w2.heap.size ∧ Wx.heap[w2.heap.size]? = some (.cells #[.pointer (some ⟨g, 0, none⟩), .int .i64 0] 106 (0, 0))) ∧ Wx.heap[w.heap.size]? = some (.cells #[.int .i64 0, .int .u64 0] 25 (0, 0)) ∧ Wx.heap[w.heap.size + 1]? = some (.cells #[.int .i64 0, .int .u64 0] 25 (0, 0))) := fun Wx hx => by
    have h1 : Below W1.heap.size W1 Wx := hb13.trans (hx.mono hb13.size)
    exact ⟨HB1.out.trans (h1.mono HB1.out.size), by have := h1.size; have := HZ1.out; omega, ⟨Nat.le_trans HB1.out.size hb2.size, (hx.block _ (Array.getElem?_eq_some_iff.1 hu3).1).trans hu3⟩, (h1.block _ (Array.getElem?_eq_some_iff.1 HG0.out).1).trans HG0.out, (h1.block _ (Array.getElem?_eq_some_iff.1 HG1.out).1).trans HG1.out⟩
  have hd : Below W3.heap.size W3 W3.drew := (Below.refl _ _).drew
  have HD := Lib.hid hd
  obtain ⟨-, -, -, kd, -⟩ := KP.out _ hd
  have r0 : W3.drew.cell? ⟨w.heap.size, 0, none⟩ = some (.int .i64 0) := cells_of kd 0
  have r1 : W3.drew.cell? ⟨w.heap.size, 1, none⟩ = some (.int .u64 0) := cells_of kd 1
  have HW3 := Lib.hid hW3
  clear hb2 hb3 hu3 hb13 hd kd hW3 HG0 HG1 HB1 HZ1 HW1 HR
  go_wp2_with fail
  rw [← HW3.out]
  go_region_law (first
    | (go_simp; go_at_call 43; (with_reducible refine (HRT.out _).mono ?_); rintro e4 w4 ⟨rfl, b4⟩
       have HB4 := Lib.hid (HD.out.trans (b4.mono HD.out.size))
       obtain ⟨kb4, -, -, k4, -⟩ := KP.out _ HB4.out
       have HBW4 := Lib.hid kb4
       have s0 : w4.cell? ⟨w.heap.size, 0, none⟩ = some (.int .i64 0) := cells_of k4 0
       have s1 : w4.cell? ⟨w.heap.size, 1, none⟩ = some (.int .u64 0) := cells_of k4 1
       clear b4 k4 kb4)
    | (go_simp; go_at_call 47; (with_reducible refine (HCH.out _ _ HBW4.out).mono ?_); rintro e5 w5 ⟨lb5, lo5, c5, rfl, hrow5, hlb5, hb5⟩
       have HROW5 := Lib.hid hrow5; have HLB5 := Lib.hid hlb5; have HB5 := Lib.hid (HB4.out.trans (hb5.mono HB4.out.size))
       clear hrow5 hlb5 hb5))
  all_goals
    obtain ⟨kb5, -, -, -, -⟩ := KP.out _ HB5.out
    have HT := Lib.hid (HTP.out w5 lb5 lo5 c5 kb5 HLB5.out HROW5.out)
    clear kb5 HROW5 HLB5
    go_wp2_with fail
    refine HT.out.mono ?_
    rintro e6 w6 ⟨cs, q, rfl, hlv, hp6, b6⟩
    have hb6 := HB5.out.trans (b6.mono HB5.out.size)
    obtain ⟨kb6, ks6, ⟨ku6, kv6⟩, -, kr6⟩ := KP.out _ hb6
    obtain ⟨⟨hh, hrep⟩, hok, hlaid⟩ := HLD.out w6 w2.heap.size cs q kb6 ku6 kv6 hp6 hlv
    obtain ⟨q0, n0, c0, off, ct, deep, q1, n1, c1, q2, n2, c2, q3, n3, c3, q4, c4, rfl⟩ := hp6.plain.parts
    have HL6 := Lib.hid hlaid
    have HS6 : Hid (∀ w' e, LaidPt R C os W g a o own q w6 e w' → w'.heap[w.heap.size + 1]? = some (.cells #[.int .i64 0, .int .u64 0] 25 (0, 0)) ∧ e = .returned (.tuple #[.agg #[.int .i64 (layPt C q).2.off, .int .u64 ((layPt C q).2.ct : Nat)], .int .i64 0]) ∧ ∀ x y, NewTold R C os W g a o own its w e ((w'.setCell ⟨w.heap.size + 1, 0, none⟩ x).setCell ⟨w.heap.size + 1, 1, none⟩ y)) := fun w' e hl => ⟨((HST.out w6 w' e q undef undef kb6 ks6 hl).2).trans kr6, hl.1, fun x y => ⟨q, hh, hrep, hok, (HST.out w6 w' e q x y kb6 ks6 hl).1⟩⟩
    generalize q.kidsN = qn at *
    clear hb6 kb6 ks6 ku6 kv6 kr6 b6 HT hp6 hrep hok hlaid hlv
    go_wp2_with fail
    refine HL6.out.mono ?_
    rintro e7 w7 hl
    obtain ⟨hk7, rfl, hF⟩ := HS6.out w7 e7 hl
    clear hl
    generalize (layPt C q).2.off = LO at *
    generalize (layPt C q).2.ct = LC at *
    have t0 : w7.cell? ⟨w.heap.size + 1, 0, none⟩ = some (.int .i64 0) := cells_of hk7 0
    have t1 : w7.cell? ⟨w.heap.size + 1, 1, none⟩ = some (.int .u64 0) := cells_of hk7 1
    have f0 := free_of hk7 0; have f1 := free_of hk7 1
    have HX := Lib.hid (fun (_ : Unit) => two_set (a := .int .i64 LO) (b := .int .u64 (LC : Nat)) hk7)
    have HF := Lib.hid (hF (.int .i64 LO) (.int .u64 (LC : Nat)))
    clear hk7 hF HL6 HS6
    go_wp2
    exact bodyPost_ret (cell_ret2 (p := 6) (u := 7) (x := .int .i64 0) (ty := 25) (n := 2) (by kernel_rfl) (by kernel_rfl) (by kernel_rfl) rfl rfl (HX.out ()) rfl) rfl HF.out
end Go.Proofs.YtlagllhhahomlaaGreat.Sl.Nd
