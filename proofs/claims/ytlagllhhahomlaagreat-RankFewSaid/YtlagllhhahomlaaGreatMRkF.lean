/- Trees in a program: an empty tree with items is a right tree, read back; the law's file. -/
import Derived.Test.YtlagllhhahomlaaGreatMBbC
import Derived.Test.YtlagllhhahomlaaGreatMRkD
import Derived.Test.YtlagllhhahomlaaGreatMFlG
import Derived.Test.YtlagllhhahomlaaGreatMBaC
import Derived.Test.YtlagllhhahomlaaGreatMSlA
import Derived.Lib.SlBytesConst
namespace Go.By
open Go Go.RowKit
theorem rep_kids {h : Nat} (ih : ∀ (p : Pt) (l : List NIt), Rep h false p l → 4 ^ h ≤ l.length) : ∀ (kids : List Pt) (ls : List (List NIt)), ls.length = kids.length → (∀ i (hi : i < kids.length) (hi' : i < ls.length), Rep h false kids[i] ls[i]) → kids.length * 4 ^ h ≤ ls.flatten.length
  | [], ls, hl, _ => by simp
  | p :: r, [], hl, _ => by simp at hl
  | p :: r, l :: ls, hl, hr => by
    have h1 := ih p l (hr 0 (by simp) (by simp))
    have h2 := rep_kids ih r ls (by simpa using hl) (fun i hi hi' => hr (i + 1) (by simpa using hi) (by simpa using hi'))
    simp only [List.length_cons, List.flatten_cons, List.length_append, Nat.succ_mul]
    omega
theorem rep_many : ∀ (h : Nat) (p : Pt) (l : List NIt), Rep h false p l → 4 ^ h ≤ l.length
  | 0, _, _, hr => by simp [Rep] at hr
  | h + 1, .old .., l, hr => by simp [Rep] at hr
  | h + 1, .leaf k its, l, hr => by
    simp only [Rep] at hr
    obtain ⟨rfl, rfl, -, -, h4, -⟩ := hr
    have := h4.resolve_left (by decide)
    simpa using this
  | h + 1, .node k kids, l, hr => by
    simp only [Rep] at hr
    obtain ⟨-, -, h4, ls, hll, rfl, hk⟩ := hr
    have h1 := rep_kids (fun p l => rep_many h p l) kids ls hll hk
    have h2 := h4.resolve_left (by decide)
    have h3 : 4 * 4 ^ h ≤ kids.length * 4 ^ h := Nat.mul_le_mul_right _ h2
    rw [Nat.pow_succ]
    omega
theorem rep_tall {h : Nat} {root : Bool} {p : Pt} {l : List NIt} (hr : Rep h root p l) (hl : l.length ≤ 1000000) : h ≤ 12 := by
  match h, p, hr with
  | 0, _, hr => omega
  | h + 1, .old .., hr => simp [Rep] at hr
  | h + 1, .leaf k its, hr => simp only [Rep] at hr; omega
  | h + 1, .node k kids, hr =>
    simp only [Rep] at hr
    obtain ⟨-, ⟨h2, -⟩, -, ls, hll, rfl, hk⟩ := hr
    have h1 := rep_kids (fun p l => rep_many h p l) kids ls hll hk
    have h3 : 2 * 4 ^ h ≤ kids.length * 4 ^ h := Nat.mul_le_mul_right _ h2
    have h4 : 4 ^ h < 4 ^ 10 := by
      have : (4 : Nat) ^ 10 = 1048576 := by decide
      omega
    have := (Nat.pow_lt_pow_iff_right (by decide : 1 < 4)).1 h4
    omega
theorem lies_leaf {K : List Nat} (hK : ∀ c ∈ K, c < 256) {f : Nat} {off : Int} {ct : Nat} {l : List NIt} {h : Nat} (hd : docT K (f + 1) off ct true = some (l, h)) (h8 : l.length < 8) : ∃ n, nodeIn K off ct = some n ∧ n.leaf = true ∧ l = n.its := by
  obtain ⟨n, hn, -, hc⟩ := Lies.node hK (least := []) (bound := []) ⟨hd, .inl rfl, .inl rfl, fun _ => rfl⟩
  rcases hc with ⟨h1, h2⟩ | ⟨h1, ls, h2, h3, h4⟩
  · exact ⟨n, hn, h1, h2⟩
  · exfalso
    obtain ⟨hm, _, _⟩ := nodeOf_some (nodeIn_some hn).2.2
    obtain ⟨⟨q1, -⟩, q2, -⟩ := may_in h1 hm
    have each : ∀ i (hi : i < n.kids.length) (hi' : i < ls.length), 4 ≤ ls[i].length := fun i hi hi' => by
      obtain ⟨h', hl⟩ := h4 i hi hi' (by omega)
      have g := hl.good hK
      have := g.many rfl
      have := g.low
      have : 4 ^ 1 ≤ 4 ^ h' := Nat.pow_le_pow_right (by decide) g.low
      omega
    match ls, h2, h3, each with
    | [], h2, _, _ => simp at h2; omega
    | [_], h2, _, _ => simp at h2; omega
    | a :: b :: r, h2, h3, each =>
      have e1 := each 0 (by omega) (by simp)
      have e2 := each 1 (by omega) (by simp)
      simp only [List.getElem_cons_zero, List.getElem_cons_succ] at e1 e2
      rw [h3] at h8
      simp only [List.flatten_cons, List.length_append] at h8
      omega
theorem off_pos {K : List Nat} {f : Nat} {off : Int} {ct : Nat} {l : List NIt} {h : Nat} (hd : docT K f off ct true = some (l, h)) : 256 ≤ off := by
  cases f with
  | zero => unfold docT at hd; cases hd
  | succ f =>
    unfold docT at hd
    cases hn : nodeIn K off ct with
    | none => rw [hn] at hd; cases hd
    | some n => exact (nodeIn_some hn).1
end Go.By
namespace Go.Proofs.YtlagllhhahomlaaGreat.Sl.Nd
open Go Go.RowKit Go.By Lf
def GrewTold (W : World) (g a o : Nat) (own : Own) (its : List NIt) (w : World) (e : Ending) (w' : World) : Prop :=
  ∃ (F : FS) (off : Int) (h : Nat) (own' : Own) (o' : Nat), e = .returned (.tuple #[.agg #[.int .i64 off, .int .u64 (its.length : Nat)], .int .i64 0]) ∧ o' ≤ o + 2 * its.length ∧ 256 ≤ off ∧ Moves g own own' w w' ∧ Tf F W g a o' own' w' ∧ F.Ok ∧ docT F.K 22 off its.length true = some (its, h)
theorem grew {R : Int} {C : List Nat} {os : List ByteOp} {W w : World} {g a o : Nat} {own : Own} {its : List NIt} {e : Ending} {w' : World} (h : NewTold R C os W g a o own its w e w') (hR : 0 ≤ R ∧ R ≤ 1099511627776) (hpw : its.Pairwise BelowIt) (hC : C.length + 2618 * its.length ≤ 1048000) (ho : os.length + 2 * its.length < 1000000) : GrewTold W g a o own its w e w' := by
  obtain ⟨q, hh, hrep, hok, rfl, own', os', hos, hm, ht⟩ := h
  have hnn := nodes_le hh true q its hrep
  have hl := lay_len C q
  obtain ⟨d1, d2⟩ := lay_doc (Z := zero128 ++ zero128) (by simp [zero128_length]) hh true q C its hok hrep hpw
  have hF : (fsT R (layPt C q).1 os').Ok := fsT_ok hR (by omega) (by omega)
  have hK : (fsT R (layPt C q).1 os').K = (zero128 ++ zero128) ++ (layPt C q).1 := by show K3 _ _ _ = _; unfold K3; rw [List.append_assoc]
  rw [← hK, d2] at d1
  have ht' := rep_tall hrep (by omega)
  have d3 := docT_fuel ht.small _ _ _ _ _ _ 22 d1 (by omega)
  refine ⟨fsT R (layPt C q).1 os', (layPt C q).2.off, hh, own', o + nodesPt q, by rw [d2], by omega, off_pos d3, hm, ht, hF, d3⟩
set_option maxRecDepth 100000 in
theorem new13_any (w : World) : Calls Tryz.prog 21 #[] w fun e w' => ∃ a g own, e = .returned (.tuple #[.pointer (some ⟨a, 0, none⟩), .pointer (some ⟨g, 0, none⟩), .bool true]) ∧ Tf (fsT 16777216 [] [.cut 256]) w g a 2 own w' := by
  go_enter Tryz.func21, Tryz.ntmps21
  go_wp2_with fail
  refine (new_any 16777216 w).mono ?_
  rintro e w1 ⟨rfl, hd1, hb1⟩
  have HD1 := Lib.hid (Dsk.new hd1 hb1)
  clear hd1 hb1
  go_wp2_with fail
  refine (new_file tT tT_may (by decide +kernel) 16777216 (by omega) HD1.out).mono ?_
  rintro e w2 ⟨g, own2, hg, rfl, hst2, hd2, hf2⟩
  have HT2 := Lib.hid (made_tf hd2 hf2)
  clear hg hst2 hd2 hf2 HD1
  go_wp2
  go_returns
  exact ⟨_, _, _, rfl, HT2.out⟩
end Go.Proofs.YtlagllhhahomlaaGreat.Sl.Nd
/- Ranks in a program: rank has begun. -/
namespace Go.By
open Go Go.RowKit
def bgCh : List NCh := [⟨[97], [], false⟩, ⟨[99], [], false⟩]
def bgIts : List NIt := [⟨[97], []⟩, ⟨[99], []⟩]
theorem bgCh_its : applyN [] bgCh = bgIts := by decide +kernel
theorem bgCh_rise : risesCh [] bgCh = true := by decide +kernel
theorem bgIts_pw : bgIts.Pairwise BelowIt := by
  unfold bgIts
  refine .cons (fun i hi => ?_) (.cons (fun i hi => by cases hi) .nil)
  simp at hi
  subst hi
  decide
theorem bgIts_fine : ∀ i ∈ bgIts, FineIt i := by
  intro i hi
  unfold bgIts at hi
  simp at hi
  rcases hi with rfl | rfl
  · exact ⟨by decide +kernel, by decide, by decide⟩
  · exact ⟨by decide +kernel, by decide, by decide⟩
theorem bg_below : cntS [] [98] false bgIts = 1 := by decide +kernel
theorem bg_between : cntS [97] [] (decide (([] : List Nat).length = 0)) bgIts = 2 := by decide +kernel
end Go.By
namespace Go.Proofs.YtlagllhhahomlaaGreat.Sl.Nd
open Go Go.RowKit Go.By Lf
set_option maxRecDepth 100000 in
set_option maxHeartbeats 4000000 in
theorem begun15_any (w : World) : Calls Tryz.prog 28 #[] w fun e w' => e = .returned (.bool true) ∧ Below w.heap.size w w' := by
  have hcv := fun (w : World) (C : Array Value) (n c : Nat) => Lib.run_convert_bytes_const (P := Tryz.prog) w 26 5 C n c byT.slice byT.elem
  go_enter Tryz.func28, Tryz.ntmps28
  go_wp2_with fail
  refine (new_any 10000 w).mono ?_
  rintro e w1 ⟨rfl, hd1, hb1⟩
  have HD1 := Lib.hid (Dsk.new hd1 hb1)
  clear hd1 hb1
  go_wp2_with fail
  refine (new_file tT tT_may (by decide +kernel) 10000 (by omega) HD1.out).mono ?_
  rintro e w2 ⟨g, own2, hg, rfl, hst2, hd2, hf2⟩
  have HT2 := Lib.hid (made_tf hd2 hf2)
  clear hg hst2 hd2 hf2 HD1
  obtain ⟨W, hW⟩ : ∃ W, W = allocs w2 [.cells #[.int .u8 97] 5 (1, 2), .cells #[.int .u8 99] 5 (1, 2), .cells #[.slice (some ⟨w2.heap.size, 0, none⟩) 1 1, .slice none 0 0, .bool false, .slice (some ⟨w2.heap.size + 1, 0, none⟩) 1 1, .slice none 0 0, .bool false] 59] := ⟨_, rfl⟩
  have hb : Below w2.heap.size w2 W := by rw [hW]; exact allocs_below _ _
  have b0 : Bytes W (.slice (some ⟨w2.heap.size, 0, none⟩) 1 1) [97] := bytes_at [97] (by rw [hW]; exact allocs_at (i := 0) rfl) rfl rfl (by decide) (by decide)
  have b1 : Bytes W (.slice (some ⟨w2.heap.size + 1, 0, none⟩) 1 1) [99] := bytes_at [99] (by rw [hW]; exact allocs_at (i := 1) rfl) rfl rfl (by decide) (by decide)
  have hI : RowAt KChange W (some ⟨w2.heap.size + 1 + 1, 0, none⟩) 2 bgCh := RowAt.lit (css := [[.slice (some ⟨w2.heap.size, 0, none⟩) 1 1, .slice none 0 0, .bool false], [.slice (some ⟨w2.heap.size + 1, 0, none⟩) 1 1, .slice none 0 0, .bool false]]) (by rw [hW]; exact allocs_at (i := 2) rfl) rfl (.cons (KChange.mk rfl b0 (Bytes.nil _)) (.cons (KChange.mk rfl b1 (Bytes.nil _)) .nil)) rfl (by decide)
  have HUP : Hid (∀ W', W' = W → Calls Tryz.prog 23 #[.pointer (some ⟨g, 0, none⟩), .agg #[.int .i64 0, .int .u64 0], .slice (some ⟨w2.heap.size + 1 + 1, 0, none⟩) 2 2] W' (GrewTold w g w.heap.size 2 own2 bgIts W)) := fun W' e => by
    subst e
    have := update_new (M := 10000) (HT2.out.stay hb) (by decide) (by decide) hI bgCh_rise (by decide) (by intro c hc; unfold bgCh at hc; simp at hc; rcases hc with rfl | rfl <;> exact ⟨by decide, by decide⟩) (by decide) (by rw [bgCh_its]; decide) (by rw [bgCh_its]; exact bgIts_pw) (by rw [bgCh_its]; exact bgIts_fine) (by rw [bgCh_its]; decide) (by rw [bgCh_its]; decide)
    rw [bgCh_its] at this
    exact this.mono fun e w' hn => grew hn (by decide) bgIts_pw (by decide) (by decide)
  have HW := Lib.hid hW
  have hcv2 := Go.Joins.run_convert_bytes_const_at (P := Tryz.prog) (w2.alloc (.cells #[.int .u8 97] 5 (1, 2))) 26 5 #[.int .u8 99] 1 1 (w2.heap.size + 1) (World.size_alloc ..).symm byT.slice byT.elem
  clear hW hb b0 b1 hI HT2
  go_wp2_with fail
  clear hcv2
  refine (HUP.out _ (by rw [HW.out]; rfl)).mono ?_
  rintro z w4 ⟨F, off, h, own4, o4, rfl, ho4, hoff, hm4, ht4, hF, hd⟩
  rw [show bgIts.length = 2 from rfl] at ho4 hd ⊢
  have HT4 := Lib.hid ht4; have HFO := Lib.hid hF; have HDC := Lib.hid hd
  have hne : ¬ (off = 0 ∧ (2 : Nat) = 0) := by omega
  have HNE := Lib.hid hne
  have HO4 : Hid (o4 ≤ 6) := by unfold Hid; omega
  clear hm4 ht4 hF hd HUP HW hne hoff ho4
  obtain ⟨W5, hW5⟩ : ∃ W5, W5 = allocs w4 [.cells #[.int .i64 off, .int .u64 2] 25, .cells #[.int .u8 98] 5 (1, 2)] := ⟨_, rfl⟩
  have hb5 : Below w4.heap.size w4 W5 := by rw [hW5]; exact allocs_below _ _
  have g5 : W5.heap[w4.heap.size]? = some (.cells #[.int .i64 off, .int .u64 2] 25 (0, 0)) := by rw [hW5]; exact allocs_at (i := 0) rfl
  have k5 : Bytes W5 (.slice (some ⟨w4.heap.size + 1, 0, none⟩) 1 1) [98] := bytes_at [98] (by rw [hW5]; exact allocs_at (i := 1) rfl) rfl rfl (by decide) (by decide)
  have HT5 := Lib.hid (HT4.out.stay hb5)
  have hnn : ∀ k, w4.heap.size ≤ k → own4 k = none := fun k hk => HT4.out.disk.new_none hk
  have HNN := Lib.hid hnn
  have hbel := rkBelow_any HT5.out HFO.out HNE.out HDC.out (by have := HO4.out; show o4 + 2 * 2 + 22 < _; omega) (by decide) (fun W' hW' => bytes_steps k5 hW' (fun k hk => hnn k (by cases hk; exact Nat.le_succ _)))
  rw [bg_below, show bgIts.length = 2 from rfl] at hbel
  have HBEL := Lib.hid hbel
  have HG5 := Lib.hid g5
  have HW5 := Lib.hid hW5
  have hcv3 := Go.Joins.run_convert_bytes_const_at (P := Tryz.prog) (w4.alloc (.cells #[.int .i64 off, .int .u64 2] 25)) 26 5 #[.int .u8 98] 1 1 (w4.heap.size + 1) (World.size_alloc ..).symm byT.slice byT.elem
  clear hW5 hb5 g5 k5 hnn hbel
  rw [show ((2 : Nat) : Int) = 2 from rfl]
  go_wp2_with fail
  clear hcv3
  rw [show (w4.alloc (.cells #[.int .i64 off, .int .u64 2] 25)).alloc (.cells #[.int .u8 98] 5 (1, 2)) = W5 from by rw [HW5.out]; rfl]
  refine HBEL.out.mono ?_
  rintro e w6 ⟨o6, h61, h62, hst6, ht6, rfl⟩
  have HT6 := Lib.hid ht6
  have hg6 := (hst6.block _ (Array.getElem?_eq_some_iff.1 HG5.out).1 (.inl (HNN.out _ (Nat.le_refl _)))).trans HG5.out
  have HG6 := Lib.hid hg6
  have r0 := cells_of hg6 0
  have r1 := cells_of hg6 1
  simp only [List.getElem?_toArray, List.getElem?_cons_zero, List.getElem?_cons_succ] at r0 r1
  have HO6 : Hid (o6 ≤ 10) := by have := HO4.out; unfold Hid; omega
  have HAT : Hid (Calls Tryz.prog 52 #[.pointer (some ⟨g, 0, none⟩), .agg #[.int .i64 off, .int .u64 2], .int .u64 1] w6 (LfTold F w g w.heap.size o6 own4 ⟨[99], []⟩ w6)) := by
    obtain ⟨n, hn, hlf, hits⟩ := lies_leaf ht6.small (f := 21) HDC.out (by decide)
    have e1 : ∀ (l : List NIt) (e : bgIts = l) (h : 1 < l.length), l[1] = ⟨[99], []⟩ := fun l e h => by subst e; rfl
    have := at_leaf ht6 HFO.out (by have := HO6.out; omega) HNE.out hn hlf 1 (by rw [← hits]; decide)
    rw [e1 _ hits] at this
    exact this
  have HNG : Hid (w4.heap.size < w6.heap.size) := (Array.getElem?_eq_some_iff.1 hg6).1
  clear h61 h62 hst6 ht6 hg6 HBEL HT5 HG5 HW5
  go_wp2_with fail
  refine HAT.out.mono ?_
  rintro e w7 ⟨o7, x, y, h71, h72, hst7, ht7, rfl, hxy⟩
  obtain ⟨px, cx, rfl, -⟩ := (hxy w7 (fun _ _ _ _ => rfl)).1.any
  obtain ⟨py, cy, rfl, -⟩ := (hxy w7 (fun _ _ _ _ => rfl)).2.any
  rw [show ([99] : List Nat).length = 1 from rfl, show ([] : List Nat).length = 0 from rfl] at hxy ⊢
  have HO7 : Hid (o7 ≤ 11) := by have := HO6.out; unfold Hid; omega
  obtain ⟨W9, hW9⟩ : ∃ W9, W9 = allocs w7 [.cells #[.slice px 1 cx, .slice py 0 cy] 49, .cells #[.int .u8 97] 5 (1, 2)] := ⟨_, rfl⟩
  have hb9 : Below w7.heap.size w7 W9 := by rw [hW9]; exact allocs_below _ _
  have g9 : W9.heap[w7.heap.size]? = some (.cells #[.slice px 1 cx, .slice py 0 cy] 49 (0, 0)) := by rw [hW9]; exact allocs_at (i := 0) rfl
  have k9 : Bytes W9 (.slice (some ⟨w7.heap.size + 1, 0, none⟩) 1 1) [97] := bytes_at [97] (by rw [hW9]; exact allocs_at (i := 1) rfl) rfl rfl (by decide) (by decide)
  have HT9 := Lib.hid (ht7.stay hb9)
  have HN7 : Hid (∀ k, w7.heap.size ≤ k → own4 k = none) := fun k hk => ht7.disk.new_none hk
  have hbet := rkBetween_any HT9.out HFO.out HNE.out HDC.out (by have := HO7.out; show o7 + 2 * 2 + 22 < _; omega) (by decide) (fun W' hW' => ⟨bytes_steps k9 hW' (fun k hk => HN7.out k (by cases hk; exact Nat.le_succ _)), Bytes.nil W'⟩)
  rw [bg_between, show bgIts.length = 2 from rfl] at hbet
  have HBET := Lib.hid hbet
  have HG9 := Lib.hid g9
  have HW9 := Lib.hid hW9
  have hg7 := (hst7.block _ HNG.out (.inl (HNN.out _ (Nat.le_refl _)))).trans HG6.out
  have hg79 := (hb9.block _ (Array.getElem?_eq_some_iff.1 hg7).1).trans hg7
  have HXY : Hid (∀ W', Steps own4 own4 W9 W' → Bytes W' (.slice px 1 cx) [99]) := fun W' hW' => (hxy W' (KeepNew.steps ((Steps.of_below hb9).trans hW'))).1
  clear r0 r1
  have r0 := cells_of hg79 0
  have r1 := cells_of hg79 1
  simp only [List.getElem?_toArray, List.getElem?_cons_zero, List.getElem?_cons_succ] at r0 r1
  rw [hW9] at r0 r1
  have hcv4 := Go.Joins.run_convert_bytes_const_at (P := Tryz.prog) (w7.alloc (.cells #[.slice px 1 cx, .slice py 0 cy] 49)) 26 5 #[.int .u8 97] 1 1 (w7.heap.size + 1) (World.size_alloc ..).symm byT.slice byT.elem
  have hb8 : Below w7.heap.size w7 (w7.alloc (.cells #[.slice px 1 cx, .slice py 0 cy] 49)) := (Below.refl _ _).alloc (Nat.le_refl _) _
  have hg78 := (hb8.block _ (Array.getElem?_eq_some_iff.1 hg7).1).trans hg7
  have r2 := cells_of hg78 0
  have r3 := cells_of hg78 1
  simp only [List.getElem?_toArray, List.getElem?_cons_zero, List.getElem?_cons_succ] at r2 r3
  clear hW9 hb9 g9 k9 hbet h71 h72 hst7 ht7 hxy HAT HG6 HT6 hg7 hg79 hb8 hg78
  go_wp2_with fail
  clear hcv4
  rw [show (w7.alloc (.cells #[.slice px 1 cx, .slice py 0 cy] 49)).alloc (.cells #[.int .u8 97] 5 (1, 2)) = W9 from by rw [HW9.out]; rfl]
  refine HBET.out.mono ?_
  rintro e w10 ⟨o10, h1, h2, hst10, ht10, rfl⟩
  have HBW : Hid (Below w.heap.size w w10) := ht10.disk.below
  have hg10 := (hst10.block _ (Array.getElem?_eq_some_iff.1 HG9.out).1 (.inl (HN7.out _ (Nat.le_refl _)))).trans HG9.out
  have x0 := cells_of hg10 0
  simp only [List.getElem?_toArray, List.getElem?_cons_zero] at x0
  have c1 := (HXY.out w10 hst10).toString byT (P := Tryz.prog) (d := 9) (by kernel_rfl)
  rw [show strOf [99] = ⟨#[99]⟩ from rfl] at c1
  clear hst10 ht10 h1 h2 hg10 HXY HBET r0 r1 r2 r3
  go_wp2
  go_ret
  exact ⟨rfl, HBW.out⟩
end Go.Proofs.YtlagllhhahomlaaGreat.Sl.Nd
