/- Trees in a program: what lies at a place, and keeps to it. -/
import Derived.Test.YtlagllhhahomlaaGreatMBaF
import Derived.Test.YtlagllhhahomlaaGreatMBaC
import Derived.Test.YtlagllhhahomlaaGreatMRkA
import Derived.Test.YtlagllhhahomlaaGreatMLfF
import Derived.Deep.RegionLaw
import Derived.Test.YtlagllhhahomlaaGreatMPlE
namespace Go.By
open Go Go.RowKit
def keptIn (K : List Nat) (off : Int) (ct deep : Nat) (least bound : List Nat) : Option Nd :=
  match (if 22 < deep then none else nodeIn K off ct) with
  | none => none
  | some n => if keeps n (decide (deep = 1)) least bound then some n else none
theorem keptIn_none {K : List Nat} {off : Int} {ct deep : Nat} {least bound : List Nat} (h : (if 22 < deep then none else nodeIn K off ct) = none) : keptIn K off ct deep least bound = none := by unfold keptIn; rw [h]
theorem keptIn_some {K : List Nat} {off : Int} {ct deep : Nat} {least bound : List Nat} {n : Nd} (h : (if 22 < deep then none else nodeIn K off ct) = some n) : keptIn K off ct deep least bound = if keeps n (decide (deep = 1)) least bound then some n else none := by unfold keptIn; rw [h]
end Go.By
namespace Go.Proofs.YtlagllhhahomlaaGreat.Sl.Nd
open Go Go.RowKit Go.By
theorem kp_ret {tmps : Array Value} {w : World} {A : Nat} {cs : Array Value} {x : Value} (hp : tmps.getD 6 undef = .pointer (some ⟨A, 0, none⟩)) (hx : tmps.getD 7 undef = x) (hg : w.heap[A]? = some (.cells cs 38 (0, 0))) (hc : cs.size = 4) :
    (results Tryz.f72 tmps).run Tryz.prog w = .ok (.tuple #[.agg cs, x]) w := by
  have hi : (Tryz.prog.info? 38).map (·.size) = some cs.size := by rw [hc]; kernel_rfl
  have hq : (Tryz.prog.underlying 38).map (fun d => match d with | .struct _ | .array _ _ => true | _ => false) = some true := by kernel_rfl
  obtain ⟨d, hu, hd⟩ := Option.map_eq_some_iff.1 hq
  rw [results_cell_tmp (p := 6) (u := 7) (ty := 38) (by kernel_rfl), hp, hx]
  have := run_loadVar_row (P := Tryz.prog) w A 38 38 cs (0, 0) d hg hu (by cases d <;> simp_all) hi
  simp [asAddr, this, Result.andThen]
set_option maxRecDepth 100000 in
set_option maxHeartbeats 4000000 in
theorem kept_any {F : FS} {W w : World} {g a o : Nat} {own : Own} (h : Tf F W g a o own w) (hF : F.Ok) (ho : o < 4611686018427387904) (off : Int) (ct deep : Nat) (hd : deep < 1000) {va vb : Value} {least bound : List Nat}
    (hP : ∀ W', Steps own own w W' → PlAt W' (.agg #[.int .i64 (deep : Nat), va, vb]) deep least bound va vb) :
    Calls Tryz.prog 72 #[.agg #[.int .i64 (deep : Nat), va, vb], .pointer (some ⟨g, 0, none⟩), .agg #[.int .i64 off, .int .u64 (ct : Nat)]] w (RdNode F W g a o own w (keptIn F.K off ct deep least bound)) := by
  obtain ⟨W1, hW1⟩ : ∃ W1, W1 = ((w.alloc (.cells #[.int .i64 (deep : Nat), va, vb] 100)).alloc (.cells #[.int .i64 off, .int .u64 (ct : Nat)] 25)).alloc (.cells #[.bool false, .slice none 0 0, .slice none 0 0, .slice none 0 0] 38) := ⟨_, rfl⟩
  have hWs : W1 = allocs w [.cells #[.int .i64 (deep : Nat), va, vb] 100, .cells #[.int .i64 off, .int .u64 (ct : Nat)] 25, .cells #[.bool false, .slice none 0 0, .slice none 0 0, .slice none 0 0] 38] := hW1
  have g0 : W1.heap[w.heap.size + 1]? = some (.cells #[.int .i64 off, .int .u64 (ct : Nat)] 25 (0, 0)) := by rw [hWs]; exact allocs_at (i := 1) rfl
  have gp : PlCells W1 w.heap.size deep va vb := by rw [hWs]; exact allocs_at (i := 0) rfl
  have g1 : AnsAt W1 (w.heap.size + 2) := by rw [hWs]; exact allocs_at (i := 2) rfl
  have hb1 : Below w.heap.size w W1 := by rw [hWs]; exact allocs_below _ _
  have hz1 : W1.heap.size = w.heap.size + 3 := by rw [hW1]; simp
  have hs1 : Steps own own w W1 := Steps.of_below hb1
  have r0 := cells_of g0 0
  have r1 := cells_of g0 1
  have k0 := cells_of gp 0
  have k1 := cells_of gp 1
  have k2 := cells_of gp 2
  simp only [List.getElem?_toArray, List.getElem?_cons_zero, List.getElem?_cons_succ] at r0 r1 k0 k1 k2
  have HRD := Lib.hid (treeRead_any (h.stay hb1) hF ho off ct deep hd va vb)
  obtain ⟨X, hX⟩ : ∃ X, X = (if 22 < deep then none else nodeIn F.K off ct) := ⟨_, rfl⟩
  obtain ⟨Y, hY⟩ : ∃ Y, Y = keptIn F.K off ct deep least bound := ⟨_, rfl⟩
  have HNO : Hid (X = none → Y = none) := fun e => by rw [hY]; exact keptIn_none (hX.symm.trans e)
  have HYES : Hid (∀ n, X = some n → Y = if keeps n (decide (deep = 1)) least bound then some n else none) := fun n e => by rw [hY]; exact keptIn_some (hX.symm.trans e)
  have HMAY : Hid (∀ n, X = some n → mayNd n = true) := fun n e => by
    rw [hX] at e
    split at e
    · cases e
    · exact (nodeOf_some (nodeIn_some e).2.2).1
  rw [← hX] at HRD
  rw [← hY]
  have HS1 := Lib.hid hs1; have HG1 := Lib.hid g1; have HGP := Lib.hid gp; have HW1 := Lib.hid hW1; have HZ1 := Lib.hid hz1
  have HH0 := Lib.hid h; have HP := Lib.hid hP
  clear h hF ho hX hY hP hd hW1 hWs g0 g1 gp hb1 hz1 hs1
  go_enter Tryz.func72, Tryz.ntmps72
  go_wp2_with fail
  rw [← HW1.out]
  refine HRD.out.mono ?_
  rintro e w2 ⟨o2, ho1, ho2, hst, htf, hc⟩
  have HO2 : Hid (o ≤ o2 ∧ o2 ≤ o + 1) := ⟨ho1, ho2⟩
  have hkeep : ∀ k, w.heap.size ≤ k → k < w.heap.size + 3 → w2.heap[k]? = W1.heap[k]? := fun k hk hk2 => hst.block k (by rw [HZ1.out]; exact hk2) (.inl (HH0.out.disk.new_none hk))
  have hg1 : AnsAt w2 (w.heap.size + 2) := (hkeep _ (by omega) (by omega)).trans HG1.out
  have hgp : PlCells w2 w.heap.size deep va vb := (hkeep _ (by omega) (by omega)).trans HGP.out
  have HS2 : Hid (Steps own own w w2) := HS1.out.trans hst
  have HT2 := Lib.hid htf
  have HG12 := Lib.hid hg1; have HGP2 := Lib.hid hgp
  clear ho1 ho2 hst htf hkeep hg1 hgp HRD HG1 HGP HS1 r0 r1 k0 k1 k2
  have HSET : Hid (∀ wz x0 x1 x2 x3, Below w2.heap.size w2 wz → AnsAt wz (w.heap.size + 2) ∧ Steps own own w ((((wz.setCell ⟨w.heap.size + 2, 0, none⟩ x0).setCell ⟨w.heap.size + 2, 1, none⟩ x1).setCell ⟨w.heap.size + 2, 2, none⟩ x2).setCell ⟨w.heap.size + 2, 3, none⟩ x3) ∧ Tf F W g a o2 own ((((wz.setCell ⟨w.heap.size + 2, 0, none⟩ x0).setCell ⟨w.heap.size + 2, 1, none⟩ x1).setCell ⟨w.heap.size + 2, 2, none⟩ x2).setCell ⟨w.heap.size + 2, 3, none⟩ x3)) := fun wz x0 x1 x2 x3 hz =>
    ⟨(hz.block _ (Array.getElem?_eq_some_iff.1 HG12.out).1).trans HG12.out, rd_set HH0.out (HS2.out.trans (Steps.of_below hz)) (HT2.out.stay hz) (b := w.heap.size + 2) (by omega) x0 x1 x2 x3⟩
  rcases hc with ⟨hno, rfl⟩ | ⟨n, pi, ci, pk, ck, pd, cd, hsome, rfl, hown, hstay⟩
  · have hyn := HNO.out hno
    obtain ⟨W3, hW3⟩ : ∃ W3, W3 = w2.alloc (.cells #[.bool false, .slice none 0 0, .slice none 0 0, .slice none 0 0] 38) := ⟨_, rfl⟩
    have hb3 : Below w2.heap.size w2 W3 := by rw [hW3]; exact (Below.refl _ _).alloc (Nat.le_refl _) _
    have hx3 : AnsAt W3 w2.heap.size := by rw [hW3]; exact heap_alloc_new w2 _
    obtain ⟨hA, h1, h2⟩ := HSET.out W3 (.bool false) (.slice none 0 0) (.slice none 0 0) (.slice none 0 0) hb3
    have n0 := cells_of hx3 0; have n1 := cells_of hx3 1; have n2 := cells_of hx3 2; have n3 := cells_of hx3 3
    have a0 := cells_of hA 0; have a1 := cells_of hA 1; have a2 := cells_of hA 2; have a3 := cells_of hA 3
    have q0 := free_of hA 0; have q1 := free_of hA 1; have q2 := free_of hA 2; have q3 := free_of hA 3
    simp only [List.getElem?_toArray, List.getElem?_cons_zero, List.getElem?_cons_succ] at n0 n1 n2 n3 a0 a1 a2 a3
    have HX := Lib.hid (ans_set hA (.bool false) (.slice none 0 0) (.slice none 0 0) (.slice none 0 0))
    have HF : Hid (RdNode F W g a o own w Y (.returned (.tuple #[.agg #[.bool false, .slice none 0 0, .slice none 0 0, .slice none 0 0], .int .i64 2])) ((((W3.setCell ⟨w.heap.size + 2, 0, none⟩ (.bool false)).setCell ⟨w.heap.size + 2, 1, none⟩ (.slice none 0 0)).setCell ⟨w.heap.size + 2, 2, none⟩ (.slice none 0 0)).setCell ⟨w.heap.size + 2, 3, none⟩ (.slice none 0 0))) := ⟨o2, HO2.out.1, HO2.out.2, h1, h2, .inl ⟨hyn, rfl⟩⟩
    rw [hW3] at n0 n1 n2 n3 a0 a1 a2 a3 q0 q1 q2 q3
    have HW3 := Lib.hid hW3
    clear hno hb3 hx3 hA h1 h2 hyn HSET HG12 HGP2 HNO HYES HMAY hW3
    go_wp2
    rw [← HW3.out]
    exact bodyPost_ret (kp_ret rfl rfl HX.out rfl) rfl HF.out
  · have hm := HMAY.out n hsome
    have hy := HYES.out n hsome
    have h8 : n.its.length ≤ 8 := by
      cases hl : n.leaf with
      | true => exact (may_lf hl hm).1.2
      | false => rw [(may_in hl hm).2.2.2.2.2]; simp
    obtain ⟨W3, hW3⟩ : ∃ W3, W3 = w2.alloc (.cells #[.bool n.leaf, .slice pi n.its.length ci, .slice pk n.ks.length ck, .slice pd n.kids.length cd] 38) := ⟨_, rfl⟩
    have hb3 : Below w2.heap.size w2 W3 := by rw [hW3]; exact (Below.refl _ _).alloc (Nat.le_refl _) _
    have hnew : NdAt W3 w2.heap.size n pi ci pk ck pd cd := by rw [hW3]; exact NdAt.new ..
    have hgp3 : PlCells W3 w.heap.size deep va vb := (hb3.block _ (Array.getElem?_eq_some_iff.1 HGP2.out).1).trans HGP2.out
    have HMH := Lib.hid (mayHave_any (HP.out W3 (HS2.out.trans (Steps.of_below hb3))) (hstay W3 (KeepNew.steps (Steps.of_below hb3))) h8)
    have HB3 := Lib.hid hb3; have HNW := Lib.hid hnew; have HOWN := Lib.hid hown; have HST := Lib.hid hstay
    obtain ⟨n0, n1, n2, n3⟩ := hnew.cells
    have p0 := cells_of hgp3 0
    have p1 := cells_of hgp3 1
    have p2 := cells_of hgp3 2
    simp only [List.getElem?_toArray, List.getElem?_cons_zero, List.getElem?_cons_succ] at p0 p1 p2
    rw [hW3] at n0 n1 n2 n3 p0 p1 p2
    have HW3 := Lib.hid hW3; have HY := Lib.hid hy
    obtain ⟨KP, hKP⟩ : ∃ b, b = keeps n (decide (deep = 1)) least bound := ⟨_, rfl⟩
    rw [← hKP] at HMH HY
    clear hsome hown hstay hm hy h8 hb3 hnew hgp3 hW3 hKP HGP2 HNO HYES HMAY
    go_wp2_with fail
    rw [← HW3.out]
    refine HMH.out.mono ?_
    rintro e w4 ⟨rfl, hb4⟩
    have hb24 := HB3.out.trans (hb4.mono HB3.out.size)
    have hnw4 := HNW.out.below hb4
    clear n0 n1 n2 n3 p0 p1 p2 HMH HP
    cases KP with
    | false =>
      obtain ⟨hA, h1, h2⟩ := HSET.out w4 (.bool false) (.slice none 0 0) (.slice none 0 0) (.slice none 0 0) hb24
      have a0 := cells_of hA 0; have a1 := cells_of hA 1; have a2 := cells_of hA 2; have a3 := cells_of hA 3
      have q0 := free_of hA 0; have q1 := free_of hA 1; have q2 := free_of hA 2; have q3 := free_of hA 3
      simp only [List.getElem?_toArray, List.getElem?_cons_zero, List.getElem?_cons_succ] at a0 a1 a2 a3
      have HX := Lib.hid (ans_set hA (.bool false) (.slice none 0 0) (.slice none 0 0) (.slice none 0 0))
      have HF : Hid (RdNode F W g a o own w Y (.returned (.tuple #[.agg #[.bool false, .slice none 0 0, .slice none 0 0, .slice none 0 0], .int .i64 2])) ((((w4.setCell ⟨w.heap.size + 2, 0, none⟩ (.bool false)).setCell ⟨w.heap.size + 2, 1, none⟩ (.slice none 0 0)).setCell ⟨w.heap.size + 2, 2, none⟩ (.slice none 0 0)).setCell ⟨w.heap.size + 2, 3, none⟩ (.slice none 0 0))) := ⟨o2, HO2.out.1, HO2.out.2, h1, h2, .inl ⟨HY.out, rfl⟩⟩
      clear hA h1 h2 hb4 hb24 hnw4 HSET HG12 HY
      go_wp2
      exact bodyPost_ret (kp_ret rfl rfl HX.out rfl) rfl HF.out
    | true =>
      obtain ⟨hA, h1, h2⟩ := HSET.out w4 (.bool n.leaf) (.slice pi n.its.length ci) (.slice pk n.ks.length ck) (.slice pd n.kids.length cd) hb24
      obtain ⟨n0, n1, n2, n3⟩ := hnw4.cells
      have a0 := cells_of hA 0; have a1 := cells_of hA 1; have a2 := cells_of hA 2; have a3 := cells_of hA 3
      have q0 := free_of hA 0; have q1 := free_of hA 1; have q2 := free_of hA 2; have q3 := free_of hA 3
      simp only [List.getElem?_toArray, List.getElem?_cons_zero, List.getElem?_cons_succ] at a0 a1 a2 a3
      have HX := Lib.hid (ans_set hA (.bool n.leaf) (.slice pi n.its.length ci) (.slice pk n.ks.length ck) (.slice pd n.kids.length cd))
      have HF : Hid (RdNode F W g a o own w Y (.returned (.tuple #[.agg #[.bool n.leaf, .slice pi n.its.length ci, .slice pk n.ks.length ck, .slice pd n.kids.length cd], .int .i64 0])) ((((w4.setCell ⟨w.heap.size + 2, 0, none⟩ (.bool n.leaf)).setCell ⟨w.heap.size + 2, 1, none⟩ (.slice pi n.its.length ci)).setCell ⟨w.heap.size + 2, 2, none⟩ (.slice pk n.ks.length ck)).setCell ⟨w.heap.size + 2, 3, none⟩ (.slice pd n.kids.length cd))) := by
        refine ⟨o2, HO2.out.1, HO2.out.2, h1, h2, .inr ⟨n, pi, ci, pk, ck, pd, cd, HY.out, rfl, fun k hk => ⟨(HOWN.out k hk).1, by have h1 := (HOWN.out k hk).2; have h2 := HZ1.out; omega⟩, fun W' hW' => HST.out W' fun k hk1 hk2 ho => ?_⟩⟩
        have hkz : k < w4.heap.size := Nat.lt_of_lt_of_le hk2 hb24.size
        rw [HZ1.out] at hk1
        rw [hW' k (by omega) (by simpa [World.setCell] using hkz) ho, ans_other (A := w.heap.size + 2) (by omega)]
        exact hb24.block k hk2
      clear hA h1 h2 hb4 hb24 hnw4 HSET HG12 HY
      go_wp2
      exact bodyPost_ret (kp_ret rfl rfl HX.out rfl) rfl HF.out
end Go.Proofs.YtlagllhhahomlaaGreat.Sl.Nd
/- Trees in a program: the places of kids, as they stay. -/
namespace Go.Proofs.YtlagllhhahomlaaGreat.Sl.Nd
open Go Go.RowKit Go.By
theorem kid_placeM {G : Nat} {own : Own} {w W3 Wp : World} {pk : Option Addr} {ck k deep : Nat} {ks : List (List Nat)} {least bound : List Nat} {va vb ka kb : Value} (hR : ∀ W', Moves G own own W3 W' → RowAt KBytes W' pk ck ks) (hown : ∀ j, (Value.slice pk ks.length ck).ownBlock = some j → own j = none ∧ j ≠ G)
    (hP : ∀ W', Moves G own own w W' → PlAt W' (.agg #[.int .i64 (deep : Nat), va, vb]) deep least bound va vb) (h3 : Moves G own own w W3) (hp : Moves G own own W3 Wp) (hk : k < ks.length) (hkp : KidPl Wp pk k ks.length vb ka kb) :
    ∀ W', Moves G own own W3 W' → PlAt W' (.agg #[.int .i64 (deep + 1 : Nat), ka, kb]) (deep + 1) ks[k] (nextB ks k bound) ka kb := by
  intro W' hW'
  obtain ⟨lb, lo, rfl, e0, e1⟩ := hkp
  obtain ⟨hn, hnG⟩ := hown lb rfl
  have same : ∀ (i : Nat) (hi : i < ks.length) (x : Value), Wp.cell? ⟨lb, lo + i, none⟩ = some x → Bytes W' x ks[i] := fun i hi x hx => by
    obtain ⟨b3, l3, c3, q3, r3, y3, rfl, _⟩ := (hR W3 (Moves.refl _ _ _)).at_ i hi
    obtain ⟨b4, l4, c4, q4, r4, y4, rfl, z4⟩ := (hR W' hW').at_ i hi
    obtain ⟨rfl, rfl⟩ : lb = b3 ∧ lo = l3 := by simpa using q3
    obtain ⟨rfl, rfl⟩ : lb = b4 ∧ lo = l4 := by simpa using q4
    have c3' := r3.one
    have c4' := r4.one
    simp only [KBytes, Nat.mul_one] at c3' c4'
    have hlt := block_lt_of_cell c3'
    have k1 := (World.cell?_of_block (a := ⟨lb, lo + i, none⟩) (hp.block lb hlt hnG (.inl hn))).trans c3'
    have k2 := (World.cell?_of_block (a := ⟨lb, lo + i, none⟩) (hW'.block lb hlt hnG (.inl hn))).trans c3'
    rw [hx] at k1; cases k1
    rw [c4'] at k2; cases k2
    exact z4
  refine ⟨rfl, same k hk ka e0, ?_⟩
  unfold nextB
  by_cases hlt : k + 1 < ks.length
  · rw [if_pos hlt] at e1
    rw [dif_pos hlt]
    exact same (k + 1) hlt kb e1
  · rw [if_neg hlt] at e1
    rw [dif_neg hlt, e1]
    exact (hP W' (h3.trans hW')).bound
def KidsIn (w0 : World) (deep : Nat) (pk : Option Addr) (L : Nat) (bv : Value) (q : Option Addr) (B : Nat) (wr : World) : Prop :=
  ∀ j, j < L → ∃ g x y, q = some ⟨g, 0, none⟩ ∧ B ≤ g ∧ g < wr.heap.size ∧ wr.cell? ⟨g, j * 3, none⟩ = some (.int .i64 (deep + 1 : Nat)) ∧ wr.cell? ⟨g, j * 3 + 1, none⟩ = some x ∧ wr.cell? ⟨g, j * 3 + 2, none⟩ = some y ∧ KidPl w0 pk j L bv x y
theorem KidPl.shape {w : World} {p : Option Addr} {c i : Nat} {ks : List (List Nat)} {bv a b : Value} (h : KidPl w p i ks.length bv a b) (hR : RowAt KBytes w p c ks) (hi : i < ks.length) (hb : ∃ p n c, bv = .slice p n c) : (∃ p n c, a = .slice p n c) ∧ ∃ p n c, b = .slice p n c := by
  obtain ⟨lb, lo, rfl, h1, h2⟩ := h
  obtain ⟨lb', lo', e, hat⟩ := hR.some (by omega)
  cases e
  have at1 : ∀ j (hj : j < ks.length) (x : Value), w.cell? ⟨lb, lo + j, none⟩ = some x → ∃ p n c, x = .slice p n c := fun j hj x hx => by
    obtain ⟨cs, hc, y, rfl, hy⟩ := hat j hj
    have e0 := hc.one
    simp only [KBytes, Nat.mul_one] at e0
    rw [hx] at e0
    cases e0
    obtain ⟨p, c, rfl, -⟩ := hy.any
    exact ⟨_, _, _, rfl⟩
  refine ⟨at1 i hi a h1, ?_⟩
  split at h2
  · rename_i hlt
    exact at1 (i + 1) hlt b h2
  · rw [h2]; exact hb
theorem cell_eq {w w' : World} {g i : Nat} (h : w'.heap[g]? = w.heap[g]?) : w'.cell? ⟨g, i, none⟩ = w.cell? ⟨g, i, none⟩ := by
  unfold World.cell?
  simp only [h]
theorem KidsIn.same {w0 : World} {deep : Nat} {pk : Option Addr} {L : Nat} {bv : Value} {q : Option Addr} {B : Nat} {wr w' : World} (h : KidsIn w0 deep pk L bv q B wr) (hz : wr.heap.size ≤ w'.heap.size) (hs : ∀ k, B ≤ k → k < wr.heap.size → w'.heap[k]? = wr.heap[k]?) : KidsIn w0 deep pk L bv q B w' := fun j hj => by
  obtain ⟨g, x, y, h1, h2, h3, h4, h5, h6, h7⟩ := h j hj
  have e := hs g h2 h3
  exact ⟨g, x, y, h1, h2, by omega, (cell_eq e).trans h4, (cell_eq e).trans h5, (cell_eq e).trans h6, h7⟩
end Go.Proofs.YtlagllhhahomlaaGreat.Sl.Nd
/- Ranks in a program: one counts over a right tree. -/
namespace Go.Proofs.YtlagllhhahomlaaGreat.Sl.Nd
open Go Go.RowKit Go.By
def CtAt (w : World) (G g : Nat) (fv tv : Value) (op : Bool) (K : Nat) : Prop := w.heap[G]? = some (.cells #[.pointer (some ⟨g, 0, none⟩), fv, tv, .bool op, .int .u64 (K : Nat), .int .i64 0] 178 (0, 0))
theorem CtAt.set {w : World} {G g : Nat} {fv tv : Value} {op : Bool} {K : Nat} (h : CtAt w G g fv tv op K) (K' : Nat) : CtAt (w.setCell ⟨G, 4, none⟩ (.int .u64 (K' : Nat))) G g fv tv op K' := heap_setCell_same w G 4 _ _ _ h
theorem CtAt.cells {w : World} {G g : Nat} {fv tv : Value} {op : Bool} {K : Nat} (h : CtAt w G g fv tv op K) :
    w.cell? ⟨G, 0, none⟩ = some (.pointer (some ⟨g, 0, none⟩)) ∧ w.cell? ⟨G, 1, none⟩ = some fv ∧ w.cell? ⟨G, 2, none⟩ = some tv ∧ w.cell? ⟨G, 3, none⟩ = some (.bool op) ∧ w.cell? ⟨G, 4, none⟩ = some (.int .u64 (K : Nat)) ∧ w.cell? ⟨G, 5, none⟩ = some (.int .i64 0) :=
  ⟨cells_of h 0, cells_of h 1, cells_of h 2, cells_of h 3, cells_of h 4, cells_of h 5⟩
def OvTold (F : FS) (W : World) (g a o : Nat) (own : Own) (G : Nat) (fv tv : Value) (op : Bool) (K n : Nat) (w : World) (z : Ending) (w' : World) : Prop :=
  ∃ o', o ≤ o' ∧ o' + 1 ≤ o + 2 * n ∧ Moves G own own w w' ∧ Tf F W g a o' own w' ∧ z = .returned (.tuple #[]) ∧ CtAt w' G g fv tv op K
structure NdIn (F : FS) (W : World) (g a o : Nat) (own : Own) (G : Nat) (n : Nd) (pi : Option Addr) (ci : Nat) (pk : Option Addr) (ck : Nat) (pd : Option Addr) (cd : Nat) (A : Nat) (w wz : World) : Prop where
  steps : Steps own own w wz
  tf : Tf F W g a o own wz
  at_ : NdAt wz A n pi ci pk ck pd cd
  new : w.heap.size ≤ A
  mine : ∀ k, (Value.slice pk n.ks.length ck).ownBlock = some k ∨ (Value.slice pi n.its.length ci).ownBlock = some k ∨ (Value.slice pd n.kids.length cd).ownBlock = some k → own k = none ∧ w.heap.size ≤ k
  nd : ∀ W', Moves G own own wz W' → IsNd W' (.agg #[.bool n.leaf, .slice pi n.its.length ci, .slice pk n.ks.length ck, .slice pd n.kids.length cd]) n pi ci pk ck pd cd
def KpTold (F : FS) (W : World) (g a o : Nat) (own : Own) (n : Nd) (w : World) (z : Ending) (w' : World) : Prop :=
  ∃ pi ci pk ck pd cd o', z = .returned (.tuple #[.agg #[.bool n.leaf, .slice pi n.its.length ci, .slice pk n.ks.length ck, .slice pd n.kids.length cd], .int .i64 0]) ∧ (o ≤ o' ∧ o' ≤ o + 1) ∧ Steps own own w w' ∧ Tf F W g a o' own w' ∧
    (∀ k, (Value.slice pk n.ks.length ck).ownBlock = some k ∨ (Value.slice pi n.its.length ci).ownBlock = some k ∨ (Value.slice pd n.kids.length cd).ownBlock = some k → own k = none ∧ w.heap.size ≤ k) ∧ ∀ W' : World, KeepNew own w w' W' → IsNd W' (.agg #[.bool n.leaf, .slice pi n.its.length ci, .slice pk n.ks.length ck, .slice pd n.kids.length cd]) n pi ci pk ck pd cd
theorem kp_told {F : FS} {W : World} {g a o : Nat} {own : Own} {n : Nd} {w : World} {z : Ending} {w' : World} (h : RdNode F W g a o own w (some n) z w') : KpTold F W g a o own n w z w' := by
  obtain ⟨o', h1, h2, h3, h4, ⟨h5, -⟩ | ⟨m, pi, ci, pk, ck, pd, cd, h5, h6, h7, h8⟩⟩ := h
  · cases h5
  · cases h5
    exact ⟨pi, ci, pk, ck, pd, cd, o', h6, ⟨h1, h2⟩, h3, h4, h7, h8⟩
def setNd (w : World) (A : Nat) (n : Nd) (pi : Option Addr) (ci : Nat) (pk : Option Addr) (ck : Nat) (pd : Option Addr) (cd : Nat) : World :=
  (((w.setCell ⟨A, 0, none⟩ (.bool n.leaf)).setCell ⟨A, 1, none⟩ (.slice pi n.its.length ci)).setCell ⟨A, 2, none⟩ (.slice pk n.ks.length ck)).setCell ⟨A, 3, none⟩ (.slice pd n.kids.length cd)
theorem ndIn_ahead {F : FS} {W w wx w8 : World} {g a o o8 A : Nat} {own : Own} {G : Nat} {n : Nd} {pi pk pd : Option Addr} {ci ck cd : Nat} (h : Tf F W g a o own w) (hG : G < w.heap.size) (hA : w.heap.size ≤ A) (hx : Below w.heap.size w wx) (hax : AnsAt wx A) (hs : Steps own own wx w8) (ht : Tf F W g a o8 own w8)
    (hown : ∀ k, (Value.slice pk n.ks.length ck).ownBlock = some k ∨ (Value.slice pi n.its.length ci).ownBlock = some k ∨ (Value.slice pd n.kids.length cd).ownBlock = some k → own k = none ∧ wx.heap.size ≤ k)
    (hnd : ∀ W' : World, KeepNew own wx w8 W' → IsNd W' (.agg #[.bool n.leaf, .slice pi n.its.length ci, .slice pk n.ks.length ck, .slice pd n.kids.length cd]) n pi ci pk ck pd cd) :
    AnsAt w8 A ∧ NdIn F W g a o8 own G n pi ci pk ck pd cd A w (setNd w8 A n pi ci pk ck pd cd) := by
  have hn := h.disk.new_none hA
  have hAx : A < wx.heap.size := (Array.getElem?_eq_some_iff.1 hax).1
  have ha8 : AnsAt w8 A := (hs.block A hAx (.inl hn)).trans hax
  obtain ⟨e1, e2⟩ := rd_set h ((Steps.of_below hx).trans hs) ht hA (.bool n.leaf) (.slice pi n.its.length ci) (.slice pk n.ks.length ck) (.slice pd n.kids.length cd)
  refine ⟨ha8, e1, e2, ans_set ha8 _ _ _ _, hA, fun k hk => ⟨(hown k hk).1, Nat.le_trans hx.size (hown k hk).2⟩, fun W' hW' => hnd W' fun k hk1 hk2 ho => ?_⟩
  have := hx.size
  rw [hW'.block k (by simpa [setNd, World.setCell] using hk2) (by omega) (.inl ho)]
  exact ans_other (by omega) _ _ _ _
theorem ndIn_behind {F : FS} {W w wx w8 : World} {g a o o8 : Nat} {own : Own} {G : Nat} {n : Nd} {pi pk pd : Option Addr} {ci ck cd : Nat} (_h : Tf F W g a o own w) (hG : G < w.heap.size) (hx : Below w.heap.size w wx) (hs : Steps own own wx w8) (ht : Tf F W g a o8 own w8)
    (hown : ∀ k, (Value.slice pk n.ks.length ck).ownBlock = some k ∨ (Value.slice pi n.its.length ci).ownBlock = some k ∨ (Value.slice pd n.kids.length cd).ownBlock = some k → own k = none ∧ wx.heap.size ≤ k)
    (hnd : ∀ W' : World, KeepNew own wx w8 W' → IsNd W' (.agg #[.bool n.leaf, .slice pi n.its.length ci, .slice pk n.ks.length ck, .slice pd n.kids.length cd]) n pi ci pk ck pd cd) :
    NdIn F W g a o8 own G n pi ci pk ck pd cd w8.heap.size w (w8.alloc (.cells #[.bool n.leaf, .slice pi n.its.length ci, .slice pk n.ks.length ck, .slice pd n.kids.length cd] 38)) := by
  have hb : Below w8.heap.size w8 (w8.alloc (.cells #[.bool n.leaf, .slice pi n.its.length ci, .slice pk n.ks.length ck, .slice pd n.kids.length cd] 38)) := (Below.refl _ _).alloc (Nat.le_refl _) _
  have hA : w.heap.size ≤ w8.heap.size := Nat.le_trans hx.size hs.size
  refine ⟨((Steps.of_below hx).trans hs).trans (Steps.of_below hb), ht.stay hb, NdAt.new .., hA, fun k hk => ⟨(hown k hk).1, Nat.le_trans hx.size (hown k hk).2⟩, fun W' hW' => hnd W' fun k hk1 hk2 ho => ?_⟩
  have := hx.size
  exact (hW'.block k (by simp; omega) (by omega) (.inl ho)).trans (hb.block k hk2)
def OvIt (F : FS) (W : World) (g a o : Nat) (own : Own) (G : Nat) (fv tv : Value) (op : Bool) (fr to : List Nat) (K : Nat) (its : List NIt) (w0 : World) (i : Value) (wr : World) : Prop :=
  ∃ k : Nat, k ≤ its.length ∧ i = .int .i64 k ∧ Moves G own own w0 wr ∧ Tf F W g a o own wr ∧ CtAt wr G g fv tv op (K + cntS fr to op (its.take k))
def OvKd (F : FS) (W : World) (g a o : Nat) (own : Own) (G : Nat) (fv tv : Value) (op : Bool) (fr to : List Nat) (K N : Nat) (ls : List (List NIt)) (kr : World → Prop) (w0 : World) (i : Value) (wr : World) : Prop :=
  ∃ k ok : Nat, k ≤ N ∧ i = .int .i64 k ∧ Tf F W g a ok own wr ∧ Moves G own own w0 wr ∧ CtAt wr G g fv tv op (K + cntS fr to op (ls.take k).flatten) ∧ o ≤ ok ∧ ok + k ≤ o + 1 + 2 * (ls.take k).flatten.length ∧ kr wr
set_option maxRecDepth 100000 in
set_option maxHeartbeats 4000000 in
theorem over_any (F : FS) (hF : F.Ok) (W : World) (g a : Nat) (own : Own) (G : Nat) (fv tv : Value) (op : Bool) (fr to : List Nat) : ∀ (fuel deep : Nat), fuel + deep = 23 → 1 ≤ deep → ∀ (w : World) (o : Nat) (off : Int) (ct : Nat) (least bound : List Nat) (va vb : Value) (l : List NIt) (hh K : Nat),
    Tf F W g a o own w → (own G = none ∧ W.heap.size ≤ G ∧ g ≠ G) → CtAt w G g fv tv op K → o + 2 * l.length + fuel < 4611686018427387904 → K + l.length < 4611686018427387904 → Lies F.K fuel off ct (decide (deep = 1)) least bound l hh →
    (∀ W', Moves G own own w W' → PlAt W' (.agg #[.int .i64 (deep : Nat), va, vb]) deep least bound va vb) → (∀ W', Moves G own own w W' → SpAt W' fv tv fr to) →
    Calls Tryz.prog 94 #[.pointer (some ⟨G, 0, none⟩), .agg #[.int .i64 off, .int .u64 (ct : Nat)], .agg #[.int .i64 (deep : Nat), va, vb]] w (OvTold F W g a o own G fv tv op (K + cntS fr to op l) l.length w) := by
  intro fuel
  induction fuel using Nat.strongRecOn with
  | _ fuel ih =>
  intro deep hfd h1d w o off ct least bound va vb l hh K h hG hC hob hKb hL hP hS
  obtain ⟨f, rfl⟩ : ∃ f, fuel = f + 1 := by
    cases fuel with
    | zero => have := hL.doc; unfold docT at this; cases this
    | succ f => exact ⟨f, rfl⟩
  obtain ⟨n, hn, hkp, hcase⟩ := hL.node h.small
  have hm := (nodeOf_some (nodeIn_some hn).2.2).1
  have hkept : keptIn F.K off ct deep least bound = some n := by rw [keptIn_some (by rw [if_neg (by omega)]; exact hn), if_pos hkp]
  have hGl : G < w.heap.size := (Array.getElem?_eq_some_iff.1 hC).1
  have h1l : 1 ≤ l.length := List.length_pos_iff.2 (hL.good h.small).some
  obtain ⟨W1, hW1⟩ : ∃ W1, W1 = (w.alloc (.cells #[.int .i64 off, .int .u64 (ct : Nat)] 25)).alloc (.cells #[.int .i64 (deep : Nat), va, vb] 100) := ⟨_, rfl⟩
  have hWs : W1 = allocs w [.cells #[.int .i64 off, .int .u64 (ct : Nat)] 25, .cells #[.int .i64 (deep : Nat), va, vb] 100] := hW1
  have g0 : W1.heap[w.heap.size]? = some (.cells #[.int .i64 off, .int .u64 (ct : Nat)] 25 (0, 0)) := by rw [hWs]; exact allocs_at (i := 0) rfl
  have g1 : PlCells W1 (w.heap.size + 1) deep va vb := by rw [hWs]; exact allocs_at (i := 1) rfl
  have hb1 : Below w.heap.size w W1 := by rw [hWs]; exact allocs_below _ _
  have hz1 : W1.heap.size = w.heap.size + 2 := by rw [hW1]; simp
  have HK : Hid (∀ Wx, Below W1.heap.size W1 Wx → Calls Tryz.prog 72 #[.agg #[.int .i64 (deep : Nat), va, vb], .pointer (some ⟨g, 0, none⟩), .agg #[.int .i64 off, .int .u64 (ct : Nat)]] Wx (KpTold F W g a o own n Wx)) := fun Wx hx => by
    have hbx := hb1.trans (hx.mono hb1.size)
    have := kept_any (h.stay hbx) hF (by omega) off ct deep (by omega) (va := va) (vb := vb) (least := least) (bound := bound) (fun W' hW' => hP W' (((Steps.of_below hbx).trans hW').moves G))
    rw [hkept] at this
    exact this.mono fun e w' => kp_told
  have hKC : ∀ Wx, Below W1.heap.size W1 Wx → CtAt Wx G g fv tv op K ∧ PlCells Wx (w.heap.size + 1) deep va vb ∧ Wx.heap[w.heap.size]? = some (.cells #[.int .i64 off, .int .u64 (ct : Nat)] 25 (0, 0)) := fun Wx hx => by
    have hbx := hb1.trans (hx.mono hb1.size)
    exact ⟨(hbx.block G hGl).trans hC, (hx.block _ (by omega)).trans g1, (hx.block _ (by omega)).trans g0⟩
  have HC0 := Lib.hid hC; have HH := Lib.hid h; have HB1 := Lib.hid hb1; have HZ1 := Lib.hid hz1; have HGL := Lib.hid hGl
  have HAH : Hid (∀ wx w8 A o8 pi ci pk ck pd cd, Below W1.heap.size W1 wx → W1.heap.size ≤ A → AnsAt wx A → Steps own own wx w8 → Tf F W g a o8 own w8 → _ → _ → AnsAt w8 A ∧ NdIn F W g a o8 own G n pi ci pk ck pd cd A W1 (setNd w8 A n pi ci pk ck pd cd)) := fun wx w8 A o8 pi ci pk ck pd cd hx hA hax hs ht h1 h2 =>
    ndIn_ahead (h.stay hb1) (Nat.lt_of_lt_of_le hGl hb1.size) hA hx hax hs ht h1 h2
  have HBH : Hid (∀ wx w8 o8 pi ci pk ck pd cd, Below W1.heap.size W1 wx → Steps own own wx w8 → Tf F W g a o8 own w8 → _ → _ → NdIn F W g a o8 own G n pi ci pk ck pd cd w8.heap.size W1 (w8.alloc (.cells #[.bool n.leaf, .slice pi n.its.length ci, .slice pk n.ks.length ck, .slice pd n.kids.length cd] 38))) := fun wx w8 o8 pi ci pk ck pd cd hx hs ht h1 h2 =>
    ndIn_behind (h.stay hb1) (Nat.lt_of_lt_of_le hGl hb1.size) hx hs ht h1 h2
  have HKC := Lib.hid hKC; have HW1 := Lib.hid hW1; have HG := Lib.hid hG; have HG1 := Lib.hid g1
  have HNN : Hid (∀ k, w.heap.size ≤ k → own k = none) := fun k hk => h.disk.new_none hk
  obtain ⟨k0, k1, k2⟩ := hKC W1 (Below.refl _ _)
  obtain ⟨c0, c1, c2, c3, c4, c5⟩ := k0.cells
  rw [HW1.out] at c0 c1 c2 c3 c4 c5
  have HOB := Lib.hid hob; have HKB := Lib.hid hKb; have HP := Lib.hid hP; have HS := Lib.hid hS; have HIH := Lib.hid ih; have HCA := Lib.hid hcase; have HM := Lib.hid hm; have HFD := Lib.hid hfd; have H1L := Lib.hid h1l; have H1D := Lib.hid h1d
  have HSV : Hid ((∃ p n c, fv = .slice p n c) ∧ ∃ p n c, tv = .slice p n c) := by
    have := hS w (Moves.refl _ _ _)
    obtain ⟨p, c, e, -⟩ := this.fr.any
    obtain ⟨q, d, e2, -⟩ := this.to.any
    exact ⟨⟨_, _, _, e⟩, ⟨_, _, _, e2⟩⟩
  obtain ⟨⟨fp, fn, fc, rfl⟩, tp, tn, tc, rfl⟩ := HSV.out
  clear ih h hG hC hob hKb hL hP hS hn hkp hcase hm hkept hGl h1l hWs g0 g1 hb1 hz1 hKC k0 k1 k2 hW1 hfd h1d HSV
  go_enter Tryz.func94, Tryz.ntmps94
  go_wp2_with fail
  rw [← HW1.out]
  clear c0 c1 c2 c3 c4 c5
  apply share
  · intro HTT
    have HD : Hid (Below W1.heap.size W1 W1.drew) := (Below.refl _ _).drew
    have HD2 : Hid (Below W1.heap.size W1 (W1.alloc (.cells #[.bool false, .slice none 0 0, .slice none 0 0, .slice none 0 0] 38)).drew) := ((Below.refl _ _).alloc (Nat.le_refl _) _).drew
    obtain ⟨k0, k1, k2⟩ := HKC.out _ HD.out
    obtain ⟨c0, c1, c2, c3, c4, c5⟩ := k0.cells
    have p0 := cells_of k1 0; have p1 := cells_of k1 1; have p2 := cells_of k1 2
    have r0 := cells_of k2 0; have r1 := cells_of k2 1
    simp only [List.getElem?_toArray, List.getElem?_cons_zero, List.getElem?_cons_succ] at p0 p1 p2 r0 r1
    clear k0 k1 k2
    obtain ⟨k0, k1, k2⟩ := HKC.out _ HD2.out
    obtain ⟨x0, x1, x2, x3, x4, x5⟩ := k0.cells
    have y0 := cells_of k1 0; have y1 := cells_of k1 1; have y2 := cells_of k1 2
    have z0 := cells_of k2 0; have z1 := cells_of k2 1
    simp only [List.getElem?_toArray, List.getElem?_cons_zero, List.getElem?_cons_succ] at y0 y1 y2 z0 z1
    clear k0 k1 k2 c1 c2 c3 c4 c5 x1 x2 x3 x4 x5
    go_region_law (first
      | (go_simp; go_at_call 72; (with_reducible refine (HK.out _ HD.out).mono ?_); rintro e8 w8 ⟨pi, ci, pk, ck, pd, cd, o8, rfl, ho8, hs8, ht8, hown8, hnd8⟩
         have hni := HBH.out _ w8 o8 pi ci pk ck pd cd HD.out hs8 ht8 hown8 hnd8
         obtain ⟨WZ, hWZ⟩ : ∃ WZ, WZ = w8.alloc (.cells #[.bool n.leaf, .slice pi n.its.length ci, .slice pk n.ks.length ck, .slice pd n.kids.length cd] 38) := ⟨_, rfl⟩
         rw [← hWZ] at hni
         obtain ⟨A, hA⟩ : ∃ A, A = w8.heap.size := ⟨_, rfl⟩
         have HA := Lib.hid hA
         rw [← hA] at hni
         have HNI := Lib.hid hni
         have HWZ := Lib.hid hWZ
         have HO8 := Lib.hid ho8
         clear hs8 ht8 hown8 hnd8 ho8 hni hWZ hA p0 p1 p2 r0 r1 c0 x0 y0 y1 y2 z0 z1)
      | (go_simp; go_at_call 72; (with_reducible refine (HK.out _ HD2.out).mono ?_); rintro e8 w8 ⟨pi, ci, pk, ck, pd, cd, o8, rfl, ho8, hs8, ht8, hown8, hnd8⟩
         obtain ⟨ha8, hni⟩ := HAH.out _ w8 W1.heap.size o8 pi ci pk ck pd cd HD2.out (Nat.le_refl _) (heap_alloc_new W1 _) hs8 ht8 hown8 hnd8
         have p0 := cells_of ha8 0; have p1 := cells_of ha8 1; have p2 := cells_of ha8 2; have c0 := cells_of ha8 3
         have y0 := free_of ha8 0; have y1 := free_of ha8 1; have y2 := free_of ha8 2; have x0 := free_of ha8 3
         simp only [List.getElem?_toArray, List.getElem?_cons_zero, List.getElem?_cons_succ] at p0 p1 p2 c0
         obtain ⟨WZ, hWZ⟩ : ∃ WZ, WZ = setNd w8 W1.heap.size n pi ci pk ck pd cd := ⟨_, rfl⟩
         rw [← hWZ] at hni
         obtain ⟨A, hA⟩ : ∃ A, A = W1.heap.size := ⟨_, rfl⟩
         have HA := Lib.hid hA
         rw [← hA] at hni
         have HNI := Lib.hid hni
         have HWZ := Lib.hid hWZ
         have HO8 := Lib.hid ho8
         clear hs8 ht8 hown8 hnd8 ho8 ha8 hni hWZ hA r0 r1 z0 z1))
    all_goals
      have hWZ := HWZ.out
      try unfold setNd at hWZ
      rw [← hWZ, ← HA.out]
      clear hWZ
      first
        | clear HWZ HA HD HD2 p0 p1 p2 c0 y0 y1 y2 x0
        | clear HWZ HA HD HD2
      clear w8
      revert HNI HO8
      revert WZ A o8 cd pd ck pk ci pi
      exact HTT
  · intro pi ci pk ck pd cd o8 WZ A HNI HO8
    clear HAH HBH HK HKC HW1
    obtain ⟨ls, hls, hll, hkd, hkk⟩ : ∃ ls : List (List NIt), ls.length = n.kids.length ∧ l = n.its ++ ls.flatten ∧ (∀ i (hi : i < n.kids.length) (hi' : i < ls.length) (hk : i < n.ks.length), ∃ h', Lies F.K f n.kids[i].off n.kids[i].ct false n.ks[i] (nextS n.ks i bound) ls[i] h') ∧ n.ks.length = n.kids.length := by
      rcases HCA.out with ⟨h1, h2⟩ | ⟨h1, ls, h2, h3, h4⟩
      · obtain ⟨-, -, -, h5, h6⟩ := may_lf h1 HM.out
        exact ⟨[], by rw [h6]; rfl, by rw [h2]; simp, fun i hi => by rw [h6] at hi; exact absurd hi (Nat.not_lt_zero _), by rw [h5, h6]; rfl⟩
      · obtain ⟨-, h5, -, -, -, h6⟩ := may_in h1 HM.out
        exact ⟨ls, h2, by rw [h6, h3]; rfl, h4, h5⟩
    have hN8 : n.its.length ≤ 8 ∧ n.kids.length ≤ 8 := by
      rcases HCA.out with ⟨h1, -⟩ | ⟨h1, -⟩
      · obtain ⟨h4, -, -, -, h6⟩ := may_lf h1 HM.out
        exact ⟨h4.2, by rw [h6]; simp⟩
      · obtain ⟨h4, -, -, -, -, h6⟩ := may_in h1 HM.out
        exact ⟨by rw [h6]; simp, h4.2⟩
    have hend : ∀ ok, ok + n.kids.length ≤ o + 1 + 2 * ls.flatten.length → ok + 1 ≤ o + 2 * l.length := fun ok hok => by
      have h1l := H1L.out
      rw [hll, List.length_append] at h1l ⊢
      rcases HCA.out with ⟨h1, -⟩ | ⟨h1, -⟩
      · obtain ⟨h4, -, -, -, h6⟩ := may_lf h1 HM.out
        have : ls = [] := List.length_eq_zero_iff.1 (by rw [hls, h6]; rfl)
        subst this
        simp only [List.flatten_nil, List.length_nil] at hok h1l ⊢
        omega
      · obtain ⟨h4, -⟩ := may_in h1 HM.out
        omega
    have hcnt : cntS fr to op l = cntS fr to op n.its + cntS fr to op ls.flatten := by rw [hll, cntS_app]
    have hlen : l.length = n.its.length + ls.flatten.length := by rw [hll, List.length_append]
    have HLS := Lib.hid hls; have HKD := Lib.hid hkd; have HKK := Lib.hid hkk; have HN8 := Lib.hid hN8; have HEND := Lib.hid hend; have HCNT := Lib.hid hcnt; have HLEN := Lib.hid hlen
    have hL8 : (n.its.length : Int) ≤ 8 := by have := hN8.1; omega
    have hGW : G < W1.heap.size := Nat.lt_of_lt_of_le HGL.out HB1.out.size
    have HWM : Hid (∀ wr, Moves G own own WZ wr → Moves G own own w wr) := fun wr hm => (((Steps.of_below HB1.out).trans HNI.out.steps).moves G).trans hm
    have HCZ : Hid (CtAt WZ G g (.slice fp fn fc) (.slice tp tn tc) op K) := (HNI.out.steps.block G hGW (.inl HG.out.1)).trans ((HB1.out.block G HGL.out).trans HC0.out)
    have HFB : Hid (∀ wr, Moves G own own WZ wr → PlCells wr (w.heap.size + 1) deep va vb ∧ NdAt wr A n pi ci pk ck pd cd) := fun wr hm => by
      have q1 := HNI.out.new
      have q2 := HNI.out.steps.size
      have q3 := HNI.out.at_.lt
      have q4 := HGL.out
      refine ⟨(hm.block _ (by have := HZ1.out; omega) (by omega) (.inl (HNN.out _ (by omega)))).trans ((HNI.out.steps.block _ (by have := HZ1.out; omega) (.inl (HNN.out _ (by omega)))).trans HG1.out), (hm.block A q3 (by omega) (.inl (HNN.out _ (by have := HB1.out.size; omega)))).trans HNI.out.at_⟩
    have H0 : Hid (OvIt F W g a o8 own G (.slice fp fn fc) (.slice tp tn tc) op fr to K n.its WZ (.int .i64 (0 : Nat)) WZ) := ⟨0, Nat.zero_le _, rfl, Moves.refl _ _ _, HNI.out.tf, by rw [List.take_zero, cntS_nil]; exact HCZ.out⟩
    obtain ⟨n0, n1, n2, n3⟩ := HNI.out.at_.cells
    obtain ⟨L, hL⟩ : ∃ L, L = n.its.length := ⟨_, rfl⟩
    have HL := Lib.hid hL
    rw [← hL] at n1 hL8
    clear hls hll hkd hkk hN8 hend hcnt hlen hL hGW
    go_wp2
    go_loopw [36] (fun i wr => OvIt F W g a o8 own G (.slice fp fn fc) (.slice tp tn tc) op fr to K n.its WZ i wr) (fun i _ => L - (intOf i).toNat)
    case atStart => exact H0.out
    case round =>
      clear H0 n0 n1 n2 n3
      obtain ⟨k, hk, rfl, hmv, htf, hca⟩ := hrel
      by_cases hlt : k < L
      · have hkl : k < n.its.length := by rw [← HL.out]; exact hlt
        have hki : (k : Int) < L := by omega
        have hnd := HNI.out.nd wr hmv
        obtain ⟨lb, lo, cs, rfl, hcc, xa, xb, rfl, hka, hkb⟩ := hnd.its.at_ k hkl
        obtain ⟨e0, e1⟩ := hcc.two
        simp only [KItem] at e0 e1
        have hcn : cntS fr to op (n.its.take (k + 1)) = cntS fr to op (n.its.take k) + (if inS fr to op (n.its[k]'hkl).k = true then 1 else 0) := by rw [List.take_succ_eq_append_getElem hkl, cntS_app, cntS_one]
        have hcl := cntS_le fr to op (n.its.take k)
        rw [List.length_take] at hcl
        obtain ⟨KY, hKY⟩ : ∃ x, x = (n.its[k]'hkl).k := ⟨_, rfl⟩
        rw [← hKY] at hka hcn
        obtain ⟨qk, ck', rfl, -⟩ := hka.any
        obtain ⟨qv, cv', rfl, -⟩ := hkb.any
        generalize (n.its[k]'hkl).v.length = VL at *
        obtain ⟨W6, hW6⟩ : ∃ W6, W6 = wr.alloc (.cells #[.slice qk KY.length ck', .slice qv VL cv'] 49) := ⟨_, rfl⟩
        have hb6 : Below wr.heap.size wr W6 := by rw [hW6]; exact (Below.refl _ _).alloc (Nat.le_refl _) _
        have hg6 : W6.heap[wr.heap.size]? = some (.cells #[.slice qk KY.length ck', .slice qv VL cv'] 49 (0, 0)) := by rw [hW6]; exact heap_alloc_new wr _
        have hb6d : Below wr.heap.size wr W6.drew := hb6.drew
        have hGr : G < wr.heap.size := (Array.getElem?_eq_some_iff.1 hca).1
        have HHAS := Lib.hid (has_any op (HS.out W6.drew ((HWM.out wr hmv).trans ((Steps.of_below hb6d).moves G))) (hka.below hb6d))
        unfold TruthTold at HHAS
        have hca6 : CtAt W6.drew G g (.slice fp fn fc) (.slice tp tn tc) op (K + cntS fr to op (n.its.take k)) := (hb6d.block G hGr).trans hca
        have hg6d : W6.drew.heap[wr.heap.size]? = some (.cells #[.slice qk KY.length ck', .slice qv VL cv'] 49 (0, 0)) := hg6
        have HCA6 := Lib.hid hca6; have HG6D := Lib.hid hg6d
        obtain ⟨X, hX⟩ : ∃ X, X = inS fr to op KY := ⟨_, rfl⟩
        rw [← hX] at HHAS hcn
        have hKB := HKB.out
        have hLN := HLEN.out
        have HNXT : Hid (∀ w8, Below W6.drew.heap.size W6.drew w8 → CtAt w8 G g (.slice fp fn fc) (.slice tp tn tc) op (K + cntS fr to op (n.its.take k)) ∧ OvIt F W g a o8 own G (.slice fp fn fc) (.slice tp tn tc) op fr to K n.its WZ (.int .i64 (k + 1 : Nat)) (if X = true then w8.setCell ⟨G, 4, none⟩ (.int .u64 (K + cntS fr to op (n.its.take k) + 1 : Nat)) else w8)) := fun w8 hb8 => by
          have hb := hb6d.trans (hb8.mono hb6d.size)
          have hc8 : CtAt w8 G g (.slice fp fn fc) (.slice tp tn tc) op (K + cntS fr to op (n.its.take k)) := (hb.block G hGr).trans hca
          refine ⟨hc8, k + 1, hkl, rfl, ?_⟩
          have hm8 := hmv.trans ((Steps.of_below hb).moves G)
          have ht8 := htf.stay hb
          cases X with
          | true =>
            rw [if_pos rfl]
            rw [if_pos rfl] at hcn
            exact ⟨hm8.trans (Moves.set G own w8 4 _), ht8.set HG.out.1 HG.out.2.1 HG.out.2.2 4 _, by rw [hcn, ← Nat.add_assoc]; exact hc8.set _⟩
          | false =>
            rw [if_neg (by decide)]
            rw [if_neg (by decide), Nat.add_zero] at hcn
            exact ⟨hm8, ht8, by rw [hcn]; exact hc8⟩
        have hwp : IntKind.u64.wrap (((K + cntS fr to op (n.its.take k) : Nat) : Int) + 1) = (K + cntS fr to op (n.its.take k) + 1 : Nat) := by rw [IntKind.wrap_u64]; omega
        generalize K + cntS fr to op (n.its.take k) = K1 at *
        have HW6 := Lib.hid hW6; have HLT := Lib.hid hlt
        clear hnd hcc hka hkb hcn hcl hKY hW6 hb6 hg6 hb6d hGr hca6 hg6d hX hKB hLN hmv htf hca hkl hk hlt
        go_wp2_with fail
        rw [← HW6.out]
        apply share
        · intro HTT
          obtain ⟨c0, c1, c2, c3, c4, c5⟩ := HCA6.out.cells
          have i0 := cells_of HG6D.out 0
          simp only [List.getElem?_toArray, List.getElem?_cons_zero] at i0
          go_region_law (go_simp; go_at_call 129; (with_reducible refine HHAS.out.mono ?_); rintro e8 w8 ⟨rfl, hb8⟩; have HB8 := Lib.hid hb8; clear hb8)
          all_goals
            clear c0 c1 c2 c3 c4 c5 i0
            revert HB8
            revert w8
            exact HTT
        · intro w8 HB8
          obtain ⟨hc8, hnx⟩ := HNXT.out w8 HB8.out
          cases X with
          | true =>
            rw [if_pos rfl] at hnx
            have HNX := Lib.hid hnx
            obtain ⟨c0, c1, c2, c3, c4, c5⟩ := hc8.cells
            have f4 := free_of hc8 4
            clear HNXT hnx hc8 HHAS HCA6 HG6D e0 e1
            go_wp2
            go_roundw
            case rel => exact HNX.out
            case measure => simp [intOf]; have := HLT.out; omega
          | false =>
            rw [if_neg (by decide)] at hnx
            have HNX := Lib.hid hnx
            clear HNXT hnx hc8 HHAS HCA6 HG6D e0 e1
            go_wp2
            go_roundw
            case rel => exact HNX.out
            case measure => simp [intOf]; have := HLT.out; omega
      · have hkk : k = n.its.length := by have := HL.out; omega
        subst hkk
        rw [List.take_length] at hca
        obtain ⟨WK, rfl⟩ : ∃ x, x = wr := ⟨_, rfl⟩
        obtain ⟨K1, hK1⟩ : ∃ x, x = K + cntS fr to op n.its := ⟨_, rfl⟩
        rw [← hK1] at hca
        obtain ⟨hpw, hnw⟩ := HFB.out WK hmv
        obtain ⟨N, hN⟩ : ∃ N, N = n.kids.length := ⟨_, rfl⟩
        have hkd := kids_any (HP.out WK (HWM.out WK hmv)) (HNI.out.nd WK hmv) (by have := HFD.out; omega) (by rw [HKK.out]; have := HN8.out.2; omega)
        rw [HKK.out, ← hN] at hkd
        have HKI := Lib.hid hkd
        have hnw' := hnw
        unfold NdAt at hnw'
        rw [HKK.out, ← hN] at hnw'
        have p0 := cells_of hpw 0; have p1 := cells_of hpw 1; have p2 := cells_of hpw 2
        have n0 := cells_of hnw' 0; have n1 := cells_of hnw' 1; have n2 := cells_of hnw' 2; have n3 := cells_of hnw' 3
        simp only [List.getElem?_toArray, List.getElem?_cons_zero, List.getElem?_cons_succ] at p0 p1 p2 n0 n1 n2 n3
        have hN9 : (N : Int) ≤ 8 := by have := HN8.out.2; omega
        have HMV := Lib.hid hmv; have HTF := Lib.hid htf; have HCA := Lib.hid hca; have HN := Lib.hid hN; have HK1 := Lib.hid hK1
        have hli : ¬ ((n.its.length : Nat) : Int) < L := by have := HL.out; omega
        clear hmv htf hca hkd hpw hnw hnw' hk hlt hN hK1
        obtain ⟨LI, hLI⟩ : ∃ x, x = n.its.length := ⟨_, rfl⟩
        have HLI : Hid (n.its.length = LI) := hLI.symm
        rw [← hLI] at n1 hli HKI ⊢
        clear hLI
        go_wp2_with fail
        with_reducible refine HKI.out.mono ?_
        rintro e wk ⟨pq, cq, rfl, -, -, hkq, hbk⟩
        clear p0 p1 p2 n0 n1 n2 n3
        have HKQ : Hid (KidsIn WK deep pk N vb pq WK.heap.size wk) := hkq
        have H0 : Hid (OvKd F W g a o own G (.slice fp fn fc) (.slice tp tn tc) op fr to K1 N ls (KidsIn WK deep pk N vb pq WK.heap.size) WK (.int .i64 (0 : Nat)) wk) :=
          ⟨0, o8, Nat.zero_le _, rfl, HTF.out.stay hbk, (Steps.of_below hbk).moves G, by rw [List.take_zero, List.flatten_nil, cntS_nil]; exact (hbk.block G (Array.getElem?_eq_some_iff.1 HCA.out).1).trans HCA.out, HO8.out.1, by have := HO8.out.2; simp; omega, HKQ.out⟩
        clear hkq hbk HKI
        go_wp2
        go_loopw [59] (fun i wr => OvKd F W g a o own G (.slice fp fn fc) (.slice tp tn tc) op fr to K1 N ls (KidsIn WK deep pk N vb pq WK.heap.size) WK i wr) (fun i _ => N - (intOf i).toNat)
        case atStart => exact H0.out
        case round =>
          clear H0
          obtain ⟨k, ok, hk, rfl, htf, hmv, hca, hok1, hok2, hkr⟩ := hrel
          by_cases hlt : k < N
          · have hkl : k < n.kids.length := by rw [← HN.out]; exact hlt
            have hkk : k < n.ks.length := by rw [HKK.out]; exact hkl
            have hkls : k < ls.length := by rw [HLS.out]; exact hkl
            have hki : (k : Int) < N := by omega
            obtain ⟨h', hlie⟩ := HKD.out k hkl hkls hkk
            have hgood := hlie.good HH.out.small
            have hWm := HMV.out.trans hmv
            have hnd := HNI.out.nd wr hWm
            obtain ⟨lb, lo, rfl, hat⟩ := hnd.kids.some (by omega)
            obtain ⟨cs, hcc, rfl, hd1, hd2⟩ := hat k hkl
            obtain ⟨gq, ka, kb, rfl, hq1, hq2, hq3, hq4, hq5, hkp⟩ := hkr k hlt
            have hkp0 := hkp
            rw [HN.out, ← HKK.out] at hkp0
            obtain ⟨⟨ya, yb, yc, rfl⟩, za, zb, zc, rfl⟩ := hkp0.shape (HNI.out.nd WK HMV.out).ks hkk (by
              obtain ⟨p, c, h, -⟩ := (HP.out w (Moves.refl _ _ _)).bound.any
              exact ⟨p, _, c, h⟩)
            have hplk : ∀ W', Moves G own own WK W' → PlAt W' (.agg #[.int .i64 (deep + 1 : Nat), .slice ya yb yc, .slice za zb zc]) (deep + 1) n.ks[k] (nextB n.ks k bound) (.slice ya yb yc) (.slice za zb zc) :=
              kid_placeM (fun W' hW' => (HNI.out.nd W' (HMV.out.trans hW')).ks) (fun j hj => ⟨(HNI.out.mine j (.inl hj)).1, by have h1 := (HNI.out.mine j (.inl hj)).2; have h2 := HGL.out; have h3 := HB1.out.size; omega⟩) HP.out (HWM.out WK HMV.out) (Moves.refl _ _ _) hkk hkp0
            obtain ⟨W6, hW6⟩ : ∃ W6, W6 = wr.alloc (.cells #[.int .i64 (deep + 1 : Nat), .slice ya yb yc, .slice za zb zc] 100) := ⟨_, rfl⟩
            have hb6 : Below wr.heap.size wr W6 := by rw [hW6]; exact (Below.refl _ _).alloc (Nat.le_refl _) _
            have hg6 : W6.heap[wr.heap.size]? = some (.cells #[.int .i64 (deep + 1 : Nat), .slice ya yb yc, .slice za zb zc] 100 (0, 0)) := by rw [hW6]; exact heap_alloc_new wr _
            have hGr : G < wr.heap.size := (Array.getElem?_eq_some_iff.1 hca).1
            have hsz : w.heap.size ≤ wr.heap.size := (HWM.out wr hWm).size
            obtain ⟨DO, hDO⟩ : ∃ x, x = n.kids[k].off := ⟨_, rfl⟩
            obtain ⟨DC, hDC⟩ : ∃ x, x = n.kids[k].ct := ⟨_, rfl⟩
            rw [← hDO, ← hDC] at hlie
            rw [← hDC] at hgood
            have hnd6 : ∀ Wx, Moves G own own W6 Wx → Wx.heap[wr.heap.size]? = some (.cells #[.int .i64 (deep + 1 : Nat), .slice ya yb yc, .slice za zb zc] 100 (0, 0)) ∧ Wx.heap[A]? = some (.cells #[.bool n.leaf, .slice pi LI ci, .slice pk N ck, .slice (some ⟨lb, lo, none⟩) N cd] 38 (0, 0)) ∧ Wx.cell? ⟨lb, lo + k * 2, none⟩ = some (.int .i64 DO) ∧ Wx.cell? ⟨lb, lo + k * 2 + 1, none⟩ = some (.int .u64 (DC : Nat)) := fun Wx hx => by
              have hm6 := hWm.trans (((Steps.of_below hb6).moves G).trans hx)
              obtain ⟨-, q1⟩ := HFB.out Wx hm6
              unfold NdAt at q1
              rw [HKK.out, ← HN.out, HLI.out] at q1
              obtain ⟨lb', lo', e', hat'⟩ := (HNI.out.nd Wx hm6).kids.some (by omega)
              cases e'
              obtain ⟨cs', hc', rfl, -, -⟩ := hat' k hkl
              rw [← hDO, ← hDC] at hc'
              obtain ⟨e0', e1'⟩ := hc'.two
              simp only [KRef] at e0' e1'
              exact ⟨(hx.block _ (Array.getElem?_eq_some_iff.1 hg6).1 (by omega) (.inl (HNN.out _ hsz))).trans hg6, q1, e0', e1'⟩
            obtain ⟨e0, e1⟩ := hcc.two
            simp only [KRef] at e0 e1
            rw [← hDO] at e0
            rw [← hDC] at e1
            have hd6 : Moves G own own W6 W6.drew := (Steps.of_below ((Below.refl _ _).drew)).moves G
            have hw6 : Moves G own own WK W6 := hmv.trans ((Steps.of_below hb6).moves G)
            obtain ⟨Nb, hNb⟩ : ∃ x, x = nextB n.ks k bound := ⟨_, rfl⟩
            have hlie2 : Lies F.K f DO DC false n.ks[k] Nb ls[k] h' := by rw [hNb]; exact hlie
            rw [← hNb] at hplk
            obtain ⟨Kk, hKk⟩ : ∃ x, x = n.ks[k] := ⟨_, rfl⟩
            rw [← hKk] at hplk hlie2
            obtain ⟨Lk, hLk⟩ : ∃ x, x = ls[k] := ⟨_, rfl⟩
            have htk : (ls.take (k + 1)).flatten = (ls.take k).flatten ++ Lk := by rw [List.take_succ_eq_append_getElem hkls, List.flatten_append, hLk]; simp
            rw [← hLk] at hlie2 hgood
            have hct : cntS fr to op (ls.take (k + 1)).flatten = cntS fr to op (ls.take k).flatten + cntS fr to op Lk := by rw [htk, cntS_app]
            have htl : (ls.take (k + 1)).flatten.length = (ls.take k).flatten.length + Lk.length := by rw [htk, List.length_append]
            have htm : (ls.take (k + 1)).flatten.length ≤ ls.flatten.length := by
              conv => rhs; rw [← List.take_append_drop (k + 1) ls]
              rw [List.flatten_append, List.length_append]
              omega
            have hc1 := cntS_le fr to op n.its
            have hc2 := cntS_le fr to op (ls.take k).flatten
            have hc3 := cntS_le fr to op Lk
            have hl1 : 1 ≤ Lk.length := List.length_pos_iff.2 hgood.some
            have hKB := HKB.out; have hLN := HLEN.out; have hOB := HOB.out; have hK1 := HK1.out; have hLI := HLI.out
            have hhold : holdS fr to op Kk Nb = true → cntS fr to op Lk = DC := fun e => (hold_all hgood.rise (hlie2.head.resolve_left (by decide)) hlie2.ub e).trans hgood.len
            have hmeet : meetS fr to op Kk Nb = false → cntS fr to op Lk = 0 := fun e => meet_none hgood.rise (hlie2.head.resolve_left (by decide)) hlie2.ub e
            obtain ⟨K2, hK2⟩ : ∃ x, x = K1 + cntS fr to op (ls.take k).flatten := ⟨_, rfl⟩
            rw [← hK2] at hca
            have HNXT : Hid (∀ Wx ok', Tf F W g a ok' own Wx → Moves G own own W6 Wx → CtAt Wx G g (.slice fp fn fc) (.slice tp tn tc) op (K2 + cntS fr to op Lk) → ok ≤ ok' → ok' + 1 ≤ ok + 2 * Lk.length → OvKd F W g a o own G (.slice fp fn fc) (.slice tp tn tc) op fr to K1 N ls (KidsIn WK deep pk N vb (some ⟨gq, 0, none⟩) WK.heap.size) WK (.int .i64 (k + 1 : Nat)) Wx) := fun Wx ok' ht hm hc h1 h2 =>
              ⟨k + 1, ok', hlt, rfl, ht, hw6.trans hm, by rw [hct, ← Nat.add_assoc, ← hK2]; exact hc, by omega, by rw [htl]; omega, hkr.same (((Steps.of_below hb6).moves G).trans hm).size (fun j hj hj2 => (((Steps.of_below hb6).moves G).trans hm).block j hj2 (by have h1 := HGL.out; have h2 := (HWM.out WK HMV.out).size; omega) (.inl (HNN.out j (by have h2 := (HWM.out WK HMV.out).size; omega))))⟩
            have hb2 : ok + 2 * Lk.length + f < 4611686018427387904 := by omega
            have hb3 : K2 + Lk.length < 4611686018427387904 := by omega
            have HREC : Hid (∀ Wx, Moves G own own W6 Wx → Tf F W g a ok own Wx → CtAt Wx G g (.slice fp fn fc) (.slice tp tn tc) op K2 → Calls Tryz.prog 94 #[.pointer (some ⟨G, 0, none⟩), .agg #[.int .i64 DO, .int .u64 (DC : Nat)], .agg #[.int .i64 (deep + 1 : Nat), .slice ya yb yc, .slice za zb zc]] Wx (OvTold F W g a ok own G (.slice fp fn fc) (.slice tp tn tc) op (K2 + cntS fr to op Lk) Lk.length Wx)) := fun Wx hm ht hc =>
              HIH.out f (Nat.lt_succ_self f) (deep + 1) (by have := HFD.out; omega) (by omega) Wx ok DO DC Kk Nb (.slice ya yb yc) (.slice za zb zc) Lk h' K2 ht HG.out hc hb2 hb3 (by rw [decide_eq_false (by have := H1D.out; omega)]; exact hlie2) (fun W' hW' => hplk W' ((hw6.trans hm).trans hW')) (fun W' hW' => HS.out W' ((HWM.out WK HMV.out).trans ((hw6.trans hm).trans hW')))
            have HHO : Hid (∀ Wx, Moves G own own W6 Wx → Calls Tryz.prog 130 #[.agg #[.slice fp fn fc, .slice tp tn tc, .bool op], .agg #[.int .i64 (deep + 1 : Nat), .slice ya yb yc, .slice za zb zc]] Wx (TruthTold Wx (holdS fr to op Kk Nb))) := fun Wx hm => holds_any op (HS.out Wx ((HWM.out WK HMV.out).trans (hw6.trans hm))) (hplk Wx (hw6.trans hm))
            have HME : Hid (∀ Wx, Moves G own own W6 Wx → Calls Tryz.prog 128 #[.agg #[.slice fp fn fc, .slice tp tn tc, .bool op], .agg #[.int .i64 (deep + 1 : Nat), .slice ya yb yc, .slice za zb zc]] Wx (TruthTold Wx (meetS fr to op Kk Nb))) := fun Wx hm => meets_any op (HS.out Wx ((HWM.out WK HMV.out).trans (hw6.trans hm))) (hplk Wx (hw6.trans hm))
            have hca6 : CtAt W6 G g (.slice fp fn fc) (.slice tp tn tc) op K2 := (hb6.block G hGr).trans hca
            have hwp : IntKind.u64.wrap (((K2 : Nat) : Int) + (DC : Nat)) = (K2 + DC : Nat) := by
              have := hgood.len
              rw [IntKind.wrap_u64]; omega
            have hlk := hgood.len
            have HND6 := Lib.hid hnd6; have HCA6 := Lib.hid hca6; have HT6 := Lib.hid (htf.stay hb6); have HW6 := Lib.hid hW6; have HD6 := Lib.hid hd6; have HLT := Lib.hid hlt; have HHOLD := Lib.hid hhold; have HMEET := Lib.hid hmeet; have HL1 := Lib.hid hl1; have HLK := Lib.hid hlk
            obtain ⟨DP, hDP⟩ : ∃ x, x = deep + 1 := ⟨_, rfl⟩
            rw [← hDP] at HND6 HREC HHO HME HW6 hq3
            obtain ⟨XH, hXH⟩ : ∃ x, x = holdS fr to op Kk Nb := ⟨_, rfl⟩
            obtain ⟨XM, hXM⟩ : ∃ x, x = meetS fr to op Kk Nb := ⟨_, rfl⟩
            rw [← hXH] at HHO HHOLD
            rw [← hXM] at HME HMEET
            unfold TruthTold at HHO HME
            unfold OvTold at HREC
            clear hkk hkls hlie hgood hWm hnd hat hcc hd1 hd2 hq1 hq2 hkp hkp0 hplk hb6 hg6 hGr hsz hnd6 hd6 hw6 hNb hlie2 hKk htk hct htl htm hc1 hc2 hc3 hl1 hKB hLN hOB hK1 hhold hmeet hK2 hb2 hb3 hca6 htf hmv hca hok1 hok2 hkr hlt hk hXH hXM hlk hDO hDC hLk hDP hW6 e0 e1 hLI hkl
            go_wp2_with fail
            rw [← HW6.out]
            apply share
            · intro HTT
              obtain ⟨q1, -, -, -⟩ := HND6.out W6.drew HD6.out
              have hcd : CtAt W6.drew G g (.slice fp fn fc) (.slice tp tn tc) op K2 := HCA6.out
              obtain ⟨c0, c1, c2, c3, c4, c5⟩ := hcd.cells
              have p0 := cells_of q1 0; have p1 := cells_of q1 1; have p2 := cells_of q1 2
              simp only [List.getElem?_toArray, List.getElem?_cons_zero, List.getElem?_cons_succ] at p0 p1 p2
              clear q1 hcd c0 c4 c5
              go_region_law (go_simp; go_at_call 130; (with_reducible refine (HHO.out _ HD6.out).mono ?_); rintro e8 w8 ⟨rfl, hb8⟩; have HB8 := Lib.hid hb8; clear hb8)
              all_goals
                clear c1 c2 c3 p0 p1 p2
                revert HB8
                revert w8
                exact HTT
            · intro w8 HB8
              have hm8 : Moves G own own W6 w8 := HD6.out.trans ((Steps.of_below HB8.out).moves G)
              have hb68 : Below W6.heap.size W6 w8 := ((Below.refl W6.heap.size W6).drew).trans HB8.out
              have hca8 : CtAt w8 G g (.slice fp fn fc) (.slice tp tn tc) op K2 := (hb68.block G (Array.getElem?_eq_some_iff.1 HCA6.out).1).trans HCA6.out
              have hd8 : Moves G own own w8 w8.drew := (Steps.of_below ((Below.refl _ _).drew)).moves G
              have HM8 := Lib.hid (hm8.trans hd8); have HC8 : Hid (CtAt w8.drew G g (.slice fp fn fc) (.slice tp tn tc) op K2) := hca8
              have HT8 : Hid (Tf F W g a ok own w8.drew) := (HT6.out.stay hb68).stay ((Below.refl _ _).drew)
              clear HB8 hm8 hca8 hd8 hb68
              cases XH with
              | true =>
                have hnx := HNXT.out (w8.drew.setCell ⟨G, 4, none⟩ (.int .u64 (K2 + DC : Nat))) ok (HT8.out.set HG.out.1 HG.out.2.1 HG.out.2.2 4 _) (HM8.out.trans (Moves.set G own _ 4 _)) (by rw [HHOLD.out rfl]; exact HC8.out.set _) (Nat.le_refl _) (by have := HL1.out; omega)
                have HNX := Lib.hid hnx
                clear hnx HNXT HREC HHO HME HCA6 HT6 HD6 HHOLD HMEET HT8
                go_wp2_with fail
                apply share
                · intro HTT
                  obtain ⟨-, q2, -, j1⟩ := HND6.out _ HM8.out
                  obtain ⟨-, -, -, -, c4, -⟩ := HC8.out.cells
                  have f4 := free_of HC8.out 4
                  have n3 := cells_of q2 3
                  simp only [List.getElem?_toArray, List.getElem?_cons_zero, List.getElem?_cons_succ] at n3
                  clear q2
                  go_region_law (fail)
                  all_goals
                    clear j1 c4 f4 n3
                    exact HTT
                · clear HND6 HC8 HM8
                  go_wp2
                  go_roundw
                  case rel => exact HNX.out
                  case measure => simp [intOf]; have := HLT.out; omega
              | false =>
                go_wp2_with fail
                apply share
                · intro HTT
                  obtain ⟨q1, -, -, -⟩ := HND6.out _ HM8.out
                  obtain ⟨-, c1, c2, c3, -, -⟩ := HC8.out.cells
                  have p0 := cells_of q1 0; have p1 := cells_of q1 1; have p2 := cells_of q1 2
                  simp only [List.getElem?_toArray, List.getElem?_cons_zero, List.getElem?_cons_succ] at p0 p1 p2
                  clear q1
                  go_region_law (go_simp; go_at_call 128; (with_reducible refine (HME.out _ HM8.out).mono ?_); rintro e9 w9 ⟨rfl, hb9⟩; have HB9 := Lib.hid hb9; clear hb9)
                  all_goals
                    clear c1 c2 c3 p0 p1 p2
                    revert HB9
                    revert w9
                    exact HTT
                · intro w9 HB9
                  have hca9 : CtAt w9 G g (.slice fp fn fc) (.slice tp tn tc) op K2 := (HB9.out.block G (Array.getElem?_eq_some_iff.1 HC8.out).1).trans HC8.out
                  have hm9 := HM8.out.trans ((Steps.of_below HB9.out).moves G)
                  have ht9 := HT8.out.stay HB9.out
                  cases XM with
                  | false =>
                    have hnx := HNXT.out w9 ok ht9 hm9 (by rw [HMEET.out rfl, Nat.add_zero]; exact hca9) (Nat.le_refl _) (by have := HL1.out; omega)
                    have HNX := Lib.hid hnx
                    clear hnx hca9 hm9 ht9 HNXT HREC HHO HME HND6 HCA6 HT6 HD6 HHOLD HMEET HM8 HC8 HT8 HB9
                    go_wp2
                    go_roundw
                    case rel => exact HNX.out
                    case measure => simp [intOf]; have := HLT.out; omega
                  | true =>
                    have hd9 : Moves G own own w9 w9.drew := (Steps.of_below ((Below.refl _ _).drew)).moves G
                    have HM9 := Lib.hid (hm9.trans hd9); have HC9 : Hid (CtAt w9.drew G g (.slice fp fn fc) (.slice tp tn tc) op K2) := hca9
                    have HT9 : Hid (Tf F W g a ok own w9.drew) := ht9.stay ((Below.refl _ _).drew)
                    clear hca9 hm9 ht9 hd9 HB9 HHO HME HCA6 HT6 HD6 HHOLD HMEET HM8 HC8 HT8
                    go_wp2_with fail
                    apply share
                    · intro HTT
                      obtain ⟨q1, q2, j0, j1⟩ := HND6.out _ HM9.out
                      have p0 := cells_of q1 0; have p1 := cells_of q1 1; have p2 := cells_of q1 2
                      have n3 := cells_of q2 3
                      simp only [List.getElem?_toArray, List.getElem?_cons_zero, List.getElem?_cons_succ] at p0 p1 p2 n3
                      clear q1 q2
                      go_region_law (go_simp; go_at_call 94; (with_reducible refine (HREC.out _ HM9.out HT9.out HC9.out).mono ?_); rintro e10 w10 ⟨o10, h1, h2, hm, ht, rfl, hc⟩; have HNX := Lib.hid (HNXT.out w10 o10 ht (HM9.out.trans hm) hc h1 h2); clear hm ht hc h1 h2)
                      all_goals
                        clear p0 p1 p2 n3 j0 j1
                        clear o10
                        revert HNX
                        revert w10
                        exact HTT
                    · intro w10 HNX
                      clear HNXT HREC HND6 HM9 HC9 HT9
                      go_wp2
                      go_roundw
                      case rel => exact HNX.out
                      case measure => simp [intOf]; have := HLT.out; omega
          · have hkN : k = N := by omega
            rw [List.take_of_length_le (by rw [HLS.out, ← HN.out]; omega)] at hca hok2
            have HF : Hid (OvTold F W g a o own G (.slice fp fn fc) (.slice tp tn tc) op (K + cntS fr to op l) l.length w (.returned (.tuple #[])) wr) := ⟨ok, hok1, HEND.out ok (by rw [← HN.out]; omega), HWM.out wr (HMV.out.trans hmv), htf, rfl, by rw [HCNT.out, ← Nat.add_assoc, ← HK1.out]; exact hca⟩
            clear hca hok1 hok2 htf hmv hkr hk hlt
            subst hkN
            go_wp2
            go_returns
            exact HF.out
end Go.Proofs.YtlagllhhahomlaaGreat.Sl.Nd
/- Ranks in a program: how many keys of a right tree lie in a span; an item of a single leaf. -/
namespace Go.Proofs.YtlagllhhahomlaaGreat.Sl.Nd
open Go Go.RowKit Go.By
theorem moves_steps {G : Nat} {own : Own} {w wG W' : World} (h : Steps own own w wG) (hG : w.heap.size ≤ G) (hm : Moves G own own wG W') : Steps own own w W' :=
  ⟨hm.os.trans h.os, hm.tape.trans h.tape, hm.output.trans h.output, Nat.le_trans h.size hm.size, fun k hk ho => (hm.block k (Nat.lt_of_lt_of_le hk h.size) (by omega) (by rw [← h.same k hk] at ho; exact ho)).trans (h.block k hk ho), fun k hk => rfl⟩
set_option maxRecDepth 100000 in
theorem between_any (w : World) (q : Option Addr) (m d : Nat) (p : Option Addr) (n c : Nat) : Calls Tryz.prog 54 #[.slice q m d, .slice p n c] w fun e w' => e = .returned (.agg #[.slice q m d, .slice p n c, .bool (decide (n = 0))]) ∧ Below w.heap.size w w' := by
  have HF : Hid (∀ x : Bool, x = decide (n = 0) → Below w.heap.size w (w.alloc (.cells #[.slice q m d, .slice p n c, .bool x] 123))) := fun x _ => (Below.refl _ _).alloc (Nat.le_refl _) _
  have HX : Hid (∀ x : Bool, (w.alloc (.cells #[.slice q m d, .slice p n c, .bool x] 123)).heap[w.heap.size]? = some (.cells #[.slice q m d, .slice p n c, .bool x] 123 (0, 0))) := fun x => heap_alloc_new w _
  by_cases h0 : n = 0
  · subst h0
    have h0' : (((0 : Nat) : Int) == 0) = true := rfl
    go_enter Tryz.func54, Tryz.ntmps54
    go_wp2
    exact bodyPost_ret (cell_ret1 (p := 4) (ty := 123) (n := 3) (by kernel_rfl) (by kernel_rfl) (by kernel_rfl) rfl (HX.out _) rfl) rfl ⟨by simp, HF.out _ (by simp)⟩
  · have h0' : ((n : Int) == 0) = false := by simp; omega
    have h1 : decide (n = 0) = false := decide_eq_false h0
    rw [h1] at HF ⊢
    clear h1 h0
    go_enter Tryz.func54, Tryz.ntmps54
    go_wp2
    exact bodyPost_ret (cell_ret1 (p := 4) (ty := 123) (n := 3) (by kernel_rfl) (by kernel_rfl) (by kernel_rfl) rfl (HX.out _) rfl) rfl ⟨rfl, HF.out _ rfl⟩
set_option maxRecDepth 100000 in
theorem spBelow_any (w : World) (p : Option Addr) (n c : Nat) : Calls Tryz.prog 92 #[.slice p n c] w fun e w' => e = .returned (.agg #[.slice none 0 0, .slice p n c, .bool false]) ∧ Below w.heap.size w w' := by
  have HF : Hid (Below w.heap.size w (w.alloc (.cells #[.slice none 0 0, .slice p n c, .bool false] 123))) := (Below.refl _ _).alloc (Nat.le_refl _) _
  have HX : Hid ((w.alloc (.cells #[.slice none 0 0, .slice p n c, .bool false] 123)).heap[w.heap.size]? = some (.cells #[.slice none 0 0, .slice p n c, .bool false] 123 (0, 0))) := heap_alloc_new w _
  go_enter Tryz.func92, Tryz.ntmps92
  go_wp2
  exact bodyPost_ret (cell_ret1 (p := 2) (ty := 123) (n := 3) (by kernel_rfl) (by kernel_rfl) (by kernel_rfl) rfl HX.out rfl) rfl ⟨rfl, HF.out⟩
def RkTold (F : FS) (W : World) (g a o : Nat) (own : Own) (n len : Nat) (w : World) (z : Ending) (w' : World) : Prop :=
  ∃ o', o ≤ o' ∧ o' ≤ o + 2 * len ∧ Steps own own w w' ∧ Tf F W g a o' own w' ∧ z = .returned (.tuple #[.int .u64 (n : Nat), .int .i64 0])
set_option maxRecDepth 100000 in
set_option maxHeartbeats 4000000 in
theorem counted_any {F : FS} {W w : World} {g a o : Nat} {own : Own} (h : Tf F W g a o own w) (hF : F.Ok) {off : Int} {ct : Nat} {l : List NIt} {hh : Nat} (hne : ¬ (off = 0 ∧ ct = 0)) (hd : docT F.K 22 off ct true = some (l, hh)) (ho : o + 2 * l.length + 22 < 4611686018427387904) (hl : l.length < 4611686018427387904)
    {fp tp : Option Addr} {fn fc tn tc : Nat} {fr to : List Nat} (op : Bool) (hS : ∀ W', Steps own own w W' → SpAt W' (.slice fp fn fc) (.slice tp tn tc) fr to) :
    Calls Tryz.prog 53 #[.pointer (some ⟨g, 0, none⟩), .agg #[.int .i64 off, .int .u64 (ct : Nat)], .agg #[.slice fp fn fc, .slice tp tn tc, .bool op]] w (RkTold F W g a o own (cntS fr to op l) l.length w) := by
  obtain ⟨W1, hW1⟩ : ∃ W1, W1 = (w.alloc (.cells #[.int .i64 off, .int .u64 (ct : Nat)] 25)).alloc (.cells #[.slice fp fn fc, .slice tp tn tc, .bool op] 123) := ⟨_, rfl⟩
  have hWs : W1 = allocs w [.cells #[.int .i64 off, .int .u64 (ct : Nat)] 25, .cells #[.slice fp fn fc, .slice tp tn tc, .bool op] 123] := hW1
  have g0 : W1.heap[w.heap.size]? = some (.cells #[.int .i64 off, .int .u64 (ct : Nat)] 25 (0, 0)) := by rw [hWs]; exact allocs_at (i := 0) rfl
  have g1 : W1.heap[w.heap.size + 1]? = some (.cells #[.slice fp fn fc, .slice tp tn tc, .bool op] 123 (0, 0)) := by rw [hWs]; exact allocs_at (i := 1) rfl
  have hb1 : Below w.heap.size w W1 := by rw [hWs]; exact allocs_below _ _
  have r0 := cells_of g0 0; have r1 := cells_of g0 1
  have s0 := cells_of g1 0; have s1 := cells_of g1 1; have s2 := cells_of g1 2
  simp only [List.getElem?_toArray, List.getElem?_cons_zero, List.getElem?_cons_succ] at r0 r1 s0 s1 s2
  have HEM : Hid (Calls Tryz.prog 41 #[.agg #[.int .i64 off, .int .u64 (ct : Nat)]] W1 fun e w' => e = .returned (.bool false) ∧ Below W1.heap.size W1 w') := by
    have := isEmpty_any off ct W1
    rw [decide_eq_false hne] at this
    exact this
  have HRT := Lib.hid root_any
  have HOV : Hid (∀ wG G, Below w.heap.size w wG → w.heap.size ≤ G → G < wG.heap.size → CtAt wG G g (.slice fp fn fc) (.slice tp tn tc) op 0 → Calls Tryz.prog 94 #[.pointer (some ⟨G, 0, none⟩), .agg #[.int .i64 off, .int .u64 (ct : Nat)], .agg #[.int .i64 1, .slice none 0 0, .slice none 0 0]] wG (OvTold F W g a o own G (.slice fp fn fc) (.slice tp tn tc) op (cntS fr to op l) l.length wG)) := fun wG G hb hG hGl hc => by
    have := over_any F hF W g a own G (.slice fp fn fc) (.slice tp tn tc) op fr to 22 1 rfl (Nat.le_refl _) wG o off ct [] [] (.slice none 0 0) (.slice none 0 0) l hh 0 (h.stay hb) ⟨h.disk.new_none hG, Nat.le_trans h.disk.below.size hG, by have := h.file.lt; omega⟩ hc ho (by omega) ⟨hd, .inl rfl, .inl rfl, fun _ => rfl⟩ (fun W' _ => ⟨rfl, Bytes.nil W', Bytes.nil W'⟩) (fun W' hW' => hS W' (moves_steps (Steps.of_below hb) hG hW'))
    rw [Nat.zero_add] at this
    exact this
  have HH := Lib.hid h; have HB1 := Lib.hid hb1; have HG0 := Lib.hid g0; have HG1 := Lib.hid g1; have HW1 := Lib.hid hW1
  clear h hF hne hd ho hl hS hWs g0 g1 hb1 hW1
  generalize l.length = LL at *
  generalize cntS fr to op l = CN at *
  rw [HW1.out] at r0 r1 s0 s1 s2
  go_enter Tryz.func53, Tryz.ntmps53
  go_wp2_with fail
  rw [← HW1.out]
  refine HEM.out.mono ?_
  rintro e w2 ⟨rfl, hb2⟩
  clear r0 r1 s0 s1 s2
  have q0 := (hb2.block _ (Array.getElem?_eq_some_iff.1 HG0.out).1).trans HG0.out
  have q1 := (hb2.block _ (Array.getElem?_eq_some_iff.1 HG1.out).1).trans HG1.out
  have s0 := cells_of q1 0; have s1 := cells_of q1 1; have s2 := cells_of q1 2
  simp only [List.getElem?_toArray, List.getElem?_cons_zero, List.getElem?_cons_succ] at s0 s1 s2
  obtain ⟨W3, hW3⟩ : ∃ W3, W3 = w2.alloc (.cells #[.pointer (some ⟨g, 0, none⟩), .slice fp fn fc, .slice tp tn tc, .bool op, .int .u64 0, .int .i64 0] 178) := ⟨_, rfl⟩
  have hb3 : Below w2.heap.size w2 W3 := by rw [hW3]; exact (Below.refl _ _).alloc (Nat.le_refl _) _
  have hc3 : CtAt W3 w2.heap.size g (.slice fp fn fc) (.slice tp tn tc) op 0 := by rw [hW3]; exact heap_alloc_new w2 _
  have hz3 : w2.heap.size < W3.heap.size := by rw [hW3]; simp
  have hbw2 := HB1.out.trans (hb2.mono HB1.out.size)
  have hbw3 := hbw2.trans (hb3.mono hbw2.size)
  have q03 := (hb3.block _ (Array.getElem?_eq_some_iff.1 q0).1).trans q0
  have KC : Hid (∀ Wx, Below W3.heap.size W3 Wx → Below w.heap.size w Wx ∧ w2.heap.size < Wx.heap.size ∧ CtAt Wx w2.heap.size g (.slice fp fn fc) (.slice tp tn tc) op 0 ∧ Wx.heap[w.heap.size]? = some (.cells #[.int .i64 off, .int .u64 (ct : Nat)] 25 (0, 0))) := fun Wx hx =>
    ⟨hbw3.trans (hx.mono hbw3.size), Nat.lt_of_lt_of_le hz3 hx.size, (hx.block _ hz3).trans hc3, (hx.block _ (Array.getElem?_eq_some_iff.1 q03).1).trans q03⟩
  have HZ2 : Hid (w.heap.size ≤ w2.heap.size) := hbw2.size
  have HW3 := Lib.hid hW3
  clear hb2 q0 q1 hb3 hc3 hz3 hbw2 hbw3 q03 hW3 HEM HG0 HG1
  go_wp2_with fail
  rw [← HW3.out]
  clear s0 s1 s2
  apply share
  · intro HTT
    have HD : Hid (Below W3.heap.size W3 W3.drew) := (Below.refl _ _).drew
    obtain ⟨-, -, -, kd⟩ := KC.out _ HD.out
    have r0 := cells_of kd 0; have r1 := cells_of kd 1
    simp only [List.getElem?_toArray, List.getElem?_cons_zero, List.getElem?_cons_succ] at r0 r1
    clear kd
    go_region_law (first
      | (go_simp; go_at_call 43; (with_reducible refine (HRT.out _).mono ?_); rintro e4 w4 ⟨rfl, b4⟩
         have HB4 := Lib.hid (HD.out.trans (b4.mono HD.out.size))
         obtain ⟨-, -, -, k4⟩ := KC.out _ HB4.out
         have t0 := cells_of k4 0; have t1 := cells_of k4 1
         simp only [List.getElem?_toArray, List.getElem?_cons_zero, List.getElem?_cons_succ] at t0 t1
         clear b4 k4)
      | (go_simp; go_at_call 94; (with_reducible refine (HOV.out _ _ (KC.out _ HB4.out).1 HZ2.out (KC.out _ HB4.out).2.1 (KC.out _ HB4.out).2.2.1).mono ?_); rintro e5 w5 ⟨o5, h51, h52, hm5, ht5, rfl, hc5⟩
         have HS5 := Lib.hid (moves_steps (Steps.of_below (KC.out _ HB4.out).1) HZ2.out hm5)
         have HT5 := Lib.hid ht5; have HC5 := Lib.hid hc5; have HO5 : Hid (o ≤ o5 ∧ o5 ≤ o + 2 * LL) := ⟨h51, by omega⟩
         clear h51 h52 hm5 ht5 hc5))
    all_goals
      clear r0 r1 t0 t1 HB4 w4 HD
      revert HS5 HT5 HC5 HO5
      revert w5 o5
      exact HTT
  · intro w5 o5 HS5 HT5 HC5 HO5
    clear KC HOV HRT HZ2 HW3
    obtain ⟨-, -, -, -, c4, c5⟩ := HC5.out.cells
    have HF : Hid (RkTold F W g a o own CN LL w (.returned (.tuple #[.int .u64 (CN : Nat), .int .i64 0])) w5) := ⟨o5, HO5.out.1, HO5.out.2, HS5.out, HT5.out, rfl⟩
    clear HC5 HS5 HT5 HO5
    go_wp2
    go_ret2
    exact HF.out
end Go.Proofs.YtlagllhhahomlaaGreat.Sl.Nd
/- Ranks in a program: Between, Below; At of a single leaf. -/
namespace Go.Proofs.YtlagllhhahomlaaGreat.Sl.Nd
open Go Go.RowKit Go.By
theorem Bytes.len_of {w : World} {p : Option Addr} {n c : Nat} {l : List Nat} (h : Bytes w (.slice p n c) l) : n = l.length := by
  obtain ⟨q, d, e, -⟩ := h.any
  cases e
  rfl
set_option maxRecDepth 100000 in
set_option maxHeartbeats 1000000 in
theorem rkBetween_any {F : FS} {W w : World} {g a o : Nat} {own : Own} (h : Tf F W g a o own w) (hF : F.Ok) {off : Int} {ct : Nat} {l : List NIt} {hh : Nat} (hne : ¬ (off = 0 ∧ ct = 0)) (hd : docT F.K 22 off ct true = some (l, hh)) (ho : o + 2 * l.length + 22 < 4611686018427387904) (hl : l.length < 4611686018427387904)
    {fp tp : Option Addr} {fn fc tn tc : Nat} {fr to : List Nat} (hS : ∀ W', Steps own own w W' → SpAt W' (.slice fp fn fc) (.slice tp tn tc) fr to) :
    Calls Tryz.prog 29 #[.pointer (some ⟨g, 0, none⟩), .agg #[.int .i64 off, .int .u64 (ct : Nat)], .slice fp fn fc, .slice tp tn tc] w (RkTold F W g a o own (cntS fr to (decide (to.length = 0)) l) l.length w) := by
  have htn : tn = to.length := Bytes.len_of (hS w (Steps.refl _ _)).to
  obtain ⟨W1, hW1⟩ : ∃ W1, W1 = w.alloc (.cells #[.int .i64 off, .int .u64 (ct : Nat)] 25) := ⟨_, rfl⟩
  have hb1 : Below w.heap.size w W1 := by rw [hW1]; exact (Below.refl _ _).alloc (Nat.le_refl _) _
  have g0 : W1.heap[w.heap.size]? = some (.cells #[.int .i64 off, .int .u64 (ct : Nat)] 25 (0, 0)) := by rw [hW1]; exact heap_alloc_new w _
  have HBT := Lib.hid (fun Wx => between_any Wx fp fn fc tp tn tc)
  have HCD : Hid (∀ Wx, Below W1.heap.size W1 Wx → Calls Tryz.prog 53 #[.pointer (some ⟨g, 0, none⟩), .agg #[.int .i64 off, .int .u64 (ct : Nat)], .agg #[.slice fp fn fc, .slice tp tn tc, .bool (decide (tn = 0))]] Wx (RkTold F W g a o own (cntS fr to (decide (tn = 0)) l) l.length w)) := fun Wx hx => by
    have hbx := hb1.trans (hx.mono hb1.size)
    refine (counted_any (h.stay hbx) hF hne hd ho hl (decide (tn = 0)) (fun W' hW' => hS W' ((Steps.of_below hbx).trans hW'))).mono ?_
    rintro e w' ⟨o', q1, q2, q3, q4, q5⟩
    exact ⟨o', q1, q2, (Steps.of_below hbx).trans q3, q4, q5⟩
  have HG0 := Lib.hid g0; have HW1 := Lib.hid hW1
  rw [← htn]
  clear h hF hne hd ho hl hS htn hb1 g0 hW1
  generalize cntS fr to (decide (tn = 0)) l = CN at *
  generalize l.length = LL at *
  generalize decide (tn = 0) = OP at *
  go_enter Tryz.func29, Tryz.ntmps29
  go_wp2_with fail
  rw [← HW1.out]
  apply share
  · intro HTT
    have HD : Hid (Below W1.heap.size W1 W1.drew) := (Below.refl _ _).drew
    have kd := (HD.out.block _ (Array.getElem?_eq_some_iff.1 HG0.out).1).trans HG0.out
    have r0 := cells_of kd 0; have r1 := cells_of kd 1
    simp only [List.getElem?_toArray, List.getElem?_cons_zero, List.getElem?_cons_succ] at r0 r1
    clear kd
    go_region_law (first
      | (go_simp; go_at_call 54; (with_reducible refine (HBT.out _).mono ?_); rintro e4 w4 ⟨rfl, b4⟩
         have HB4 := Lib.hid (HD.out.trans (b4.mono HD.out.size))
         have k4 := (HB4.out.block _ (Array.getElem?_eq_some_iff.1 HG0.out).1).trans HG0.out
         have t0 := cells_of k4 0; have t1 := cells_of k4 1
         simp only [List.getElem?_toArray, List.getElem?_cons_zero, List.getElem?_cons_succ] at t0 t1
         clear b4 k4)
      | (go_simp; go_at_call 53; (with_reducible refine (HCD.out _ HB4.out).mono ?_); rintro e5 w5 ⟨o5, h51, h52, hs5, ht5, rfl⟩
         have HF : Hid (RkTold F W g a o own CN LL w (.returned (.tuple #[.int .u64 (CN : Nat), .int .i64 0])) w5) := ⟨o5, h51, h52, hs5, ht5, rfl⟩
         clear h51 h52 hs5 ht5))
    all_goals
      clear r0 r1 t0 t1 HB4 w4 HD o5
      revert HF
      revert w5
      exact HTT
  · intro w5 HF
    go_wp2
    go_ret2
    exact HF.out
set_option maxRecDepth 100000 in
set_option maxHeartbeats 1000000 in
theorem rkBelow_any {F : FS} {W w : World} {g a o : Nat} {own : Own} (h : Tf F W g a o own w) (hF : F.Ok) {off : Int} {ct : Nat} {l : List NIt} {hh : Nat} (hne : ¬ (off = 0 ∧ ct = 0)) (hd : docT F.K 22 off ct true = some (l, hh)) (ho : o + 2 * l.length + 22 < 4611686018427387904) (hl : l.length < 4611686018427387904)
    {tp : Option Addr} {tn tc : Nat} {to : List Nat} (hS : ∀ W', Steps own own w W' → Bytes W' (.slice tp tn tc) to) :
    Calls Tryz.prog 51 #[.pointer (some ⟨g, 0, none⟩), .agg #[.int .i64 off, .int .u64 (ct : Nat)], .slice tp tn tc] w (RkTold F W g a o own (cntS [] to false l) l.length w) := by
  obtain ⟨W1, hW1⟩ : ∃ W1, W1 = w.alloc (.cells #[.int .i64 off, .int .u64 (ct : Nat)] 25) := ⟨_, rfl⟩
  have hb1 : Below w.heap.size w W1 := by rw [hW1]; exact (Below.refl _ _).alloc (Nat.le_refl _) _
  have g0 : W1.heap[w.heap.size]? = some (.cells #[.int .i64 off, .int .u64 (ct : Nat)] 25 (0, 0)) := by rw [hW1]; exact heap_alloc_new w _
  have HBT := Lib.hid (fun Wx => spBelow_any Wx tp tn tc)
  have HCD : Hid (∀ Wx, Below W1.heap.size W1 Wx → Calls Tryz.prog 53 #[.pointer (some ⟨g, 0, none⟩), .agg #[.int .i64 off, .int .u64 (ct : Nat)], .agg #[.slice none 0 0, .slice tp tn tc, .bool false]] Wx (RkTold F W g a o own (cntS [] to false l) l.length w)) := fun Wx hx => by
    have hbx := hb1.trans (hx.mono hb1.size)
    refine (counted_any (h.stay hbx) hF hne hd ho hl false (fun W' hW' => ⟨Bytes.nil W', hS W' ((Steps.of_below hbx).trans hW')⟩)).mono ?_
    rintro e w' ⟨o', q1, q2, q3, q4, q5⟩
    exact ⟨o', q1, q2, (Steps.of_below hbx).trans q3, q4, q5⟩
  have HG0 := Lib.hid g0; have HW1 := Lib.hid hW1
  clear h hF hne hd ho hl hS hb1 g0 hW1
  generalize cntS [] to false l = CN at *
  generalize l.length = LL at *
  go_enter Tryz.func51, Tryz.ntmps51
  go_wp2_with fail
  rw [← HW1.out]
  apply share
  · intro HTT
    have HD : Hid (Below W1.heap.size W1 W1.drew) := (Below.refl _ _).drew
    have kd := (HD.out.block _ (Array.getElem?_eq_some_iff.1 HG0.out).1).trans HG0.out
    have r0 := cells_of kd 0; have r1 := cells_of kd 1
    simp only [List.getElem?_toArray, List.getElem?_cons_zero, List.getElem?_cons_succ] at r0 r1
    clear kd
    go_region_law (first
      | (go_simp; go_at_call 92; (with_reducible refine (HBT.out _).mono ?_); rintro e4 w4 ⟨rfl, b4⟩
         have HB4 := Lib.hid (HD.out.trans (b4.mono HD.out.size))
         have k4 := (HB4.out.block _ (Array.getElem?_eq_some_iff.1 HG0.out).1).trans HG0.out
         have t0 := cells_of k4 0; have t1 := cells_of k4 1
         simp only [List.getElem?_toArray, List.getElem?_cons_zero, List.getElem?_cons_succ] at t0 t1
         clear b4 k4)
      | (go_simp; go_at_call 53; (with_reducible refine (HCD.out _ HB4.out).mono ?_); rintro e5 w5 ⟨o5, h51, h52, hs5, ht5, rfl⟩
         have HF : Hid (RkTold F W g a o own CN LL w (.returned (.tuple #[.int .u64 (CN : Nat), .int .i64 0])) w5) := ⟨o5, h51, h52, hs5, ht5, rfl⟩
         clear h51 h52 hs5 ht5))
    all_goals
      clear r0 r1 t0 t1 HB4 w4 HD o5
      revert HF
      revert w5
      exact HTT
  · intro w5 HF
    go_wp2
    go_ret2
    exact HF.out
theorem results_cell_tmp2 {fn : Func} {p u v : Tmp} {ty : TypeId} (h : fn.results = #[.cell p ty, .tmp u, .tmp v]) (tmps : Array Value) (P : Program) (w : World) :
    (results fn tmps).run P w =
      ((asAddr (tmps.getD p undef)).run P w).andThen fun a w₁ => ((loadVar ty a).run P w₁).andThen fun x w₂ => .ok (.tuple #[x, tmps.getD u undef, tmps.getD v undef]) w₂ := by
  simp only [results, h]
  simp [Sem.run_bind, Result.andThen]
theorem cell_ret3 {P : Program} {fn : Func} {p u v : Tmp} {ty : TypeId} {n : Nat} (hr : fn.results = #[.cell p ty, .tmp u, .tmp v]) (hi0 : (P.info? ty).map (·.size) = some n)
    (hq : (P.underlying ty).map (fun d => match d with | .struct _ | .array _ _ => true | _ => false) = some true) {tmps : Array Value} {w : World} {A : Nat} {cs : Array Value} {x y : Value} (hp : tmps.getD p undef = .pointer (some ⟨A, 0, none⟩)) (hx : tmps.getD u undef = x) (hy : tmps.getD v undef = y)
    (hg : w.heap[A]? = some (.cells cs ty (0, 0))) (hc : cs.size = n) : (results fn tmps).run P w = .ok (.tuple #[.agg cs, x, y]) w := by
  have hi : (P.info? ty).map (·.size) = some cs.size := by rw [hc]; exact hi0
  obtain ⟨d, hu, hd⟩ := Option.map_eq_some_iff.1 hq
  rw [results_cell_tmp2 hr, hp, hx, hy]
  have := run_loadVar_row (P := P) w A ty ty cs (0, 0) d hg hu (by cases d <;> simp_all) hi
  simp [asAddr, this, Result.andThen]
def LfTold (F : FS) (W : World) (g a o : Nat) (own : Own) (i : NIt) (w : World) (z : Ending) (w' : World) : Prop :=
  ∃ o' x y, o ≤ o' ∧ o' ≤ o + 1 ∧ Steps own own w w' ∧ Tf F W g a o' own w' ∧ z = .returned (.tuple #[.agg #[x, y], .bool true, .int .i64 0]) ∧ ∀ W', KeepNew own w w' W' → Bytes W' x i.k ∧ Bytes W' y i.v
set_option maxRecDepth 100000 in
set_option maxHeartbeats 2000000 in
theorem under_leaf {F : FS} {W w : World} {g a o : Nat} {own : Own} (h : Tf F W g a o own w) (hF : F.Ok) (ho : o < 4611686018427387904) {off : Int} {ct : Nat} {n : Nd} (hn : nodeIn F.K off ct = some n) (hlf : n.leaf = true) (i : Nat) (hi : i < n.its.length) :
    Calls Tryz.prog 93 #[.pointer (some ⟨g, 0, none⟩), .agg #[.int .i64 off, .int .u64 (ct : Nat)], .int .u64 (i : Nat), .agg #[.int .i64 1, .slice none 0 0, .slice none 0 0]] w (LfTold F W g a o own n.its[i] w) := by
  have hm := (nodeOf_some (nodeIn_some hn).2.2).1
  have hL8 : n.its.length ≤ 8 := (may_lf hlf hm).1.2
  obtain ⟨W1, hW1⟩ : ∃ W1, W1 = ((w.alloc (.cells #[.int .i64 off, .int .u64 (ct : Nat)] 25)).alloc (.cells #[.int .i64 1, .slice none 0 0, .slice none 0 0] 100)).alloc (.cells #[.slice none 0 0, .slice none 0 0] 49) := ⟨_, rfl⟩
  have hWs : W1 = allocs w [.cells #[.int .i64 off, .int .u64 (ct : Nat)] 25, .cells #[.int .i64 1, .slice none 0 0, .slice none 0 0] 100, .cells #[.slice none 0 0, .slice none 0 0] 49] := hW1
  have g0 : W1.heap[w.heap.size]? = some (.cells #[.int .i64 off, .int .u64 (ct : Nat)] 25 (0, 0)) := by rw [hWs]; exact allocs_at (i := 0) rfl
  have g1 : W1.heap[w.heap.size + 1]? = some (.cells #[.int .i64 1, .slice none 0 0, .slice none 0 0] 100 (0, 0)) := by rw [hWs]; exact allocs_at (i := 1) rfl
  have g2 : W1.heap[w.heap.size + 2]? = some (.cells #[.slice none 0 0, .slice none 0 0] 49 (0, 0)) := by rw [hWs]; exact allocs_at (i := 2) rfl
  have hb1 : Below w.heap.size w W1 := by rw [hWs]; exact allocs_below _ _
  have hz1 : W1.heap.size = w.heap.size + 3 := by rw [hW1]; simp
  have r0 := cells_of g0 0; have r1 := cells_of g0 1
  have p0 := cells_of g1 0; have p1 := cells_of g1 1; have p2 := cells_of g1 2
  simp only [List.getElem?_toArray, List.getElem?_cons_zero, List.getElem?_cons_succ] at r0 r1 p0 p1 p2
  have HK : Hid (Calls Tryz.prog 72 #[.agg #[.int .i64 1, .slice none 0 0, .slice none 0 0], .pointer (some ⟨g, 0, none⟩), .agg #[.int .i64 off, .int .u64 (ct : Nat)]] W1 (KpTold F W g a o own n W1)) := by
    have := kept_any (h.stay hb1) hF ho off ct 1 (by decide) (va := .slice none 0 0) (vb := .slice none 0 0) (least := []) (bound := []) (fun W' _ => ⟨rfl, Bytes.nil W', Bytes.nil W'⟩)
    rw [keptIn_some (n := n) (by rw [if_neg (by decide)]; exact hn), if_pos (by rfl)] at this
    exact this.mono fun e w' => kp_told
  have HH := Lib.hid h; have HB1 := Lib.hid hb1; have HG2 := Lib.hid g2; have HW1 := Lib.hid hW1; have HZ1 := Lib.hid hz1
  have hL8i : (n.its.length : Int) ≤ 8 := by omega
  have hii : (i : Int) < n.its.length := by omega
  have hwi : IntKind.u64.wrap ((n.its.length : Nat) : Int) = (n.its.length : Nat) := by rw [IntKind.wrap_u64]; omega
  rw [hW1] at r0 r1 p0 p1 p2
  clear h hF ho hn hm hlf hL8 hWs g0 g1 g2 hb1 hW1 hz1
  go_enter Tryz.func93, Tryz.ntmps93
  go_wp2_with fail
  rw [← HW1.out]
  refine HK.out.mono ?_
  rintro e w2 ⟨pi, ci, pk, ck, pd, cd, o2, rfl, ho2, hs2, ht2, hown2, hnd2⟩
  clear r0 r1 p0 p1 p2 HK
  obtain ⟨W3, hW3⟩ : ∃ W3, W3 = w2.alloc (.cells #[.bool n.leaf, .slice pi n.its.length ci, .slice pk n.ks.length ck, .slice pd n.kids.length cd] 38) := ⟨_, rfl⟩
  have hb3 : Below w2.heap.size w2 W3 := by rw [hW3]; exact (Below.refl _ _).alloc (Nat.le_refl _) _
  have hat : NdAt W3 w2.heap.size n pi ci pk ck pd cd := by rw [hW3]; exact NdAt.new ..
  have hnn : own (w.heap.size + 2) = none := HH.out.disk.new_none (by omega)
  have hg3 : W3.heap[w.heap.size + 2]? = some (.cells #[.slice none 0 0, .slice none 0 0] 49 (0, 0)) := (hb3.block _ (Nat.lt_of_lt_of_le (Array.getElem?_eq_some_iff.1 HG2.out).1 hs2.size)).trans ((hs2.block _ (Array.getElem?_eq_some_iff.1 HG2.out).1 (.inl hnn)).trans HG2.out)
  obtain ⟨n0, n1, n2, n3⟩ := hat.cells
  obtain ⟨lb, lo, cs, rfl, hcc, xa, xb, rfl, hka, hkb⟩ := (hnd2 W3 (KeepNew.steps (Steps.of_below hb3))).its.at_ i hi
  obtain ⟨e0, e1⟩ := hcc.two
  simp only [KItem] at e0 e1
  obtain ⟨qk, dk, rfl, -⟩ := hka.any
  obtain ⟨qv, dv, rfl, -⟩ := hkb.any
  have a0 := cells_of hg3 0; have a1 := cells_of hg3 1
  have f0 := free_of hg3 0; have f1 := free_of hg3 1
  simp only [List.getElem?_toArray, List.getElem?_cons_zero, List.getElem?_cons_succ] at a0 a1
  have HX := Lib.hid (two_set (a := .slice qk n.its[i].k.length dk) (b := .slice qv n.its[i].v.length dv) hg3)
  have HF : Hid (LfTold F W g a o own n.its[i] w (.returned (.tuple #[.agg #[.slice qk n.its[i].k.length dk, .slice qv n.its[i].v.length dv], .bool true, .int .i64 0])) ((W3.setCell ⟨w.heap.size + 2, 0, none⟩ (.slice qk n.its[i].k.length dk)).setCell ⟨w.heap.size + 2, 1, none⟩ (.slice qv n.its[i].v.length dv))) := by
    have hs3 : Steps own own w W3 := (Steps.of_below HB1.out).trans (hs2.trans (Steps.of_below hb3))
    have hWl : W.heap.size ≤ w.heap.size + 2 := by have := HH.out.disk.below.size; omega
    have hgne : g ≠ w.heap.size + 2 := by have := HH.out.file.lt; omega
    refine ⟨o2, _, _, ho2.1, ho2.2, steps_set_new (steps_set_new hs3 (by omega) 0 _) (by omega) 1 _, ((ht2.stay hb3).set hnn hWl hgne 0 _).set hnn hWl hgne 1 _, rfl, fun W' hW' => ?_⟩
    have hnd : IsNd W' _ n _ ci pk ck pd cd := hnd2 W' fun k hk1 hk2 hko => by
      have hz := HZ1.out
      rw [hW' k (by omega) (by simp [World.setCell]; have := hb3.size; omega) hko, Below.heap_setCell _ _ _ _ (by show k ≠ w.heap.size + 2; omega), Below.heap_setCell _ _ _ _ (by show k ≠ w.heap.size + 2; omega)]
      exact hb3.block k hk2
    obtain ⟨lb', lo', cs', e', hcc', xa', xb', rfl, hka', hkb'⟩ := hnd.its.at_ i hi
    cases e'
    obtain ⟨e0', e1'⟩ := hcc'.two
    simp only [KItem] at e0' e1'
    have hlb : lb < W3.heap.size := block_lt_of_cell e0
    have hown := hown2 lb (.inr (.inl rfl))
    have hblk : W'.heap[lb]? = W3.heap[lb]? := by
      have hz := HZ1.out
      rw [hW' lb (by omega) (by simpa [World.setCell] using hlb) hown.1, Below.heap_setCell _ _ _ _ (by show lb ≠ w.heap.size + 2; omega), Below.heap_setCell _ _ _ _ (by show lb ≠ w.heap.size + 2; omega)]
    rw [cell_eq hblk, e0] at e0'
    rw [cell_eq hblk, e1] at e1'
    cases e0'; cases e1'
    exact ⟨hka', hkb'⟩
  have HW3 := Lib.hid hW3
  rw [hW3] at n0 n1 n2 n3 e0 e1 a0 a1 f0 f1
  generalize n.its[i].k.length = l1 at *
  generalize n.its[i].v.length = l2 at *
  clear ho2 hs2 ht2 hown2 hnd2 hb3 hat hnn hg3 hcc hka hkb hW3 HG2
  go_wp2
  rw [← HW3.out]
  exact bodyPost_ret (cell_ret3 (p := 8) (u := 9) (v := 10) (x := .bool true) (y := .int .i64 0) (ty := 49) (n := 2) (by kernel_rfl) (by kernel_rfl) (by kernel_rfl) rfl rfl rfl HX.out rfl) rfl HF.out
set_option maxRecDepth 100000 in
set_option maxHeartbeats 2000000 in
theorem at_leaf {F : FS} {W w : World} {g a o : Nat} {own : Own} (h : Tf F W g a o own w) (hF : F.Ok) (ho : o < 4611686018427387904) {off : Int} {ct : Nat} {n : Nd} (hne : ¬ (off = 0 ∧ ct = 0)) (hn : nodeIn F.K off ct = some n) (hlf : n.leaf = true) (i : Nat) (hi : i < n.its.length) :
    Calls Tryz.prog 52 #[.pointer (some ⟨g, 0, none⟩), .agg #[.int .i64 off, .int .u64 (ct : Nat)], .int .u64 (i : Nat)] w (LfTold F W g a o own n.its[i] w) := by
  obtain ⟨W1, hW1⟩ : ∃ W1, W1 = (w.alloc (.cells #[.int .i64 off, .int .u64 (ct : Nat)] 25)).alloc (.cells #[.slice none 0 0, .slice none 0 0] 49) := ⟨_, rfl⟩
  have hWs : W1 = allocs w [.cells #[.int .i64 off, .int .u64 (ct : Nat)] 25, .cells #[.slice none 0 0, .slice none 0 0] 49] := hW1
  have g0 : W1.heap[w.heap.size]? = some (.cells #[.int .i64 off, .int .u64 (ct : Nat)] 25 (0, 0)) := by rw [hWs]; exact allocs_at (i := 0) rfl
  have g1 : W1.heap[w.heap.size + 1]? = some (.cells #[.slice none 0 0, .slice none 0 0] 49 (0, 0)) := by rw [hWs]; exact allocs_at (i := 1) rfl
  have hb1 : Below w.heap.size w W1 := by rw [hWs]; exact allocs_below _ _
  have hz1 : W1.heap.size = w.heap.size + 2 := by rw [hW1]; simp
  have r0 := cells_of g0 0; have r1 := cells_of g0 1
  simp only [List.getElem?_toArray, List.getElem?_cons_zero, List.getElem?_cons_succ] at r0 r1
  have HEM : Hid (Calls Tryz.prog 41 #[.agg #[.int .i64 off, .int .u64 (ct : Nat)]] W1 fun e w' => e = .returned (.bool false) ∧ Below W1.heap.size W1 w') := by
    have := isEmpty_any off ct W1
    rw [decide_eq_false hne] at this
    exact this
  have HRT := Lib.hid root_any
  have hnn : own (w.heap.size + 1) = none := h.disk.new_none (by omega)
  obtain ⟨IT, hIT⟩ : ∃ x, x = n.its[i] := ⟨_, rfl⟩
  have HUN : Hid (∀ Wx, Below W1.heap.size W1 Wx → Calls Tryz.prog 93 #[.pointer (some ⟨g, 0, none⟩), .agg #[.int .i64 off, .int .u64 (ct : Nat)], .int .u64 (i : Nat), .agg #[.int .i64 1, .slice none 0 0, .slice none 0 0]] Wx (fun e w' => ∃ o' px nx cx py ny cy, (o ≤ o' ∧ o' ≤ o + 1) ∧ e = .returned (.tuple #[.agg #[.slice px nx cx, .slice py ny cy], .bool true, .int .i64 0]) ∧ w'.heap[w.heap.size + 1]? = some (.cells #[.slice none 0 0, .slice none 0 0] 49 (0, 0)) ∧ ∀ a1 b1, LfTold F W g a o own IT w e ((w'.setCell ⟨w.heap.size + 1, 0, none⟩ a1).setCell ⟨w.heap.size + 1, 1, none⟩ b1))) := fun Wx hx => by
    have hbx := hb1.trans (hx.mono hb1.size)
    refine (under_leaf (h.stay hbx) hF ho hn hlf i hi).mono ?_
    rintro e w' ⟨o', x, y, h1, h2, h3, h4, rfl, h6⟩
    have hwx : w.heap.size + 1 < Wx.heap.size := by have := hx.size; omega
    have hg' : w'.heap[w.heap.size + 1]? = some (.cells #[.slice none 0 0, .slice none 0 0] 49 (0, 0)) := (h3.block _ hwx (.inl hnn)).trans ((hx.block _ (by omega)).trans g1)
    obtain ⟨hk, hv⟩ := h6 w' (fun k _ _ _ => rfl)
    obtain ⟨px, cx, rfl, -⟩ := hk.any
    obtain ⟨py, cy, rfl, -⟩ := hv.any
    have hWl : W.heap.size ≤ w.heap.size + 1 := by have := h.disk.below.size; omega
    have hgne : g ≠ w.heap.size + 1 := by have := h.file.lt; omega
    refine ⟨o', px, _, cx, py, _, cy, ⟨h1, h2⟩, rfl, hg', fun a1 b1 => ⟨o', _, _, h1, h2, steps_set_new (steps_set_new ((Steps.of_below hbx).trans h3) (by omega) 0 _) (by omega) 1 _, (h4.set hnn hWl hgne 0 _).set hnn hWl hgne 1 _, rfl, fun W' hW' => ?_⟩⟩
    rw [hIT]
    exact h6 W' fun k hk1 hk2 hko => by
      rw [hW' k (by have := hbx.size; omega) (by simpa [World.setCell] using hk2) hko, Below.heap_setCell _ _ _ _ (by show k ≠ w.heap.size + 1; omega), Below.heap_setCell _ _ _ _ (by show k ≠ w.heap.size + 1; omega)]
  have HG0 := Lib.hid g0; have HW1 := Lib.hid hW1; have HIT := Lib.hid hIT
  rw [← hIT]
  rw [hW1] at r0 r1
  clear h hF ho hne hn hlf hWs g0 g1 hb1 hz1 hW1 hnn hIT
  go_enter Tryz.func52, Tryz.ntmps52
  go_wp2_with fail
  rw [← HW1.out]
  refine HEM.out.mono ?_
  rintro e w2 ⟨rfl, hb2⟩
  have HB2 := Lib.hid hb2
  clear r0 r1 hb2 HEM
  go_wp2_with fail
  apply share
  · intro HTT
    have HD : Hid (Below W1.heap.size W1 w2.drew) := HB2.out.drew
    have kd := (HD.out.block _ (Array.getElem?_eq_some_iff.1 HG0.out).1).trans HG0.out
    have r0 := cells_of kd 0; have r1 := cells_of kd 1
    simp only [List.getElem?_toArray, List.getElem?_cons_zero, List.getElem?_cons_succ] at r0 r1
    clear kd
    go_region_law (first
      | (go_simp; go_at_call 43; (with_reducible refine (HRT.out _).mono ?_); rintro e4 w4 ⟨rfl, b4⟩
         have HB4 := Lib.hid (HD.out.trans (b4.mono HD.out.size))
         have k4 := (HB4.out.block _ (Array.getElem?_eq_some_iff.1 HG0.out).1).trans HG0.out
         have t0 := cells_of k4 0; have t1 := cells_of k4 1
         simp only [List.getElem?_toArray, List.getElem?_cons_zero, List.getElem?_cons_succ] at t0 t1
         clear b4 k4)
      | (go_simp; go_at_call 93; (with_reducible refine (HUN.out _ HB4.out).mono ?_); rintro e5 w5 ⟨o5, px, nx, cx, py, ny, cy, -, rfl, hg5, hF5⟩
         have a0 := cells_of hg5 0; have a1 := cells_of hg5 1
         have f0 := free_of hg5 0; have f1 := free_of hg5 1
         simp only [List.getElem?_toArray, List.getElem?_cons_zero, List.getElem?_cons_succ] at a0 a1
         have HX := Lib.hid (two_set (a := .slice px nx cx) (b := .slice py ny cy) hg5)
         have HF := Lib.hid (hF5 (.slice px nx cx) (.slice py ny cy))
         clear hg5 hF5))
    all_goals
      clear r0 r1 t0 t1 HB4 w4 HD a0 a1 f0 f1 o5
      revert HX HF
      revert cy ny py cx nx px w5
      exact HTT
  · intro w5 px nx cx py ny cy HX HF
    go_wp2
    exact bodyPost_ret (cell_ret3 (p := 6) (u := 7) (v := 8) (x := .bool true) (y := .int .i64 0) (ty := 49) (n := 2) (by kernel_rfl) (by kernel_rfl) (by kernel_rfl) rfl rfl rfl HX.out rfl) rfl HF.out
end Go.Proofs.YtlagllhhahomlaaGreat.Sl.Nd
