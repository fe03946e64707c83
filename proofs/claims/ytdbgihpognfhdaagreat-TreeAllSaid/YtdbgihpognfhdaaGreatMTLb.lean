/- Trees in a program: a node is read. -/
import Derived.Test.YtdbgihpognfhdaaGreatMTrD
import Derived.Test.YtdbgihpognfhdaaGreatMPlK
import Derived.Test.YtdbgihpognfhdaaGreatMTrW
import Derived.Test.YtdbgihpognfhdaaGreatMCmpM
import Derived.Deep.RegionHeld3
import Derived.Test.YtdbgihpognfhdaaGreatMFlM
namespace Go.By
open Go Go.RowKit
theorem rdAt_err (K : List Nat) (off : Int) : (rdAt K off).2.2 = 0 ∨ (rdAt K off).2.2 = 2 := by
  unfold rdAt
  split
  · exact .inr rfl
  · split
    · exact .inl rfl
    · exact .inr rfl
theorem rdAt_kind {K : List Nat} (hK : ∀ c ∈ K, c < 256) (off : Int) : (rdAt K off).1 < 256 := by
  unfold rdAt
  split
  · decide
  · split
    · show atB _ 4 < 256
      unfold atB
      rw [List.getD_eq_getElem?_getD]
      cases h : (K.drop off.toNat)[4]? with
      | none => decide
      | some c => exact hK c (List.mem_of_mem_drop (List.mem_of_getElem? h))
    · decide
end Go.By
namespace Go.Proofs.YtdbgihpognfhdaaGreat.Sl.Nd
open Go Go.RowKit Go.By
theorem takeNd_may {l : List Nat} {n : Nd} (h : takeNd l = some n) : mayNd n = true := by
  have told : ∀ {a : Nd} {s : List Nat}, ndTold a s = some n → mayNd n = true := fun {a s} h => by
    cases s with
    | nil =>
      have h' : (if mayNd a = true then some a else none) = some n := h
      split at h'
      · cases h'; assumption
      · cases h'
    | cons _ _ => cases h
  match l, h with
  | [], h => cases h
  | [_], h => cases h
  | k :: c :: r, ht =>
    unfold takeNd at ht
    dsimp only at ht
    split at ht
    · unfold ndBody at ht
      rw [if_pos rfl] at ht
      cases hp : pMany pIt c r with
      | none => rw [hp] at ht; cases ht
      | some x => rw [hp] at ht; exact told ht
    · split at ht
      · unfold ndBody at ht
        rw [if_neg (by decide)] at ht
        cases hp : pMany pKd c r with
        | none => rw [hp] at ht; cases ht
        | some x => rw [hp] at ht; exact told ht
      · cases ht
theorem cnt_cntN (n : Nd) : cnt n = cntN n := by
  have : ∀ l : List NKd, sumCt l = sumK l := by
    intro l
    induction l with
    | nil => rfl
    | cons d r ih => rw [sumCt, sumK, ih]
  unfold cnt cntN
  rw [this]
theorem sum_may {n : Nd} (hm : mayNd n = true) : sumCt n.kids ≤ 8796093022208 := by
  have h : ∀ (l : List NKd), (∀ d ∈ l, mayKd d = true) → sumCt l ≤ l.length * 1099511627776 := by
    intro l
    induction l with
    | nil => intro _; simp [sumCt]
    | cons d r ih =>
      intro h
      have := ih (fun x hx => h x (List.mem_cons_of_mem _ hx))
      have h2 := ((mayKd_iff d).1 (h d List.mem_cons_self)).2.2
      rw [sumCt, List.length_cons]; omega
  cases hl : n.leaf with
  | true => rw [(may_lf hl hm).2.2.2.2]; simp [sumCt]
  | false =>
    obtain ⟨h1, _, _, _, h5, _⟩ := may_in hl hm
    have := h n.kids h5
    omega
theorem steps_set_new {own own' : Own} {w w' : World} (h : Steps own own' w w') {b : Nat} (hb : w.heap.size ≤ b) (i : Nat) (v : Value) : Steps own own' w (w'.setCell ⟨b, i, none⟩ v) :=
  ⟨h.os, h.tape, h.output, by have := h.size; simpa [World.setCell] using this, fun k hk ho => (Below.heap_setCell _ _ _ _ (by show k ≠ b; omega)).trans (h.block k hk ho), h.same⟩
theorem Tf.set {F : FS} {W w : World} {g a o : Nat} {own : Own} (h : Tf F W g a o own w) {b : Nat} (hn : own b = none) (hf : W.heap.size ≤ b) (hne : g ≠ b) (i : Nat) (v : Value) : Tf F W g a o own (w.setCell ⟨b, i, none⟩ v) :=
  ⟨h.disk.set hn hf i v, h.file.same (Below.heap_setCell _ _ _ _ hne)⟩
theorem rd_set {F : FS} {W w wz : World} {g a o o' b : Nat} {own : Own} (h0 : Tf F W g a o own w) (hS : Steps own own w wz) (hT : Tf F W g a o' own wz) (hb : w.heap.size ≤ b) (x0 x1 x2 x3 : Value) :
    Steps own own w ((((wz.setCell ⟨b, 0, none⟩ x0).setCell ⟨b, 1, none⟩ x1).setCell ⟨b, 2, none⟩ x2).setCell ⟨b, 3, none⟩ x3) ∧ Tf F W g a o' own ((((wz.setCell ⟨b, 0, none⟩ x0).setCell ⟨b, 1, none⟩ x1).setCell ⟨b, 2, none⟩ x2).setCell ⟨b, 3, none⟩ x3) := by
  have hn := h0.disk.new_none hb
  have hf : W.heap.size ≤ b := Nat.le_trans h0.disk.below.size hb
  have hne : g ≠ b := by have := h0.file.lt; omega
  exact ⟨steps_set_new (steps_set_new (steps_set_new (steps_set_new hS hb 0 x0) hb 1 x1) hb 2 x2) hb 3 x3, (((hT.set hn hf hne 0 x0).set hn hf hne 1 x1).set hn hf hne 2 x2).set hn hf hne 3 x3⟩
def RdNode (F : FS) (W : World) (g a o : Nat) (own : Own) (w : World) (r : Option Nd) (z : Ending) (w' : World) : Prop :=
  ∃ o', o ≤ o' ∧ o' ≤ o + 1 ∧ Steps own own w w' ∧ Tf F W g a o' own w' ∧ ((r = none ∧ z = .returned (.tuple #[.agg #[.bool false, .slice none 0 0, .slice none 0 0, .slice none 0 0], .int .i64 2])) ∨
    ∃ n pi ci pk ck pd cd, r = some n ∧ z = .returned (.tuple #[.agg #[.bool n.leaf, .slice pi n.its.length ci, .slice pk n.ks.length ck, .slice pd n.kids.length cd], .int .i64 0]) ∧ (∀ k, (Value.slice pk n.ks.length ck).ownBlock = some k ∨ (Value.slice pi n.its.length ci).ownBlock = some k ∨ (Value.slice pd n.kids.length cd).ownBlock = some k → own k = none) ∧ ∀ W' : World, Steps own own w' W' → IsNd W' (.agg #[.bool n.leaf, .slice pi n.its.length ci, .slice pk n.ks.length ck, .slice pd n.kids.length cd]) n pi ci pk ck pd cd)
theorem rd_ret {tmps : Array Value} {w : World} {A : Nat} {cs : Array Value} {x : Value} (hp : tmps.getD 6 undef = .pointer (some ⟨A, 0, none⟩)) (hx : tmps.getD 7 undef = x) (hg : w.heap[A]? = some (.cells cs 38 (0, 0))) (hc : cs.size = 4) :
    (results Tryz.f65 tmps).run Tryz.prog w = .ok (.tuple #[.agg cs, x]) w := by
  have hi : (Tryz.prog.info? 38).map (·.size) = some cs.size := by rw [hc]; kernel_rfl
  have hq : (Tryz.prog.underlying 38).map (fun d => match d with | .struct _ | .array _ _ => true | _ => false) = some true := by kernel_rfl
  obtain ⟨d, hu, hd⟩ := Option.map_eq_some_iff.1 hq
  rw [results_cell_tmp (p := 6) (u := 7) (ty := 38) (by kernel_rfl), hp, hx]
  have := run_loadVar_row (P := Tryz.prog) w A 38 38 cs (0, 0) d hg hu (by cases d <;> simp_all) hi
  simp [asAddr, this, Result.andThen]
set_option maxRecDepth 100000 in
set_option maxHeartbeats 4000000 in
theorem treeRead_any {F : FS} {W w : World} {g a o : Nat} {own : Own} (h : Tf F W g a o own w) (hF : F.Ok) (ho : o < 4611686018427387904) (off : Int) (ct deep : Nat) (hd : deep < 1000) (va vb : Value) :
    Calls Tryz.prog 65 #[.agg #[.int .i64 (deep : Nat), va, vb], .pointer (some ⟨g, 0, none⟩), .agg #[.int .i64 off, .int .u64 (ct : Nat)]] w (RdNode F W g a o own w (if 22 < deep then none else nodeIn F.K off ct)) := by
  obtain ⟨X, hX⟩ : ∃ X, X = (if 22 < deep then none else nodeIn F.K off ct) := ⟨_, rfl⟩
  rw [← hX]
  obtain ⟨W1, hW1⟩ : ∃ W1, W1 = ((w.alloc (.cells #[.int .i64 (deep : Nat), va, vb] 98)).alloc (.cells #[.int .i64 off, .int .u64 (ct : Nat)] 25)).alloc (.cells #[.bool false, .slice none 0 0, .slice none 0 0, .slice none 0 0] 38) := ⟨_, rfl⟩
  have hWs : W1 = allocs w [.cells #[.int .i64 (deep : Nat), va, vb] 98, .cells #[.int .i64 off, .int .u64 (ct : Nat)] 25, .cells #[.bool false, .slice none 0 0, .slice none 0 0, .slice none 0 0] 38] := hW1
  have g0 : W1.heap[w.heap.size + 1]? = some (.cells #[.int .i64 off, .int .u64 (ct : Nat)] 25 (0, 0)) := by rw [hWs]; exact allocs_at (i := 1) rfl
  have gp : W1.heap[w.heap.size]? = some (.cells #[.int .i64 (deep : Nat), va, vb] 98 (0, 0)) := by rw [hWs]; exact allocs_at (i := 0) rfl
  have g1 : AnsAt W1 (w.heap.size + 2) := by rw [hWs]; exact allocs_at (i := 2) rfl
  have hb1 : Below w.heap.size w W1 := by rw [hWs]; exact allocs_below _ _
  have hz1 : W1.heap.size = w.heap.size + 3 := by rw [hW1]; simp
  have hs1 : Steps own own w W1 := Steps.of_below hb1
  have r0 := cells_of g0 0
  have k0 := cells_of gp 0
  simp only [List.getElem?_toArray, List.getElem?_cons_zero] at r0 k0
  have HT1 := Lib.hid (h.stay hb1)
  have HRD := Lib.hid (fileRead_tf (h.stay hb1) hF ho off)
  have HD := Lib.hid h.disk
  have HS1 := Lib.hid hs1; have HG0 := Lib.hid g0; have HG1 := Lib.hid g1; have HW1 := Lib.hid hW1; have HZ1 := Lib.hid hz1; have HXX := Lib.hid hX
  have HSM := Lib.hid h.small; have HH0 := Lib.hid h
  by_cases hdeep : 22 < deep
  · have hd' : (22 : Int) < (deep : Int) := by omega
    have a0 := cells_of g1 0; have a1 := cells_of g1 1; have a2 := cells_of g1 2; have a3 := cells_of g1 3
    have q0 := free_of g1 0; have q1 := free_of g1 1; have q2 := free_of g1 2; have q3 := free_of g1 3
    have HF : Hid (RdNode F W g a o own w X (.returned (.tuple #[.agg #[.bool false, .slice none 0 0, .slice none 0 0, .slice none 0 0], .int .i64 2])) W1) := ⟨o, Nat.le_refl _, by omega, HS1.out, HT1.out, .inl ⟨by rw [HXX.out, if_pos hdeep], rfl⟩⟩
    clear h hF ho hX hW1 hWs g0 g1 gp hb1 hz1 hs1 hdeep
    go_enter Tryz.func65, Tryz.ntmps65
    go_wp2
    rw [← HW1.out]
    exact bodyPost_ret (rd_ret rfl rfl HG1.out rfl) rfl HF.out
  · have hd' : ¬ (22 : Int) < (deep : Int) := by omega
    have HX2 : Hid (X = nodeBy (rdAt F.K off) ct) := by unfold Hid; rw [HXX.out, if_neg hdeep, nodeIn_rd]
    clear h hF ho hX hW1 hWs g0 g1 gp hb1 hz1 hs1 hdeep
    have herr := rdAt_err F.K off
    have hkd := rdAt_kind HSM.out off
    obtain ⟨R, hR⟩ : ∃ R, R = rdAt F.K off := ⟨_, rfl⟩
    unfold RdFile at HRD
    rw [← hR] at HX2 herr hkd HRD
    clear hR
    obtain ⟨KD, BD, ER⟩ := R
    dsimp only at herr hkd HRD
    go_enter Tryz.func65, Tryz.ntmps65
    go_wp2_with fail
    rw [← HW1.out]
    refine HRD.out.mono ?_
    rintro e w2 ⟨p, c, o', ho1, ho2, rfl, hby, hst, htf⟩
    have HO : Hid (o ≤ o' ∧ o' ≤ o + 1) := ⟨ho1, ho2⟩
    have hkeep : ∀ k, w.heap.size ≤ k → k < w.heap.size + 3 → w2.heap[k]? = W1.heap[k]? := fun k hk hk2 => hst.block k (by rw [HZ1.out]; exact hk2) (.inl (HD.out.new_none hk))
    have hg0 := (hkeep _ (by omega) (by omega)).trans HG0.out
    have hg1 : AnsAt w2 (w.heap.size + 2) := (hkeep _ (by omega) (by omega)).trans HG1.out
    have HS2 : Hid (Steps own own w w2) := HS1.out.trans hst
    have HT2 := Lib.hid htf
    have HNN : Hid (∀ k, w2.heap.size ≤ k → own k = none) := fun k hk => htf.disk.new_none hk
    have HG02 := Lib.hid hg0; have HG12 := Lib.hid hg1
    have HTK := Lib.hid (take3_any _ BD w2 hby)
    clear ho1 ho2 hby hst htf hkeep hg0 hg1 k0 HRD HT1 HG0 HG1 HD HS1
    rcases herr with rfl | rfl
    · go_wp2_with fail
      refine HTK.out.mono ?_
      rintro e w3 ⟨⟨hno, rfl⟩ | ⟨n, pi, ci, pk, ck, pd, cd, hsome, rfl, hnd, hown, hstay⟩, hb3⟩
      · have HS3 : Hid (Steps own own w w3) := HS2.out.trans (Steps.of_below hb3)
        have HT3 := Lib.hid (HT2.out.stay hb3)
        have HG13 : Hid (AnsAt w3 (w.heap.size + 2)) := (hb3.block _ (Array.getElem?_eq_some_iff.1 HG12.out).1).trans HG12.out
        have HXN : Hid (X = none) := by
          unfold Hid
          have e := HX2.out
          unfold nodeBy at e
          dsimp only at e
          rw [hno] at e
          simpa using e
        obtain ⟨W3, hW3⟩ : ∃ W3, W3 = w3.alloc (.cells #[.bool false, .slice none 0 0, .slice none 0 0, .slice none 0 0] 38) := ⟨_, rfl⟩
        have hb4 : Below w3.heap.size w3 W3 := by rw [hW3]; exact (Below.refl _ _).alloc (Nat.le_refl _) _
        have HW3 := Lib.hid hW3
        have HANS : Hid (∀ wz, Below W3.heap.size W3 wz → AnsAt wz (w.heap.size + 2)) := fun wz hz => ((hb4.trans (hz.mono hb4.size)).block _ (Array.getElem?_eq_some_iff.1 HG13.out).1).trans HG13.out
        have HNO : Hid (∀ wz, Below W3.heap.size W3 wz → RdNode F W g a o own w X (.returned (.tuple #[.agg #[.bool false, .slice none 0 0, .slice none 0 0, .slice none 0 0], .int .i64 2])) ((((wz.setCell ⟨w.heap.size + 2, 0, none⟩ (.bool false)).setCell ⟨w.heap.size + 2, 1, none⟩ (.slice none 0 0)).setCell ⟨w.heap.size + 2, 2, none⟩ (.slice none 0 0)).setCell ⟨w.heap.size + 2, 3, none⟩ (.slice none 0 0))) := fun wz hz => by
          have hbz := hb4.trans (hz.mono hb4.size)
          obtain ⟨e1, e2⟩ := rd_set HH0.out (HS3.out.trans (Steps.of_below hbz)) (HT3.out.stay hbz) (b := w.heap.size + 2) (by omega) (.bool false) (.slice none 0 0) (.slice none 0 0) (.slice none 0 0)
          exact ⟨o', HO.out.1, HO.out.2, e1, e2, .inl ⟨HXN.out, rfl⟩⟩
        clear hno hb3 hb4 hW3
        go_wp2_with fail
        rw [← HW3.out]
        go_wp2_with fail
        rename_i Kc hKc
        refine wp_region_left (by kernel_rfl)
          [.is (.int .i64 2), .is (.bool true), .is (.bool true), .is undef, .is undef, .is (.bool true), .is (.bool true), .is undef, .is undef, .is undef, .is undef, .is undef, .is (.bool true)]
          [[],[0],[1],[2],[2,3],[2,4],[5],[6],[6,7],[6],[6,9],[6,8,10],[6,11]] (by kernel_rfl) (by rfl) ?_ ?_
        · repeat' (first | exact LeftOps.nil | refine LeftOps.cons ?_ ?_)
          all_goals (intro wz hwz; clear hKc; try ((repeat (refine withLeft_is rfl rfl ?_)); (with_reducible refine withLeft_nil ?_); (try simp only [Act.put, arr0, arr1, arr2]); (try first | refine lft_run rfl rfl ?_ | refine lft_want rfl rfl rfl rfl ?_)))
          · exact lmv
          · unfold LftRun; go_wp2; exact lend
          · exact lmv
          · exact lsk
          · exact lsk
          · exact lpk
          · exact lmv
          · exact lsk
          · exact lsk
          · exact lsk
          · exact lsk
          · exact lsk
          · exact lpk
        intro wz hwz
        refine le8 (LeftEnd.is (LeftEnd.is (LeftEnd.is (LeftEnd.is (LeftEnd.is (LeftEnd.nil ?_))))))
        simp only [Act.put, arr0, arr1, arr2]
        have hA := HANS.out wz hwz
        have a0 := cells_of hA 0; have a1 := cells_of hA 1; have a2 := cells_of hA 2; have a3 := cells_of hA 3
        have q0 := free_of hA 0; have q1 := free_of hA 1; have q2 := free_of hA 2; have q3 := free_of hA 3
        have HX := Lib.hid (ans_set hA (.bool false) (.slice none 0 0) (.slice none 0 0) (.slice none 0 0))
        have HY := Lib.hid (HNO.out wz hwz)
        clear hA
        refine hKc _ _ ?_
        clear hKc Kc
        go_wp2
        exact bodyPost_ret (rd_ret rfl rfl HX.out rfl) rfl HY.out
      · have hm := (takeNd_may hsome)
        have hcnt := fun (W : World) (hB : Below w3.heap.size w3 W) => count_any (hnd.below hB) (Nat.le_trans (sum_may hm) (by decide))
        rw [cnt_cntN] at hcnt
        have HS3 : Hid (Steps own own w w3) := HS2.out.trans (Steps.of_below hb3)
        have HT3 := Lib.hid (HT2.out.stay hb3)
        have HG03 : Hid (w3.heap[w.heap.size + 1]? = some (.cells #[.int .i64 off, .int .u64 (ct : Nat)] 25 (0, 0))) := (hb3.block _ (Array.getElem?_eq_some_iff.1 HG02.out).1).trans HG02.out
        have HG13 : Hid (AnsAt w3 (w.heap.size + 2)) := (hb3.block _ (Array.getElem?_eq_some_iff.1 HG12.out).1).trans HG12.out
        obtain ⟨W3, hW3⟩ : ∃ W3, W3 = w3.alloc (.cells #[.bool n.leaf, .slice pi n.its.length ci, .slice pk n.ks.length ck, .slice pd n.kids.length cd] 38) := ⟨_, rfl⟩
        have hb4 : Below w3.heap.size w3 W3 := by rw [hW3]; exact (Below.refl _ _).alloc (Nat.le_refl _) _
        have hnew : NdAt W3 w3.heap.size n pi ci pk ck pd cd := by rw [hW3]; exact NdAt.new ..
        have HCNT : Hid (∀ wz, Below W3.heap.size W3 wz → _) := fun wz (hz : Below W3.heap.size W3 wz) => hcnt wz (hb4.trans (hz.mono hb4.size))
        have HCS : Hid (∀ wz, Below W3.heap.size W3 wz → wz.cell? ⟨w3.heap.size, 0, none⟩ = some (.bool n.leaf) ∧ wz.cell? ⟨w3.heap.size, 1, none⟩ = some (.slice pi n.its.length ci) ∧ wz.cell? ⟨w3.heap.size, 2, none⟩ = some (.slice pk n.ks.length ck) ∧ wz.cell? ⟨w3.heap.size, 3, none⟩ = some (.slice pd n.kids.length cd) ∧ wz.cell? ⟨w.heap.size + 1, 1, none⟩ = some (.int .u64 (ct : Nat))) := fun wz hz => by
          obtain ⟨m0, m1, m2, m3⟩ := (hnew.below hz).cells
          have hg := ((hb4.trans (hz.mono hb4.size)).block _ (Array.getElem?_eq_some_iff.1 HG03.out).1).trans HG03.out
          exact ⟨m0, m1, m2, m3, cells_of hg 1⟩
        have HANS : Hid (∀ wz, Below W3.heap.size W3 wz → AnsAt wz (w.heap.size + 2)) := fun wz hz => ((hb4.trans (hz.mono hb4.size)).block _ (Array.getElem?_eq_some_iff.1 HG13.out).1).trans HG13.out
        have HNO : Hid (X = none → ∀ wz, Below W3.heap.size W3 wz → RdNode F W g a o own w X (.returned (.tuple #[.agg #[.bool false, .slice none 0 0, .slice none 0 0, .slice none 0 0], .int .i64 2])) ((((wz.setCell ⟨w.heap.size + 2, 0, none⟩ (.bool false)).setCell ⟨w.heap.size + 2, 1, none⟩ (.slice none 0 0)).setCell ⟨w.heap.size + 2, 2, none⟩ (.slice none 0 0)).setCell ⟨w.heap.size + 2, 3, none⟩ (.slice none 0 0))) := fun hXN wz hz => by
          have hbz := hb4.trans (hz.mono hb4.size)
          obtain ⟨e1, e2⟩ := rd_set HH0.out (HS3.out.trans (Steps.of_below hbz)) (HT3.out.stay hbz) (b := w.heap.size + 2) (by omega) (.bool false) (.slice none 0 0) (.slice none 0 0) (.slice none 0 0)
          exact ⟨o', HO.out.1, HO.out.2, e1, e2, .inl ⟨hXN, rfl⟩⟩
        have HYES : Hid (X = some n → ∀ wz, Below W3.heap.size W3 wz → RdNode F W g a o own w X (.returned (.tuple #[.agg #[.bool n.leaf, .slice pi n.its.length ci, .slice pk n.ks.length ck, .slice pd n.kids.length cd], .int .i64 0])) ((((wz.setCell ⟨w.heap.size + 2, 0, none⟩ (.bool n.leaf)).setCell ⟨w.heap.size + 2, 1, none⟩ (.slice pi n.its.length ci)).setCell ⟨w.heap.size + 2, 2, none⟩ (.slice pk n.ks.length ck)).setCell ⟨w.heap.size + 2, 3, none⟩ (.slice pd n.kids.length cd))) := fun hXS wz hz => by
          have hbz := hb4.trans (hz.mono hb4.size)
          obtain ⟨e1, e2⟩ := rd_set HH0.out (HS3.out.trans (Steps.of_below hbz)) (HT3.out.stay hbz) (b := w.heap.size + 2) (by omega) (.bool n.leaf) (.slice pi n.its.length ci) (.slice pk n.ks.length ck) (.slice pd n.kids.length cd)
          refine ⟨o', HO.out.1, HO.out.2, e1, e2, .inr ⟨n, pi, ci, pk, ck, pd, cd, hXS, rfl, fun k hk => HNN.out k (hown k hk), fun W' hW' => hstay W' fun k hk hk2 => ?_⟩⟩
          have hkz : k < wz.heap.size := Nat.lt_of_lt_of_le hk2 hbz.size
          have hlt12 := (Array.getElem?_eq_some_iff.1 HG12.out).1
          rw [hW'.block k (by simpa [World.setCell] using hkz) (.inl (HNN.out k hk)), ans_other (A := w.heap.size + 2) (by omega)]
          exact hbz.block k hk2
        obtain ⟨CN, hCN⟩ : ∃ CN, CN = cntN n := ⟨_, rfl⟩
        rw [← hCN] at HCNT
        have hX3 : X = if KD = 2 then (if CN = ct then some n else none) else none := by
          have e := HX2.out
          unfold nodeBy at e
          dsimp only at e
          rw [hsome] at e
          rw [e, hCN]
          by_cases h2 : KD = 2 <;> simp [h2]
        have HW3 := Lib.hid hW3
        have HX3 := Lib.hid hX3
        clear hsome hnd hown hstay hb3 hb4 hnew hcnt hm hCN hX3 hW3
        generalize n.its.length = l1 at *
        generalize n.ks.length = l2 at *
        generalize n.kids.length = l3 at *
        generalize n.leaf = LF at *
        by_cases hk2 : KD = 2
        · subst hk2
          by_cases hc : CN = ct
          · have hX4 : X = some n := by rw [HX3.out, if_pos rfl, if_pos hc]
            have HYES := Lib.hid (HYES.out hX4)
            have hcc : ((CN : Int) != (ct : Int)) = false := by rw [hc]; simp
            clear HNO hX4 hc
            go_wp2_with fail
            rw [← HW3.out]
            go_wp2_with fail
            rename_i Kc hKc
            refine wp_region_left (by kernel_rfl)
              [.is (.int .i64 0), .is (.bool false), .is (.bool false), .is (.int .u8 (2 : Nat)), .is (.bool false), .is (.bool false), .is (.bool false), .is (.agg #[.bool LF, .slice pi l1 ci, .slice pk l2 ck, .slice pd l3 cd]), .is (.int .u64 (CN : Nat)), .is (.pointer (some ⟨w.heap.size + 1, 1, none⟩)), .is (.int .u64 (ct : Nat)), .is (.bool false), .is (.bool false)]
              [[],[0],[1],[2],[2,3],[2,4],[5],[6],[6,7],[6],[6,9],[6,8,10],[6,11]] (by kernel_rfl) (by rfl) ?_ ?_
            · repeat' (first | exact LeftOps.nil | refine LeftOps.cons ?_ ?_)
              all_goals (intro wz hwz; clear hKc; try ((repeat (refine withLeft_is rfl rfl ?_)); (with_reducible refine withLeft_nil ?_); (try simp only [Act.put, arr0, arr1, arr2]); (try first | refine lft_run rfl rfl ?_ | refine lft_want rfl rfl rfl rfl ?_)))
              · exact lmv
              · unfold LftRun; go_wp2; exact lend
              · exact lmv
              · exact lmv
              · unfold LftRun; go_wp2; exact lend
              · exact lpk
              · exact lmv
              · obtain ⟨m0, m1, m2, m3, r1⟩ := HCS.out wz hwz; unfold LftRun; go_wp2; exact lend
              · unfold LftRun; go_wp2_with fail; refine (HCNT.out wz hwz).mono ?_; rintro e wq ⟨rfl, hbq⟩; go_wp2; exact ⟨rfl, rfl, rfl, hbq⟩
              · unfold LftRun; go_wp2; exact lend
              · obtain ⟨m0, m1, m2, m3, r1⟩ := HCS.out wz hwz; unfold LftRun; go_wp2; exact lend
              · unfold LftRun; go_wp2; exact lend
              · exact lpk
            intro wz hwz
            refine le8 (LeftEnd.is (LeftEnd.is (LeftEnd.is (LeftEnd.is (LeftEnd.is (LeftEnd.nil ?_))))))
            simp only [Act.put, arr0, arr1, arr2]
            have hA := HANS.out wz hwz
            have a0 := cells_of hA 0; have a1 := cells_of hA 1; have a2 := cells_of hA 2; have a3 := cells_of hA 3
            have q0 := free_of hA 0; have q1 := free_of hA 1; have q2 := free_of hA 2; have q3 := free_of hA 3
            obtain ⟨m0, m1, m2, m3, r1⟩ := HCS.out wz hwz
            have HX := Lib.hid (ans_set hA (.bool LF) (.slice pi l1 ci) (.slice pk l2 ck) (.slice pd l3 cd))
            have HY := Lib.hid (HYES.out wz hwz)
            clear hA
            refine hKc _ _ ?_
            clear hKc Kc
            go_wp2
            exact bodyPost_ret (rd_ret rfl rfl HX.out rfl) rfl HY.out
          · have hX4 : X = none := by rw [HX3.out, if_pos rfl, if_neg hc]
            have HNO := Lib.hid (HNO.out hX4)
            have hcc : ((CN : Int) != (ct : Int)) = true := by simp; omega
            clear HYES hX4 hc
            go_wp2_with fail
            rw [← HW3.out]
            go_wp2_with fail
            rename_i Kc hKc
            refine wp_region_left (by kernel_rfl)
              [.is (.int .i64 0), .is (.bool false), .is (.bool false), .is (.int .u8 (2 : Nat)), .is (.bool false), .is (.bool false), .is (.bool false), .is (.agg #[.bool LF, .slice pi l1 ci, .slice pk l2 ck, .slice pd l3 cd]), .is (.int .u64 (CN : Nat)), .is (.pointer (some ⟨w.heap.size + 1, 1, none⟩)), .is (.int .u64 (ct : Nat)), .is (.bool true), .is (.bool true)]
              [[],[0],[1],[2],[2,3],[2,4],[5],[6],[6,7],[6],[6,9],[6,8,10],[6,11]] (by kernel_rfl) (by rfl) ?_ ?_
            · repeat' (first | exact LeftOps.nil | refine LeftOps.cons ?_ ?_)
              all_goals (intro wz hwz; clear hKc; try ((repeat (refine withLeft_is rfl rfl ?_)); (with_reducible refine withLeft_nil ?_); (try simp only [Act.put, arr0, arr1, arr2]); (try first | refine lft_run rfl rfl ?_ | refine lft_want rfl rfl rfl rfl ?_)))
              · exact lmv
              · unfold LftRun; go_wp2; exact lend
              · exact lmv
              · exact lmv
              · unfold LftRun; go_wp2; exact lend
              · exact lpk
              · exact lmv
              · obtain ⟨m0, m1, m2, m3, r1⟩ := HCS.out wz hwz; unfold LftRun; go_wp2; exact lend
              · unfold LftRun; go_wp2_with fail; refine (HCNT.out wz hwz).mono ?_; rintro e wq ⟨rfl, hbq⟩; go_wp2; exact ⟨rfl, rfl, rfl, hbq⟩
              · unfold LftRun; go_wp2; exact lend
              · obtain ⟨m0, m1, m2, m3, r1⟩ := HCS.out wz hwz; unfold LftRun; go_wp2; exact lend
              · unfold LftRun; go_wp2; exact lend
              · exact lpk
            intro wz hwz
            refine le8 (LeftEnd.is (LeftEnd.is (LeftEnd.is (LeftEnd.is (LeftEnd.is (LeftEnd.nil ?_))))))
            simp only [Act.put, arr0, arr1, arr2]
            have hA := HANS.out wz hwz
            have a0 := cells_of hA 0; have a1 := cells_of hA 1; have a2 := cells_of hA 2; have a3 := cells_of hA 3
            have q0 := free_of hA 0; have q1 := free_of hA 1; have q2 := free_of hA 2; have q3 := free_of hA 3
            have HX := Lib.hid (ans_set hA (.bool false) (.slice none 0 0) (.slice none 0 0) (.slice none 0 0))
            have HY := Lib.hid (HNO.out wz hwz)
            clear hA
            refine hKc _ _ ?_
            clear hKc Kc
            go_wp2
            exact bodyPost_ret (rd_ret rfl rfl HX.out rfl) rfl HY.out
        · have hX4 : X = none := by rw [HX3.out, if_neg hk2]
          have HNO := Lib.hid (HNO.out hX4)
          have hkk : ((KD : Int) != 2) = true := by simp; omega
          clear HYES hX4 hk2
          go_wp2_with fail
          rw [← HW3.out]
          go_wp2_with fail
          rename_i Kc hKc
          refine wp_region_left (by kernel_rfl)
            [.is (.int .i64 0), .is (.bool false), .is (.bool false), .is (.int .u8 (KD : Nat)), .is (.bool true), .is (.bool true), .is (.bool true), .is undef, .is undef, .is undef, .is undef, .is undef, .is (.bool true)]
            [[],[0],[1],[2],[2,3],[2,4],[5],[6],[6,7],[6],[6,9],[6,8,10],[6,11]] (by kernel_rfl) (by rfl) ?_ ?_
          · repeat' (first | exact LeftOps.nil | refine LeftOps.cons ?_ ?_)
            all_goals (intro wz hwz; clear hKc; try ((repeat (refine withLeft_is rfl rfl ?_)); (with_reducible refine withLeft_nil ?_); (try simp only [Act.put, arr0, arr1, arr2]); (try first | refine lft_run rfl rfl ?_ | refine lft_want rfl rfl rfl rfl ?_)))
            · exact lmv
            · unfold LftRun; go_wp2; exact lend
            · exact lmv
            · exact lmv
            · unfold LftRun; go_wp2; exact lend
            · exact lpk
            · exact lmv
            · exact lsk
            · exact lsk
            · exact lsk
            · exact lsk
            · exact lsk
            · exact lpk
          intro wz hwz
          refine le8 (LeftEnd.is (LeftEnd.is (LeftEnd.is (LeftEnd.is (LeftEnd.is (LeftEnd.nil ?_))))))
          simp only [Act.put, arr0, arr1, arr2]
          have hA := HANS.out wz hwz
          have a0 := cells_of hA 0; have a1 := cells_of hA 1; have a2 := cells_of hA 2; have a3 := cells_of hA 3
          have q0 := free_of hA 0; have q1 := free_of hA 1; have q2 := free_of hA 2; have q3 := free_of hA 3
          have HX := Lib.hid (ans_set hA (.bool false) (.slice none 0 0) (.slice none 0 0) (.slice none 0 0))
          have HY := Lib.hid (HNO.out wz hwz)
          clear hA
          refine hKc _ _ ?_
          clear hKc Kc
          go_wp2
          exact bodyPost_ret (rd_ret rfl rfl HX.out rfl) rfl HY.out
    · have a0 := cells_of HG12.out 0; have a1 := cells_of HG12.out 1; have a2 := cells_of HG12.out 2; have a3 := cells_of HG12.out 3
      have q0 := free_of HG12.out 0; have q1 := free_of HG12.out 1; have q2 := free_of HG12.out 2; have q3 := free_of HG12.out 3
      have HXN : Hid (X = none) := by
        unfold Hid
        have e := HX2.out
        unfold nodeBy at e
        simpa using e
      obtain ⟨e1, e2⟩ := rd_set HH0.out HS2.out HT2.out (b := w.heap.size + 2) (by omega) (.bool false) (.slice none 0 0) (.slice none 0 0) (.slice none 0 0)
      have HF : Hid (RdNode F W g a o own w X (.returned (.tuple #[.agg #[.bool false, .slice none 0 0, .slice none 0 0, .slice none 0 0], .int .i64 2])) ((((w2.setCell ⟨w.heap.size + 2, 0, none⟩ (.bool false)).setCell ⟨w.heap.size + 2, 1, none⟩ (.slice none 0 0)).setCell ⟨w.heap.size + 2, 2, none⟩ (.slice none 0 0)).setCell ⟨w.heap.size + 2, 3, none⟩ (.slice none 0 0))) := ⟨o', HO.out.1, HO.out.2, e1, e2, .inl ⟨HXN.out, rfl⟩⟩
      have HX := Lib.hid (ans_set HG12.out (.bool false) (.slice none 0 0) (.slice none 0 0) (.slice none 0 0))
      clear e1 e2
      go_wp2
      exact bodyPost_ret (rd_ret rfl rfl HX.out rfl) rfl HF.out
end Go.Proofs.YtdbgihpognfhdaaGreat.Sl.Nd
/- Trees in a program: one looks over all of a tree. -/
namespace Go.By
open Go Go.RowKit
def dOf (deep : Nat) : Option Nat → Nat
  | some h => deep + h - 1
  | none => 0
theorem dOf_none {deep : Nat} {r : Option Nat} (h : r.isNone = true) : dOf deep r = 0 := by
  cases r with
  | none => rfl
  | some _ => cases h
def stepX (H : Nat) (K : Nat → Option Nat) : Option Nat → Option Nat
  | none => none
  | some x => if H ≠ 0 ∧ x ≠ H then none else K x
theorem kidsC_next {rec : NKd → List Nat → List Nat → Option Nat} {bound : List Nat} {ks : List (List Nat)} {kids : List NKd} {k H : Nat} (hl : ks.length = kids.length) (hk : k < kids.length) :
    kidsC rec bound ((ks.zip kids).drop k) H = stepX H (fun x => kidsC rec bound ((ks.zip kids).drop (k + 1)) x) (rec kids[k] (ks[k]'(by omega)) (if h : k + 1 < ks.length then ks[k + 1] else bound)) := by
  have hz : k < (ks.zip kids).length := by rw [List.length_zip]; omega
  rw [List.drop_eq_getElem_cons hz, List.getElem_zip]
  rw [kidsC]
  have e : nxt ((ks.zip kids).drop (k + 1)) bound = if h : k + 1 < ks.length then ks[k + 1] else bound := by
    unfold nxt
    by_cases h : k + 1 < ks.length
    · rw [dif_pos h, List.drop_eq_getElem_cons (by rw [List.length_zip]; omega), List.getElem_zip]
    · rw [dif_neg h, List.drop_eq_nil_of_le (by rw [List.length_zip]; omega)]
  rw [e]
  cases rec kids[k] (ks[k]'(by omega)) (if h : k + 1 < ks.length then ks[k + 1] else bound) <;> rfl
theorem kidsC_end {rec : NKd → List Nat → List Nat → Option Nat} {bound : List Nat} {ks : List (List Nat)} {kids : List NKd} {k H : Nat} (hl : ks.length = kids.length) (hk : k = kids.length) : kidsC rec bound ((ks.zip kids).drop k) H = some (H + 1) := by
  rw [List.drop_eq_nil_of_le (by rw [List.length_zip]; omega)]
  rfl
theorem step_and {deep H D E : Nat} {K : Nat → Option Nat} {R1 X : Option Nat} {B2 : Bool} (hd : 1 ≤ deep) (hD : D = if H = 0 then 0 else deep + H) (hE : E = dOf (deep + 1) R1) (hx : ∀ x, R1 = some x → 1 ≤ x ∧ x ≤ 23) (hX : X = stepX H K R1)
    (hB : B2 = ((decide (D ≠ E) && decide (0 < min D E)) || R1.isNone)) :
    (B2 = true → X = none) ∧ (B2 = false → ∃ x, R1 = some x ∧ X = K x ∧ (max D E = deep + x) ∧ 1 ≤ x ∧ x ≤ 23) := by
  cases R1 with
  | none =>
    have hB' : B2 = true := by rw [hB]; simp
    exact ⟨fun _ => hX, fun h => by rw [h] at hB'; cases hB'⟩
  | some x =>
    obtain ⟨h1, h2⟩ := hx x rfl
    have hE0 : dOf (deep + 1) (some x) = deep + 1 + x - 1 := rfl
    have hE' : E = deep + x := by rw [hE, hE0]; omega
    replace hX : X = if H ≠ 0 ∧ x ≠ H then none else K x := hX
    have hB' : B2 = (decide (D ≠ E) && decide (0 < min D E)) := by rw [hB]; simp
    by_cases h0 : H = 0
    · rw [if_pos h0] at hD
      rw [if_neg (by omega)] at hX
      have hBf : B2 = false := by rw [hB', hD]; simp
      exact ⟨fun h => (by rw [h] at hBf; cases hBf), fun _ => ⟨x, rfl, hX, by omega, h1, h2⟩⟩
    · rw [if_neg h0] at hD
      by_cases hxh : x = H
      · rw [if_neg (by omega)] at hX
        have hBf : B2 = false := by rw [hB', decide_eq_false (show ¬ D ≠ E by omega)]; rfl
        exact ⟨fun h => (by rw [h] at hBf; cases hBf), fun _ => ⟨x, rfl, hX, by omega, h1, h2⟩⟩
      · rw [if_pos ⟨h0, hxh⟩] at hX
        have hBt : B2 = true := by rw [hB', decide_eq_true (show D ≠ E by omega), decide_eq_true (show 0 < min D E by omega)]; rfl
        exact ⟨fun _ => hX, fun h => (by rw [h] at hBt; cases hBt)⟩
end Go.By
namespace Go.Proofs.YtdbgihpognfhdaaGreat.Sl.Nd
open Go Go.RowKit Go.By
def LkTold (F : FS) (W : World) (g a o : Nat) (own : Own) (w : World) (fuel ct deep : Nat) (r : Option Nat) (z : Ending) (w' : World) : Prop :=
  ∃ o', o ≤ o' ∧ o' ≤ o + (fuel + 1) * 35184372088832 ∧ (r.isNone = false → o' + 1 ≤ o + 2 * ct) ∧ Steps own own w w' ∧ Tf F W g a o' own w' ∧ z = .returned (.agg #[.int .i64 (dOf deep r : Nat), .int .i64 (noOf r.isNone)])
theorem look_ret {tmps : Array Value} {w : World} {A : Nat} {cs : Array Value} (hp : tmps.getD 6 undef = .pointer (some ⟨A, 0, none⟩)) (hg : w.heap[A]? = some (.cells cs 95 (0, 0))) (hc : cs.size = 2) :
    (results Tryz.f39 tmps).run Tryz.prog w = .ok (.agg cs) w := by
  have hi : (Tryz.prog.info? 95).map (·.size) = some cs.size := by rw [hc]; kernel_rfl
  have hq : (Tryz.prog.underlying 95).map (fun d => match d with | .struct _ | .array _ _ => true | _ => false) = some true := by kernel_rfl
  obtain ⟨d, hu, hd⟩ := Option.map_eq_some_iff.1 hq
  exact results_cell_row (p := 6) (ty := 95) (by kernel_rfl) tmps w A 95 cs (0, 0) d hp hg hu (by cases d <;> simp_all) hi
theorem fn_set {F : FS} {W w wz : World} {g a o o' b : Nat} {own : Own} (h0 : Tf F W g a o own w) (hS : Steps own own w wz) (hT : Tf F W g a o' own wz) (hb : w.heap.size ≤ b) (x0 x1 : Value) :
    Steps own own w ((wz.setCell ⟨b, 0, none⟩ x0).setCell ⟨b, 1, none⟩ x1) ∧ Tf F W g a o' own ((wz.setCell ⟨b, 0, none⟩ x0).setCell ⟨b, 1, none⟩ x1) := by
  have hn := h0.disk.new_none hb
  have hf : W.heap.size ≤ b := Nat.le_trans h0.disk.below.size hb
  have hne : g ≠ b := by have := h0.file.lt; omega
  exact ⟨steps_set_new (steps_set_new hS hb 0 x0) hb 1 x1, (hT.set hn hf hne 0 x0).set hn hf hne 1 x1⟩
theorem kid_place {own : Own} {w W3 Wp : World} {pk : Option Addr} {ck k deep : Nat} {ks : List (List Nat)} {least bound : List Nat} {va vb ka kb : Value} (hR : ∀ W', Steps own own W3 W' → RowAt KBytes W' pk ck ks) (hown : ∀ j, (Value.slice pk ks.length ck).ownBlock = some j → own j = none)
    (hP : ∀ W', Steps own own w W' → PlAt W' (.agg #[.int .i64 (deep : Nat), va, vb]) deep least bound va vb) (h3 : Steps own own w W3) (hp : Steps own own W3 Wp) (hk : k < ks.length) (hkp : KidPl Wp pk k ks.length vb ka kb) :
    ∀ W', Steps own own W3 W' → PlAt W' (.agg #[.int .i64 (deep + 1 : Nat), ka, kb]) (deep + 1) ks[k] (nextB ks k bound) ka kb := by
  intro W' hW'
  obtain ⟨lb, lo, rfl, e0, e1⟩ := hkp
  have hn : own lb = none := hown lb rfl
  have same : ∀ (i : Nat) (hi : i < ks.length) (x : Value), Wp.cell? ⟨lb, lo + i, none⟩ = some x → Bytes W' x ks[i] := fun i hi x hx => by
    obtain ⟨b3, l3, c3, q3, r3, y3, rfl, _⟩ := (hR W3 (Steps.refl _ _)).at_ i hi
    obtain ⟨b4, l4, c4, q4, r4, y4, rfl, z4⟩ := (hR W' hW').at_ i hi
    obtain ⟨rfl, rfl⟩ : lb = b3 ∧ lo = l3 := by simpa using q3
    obtain ⟨rfl, rfl⟩ : lb = b4 ∧ lo = l4 := by simpa using q4
    have c3' := r3.one
    have c4' := r4.one
    simp only [KBytes, Nat.mul_one] at c3' c4'
    have hlt := block_lt_of_cell c3'
    have k1 := (World.cell?_of_block (a := ⟨lb, lo + i, none⟩) (hp.block lb hlt (.inl hn))).trans c3'
    have k2 := (World.cell?_of_block (a := ⟨lb, lo + i, none⟩) (hW'.block lb hlt (.inl hn))).trans c3'
    rw [hx] at k1; cases k1
    rw [c4'] at k2; cases k2
    exact z4
  refine ⟨rfl, same k hk ka e0, ?_⟩
  unfold nextB
  by_cases hlt : k + 1 < ks.length
  · rw [if_pos hlt] at e1
    rw [dif_pos hlt]
    exact same (k + 1) hlt kb e1
  · rw [if_neg hlt] at e1
    rw [dif_neg hlt, e1]
    exact (hP W' (h3.trans hW')).bound
def KidsIn (w0 : World) (deep : Nat) (pk : Option Addr) (L : Nat) (bv : Value) (q : Option Addr) (B : Nat) (wr : World) : Prop :=
  ∀ j, j < L → ∃ g x y, q = some ⟨g, 0, none⟩ ∧ B ≤ g ∧ g < wr.heap.size ∧ wr.cell? ⟨g, j * 3, none⟩ = some (.int .i64 (deep + 1 : Nat)) ∧ wr.cell? ⟨g, j * 3 + 1, none⟩ = some x ∧ wr.cell? ⟨g, j * 3 + 2, none⟩ = some y ∧ KidPl w0 pk j L bv x y
theorem KidPl.shape {w : World} {p : Option Addr} {c i : Nat} {ks : List (List Nat)} {bv a b : Value} (h : KidPl w p i ks.length bv a b) (hR : RowAt KBytes w p c ks) (hi : i < ks.length) (hb : ∃ p n c, bv = .slice p n c) : (∃ p n c, a = .slice p n c) ∧ ∃ p n c, b = .slice p n c := by
  obtain ⟨lb, lo, rfl, h1, h2⟩ := h
  obtain ⟨lb', lo', e, hat⟩ := hR.some (by omega)
  cases e
  have at1 : ∀ j (hj : j < ks.length) (x : Value), w.cell? ⟨lb, lo + j, none⟩ = some x → ∃ p n c, x = .slice p n c := fun j hj x hx => by
    obtain ⟨cs, hc, y, rfl, hy⟩ := hat j hj
    have e0 := hc.one
    simp only [KBytes, Nat.mul_one] at e0
    rw [hx] at e0
    cases e0
    obtain ⟨p, c, rfl, -⟩ := hy.any
    exact ⟨_, _, _, rfl⟩
  refine ⟨at1 i hi a h1, ?_⟩
  split at h2
  · rename_i hlt
    exact at1 (i + 1) hlt b h2
  · rw [h2]; exact hb
theorem cell_eq {w w' : World} {g i : Nat} (h : w'.heap[g]? = w.heap[g]?) : w'.cell? ⟨g, i, none⟩ = w.cell? ⟨g, i, none⟩ := by
  unfold World.cell?
  simp only [h]
theorem KidsIn.same {w0 : World} {deep : Nat} {pk : Option Addr} {L : Nat} {bv : Value} {q : Option Addr} {B : Nat} {wr w' : World} (h : KidsIn w0 deep pk L bv q B wr) (hz : wr.heap.size ≤ w'.heap.size) (hs : ∀ k, B ≤ k → k < wr.heap.size → w'.heap[k]? = wr.heap[k]?) : KidsIn w0 deep pk L bv q B w' := fun j hj => by
  obtain ⟨g, x, y, h1, h2, h3, h4, h5, h6, h7⟩ := h j hj
  have e := hs g h2 h3
  exact ⟨g, x, y, h1, h2, by omega, (cell_eq e).trans h4, (cell_eq e).trans h5, (cell_eq e).trans h6, h7⟩
def LkInv (F : FS) (W : World) (g a o : Nat) (own : Own) (w4 : World) (G : Nat) (rec : NKd → List Nat → List Nat → Option Nat) (bound : List Nat) (ks : List (List Nat)) (kids : List NKd) (deep : Nat) (X : Option Nat) (kr : World → Prop) (i : Value) (wr : World) : Prop :=
  ∃ k H ok : Nat, k ≤ kids.length ∧ i = .int .i64 k ∧ Tf F W g a ok own wr ∧ Steps own own w4 wr ∧ wr.heap[G]? = some (.cells #[.int .i64 (if H = 0 then 0 else deep + H : Nat), .int .i64 0] 95 (0, 0)) ∧ (H = 0 ↔ k = 0) ∧ X = kidsC rec bound ((ks.zip kids).drop k) H ∧
    o ≤ ok ∧ ok + k ≤ o + 1 + 2 * sumK (kids.take k) ∧ H ≤ 30 ∧ kr wr
set_option maxRecDepth 100000 in
set_option maxHeartbeats 4000000 in
theorem look_any (F : FS) (hF : F.Ok) : ∀ (fuel deep : Nat), fuel + deep = 23 → 1 ≤ deep → ∀ (W w : World) (g a o : Nat) (own : Own) (off : Int) (ct : Nat) (least bound : List Nat) (va vb : Value), Tf F W g a o own w → o + (fuel + 1) * 35184372088832 < 4611686018427387904 →
    (∀ W', Steps own own w W' → PlAt W' (.agg #[.int .i64 (deep : Nat), va, vb]) deep least bound va vb) →
    Calls Tryz.prog 39 #[.pointer (some ⟨g, 0, none⟩), .agg #[.int .i64 off, .int .u64 (ct : Nat)], .agg #[.int .i64 (deep : Nat), va, vb]] w (LkTold F W g a o own w fuel ct deep (chkT F.K fuel off ct (decide (deep = 1)) least bound)) := by
  intro fuel
  induction fuel using Nat.strongRecOn with
  | _ fuel ih =>
  intro deep hfd h1d W w g a o own off ct least bound va vb h hob hP
  obtain ⟨X, hX⟩ : ∃ X, X = chkT F.K fuel off ct (decide (deep = 1)) least bound := ⟨_, rfl⟩
  rw [← hX]
  have HXX := Lib.hid hX
  obtain ⟨W1, hW1⟩ : ∃ W1, W1 = ((w.alloc (.cells #[.int .i64 off, .int .u64 (ct : Nat)] 25)).alloc (.cells #[.int .i64 (deep : Nat), va, vb] 98)).alloc (.cells #[.int .i64 0, .int .i64 0] 95) := ⟨_, rfl⟩
  have hWs : W1 = allocs w [.cells #[.int .i64 off, .int .u64 (ct : Nat)] 25, .cells #[.int .i64 (deep : Nat), va, vb] 98, .cells #[.int .i64 0, .int .i64 0] 95] := hW1
  have g0 : W1.heap[w.heap.size]? = some (.cells #[.int .i64 off, .int .u64 (ct : Nat)] 25 (0, 0)) := by rw [hWs]; exact allocs_at (i := 0) rfl
  have g1 : PlCells W1 (w.heap.size + 1) deep va vb := by rw [hWs]; exact allocs_at (i := 1) rfl
  have g2 : W1.heap[w.heap.size + 2]? = some (.cells #[.int .i64 0, .int .i64 0] 95 (0, 0)) := by rw [hWs]; exact allocs_at (i := 2) rfl
  have hb1 : Below w.heap.size w W1 := by rw [hWs]; exact allocs_below _ _
  have hz1 : W1.heap.size = w.heap.size + 3 := by rw [hW1]; simp
  have hs1 : Steps own own w W1 := Steps.of_below hb1
  have r0 := cells_of g0 0
  have r1 := cells_of g0 1
  have p0 := cells_of g1 0
  have p1 := cells_of g1 1
  have p2 := cells_of g1 2
  simp only [List.getElem?_toArray, List.getElem?_cons_zero, List.getElem?_cons_succ] at r0 r1 p0 p1 p2
  have HRD := Lib.hid (treeRead_any (h.stay hb1) hF (by omega) off ct deep (by omega) va vb)
  have HS1 := Lib.hid hs1; have HG1 := Lib.hid g1; have HG2 := Lib.hid g2; have HW1 := Lib.hid hW1; have HZ1 := Lib.hid hz1
  have HH0 := Lib.hid h; have HIH := Lib.hid ih; have HP := Lib.hid hP; have HOB := Lib.hid hob; have HFD := Lib.hid hfd; have HD1 := Lib.hid h1d
  have hdi : (deep : Int) ≤ 23 := by omega
  clear ih h hP hob hfd h1d hX hW1 hWs g0 g1 g2 hb1 hz1 hs1
  go_enter Tryz.func39, Tryz.ntmps39
  go_wp2_with fail
  rw [← HW1.out]
  refine HRD.out.mono ?_
  rintro e w2 ⟨o2, ho1, ho2, hst, htf, hc⟩
  have HO2 : Hid (o ≤ o2 ∧ o2 ≤ o + 1) := ⟨ho1, ho2⟩
  have hkeep : ∀ k, w.heap.size ≤ k → k < w.heap.size + 3 → w2.heap[k]? = W1.heap[k]? := fun k hk hk2 => hst.block k (by rw [HZ1.out]; exact hk2) (.inl (HH0.out.disk.new_none hk))
  have hg1 : PlCells w2 (w.heap.size + 1) deep va vb := (hkeep _ (by omega) (by omega)).trans HG1.out
  have hg2 := (hkeep (w.heap.size + 2) (by omega) (by omega)).trans HG2.out
  have HS2 : Hid (Steps own own w w2) := HS1.out.trans hst
  have HT2 := Lib.hid htf
  have HNN : Hid (∀ k, w2.heap.size ≤ k → own k = none) := fun k hk => htf.disk.new_none hk
  have HG12 := Lib.hid hg1; have HG22 := Lib.hid hg2
  clear ho1 ho2 hst htf hkeep hg1 hg2 HRD HG1 HG2 HS1 r0 r1 p0 p1 p2
  rcases hc with ⟨hno, rfl⟩ | ⟨n, pi, ci, pk, ck, pd, cd, hsome, rfl, hown, hstay⟩
  · have HXN : Hid (X = none) := by
      unfold Hid
      rw [HXX.out]
      have hfd := HFD.out
      cases fuel with
      | zero => rfl
      | succ f =>
        rw [if_neg (by omega)] at hno
        unfold chkT
        rw [hno]
    obtain ⟨W3, hW3⟩ : ∃ W3, W3 = w2.alloc (.cells #[.bool false, .slice none 0 0, .slice none 0 0, .slice none 0 0] 38) := ⟨_, rfl⟩
    have hb3 : Below w2.heap.size w2 W3 := by rw [hW3]; exact (Below.refl _ _).alloc (Nat.le_refl _) _
    have hg3 := (hb3.block _ (Array.getElem?_eq_some_iff.1 HG22.out).1).trans HG22.out
    obtain ⟨e1, e2⟩ := fn_set HH0.out (HS2.out.trans (Steps.of_below hb3)) (HT2.out.stay hb3) (b := w.heap.size + 2) (by omega) (.int .i64 0) (.int .i64 2)
    have HF : Hid (LkTold F W g a o own w fuel ct deep X (.returned (.agg #[.int .i64 0, .int .i64 2])) ((W3.setCell ⟨w.heap.size + 2, 0, none⟩ (.int .i64 0)).setCell ⟨w.heap.size + 2, 1, none⟩ (.int .i64 2))) := by
      rw [HXN.out]
      exact ⟨o2, HO2.out.1, by have := HO2.out.2; omega, fun h => (by cases h), e1, e2, rfl⟩
    have HX := Lib.hid (set2 hg3 (.int .i64 0) (.int .i64 2))
    have a0 := cells_of hg3 0
    have a1 := cells_of hg3 1
    have f0 := free_of hg3 0
    have f1 := free_of hg3 1
    simp only [List.getElem?_toArray, List.getElem?_cons_zero, List.getElem?_cons_succ] at a0 a1
    rw [hW3] at a0 a1 f0 f1
    have HW3 := Lib.hid hW3
    clear hno hW3 hb3 hg3 e1 e2
    go_wp2
    rw [← HW3.out]
    exact bodyPost_ret (look_ret rfl HX.out rfl) rfl HF.out
  · have hdp : ¬ 22 < deep := by intro h; rw [if_pos h] at hsome; cases hsome
    rw [if_neg hdp] at hsome
    obtain ⟨f, hf⟩ : ∃ f, fuel = f + 1 := ⟨fuel - 1, by have := HFD.out; omega⟩
    have hin := nodeIn_some hsome
    have hno := nodeOf_some hin.2.2
    have hm := hno.1
    have h8 : n.its.length ≤ 8 := by
      cases hl : n.leaf with
      | true => exact (may_lf hl hm).1.2
      | false => rw [(may_in hl hm).2.2.2.2.2]; simp
    have HCT : Hid (cntN n = ct) := hno.2.1
    have HM := Lib.hid hm
    have HXE : Hid (X = if keeps n (decide (deep = 1)) least bound = false then none else if n.leaf = true then some 1 else kidsC (fun d k b => chkT F.K f d.off d.ct false k b) bound (n.ks.zip n.kids) 0) := by
      unfold Hid
      rw [HXX.out, hf, chkT, hsome]
    have HFF := Lib.hid hf
    obtain ⟨W3, hW3⟩ : ∃ W3, W3 = w2.alloc (.cells #[.bool n.leaf, .slice pi n.its.length ci, .slice pk n.ks.length ck, .slice pd n.kids.length cd] 38) := ⟨_, rfl⟩
    have hb3 : Below w2.heap.size w2 W3 := by rw [hW3]; exact (Below.refl _ _).alloc (Nat.le_refl _) _
    have hnew : NdAt W3 w2.heap.size n pi ci pk ck pd cd := by rw [hW3]; exact NdAt.new ..
    have HS3 : Hid (Steps own own w W3) := HS2.out.trans (Steps.of_below hb3)
    have HT3 := Lib.hid (HT2.out.stay hb3)
    have hg13 : PlCells W3 (w.heap.size + 1) deep va vb := (hb3.block _ (Array.getElem?_eq_some_iff.1 HG12.out).1).trans HG12.out
    have hg23 := (hb3.block _ (Array.getElem?_eq_some_iff.1 HG22.out).1).trans HG22.out
    have HMH := Lib.hid (mayHave_any (HP.out W3 HS3.out) (hstay W3 (Steps.of_below hb3)) h8)
    have HND : Hid (∀ W', Steps own own W3 W' → IsNd W' (.agg #[.bool n.leaf, .slice pi n.its.length ci, .slice pk n.ks.length ck, .slice pd n.kids.length cd]) n pi ci pk ck pd cd) := fun W' hW' => hstay W' ((Steps.of_below hb3).trans hW')
    have HOWN := Lib.hid hown
    have HW3 := Lib.hid hW3; have HG13 := Lib.hid hg13; have HG23 := Lib.hid hg23; have HNW := Lib.hid hnew
    obtain ⟨n0, n1, n2, n3⟩ := hnew.cells
    have p0 := cells_of hg13 0
    have p1 := cells_of hg13 1
    have p2 := cells_of hg13 2
    simp only [List.getElem?_toArray, List.getElem?_cons_zero, List.getElem?_cons_succ] at p0 p1 p2
    rw [hW3] at n0 n1 n2 n3 p0 p1 p2
    have hZ3 : W3.heap.size = w2.heap.size + 1 := by rw [hW3]; simp
    have HZ3 := Lib.hid hZ3
    clear hsome hown hstay hdp hf hin hno hm h8 hb3 hnew hg13 hg23 HG12 HG22 hW3 hZ3
    obtain ⟨KP, hKP⟩ : ∃ b, b = keeps n (decide (deep = 1)) least bound := ⟨_, rfl⟩
    rw [← hKP] at HXE HMH
    clear hKP
    go_wp2_with fail
    rw [← HW3.out]
    refine HMH.out.mono ?_
    rintro e w4 ⟨rfl, hb4⟩
    have HS4 : Hid (Steps own own w w4) := HS3.out.trans (Steps.of_below hb4)
    have HT4 := Lib.hid (HT3.out.stay hb4)
    have hg14 : PlCells w4 (w.heap.size + 1) deep va vb := (hb4.block _ (Array.getElem?_eq_some_iff.1 HG13.out).1).trans HG13.out
    have hg24 := (hb4.block _ (Array.getElem?_eq_some_iff.1 HG23.out).1).trans HG23.out
    have hnw4 := HNW.out.below hb4
    have HB4 := Lib.hid hb4
    have HG14 := Lib.hid hg14; have HG24 := Lib.hid hg24; have HNW4 := Lib.hid hnw4
    clear n0 n1 n2 n3 p0 p1 p2
    obtain ⟨n0, n1, n2, n3⟩ := hnw4.cells
    have p0 := cells_of hg14 0
    have p1 := cells_of hg14 1
    have p2 := cells_of hg14 2
    have a0 := cells_of hg24 0
    have a1 := cells_of hg24 1
    have f0 := free_of hg24 0
    have f1 := free_of hg24 1
    simp only [List.getElem?_toArray, List.getElem?_cons_zero, List.getElem?_cons_succ] at p0 p1 p2 a0 a1
    clear hb4 hg14 hg24 hnw4 HMH HG13 HG23 HNW HW3
    cases KP with
    | false =>
      have HXN : Hid (X = none) := by unfold Hid; rw [HXE.out, if_pos rfl]
      obtain ⟨e1, e2⟩ := fn_set HH0.out HS4.out HT4.out (b := w.heap.size + 2) (by omega) (.int .i64 0) (.int .i64 2)
      have HF : Hid (LkTold F W g a o own w fuel ct deep X (.returned (.agg #[.int .i64 0, .int .i64 2])) ((w4.setCell ⟨w.heap.size + 2, 0, none⟩ (.int .i64 0)).setCell ⟨w.heap.size + 2, 1, none⟩ (.int .i64 2))) := by
        rw [HXN.out]
        exact ⟨o2, HO2.out.1, by have := HO2.out.2; omega, fun h => (by cases h), e1, e2, rfl⟩
      have HX := Lib.hid (set2 HG24.out (.int .i64 0) (.int .i64 2))
      clear e1 e2
      go_wp2
      exact bodyPost_ret (look_ret rfl HX.out rfl) rfl HF.out
    | true =>
      cases hlf : n.leaf with
      | true =>
        have HXN : Hid (X = some 1) := by unfold Hid; rw [HXE.out, if_neg (by decide), if_pos hlf]
        have HDP := Lib.hid (deep_any w4 deep va vb)
        rw [hlf] at n0
        go_wp2_with fail
        refine HDP.out.mono ?_
        rintro e w5 ⟨rfl, hb5⟩
        have hg25 := (hb5.block _ (Array.getElem?_eq_some_iff.1 HG24.out).1).trans HG24.out
        clear a0 a1 f0 f1 HDP
        have a0 := cells_of hg25 0
        have a1 := cells_of hg25 1
        have f0 := free_of hg25 0
        have f1 := free_of hg25 1
        simp only [List.getElem?_toArray, List.getElem?_cons_zero, List.getElem?_cons_succ] at a0 a1
        obtain ⟨e1, e2⟩ := fn_set HH0.out (HS4.out.trans (Steps.of_below hb5)) (HT4.out.stay hb5) (b := w.heap.size + 2) (by omega) (.int .i64 (deep : Nat)) (.int .i64 0)
        have HF : Hid (LkTold F W g a o own w fuel ct deep X (.returned (.agg #[.int .i64 (deep : Nat), .int .i64 0])) ((w5.setCell ⟨w.heap.size + 2, 0, none⟩ (.int .i64 (deep : Nat))).setCell ⟨w.heap.size + 2, 1, none⟩ (.int .i64 0))) := by
          rw [HXN.out]
          have hc := HCT.out
          have h1 := (may_lf hlf HM.out).1.1
          unfold cntN at hc
          rw [if_pos hlf] at hc
          exact ⟨o2, HO2.out.1, by have := HO2.out.2; omega, fun _ => by have := HO2.out.2; omega, e1, e2, rfl⟩
        have HX := Lib.hid (set2 hg25 (.int .i64 (deep : Nat)) (.int .i64 0))
        clear e1 e2 hb5 hg25
        go_wp2
        exact bodyPost_ret (look_ret rfl HX.out rfl) rfl HF.out
      | false =>
        have HXN : Hid (X = kidsC (fun d k b => chkT F.K f d.off d.ct false k b) bound (n.ks.zip n.kids) 0) := by unfold Hid; rw [HXE.out, if_neg (by decide), hlf, if_neg (by decide)]
        rw [hlf] at n0
        obtain ⟨⟨hN2, hN8⟩, hLen, -, -, hMK, -⟩ := may_in hlf HM.out
        obtain ⟨W5, hW5⟩ : ∃ W5, W5 = w4.alloc (.cells #[.int .i64 0, .int .i64 0] 95) := ⟨_, rfl⟩
        have hb5 : Below w4.heap.size w4 W5 := by rw [hW5]; exact (Below.refl _ _).alloc (Nat.le_refl _) _
        have hg5 : W5.heap[w4.heap.size]? = some (.cells #[.int .i64 0, .int .i64 0] 95 (0, 0)) := by rw [hW5]; exact heap_alloc_new w4 _
        have hs35 : Steps own own W3 W5 := (Steps.of_below HB4.out).trans (Steps.of_below hb5)
        have HS35 := Lib.hid hs35
        have hkd := kids_any (HP.out W5 (HS4.out.trans (Steps.of_below hb5))) (HND.out W5 hs35) (by omega) (by rw [hLen]; omega)
        rw [hlf] at hkd
        have HKD := Lib.hid hkd
        have HB5 := Lib.hid hb5; have HG5 := Lib.hid hg5
        obtain ⟨N, hN⟩ : ∃ N, N = n.kids.length := ⟨_, rfl⟩
        have HW5 := Lib.hid hW5; have HN := Lib.hid hN
        have HN28 : Hid (2 ≤ n.kids.length ∧ n.kids.length ≤ 8) := ⟨hN2, hN8⟩
        have HLN := Lib.hid hLen; have HMK := Lib.hid hMK
        have hN9 : (N : Int) ≤ 8 := by omega
        have n3' : (w4.alloc (.cells #[.int .i64 0, .int .i64 0] 95)).cell? ⟨w2.heap.size, 3, none⟩ = some (.slice pd N cd) := by
          rw [← hW5, hN]
          exact (hb5.cell (p := ⟨w2.heap.size, 3, none⟩) (block_lt_of_cell n3)).trans n3
        have n0' := (hb5.cell (p := ⟨w2.heap.size, 0, none⟩) (block_lt_of_cell n0)).trans n0
        have n1' := (hb5.cell (p := ⟨w2.heap.size, 1, none⟩) (block_lt_of_cell n1)).trans n1
        have n2' := (hb5.cell (p := ⟨w2.heap.size, 2, none⟩) (block_lt_of_cell n2)).trans n2
        have p0' := (hb5.cell (p := ⟨w.heap.size + 1, 0, none⟩) (block_lt_of_cell p0)).trans p0
        have p1' := (hb5.cell (p := ⟨w.heap.size + 1, 1, none⟩) (block_lt_of_cell p1)).trans p1
        have p2' := (hb5.cell (p := ⟨w.heap.size + 1, 2, none⟩) (block_lt_of_cell p2)).trans p2
        rw [hW5] at n0' n1' n2' p0' p1' p2'
        rw [hN] at n3'
        have hkn : n.ks.length = N := by rw [hLen, hN]
        have HKN := Lib.hid hkn
        have HHN := Lib.hid hN
        clear hW5 hb5 hg5 hN hN2 hN8 hLen hMK hs35 n1 n2 n3 p0 p1 p2 hkd hkn
        go_wp2_with fail
        rw [← HW5.out]
        with_reducible refine HKD.out.mono ?_
        rintro e wk ⟨pq, cq, rfl, -, -, hkq, hbk⟩
        have hgk := (hbk.block _ (Array.getElem?_eq_some_iff.1 HG5.out).1).trans HG5.out
        have hb4k : Below w4.heap.size w4 wk := HB5.out.trans (hbk.mono HB5.out.size)
        have HKQ : Hid (KidsIn W5 deep pk N vb pq W5.heap.size wk) := fun j hj => by
          obtain ⟨g', x, y, h1, h2, h3, h4, h5, h6, h7⟩ := hkq j (by rw [HKN.out]; exact hj)
          rw [HKN.out] at h7
          exact ⟨g', x, y, h1, h2, h3, h4, h5, h6, h7⟩
        have HZ5 : Hid (w4.heap.size < W5.heap.size) := by unfold Hid; rw [HW5.out]; simp
        have H0 : Hid (LkInv F W g a o own w4 w4.heap.size (fun d k b => chkT F.K f d.off d.ct false k b) bound n.ks n.kids deep X (KidsIn W5 deep pk N vb pq W5.heap.size) (.int .i64 (0 : Nat)) wk) :=
          ⟨0, 0, o2, Nat.zero_le _, rfl, HT4.out.stay hb4k, Steps.of_below hb4k, hgk, Iff.rfl, HXN.out, HO2.out.1, by have := HO2.out.2; simp [sumK]; omega, by omega, HKQ.out⟩
        clear n0 n0' n1' n2' n3' p0' p1' p2' hkq hbk hgk hb4k HKD
        rw [HKN.out]
        go_wp2
        go_loopw [37] (fun i wr => LkInv F W g a o own w4 w4.heap.size (fun d k b => chkT F.K f d.off d.ct false k b) bound n.ks n.kids deep X (KidsIn W5 deep pk N vb pq W5.heap.size) i wr) (fun i _ => N - (intOf i).toNat)
        case atStart => exact H0.out
        case round =>
          clear H0 a0 a1 f0 f1
          obtain ⟨k, H, ok, hk, rfl, htf, hst, hgc, hHk, hXk, hok1, hok2, hH, hkr⟩ := hrel
          by_cases hlt : k < N
          · have hkl : k < n.kids.length := by rw [← HN.out]; exact hlt
            have hkk : k < n.ks.length := by rw [HLN.out]; exact hkl
            have hs3 : Steps own own W3 wr := (Steps.of_below HB4.out).trans hst
            have hs0 : Steps own own w wr := HS4.out.trans hst
            have hnd := HND.out wr hs3
            obtain ⟨lb, lo, rfl, hat⟩ := hnd.kids.some (by omega)
            obtain ⟨cs, hc, rfl, hd1, hd2⟩ := hat k hkl
            obtain ⟨e0, e1⟩ := hc.two
            simp only [KRef] at e0 e1
            obtain ⟨Dk, hDk⟩ : ∃ x, x = n.kids[k] := ⟨_, rfl⟩
            obtain ⟨Kk, hKk⟩ : ∃ x, x = n.ks[k] := ⟨_, rfl⟩
            obtain ⟨Nb, hNb⟩ : ∃ x, x = nextB n.ks k bound := ⟨_, rfl⟩
            rw [← hDk] at e0 e1 hd1 hd2
            obtain ⟨gq, ka, kb, rfl, hq1, hq2, hq3, hq4, hq5, hkp⟩ := hkr k hlt
            have hkp0 := hkp
            rw [← HKN.out] at hkp0
            obtain ⟨⟨xa, ya, za, rfl⟩, xb, yb, zb, rfl⟩ := hkp0.shape (HND.out W5 HS35.out).ks hkk (by
              obtain ⟨p, c, h, -⟩ := (HP.out w (Steps.refl _ _)).bound.any
              exact ⟨p, _, c, h⟩)
            clear hkp0
            obtain ⟨W6, hW6⟩ : ∃ W6, W6 = wr.alloc (.cells #[.int .i64 (deep + 1 : Nat), (.slice xa ya za), (.slice xb yb zb)] 98) := ⟨_, rfl⟩
            have hb6 : Below wr.heap.size wr W6 := by rw [hW6]; exact (Below.refl _ _).alloc (Nat.le_refl _) _
            have hg6 : W6.heap[wr.heap.size]? = some (.cells #[.int .i64 (deep + 1 : Nat), (.slice xa ya za), (.slice xb yb zb)] 98 (0, 0)) := by rw [hW6]; exact heap_alloc_new wr _
            have hS6 : Steps own own w4 W6 := hst.trans (Steps.of_below hb6)
            obtain ⟨R1, hR1⟩ : ∃ r, r = chkT F.K f Dk.off Dk.ct false Kk Nb := ⟨_, rfl⟩
            have hX1 : X = stepX H (fun x => kidsC (fun d k b => chkT F.K f d.off d.ct false k b) bound ((n.ks.zip n.kids).drop (k + 1)) x) R1 := by
              rw [hXk, kidsC_next HLN.out hkl, hR1, hDk, hKk, hNb]
              rfl
            have hR30 : ∀ x, R1 = some x → 1 ≤ x ∧ x ≤ 23 := fun x hx => by
              rw [hR1] at hx
              obtain ⟨l, hl, _⟩ := (chkT_iff HT4.out.small f Dk.off Dk.ct false Kk Nb x (fun h => by cases h)).1 hx
              have hg := docT_good HT4.out.small _ _ _ _ _ _ hl
              have := HFF.out; have := HFD.out
              exact ⟨hg.low, by have := hg.high; omega⟩
            have hmk := (mayKd_iff Dk).1 (by rw [hDk]; exact HMK.out _ (List.getElem_mem hkl))
            have hsum := sumK_take hkl
            have hsl := sumK_le n.kids (k + 1)
            have hsm := sum_may HM.out
            have hss : sumCt n.kids = sumK n.kids := by
              have : ∀ l : List NKd, sumCt l = sumK l := by
                intro l
                induction l with
                | nil => rfl
                | cons d r ih => rw [sumCt, sumK, ih]
              exact this _
            rw [← hDk] at hsum
            have HCT2 : Hid (sumK n.kids = ct) := by
              have := HCT.out
              unfold cntN at this
              rwa [hlf, if_neg (by decide)] at this
            obtain ⟨D, hD⟩ : ∃ D, D = if H = 0 then 0 else deep + H := ⟨_, rfl⟩
            rw [← hD] at hgc
            -- cells of the blocks that are asked for
            have hC : ∀ Wx, Steps own own W6 Wx → Wx.heap[w4.heap.size]? = some (.cells #[.int .i64 (D : Nat), .int .i64 0] 95 (0, 0)) ∧ Wx.heap[wr.heap.size]? = some (.cells #[.int .i64 (deep + 1 : Nat), (.slice xa ya za), (.slice xb yb zb)] 98 (0, 0)) ∧ NdAt Wx w2.heap.size n pi ci pk ck (some ⟨lb, lo, none⟩) cd ∧ Wx.heap[w.heap.size + 2]? = some (.cells #[.int .i64 0, .int .i64 0] 95 (0, 0)) ∧ Wx.cell? ⟨lb, lo + k * 2, none⟩ = some (.int .i64 Dk.off) ∧ Wx.cell? ⟨lb, lo + k * 2 + 1, none⟩ = some (.int .u64 (Dk.ct : Nat)) := fun Wx hWx => by
              have nn : ∀ j, w.heap.size ≤ j → own j = none := fun j hj => HH0.out.disk.new_none hj
              have l4 := HS4.out.size
              have lr := hs0.size
              have l2 := HS2.out.size
              have f1 := hgc
              have f3 := (hst.block _ HNW4.out.lt (.inl (nn _ l2))).trans HNW4.out
              have f4 := (hst.block _ (Array.getElem?_eq_some_iff.1 HG24.out).1 (.inl (nn _ (by omega)))).trans HG24.out
              have up : ∀ {j : Nat} {x : Obj}, w.heap.size ≤ j → wr.heap[j]? = some x → Wx.heap[j]? = some x := fun {j x} hj hx =>
                (((Steps.of_below hb6).trans hWx).block j (Array.getElem?_eq_some_iff.1 hx).1 (.inl (nn j hj))).trans hx
              have hnx := (HND.out Wx (hs3.trans ((Steps.of_below hb6).trans hWx))).kids
              obtain ⟨lb', lo', e', hat'⟩ := hnx.some (by omega)
              cases e'
              obtain ⟨cs', hc', rfl, -, -⟩ := hat' k hkl
              rw [← hDk] at hc'
              obtain ⟨e0', e1'⟩ := hc'.two
              simp only [KRef] at e0' e1'
              exact ⟨up l4 f1, (hWx.block _ (Array.getElem?_eq_some_iff.1 hg6).1 (.inl (nn _ lr))).trans hg6, up l2 f3, up (by omega) f4, e0', e1'⟩
            have HC := Lib.hid hC
            have hob2 : ok + (f + 1) * 35184372088832 < 4611686018427387904 := by
              have q1 := HOB.out; have q2 := HFF.out; have q3 := HN28.out
              omega
            have HLK : Hid (∀ (Wx : World), Below W6.heap.size W6 Wx → Calls Tryz.prog 39 #[.pointer (some ⟨g, 0, none⟩), .agg #[.int .i64 Dk.off, .int .u64 (Dk.ct : Nat)], .agg #[.int .i64 (deep + 1 : Nat), (.slice xa ya za), (.slice xb yb zb)]] Wx (LkTold F W g a ok own Wx f Dk.ct (deep + 1) R1)) := fun Wx hx => by
              have hst6 : ∀ {Wq}, Below W6.heap.size W6 Wq → Steps own own W3 Wq := fun hq => hs3.trans ((Steps.of_below hb6).trans (Steps.of_below hq))
              have := HIH.out f (by have := HFF.out; omega) (deep + 1) (by have := HFF.out; have := HFD.out; omega) (by omega) W Wx g a ok own Dk.off Dk.ct Kk Nb (.slice xa ya za) (.slice xb yb zb) ((htf.stay hb6).stay hx) hob2 (fun W' hW' => by
                rw [hKk, hNb]
                rw [← HKN.out] at hkp
                exact kid_place (fun W'' h'' => (HND.out W'' h'').ks) (fun j hj => HOWN.out j (.inl hj)) HP.out HS3.out HS35.out hkk hkp W' ((hst6 hx).trans hW'))
              rw [decide_eq_false (by have := HD1.out; omega), ← hR1] at this
              exact this
            have HFIN : Hid (∀ o', ok ≤ o' → o' ≤ ok + (f + 1) * 35184372088832 → (R1.isNone = false → o' + 1 ≤ ok + 2 * Dk.ct) → o ≤ o' ∧ o' ≤ o + (fuel + 1) * 35184372088832 ∧ (R1.isNone = false → o' + (k + 1) ≤ o + 1 + 2 * sumK (n.kids.take (k + 1)))) := fun o' h1 h2 h3 => by
              have q1 := HFF.out; have q2 := HN28.out
              refine ⟨by omega, by omega, fun h => ?_⟩
              have q3 := h3 h
              omega
            obtain ⟨DP, hDP⟩ : ∃ x, x = deep + 1 := ⟨_, rfl⟩
            obtain ⟨E, hE⟩ : ∃ x, x = dOf (deep + 1) R1 := ⟨_, rfl⟩
            obtain ⟨B2, hB2⟩ : ∃ x, x = andBad D E R1.isNone := ⟨_, rfl⟩
            obtain ⟨D2, hD2⟩ : ∃ x, x = if B2 = true then 0 else max D E := ⟨_, rfl⟩
            obtain ⟨N2, hN2⟩ : ∃ x, x = noOf B2 := ⟨_, rfl⟩
            obtain ⟨N1, hN1⟩ : ∃ x, x = noOf R1.isNone := ⟨_, rfl⟩
            have hAND := fun (Wx : World) => and_any (w := Wx) D E R1.isNone (by rw [hD]; split <;> omega) (by
              rw [hE]
              cases hr : R1 with
              | none => exact Nat.zero_lt_succ _
              | some x => have q1 := (hR30 x hr).2; have q2 : dOf (deep + 1) (some x) = deep + 1 + x - 1 := rfl; omega) (fun hb => by rw [hE]; exact dOf_none hb)
            unfold FnTold at hAND
            rw [← hB2, ← hD2, ← hN2, ← hN1] at hAND
            unfold LkTold at HLK
            rw [← hDP] at HLK HC hq3 hW6
            rw [hDP, ← hE, ← hN1, ← hDP] at HLK
            have HSA := Lib.hid (step_and HD1.out hD hE hR30 hX1 (B2 := B2) hB2)
            have HAND := Lib.hid hAND
            have HB6d : Hid (Below W6.heap.size W6 W6.drew) := (Below.refl _ _).drew
            have HS6 := Lib.hid hS6; have HW6 := Lib.hid hW6; have HTF := Lib.hid htf; have HST := Lib.hid hst
            have HD2 := Lib.hid hD2; have HN2 := Lib.hid hN2; have HLT := Lib.hid hlt; have HHK := Lib.hid hHk
            have hki : (k : Int) < N := by omega
            have HKRS : Hid (∀ Wx, Steps own own W6 Wx → KidsIn W5 deep pk N vb (some ⟨gq, 0, none⟩) W5.heap.size Wx) := fun Wx hWx => hkr.same ((Steps.of_below hb6).trans hWx).size (fun j hj hj2 => ((Steps.of_below hb6).trans hWx).block j hj2 (.inl (HH0.out.disk.new_none (by have := HS4.out.size; have := HZ5.out; omega))))
            clear hkr hkp hq1 hq2 e0 e1 hC hS6 hAND hX1 hR1 hR30 hmk hsum hsl hsm hss hob2 hnd hat hc hd1 hd2 hDk hKk hNb hs3 hs0 htf hst hgc hHk hXk hok1 hok2 hH hD hE hB2 hD2 hN2 hN1 hDP hg6 hb6 hW6 hlt hk
            go_wp2_with fail
            rw [← HW6.out]
            apply share
            · intro HTT
              obtain ⟨q1, q2, q4, q5, j0, j1⟩ := HC.out W6.drew (Steps.of_below HB6d.out)
              have i0 := cells_of q1 0; have i1 := cells_of q1 1
              have p0 := cells_of q2 0; have p1 := cells_of q2 1; have p2 := cells_of q2 2
              obtain ⟨n0, n1, n2, n3⟩ := q4.cells
              simp only [List.getElem?_toArray, List.getElem?_cons_zero, List.getElem?_cons_succ] at i0 i1 p0 p1 p2
              clear q1 q2 q4 q5
              go_region_law (first
                | (go_simp; go_at_call 39; (with_reducible refine (HLK.out _ HB6d.out).mono ?_); rintro e8 w8 ⟨o8, h81, h82, h83, hs8, ht8, rfl⟩; have HO8 := Lib.hid (HFIN.out o8 h81 h82 h83); have HS8 := Lib.hid ((Steps.of_below HB6d.out).trans hs8); have HT8 := Lib.hid ht8; clear h81 h82 h83 hs8 ht8 i0 i1 j0 j1 p0 p1 p2 n0 n1 n2 n3; obtain ⟨q1, q2, q4, q5, -, -⟩ := HC.out _ HS8.out; have i0 := cells_of q1 0; have i1 := cells_of q1 1; simp only [List.getElem?_toArray, List.getElem?_cons_zero, List.getElem?_cons_succ] at i0 i1; clear q1 q2 q4 q5)
                | (go_simp; go_at_call 69; (with_reducible refine (HAND.out _).mono ?_); rintro e9 w9 ⟨rfl, hb9⟩; have HS9 := Lib.hid (HS8.out.trans (Steps.of_below hb9)); have HT9 := Lib.hid (HT8.out.stay hb9); clear hb9 i0 i1; obtain ⟨q1, q2, q4, q5, -, -⟩ := HC.out _ HS9.out; have HQ1 := Lib.hid q1; have HQ5 := Lib.hid q5; have i0 := cells_of q1 0; have i1 := cells_of q1 1; have k0 := cells_of q5 0; have k1 := cells_of q5 1; have f0 := free_of q1 0; have f1 := free_of q1 1; have f2 := free_of q5 0; have f3 := free_of q5 1; simp only [List.getElem?_toArray, List.getElem?_cons_zero, List.getElem?_cons_succ] at i0 i1 k0 k1; clear q1 q2 q4 q5))
              all_goals
                clear i0 i1 k0 k1 f0 f1 f2 f3 HT8
                revert HO8 HS9 HT9 HQ1 HQ5
                revert o8 w9
                exact HTT
            · intro o8 w9 HO8 HS9 HT9 HQ1 HQ5
              clear HLK HAND HFIN
              have hkr9 := HKRS.out w9 HS9.out
              obtain ⟨Wf, hWf⟩ : ∃ Wf, Wf = (w9.setCell ⟨w4.heap.size, 0, none⟩ (.int .i64 (D2 : Nat))).setCell ⟨w4.heap.size, 1, none⟩ (.int .i64 N2) := ⟨_, rfl⟩
              have hGf : Wf.heap[w4.heap.size]? = some (.cells #[.int .i64 (D2 : Nat), .int .i64 N2] 95 (0, 0)) := by rw [hWf]; exact set2 HQ1.out _ _
              have hJG : w.heap.size + 2 ≠ w4.heap.size := by have h1 := HS2.out.size; have h2 := HB4.out.size; have h3 := HZ3.out; have h4 := (Array.getElem?_eq_some_iff.1 HG24.out).1; omega
              have hJf : Wf.heap[w.heap.size + 2]? = some (.cells #[.int .i64 0, .int .i64 0] 95 (0, 0)) := by
                rw [hWf]
                exact ((Below.heap_setCell _ _ _ _ hJG).trans (Below.heap_setCell _ _ _ _ hJG)).trans HQ5.out
              have hs4f : Steps own own w4 Wf := by rw [hWf]; exact steps_set_new (steps_set_new (HS6.out.trans HS9.out) (Nat.le_refl _) 0 _) (Nat.le_refl _) 1 _
              have htff : Tf F W g a o8 own Wf := by rw [hWf]; exact (fn_set HH0.out (HS4.out.trans (HS6.out.trans HS9.out)) HT9.out (b := w4.heap.size) (Nat.le_trans HS2.out.size (by have h2 := HB4.out.size; have h3 := HZ3.out; omega)) _ _).2
              have g0 := cells_of hGf 0
              have g1 := cells_of hGf 1
              have k0 := cells_of hJf 0
              have k1 := cells_of hJf 1
              have f2 := free_of hJf 0
              have f3 := free_of hJf 1
              simp only [List.getElem?_toArray, List.getElem?_cons_zero, List.getElem?_cons_succ] at g0 g1 k0 k1
              have hkrf : KidsIn W5 deep pk N vb (some ⟨gq, 0, none⟩) W5.heap.size Wf := hkr9.same (by rw [hWf]; simp) (fun j hj _ => by
                rw [hWf]
                exact (Below.heap_setCell _ _ _ _ (by show j ≠ w4.heap.size; have := HZ5.out; omega)).trans (Below.heap_setCell _ _ _ _ (by show j ≠ w4.heap.size; have := HZ5.out; omega)))
              have HKRF := Lib.hid hkrf
              have HWf := Lib.hid hWf
              have HGf := Lib.hid hGf; have HJf := Lib.hid hJf; have HS4f := Lib.hid hs4f; have HTf := Lib.hid htff
              clear hWf hGf hJG hJf hs4f htff HQ1 HQ5 HS9 HT9 hkr9 hkrf
              rw [← HWf.out]
              cases hb2 : B2 with
              | true =>
                have hX0 := HSA.out.1 hb2
                have hD0 : D2 = 0 := by rw [HD2.out, if_pos hb2]
                have hN0 : N2 = 2 := by rw [HN2.out, hb2]; rfl
                subst hD0 hN0
                obtain ⟨e1, e2⟩ := fn_set HH0.out (HS4.out.trans HS4f.out) HTf.out (b := w.heap.size + 2) (by omega) (.int .i64 0) (.int .i64 2)
                have HF : Hid (LkTold F W g a o own w fuel ct deep X (.returned (.agg #[.int .i64 0, .int .i64 2])) ((Wf.setCell ⟨w.heap.size + 2, 0, none⟩ (.int .i64 0)).setCell ⟨w.heap.size + 2, 1, none⟩ (.int .i64 2))) := by
                  rw [hX0]
                  exact ⟨o8, HO8.out.1, HO8.out.2.1, fun h => (by cases h), e1, e2, rfl⟩
                have HX := Lib.hid (set2 HJf.out (.int .i64 0) (.int .i64 2))
                clear e1 e2 hX0 hb2
                go_wp2
                exact bodyPost_ret (look_ret rfl HX.out rfl) rfl HF.out
              | false =>
                obtain ⟨x, hx1, hx2, hx3, hx4, hx5⟩ := HSA.out.2 hb2
                have hD0 : D2 = deep + x := by rw [HD2.out, hb2, if_neg (by decide), hx3]
                have hN0 : N2 = 0 := by rw [HN2.out, hb2]; rfl
                subst hN0
                have HNX : Hid (LkInv F W g a o own w4 w4.heap.size (fun d k b => chkT F.K f d.off d.ct false k b) bound n.ks n.kids deep X (KidsIn W5 deep pk N vb (some ⟨gq, 0, none⟩) W5.heap.size) (.int .i64 (k + 1 : Nat)) Wf) :=
                  ⟨k + 1, x, o8, by have := HN.out; have := HLT.out; omega, rfl, HTf.out, HS4f.out, by rw [if_neg (by omega), ← hD0]; exact HGf.out, by omega, hx2, HO8.out.1, HO8.out.2.2 (by rw [hx1]; rfl), by omega, HKRF.out⟩
                clear hx1 hx2 hx3 hx4 hx5 hD0 hb2
                go_wp2
                go_roundw
                case rel => exact HNX.out
                case measure => simp [intOf]; have := HLT.out; omega
          · have hkN : k = N := by have := HN.out; omega
            have hHne : H ≠ 0 := by have := HN28.out; have := HN.out; omega
            have hXf : X = some (H + 1) := by rw [hXk]; exact kidsC_end HLN.out (by rw [← HN.out]; exact hkN)
            rw [if_neg hHne] at hgc
            obtain ⟨D, hD⟩ : ∃ D, D = deep + H := ⟨_, rfl⟩
            rw [← hD] at hgc
            have hnn : own (w.heap.size + 2) = none := HH0.out.disk.new_none (by omega)
            have hgJ : wr.heap[w.heap.size + 2]? = some (.cells #[.int .i64 0, .int .i64 0] 95 (0, 0)) := (hst.block _ (Array.getElem?_eq_some_iff.1 HG24.out).1 (.inl hnn)).trans HG24.out
            have g0 := cells_of hgc 0
            have g1 := cells_of hgc 1
            have k0 := cells_of hgJ 0
            have k1 := cells_of hgJ 1
            have f2 := free_of hgJ 0
            have f3 := free_of hgJ 1
            simp only [List.getElem?_toArray, List.getElem?_cons_zero, List.getElem?_cons_succ] at g0 g1 k0 k1
            obtain ⟨e1, e2⟩ := fn_set HH0.out (HS4.out.trans hst) htf (b := w.heap.size + 2) (by omega) (.int .i64 (D : Nat)) (.int .i64 0)
            have HF : Hid (LkTold F W g a o own w fuel ct deep X (.returned (.agg #[.int .i64 (D : Nat), .int .i64 0])) ((wr.setCell ⟨w.heap.size + 2, 0, none⟩ (.int .i64 (D : Nat))).setCell ⟨w.heap.size + 2, 1, none⟩ (.int .i64 0))) := by
              rw [hXf]
              have hsm := sum_may HM.out
              have hss : sumCt n.kids = sumK n.kids := by
                have : ∀ l : List NKd, sumCt l = sumK l := by
                  intro l
                  induction l with
                  | nil => rfl
                  | cons d r ih => rw [sumCt, sumK, ih]
                exact this _
              have hct : sumK n.kids = ct := by
                have := HCT.out
                unfold cntN at this
                rwa [hlf, if_neg (by decide)] at this
              rw [List.take_of_length_le (by rw [← HN.out]; omega)] at hok2
              have q1 := HN28.out; have q2 := HN.out
              exact ⟨ok, hok1, by omega, fun _ => by omega, e1, e2, by rw [hD]; rfl⟩
            have HX := Lib.hid (set2 hgJ (.int .i64 (D : Nat)) (.int .i64 0))
            clear e1 e2 hgJ hgc hst htf hXk hok1 hok2 hH hHk hXf hHne hD hlt hk hnn
            subst hkN
            go_wp2
            exact bodyPost_ret (look_ret rfl HX.out rfl) rfl HF.out
end Go.Proofs.YtdbgihpognfhdaaGreat.Sl.Nd
/- Trees in a program: Check; a key is sought among keys. -/
namespace Go.By
open Go Go.RowKit
def chkAll (K : List Nat) (off : Int) (ct : Nat) : Option Nat := if off = 0 ∧ ct = 0 then some 0 else chkT K 22 off ct true [] []
end Go.By
namespace Go.Proofs.YtdbgihpognfhdaaGreat.Sl.Nd
open Go Go.RowKit Go.By
set_option maxRecDepth 100000 in
theorem isEmpty_any (o : Int) (c : Nat) (w : World) : Calls Tryz.prog 38 #[.agg #[.int .i64 o, .int .u64 (c : Nat)]] w fun e w' => e = .returned (.bool (decide (o = 0 ∧ c = 0))) ∧ Below w.heap.size w w' := by
  have HB := Lib.hid ((Below.refl w.heap.size w).alloc (Nat.le_refl _) (.cells #[.int .i64 o, .int .u64 (c : Nat)] 25))
  have HX : Hid (∀ b, b = decide (o = 0 ∧ c = 0) → (Ending.returned (.bool b) = .returned (.bool (decide (o = 0 ∧ c = 0))) ∧ Below w.heap.size w (w.alloc (.cells #[.int .i64 o, .int .u64 (c : Nat)] 25)))) := fun b h => ⟨by rw [h], HB.out⟩
  by_cases h1 : o = 0
  · by_cases h2 : c = 0
    · have HX1 := Lib.hid (HX.out true (by rw [decide_eq_true ⟨h1, h2⟩]))
      have e1 : (o == 0) = true := by rw [h1]; rfl
      have e2 : ((c : Int) == 0) = true := by rw [h2]; rfl
      clear HX h1 h2 HB
      obtain ⟨X, hX⟩ : ∃ X, X = decide (o = 0 ∧ c = 0) := ⟨_, rfl⟩
      rw [← hX] at HX1 ⊢
      clear hX
      go_enter Tryz.func38, Tryz.ntmps38
      go_wp2
      all_goals (go_ret; exact HX1.out)
    · have HX1 := Lib.hid (HX.out false (by rw [decide_eq_false (fun h => h2 h.2)]))
      have e1 : (o == 0) = true := by rw [h1]; rfl
      have e2 : ((c : Int) == 0) = false := by simp; omega
      clear HX h1 h2 HB
      obtain ⟨X, hX⟩ : ∃ X, X = decide (o = 0 ∧ c = 0) := ⟨_, rfl⟩
      rw [← hX] at HX1 ⊢
      clear hX
      go_enter Tryz.func38, Tryz.ntmps38
      go_wp2
      all_goals (go_ret; exact HX1.out)
  · have HX1 := Lib.hid (HX.out false (by rw [decide_eq_false (fun h => h1 h.1)]))
    have e1 : (o == 0) = false := by simpa using h1
    clear HX h1 HB
    obtain ⟨X, hX⟩ : ∃ X, X = decide (o = 0 ∧ c = 0) := ⟨_, rfl⟩
    rw [← hX] at HX1 ⊢
    clear hX
    go_enter Tryz.func38, Tryz.ntmps38
    go_wp2
    all_goals (go_ret; exact HX1.out)
def SrRel (w : World) (ks : List (List Nat)) (key : List Nat) (i j : Value) (W : World) : Prop :=
  ∃ x y : Nat, x ≤ y ∧ y ≤ ks.length ∧ i = .int .i64 x ∧ j = .int .i64 y ∧ W = w ∧ (∀ k (h : k < ks.length), k < x → lessN ks[k] key = true) ∧ (∀ k (h : k < ks.length), y ≤ k → lessN ks[k] key = false)
set_option maxRecDepth 100000 in
set_option maxHeartbeats 1000000 in
theorem search_any {w : World} {p : Option Addr} {c : Nat} {ks : List (List Nat)} {kv : Value} {key : List Nat} (hk : RowAt KBytes w p c ks) (hkv : Bytes w kv key) (h8 : ks.length ≤ 8) (hr : ks.Pairwise (fun a b => lessN a b = true)) :
    Calls Tryz.prog 72 #[.slice p ks.length c, kv, .func (.func 74) #[] #[]] w fun e w' => e = .returned (.tuple #[.int .i64 (atN ks key : Nat), .bool (isN ks key)]) ∧ w = w' := by
  have H0 : Hid (SrRel w ks key (.int .i64 (0 : Nat)) (.int .i64 (ks.length : Nat)) w) := ⟨0, ks.length, Nat.zero_le _, Nat.le_refl _, rfl, rfl, rfl, fun k _ h => absurd h (Nat.not_lt_zero _), fun k h h2 => absurd h (by omega)⟩
  have HK := Lib.hid hk; have HV := Lib.hid hkv; have HR := Lib.hid hr; have H8 := Lib.hid h8
  obtain ⟨qk, ck, rfl, -⟩ := hkv.any
  obtain ⟨N, hN⟩ : ∃ N, N = ks.length := ⟨_, rfl⟩
  have HN := Lib.hid hN
  have hN8 : (N : Int) ≤ 8 := by omega
  obtain ⟨A, hA⟩ : ∃ A, A = atN ks key := ⟨_, rfl⟩
  obtain ⟨I, hI⟩ : ∃ I, I = isN ks key := ⟨_, rfl⟩
  have HA := Lib.hid hA; have HI := Lib.hid hI
  rw [← hA, ← hI]
  rw [← hN] at H0 ⊢
  obtain ⟨KL, hKL⟩ : ∃ l, l = key.length := ⟨_, rfl⟩
  have HKL := Lib.hid hKL
  rw [← hKL] at HV ⊢
  clear hk hkv hr h8 hN hA hI hKL
  go_enter Tryz.func72, Tryz.ntmps72
  go_wp2
  go_loopw [9, 10] (fun i j W => SrRel w ks key i j W) (fun i j _ => (intOf j).toNat - (intOf i).toNat)
  case atStart => exact H0.out
  case round =>
    clear H0
    obtain ⟨x, y, hxy, hy, rfl, rfl, rfl, hlo, hhi⟩ := hrel
    by_cases hlt : x < y
    · have hyN : y ≤ N := by rw [HN.out]; exact hy
      obtain ⟨s, hs⟩ : ∃ s, s = x + y := ⟨_, rfl⟩
      obtain ⟨m, hm⟩ : ∃ m, m = s / 2 := ⟨_, rfl⟩
      have w1 : wrap64 ((x : Int) + (y : Int)) = (s : Int) := by unfold wrap64; omega
      have w2 : IntKind.u64.wrap (s : Int) = (s : Int) := by rw [IntKind.wrap_u64]; omega
      have w3 : (s : Int) / 2 = (m : Int) := by omega
      have w4 : wrap64 (m : Int) = (m : Int) := wrap64_nat (by omega)
      have hmk : m < ks.length := by omega
      have hmN : (m : Int) < N := by omega
      obtain ⟨lb, lo, rfl, hat⟩ := HK.out.some (by omega)
      obtain ⟨cs, hc, a, rfl, ha⟩ := hat m hmk
      have e0 := hc.one
      simp only [KBytes, Nat.mul_one] at e0
      have HCM := Lib.hid (compare_any _ _ _ _ wr ha HV.out)
      have HLS : Hid (decide (cmpN ks[m] key < 0) = lessN ks[m] key) := cmpN_less ha.small HV.out.small
      obtain ⟨qa, ca, rfl, -⟩ := ha.any
      have HLO := Lib.hid hlo; have HHI := Lib.hid hhi; have HX := Lib.hid hlt; have HY := Lib.hid hy
      have HMM : Hid (x ≤ m ∧ m < y) := ⟨by omega, by omega⟩
      have HPW : Hid (∀ k (h : k < ks.length), (k < m → lessN ks[m] key = true → lessN ks[k] key = true) ∧ (m < k → lessN ks[m] key = false → lessN ks[k] key = false)) := fun k h => ⟨fun h1 h2 => lessN_trans (List.pairwise_iff_getElem.1 HR.out k m h hmk h1) h2, fun h1 h2 => by
        cases h3 : lessN ks[k] key with
        | false => rfl
        | true => rw [lessN_trans (List.pairwise_iff_getElem.1 HR.out m k hmk h h1) h3] at h2; cases h2⟩
      clear hs hm ha hc hat hlo hhi hlt hy hxy hyN
      generalize cmpN ks[m] key = z at *
      generalize ks[m].length = l1 at *
      go_wp2_with fail
      refine HCM.out.mono ?_
      rintro e w2 ⟨rfl, rfl⟩
      cases hl : decide (z < 0) with
      | true =>
        have hl2 : lessN ks[m] key = true := by rw [← HLS.out, hl]
        have hz : z < 0 := of_decide_eq_true hl
        have w5 : True := trivial
        have HNX : Hid (SrRel w2 ks key (.int .i64 ((m : Int) + 1)) (.int .i64 (y : Nat)) w2) := ⟨m + 1, y, by have := HMM.out; omega, HY.out, rfl, rfl, rfl, fun k h hk => by
          by_cases hkm : k = m
          · subst hkm; exact hl2
          · exact (HPW.out k h).1 (by omega) hl2, HHI.out⟩
        have HME : Hid (y - (m + 1) < y - x) := by have := HMM.out; unfold Hid; omega
        clear hl2 hl w5
        go_wp2
        go_roundw
        case rel => exact HNX.out
        case measure => simp [intOf]; have := HME.out; omega
      | false =>
        have hl2 : lessN ks[m] key = false := by rw [← HLS.out, hl]
        have hz : ¬ z < 0 := of_decide_eq_false hl
        have HNX : Hid (SrRel w2 ks key (.int .i64 (x : Nat)) (.int .i64 (m : Nat)) w2) := ⟨x, m, HMM.out.1, by omega, rfl, rfl, rfl, HLO.out, fun k h hk => by
          by_cases hkm : k = m
          · subst hkm; exact hl2
          · exact (HPW.out k h).2 (by omega) hl2⟩
        have HME : Hid (m - x < y - x) := by have := HMM.out; unfold Hid; omega
        clear hl2 hl
        go_wp2
        go_roundw
        case rel => exact HNX.out
        case measure => simp [intOf]; have := HME.out; omega
    · obtain rfl : x = y := by omega
      have hA : A = x := by
        rw [HA.out]
        exact atN_of hy hlo (fun h => hhi x h (Nat.le_refl _))
      by_cases hxN : x < N
      · have hxk : x < ks.length := by rw [← HN.out]; exact hxN
        obtain ⟨lb, lo, rfl, hat⟩ := HK.out.some (by omega)
        obtain ⟨cs, hc, a, rfl, ha⟩ := hat x hxk
        have e0 := hc.one
        simp only [KBytes, Nat.mul_one] at e0
        have HCM := Lib.hid (compare_any _ _ _ _ wr ha HV.out)
        have hI : I = (cmpN ks[x] key == 0) := by
          rw [cmpN_zero ha.small HV.out.small, HI.out]
          unfold isN
          rw [← HA.out, hA, List.getElem?_eq_getElem hxk, decide_eq_decide, Option.some.injEq]
        have HIZ := Lib.hid hI
        obtain ⟨qa, ca, rfl, -⟩ := ha.any
        have hxi : (x : Int) < N := by omega
        subst hA
        clear hI ha hc hat hlo hhi hlt hy hxy hxN
        generalize cmpN ks[A] key = z at *
        generalize ks[A].length = l1 at *
        clear hxk
        go_wp2_with fail
        refine HCM.out.mono ?_
        rintro e w2 ⟨rfl, rfl⟩
        go_wp2
        go_ret2
        exact ⟨by rw [HIZ.out]; rfl, rfl⟩
      · have hI : I = false := by
          rw [HI.out]
          unfold isN
          rw [← HA.out, hA, List.getElem?_eq_none (by rw [← HN.out]; omega)]
          rfl
        have hxi : ¬ (x : Int) < N := by omega
        subst hA hI
        clear hlo hhi hlt hy hxy hxN
        go_wp2
        go_ret2
        exact ⟨rfl, rfl⟩
def ChkTold (F : FS) (W : World) (g a o : Nat) (own : Own) (w : World) (r : Option Nat) (z : Ending) (w' : World) : Prop :=
  ∃ o', o ≤ o' ∧ o' ≤ o + 23 * 35184372088832 ∧ Steps own own w w' ∧ Tf F W g a o' own w' ∧ z = .returned (.tuple #[.int .i64 (r.getD 0 : Nat), .int .i64 (noOf r.isNone)])
theorem dOf_top (r : Option Nat) : dOf 1 r = r.getD 0 := by
  cases r with
  | none => rfl
  | some h => show 1 + h - 1 = h; omega
set_option maxRecDepth 100000 in
set_option maxHeartbeats 1000000 in
theorem check_any {F : FS} {W w : World} {g a o : Nat} {own : Own} (h : Tf F W g a o own w) (hF : F.Ok) (ho : o < 2305843009213693952) (off : Int) (ct : Nat) :
    Calls Tryz.prog 15 #[.pointer (some ⟨g, 0, none⟩), .agg #[.int .i64 off, .int .u64 (ct : Nat)]] w (ChkTold F W g a o own w (chkAll F.K off ct)) := by
  obtain ⟨X, hX⟩ : ∃ X, X = chkAll F.K off ct := ⟨_, rfl⟩
  rw [← hX]
  obtain ⟨W1, hW1⟩ : ∃ W1, W1 = w.alloc (.cells #[.int .i64 off, .int .u64 (ct : Nat)] 25) := ⟨_, rfl⟩
  have hb1 : Below w.heap.size w W1 := by rw [hW1]; exact (Below.refl _ _).alloc (Nat.le_refl _) _
  have g0 : W1.heap[w.heap.size]? = some (.cells #[.int .i64 off, .int .u64 (ct : Nat)] 25 (0, 0)) := by rw [hW1]; exact heap_alloc_new w _
  have HEM := Lib.hid (isEmpty_any off ct W1)
  have HXX := Lib.hid hX; have HW1 := Lib.hid hW1; have HB1 := Lib.hid hb1; have HG0 := Lib.hid g0
  have HH := Lib.hid h
  obtain ⟨b, hb⟩ : ∃ b, b = decide (off = 0 ∧ ct = 0) := ⟨_, rfl⟩
  rw [← hb] at HEM
  have HBB := Lib.hid hb
  have r0 := cells_of g0 0
  have r1 := cells_of g0 1
  simp only [List.getElem?_toArray, List.getElem?_cons_zero, List.getElem?_cons_succ] at r0 r1
  rw [hW1] at r0 r1
  have HO := Lib.hid ho
  clear hX hW1 hb1 g0 h ho hb
  go_enter Tryz.func15, Tryz.ntmps15
  go_wp2_with fail
  rw [← HW1.out]
  refine HEM.out.mono ?_
  rintro e w2 ⟨rfl, hb2⟩
  have HB2 : Hid (Below w.heap.size w w2) := HB1.out.trans (hb2.mono HB1.out.size)
  have HL12 : Hid (W1.heap.size ≤ w2.heap.size) := hb2.size
  have hg2 := (hb2.block _ (Array.getElem?_eq_some_iff.1 HG0.out).1).trans HG0.out
  clear r0 r1
  have r0 := cells_of hg2 0
  have r1 := cells_of hg2 1
  simp only [List.getElem?_toArray, List.getElem?_cons_zero, List.getElem?_cons_succ] at r0 r1
  clear hb2 hg2
  cases b with
  | true =>
    have hem := of_decide_eq_true HBB.out.symm
    have HF : Hid (ChkTold F W g a o own w X (.returned (.tuple #[.int .i64 0, .int .i64 0])) w2) := by
      have : X = some 0 := by rw [HXX.out]; unfold chkAll; rw [if_pos hem]
      rw [this]
      exact ⟨o, Nat.le_refl _, by omega, Steps.of_below HB2.out, HH.out.stay HB2.out, rfl⟩
    clear hem
    go_wp2
    go_ret2
    exact HF.out
  | false =>
    have hem := of_decide_eq_false HBB.out.symm
    have hX2 : X = chkT F.K 22 off ct true [] [] := by rw [HXX.out]; unfold chkAll; rw [if_neg hem]
    have HLK0 : Hid (∀ Wx, Steps own own w2 Wx → Tf F W g a o own Wx → Calls Tryz.prog 39 #[.pointer (some ⟨g, 0, none⟩), .agg #[.int .i64 off, .int .u64 (ct : Nat)], .agg #[.int .i64 1, .slice none 0 0, .slice none 0 0]] Wx (LkTold F W g a o own Wx 22 ct 1 X)) := fun Wx _ hx => by
      have hlk := look_any F hF 22 1 rfl (Nat.le_refl _) W Wx g a o own off ct [] [] (.slice none 0 0) (.slice none 0 0) hx (by have := HO.out; omega) (fun W' _ => ⟨rfl, Bytes.nil _, Bytes.nil _⟩)
      rw [decide_eq_true rfl, ← hX2] at hlk
      exact hlk
    obtain ⟨D, hD⟩ : ∃ D, D = X.getD 0 := ⟨_, rfl⟩
    have HLK : Hid (∀ Wx, Steps own own w2 Wx → Tf F W g a o own Wx → Calls Tryz.prog 39 #[.pointer (some ⟨g, 0, none⟩), .agg #[.int .i64 off, .int .u64 (ct : Nat)], .agg #[.int .i64 1, .slice none 0 0, .slice none 0 0]] Wx (fun z w' => ∃ o', o ≤ o' ∧ o' ≤ o + 23 * 35184372088832 ∧ Steps own own Wx w' ∧ Tf F W g a o' own w' ∧ z = .returned (.agg #[.int .i64 (D : Nat), .int .i64 (noOf X.isNone)]))) := fun Wx h1 h2 => (HLK0.out Wx h1 h2).mono (by
      rintro z w' ⟨o', q1, q2, -, q4, q5, q6⟩
      rw [dOf_top, ← hD] at q6
      exact ⟨o', q1, q2, q4, q5, q6⟩)
    have HD := Lib.hid hD
    have HDN : Hid (X.isNone = true → D = 0) := fun h => by rw [hD]; cases X with
      | none => rfl
      | some _ => cases h
    have HG2 : Hid (∀ Wx, Below w2.heap.size w2 Wx → Wx.cell? ⟨w.heap.size, 0, none⟩ = some (.int .i64 off) ∧ Wx.cell? ⟨w.heap.size, 1, none⟩ = some (.int .u64 (ct : Nat))) := fun Wx hx => ⟨(hx.cell (p := ⟨w.heap.size, 0, none⟩) (block_lt_of_cell r0)).trans r0, (hx.cell (p := ⟨w.heap.size, 1, none⟩) (block_lt_of_cell r1)).trans r1⟩
    have HT2 : Hid (Tf F W g a o own w2) := HH.out.stay HB2.out
    have HRT := Lib.hid root_any
    clear hem hX2 hD HLK0
    obtain ⟨NO, hNO⟩ : ∃ x, x = noOf X.isNone := ⟨_, rfl⟩
    rw [← hNO] at HLK
    have HNO := Lib.hid hNO
    clear hNO
    have HB2d : Hid (Below w2.heap.size w2 w2.drew) := (Below.refl _ _).drew
    go_wp2_with fail
    clear r0 r1
    have l2 : w.heap.size < w2.heap.size := Nat.lt_of_lt_of_le (Array.getElem?_eq_some_iff.1 HG0.out).1 (by have h := HB2.out.size; have h2 : W1.heap.size = w.heap.size + 1 := (by rw [HW1.out]; simp); have h3 := HL12.out; omega)
    have HNN2 : Hid (∀ k, w2.heap.size ≤ k → own k = none) := fun k hk => HT2.out.disk.new_none hk
    apply share
    · intro HTT
      obtain ⟨k0, k1⟩ := HG2.out w2.drew HB2d.out
      obtain ⟨r0, r1⟩ := HG2.out w2 (Below.refl _ _)
      go_region_law (first
        | (go_simp; go_at_call 40; (with_reducible refine (HRT.out _).mono ?_); (rintro e5 w5 ⟨rfl, hb5⟩); (have HB5 : Hid (Below w2.heap.size w2 w5) := (by first | exact HB2d.out.trans (hb5.mono HB2d.out.size) | exact (HB2d.out.alloc (by simp) _).trans (hb5.mono (by simp)))); (first | (have HA5 : Hid (w5.heap[w2.heap.size]? = some (.cells #[.int .i64 0, .int .i64 0] 95 (0, 0))) := (hb5.block _ (by simp)).trans (heap_alloc_new w2.drew _)) | skip); (have l5 : w.heap.size < w5.heap.size := Nat.lt_of_lt_of_le l2 HB5.out.size); clear hb5 k0 k1; (obtain ⟨k0, k1⟩ := HG2.out w5 HB5.out))
        | (go_simp; go_at_call 39; (first | (with_reducible refine (HLK.out _ (Steps.of_below HB5.out) (HT2.out.stay HB5.out)).mono ?_) | (with_reducible refine (HLK.out _ (Steps.of_below (HB5.out.alloc HB5.out.size _)) (HT2.out.stay (HB5.out.alloc HB5.out.size _))).mono ?_)); (rintro e8 w8 ⟨o8, h81, h82, hs8, ht8, rfl⟩); (have HO8 : Hid (o ≤ o8 ∧ o8 ≤ o + 23 * 35184372088832) := ⟨h81, h82⟩); (have HT8 := Lib.hid ht8); (have HS8 : Hid (Steps own own w2 w8) := (by first | exact (Steps.of_below HB5.out).trans hs8 | exact (Steps.of_below (HB5.out.alloc HB5.out.size _)).trans hs8)); (first | (have HA8 : Hid (w8.heap[w2.heap.size]? = some (.cells #[.int .i64 0, .int .i64 0] 95 (0, 0))) := (hs8.block _ (Array.getElem?_eq_some_iff.1 HA5.out).1 (.inl (HNN2.out _ (Nat.le_refl _)))).trans HA5.out) | (have HA8 : Hid (w8.heap[w5.heap.size]? = some (.cells #[.int .i64 0, .int .i64 0] 95 (0, 0))) := (hs8.block _ (by simp) (.inl (HNN2.out _ HB5.out.size))).trans (heap_alloc_new w5 _)) | skip); clear h81 h82 hs8 ht8 k0 k1 r0 r1; (first | (have a0 := cells_of HA8.out 0; have a1 := cells_of HA8.out 1; have f0 := free_of HA8.out 0; have f1 := free_of HA8.out 1; simp only [List.getElem?_toArray, List.getElem?_cons_zero, List.getElem?_cons_succ] at a0 a1) | skip)))
      all_goals
        first
          | (obtain ⟨w9, hw9⟩ : ∃ w9, w9 = w8.alloc (.cells #[.int .i64 (D : Nat), .int .i64 NO] 95) := ⟨_, rfl⟩
             rw [← hw9]
             have HG9 : Hid (w9.heap[w8.heap.size]? = some (.cells #[.int .i64 (D : Nat), .int .i64 NO] 95 (0, 0))) := by unfold Hid; rw [hw9]; exact heap_alloc_new w8 _
             have hb9 : Below w8.heap.size w8 w9 := by rw [hw9]; exact (Below.refl _ _).alloc (Nat.le_refl _) _
             have HS9 : Hid (Steps own own w2 w9) := HS8.out.trans (Steps.of_below hb9)
             have HT9 := Lib.hid (HT8.out.stay hb9)
             clear hw9 hb9
             generalize w8.heap.size = A at HG9 ⊢)
          | (obtain ⟨w9, hw9⟩ : ∃ w9, w9 = (w8.setCell ⟨w5.heap.size, 0, none⟩ (.int .i64 (D : Nat))).setCell ⟨w5.heap.size, 1, none⟩ (.int .i64 NO) := ⟨_, rfl⟩
             rw [← hw9]
             have HG9 : Hid (w9.heap[w5.heap.size]? = some (.cells #[.int .i64 (D : Nat), .int .i64 NO] 95 (0, 0))) := by unfold Hid; rw [hw9]; exact set2 HA8.out _ _
             have hst9 := fn_set HT2.out HS8.out HT8.out (b := w5.heap.size) HB5.out.size (.int .i64 (D : Nat)) (.int .i64 NO)
             rw [← hw9] at hst9
             have HS9 := Lib.hid hst9.1
             have HT9 := Lib.hid hst9.2
             clear hw9 hst9 a0 a1 f0 f1 HA8
             generalize w5.heap.size = A at HG9 ⊢)
          | (obtain ⟨w9, hw9⟩ : ∃ w9, w9 = (w8.setCell ⟨w2.heap.size, 0, none⟩ (.int .i64 (D : Nat))).setCell ⟨w2.heap.size, 1, none⟩ (.int .i64 NO) := ⟨_, rfl⟩
             rw [← hw9]
             have HG9 : Hid (w9.heap[w2.heap.size]? = some (.cells #[.int .i64 (D : Nat), .int .i64 NO] 95 (0, 0))) := by unfold Hid; rw [hw9]; exact set2 HA8.out _ _
             have hst9 := fn_set HT2.out HS8.out HT8.out (b := w2.heap.size) (Nat.le_refl _) (.int .i64 (D : Nat)) (.int .i64 NO)
             rw [← hw9] at hst9
             have HS9 := Lib.hid hst9.1
             have HT9 := Lib.hid hst9.2
             clear hw9 hst9 a0 a1 f0 f1 HA8
             generalize w2.heap.size = A at HG9 ⊢)
      all_goals
        clear HT8 HS8
        revert HG9 HO8 HS9 HT9
        revert A o8 w9
        exact HTT
    · intro o8 w9 A HO8 HS9 HT9 HG9
      have hst4 : Steps own own w w9 := (Steps.of_below HB2.out).trans HS9.out
      have HF : Hid (∀ W', Below w9.heap.size w9 W' → ChkTold F W g a o own w X (.returned (.tuple #[.int .i64 (D : Nat), .int .i64 (noOf X.isNone)])) W') := fun W' hW' => ⟨o8, HO8.out.1, HO8.out.2, hst4.trans (Steps.of_below hW'), HT9.out.stay hW', by rw [HD.out]⟩
      have HDR : Hid (Below w9.heap.size w9 w9.drew) := (Below.refl _ _).drew
      have a0 := cells_of HG9.out 0
      have a1 := cells_of HG9.out 1
      simp only [List.getElem?_toArray, List.getElem?_cons_zero, List.getElem?_cons_succ] at a0 a1
      clear hst4
      rw [HNO.out] at a1 HG9
      cases hn : X.isNone with
      | true =>
        have e0 : noOf true = 2 := rfl
        rw [hn, e0] at HF a1
        have hD0 := HDN.out hn
        have HF1 := Lib.hid (HF.out _ HDR.out)
        rw [hD0] at HF1
        have HNO2 : NO = 2 := by rw [HNO.out, hn]; rfl
        subst HNO2
        clear hn e0 HDN hD0
        go_wp2
        go_region
        go_wp2
        go_ret2
        exact HF1.out
      | false =>
        have e0 : noOf false = 0 := rfl
        rw [hn, e0] at HF a1
        have HNO2 : NO = 0 := by rw [HNO.out, hn]; rfl
        subst HNO2
        clear hn e0 HDN
        go_wp2
        go_ret2
        exact HF.out _ (Below.refl _ _)
end Go.Proofs.YtdbgihpognfhdaaGreat.Sl.Nd
/- Trees in a program: what lies under a key. -/
namespace Go.Proofs.YtdbgihpognfhdaaGreat.Sl.Nd
open Go Go.RowKit Go.By
def ValTold (own : Own) (r : Option (Option (List Nat))) (z : Ending) (w' : World) : Prop :=
  match r with
  | none => z = .returned (.tuple #[.slice none 0 0, .bool false, .int .i64 2])
  | some none => z = .returned (.tuple #[.slice none 0 0, .bool false, .int .i64 0])
  | some (some v) => ∃ p c, z = .returned (.tuple #[.slice p v.length c, .bool true, .int .i64 0]) ∧ ∀ W', Steps own own w' W' → Bytes W' (.slice p v.length c) v
def UnTold (F : FS) (W : World) (g a o : Nat) (own : Own) (w : World) (fuel : Nat) (r : Option (Option (List Nat))) (z : Ending) (w' : World) : Prop :=
  ∃ o', o ≤ o' ∧ o' ≤ o + (fuel + 1) ∧ Steps own own w w' ∧ Tf F W g a o' own w' ∧ ValTold own r z w'
theorem UnTold.shape {F : FS} {W : World} {g a o : Nat} {own : Own} {w : World} {fuel : Nat} {r : Option (Option (List Nat))} {z : Ending} {w' : World} (h : UnTold F W g a o own w fuel r z w') : ∃ p l c b n, z = .returned (.tuple #[.slice p l c, .bool b, .int .i64 n]) := by
  obtain ⟨o', -, -, -, -, q⟩ := h
  rcases r with _ | _ | v
  · exact ⟨_, _, _, _, _, q⟩
  · exact ⟨_, _, _, _, _, q⟩
  · obtain ⟨p, c, h, -⟩ := q
    exact ⟨_, _, _, _, _, h⟩
set_option maxRecDepth 100000 in
set_option maxHeartbeats 40000000 in
theorem under_any (F : FS) (hF : F.Ok) : ∀ (fuel deep : Nat), fuel + deep = 23 → 1 ≤ deep → ∀ (W w : World) (g a o : Nat) (own : Own) (off : Int) (ct : Nat) (kv : Value) (key : List Nat) (least bound : List Nat) (va vb : Value), Tf F W g a o own w → o + (fuel + 1) < 4611686018427387904 →
    (∀ W', Steps own own w W' → Bytes W' kv key) → (∀ W', Steps own own w W' → PlAt W' (.agg #[.int .i64 (deep : Nat), va, vb]) deep least bound va vb) →
    Calls Tryz.prog 42 #[.pointer (some ⟨g, 0, none⟩), .agg #[.int .i64 off, .int .u64 (ct : Nat)], kv, .agg #[.int .i64 (deep : Nat), va, vb]] w (UnTold F W g a o own w fuel (getT F.K fuel off ct key)) := by
  intro fuel
  induction fuel using Nat.strongRecOn with
  | _ fuel ih =>
  intro deep hfd h1d W w g a o own off ct kv key least bound va vb h hob hP hPl
  obtain ⟨X, hX⟩ : ∃ X, X = getT F.K fuel off ct key := ⟨_, rfl⟩
  rw [← hX]
  have HXX := Lib.hid hX
  obtain ⟨W1, hW1⟩ : ∃ W1, W1 = (w.alloc (.cells #[.int .i64 off, .int .u64 (ct : Nat)] 25)).alloc (.cells #[.int .i64 (deep : Nat), va, vb] 98) := ⟨_, rfl⟩
  have hWs : W1 = allocs w [.cells #[.int .i64 off, .int .u64 (ct : Nat)] 25, .cells #[.int .i64 (deep : Nat), va, vb] 98] := hW1
  have hb1 : Below w.heap.size w W1 := by rw [hWs]; exact allocs_below _ _
  have g1 : PlCells W1 (w.heap.size + 1) deep va vb := by rw [hWs]; exact allocs_at (i := 1) rfl
  have hz1 : W1.heap.size = w.heap.size + 2 := by rw [hW1]; simp
  have HG1 := Lib.hid g1; have HPL := Lib.hid hPl; have HZ1 := Lib.hid hz1
  have HRD := Lib.hid (treeRead_any (h.stay hb1) hF (by omega) off ct deep (by omega) va vb)
  have HS1 : Hid (Steps own own w W1) := Steps.of_below hb1
  have HW1 := Lib.hid hW1
  have HH0 := Lib.hid h; have HIH := Lib.hid ih; have HP := Lib.hid hP; have HOB := Lib.hid hob; have HFD := Lib.hid hfd; have HD1 := Lib.hid h1d
  have hdi : (deep : Int) ≤ 23 := by omega
  obtain ⟨kp, kc, rfl⟩ : ∃ p c, kv = .slice p key.length c := let ⟨p, c, h, _⟩ := (hP w (Steps.refl _ _)).any; ⟨p, c, h⟩
  obtain ⟨KL, hKL⟩ : ∃ l, l = key.length := ⟨_, rfl⟩
  have HKL := Lib.hid hKL
  rw [← hKL] at HP ⊢
  clear ih h hP hob hfd h1d hX hW1 hb1 hKL hWs g1 hz1 hPl
  go_enter Tryz.func42, Tryz.ntmps42
  go_wp2_with fail
  rw [← HW1.out]
  refine HRD.out.mono ?_
  rintro e w2 ⟨o2, ho1, ho2, hst, htf, hc⟩
  have HO2 : Hid (o ≤ o2 ∧ o2 ≤ o + 1) := ⟨ho1, ho2⟩
  have HS2 : Hid (Steps own own w w2) := HS1.out.trans hst
  have HT2 := Lib.hid htf
  have HNN : Hid (∀ k, w2.heap.size ≤ k → own k = none) := fun k hk => htf.disk.new_none hk
  have hg12 : PlCells w2 (w.heap.size + 1) deep va vb := (hst.block _ (by rw [HZ1.out]; omega) (.inl (HH0.out.disk.new_none (by omega)))).trans HG1.out
  have HG12 := Lib.hid hg12
  clear ho1 ho2 hst htf HRD HS1 hg12 HG1
  rcases hc with ⟨hno, rfl⟩ | ⟨n, pi, ci, pk, ck, pd, cd, hsome, rfl, hown, hstay⟩
  · have HXN : Hid (X = none) := by
      unfold Hid
      rw [HXX.out]
      have hfd := HFD.out
      cases fuel with
      | zero => rfl
      | succ f =>
        rw [if_neg (by omega)] at hno
        unfold getT
        rw [hno]
    have hbz := (Below.refl w2.heap.size w2).alloc (Nat.le_refl _) (.cells #[.bool false, .slice none 0 0, .slice none 0 0, .slice none 0 0] 38)
    have HF : Hid (UnTold F W g a o own w fuel X (.returned (.tuple #[.slice none 0 0, .bool false, .int .i64 2])) (w2.alloc (.cells #[.bool false, .slice none 0 0, .slice none 0 0, .slice none 0 0] 38))) :=
      ⟨o2, HO2.out.1, by have := HO2.out.2; omega, HS2.out.trans (Steps.of_below hbz), HT2.out.stay hbz, by rw [HXN.out]; rfl⟩
    clear hno hbz
    go_wp2
    go_ret3
    exact HF.out
  · have hdp : ¬ 22 < deep := by intro h; rw [if_pos h] at hsome; cases hsome
    rw [if_neg hdp] at hsome
    obtain ⟨f, hf⟩ : ∃ f, fuel = f + 1 := ⟨fuel - 1, by have := HFD.out; omega⟩
    have hm := (nodeOf_some (nodeIn_some hsome).2.2).1
    have h8 : n.its.length ≤ 8 := by
      cases hl : n.leaf with
      | true => exact (may_lf hl hm).1.2
      | false => rw [(may_in hl hm).2.2.2.2.2]; simp
    have hk8 : (keysN n).length ≤ 8 := by
      unfold keysN
      cases hl : n.leaf with
      | true => rw [if_pos rfl, List.length_map]; exact h8
      | false => rw [if_neg (by decide), (may_in hl hm).2.1]; exact (may_in hl hm).1.2
    have HM := Lib.hid hm
    have HFF := Lib.hid hf
    obtain ⟨A, hA⟩ : ∃ A, A = atN (keysN n) key := ⟨_, rfl⟩
    obtain ⟨I, hI⟩ : ∃ I, I = isN (keysN n) key := ⟨_, rfl⟩
    have HXE : Hid (X = if n.leaf = true then some (if I = true then (n.its[A]?).map (·.v) else none)
      else if I = false ∧ A = 0 then some none
      else match n.kids[if I = true then A else A - 1]? with
        | none => none
        | some d => getT F.K f d.off d.ct key) := by
      unfold Hid
      rw [HXX.out, hf, getT, hsome, hA, hI]
      rfl
    obtain ⟨W3, hW3⟩ : ∃ W3, W3 = w2.alloc (.cells #[.bool n.leaf, .slice pi n.its.length ci, .slice pk n.ks.length ck, .slice pd n.kids.length cd] 38) := ⟨_, rfl⟩
    have hb3 : Below w2.heap.size w2 W3 := by rw [hW3]; exact (Below.refl _ _).alloc (Nat.le_refl _) _
    have hnew : NdAt W3 w2.heap.size n pi ci pk ck pd cd := by rw [hW3]; exact NdAt.new ..
    have HS3 : Hid (Steps own own w W3) := HS2.out.trans (Steps.of_below hb3)
    have HT3 := Lib.hid (HT2.out.stay hb3)
    have HKO := Lib.hid (keysOf_any (hstay W3 (Steps.of_below hb3)) h8)
    have HND : Hid (∀ W', Steps own own W3 W' → IsNd W' (.agg #[.bool n.leaf, .slice pi n.its.length ci, .slice pk n.ks.length ck, .slice pd n.kids.length cd]) n pi ci pk ck pd cd) := fun W' hW' => hstay W' ((Steps.of_below hb3).trans hW')
    have HG13 : Hid (PlCells W3 (w.heap.size + 1) deep va vb) := (hb3.block _ (Array.getElem?_eq_some_iff.1 HG12.out).1).trans HG12.out
    have HOWN := Lib.hid hown
    have HW3 := Lib.hid hW3; have HNW := Lib.hid hnew; have HAA := Lib.hid hA; have HII := Lib.hid hI; have HK8 := Lib.hid hk8
    obtain ⟨n0, n1, n2, n3⟩ := hnew.cells
    rw [hW3] at n0 n1 n2 n3
    clear hsome hown hstay hdp hf hm h8 hb3 hnew hW3 hA hI hk8
    go_wp2_with fail
    rw [← HW3.out]
    refine HKO.out.mono ?_
    rintro e w4 ⟨p4, c4, rfl, hr4, hb4⟩
    have HS4 : Hid (Steps own own w w4) := HS3.out.trans (Steps.of_below hb4)
    have HT4 := Lib.hid (HT3.out.stay hb4)
    have hsr := search_any hr4 (HP.out w4 HS4.out) HK8.out (keys_rise HM.out)
    rw [← HAA.out, ← HII.out] at hsr
    have HSR := Lib.hid hsr
    have hnw4 := HNW.out.below hb4
    have HB4 := Lib.hid hb4
    clear n0 n1 n2 n3
    obtain ⟨n0, n1, n2, n3⟩ := hnw4.cells
    have HNA4 := Lib.hid hnw4
    have HG14 : Hid (PlCells w4 (w.heap.size + 1) deep va vb) := ((hb4.block _ (by have h1 := (Array.getElem?_eq_some_iff.1 HG13.out).1; exact h1)).trans HG13.out)
    have HS34 : Hid (Steps own own W3 w4) := Steps.of_below hb4
    have hnd := HND.out w4 (Steps.of_below hb4)
    obtain ⟨L4, hL4⟩ : ∃ l, l = (keysN n).length := ⟨_, rfl⟩
    have HL4 := Lib.hid hL4
    rw [← hL4] at HSR ⊢
    have HND4 := Lib.hid hnd
    clear hr4 hsr hb4 hnw4 HKO HNW HW3 hL4 hnd
    go_wp2_with fail
    refine HSR.out.mono ?_
    rintro e w5 ⟨rfl, rfl⟩
    clear HSR
    cases hlf : n.leaf with
    | true =>
      have hXL : X = some (if I = true then (n.its[A]?).map (·.v) else none) := by rw [HXE.out, if_pos hlf]
      rw [hlf] at n0
      cases hI : I with
      | true =>
        have hAl : A < n.its.length := by
          have h1 := isN_lt (ks := keysN n) (key := key) (by rw [← HII.out]; exact hI)
          rw [← HAA.out] at h1
          have h2 : (keysN n).length = n.its.length := by unfold keysN; rw [if_pos hlf, List.length_map]
          omega
        obtain ⟨lb, lo, rfl, hat⟩ := HND4.out.its.some (by omega)
        obtain ⟨cs, hc, va, vb, rfl, -, hb⟩ := hat A hAl
        obtain ⟨e0, e1⟩ := hc.two
        simp only [KItem] at e0 e1
        have hX2 : X = some (some n.its[A].v) := by rw [hXL, hI, if_pos rfl, List.getElem?_eq_getElem hAl]; rfl
        obtain ⟨qb, cb, rfl, -⟩ := hb.any
        have HF : Hid (UnTold F W g a o own w fuel X (.returned (.tuple #[.slice qb n.its[A].v.length cb, .bool true, .int .i64 0])) w4) := by
          rw [hX2]
          refine ⟨o2, HO2.out.1, by have := HO2.out.2; omega, HS4.out, HT4.out, qb, cb, rfl, fun W' hW' => ?_⟩
          obtain ⟨lb', lo', el, hat'⟩ := (HND.out W' (HS34.out.trans hW')).its.some (by omega)
          cases el
          obtain ⟨cs', hc', va', vb', rfl, -, hb'⟩ := hat' A hAl
          obtain ⟨-, e1'⟩ := hc'.two
          simp only [KItem] at e1'
          have hlt := block_lt_of_cell e1
          have hsame := cell_eq (i := lo + A * 2 + 1) (hW'.block lb hlt (.inl (HOWN.out lb (.inr (.inl rfl)))))
          rw [hsame, e1] at e1'
          cases e1'
          exact hb'
        have hAi : (A : Int) < n.its.length := by omega
        obtain ⟨LI, hLI⟩ : ∃ l, l = n.its.length := ⟨_, rfl⟩
        rw [← hLI] at n1 hAi
        generalize n.its[A].v.length = l1 at *
        clear hXL hX2 hI hlf hb hc hat hAl hLI HND4
        go_wp2
        go_ret3
        exact HF.out
      | false =>
        have hX2 : X = some none := by rw [hXL, hI, if_neg (by decide)]
        have HF : Hid (UnTold F W g a o own w fuel X (.returned (.tuple #[.slice none 0 0, .bool false, .int .i64 0])) w4) := by
          rw [hX2]
          exact ⟨o2, HO2.out.1, by have := HO2.out.2; omega, HS4.out, HT4.out, rfl⟩
        have hA9 : (A : Int) ≤ 8 := by
          have h1 := atN_le (keysN n) key
          rw [← HAA.out] at h1
          have := HK8.out
          omega
        clear hXL hX2 hI hlf
        go_wp2
        go_ret3
        exact HF.out
    | false =>
      have hXN : X = if I = false ∧ A = 0 then some none
          else match n.kids[if I = true then A else A - 1]? with
            | none => none
            | some d => getT F.K f d.off d.ct key := by rw [HXE.out, hlf]; rfl
      obtain ⟨⟨hN2, hN8⟩, hLen, -, -, -, -⟩ := may_in hlf HM.out
      have hkl : (keysN n).length = n.kids.length := by unfold keysN; rw [hlf, if_neg (by decide), hLen]
      have hAle := atN_le (keysN n) key
      rw [← HAA.out, hkl] at hAle
      rw [hlf] at n0
      cases hI : I with
      | true =>
        have hAl : A < n.kids.length := by
          have h1 := isN_lt (ks := keysN n) (key := key) (by rw [← HII.out]; exact hI)
          rw [← HAA.out] at h1
          omega
        obtain ⟨J, hJ⟩ : ∃ J, J = A := ⟨_, rfl⟩
        subst hJ
        have hJl := hAl
        have hXJ : X = match n.kids[J]? with
            | none => none
            | some d => getT F.K f d.off d.ct key := by rw [hXN, hI, if_neg (by simp), if_pos rfl]
        obtain ⟨lb, lo, rfl, hat⟩ := HND4.out.kids.some (by omega)
        obtain ⟨cs, hc, rfl, hd1, hd2⟩ := hat J hJl
        obtain ⟨e0, e1⟩ := hc.two
        simp only [KRef] at e0 e1
        obtain ⟨Dk, hDk⟩ : ∃ x, x = n.kids[J] := ⟨_, rfl⟩
        rw [← hDk] at e0 e1 hd1 hd2
        obtain ⟨R, hR⟩ : ∃ r, r = getT F.K f Dk.off Dk.ct key := ⟨_, rfl⟩
        have hX2 : X = R := by rw [hXJ, List.getElem?_eq_getElem hJl, hR, hDk]
        have hLen' := hLen
        have HLN := Lib.hid hLen
        have hdpl : deep ≤ 22 := by have := HFF.out; have := HFD.out; omega
        have HKD : Hid (∀ Wx, Below w4.heap.size w4 Wx → Calls Tryz.prog 68 #[.agg #[.int .i64 (deep : Nat), va, vb], .agg #[.bool false, .slice pi n.its.length ci, .slice pk n.ks.length ck, .slice (some ⟨lb, lo, none⟩) n.kids.length cd]] Wx (KidsTold Wx deep pk n.ks.length vb)) := fun Wx hx => by
          have := kids_any (HPL.out Wx (HS4.out.trans (Steps.of_below hx))) (HND4.out.below hx) (by omega) (by rw [hLen]; omega)
          rw [hlf] at this
          exact this
        have HRW : Hid (∀ Wx, Below w4.heap.size w4 Wx → RowAt KBytes Wx pk ck n.ks) := fun Wx hx => (HND4.out.below hx).ks
        have HUN : Hid (∀ (Wp Wx : World) (ka kb : Value), Below w4.heap.size w4 Wp → KidPl Wp pk J n.ks.length vb ka kb → Below w4.heap.size w4 Wx → Calls Tryz.prog 42 #[.pointer (some ⟨g, 0, none⟩), .agg #[.int .i64 Dk.off, .int .u64 (Dk.ct : Nat)], .slice kp KL kc, .agg #[.int .i64 (deep + 1 : Nat), ka, kb]] Wx (UnTold F W g a o2 own Wx f R)) := fun Wp Wx ka kb hp hkp hx => by
          rw [hR]
          exact HIH.out f (by have := HFF.out; omega) (deep + 1) (by have := HFF.out; have := HFD.out; omega) (by omega) W Wx g a o2 own Dk.off Dk.ct (.slice kp KL kc) key n.ks[J] (nextB n.ks J bound) ka kb (HT4.out.stay hx) (by have q1 := HOB.out; have q2 := HFF.out; have q3 := HO2.out.2; omega) (fun W' hW' => HP.out W' (HS4.out.trans ((Steps.of_below hx).trans hW')))
            (fun W' hW' => kid_place (fun W'' h'' => (HND.out W'' h'').ks) (fun j hj => HOWN.out j (.inl hj)) HPL.out HS3.out (HS34.out.trans (Steps.of_below hp)) (by omega) hkp W' (HS34.out.trans ((Steps.of_below hx).trans hW')))
        have HFIN : Hid (∀ z w' Wx, Below w4.heap.size w4 Wx → UnTold F W g a o2 own Wx f R z w' → UnTold F W g a o own w fuel X z w') := fun z w' Wx hx ⟨o', q1, q2, q3, q4, q5⟩ => ⟨o', by have := HO2.out.1; omega, by have q6 := HO2.out.2; have q7 := HFF.out; omega, HS4.out.trans ((Steps.of_below hx).trans q3), q4, by rw [hX2]; exact q5⟩
        have HCW : Hid (∀ Wx, Below w4.heap.size w4 Wx → (Wx.cell? ⟨lb, lo + J * 2, none⟩ = some (.int .i64 Dk.off) ∧ Wx.cell? ⟨lb, lo + J * 2 + 1, none⟩ = some (.int .u64 (Dk.ct : Nat))) ∧ NdAt Wx w2.heap.size n pi ci pk ck (some ⟨lb, lo, none⟩) cd ∧ PlCells Wx (w.heap.size + 1) deep va vb) := fun Wx hx =>
          ⟨⟨(hx.cell (p := ⟨lb, lo + J * 2, none⟩) (block_lt_of_cell e0)).trans e0, (hx.cell (p := ⟨lb, lo + J * 2 + 1, none⟩) (block_lt_of_cell e1)).trans e1⟩, HNA4.out.below hx, (hx.block _ (Array.getElem?_eq_some_iff.1 HG14.out).1).trans HG14.out⟩
        have HVB : Hid (∃ p n c, vb = .slice p n c) := by
          obtain ⟨p, c, h, -⟩ := (HPL.out w (Steps.refl _ _)).bound.any
          exact ⟨p, _, c, h⟩
        have hJi : (J : Int) < n.kids.length := by omega
        have HJK : Hid (J < n.ks.length) := by unfold Hid; omega
        have hJi2 : (J : Int) < n.ks.length := by omega
        have HLF := Lib.hid hlf
        clear hlf hdpl
        obtain ⟨DP, hDP⟩ : ∃ x, x = deep + 1 := ⟨_, rfl⟩
        have HDP := Lib.hid hDP
        rw [← hDP] at HUN
        have HB4d : Hid (Below w4.heap.size w4 w4.drew) := (Below.refl _ _).drew
        have HJL := Lib.hid hJl
        have HDK := Lib.hid hDk
        clear hd1 hd2 hDk hR hX2 hXJ hc hat HIH hAl hAle hkl hLen hLen' hN2 hN8 hXN hI hDP e0 e1
        go_wp2_with fail
        clear n0 n1 n2 n3
        apply share
        · intro HTT
          obtain ⟨⟨e0, e1⟩, hna, hpl⟩ := HCW.out w4.drew HB4d.out
          obtain ⟨n0, n1, n2, n3⟩ := hna.cells
          rw [HLF.out] at n0
          have p0 := cells_of hpl 0; have p1 := cells_of hpl 1; have p2 := cells_of hpl 2
          simp only [List.getElem?_toArray, List.getElem?_cons_zero, List.getElem?_cons_succ] at p0 p1 p2
          clear hna hpl
          go_region_law (first
            | (go_simp; go_at_call 68; (with_reducible refine (HKD.out _ HB4d.out).mono ?_); rintro e7 w7 ⟨pq, cq, rfl, -, -, hkq, hb7⟩; obtain ⟨gq, ka, kb, rfl, -, -, r0, r1, r2, hkp⟩ := hkq J HJK.out; obtain ⟨⟨xa, ya, za, rfl⟩, xb, yb, zb, rfl⟩ := hkp.shape (HRW.out _ HB4d.out) HJK.out HVB.out; have HKP := Lib.hid hkp; have HB7 := Lib.hid (HB4d.out.trans (hb7.mono HB4d.out.size)); clear hkq hkp hb7 e0 e1 n0 n1 n2 n3 p0 p1 p2; obtain ⟨⟨e0, e1⟩, hna, hpl⟩ := HCW.out w7 HB7.out; obtain ⟨n0, n1, n2, n3⟩ := hna.cells; clear hna hpl; rw [← HDP.out] at r0)
            | (go_simp; go_at_call 42; (with_reducible refine (HUN.out _ _ _ _ HB4d.out HKP.out HB7.out).mono ?_); intro e8 w8 he; obtain ⟨p6, l6, c6, b6, n6, rfl⟩ := he.shape; have HE := Lib.hid (HFIN.out _ _ _ HB7.out he); clear he))
          all_goals
            clear r0 r1 r2 HKP HB7 e0 e1 n0 n1 n2 n3
            revert HE
            revert cq gq xa ya za xb yb zb p6 l6 c6 b6 n6
            revert w8
            exact HTT
        · intros
          rename_i HE
          go_wp2
          go_ret3
          exact HE.out
      | false =>
        by_cases hA0 : A = 0
        · have hX2 : X = some none := by rw [hXN, if_pos ⟨hI, hA0⟩]
          have HF : Hid (UnTold F W g a o own w fuel X (.returned (.tuple #[.slice none 0 0, .bool false, .int .i64 0])) w4) := by
            rw [hX2]
            exact ⟨o2, HO2.out.1, by have := HO2.out.2; omega, HS4.out, HT4.out, rfl⟩
          subst hA0
          clear hX2 hXN hI hlf hAle hkl hLen hN2 hN8
          go_wp2
          go_ret3
          exact HF.out
        · obtain ⟨J, hJ⟩ : ∃ J, A = J + 1 := ⟨A - 1, by omega⟩
          have hJl : J < n.kids.length := by omega
          have hXJ : X = match n.kids[J]? with
              | none => none
              | some d => getT F.K f d.off d.ct key := by rw [hXN, hI, if_neg (by simp; omega), if_neg (by decide), hJ]; rfl
          have hAJ : (A : Int) - 1 = J := by omega
          have hA9 : (A : Int) ≤ 8 := by omega
          have hA1 : 1 ≤ (A : Int) := by omega
          obtain ⟨lb, lo, rfl, hat⟩ := HND4.out.kids.some (by omega)
          obtain ⟨cs, hc, rfl, hd1, hd2⟩ := hat J hJl
          obtain ⟨e0, e1⟩ := hc.two
          simp only [KRef] at e0 e1
          obtain ⟨Dk, hDk⟩ : ∃ x, x = n.kids[J] := ⟨_, rfl⟩
          rw [← hDk] at e0 e1 hd1 hd2
          obtain ⟨R, hR⟩ : ∃ r, r = getT F.K f Dk.off Dk.ct key := ⟨_, rfl⟩
          have hX2 : X = R := by rw [hXJ, List.getElem?_eq_getElem hJl, hR, hDk]
          have hLen' := hLen
          have HLN := Lib.hid hLen
          have hdpl : deep ≤ 22 := by have := HFF.out; have := HFD.out; omega
          have HKD : Hid (∀ Wx, Below w4.heap.size w4 Wx → Calls Tryz.prog 68 #[.agg #[.int .i64 (deep : Nat), va, vb], .agg #[.bool false, .slice pi n.its.length ci, .slice pk n.ks.length ck, .slice (some ⟨lb, lo, none⟩) n.kids.length cd]] Wx (KidsTold Wx deep pk n.ks.length vb)) := fun Wx hx => by
            have := kids_any (HPL.out Wx (HS4.out.trans (Steps.of_below hx))) (HND4.out.below hx) (by omega) (by rw [hLen]; omega)
            rw [hlf] at this
            exact this
          have HRW : Hid (∀ Wx, Below w4.heap.size w4 Wx → RowAt KBytes Wx pk ck n.ks) := fun Wx hx => (HND4.out.below hx).ks
          have HUN : Hid (∀ (Wp Wx : World) (ka kb : Value), Below w4.heap.size w4 Wp → KidPl Wp pk J n.ks.length vb ka kb → Below w4.heap.size w4 Wx → Calls Tryz.prog 42 #[.pointer (some ⟨g, 0, none⟩), .agg #[.int .i64 Dk.off, .int .u64 (Dk.ct : Nat)], .slice kp KL kc, .agg #[.int .i64 (deep + 1 : Nat), ka, kb]] Wx (UnTold F W g a o2 own Wx f R)) := fun Wp Wx ka kb hp hkp hx => by
            rw [hR]
            exact HIH.out f (by have := HFF.out; omega) (deep + 1) (by have := HFF.out; have := HFD.out; omega) (by omega) W Wx g a o2 own Dk.off Dk.ct (.slice kp KL kc) key n.ks[J] (nextB n.ks J bound) ka kb (HT4.out.stay hx) (by have q1 := HOB.out; have q2 := HFF.out; have q3 := HO2.out.2; omega) (fun W' hW' => HP.out W' (HS4.out.trans ((Steps.of_below hx).trans hW')))
              (fun W' hW' => kid_place (fun W'' h'' => (HND.out W'' h'').ks) (fun j hj => HOWN.out j (.inl hj)) HPL.out HS3.out (HS34.out.trans (Steps.of_below hp)) (by omega) hkp W' (HS34.out.trans ((Steps.of_below hx).trans hW')))
          have HFIN : Hid (∀ z w' Wx, Below w4.heap.size w4 Wx → UnTold F W g a o2 own Wx f R z w' → UnTold F W g a o own w fuel X z w') := fun z w' Wx hx ⟨o', q1, q2, q3, q4, q5⟩ => ⟨o', by have := HO2.out.1; omega, by have q6 := HO2.out.2; have q7 := HFF.out; omega, HS4.out.trans ((Steps.of_below hx).trans q3), q4, by rw [hX2]; exact q5⟩
          have HCW : Hid (∀ Wx, Below w4.heap.size w4 Wx → (Wx.cell? ⟨lb, lo + J * 2, none⟩ = some (.int .i64 Dk.off) ∧ Wx.cell? ⟨lb, lo + J * 2 + 1, none⟩ = some (.int .u64 (Dk.ct : Nat))) ∧ NdAt Wx w2.heap.size n pi ci pk ck (some ⟨lb, lo, none⟩) cd ∧ PlCells Wx (w.heap.size + 1) deep va vb) := fun Wx hx =>
            ⟨⟨(hx.cell (p := ⟨lb, lo + J * 2, none⟩) (block_lt_of_cell e0)).trans e0, (hx.cell (p := ⟨lb, lo + J * 2 + 1, none⟩) (block_lt_of_cell e1)).trans e1⟩, HNA4.out.below hx, (hx.block _ (Array.getElem?_eq_some_iff.1 HG14.out).1).trans HG14.out⟩
          have HVB : Hid (∃ p n c, vb = .slice p n c) := by
            obtain ⟨p, c, h, -⟩ := (HPL.out w (Steps.refl _ _)).bound.any
            exact ⟨p, _, c, h⟩
          have hJi : (J : Int) < n.kids.length := by omega
          have HJK : Hid (J < n.ks.length) := by unfold Hid; omega
          have hJi2 : (J : Int) < n.ks.length := by omega
          have HLF := Lib.hid hlf
          clear hlf hdpl
          obtain ⟨DP, hDP⟩ : ∃ x, x = deep + 1 := ⟨_, rfl⟩
          have HDP := Lib.hid hDP
          rw [← hDP] at HUN
          have HB4d : Hid (Below w4.heap.size w4 w4.drew) := (Below.refl _ _).drew
          have HJL := Lib.hid hJl
          have HDK := Lib.hid hDk
          clear hd1 hd2 hDk hR hX2 hXJ hc hat HIH hA0 hJ hAle hkl hLen hLen' hN2 hN8 hXN hI hDP e0 e1
          go_wp2_with fail
          clear n0 n1 n2 n3
          apply share
          · intro HTT
            obtain ⟨⟨e0, e1⟩, hna, hpl⟩ := HCW.out w4.drew HB4d.out
            obtain ⟨n0, n1, n2, n3⟩ := hna.cells
            rw [HLF.out] at n0
            have p0 := cells_of hpl 0; have p1 := cells_of hpl 1; have p2 := cells_of hpl 2
            simp only [List.getElem?_toArray, List.getElem?_cons_zero, List.getElem?_cons_succ] at p0 p1 p2
            clear hna hpl
            go_region_law (first
              | (go_simp; go_at_call 68; (with_reducible refine (HKD.out _ HB4d.out).mono ?_); rintro e7 w7 ⟨pq, cq, rfl, -, -, hkq, hb7⟩; obtain ⟨gq, ka, kb, rfl, -, -, r0, r1, r2, hkp⟩ := hkq J HJK.out; obtain ⟨⟨xa, ya, za, rfl⟩, xb, yb, zb, rfl⟩ := hkp.shape (HRW.out _ HB4d.out) HJK.out HVB.out; have HKP := Lib.hid hkp; have HB7 := Lib.hid (HB4d.out.trans (hb7.mono HB4d.out.size)); clear hkq hkp hb7 e0 e1 n0 n1 n2 n3 p0 p1 p2; obtain ⟨⟨e0, e1⟩, hna, hpl⟩ := HCW.out w7 HB7.out; obtain ⟨n0, n1, n2, n3⟩ := hna.cells; clear hna hpl; rw [← HDP.out] at r0)
              | (go_simp; go_at_call 42; (with_reducible refine (HUN.out _ _ _ _ HB4d.out HKP.out HB7.out).mono ?_); intro e8 w8 he; obtain ⟨p6, l6, c6, b6, n6, rfl⟩ := he.shape; have HE := Lib.hid (HFIN.out _ _ _ HB7.out he); clear he))
            all_goals
              clear r0 r1 r2 HKP HB7 e0 e1 n0 n1 n2 n3
              revert HE
              revert cq gq xa ya za xb yb zb p6 l6 c6 b6 n6
              revert w8
              exact HTT
          · intros
            rename_i HE
            go_wp2
            go_ret3
            exact HE.out
end Go.Proofs.YtdbgihpognfhdaaGreat.Sl.Nd
/- Trees in a program: Get. -/
namespace Go.By
open Go Go.RowKit
def getAll (K : List Nat) (off : Int) (ct : Nat) (key : List Nat) : Option (Option (List Nat)) := if off = 0 ∧ ct = 0 then some none else getT K 22 off ct key
end Go.By
namespace Go.Proofs.YtdbgihpognfhdaaGreat.Sl.Nd
open Go Go.RowKit Go.By
set_option maxRecDepth 100000 in
set_option maxHeartbeats 1000000 in
theorem get_any {F : FS} {W w : World} {g a o : Nat} {own : Own} (h : Tf F W g a o own w) (hF : F.Ok) (ho : o < 2305843009213693952) (off : Int) (ct : Nat) (kv : Value) (key : List Nat) (hP : ∀ W', Steps own own w W' → Bytes W' kv key) :
    Calls Tryz.prog 17 #[.pointer (some ⟨g, 0, none⟩), .agg #[.int .i64 off, .int .u64 (ct : Nat)], kv] w (UnTold F W g a o own w 22 (getAll F.K off ct key)) := by
  obtain ⟨X, hX⟩ : ∃ X, X = getAll F.K off ct key := ⟨_, rfl⟩
  rw [← hX]
  obtain ⟨W1, hW1⟩ : ∃ W1, W1 = w.alloc (.cells #[.int .i64 off, .int .u64 (ct : Nat)] 25) := ⟨_, rfl⟩
  have hb1 : Below w.heap.size w W1 := by rw [hW1]; exact (Below.refl _ _).alloc (Nat.le_refl _) _
  have g0 : W1.heap[w.heap.size]? = some (.cells #[.int .i64 off, .int .u64 (ct : Nat)] 25 (0, 0)) := by rw [hW1]; exact heap_alloc_new w _
  have HEM := Lib.hid (isEmpty_any off ct W1)
  have HXX := Lib.hid hX; have HW1 := Lib.hid hW1; have HB1 := Lib.hid hb1; have HG0 := Lib.hid g0
  have HH := Lib.hid h; have HP := Lib.hid hP
  obtain ⟨b, hb⟩ : ∃ b, b = decide (off = 0 ∧ ct = 0) := ⟨_, rfl⟩
  rw [← hb] at HEM
  have HBB := Lib.hid hb
  have r0 := cells_of g0 0
  have r1 := cells_of g0 1
  simp only [List.getElem?_toArray, List.getElem?_cons_zero, List.getElem?_cons_succ] at r0 r1
  rw [hW1] at r0 r1
  have HO := Lib.hid ho
  obtain ⟨kp, kc, rfl⟩ : ∃ p c, kv = .slice p key.length c := let ⟨p, c, h, _⟩ := (hP w (Steps.refl _ _)).any; ⟨p, c, h⟩
  obtain ⟨KL, hKL⟩ : ∃ l, l = key.length := ⟨_, rfl⟩
  rw [← hKL] at HP ⊢
  clear hX hW1 hb1 g0 h ho hb hP hKL
  go_enter Tryz.func17, Tryz.ntmps17
  go_wp2_with fail
  rw [← HW1.out]
  refine HEM.out.mono ?_
  rintro e w2 ⟨rfl, hb2⟩
  have HB2 : Hid (Below w.heap.size w w2) := HB1.out.trans (hb2.mono HB1.out.size)
  have hg2 := (hb2.block _ (Array.getElem?_eq_some_iff.1 HG0.out).1).trans HG0.out
  have HG2 : Hid (w.heap.size < w2.heap.size ∧ w2.heap[w.heap.size]? = some (.cells #[.int .i64 off, .int .u64 (ct : Nat)] 25 (0, 0))) := ⟨(Array.getElem?_eq_some_iff.1 hg2).1, hg2⟩
  clear r0 r1
  have r0 := cells_of hg2 0
  have r1 := cells_of hg2 1
  simp only [List.getElem?_toArray, List.getElem?_cons_zero, List.getElem?_cons_succ] at r0 r1
  clear hb2 hg2
  cases b with
  | true =>
    have hem := of_decide_eq_true HBB.out.symm
    have HF : Hid (UnTold F W g a o own w 22 X (.returned (.tuple #[.slice none 0 0, .bool false, .int .i64 0])) w2) := by
      have : X = some none := by rw [HXX.out]; unfold getAll; rw [if_pos hem]
      rw [this]
      exact ⟨o, Nat.le_refl _, by omega, Steps.of_below HB2.out, HH.out.stay HB2.out, rfl⟩
    clear hem
    go_wp2
    go_ret3
    exact HF.out
  | false =>
    have hem := of_decide_eq_false HBB.out.symm
    have hX2 : X = getT F.K 22 off ct key := by rw [HXX.out]; unfold getAll; rw [if_neg hem]
    have HUN3 : Hid (∀ wp : World, Below w2.heap.size w2 wp → ∀ wx : World, wx.heap = wp.heap → wx.os = wp.os → wx.tape = wp.tape → wx.output = wp.output → Calls Tryz.prog 42 #[.pointer (some ⟨g, 0, none⟩), .agg #[.int .i64 off, .int .u64 (ct : Nat)], .slice kp KL kc, .agg #[.int .i64 1, .slice none 0 0, .slice none 0 0]] wx (fun e w' => ∃ p l c b m, e = .returned (.tuple #[.slice p l c, .bool b, .int .i64 m]) ∧ (w'.cell? ⟨w.heap.size, 0, none⟩ = some (.int .i64 off) ∧ w'.cell? ⟨w.heap.size, 1, none⟩ = some (.int .u64 (ct : Nat))) ∧ UnTold F W g a o own w 22 X e w')) := fun wp hwp wx h1 h2 h3 h4 => by
      have hb2x : Below w2.heap.size w2 wx := hwp.trans ((below_eq h1 h2 h3 h4).mono hwp.size)
      have hsx : Steps own own w wx := (Steps.of_below HB2.out).trans (Steps.of_below hb2x)
      have hun := under_any F hF 22 1 rfl (Nat.le_refl _) W wx g a o own off ct (.slice kp KL kc) key [] [] (.slice none 0 0) (.slice none 0 0) ((HH.out.stay HB2.out).stay hb2x) (by have := HO.out; omega) (fun W' hW' => HP.out W' (hsx.trans hW')) (fun W' _ => ⟨rfl, Bytes.nil _, Bytes.nil _⟩)
      rw [← hX2] at hun
      refine hun.mono ?_
      intro e w' he
      obtain ⟨p6, l6, c6, b6, n6, rfl⟩ := he.shape
      obtain ⟨o', q1, q2, q3, q4, q5⟩ := he
      have hg' := ((Steps.of_below hb2x).trans q3).block _ HG2.out.1 (.inl (HH.out.disk.new_none (Nat.le_refl _)))
      exact ⟨p6, l6, c6, b6, n6, rfl, ⟨cells_of (hg'.trans HG2.out.2) 0, cells_of (hg'.trans HG2.out.2) 1⟩, o', q1, q2, hsx.trans q3, q4, q5⟩
    have HRT : Hid (∀ wx : World, wx.heap = w2.heap → wx.os = w2.os → wx.tape = w2.tape → wx.output = w2.output → Calls Tryz.prog 40 #[] wx (fun e w' => e = .returned (.agg #[.int .i64 1, .slice none 0 0, .slice none 0 0]) ∧ (w'.cell? ⟨w.heap.size, 0, none⟩ = some (.int .i64 off) ∧ w'.cell? ⟨w.heap.size, 1, none⟩ = some (.int .u64 (ct : Nat))) ∧ Below w2.heap.size w2 w')) := fun wx h1 h2 h3 h4 => (root_any wx).mono (by
      rintro e w' ⟨rfl, hb⟩
      have hb2 : Below w2.heap.size w2 w' := (below_eq h1 h2 h3 h4).trans (hb.mono (below_eq h1 h2 h3 h4).size)
      have hg' := hb2.block _ HG2.out.1
      exact ⟨rfl, ⟨cells_of (hg'.trans HG2.out.2) 0, cells_of (hg'.trans HG2.out.2) 1⟩, hb2⟩)
    clear hem hX2
    go_wp2_with fail
    go_region_held3 (fun w' => w'.cell? ⟨w.heap.size, 0, none⟩ = some (.int .i64 off) ∧ w'.cell? ⟨w.heap.size, 1, none⟩ = some (.int .u64 (ct : Nat))) (go_keep)
      (first
        | (go_at_call 40; refine (HRT.out _ (by rfl) (by rfl) (by rfl) (by rfl)).mono ?_; rintro e7 w7 ⟨rfl, ⟨s0, s1⟩, hb7⟩)
        | (go_at_call 42; refine (HUN3.out w7 hb7 _ (by rfl) (by rfl) (by rfl) (by rfl)).mono ?_; rintro e8 w8 ⟨p6, l6, c6, b6, n6, rfl, ⟨t0, t1⟩, hfin⟩))
    have HE := Lib.hid hfin
    clear hfin
    go_wp2
    go_ret3
    exact HE.out
end Go.Proofs.YtdbgihpognfhdaaGreat.Sl.Nd
/- Trees in a program: the law's file. -/
namespace Go.Proofs.YtdbgihpognfhdaaGreat.Sl.Nd
open Go Go.RowKit Go.By
def fsT (R : Int) (C : List Nat) (os : List ByteOp) : FS := ⟨tT, R, [], [.create tT 1], K3 zero128 zero128 C, [], os⟩
theorem fsT_len (R : Int) (C : List Nat) (os : List ByteOp) : (fsT R C os).K.length = 256 + C.length := K3_length zero128_length zero128_length
theorem fsT_ok {R : Int} {C : List Nat} {os : List ByteOp} (hR : 0 ≤ R ∧ R ≤ 1099511627776) (hC : C.length ≤ 1048000) (ho : os.length < 1000000) : (fsT R C os).Ok where
  name := tT_may
  size := by show tT.size ≤ maxLen; decide +kernel
  room := hR
  len := by rw [fsT_len]; omega
  ld := by show 1 < _; omega
  os := ho
theorem made_tf {R : Int} {W w : World} {g a : Nat} {own : Own} (hd : Dsk W a (oneF tT R 2 0 [] [.create tT 1] noughts256 [] [.cut 256]) own w) (hf : Fil W g a tT 256 own w) : Tf (fsT R [] [.cut 256]) W g a 2 own w := by
  rw [noughts_K3] at hd
  refine ⟨hd, ?_⟩
  rw [fsT_len]
  exact hf
theorem app_tf {R : Int} {C : List Nat} {os : List ByteOp} {W w : World} {g a o : Nat} {own : Own} (h : Tf (fsT R C os) W g a o own w) (hR : ((256 + C.length + 4105 : Nat) : Int) ≤ R ∧ R ≤ 1099511627776) (h16 : 256 + C.length ≤ 16777216) (ho : o < 1000000 ∧ os.length < 1000000) {k : Nat} (hk : k < 256) {bv : Value} {b : List Nat} (hb : Bytes w bv b) (hbl : b.length ≤ 4096) :
    Calls Tryz.prog 12 #[.pointer (some ⟨g, 0, none⟩), .int .u8 k, bv] w fun e w' => e = .returned (.tuple #[.int .i64 (256 + C.length : Nat), .int .i64 0]) ∧
      ∃ own', Moves g own own' w w' ∧ Tf (fsT R (C ++ recOf k b) (os ++ [.write (256 + C.length) (recOf k b)])) W g a (o + 1) own' w' := by
  have hf := h.file
  rw [fsT_len] at hf
  refine (one_append (A := zero128) (B := zero128) h.disk hf tT_may (by show tT.size ≤ maxLen; decide +kernel) (by omega) zero128_length zero128_length hR h16 ⟨ho.1, by omega, by show 1 < _; omega, ho.2⟩ hk hb hbl).mono ?_
  rintro e w' ⟨rfl, own', hm, hd, hf'⟩
  refine ⟨rfl, own', hm, hd, ?_⟩
  rw [fsT_len]
  exact hf'
end Go.Proofs.YtdbgihpognfhdaaGreat.Sl.Nd
