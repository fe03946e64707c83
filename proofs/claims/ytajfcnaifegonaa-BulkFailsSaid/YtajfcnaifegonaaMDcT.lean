/- Trees in a program: the document's, read whole out of a file's bytes: a node. -/
import Derived.Test.YtajfcnaifegonaaMDcP
import Derived.Test.YtajfcnaifegonaaMRegP
import Derived.Deep.Cut
namespace Go.Proofs.Ytajfcnaifegonaa.Sl.Nd
open Go Go.RowKit Go.By
set_option maxRecDepth 100000 in
set_option maxHeartbeats 40000000 in
theorem refNode_any {K : List Nat} (hK : ∀ c ∈ K, c < 256) (hs : K.length ≤ 1048576) : ∀ (f deep : Nat), f + deep = 41 → 1 ≤ deep → ∀ (w : World) (pb : Option Addr) (cb : Nat) (off : Int) (ct : Nat) (root : Bool), Bytes w (.slice pb K.length cb) K → ct < 18446744073709551616 →
    Calls Try.prog 25 #[.slice pb K.length cb, .agg #[.int .i64 off, .int .u64 (ct : Nat)], .bool root, .int .i64 (deep : Nat)] w (DcTold w (docT K f off ct root)) := by
  intro f
  induction f using Nat.strongRecOn with
  | _ f ih =>
  intro deep hfd h1d w pb cb off ct root hB hct
  obtain ⟨X, hX⟩ : ∃ X, X = docT K f off ct root := ⟨_, rfl⟩
  rw [← hX]
  have HXX := Lib.hid hX
  obtain ⟨W1, hW1⟩ : ∃ W1, W1 = w.alloc (.cells #[.int .i64 off, .int .u64 (ct : Nat)] 39) := ⟨_, rfl⟩
  have hb1 : Below w.heap.size w W1 := by rw [hW1]; exact (Below.refl _ _).alloc (Nat.le_refl _) _
  have g0 : W1.heap[w.heap.size]? = some (.cells #[.int .i64 off, .int .u64 (ct : Nat)] 39 (0, 0)) := by rw [hW1]; exact heap_alloc_new w _
  have HW1 := Lib.hid hW1; have HB1 := Lib.hid hb1; have HG0 := Lib.hid g0
  have HBK := Lib.hid hB; have HK := Lib.hid hK; have HS := Lib.hid hs; have HIH := Lib.hid ih; have HFD := Lib.hid hfd; have HD1 := Lib.hid h1d
  have HNO : Hid (X = none → ∀ w', Below w.heap.size w w' → DcTold w X (.returned (.tuple #[.slice none 0 0, .int .i64 0, .int .i64 2])) w') := fun h w' hb => by
    rw [h]; exact ⟨hb, .inl ⟨rfl, rfl⟩⟩
  obtain ⟨KL, hKL⟩ : ∃ l, l = K.length := ⟨_, rfl⟩
  have HKL := Lib.hid hKL
  have hKL6 : (KL : Int) ≤ 1048576 := by omega
  have hdi : (deep : Int) ≤ 41 := by omega
  rw [← hKL] at HBK ⊢
  have q0 := cells_of g0 0
  have q1 := cells_of g0 1
  simp only [List.getElem?_toArray, List.getElem?_cons_zero, List.getElem?_cons_succ] at q0 q1
  rw [hW1] at q0 q1
  by_cases hout : off < 256 ∨ (KL : Int) < off ∨ 40 < deep
  · have HF := Lib.hid (HNO.out (by rw [hX]; exact docT_out (by omega)) W1 hb1)
    clear ih hfd h1d hX hW1 hb1 g0 hB hK hs hKL HNO
    by_cases h1 : off < 256
    · clear hout
      go_enter Try.func25, Try.ntmps25
      go_wp2
      rw [← HW1.out]
      go_ret3
      exact HF.out
    · by_cases h2 : (KL : Int) < off
      · clear hout
        go_enter Try.func25, Try.ntmps25
        go_wp2
        rw [← HW1.out]
        go_ret3
        exact HF.out
      · have h3 : (40 : Int) < deep := by omega
        clear hout
        go_enter Try.func25, Try.ntmps25
        go_wp2
        rw [← HW1.out]
        go_ret3
        exact HF.out
  · obtain ⟨N, rfl⟩ : ∃ n : Nat, off = n := ⟨off.toNat, by omega⟩
    obtain ⟨f', rfl⟩ : ∃ f', f = f' + 1 := ⟨f - 1, by omega⟩
    have hNK : N ≤ K.length := by omega
    have HXE : Hid (X = match nodeIn K (N : Int) ct with
        | none => none
        | some n => if root = false ∧ (keysN n).length < 4 then none else if n.leaf = true then some (n.its, 1) else kidsT (fun d => docT K f' d.off d.ct false) (n.ks.zip n.kids) [] 0) := by
      unfold Hid; rw [hX, docT]; rfl
    rw [nodeIn_at (by omega)] at HXE
    have hN1 : ¬ (N : Int) < 256 := by omega
    have hN2 : ¬ (KL : Int) < N := by omega
    have hD4 : ¬ (40 : Int) < deep := by omega
    obtain ⟨qr, cr, hfr, hbr⟩ := rest_run (i := N) (hB.below hb1) hNK
    have hbr1 : (K.drop N).length = K.length - N := List.length_drop
    rw [← hKL] at hfr hbr hbr1
    obtain ⟨M, hM⟩ : ∃ M, M = KL - N := ⟨_, rfl⟩
    rw [← hM] at hfr hbr hbr1
    have HTR := Lib.hid (Go.Proofs.Ytajfcnaifegonaa.Rc.refTake_any _ (K.drop N) W1 hbr (by rw [hbr1]; omega))
    have HSM : Hid (∀ c ∈ K.drop N, c < 256) := fun c hc => HK.out c (List.mem_of_mem_drop hc)
    obtain ⟨R, hR⟩ : ∃ R, R = K.drop N := ⟨_, rfl⟩
    rw [← hR] at HXE HTR HSM
    have HRL : Hid (R.length ≤ 1048576) := by unfold Hid; rw [hR, List.length_drop]; omega
    have HCT := Lib.hid hct
    clear ih hfd h1d hX hb1 g0 hB hK hs hKL hout hNK hbr hbr1 hM hR hct
    go_enter Try.func25, Try.ntmps25
    go_wp2_with fail
    rw [← HW1.out]
    refine HTR.out.mono ?_
    intro e w2 ht
    obtain ⟨kd, ln, er, p2, c2, BD, rfl, hby2, hb2, hc2⟩ : ∃ (kd ln er : Nat) (p : Option Addr) (c : Nat) (BD : List Nat), e = .returned (.tuple #[.int .u8 (kd : Nat), .slice p BD.length c, .int .i64 (ln : Nat), .int .i64 (er : Nat)]) ∧ Bytes w2 (.slice p BD.length c) BD ∧ Below W1.heap.size W1 w2 ∧ ((er = 2 ∧ isRec R = false) ∨ (er = 0 ∧ isRec R = true ∧ kd = atB R 4 ∧ kd < 256 ∧ BD = pc R 5 (bodyLen R))) := by
      obtain ⟨v, hb, h⟩ := ht
      cases hr : isRec R with
      | false =>
        rw [hr] at h
        exact ⟨0, 0, 2, none, 0, [], h, Bytes.nil _, hb, .inl ⟨rfl, rfl⟩⟩
      | true =>
        rw [hr, if_pos rfl] at h
        obtain ⟨h1, h2⟩ := h
        have hbb := Bytes.of_owns h2 (pc_small HSM.out) (by simp only [pc, List.length_take, List.length_drop]; unfold maxLen; have := HRL.out; omega)
        obtain ⟨p, c, rfl, -⟩ := hbb.any
        refine ⟨_, _, _, p, c, _, h1, hbb, hb, .inr ⟨rfl, rfl, rfl, ?_, rfl⟩⟩
        unfold atB
        rw [List.getD_eq_getElem?_getD]
        cases hq : R[4]? with
        | none => decide
        | some c => exact HSM.out c (List.mem_of_getElem? hq)
    have HTN := Lib.hid (refTakeNd_any _ BD w2 hby2)
    have HB2 : Hid (Below w.heap.size w w2) := HB1.out.trans (hb2.mono HB1.out.size)
    have HG02 : Hid (w2.heap[w.heap.size]? = some (.cells #[.int .i64 (N : Int), .int .u64 (ct : Nat)] 39 (0, 0))) := (hb2.block _ (Array.getElem?_eq_some_iff.1 HG0.out).1).trans HG0.out
    have HC2 := Lib.hid hc2
    have hk9 : er = 2 ∨ er = 0 := by rcases hc2 with h | h; exact .inl h.1; exact .inr h.1
    clear ht hby2 hb2 hc2 HTR q0 q1 hfr HSM
    generalize BD.length = BL at *
    go_wp2_with fail
    refine HTN.out.mono ?_
    rintro e w3 ⟨hb3, hc3⟩
    obtain ⟨lf, s1, n1, k1, s2, n2, k2, s3, n3, k3, nf, rfl, hc3'⟩ : ∃ (lf : Bool) (s1 : Option Addr) (n1 k1 : Nat) (s2 : Option Addr) (n2 k2 : Nat) (s3 : Option Addr) (n3 k3 nf : Nat), e = .returned (.tuple #[.agg #[.bool lf, .slice s1 n1 k1, .slice s2 n2 k2, .slice s3 n3 k3], .int .i64 (nf : Nat)]) ∧ ((nf = 2 ∧ takeNd BD = none) ∨ (nf = 0 ∧ ∃ n, takeNd BD = some n ∧ n.leaf = lf ∧ n.its.length = n1 ∧ n.ks.length = n2 ∧ n.kids.length = n3 ∧ IsNd w3 (.agg #[.bool lf, .slice s1 n1 k1, .slice s2 n2 k2, .slice s3 n3 k3]) n s1 k1 s2 k2 s3 k3 ∧ ItRow w3 w2.heap.size (.slice s1 n1 k1) n.its)) := by
      rcases hc3 with ⟨h1, h2⟩ | ⟨n, x, pi, ci, pk, ck, pd, cd, h1, h2, h3, h4⟩
      · exact ⟨false, none, 0, 0, none, 0, 0, none, 0, 0, 2, h2, .inl ⟨rfl, h1⟩⟩
      · have hv := h3.val
        subst hv
        exact ⟨_, _, _, _, _, _, _, _, _, _, 0, h2, .inr ⟨rfl, n, h1, rfl, rfl, rfl, rfl, h3, h4⟩⟩
    have HB3 : Hid (Below w.heap.size w w3) := HB2.out.trans (hb3.mono HB2.out.size)
    have HG03 := (hb3.block _ (Array.getElem?_eq_some_iff.1 HG02.out).1).trans HG02.out
    obtain ⟨W4, hW4⟩ : ∃ W4, W4 = w3.alloc (.cells #[.bool lf, .slice s1 n1 k1, .slice s2 n2 k2, .slice s3 n3 k3] 93) := ⟨_, rfl⟩
    have hb4 : Below w3.heap.size w3 W4 := by rw [hW4]; exact (Below.refl _ _).alloc (Nat.le_refl _) _
    have HB4 : Hid (Below w.heap.size w W4) := HB3.out.trans (hb4.mono HB3.out.size)
    have HG04 : Hid (W4.heap[w.heap.size]? = _) := (hb4.block _ (Array.getElem?_eq_some_iff.1 HG03).1).trans HG03
    have HN4 : Hid (W4.heap[w3.heap.size]? = some (.cells #[.bool lf, .slice s1 n1 k1, .slice s2 n2 k2, .slice s3 n3 k3] 93 (0, 0))) := by unfold Hid; rw [hW4]; exact heap_alloc_new w3 _
    have HW4 := Lib.hid hW4
    have HC3 := Lib.hid hc3'
    have HB34 := Lib.hid hb4
    have HCS : Hid (∀ wz, Below W4.heap.size W4 wz → wz.cell? ⟨w.heap.size, 1, none⟩ = some (.int .u64 (ct : Nat)) ∧ wz.cell? ⟨w3.heap.size, 0, none⟩ = some (.bool lf) ∧ wz.cell? ⟨w3.heap.size, 1, none⟩ = some (.slice s1 n1 k1) ∧ wz.cell? ⟨w3.heap.size, 2, none⟩ = some (.slice s2 n2 k2) ∧ wz.cell? ⟨w3.heap.size, 3, none⟩ = some (.slice s3 n3 k3)) := fun wz hz => by
      have e1 := (hz.block _ (Array.getElem?_eq_some_iff.1 HG04.out).1).trans HG04.out
      have e2 := (hz.block _ (Array.getElem?_eq_some_iff.1 HN4.out).1).trans HN4.out
      exact ⟨cells_of e1 1, cells_of e2 0, cells_of e2 1, cells_of e2 2, cells_of e2 3⟩
    have hk9' : nf = 2 ∨ nf = 0 := by rcases hc3' with h | h; exact .inl h.1; exact .inr h.1
    clear hb3 hc3 hc3' HG03 hW4 hb4 HTN HG02 HN4 HG04 HG0
    go_wp2_with fail
    rw [← HW4.out]
    rcases hk9 with rfl | rfl
    · have HXN : Hid (X = none) := by
        unfold Hid
        rcases HC2.out with ⟨-, h⟩ | ⟨h, -⟩
        · rw [HXE.out, if_neg (by rw [h]; simp)]
        · cases h
      have HF : Hid (∀ wz, Below W4.heap.size W4 wz → _) := fun wz (hz : Below W4.heap.size W4 wz) => HNO.out HXN.out wz (HB4.out.trans (hz.mono HB4.out.size))
      clear hk9' hN1 hN2 hD4
      go_wp2_with fail
      rename_i Kc hKc
      refine wp_region_left (by kernel_rfl)
        [.is (.int .i64 2), .is (.bool true), .is (.bool true), .is undef, .is undef, .is (.bool true), .is (.bool true), .is undef, .is undef, .is (.bool true), .is (.bool true), .is undef, .is undef, .is undef, .is undef, .is undef, .is (.bool true)]
        [[],[0],[1],[2],[2,3],[2,4],[5],[6],[6,7],[6,8],[9],[10],[10,11],[10],[10,13],[10,12,14],[10,15]] (by kernel_rfl) (by rfl) ?_ ?_
      · repeat' (first | exact LeftOps.nil | refine LeftOps.cons ?_ ?_)
        all_goals (intro wz hwz; clear hKc; try ((repeat ((with_reducible apply withLeft_is); exact rfl; exact rfl)); (with_reducible refine withLeft_nil ?_); (try simp only [Act.put, arr0, arr1, arr2])))
        · refine lft_run rfl rfl ?_; exact lmv
        · refine lft_run rfl rfl ?_; unfold LftRun; go_wp2; exact lend
        · refine lft_run rfl rfl ?_; exact lmv
        · exact lsk
        · exact lsk
        · refine lft_run rfl rfl ?_; exact lpk
        · refine lft_run rfl rfl ?_; exact lmv
        · exact lsk
        · exact lsk
        · refine lft_run rfl rfl ?_; exact lpk
        · refine lft_run rfl rfl ?_; exact lmv
        · exact lsk
        · exact lsk
        · exact lsk
        · exact lsk
        · exact lsk
        · refine lft_run rfl rfl ?_; exact lpk
      intro wz hwz
      refine le8 (le8 (LeftEnd.is (LeftEnd.nil ?_)))
      simp only [Act.put, arr0, arr1, arr2]
      refine hKc _ _ ?_
      clear hKc Kc
      go_wp2
      go_ret3
      exact HF.out _ hwz
    · by_cases hkd : kd = 2
      · subst hkd
        rcases hk9' with rfl | rfl
        · have HXN : Hid (X = none) := by
            unfold Hid
            rcases HC2.out with ⟨h, -⟩ | ⟨-, h2, h3, -, h4⟩
            · cases h
            · rcases HC3.out with ⟨-, h5⟩ | ⟨h, -⟩
              · rw [HXE.out, if_pos ⟨h2, h3.symm⟩, ← h4, h5]
              · cases h
          have HF : Hid (∀ wz, Below W4.heap.size W4 wz → _) := fun wz (hz : Below W4.heap.size W4 wz) => HNO.out HXN.out wz (HB4.out.trans (hz.mono HB4.out.size))
          clear hN1 hN2 hD4
          go_wp2_with fail
          rename_i Kc hKc
          refine wp_region_left (by kernel_rfl)
            [.is (.int .i64 0), .is (.bool false), .is (.bool false), .is (.int .u8 2), .is (.bool false), .is (.bool false), .is (.bool false), .is (.int .i64 2), .is (.bool true), .is (.bool true), .is (.bool true), .is undef, .is undef, .is undef, .is undef, .is undef, .is (.bool true)]
            [[],[0],[1],[2],[2,3],[2,4],[5],[6],[6,7],[6,8],[9],[10],[10,11],[10],[10,13],[10,12,14],[10,15]] (by kernel_rfl) (by rfl) ?_ ?_
          · repeat' (first | exact LeftOps.nil | refine LeftOps.cons ?_ ?_)
            all_goals (intro wz hwz; clear hKc; try ((repeat ((with_reducible apply withLeft_is); exact rfl; exact rfl)); (with_reducible refine withLeft_nil ?_); (try simp only [Act.put, arr0, arr1, arr2])))
            · refine lft_run rfl rfl ?_; exact lmv
            · refine lft_run rfl rfl ?_; unfold LftRun; go_wp2; exact lend
            · refine lft_run rfl rfl ?_; exact lmv
            · refine lft_want rfl rfl rfl rfl ?_; exact lmv
            · refine lft_want rfl rfl rfl rfl ?_; unfold LftRun; go_wp2; exact lend
            · refine lft_run rfl rfl ?_; exact lpk
            · refine lft_run rfl rfl ?_; exact lmv
            · refine lft_want rfl rfl rfl rfl ?_; exact lmv
            · refine lft_want rfl rfl rfl rfl ?_; unfold LftRun; go_wp2; exact lend
            · refine lft_run rfl rfl ?_; exact lpk
            · refine lft_run rfl rfl ?_; exact lmv
            · exact lsk
            · exact lsk
            · exact lsk
            · exact lsk
            · exact lsk
            · refine lft_run rfl rfl ?_; exact lpk
          intro wz hwz
          refine le8 (le8 (LeftEnd.is (LeftEnd.nil ?_)))
          simp only [Act.put, arr0, arr1, arr2]
          refine hKc _ _ ?_
          clear hKc Kc
          go_wp2
          go_ret3
          exact HF.out _ hwz
        · obtain ⟨n, htn, hl0, hl1, hl2, hl3, hisn, hitr⟩ : ∃ n, takeNd BD = some n ∧ n.leaf = lf ∧ n.its.length = n1 ∧ n.ks.length = n2 ∧ n.kids.length = n3 ∧ IsNd w3 (.agg #[.bool lf, .slice s1 n1 k1, .slice s2 n2 k2, .slice s3 n3 k3]) n s1 k1 s2 k2 s3 k3 ∧ ItRow w3 w2.heap.size (.slice s1 n1 k1) n.its := by
            rcases HC3.out with ⟨h, -⟩ | ⟨-, h⟩
            · cases h
            · exact h
          have hm := takeNd_mayB htn
          have HM := Lib.hid hm
          have hctr : ctR n = cntN n := by
            unfold ctR cntN
            split
            · rfl
            · exact Nat.mod_eq_of_lt (Nat.lt_of_le_of_lt (sumK_may hm) (by decide))
          have HXF : Hid (X = if cntN n = ct then (if root = false ∧ (keysN n).length < 4 then none else if n.leaf = true then some (n.its, 1) else kidsT (fun d => docT K f' d.off d.ct false) (n.ks.zip n.kids) [] 0) else none) := by
            unfold Hid
            rcases HC2.out with ⟨h, -⟩ | ⟨-, h2, h3, -, h4⟩
            · cases h
            · rw [HXE.out, if_pos ⟨h2, h3.symm⟩, ← h4, htn]
              dsimp only
              by_cases hq : cntN n = ct
              · rw [if_pos hq, if_pos hq]
                all_goals (first | rfl | simp)
              · rw [if_neg hq, if_neg hq]
                all_goals (first | rfl | simp)
          have HCO : Hid (∀ wz, Below W4.heap.size W4 wz → Calls Try.prog 45 #[.agg #[.bool lf, .slice s1 n1 k1, .slice s2 n2 k2, .slice s3 n3 k3]] wz fun e w' => e = .returned (.int .u64 (cntN n : Nat)) ∧ Below wz.heap.size wz w') := fun wz hz => by
            have := ctOf_any ((hisn.below HB34.out).below hz)
            unfold CtTold at this
            rw [hctr] at this
            exact this
          have HIN := Lib.hid hisn; have HIT := Lib.hid hitr; have HL0 := Lib.hid hl0; have HL1 := Lib.hid hl1; have HL2 := Lib.hid hl2; have HL3 := Lib.hid hl3
          have h1o : n1 ≤ 8 := by
            rw [← hl1]
            cases hl : n.leaf with
            | true => exact (may_lf hl hm).1.2
            | false => rw [(may_in hl hm).2.2.2.2.2]; simp
          have h3o : n3 ≤ 8 := by
            rw [← hl3]
            cases hl : n.leaf with
            | true => rw [(may_lf hl hm).2.2.2.2]; simp
            | false => exact (may_in hl hm).1.2
          obtain ⟨CN, hCN⟩ : ∃ c, c = cntN n := ⟨_, rfl⟩
          rw [← hCN] at HXF HCO
          have HCN := Lib.hid hCN
          clear htn hl0 hl1 hl2 hl3 hisn hitr hm hctr hCN HC3
          by_cases hcc : CN = ct
          · have HXG : Hid (X = if root = false ∧ (keysN n).length < 4 then none else if n.leaf = true then some (n.its, 1) else kidsT (fun d => docT K f' d.off d.ct false) (n.ks.zip n.kids) [] 0) := by
              unfold Hid; rw [HXF.out, if_pos hcc]
            subst hcc
            clear HXF HXE hN1 hN2
            go_wp2_with fail
            rename_i Kc hKc
            refine wp_region_left (by kernel_rfl)
              [.is (.int .i64 0), .is (.bool false), .is (.bool false), .is (.int .u8 2), .is (.bool false), .is (.bool false), .is (.bool false), .is (.int .i64 0), .is (.bool false), .is (.bool false), .is (.bool false), .is (.agg #[.bool lf, .slice s1 n1 k1, .slice s2 n2 k2, .slice s3 n3 k3]), .is (.int .u64 (CN : Nat)), .is (.pointer (some ⟨w.heap.size, 1, none⟩)), .is (.int .u64 (CN : Nat)), .is (.bool false), .is (.bool false)]
              [[],[0],[1],[2],[2,3],[2,4],[5],[6],[6,7],[6,8],[9],[10],[10,11],[10],[10,13],[10,12,14],[10,15]] (by kernel_rfl) (by rfl) ?_ ?_
            · repeat' (first | exact LeftOps.nil | refine LeftOps.cons ?_ ?_)
              all_goals (intro wz hwz; clear hKc; try ((repeat ((with_reducible apply withLeft_is); exact rfl; exact rfl)); (with_reducible refine withLeft_nil ?_); (try simp only [Act.put, arr0, arr1, arr2])))
              · refine lft_run rfl rfl ?_; exact lmv
              · refine lft_run rfl rfl ?_; unfold LftRun; go_wp2; exact lend
              · refine lft_run rfl rfl ?_; exact lmv
              · refine lft_want rfl rfl rfl rfl ?_; exact lmv
              · refine lft_want rfl rfl rfl rfl ?_; unfold LftRun; go_wp2; exact lend
              · refine lft_run rfl rfl ?_; exact lpk
              · refine lft_run rfl rfl ?_; exact lmv
              · refine lft_want rfl rfl rfl rfl ?_; exact lmv
              · refine lft_want rfl rfl rfl rfl ?_; unfold LftRun; go_wp2; exact lend
              · refine lft_run rfl rfl ?_; exact lpk
              · refine lft_run rfl rfl ?_; exact lmv
              · refine lft_want rfl rfl rfl rfl ?_; obtain ⟨c0, c1, c2, c3, c4⟩ := HCS.out wz hwz; unfold LftRun; go_wp2; exact lend
              · refine lft_want rfl rfl rfl rfl ?_; unfold LftRun; go_wp2_with fail; refine (HCO.out wz hwz).mono ?_; rintro e w9 ⟨rfl, hb9⟩; go_wp2; exact ⟨rfl, rfl, rfl, hb9⟩
              · refine lft_want rfl rfl rfl rfl ?_; unfold LftRun; go_wp2; exact lend
              · refine lft_want rfl rfl rfl rfl ?_; obtain ⟨c0, c1, c2, c3, c4⟩ := HCS.out wz hwz; unfold LftRun; go_wp2; exact lend
              · refine lft_want rfl rfl rfl rfl ?_; unfold LftRun; go_wp2; exact lend
              · refine lft_run rfl rfl ?_; exact lpk
            intro wz hwz
            refine le8 (le8 (LeftEnd.is (LeftEnd.nil ?_)))
            simp only [Act.put, arr0, arr1, arr2]
            refine hKc _ _ ?_
            clear hKc Kc
            obtain ⟨c0, c1, c2, c3, c4⟩ := HCS.out wz hwz
            have HBZ : Hid (Below w.heap.size w wz) := HB4.out.trans (hwz.mono HB4.out.size)
            have HNO2 : Hid (X = none → ∀ w', Below wz.heap.size wz w' → _) := fun hx w' (hw' : Below wz.heap.size wz w') => HNO.out hx w' (HBZ.out.trans (hw'.mono HBZ.out.size))
            have HSZ : Hid (Below W4.heap.size W4 wz) := hwz
            clear hwz
            cases lf with
            | true =>
              have hkl : (keysN n).length = n1 := by unfold keysN; rw [if_pos HL0.out, List.length_map, HL1.out]
              have HXH : Hid (X = if root = false ∧ n1 < 4 then none else some (n.its, 1)) := by unfold Hid; (rw [HXG.out, hkl, if_pos HL0.out]); all_goals (first | rfl | simp)
              have HYES : Hid (X = some (n.its, 1) → DcTold w X (.returned (.tuple #[.slice s1 n1 k1, .int .i64 1, .int .i64 0])) wz) := fun hx => by
                rw [hx, ← HL1.out]
                refine ⟨HBZ.out, .inr ⟨n.its, 1, s1, k1, rfl, rfl, ?_⟩⟩
                have := HIT.out
                rw [← HL1.out] at this
                exact ((this.below' HB34.out).below' HSZ.out).weaken HB2.out.size
              clear HXG hkl
              cases root with
              | true =>
                have HF := Lib.hid (HYES.out (by rw [HXH.out, if_neg (by simp)]))
                go_wp2
                go_ret3
                exact HF.out
              | false =>
                by_cases h4 : n1 < 4
                · have HF := Lib.hid (HNO2.out (by rw [HXH.out, if_pos ⟨rfl, h4⟩]) wz (Below.refl _ _))
                  have h4' : (n1 : Int) < 4 := by omega
                  clear h4
                  go_wp2
                  go_ret3
                  exact HF.out
                · have HF := Lib.hid (HYES.out (by rw [HXH.out, if_neg (by simp; omega)]))
                  have h4' : ¬ (n1 : Int) < 4 := by omega
                  clear h4
                  go_wp2
                  go_ret3
                  exact HF.out
            | false =>
              have hin := may_in HL0.out HM.out
              have hkl : (keysN n).length = n3 := by unfold keysN; rw [if_neg (by rw [HL0.out]; decide), hin.2.1, HL3.out]
              have HXH : Hid (X = if root = false ∧ n3 < 4 then none else kidsT (fun d => docT K f' d.off d.ct false) (n.ks.zip n.kids) [] 0) := by unfold Hid; (rw [HXG.out, hkl]); (simp [HL0.out])
              have HLN : Hid (n.ks.length = n.kids.length) := hin.2.1
              clear HXG hkl hin
              by_cases hfew : root = false ∧ n3 < 4
              · have HF := Lib.hid (HNO2.out (by rw [HXH.out, if_pos hfew]) wz (Below.refl _ _))
                obtain ⟨rfl, h4⟩ := hfew
                have h4' : (n3 : Int) < 4 := by omega
                clear h4
                go_wp2
                go_ret3
                exact HF.out
              have hXX : X = kidsT (fun d => docT K f' d.off d.ct false) (n.ks.zip n.kids) [] 0 := by rw [HXH.out, if_neg hfew]
              obtain ⟨RN, hRN⟩ : ∃ b, b = !root := ⟨_, rfl⟩
              have HRN := Lib.hid hRN
              have HPK : Hid (RN = true → decide ((n3 : Int) < 4) = false) := fun h => decide_eq_false (fun h4 => hfew ⟨by rw [hRN] at h; simpa using h, by omega⟩)
              clear hfew hRN
              go_upto_region 11 with fail
              rename_i K9 hK9
              refine wp_region_left_plain
                [.is (.bool root), .is (.bool RN), .is (.bool RN), .is (if RN = true then (.pointer (some ⟨w3.heap.size, 3, none⟩)) else undef), .is (if RN = true then (.slice s3 n3 k3) else undef), .is (if RN = true then (.int .i64 (n3 : Nat)) else undef), .is (if RN = true then (.bool (decide ((n3 : Int) < 4))) else undef), .is (.bool false)]
                [[],[0],[1],[2],[2,3],[2,4],[2,5],[2,6]] (by kernel_rfl) (by rfl) ?_ ?_
              · repeat' (first | exact LeftOps.nil | refine LeftOps.cons ?_ ?_)
                all_goals (intro wv hwv; clear hK9; try ((repeat ((with_reducible apply withLeft_is); exact rfl; exact rfl)); (with_reducible refine withLeft_nil ?_); (try simp only [Act.put, arr0, arr1, arr2])))
                · refine lft_run rfl rfl ?_; exact lmv
                · refine lft_run rfl rfl ?_; unfold LftRun; go_wp2; exact ⟨rfl, congrArg Value.bool HRN.out.symm, rfl, Below.refl _ _⟩
                · refine lft_run rfl rfl ?_; exact lmv
                · refine lft_maybe rfl rfl rfl rfl rfl (fun hgv => ?_); subst hgv; simp only; unfold LftRun; go_wp2; exact lend
                · refine lft_maybe rfl rfl rfl rfl rfl (fun hgv => ?_); subst hgv; simp only [if_true]; unfold LftRun; obtain ⟨d0, d1, d2, d3, d4⟩ := HCS.out wv (HSZ.out.trans (hwv.mono HSZ.out.size)); go_wp2; exact lend
                · refine lft_maybe rfl rfl rfl rfl rfl (fun hgv => ?_); subst hgv; simp only [if_true]; unfold LftRun; go_wp2; exact lend
                · refine lft_maybe rfl rfl rfl rfl rfl (fun hgv => ?_); subst hgv; simp only [if_true]; unfold LftRun; go_wp2; exact ⟨rfl, (by first | rfl | simp), rfl, Below.refl _ _⟩
                · refine lft_run rfl rfl ?_; have hpk := HPK.out; cases RN with
                  | true =>
                    have hq := hpk rfl
                    simp only [if_true, hq]
                    exact lft_pick rfl rfl rfl
                  | false =>
                    exact lft_pick rfl rfl rfl
              intro wv hwv
              refine le8 (LeftEnd.nil ?_)
              simp only [Act.put, arr0, arr1, arr2]
              refine hK9 _ _ ?_
              generalize (if RN = true then (.pointer (some ⟨w3.heap.size, 3, none⟩) : Value) else undef) = z74
              generalize (if RN = true then (.slice s3 n3 k3 : Value) else undef) = z75
              generalize (if RN = true then (.int .i64 (n3 : Nat) : Value) else undef) = z76
              generalize (if RN = true then (.bool (decide ((n3 : Int) < 4)) : Value) else undef) = z77
              clear hK9 K9
              have HLP : Hid (DcLoop wz (fun d => docT K f' d.off d.ct false) K n.ks n.kids X (.slice none 0 0) (.int .i64 (0 : Nat)) (.int .i64 (0 : Nat)) wv) := ⟨0, 0, [], Nat.zero_le _, rfl, rfl, by decide, ItRow.nil _ _, by simp, .nil, fun j hj => (by cases hj), by rw [hXX]; rfl, hwv⟩
              have HAT : Hid (∀ w', Below wz.heap.size wz w' → (w'.cell? ⟨w3.heap.size, 2, none⟩ = some (.slice s2 n2 k2) ∧ w'.cell? ⟨w3.heap.size, 3, none⟩ = some (.slice s3 n3 k3)) ∧ IsNd w' (.agg #[.bool false, .slice s1 n1 k1, .slice s2 n2 k2, .slice s3 n3 k3]) n s1 k1 s2 k2 s3 k3) := fun w' hw' => by
                obtain ⟨-, -, -, h3, h4⟩ := HCS.out w' (HSZ.out.trans (hw'.mono HSZ.out.size))
                exact ⟨⟨h3, h4⟩, ((HIN.out.below HB34.out).below HSZ.out).below hw'⟩
              have HDW : Hid (∀ w', Below w.heap.size w w' → Bytes w' (.slice pb KL cb) K) := fun w' hw' => HBK.out.below hw'
              have HWL : Hid (w.heap.size ≤ wz.heap.size) := HBZ.out.size
              have hwd : IntKind.i64.wrap ((deep : Int) + 1) = (deep + 1 : Nat) := by rw [IntKind.wrap_i64]; omega
              have HMK : Hid (∀ d ∈ n.kids, mayKd d = true) := (may_in HL0.out HM.out).2.2.2.2.1
              clear HXH hXX HB4 c0 HNO
              obtain ⟨DP, hDP⟩ : ∃ x, x = deep + 1 := ⟨_, rfl⟩
              rw [← hDP] at hwd
              have HDP := Lib.hid hDP
              clear hDP
              go_wp2
              go_loopw [17, 18, 19] (fun av dv i wr => DcLoop wz (fun d => docT K f' d.off d.ct false) K n.ks n.kids X av dv i wr) (fun _ _ i _ => n3 - (intOf i).toNat)
              case atStart => exact HLP.out
              case round =>
                clear HLP c1 c2 c3 c4
                obtain ⟨k, d, all, hk, rfl, rfl, hd9, hrow, h0, hpw, hhas, hXk, hB⟩ := hrel
                have hall := has_few hpw hhas
                obtain ⟨pa, ca, rfl, hata⟩ := hrow.at_
                obtain ⟨NA, hNA⟩ : ∃ x, x = all.length := ⟨_, rfl⟩
                have hNA6 : (NA : Int) ≤ 1048576 := by have := HS.out; omega
                have HNA := Lib.hid hNA
                have hk3 : k ≤ n3 := by rw [← HL3.out]; exact hk
                by_cases hlt : k < n3
                · have hkl : k < n.kids.length := by rw [HL3.out]; exact hlt
                  have hkk : k < n.ks.length := by rw [HLN.out]; exact hkl
                  obtain ⟨⟨m2, m3⟩, hnd⟩ := HAT.out wr hB
                  obtain ⟨lb, lo, rfl, hat⟩ := hnd.kids.some (by omega)
                  obtain ⟨cs, hc, rfl, hd1, hd2⟩ := hat k hkl
                  obtain ⟨e0, e1⟩ := hc.two
                  simp only [KRef] at e0 e1
                  obtain ⟨kb, ko, rfl, hatk⟩ := hnd.ks.some (by omega)
                  obtain ⟨cs', hck, xk, rfl, hxk⟩ := hatk k hkk
                  have e2 := hck.one
                  simp only [KBytes, Nat.mul_one] at e2
                  obtain ⟨Dk, hDk⟩ : ∃ x, x = n.kids[k] := ⟨_, rfl⟩
                  obtain ⟨Kk, hKk⟩ : ∃ x, x = n.ks[k] := ⟨_, rfl⟩
                  rw [← hDk] at e0 e1 hd1 hd2
                  rw [← hKk] at hxk
                  obtain ⟨R1, hR1⟩ : ∃ r, r = docT K f' Dk.off Dk.ct false := ⟨_, rfl⟩
                  have hXn := kidsT_stepX (rec := fun d => docT K f' d.off d.ct false) HLN.out hkl all d hDk hKk (R := R1) hR1
                  rw [← hXk] at hXn
                  have HXN1 := Lib.hid hXn
                  have hBw : Below w.heap.size w wr := HBZ.out.trans (hB.mono HBZ.out.size)
                  have HND : Hid (Calls Try.prog 25 #[.slice pb KL cb, .agg #[.int .i64 Dk.off, .int .u64 (Dk.ct : Nat)], .bool false, .int .i64 (DP : Nat)] wr (DcTold wr R1)) := by
                    have := HIH.out f' (by omega) DP (by have := HFD.out; have := HDP.out; omega) (by have := HDP.out; omega) wr pb cb Dk.off Dk.ct false (by rw [HKL.out.symm]; exact HDW.out wr hBw) hd2
                    rw [HKL.out.symm, ← hR1] at this
                    exact this
                  have HG : Hid (∀ l h, R1 = some (l, h) → Go.By.Good K f' Dk.ct false l h) := fun l h e => docT_good HK.out f' Dk.off Dk.ct false l h (by rw [← hR1, e])
                  have hki : (k : Int) < n3 := by omega
                  have hki2 : (k : Int) < n2 := by rw [← HL2.out]; omega
                  have HLT := Lib.hid hlt; have HROW := Lib.hid hrow; have H0 := Lib.hid h0; have HPW := Lib.hid hpw; have HHAS := Lib.hid hhas; have HB := Lib.hid hB; have HBW := Lib.hid hBw; have HXK := Lib.hid hxk; have HATA := Lib.hid hata
                  have HC5 : Hid (∀ w', Below wr.heap.size wr w' → w'.cell? ⟨w3.heap.size, 2, none⟩ = some (.slice (some ⟨kb, ko, none⟩) n2 k2) ∧ w'.cell? ⟨kb, ko + k, none⟩ = some xk) := fun w' hw' => ⟨(hw'.cell (p := ⟨w3.heap.size, 2, none⟩) (block_lt_of_cell m2)).trans m2, (hw'.cell (p := ⟨kb, ko + k, none⟩) (block_lt_of_cell e2)).trans e2⟩
                  obtain ⟨qk, ck, rfl, -⟩ := hxk.any
                  rw [← hNA]
                  have hNAn : (.slice pa all.length ca : Value) = .slice pa NA ca := by rw [hNA]
                  rw [hNAn] at HROW
                  have HKK := Lib.hid hkk; have HKL8 := Lib.hid hkl
                  obtain ⟨LK, hLK⟩ : ∃ x, x = Kk.length := ⟨_, rfl⟩
                  rw [← hLK] at HXK HC5 e2
                  have HD9 := Lib.hid hd9
                  have hd9i : (d : Int) ≤ 1000 := by omega
                  clear hk hrow h0 hpw hhas hXk hB hata hNA hk3 hlt hkl hkk hnd hat hc hd1 hd2 hck hatk hxk hDk hKk hR1 hXn hBw hNAn hall hLK hd9
                  go_wp2_with fail
                  refine HND.out.mono ?_
                  rintro e w5 ⟨hb5, hc5⟩
                  have HB5 := Lib.hid hb5
                  have HBW5 : Hid (Below w.heap.size w w5) := HBW.out.trans (hb5.mono HBW.out.size)
                  clear hb5 m2 m3 e0 e1 e2 HND
                  rcases hc5 with ⟨hno, rfl⟩ | ⟨l, h, pl, cl, hsome, rfl, hrl⟩
                  · have HXO : Hid (X = none) := by exact HXN1.out.1 hno
                    have HF : Hid (∀ wy, Below w5.heap.size w5 wy → DcTold w X (.returned (.tuple #[.slice none 0 0, .int .i64 0, .int .i64 2])) wy) := fun wy hy => HNO2.out HXO.out wy ((HB.out.trans (HB5.out.mono HB.out.size)).trans (hy.mono (HB.out.trans (HB5.out.mono HB.out.size)).size))
                    clear hno
                    go_wp2_with fail
                    rename_i Kc hKc
                    refine wp_region_left (by kernel_rfl)
                      [.is (.int .i64 2), .is (.bool true), .is (.bool true), .is undef, .is undef, .is undef, .is (.bool true), .is (.bool true), .is undef, .is undef, .is undef, .is undef, .is undef, .is undef, .is undef, .is undef, .is undef, .is undef, .is undef, .is undef, .is (.bool true), .is (.bool true), .is undef, .is undef, .is undef, .is undef, .is undef, .is undef, .is undef, .is (.bool true), .is (.bool true), .is undef, .is undef, .is undef, .is undef, .is undef, .is undef, .is undef, .is undef, .is undef, .is undef, .is undef, .is undef, .is undef, .is undef, .is undef, .is undef, .is undef, .is undef, .is undef, .is (.bool true)]
                      [[],[0],[1],[2],[2,3],[2,4],[2,5],[6],[7],[7,8],[7,9],[7,10],[7,11],[7],[7,13],[7],[7,14,15],[7,16],[7,17],[7,12,18],[7,19],[20],[21],[21,22],[21,23],[24],[24],[24,25,26],[21,24,27],[21,28],[29],[30],[30,31],[30,32],[30,33],[34],[34],[34,36],[34,37],[34,35,38],[34,39],[34,40],[34,41],[34],[34,43],[34,44],[34,45],[34,46],[34,42,47],[30,34,48],[30,49]] (by kernel_rfl) (by rfl) ?_ ?_
                    · repeat' (first | exact LeftOps.nil | refine LeftOps.cons ?_ ?_)
                      all_goals (intro wy hwy; clear hKc; (try clear HAPP; try clear HOK; try clear HFN; try clear HNO2; try clear HAT; try clear HIN; try clear HIT; try clear HIH; try clear HG; try clear HXO; try clear HXN1; try clear HROW; try clear HATA; try clear HXK; try clear HBK; try clear HXX; try clear HXE; try clear HCO; try clear HDW; try clear HHAS; try clear HPW; try clear HF; try clear HMK; try clear HC2); try ((repeat ((with_reducible apply withLeft_is); exact rfl; exact rfl)); (with_reducible refine withLeft_nil ?_); (try simp only [Act.put, arr0, arr1, arr2])))
                      · refine lft_run rfl rfl ?_; exact lmv
                      · refine lft_run rfl rfl ?_; unfold LftRun; go_wp2; exact lend
                      · refine lft_run rfl rfl ?_; exact lmv
                      · exact lsk
                      · exact lsk
                      · exact lsk
                      · refine lft_run rfl rfl ?_; exact lpk
                      · refine lft_run rfl rfl ?_; exact lmv
                      · exact lsk
                      · exact lsk
                      · exact lsk
                      · exact lsk
                      · exact lsk
                      · exact lsk
                      · exact lsk
                      · exact lsk
                      · exact lsk
                      · exact lsk
                      · exact lsk
                      · exact lsk
                      · refine lft_run rfl rfl ?_; exact lpk
                      · refine lft_run rfl rfl ?_; exact lmv
                      · exact lsk
                      · exact lsk
                      · exact lsk
                      · exact lsk
                      · exact lsk
                      · exact lsk
                      · exact lsk
                      · refine lft_run rfl rfl ?_; exact lpk
                      · refine lft_run rfl rfl ?_; exact lmv
                      · exact lsk
                      · exact lsk
                      · exact lsk
                      · exact lsk
                      · exact lsk
                      · exact lsk
                      · exact lsk
                      · exact lsk
                      · exact lsk
                      · exact lsk
                      · exact lsk
                      · exact lsk
                      · exact lsk
                      · exact lsk
                      · exact lsk
                      · exact lsk
                      · exact lsk
                      · exact lsk
                      · exact lsk
                      · refine lft_run rfl rfl ?_; exact lpk
                    intro wy hwy
                    refine le8 (le8 (le8 (le8 (le8 (le8 (LeftEnd.is (LeftEnd.is (LeftEnd.is (LeftEnd.nil ?_)))))))))
                    simp only [Act.put, arr0, arr1, arr2]
                    refine hKc _ _ ?_
                    clear hKc Kc
                    go_wp2
                    go_ret3
                    exact HF.out _ hwy
                  · have hgood := HG.out l h hsome
                    have HXO : Hid (X = if okKid Kk l h all d = true then kidsT (fun d => docT K f' d.off d.ct false) ((n.ks.zip n.kids).drop (k + 1)) (all ++ l) h else none) := by exact HXN1.out.2 l h hsome
                    have HFN : Hid (okKid Kk l h all d = false → ∀ wy, Below w5.heap.size w5 wy → DcTold w X (.returned (.tuple #[.slice none 0 0, .int .i64 0, .int .i64 2])) wy) := fun hok wy hy => HNO2.out (by rw [HXO.out, if_neg (by rw [hok]; simp)]) wy ((HB.out.trans (HB5.out.mono HB.out.size)).trans (hy.mono (HB.out.trans (HB5.out.mono HB.out.size)).size))
                    obtain ⟨i0, hi0, hl0⟩ : ∃ i, l.head? = some i ∧ 0 < l.length := by
                      cases l with
                      | nil => exact absurd rfl hgood.some
                      | cons i r => exact ⟨i, rfl, by simp⟩
                    have hi00 : l[0] = i0 := by
                      rw [List.head?_eq_getElem?, List.getElem?_eq_getElem hl0] at hi0
                      exact Option.some.inj hi0
                    obtain ⟨pl', cl', el, hatl⟩ := hrl.at_
                    cases el
                    obtain ⟨lb2, lo2, rfl, hatl'⟩ := hatl.some hl0
                    obtain ⟨cl2, hcl2, va, vb, rfl, hva, hvb⟩ := hatl' 0 hl0
                    obtain ⟨u0, -⟩ := hcl2.two
                    simp only [KItem, Nat.zero_mul, Nat.add_zero] at u0
                    rw [hi00] at hva
                    obtain ⟨NL, hNL⟩ : ∃ x, x = l.length := ⟨_, rfl⟩
                    have hNLp : (0 : Int) < NL := by omega
                    have hNL0 : ((NL : Int) == 0) = false := by simp; omega
                    have hln : l.length ≤ K.length := has_few hgood.rise hgood.has
                    have hNL6 : (NL : Int) ≤ 1048576 := by have := HS.out; omega
                    have HI0 : Hid (∀ wy, Below w5.heap.size w5 wy → Bytes wy va i0.k) := fun wy hy => hva.below hy
                    have HKY : Hid (∀ wy, Below w5.heap.size w5 wy → Bytes wy (.slice qk LK ck) Kk) := fun wy hy => (HXK.out.below HB5.out).below hy
                    obtain ⟨qa, ca2, rfl, -⟩ := hva.any
                    have HEQ : Hid (((strOf i0.k).toList == (strOf Kk).toList) = decide (i0.k = Kk)) := eqs_str hva.small HXK.out.small
                    have HIS := Lib.hid hva.small
                    obtain ⟨l1, hl1⟩ : ∃ x, x = i0.k.length := ⟨_, rfl⟩
                    rw [← hl1] at u0 HI0
                    have HCS5 : Hid (∀ wy, Below w5.heap.size w5 wy → wy.cell? ⟨lb2, lo2, none⟩ = some (.slice qa l1 ca2) ∧ wy.cell? ⟨w3.heap.size, 2, none⟩ = some (.slice (some ⟨kb, ko, none⟩) n2 k2) ∧ wy.cell? ⟨kb, ko + k, none⟩ = some (.slice qk LK ck)) := fun wy hy => by
                      obtain ⟨r1, r2⟩ := HC5.out wy (HB5.out.trans (hy.mono HB5.out.size))
                      exact ⟨(hy.cell (p := ⟨lb2, lo2, none⟩) (block_lt_of_cell u0)).trans u0, r1, r2⟩
                    have HAPP : Hid (okKid Kk l h all d = true → ∀ wy, Below w5.heap.size w5 wy → ∃ p' c' w', (Builtin.append_ #[30, 30] 30 #[.slice pa NA ca, .slice (some ⟨lb2, lo2, none⟩) NL cl]).run Try.prog wy = .ok (.slice p' (NA + NL : Nat) c') w' ∧ DcLoop wz (fun d => docT K f' d.off d.ct false) K n.ks n.kids X (.slice p' (NA + NL : Nat) c') (.int .i64 (h : Nat)) (.int .i64 (k + 1 : Nat)) w') := fun hok wy hy => by
                      have hr1 := (HROW.out.below' HB5.out).below' hy
                      have hr2 := hrl.below' hy
                      have hap : ItRow wy wz.heap.size (.slice pa all.length ca) all := by rw [← HNA.out]; exact hr1
                      obtain ⟨p', c', w', hrun, hr', hg⟩ := hap.app (hr2.weaken HB.out.size) hl0 (by have := has_few HPW.out HHAS.out; have := HS.out; omega) (HB.out.trans ((HB5.out.trans (hy.mono HB5.out.size)).mono HB.out.size)).size
                      rw [← hNL, ← HNA.out] at hrun hr'
                      obtain ⟨i, q1, q2, q3, q4⟩ := okKid_iff.1 hok
                      have hbz : Below wz.heap.size wz w' := hg.below (HB.out.trans ((HB5.out.trans (hy.mono HB5.out.size)).mono HB.out.size)) (HB.out.trans ((HB5.out.trans (hy.mono HB5.out.size)).mono HB.out.size)).size (fun q hq => by obtain ⟨cs, -, ho, -⟩ := hap; exact (ho.lt q hq).1)
                      refine ⟨p', c', w', hrun, k + 1, h, all ++ l, by have := HKL8.out; omega, rfl, rfl, by have := hgood.high; have := HFD.out; omega, hr', ⟨fun e => ?_, fun e => by omega⟩, rise_app HPW.out hgood.rise (fun j hj i' hi' => ?_), fun j hj => ?_, ?_, hbz⟩
                      · rw [List.append_eq_nil_iff] at e
                        exact absurd e.2 hgood.some
                      · rw [q1] at hi'
                        cases hi'
                        exact q4 j hj
                      · rcases List.mem_append.1 hj with hj | hj
                        · exact HHAS.out j hj
                        · exact hgood.has j hj
                      · rw [HXO.out, if_pos hok]
                    have HHG : Hid (h < 1000) := by have := hgood.high; have := HFD.out; unfold Hid; omega
                    have hh9 : (h : Int) ≤ 1000 := by have := HHG.out; omega
                    have HI00 := Lib.hid hi0
                    rw [← hNL]
                    have HOK : Hid (okKid Kk l h all d = true ↔ (i0.k = Kk ∧ (all = [] ∨ h = d) ∧ ∀ j, all.getLast? = some j → lessN j.k i0.k = true)) := by
                      unfold Hid
                      rw [okKid_iff]
                      constructor
                      · rintro ⟨i, q1, q2, q3, q4⟩
                        rw [hi0] at q1
                        cases q1
                        exact ⟨q2, q3, q4⟩
                      · rintro ⟨q2, q3, q4⟩
                        exact ⟨i0, hi0, q2, q3, q4⟩
                    have HHN := Lib.hid hNL
                    clear hsome hgood hi0 hl0 hi00 hatl hatl' hcl2 hva hvb u0 hNL hln hl1 hrl HC5
                    by_cases hkey : i0.k = Kk
                    · rw [decide_eq_true hkey] at HEQ
                      have HNQ : Hid (((strOf i0.k).toList != (strOf Kk).toList) = false) := by unfold Hid bne; rw [HEQ.out]; rfl
                      have HKEY := Lib.hid hkey
                      clear hkey
                      by_cases hk0 : k = 0
                      · have hale : all = [] := H0.out.2 hk0
                        have HKT : Hid (okKid Kk l h all d = true) := HOK.out.2 ⟨HKEY.out, .inl hale, fun j hj => by rw [hale] at hj; cases hj⟩
                        have hNA0 : NA = 0 := by rw [HNA.out, hale]; rfl
                        have hkk0 : ¬ (0 : Int) < k := by omega
                        have hna0 : ¬ (0 : Int) < NA := by omega
                        clear hk0 hale hNA0
                        go_wp2_with fail
                        rename_i Kc hKc
                        refine wp_region_left (by kernel_rfl)
                          [.is (.int .i64 0), .is (.bool false), .is (.bool false), .is (.slice (some ⟨lb2, lo2, none⟩) NL cl), .is (.int .i64 (NL : Nat)), .is (.bool false), .is (.bool false), .is (.bool false), .is (.slice (some ⟨lb2, lo2, none⟩) NL cl), .is (.pointer (some ⟨lb2, lo2, none⟩)), .is (.pointer (some ⟨lb2, lo2, none⟩)), .is (.slice qa l1 ca2), .is (.string (strOf i0.k)), .is (.pointer (some ⟨w3.heap.size, 2, none⟩)), .is (.slice (some ⟨kb, ko, none⟩) n2 k2), .is (.int .i64 (k : Nat)), .is (.pointer (some ⟨kb, ko + k, none⟩)), .is (.slice qk LK ck), .is (.string (strOf Kk)), .is (.bool false), .is (.bool false), .is (.bool false), .is (.int .i64 (k : Nat)), .is (.bool false), .is (.bool false), .is undef, .is undef, .is undef, .is (.bool false), .is (.bool false), .is (.bool false), .is (.slice pa NA ca), .is (.int .i64 (NA : Nat)), .is (.bool false), .is (.bool false), .is undef, .is undef, .is undef, .is undef, .is undef, .is undef, .is undef, .is undef, .is undef, .is undef, .is undef, .is undef, .is undef, .is undef, .is (.bool false), .is (.bool false)]
                          [[],[0],[1],[2],[2,3],[2,4],[2,5],[6],[7],[7,8],[7,9],[7,10],[7,11],[7],[7,13],[7],[7,14,15],[7,16],[7,17],[7,12,18],[7,19],[20],[21],[21,22],[21,23],[24],[24],[24,25,26],[21,24,27],[21,28],[29],[30],[30,31],[30,32],[30,33],[34],[34],[34,36],[34,37],[34,35,38],[34,39],[34,40],[34,41],[34],[34,43],[34,44],[34,45],[34,46],[34,42,47],[30,34,48],[30,49]] (by kernel_rfl) (by rfl) ?_ ?_
                        · repeat' (first | exact LeftOps.nil | refine LeftOps.cons ?_ ?_)
                          all_goals (intro wy hwy; clear hKc; (try clear HAPP; try clear HOK; try clear HFN; try clear HNO2; try clear HAT; try clear HIN; try clear HIT; try clear HIH; try clear HG; try clear HXO; try clear HXN1; try clear HROW; try clear HATA; try clear HXK; try clear HBK; try clear HXX; try clear HXE; try clear HCO; try clear HDW; try clear HHAS; try clear HPW; try clear HF; try clear HMK; try clear HC2); try ((repeat ((with_reducible apply withLeft_is); exact rfl; exact rfl)); (with_reducible refine withLeft_nil ?_); (try simp only [Act.put, arr0, arr1, arr2])))
                          · refine lft_run rfl rfl ?_; exact lmv
                          · refine lft_run rfl rfl ?_; unfold LftRun; go_wp2; exact lend
                          · refine lft_run rfl rfl ?_; exact lmv
                          · refine lft_want rfl rfl rfl rfl ?_; exact lmv
                          · refine lft_want rfl rfl rfl rfl ?_; unfold LftRun; go_wp2; exact lend
                          · refine lft_want rfl rfl rfl rfl ?_; unfold LftRun; go_wp2; exact ⟨rfl, (by first | rfl | exact congrArg Value.bool (by first | assumption | exact HNQ.out | (simp; done) | (simp; omega))), rfl, Below.refl _ _⟩
                          · refine lft_run rfl rfl ?_; exact lpk
                          · refine lft_run rfl rfl ?_; exact lmv
                          · refine lft_want rfl rfl rfl rfl ?_; exact lmv
                          · refine lft_want rfl rfl rfl rfl ?_; unfold LftRun; go_wp2; exact lend
                          · refine lft_want rfl rfl rfl rfl ?_; unfold LftRun; go_wp2; exact lend
                          · refine lft_want rfl rfl rfl rfl ?_; obtain ⟨g0, g1, g2⟩ := HCS5.out wy hwy; unfold LftRun; go_wp2; exact lend
                          · refine lft_want rfl rfl rfl rfl ?_; have hcv := (HI0.out wy hwy).toString (P := Try.prog) byT (d := 9) (by kernel_rfl); unfold LftRun; go_wp2; exact lend
                          · refine lft_want rfl rfl rfl rfl ?_; unfold LftRun; go_wp2; exact lend
                          · refine lft_want rfl rfl rfl rfl ?_; obtain ⟨g0, g1, g2⟩ := HCS5.out wy hwy; unfold LftRun; go_wp2; exact lend
                          · refine lft_want rfl rfl rfl rfl ?_; exact lmv
                          · refine lft_want rfl rfl rfl rfl ?_; unfold LftRun; go_wp2; exact lend
                          · refine lft_want rfl rfl rfl rfl ?_; obtain ⟨g0, g1, g2⟩ := HCS5.out wy hwy; unfold LftRun; go_wp2; exact lend
                          · refine lft_want rfl rfl rfl rfl ?_; have hcv := (HKY.out wy hwy).toString (P := Try.prog) byT (d := 9) (by kernel_rfl); unfold LftRun; go_wp2; exact lend
                          · refine lft_want rfl rfl rfl rfl ?_; unfold LftRun; go_wp2; exact ⟨rfl, (by first | rfl | exact congrArg Value.bool (by first | assumption | exact HNQ.out | (simp; done) | (simp; omega))), rfl, Below.refl _ _⟩
                          · refine lft_run rfl rfl ?_; exact lpk
                          · refine lft_run rfl rfl ?_; exact lmv
                          · refine lft_want rfl rfl rfl rfl ?_; exact lmv
                          · refine lft_want rfl rfl rfl rfl ?_; unfold LftRun; go_wp2; exact ⟨rfl, (by first | rfl | exact congrArg Value.bool (by first | assumption | exact HNQ.out | (simp; done) | (simp; omega))), rfl, Below.refl _ _⟩
                          · refine lft_want rfl rfl rfl rfl ?_; exact lmv
                          · exact lsk
                          · exact lsk
                          · exact lsk
                          · refine lft_want rfl rfl rfl rfl ?_; exact lpk
                          · refine lft_run rfl rfl ?_; exact lpk
                          · refine lft_run rfl rfl ?_; exact lmv
                          · refine lft_want rfl rfl rfl rfl ?_; exact lmv
                          · refine lft_want rfl rfl rfl rfl ?_; unfold LftRun; go_wp2; exact lend
                          · refine lft_want rfl rfl rfl rfl ?_; unfold LftRun; go_wp2; exact ⟨rfl, (by first | rfl | exact congrArg Value.bool (by first | assumption | exact HNQ.out | (simp; done) | (simp; omega))), rfl, Below.refl _ _⟩
                          · refine lft_want rfl rfl rfl rfl ?_; exact lmv
                          · exact lsk
                          · exact lsk
                          · exact lsk
                          · exact lsk
                          · exact lsk
                          · exact lsk
                          · exact lsk
                          · exact lsk
                          · exact lsk
                          · exact lsk
                          · exact lsk
                          · exact lsk
                          · exact lsk
                          · exact lsk
                          · refine lft_want rfl rfl rfl rfl ?_; exact lpk
                          · refine lft_run rfl rfl ?_; exact lpk
                        intro wy hwy
                        refine le8 (le8 (le8 (le8 (le8 (le8 (LeftEnd.is (LeftEnd.is (LeftEnd.is (LeftEnd.nil ?_)))))))))
                        simp only [Act.put, arr0, arr1, arr2]
                        refine hKc _ _ ?_
                        clear hKc Kc
                        obtain ⟨p', c', w', hrun, hnx⟩ := HAPP.out HKT.out wy hwy
                        have HRUN := Lib.hid hrun; have HNX := Lib.hid hnx
                        clear hrun hnx hwy
                        go_wp2_with (at_builtin; refine Lib.wpList_append_run _ rfl (.tmp 160) (.tmp 161) 30 30 rfl _ _ rfl rfl _ w' HRUN.out ?_)
                        go_roundw
                        case rel => exact HNX.out
                        case measure => simp [intOf]; have := HLT.out; omega
                      · have hkp : (0 : Int) < k := by omega
                        have hane : all ≠ [] := fun e => hk0 (H0.out.1 e)
                        by_cases hdd : h = d
                        · subst hdd
                          obtain ⟨M, hM⟩ : ∃ M, all.length = M + 1 := ⟨all.length - 1, by have : 0 < all.length := List.length_pos_iff.2 hane; omega⟩
                          have hMl : M < all.length := by omega
                          obtain ⟨ab, ao, rfl, hata'⟩ := (HATA.out.below HB5.out).some (by omega)
                          obtain ⟨ca3, hca3, wa, wb, rfl, hwa, hwb⟩ := hata' M hMl
                          obtain ⟨v0, -⟩ := hca3.two
                          simp only [KItem] at v0
                          have hlast : all.getLast? = some all[M] := by
                            rw [List.getLast?_eq_getElem?, show all.length - 1 = M by omega, List.getElem?_eq_getElem hMl]
                          obtain ⟨jl, hjl⟩ : ∃ x, x = all[M] := ⟨_, rfl⟩
                          rw [← hjl] at hwa hlast
                          have HJ : Hid (∀ wy, Below w5.heap.size w5 wy → Bytes wy wa jl.k) := fun wy hy => hwa.below hy
                          obtain ⟨qj, cj, rfl, -⟩ := hwa.any
                          obtain ⟨l2, hl2⟩ : ∃ x, x = jl.k.length := ⟨_, rfl⟩
                          rw [← hl2] at v0 HJ
                          have HCJ : Hid (∀ wy, Below w5.heap.size w5 wy → wy.cell? ⟨ab, ao + M * 2, none⟩ = some (.slice qj l2 cj)) := fun wy hy => (hy.cell (p := ⟨ab, ao + M * 2, none⟩) (block_lt_of_cell v0)).trans v0
                          have HLQ : Hid (Op.bytesLess (strOf jl.k).toList (strOf i0.k).toList = lessN jl.k i0.k) := lss_str hwa.small HIS.out
                          have hNAM : (NA : Int) - 1 = M := by have := HNA.out; omega
                          have hMNA : (M : Int) < NA := by have := HNA.out; omega
                          have hna1 : (0 : Int) < NA := by omega
                          have HLS := Lib.hid hlast
                          clear hM hMl hata' hca3 hwa hwb v0 hlast hjl hl2 hane hk0
                          cases hls : lessN jl.k i0.k with
                          | true =>
                            have HKT : Hid (okKid Kk l h all h = true) := HOK.out.2 ⟨HKEY.out, .inr rfl, fun j hj => by rw [HLS.out] at hj; cases hj; exact hls⟩
                            rw [hls] at HLQ
                            clear hls
                            go_wp2_with fail
                            rename_i Kc hKc
                            refine wp_region_left (by kernel_rfl)
                              [.is (.int .i64 0), .is (.bool false), .is (.bool false), .is (.slice (some ⟨lb2, lo2, none⟩) NL cl), .is (.int .i64 (NL : Nat)), .is (.bool false), .is (.bool false), .is (.bool false), .is (.slice (some ⟨lb2, lo2, none⟩) NL cl), .is (.pointer (some ⟨lb2, lo2, none⟩)), .is (.pointer (some ⟨lb2, lo2, none⟩)), .is (.slice qa l1 ca2), .is (.string (strOf i0.k)), .is (.pointer (some ⟨w3.heap.size, 2, none⟩)), .is (.slice (some ⟨kb, ko, none⟩) n2 k2), .is (.int .i64 (k : Nat)), .is (.pointer (some ⟨kb, ko + k, none⟩)), .is (.slice qk LK ck), .is (.string (strOf Kk)), .is (.bool false), .is (.bool false), .is (.bool false), .is (.int .i64 (k : Nat)), .is (.bool true), .is (.bool true), .is (.int .i64 (h : Nat)), .is (.int .i64 (h : Nat)), .is (.bool false), .is (.bool false), .is (.bool false), .is (.bool false), .is (.slice (some ⟨ab, ao, none⟩) NA ca), .is (.int .i64 (NA : Nat)), .is (.bool true), .is (.bool true), .is (.slice (some ⟨ab, ao, none⟩) NA ca), .is (.slice (some ⟨ab, ao, none⟩) NA ca), .is (.int .i64 (NA : Nat)), .is (.int .i64 (M : Nat)), .is (.pointer (some ⟨ab, ao + M * 2, none⟩)), .is (.pointer (some ⟨ab, ao + M * 2, none⟩)), .is (.slice qj l2 cj), .is (.string (strOf jl.k)), .is (.slice (some ⟨lb2, lo2, none⟩) NL cl), .is (.pointer (some ⟨lb2, lo2, none⟩)), .is (.pointer (some ⟨lb2, lo2, none⟩)), .is (.slice qa l1 ca2), .is (.string (strOf i0.k)), .is (.bool false), .is (.bool false), .is (.bool false)]
                              [[],[0],[1],[2],[2,3],[2,4],[2,5],[6],[7],[7,8],[7,9],[7,10],[7,11],[7],[7,13],[7],[7,14,15],[7,16],[7,17],[7,12,18],[7,19],[20],[21],[21,22],[21,23],[24],[24],[24,25,26],[21,24,27],[21,28],[29],[30],[30,31],[30,32],[30,33],[34],[34],[34,36],[34,37],[34,35,38],[34,39],[34,40],[34,41],[34],[34,43],[34,44],[34,45],[34,46],[34,42,47],[30,34,48],[30,49]] (by kernel_rfl) (by rfl) ?_ ?_
                            · repeat' (first | exact LeftOps.nil | refine LeftOps.cons ?_ ?_)
                              all_goals (intro wy hwy; clear hKc; (try clear HAPP; try clear HOK; try clear HFN; try clear HNO2; try clear HAT; try clear HIN; try clear HIT; try clear HIH; try clear HG; try clear HXO; try clear HXN1; try clear HROW; try clear HATA; try clear HXK; try clear HBK; try clear HXX; try clear HXE; try clear HCO; try clear HDW; try clear HHAS; try clear HPW; try clear HF; try clear HMK; try clear HC2); try ((repeat ((with_reducible apply withLeft_is); exact rfl; exact rfl)); (with_reducible refine withLeft_nil ?_); (try simp only [Act.put, arr0, arr1, arr2])))
                              · refine lft_run rfl rfl ?_; exact lmv
                              · refine lft_run rfl rfl ?_; unfold LftRun; go_wp2; exact lend
                              · refine lft_run rfl rfl ?_; exact lmv
                              · refine lft_want rfl rfl rfl rfl ?_; exact lmv
                              · refine lft_want rfl rfl rfl rfl ?_; unfold LftRun; go_wp2; exact lend
                              · refine lft_want rfl rfl rfl rfl ?_; unfold LftRun; go_wp2; exact ⟨rfl, (by first | rfl | exact congrArg Value.bool (by first | assumption | exact HNQ.out | (simp; done) | (simp; omega))), rfl, Below.refl _ _⟩
                              · refine lft_run rfl rfl ?_; exact lpk
                              · refine lft_run rfl rfl ?_; exact lmv
                              · refine lft_want rfl rfl rfl rfl ?_; exact lmv
                              · refine lft_want rfl rfl rfl rfl ?_; unfold LftRun; go_wp2; exact lend
                              · refine lft_want rfl rfl rfl rfl ?_; unfold LftRun; go_wp2; exact lend
                              · refine lft_want rfl rfl rfl rfl ?_; obtain ⟨g0, g1, g2⟩ := HCS5.out wy hwy; unfold LftRun; go_wp2; exact lend
                              · refine lft_want rfl rfl rfl rfl ?_; have hcv := (HI0.out wy hwy).toString (P := Try.prog) byT (d := 9) (by kernel_rfl); unfold LftRun; go_wp2; exact lend
                              · refine lft_want rfl rfl rfl rfl ?_; unfold LftRun; go_wp2; exact lend
                              · refine lft_want rfl rfl rfl rfl ?_; obtain ⟨g0, g1, g2⟩ := HCS5.out wy hwy; unfold LftRun; go_wp2; exact lend
                              · refine lft_want rfl rfl rfl rfl ?_; exact lmv
                              · refine lft_want rfl rfl rfl rfl ?_; unfold LftRun; go_wp2; exact lend
                              · refine lft_want rfl rfl rfl rfl ?_; obtain ⟨g0, g1, g2⟩ := HCS5.out wy hwy; unfold LftRun; go_wp2; exact lend
                              · refine lft_want rfl rfl rfl rfl ?_; have hcv := (HKY.out wy hwy).toString (P := Try.prog) byT (d := 9) (by kernel_rfl); unfold LftRun; go_wp2; exact lend
                              · refine lft_want rfl rfl rfl rfl ?_; unfold LftRun; go_wp2; exact ⟨rfl, (by first | rfl | exact congrArg Value.bool (by first | assumption | exact HNQ.out | (simp; done) | (simp; omega))), rfl, Below.refl _ _⟩
                              · refine lft_run rfl rfl ?_; exact lpk
                              · refine lft_run rfl rfl ?_; exact lmv
                              · refine lft_want rfl rfl rfl rfl ?_; exact lmv
                              · refine lft_want rfl rfl rfl rfl ?_; unfold LftRun; go_wp2; exact ⟨rfl, (by first | rfl | exact congrArg Value.bool (by first | assumption | exact HNQ.out | (simp; done) | (simp; omega))), rfl, Below.refl _ _⟩
                              · refine lft_want rfl rfl rfl rfl ?_; exact lmv
                              · refine lft_want rfl rfl rfl rfl ?_; exact lmv
                              · refine lft_want rfl rfl rfl rfl ?_; exact lmv
                              · refine lft_want rfl rfl rfl rfl ?_; unfold LftRun; go_wp2; exact ⟨rfl, (by first | rfl | exact congrArg Value.bool (by first | assumption | exact HNQ.out | (simp; done) | (simp; omega))), rfl, Below.refl _ _⟩
                              · refine lft_want rfl rfl rfl rfl ?_; exact lpk
                              · refine lft_run rfl rfl ?_; exact lpk
                              · refine lft_run rfl rfl ?_; exact lmv
                              · refine lft_want rfl rfl rfl rfl ?_; exact lmv
                              · refine lft_want rfl rfl rfl rfl ?_; unfold LftRun; go_wp2; exact lend
                              · refine lft_want rfl rfl rfl rfl ?_; unfold LftRun; go_wp2; exact ⟨rfl, (by first | rfl | exact congrArg Value.bool (by first | assumption | exact HNQ.out | (simp; done) | (simp; omega))), rfl, Below.refl _ _⟩
                              · refine lft_want rfl rfl rfl rfl ?_; exact lmv
                              · refine lft_want rfl rfl rfl rfl ?_; exact lmv
                              · refine lft_want rfl rfl rfl rfl ?_; exact lmv
                              · refine lft_want rfl rfl rfl rfl ?_; unfold LftRun; go_wp2; exact lend
                              · refine lft_want rfl rfl rfl rfl ?_; unfold LftRun; go_wp2; exact lend
                              · refine lft_want rfl rfl rfl rfl ?_; unfold LftRun; go_wp2; exact lend
                              · refine lft_want rfl rfl rfl rfl ?_; unfold LftRun; go_wp2; exact lend
                              · refine lft_want rfl rfl rfl rfl ?_; have g3 := HCJ.out wy hwy; unfold LftRun; go_wp2; exact lend
                              · refine lft_want rfl rfl rfl rfl ?_; have hcv := (HJ.out wy hwy).toString (P := Try.prog) byT (d := 9) (by kernel_rfl); unfold LftRun; go_wp2; exact lend
                              · refine lft_want rfl rfl rfl rfl ?_; exact lmv
                              · refine lft_want rfl rfl rfl rfl ?_; unfold LftRun; go_wp2; exact lend
                              · refine lft_want rfl rfl rfl rfl ?_; unfold LftRun; go_wp2; exact lend
                              · refine lft_want rfl rfl rfl rfl ?_; obtain ⟨g0, g1, g2⟩ := HCS5.out wy hwy; unfold LftRun; go_wp2; exact lend
                              · refine lft_want rfl rfl rfl rfl ?_; have hcv := (HI0.out wy hwy).toString (P := Try.prog) byT (d := 9) (by kernel_rfl); unfold LftRun; go_wp2; exact lend
                              · refine lft_want rfl rfl rfl rfl ?_; have hge := run_geqD (strOf jl.k) (strOf i0.k) wy; rw [HLQ.out] at hge; unfold LftRun; go_wp2; exact ⟨rfl, (by first | rfl | exact congrArg Value.bool (by first | assumption | exact HNQ.out | (simp; done) | (simp; omega))), rfl, Below.refl _ _⟩
                              · refine lft_want rfl rfl rfl rfl ?_; exact lpk
                              · refine lft_run rfl rfl ?_; exact lpk
                            intro wy hwy
                            refine le8 (le8 (le8 (le8 (le8 (le8 (LeftEnd.is (LeftEnd.is (LeftEnd.is (LeftEnd.nil ?_)))))))))
                            simp only [Act.put, arr0, arr1, arr2]
                            refine hKc _ _ ?_
                            clear hKc Kc
                            obtain ⟨p', c', w', hrun, hnx⟩ := HAPP.out HKT.out wy hwy
                            have HRUN := Lib.hid hrun; have HNX := Lib.hid hnx
                            clear hrun hnx hwy
                            go_wp2_with (at_builtin; refine Lib.wpList_append_run _ rfl (.tmp 160) (.tmp 161) 30 30 rfl _ _ rfl rfl _ w' HRUN.out ?_)
                            go_roundw
                            case rel => exact HNX.out
                            case measure => simp [intOf]; have := HLT.out; omega
                          | false =>
                            have HF := Lib.hid (HFN.out (by
                              cases hq : okKid Kk l h all h with
                              | false => rfl
                              | true => have := (HOK.out.1 hq).2.2 jl HLS.out; rw [hls] at this; cases this))
                            rw [hls] at HLQ
                            clear hls
                            go_wp2_with fail
                            rename_i Kc hKc
                            refine wp_region_left (by kernel_rfl)
                              [.is (.int .i64 0), .is (.bool false), .is (.bool false), .is (.slice (some ⟨lb2, lo2, none⟩) NL cl), .is (.int .i64 (NL : Nat)), .is (.bool false), .is (.bool false), .is (.bool false), .is (.slice (some ⟨lb2, lo2, none⟩) NL cl), .is (.pointer (some ⟨lb2, lo2, none⟩)), .is (.pointer (some ⟨lb2, lo2, none⟩)), .is (.slice qa l1 ca2), .is (.string (strOf i0.k)), .is (.pointer (some ⟨w3.heap.size, 2, none⟩)), .is (.slice (some ⟨kb, ko, none⟩) n2 k2), .is (.int .i64 (k : Nat)), .is (.pointer (some ⟨kb, ko + k, none⟩)), .is (.slice qk LK ck), .is (.string (strOf Kk)), .is (.bool false), .is (.bool false), .is (.bool false), .is (.int .i64 (k : Nat)), .is (.bool true), .is (.bool true), .is (.int .i64 (h : Nat)), .is (.int .i64 (h : Nat)), .is (.bool false), .is (.bool false), .is (.bool false), .is (.bool false), .is (.slice (some ⟨ab, ao, none⟩) NA ca), .is (.int .i64 (NA : Nat)), .is (.bool true), .is (.bool true), .is (.slice (some ⟨ab, ao, none⟩) NA ca), .is (.slice (some ⟨ab, ao, none⟩) NA ca), .is (.int .i64 (NA : Nat)), .is (.int .i64 (M : Nat)), .is (.pointer (some ⟨ab, ao + M * 2, none⟩)), .is (.pointer (some ⟨ab, ao + M * 2, none⟩)), .is (.slice qj l2 cj), .is (.string (strOf jl.k)), .is (.slice (some ⟨lb2, lo2, none⟩) NL cl), .is (.pointer (some ⟨lb2, lo2, none⟩)), .is (.pointer (some ⟨lb2, lo2, none⟩)), .is (.slice qa l1 ca2), .is (.string (strOf i0.k)), .is (.bool true), .is (.bool true), .is (.bool true)]
                              [[],[0],[1],[2],[2,3],[2,4],[2,5],[6],[7],[7,8],[7,9],[7,10],[7,11],[7],[7,13],[7],[7,14,15],[7,16],[7,17],[7,12,18],[7,19],[20],[21],[21,22],[21,23],[24],[24],[24,25,26],[21,24,27],[21,28],[29],[30],[30,31],[30,32],[30,33],[34],[34],[34,36],[34,37],[34,35,38],[34,39],[34,40],[34,41],[34],[34,43],[34,44],[34,45],[34,46],[34,42,47],[30,34,48],[30,49]] (by kernel_rfl) (by rfl) ?_ ?_
                            · repeat' (first | exact LeftOps.nil | refine LeftOps.cons ?_ ?_)
                              all_goals (intro wy hwy; clear hKc; (try clear HAPP; try clear HOK; try clear HFN; try clear HNO2; try clear HAT; try clear HIN; try clear HIT; try clear HIH; try clear HG; try clear HXO; try clear HXN1; try clear HROW; try clear HATA; try clear HXK; try clear HBK; try clear HXX; try clear HXE; try clear HCO; try clear HDW; try clear HHAS; try clear HPW; try clear HF; try clear HMK; try clear HC2); try ((repeat ((with_reducible apply withLeft_is); exact rfl; exact rfl)); (with_reducible refine withLeft_nil ?_); (try simp only [Act.put, arr0, arr1, arr2])))
                              · refine lft_run rfl rfl ?_; exact lmv
                              · refine lft_run rfl rfl ?_; unfold LftRun; go_wp2; exact lend
                              · refine lft_run rfl rfl ?_; exact lmv
                              · refine lft_want rfl rfl rfl rfl ?_; exact lmv
                              · refine lft_want rfl rfl rfl rfl ?_; unfold LftRun; go_wp2; exact lend
                              · refine lft_want rfl rfl rfl rfl ?_; unfold LftRun; go_wp2; exact ⟨rfl, (by first | rfl | exact congrArg Value.bool (by first | assumption | exact HNQ.out | (simp; done) | (simp; omega))), rfl, Below.refl _ _⟩
                              · refine lft_run rfl rfl ?_; exact lpk
                              · refine lft_run rfl rfl ?_; exact lmv
                              · refine lft_want rfl rfl rfl rfl ?_; exact lmv
                              · refine lft_want rfl rfl rfl rfl ?_; unfold LftRun; go_wp2; exact lend
                              · refine lft_want rfl rfl rfl rfl ?_; unfold LftRun; go_wp2; exact lend
                              · refine lft_want rfl rfl rfl rfl ?_; obtain ⟨g0, g1, g2⟩ := HCS5.out wy hwy; unfold LftRun; go_wp2; exact lend
                              · refine lft_want rfl rfl rfl rfl ?_; have hcv := (HI0.out wy hwy).toString (P := Try.prog) byT (d := 9) (by kernel_rfl); unfold LftRun; go_wp2; exact lend
                              · refine lft_want rfl rfl rfl rfl ?_; unfold LftRun; go_wp2; exact lend
                              · refine lft_want rfl rfl rfl rfl ?_; obtain ⟨g0, g1, g2⟩ := HCS5.out wy hwy; unfold LftRun; go_wp2; exact lend
                              · refine lft_want rfl rfl rfl rfl ?_; exact lmv
                              · refine lft_want rfl rfl rfl rfl ?_; unfold LftRun; go_wp2; exact lend
                              · refine lft_want rfl rfl rfl rfl ?_; obtain ⟨g0, g1, g2⟩ := HCS5.out wy hwy; unfold LftRun; go_wp2; exact lend
                              · refine lft_want rfl rfl rfl rfl ?_; have hcv := (HKY.out wy hwy).toString (P := Try.prog) byT (d := 9) (by kernel_rfl); unfold LftRun; go_wp2; exact lend
                              · refine lft_want rfl rfl rfl rfl ?_; unfold LftRun; go_wp2; exact ⟨rfl, (by first | rfl | exact congrArg Value.bool (by first | assumption | exact HNQ.out | (simp; done) | (simp; omega))), rfl, Below.refl _ _⟩
                              · refine lft_run rfl rfl ?_; exact lpk
                              · refine lft_run rfl rfl ?_; exact lmv
                              · refine lft_want rfl rfl rfl rfl ?_; exact lmv
                              · refine lft_want rfl rfl rfl rfl ?_; unfold LftRun; go_wp2; exact ⟨rfl, (by first | rfl | exact congrArg Value.bool (by first | assumption | exact HNQ.out | (simp; done) | (simp; omega))), rfl, Below.refl _ _⟩
                              · refine lft_want rfl rfl rfl rfl ?_; exact lmv
                              · refine lft_want rfl rfl rfl rfl ?_; exact lmv
                              · refine lft_want rfl rfl rfl rfl ?_; exact lmv
                              · refine lft_want rfl rfl rfl rfl ?_; unfold LftRun; go_wp2; exact ⟨rfl, (by first | rfl | exact congrArg Value.bool (by first | assumption | exact HNQ.out | (simp; done) | (simp; omega))), rfl, Below.refl _ _⟩
                              · refine lft_want rfl rfl rfl rfl ?_; exact lpk
                              · refine lft_run rfl rfl ?_; exact lpk
                              · refine lft_run rfl rfl ?_; exact lmv
                              · refine lft_want rfl rfl rfl rfl ?_; exact lmv
                              · refine lft_want rfl rfl rfl rfl ?_; unfold LftRun; go_wp2; exact lend
                              · refine lft_want rfl rfl rfl rfl ?_; unfold LftRun; go_wp2; exact ⟨rfl, (by first | rfl | exact congrArg Value.bool (by first | assumption | exact HNQ.out | (simp; done) | (simp; omega))), rfl, Below.refl _ _⟩
                              · refine lft_want rfl rfl rfl rfl ?_; exact lmv
                              · refine lft_want rfl rfl rfl rfl ?_; exact lmv
                              · refine lft_want rfl rfl rfl rfl ?_; exact lmv
                              · refine lft_want rfl rfl rfl rfl ?_; unfold LftRun; go_wp2; exact lend
                              · refine lft_want rfl rfl rfl rfl ?_; unfold LftRun; go_wp2; exact lend
                              · refine lft_want rfl rfl rfl rfl ?_; unfold LftRun; go_wp2; exact lend
                              · refine lft_want rfl rfl rfl rfl ?_; unfold LftRun; go_wp2; exact lend
                              · refine lft_want rfl rfl rfl rfl ?_; have g3 := HCJ.out wy hwy; unfold LftRun; go_wp2; exact lend
                              · refine lft_want rfl rfl rfl rfl ?_; have hcv := (HJ.out wy hwy).toString (P := Try.prog) byT (d := 9) (by kernel_rfl); unfold LftRun; go_wp2; exact lend
                              · refine lft_want rfl rfl rfl rfl ?_; exact lmv
                              · refine lft_want rfl rfl rfl rfl ?_; unfold LftRun; go_wp2; exact lend
                              · refine lft_want rfl rfl rfl rfl ?_; unfold LftRun; go_wp2; exact lend
                              · refine lft_want rfl rfl rfl rfl ?_; obtain ⟨g0, g1, g2⟩ := HCS5.out wy hwy; unfold LftRun; go_wp2; exact lend
                              · refine lft_want rfl rfl rfl rfl ?_; have hcv := (HI0.out wy hwy).toString (P := Try.prog) byT (d := 9) (by kernel_rfl); unfold LftRun; go_wp2; exact lend
                              · refine lft_want rfl rfl rfl rfl ?_; have hge := run_geqD (strOf jl.k) (strOf i0.k) wy; rw [HLQ.out] at hge; unfold LftRun; go_wp2; exact ⟨rfl, (by first | rfl | exact congrArg Value.bool (by first | assumption | exact HNQ.out | (simp; done) | (simp; omega))), rfl, Below.refl _ _⟩
                              · refine lft_want rfl rfl rfl rfl ?_; exact lpk
                              · refine lft_run rfl rfl ?_; exact lpk
                            intro wy hwy
                            refine le8 (le8 (le8 (le8 (le8 (le8 (LeftEnd.is (LeftEnd.is (LeftEnd.is (LeftEnd.nil ?_)))))))))
                            simp only [Act.put, arr0, arr1, arr2]
                            refine hKc _ _ ?_
                            clear hKc Kc
                            go_wp2
                            go_ret3
                            exact HF.out _ hwy
                        · have HF := Lib.hid (HFN.out (by
                            cases hq : okKid Kk l h all d with
                            | false => rfl
                            | true => rcases (HOK.out.1 hq).2.1 with h1 | h1; exact absurd h1 hane; exact absurd h1 hdd))
                          have hdn : ((h : Int) != (d : Int)) = true := by simp; omega
                          clear hane hk0
                          go_wp2_with fail
                          rename_i Kc hKc
                          refine wp_region_left (by kernel_rfl)
                            [.is (.int .i64 0), .is (.bool false), .is (.bool false), .is (.slice (some ⟨lb2, lo2, none⟩) NL cl), .is (.int .i64 (NL : Nat)), .is (.bool false), .is (.bool false), .is (.bool false), .is (.slice (some ⟨lb2, lo2, none⟩) NL cl), .is (.pointer (some ⟨lb2, lo2, none⟩)), .is (.pointer (some ⟨lb2, lo2, none⟩)), .is (.slice qa l1 ca2), .is (.string (strOf i0.k)), .is (.pointer (some ⟨w3.heap.size, 2, none⟩)), .is (.slice (some ⟨kb, ko, none⟩) n2 k2), .is (.int .i64 (k : Nat)), .is (.pointer (some ⟨kb, ko + k, none⟩)), .is (.slice qk LK ck), .is (.string (strOf Kk)), .is (.bool false), .is (.bool false), .is (.bool false), .is (.int .i64 (k : Nat)), .is (.bool true), .is (.bool true), .is (.int .i64 (h : Nat)), .is (.int .i64 (d : Nat)), .is (.bool true), .is (.bool true), .is (.bool true), .is (.bool true), .is undef, .is undef, .is undef, .is undef, .is undef, .is undef, .is undef, .is undef, .is undef, .is undef, .is undef, .is undef, .is undef, .is undef, .is undef, .is undef, .is undef, .is undef, .is undef, .is (.bool true)]
                            [[],[0],[1],[2],[2,3],[2,4],[2,5],[6],[7],[7,8],[7,9],[7,10],[7,11],[7],[7,13],[7],[7,14,15],[7,16],[7,17],[7,12,18],[7,19],[20],[21],[21,22],[21,23],[24],[24],[24,25,26],[21,24,27],[21,28],[29],[30],[30,31],[30,32],[30,33],[34],[34],[34,36],[34,37],[34,35,38],[34,39],[34,40],[34,41],[34],[34,43],[34,44],[34,45],[34,46],[34,42,47],[30,34,48],[30,49]] (by kernel_rfl) (by rfl) ?_ ?_
                          · repeat' (first | exact LeftOps.nil | refine LeftOps.cons ?_ ?_)
                            all_goals (intro wy hwy; clear hKc; (try clear HAPP; try clear HOK; try clear HFN; try clear HNO2; try clear HAT; try clear HIN; try clear HIT; try clear HIH; try clear HG; try clear HXO; try clear HXN1; try clear HROW; try clear HATA; try clear HXK; try clear HBK; try clear HXX; try clear HXE; try clear HCO; try clear HDW; try clear HHAS; try clear HPW; try clear HF; try clear HMK; try clear HC2); try ((repeat ((with_reducible apply withLeft_is); exact rfl; exact rfl)); (with_reducible refine withLeft_nil ?_); (try simp only [Act.put, arr0, arr1, arr2])))
                            · refine lft_run rfl rfl ?_; exact lmv
                            · refine lft_run rfl rfl ?_; unfold LftRun; go_wp2; exact lend
                            · refine lft_run rfl rfl ?_; exact lmv
                            · refine lft_want rfl rfl rfl rfl ?_; exact lmv
                            · refine lft_want rfl rfl rfl rfl ?_; unfold LftRun; go_wp2; exact lend
                            · refine lft_want rfl rfl rfl rfl ?_; unfold LftRun; go_wp2; exact ⟨rfl, (by first | rfl | exact congrArg Value.bool (by first | assumption | exact HNQ.out | (simp; done) | (simp; omega))), rfl, Below.refl _ _⟩
                            · refine lft_run rfl rfl ?_; exact lpk
                            · refine lft_run rfl rfl ?_; exact lmv
                            · refine lft_want rfl rfl rfl rfl ?_; exact lmv
                            · refine lft_want rfl rfl rfl rfl ?_; unfold LftRun; go_wp2; exact lend
                            · refine lft_want rfl rfl rfl rfl ?_; unfold LftRun; go_wp2; exact lend
                            · refine lft_want rfl rfl rfl rfl ?_; obtain ⟨g0, g1, g2⟩ := HCS5.out wy hwy; unfold LftRun; go_wp2; exact lend
                            · refine lft_want rfl rfl rfl rfl ?_; have hcv := (HI0.out wy hwy).toString (P := Try.prog) byT (d := 9) (by kernel_rfl); unfold LftRun; go_wp2; exact lend
                            · refine lft_want rfl rfl rfl rfl ?_; unfold LftRun; go_wp2; exact lend
                            · refine lft_want rfl rfl rfl rfl ?_; obtain ⟨g0, g1, g2⟩ := HCS5.out wy hwy; unfold LftRun; go_wp2; exact lend
                            · refine lft_want rfl rfl rfl rfl ?_; exact lmv
                            · refine lft_want rfl rfl rfl rfl ?_; unfold LftRun; go_wp2; exact lend
                            · refine lft_want rfl rfl rfl rfl ?_; obtain ⟨g0, g1, g2⟩ := HCS5.out wy hwy; unfold LftRun; go_wp2; exact lend
                            · refine lft_want rfl rfl rfl rfl ?_; have hcv := (HKY.out wy hwy).toString (P := Try.prog) byT (d := 9) (by kernel_rfl); unfold LftRun; go_wp2; exact lend
                            · refine lft_want rfl rfl rfl rfl ?_; unfold LftRun; go_wp2; exact ⟨rfl, (by first | rfl | exact congrArg Value.bool (by first | assumption | exact HNQ.out | (simp; done) | (simp; omega))), rfl, Below.refl _ _⟩
                            · refine lft_run rfl rfl ?_; exact lpk
                            · refine lft_run rfl rfl ?_; exact lmv
                            · refine lft_want rfl rfl rfl rfl ?_; exact lmv
                            · refine lft_want rfl rfl rfl rfl ?_; unfold LftRun; go_wp2; exact ⟨rfl, (by first | rfl | exact congrArg Value.bool (by first | assumption | exact HNQ.out | (simp; done) | (simp; omega))), rfl, Below.refl _ _⟩
                            · refine lft_want rfl rfl rfl rfl ?_; exact lmv
                            · refine lft_want rfl rfl rfl rfl ?_; exact lmv
                            · refine lft_want rfl rfl rfl rfl ?_; exact lmv
                            · refine lft_want rfl rfl rfl rfl ?_; unfold LftRun; go_wp2; exact ⟨rfl, (by first | rfl | exact congrArg Value.bool (by first | assumption | exact HNQ.out | (simp; done) | (simp; omega))), rfl, Below.refl _ _⟩
                            · refine lft_want rfl rfl rfl rfl ?_; exact lpk
                            · refine lft_run rfl rfl ?_; exact lpk
                            · refine lft_run rfl rfl ?_; exact lmv
                            · exact lsk
                            · exact lsk
                            · exact lsk
                            · exact lsk
                            · exact lsk
                            · exact lsk
                            · exact lsk
                            · exact lsk
                            · exact lsk
                            · exact lsk
                            · exact lsk
                            · exact lsk
                            · exact lsk
                            · exact lsk
                            · exact lsk
                            · exact lsk
                            · exact lsk
                            · exact lsk
                            · exact lsk
                            · refine lft_run rfl rfl ?_; exact lpk
                          intro wy hwy
                          refine le8 (le8 (le8 (le8 (le8 (le8 (LeftEnd.is (LeftEnd.is (LeftEnd.is (LeftEnd.nil ?_)))))))))
                          simp only [Act.put, arr0, arr1, arr2]
                          refine hKc _ _ ?_
                          clear hKc Kc
                          go_wp2
                          go_ret3
                          exact HF.out _ hwy
                    · rw [decide_eq_false hkey] at HEQ
                      have HNQ : Hid (((strOf i0.k).toList != (strOf Kk).toList) = true) := by unfold Hid bne; rw [HEQ.out]; rfl
                      have HF := Lib.hid (HFN.out (by
                        cases hq : okKid Kk l h all d with
                        | false => rfl
                        | true => exact absurd (HOK.out.1 hq).1 hkey))
                      clear hkey
                      go_wp2_with fail
                      rename_i Kc hKc
                      refine wp_region_left (by kernel_rfl)
                        [.is (.int .i64 0), .is (.bool false), .is (.bool false), .is (.slice (some ⟨lb2, lo2, none⟩) NL cl), .is (.int .i64 (NL : Nat)), .is (.bool false), .is (.bool false), .is (.bool false), .is (.slice (some ⟨lb2, lo2, none⟩) NL cl), .is (.pointer (some ⟨lb2, lo2, none⟩)), .is (.pointer (some ⟨lb2, lo2, none⟩)), .is (.slice qa l1 ca2), .is (.string (strOf i0.k)), .is (.pointer (some ⟨w3.heap.size, 2, none⟩)), .is (.slice (some ⟨kb, ko, none⟩) n2 k2), .is (.int .i64 (k : Nat)), .is (.pointer (some ⟨kb, ko + k, none⟩)), .is (.slice qk LK ck), .is (.string (strOf Kk)), .is (.bool true), .is (.bool true), .is (.bool true), .is undef, .is undef, .is undef, .is undef, .is undef, .is undef, .is undef, .is (.bool true), .is (.bool true), .is undef, .is undef, .is undef, .is undef, .is undef, .is undef, .is undef, .is undef, .is undef, .is undef, .is undef, .is undef, .is undef, .is undef, .is undef, .is undef, .is undef, .is undef, .is undef, .is (.bool true)]
                        [[],[0],[1],[2],[2,3],[2,4],[2,5],[6],[7],[7,8],[7,9],[7,10],[7,11],[7],[7,13],[7],[7,14,15],[7,16],[7,17],[7,12,18],[7,19],[20],[21],[21,22],[21,23],[24],[24],[24,25,26],[21,24,27],[21,28],[29],[30],[30,31],[30,32],[30,33],[34],[34],[34,36],[34,37],[34,35,38],[34,39],[34,40],[34,41],[34],[34,43],[34,44],[34,45],[34,46],[34,42,47],[30,34,48],[30,49]] (by kernel_rfl) (by rfl) ?_ ?_
                      · repeat' (first | exact LeftOps.nil | refine LeftOps.cons ?_ ?_)
                        all_goals (intro wy hwy; clear hKc; (try clear HAPP; try clear HOK; try clear HFN; try clear HNO2; try clear HAT; try clear HIN; try clear HIT; try clear HIH; try clear HG; try clear HXO; try clear HXN1; try clear HROW; try clear HATA; try clear HXK; try clear HBK; try clear HXX; try clear HXE; try clear HCO; try clear HDW; try clear HHAS; try clear HPW; try clear HF; try clear HMK; try clear HC2); try ((repeat ((with_reducible apply withLeft_is); exact rfl; exact rfl)); (with_reducible refine withLeft_nil ?_); (try simp only [Act.put, arr0, arr1, arr2])))
                        · refine lft_run rfl rfl ?_; exact lmv
                        · refine lft_run rfl rfl ?_; unfold LftRun; go_wp2; exact lend
                        · refine lft_run rfl rfl ?_; exact lmv
                        · refine lft_want rfl rfl rfl rfl ?_; exact lmv
                        · refine lft_want rfl rfl rfl rfl ?_; unfold LftRun; go_wp2; exact lend
                        · refine lft_want rfl rfl rfl rfl ?_; unfold LftRun; go_wp2; exact ⟨rfl, (by first | rfl | exact congrArg Value.bool (by first | assumption | exact HNQ.out | (simp; done) | (simp; omega))), rfl, Below.refl _ _⟩
                        · refine lft_run rfl rfl ?_; exact lpk
                        · refine lft_run rfl rfl ?_; exact lmv
                        · refine lft_want rfl rfl rfl rfl ?_; exact lmv
                        · refine lft_want rfl rfl rfl rfl ?_; unfold LftRun; go_wp2; exact lend
                        · refine lft_want rfl rfl rfl rfl ?_; unfold LftRun; go_wp2; exact lend
                        · refine lft_want rfl rfl rfl rfl ?_; obtain ⟨g0, g1, g2⟩ := HCS5.out wy hwy; unfold LftRun; go_wp2; exact lend
                        · refine lft_want rfl rfl rfl rfl ?_; have hcv := (HI0.out wy hwy).toString (P := Try.prog) byT (d := 9) (by kernel_rfl); unfold LftRun; go_wp2; exact lend
                        · refine lft_want rfl rfl rfl rfl ?_; unfold LftRun; go_wp2; exact lend
                        · refine lft_want rfl rfl rfl rfl ?_; obtain ⟨g0, g1, g2⟩ := HCS5.out wy hwy; unfold LftRun; go_wp2; exact lend
                        · refine lft_want rfl rfl rfl rfl ?_; exact lmv
                        · refine lft_want rfl rfl rfl rfl ?_; unfold LftRun; go_wp2; exact lend
                        · refine lft_want rfl rfl rfl rfl ?_; obtain ⟨g0, g1, g2⟩ := HCS5.out wy hwy; unfold LftRun; go_wp2; exact lend
                        · refine lft_want rfl rfl rfl rfl ?_; have hcv := (HKY.out wy hwy).toString (P := Try.prog) byT (d := 9) (by kernel_rfl); unfold LftRun; go_wp2; exact lend
                        · refine lft_want rfl rfl rfl rfl ?_; unfold LftRun; go_wp2; exact ⟨rfl, (by first | rfl | exact congrArg Value.bool (by first | assumption | exact HNQ.out | (simp; done) | (simp; omega))), rfl, Below.refl _ _⟩
                        · refine lft_run rfl rfl ?_; exact lpk
                        · refine lft_run rfl rfl ?_; exact lmv
                        · exact lsk
                        · exact lsk
                        · exact lsk
                        · exact lsk
                        · exact lsk
                        · exact lsk
                        · exact lsk
                        · refine lft_run rfl rfl ?_; exact lpk
                        · refine lft_run rfl rfl ?_; exact lmv
                        · exact lsk
                        · exact lsk
                        · exact lsk
                        · exact lsk
                        · exact lsk
                        · exact lsk
                        · exact lsk
                        · exact lsk
                        · exact lsk
                        · exact lsk
                        · exact lsk
                        · exact lsk
                        · exact lsk
                        · exact lsk
                        · exact lsk
                        · exact lsk
                        · exact lsk
                        · exact lsk
                        · exact lsk
                        · refine lft_run rfl rfl ?_; exact lpk
                      intro wy hwy
                      refine le8 (le8 (le8 (le8 (le8 (le8 (LeftEnd.is (LeftEnd.is (LeftEnd.is (LeftEnd.nil ?_)))))))))
                      simp only [Act.put, arr0, arr1, arr2]
                      refine hKc _ _ ?_
                      clear hKc Kc
                      go_wp2
                      go_ret3
                      exact HF.out _ hwy
                · have hkN : k = n3 := by omega
                  have hwd2 : IntKind.i64.wrap ((d : Int) + 1) = (d + 1 : Nat) := by rw [IntKind.wrap_i64]; omega
                  obtain ⟨D1, hD1⟩ : ∃ x, x = d + 1 := ⟨_, rfl⟩
                  have hXf : X = some (all, D1) := by
                    rw [hXk, hD1, List.drop_eq_nil_of_le (by rw [List.length_zip, HLN.out, HL3.out]; omega)]
                    rfl
                  have HF : Hid (DcTold w X (.returned (.tuple #[.slice pa all.length ca, .int .i64 (D1 : Nat), .int .i64 0])) wr) := ⟨HBZ.out.trans (hB.mono HBZ.out.size), .inr ⟨all, D1, pa, ca, hXf, rfl, hrow.weaken HWL.out⟩⟩
                  obtain ⟨⟨m2, m3⟩, -⟩ := HAT.out wr hB
                  have hki : ¬ (k : Int) < n3 := by omega
                  rw [← hD1] at hwd2
                  rw [← hNA] at HF ⊢
                  clear hk hrow h0 hpw hhas hXk hB hata hNA hk3 hlt hall hD1 hXf hkN hd9
                  go_wp2
                  go_ret3
                  exact HF.out
          · have HXN : Hid (X = none) := by unfold Hid; rw [HXF.out, if_neg hcc]
            have hcc' : ((CN : Int) != (ct : Int)) = true := by simp; omega
            have HF : Hid (∀ wz, Below W4.heap.size W4 wz → _) := fun wz (hz : Below W4.heap.size W4 wz) => HNO.out HXN.out wz (HB4.out.trans (hz.mono HB4.out.size))
            clear hN1 hN2 hD4
            go_wp2_with fail
            rename_i Kc hKc
            refine wp_region_left (by kernel_rfl)
              [.is (.int .i64 0), .is (.bool false), .is (.bool false), .is (.int .u8 2), .is (.bool false), .is (.bool false), .is (.bool false), .is (.int .i64 0), .is (.bool false), .is (.bool false), .is (.bool false), .is (.agg #[.bool lf, .slice s1 n1 k1, .slice s2 n2 k2, .slice s3 n3 k3]), .is (.int .u64 (CN : Nat)), .is (.pointer (some ⟨w.heap.size, 1, none⟩)), .is (.int .u64 (ct : Nat)), .is (.bool true), .is (.bool true)]
              [[],[0],[1],[2],[2,3],[2,4],[5],[6],[6,7],[6,8],[9],[10],[10,11],[10],[10,13],[10,12,14],[10,15]] (by kernel_rfl) (by rfl) ?_ ?_
            · repeat' (first | exact LeftOps.nil | refine LeftOps.cons ?_ ?_)
              all_goals (intro wz hwz; clear hKc; try ((repeat ((with_reducible apply withLeft_is); exact rfl; exact rfl)); (with_reducible refine withLeft_nil ?_); (try simp only [Act.put, arr0, arr1, arr2])))
              · refine lft_run rfl rfl ?_; exact lmv
              · refine lft_run rfl rfl ?_; unfold LftRun; go_wp2; exact lend
              · refine lft_run rfl rfl ?_; exact lmv
              · refine lft_want rfl rfl rfl rfl ?_; exact lmv
              · refine lft_want rfl rfl rfl rfl ?_; unfold LftRun; go_wp2; exact lend
              · refine lft_run rfl rfl ?_; exact lpk
              · refine lft_run rfl rfl ?_; exact lmv
              · refine lft_want rfl rfl rfl rfl ?_; exact lmv
              · refine lft_want rfl rfl rfl rfl ?_; unfold LftRun; go_wp2; exact lend
              · refine lft_run rfl rfl ?_; exact lpk
              · refine lft_run rfl rfl ?_; exact lmv
              · refine lft_want rfl rfl rfl rfl ?_; obtain ⟨c0, c1, c2, c3, c4⟩ := HCS.out wz hwz; unfold LftRun; go_wp2; exact lend
              · refine lft_want rfl rfl rfl rfl ?_; unfold LftRun; go_wp2_with fail; refine (HCO.out wz hwz).mono ?_; rintro e w9 ⟨rfl, hb9⟩; go_wp2; exact ⟨rfl, rfl, rfl, hb9⟩
              · refine lft_want rfl rfl rfl rfl ?_; unfold LftRun; go_wp2; exact lend
              · refine lft_want rfl rfl rfl rfl ?_; obtain ⟨c0, c1, c2, c3, c4⟩ := HCS.out wz hwz; unfold LftRun; go_wp2; exact lend
              · refine lft_want rfl rfl rfl rfl ?_; unfold LftRun; go_wp2; exact lend
              · refine lft_run rfl rfl ?_; exact lpk
            intro wz hwz
            refine le8 (le8 (LeftEnd.is (LeftEnd.nil ?_)))
            simp only [Act.put, arr0, arr1, arr2]
            refine hKc _ _ ?_
            clear hKc Kc
            go_wp2
            go_ret3
            exact HF.out _ hwz
      · have HXN : Hid (X = none) := by
          unfold Hid
          rcases HC2.out with ⟨h, -⟩ | ⟨-, h2, h3, -, h4⟩
          · cases h
          · rw [HXE.out, if_neg (by rw [← h3]; simp [hkd])]
        have hkd' : ((kd : Int) != 2) = true := by simp; omega
        have HF : Hid (∀ wz, Below W4.heap.size W4 wz → _) := fun wz (hz : Below W4.heap.size W4 wz) => HNO.out HXN.out wz (HB4.out.trans (hz.mono HB4.out.size))
        clear hk9' hN1 hN2 hD4
        go_wp2_with fail
        rename_i Kc hKc
        refine wp_region_left (by kernel_rfl)
          [.is (.int .i64 0), .is (.bool false), .is (.bool false), .is (.int .u8 (kd : Nat)), .is (.bool true), .is (.bool true), .is (.bool true), .is undef, .is undef, .is (.bool true), .is (.bool true), .is undef, .is undef, .is undef, .is undef, .is undef, .is (.bool true)]
          [[],[0],[1],[2],[2,3],[2,4],[5],[6],[6,7],[6,8],[9],[10],[10,11],[10],[10,13],[10,12,14],[10,15]] (by kernel_rfl) (by rfl) ?_ ?_
        · repeat' (first | exact LeftOps.nil | refine LeftOps.cons ?_ ?_)
          all_goals (intro wz hwz; clear hKc; try ((repeat ((with_reducible apply withLeft_is); exact rfl; exact rfl)); (with_reducible refine withLeft_nil ?_); (try simp only [Act.put, arr0, arr1, arr2])))
          · refine lft_run rfl rfl ?_; exact lmv
          · refine lft_run rfl rfl ?_; unfold LftRun; go_wp2; exact lend
          · refine lft_run rfl rfl ?_; exact lmv
          · refine lft_want rfl rfl rfl rfl ?_; exact lmv
          · refine lft_want rfl rfl rfl rfl ?_; unfold LftRun; go_wp2; exact lend
          · refine lft_run rfl rfl ?_; exact lpk
          · refine lft_run rfl rfl ?_; exact lmv
          · exact lsk
          · exact lsk
          · refine lft_run rfl rfl ?_; exact lpk
          · refine lft_run rfl rfl ?_; exact lmv
          · exact lsk
          · exact lsk
          · exact lsk
          · exact lsk
          · exact lsk
          · refine lft_run rfl rfl ?_; exact lpk
        intro wz hwz
        refine le8 (le8 (LeftEnd.is (LeftEnd.nil ?_)))
        simp only [Act.put, arr0, arr1, arr2]
        refine hKc _ _ ?_
        clear hKc Kc
        go_wp2
        go_ret3
        exact HF.out _ hwz
end Go.Proofs.Ytajfcnaifegonaa.Sl.Nd
/- Trees in a program: the document's Tree. -/
namespace Go.By
open Go Go.RowKit
def docAll (K : List Nat) (off : Int) (ct : Nat) : Option (List NIt × Nat) := if off = 0 ∧ ct = 0 then some ([], 0) else docT K 40 off ct true
end Go.By
namespace Go.Proofs.Ytajfcnaifegonaa.Sl.Nd
open Go Go.RowKit Go.By
set_option maxRecDepth 100000 in
set_option maxHeartbeats 1000000 in
theorem refTree_any {K : List Nat} (hK : ∀ c ∈ K, c < 256) (hs : K.length ≤ 1048576) (w : World) (pb : Option Addr) (cb : Nat) (off : Int) (ct : Nat) (hB : Bytes w (.slice pb K.length cb) K) (hct : ct < 18446744073709551616) :
    Calls Try.prog 11 #[.slice pb K.length cb, .agg #[.int .i64 off, .int .u64 (ct : Nat)]] w (DcTold w (docAll K off ct)) := by
  obtain ⟨X, hX⟩ : ∃ X, X = docAll K off ct := ⟨_, rfl⟩
  rw [← hX]
  have HXX := Lib.hid hX
  obtain ⟨W1, hW1⟩ : ∃ W1, W1 = w.alloc (.cells #[.int .i64 off, .int .u64 (ct : Nat)] 39) := ⟨_, rfl⟩
  have hb1 : Below w.heap.size w W1 := by rw [hW1]; exact (Below.refl _ _).alloc (Nat.le_refl _) _
  have HB1 := Lib.hid hb1; have HW1 := Lib.hid hW1
  have HND := Lib.hid (refNode_any hK hs 40 1 rfl (Nat.le_refl _) W1 pb cb off ct true (hB.below hb1) hct)
  generalize K.length = KL at *
  clear hX hW1 hb1 hB hct
  by_cases h0 : off = 0 ∧ ct = 0
  · have HF : Hid (DcTold w X (.returned (.tuple #[.slice none 0 0, .int .i64 0, .int .i64 0])) W1) := ⟨HB1.out, .inr ⟨[], 0, none, 0, by rw [HXX.out]; unfold docAll; rw [if_pos h0], rfl, ItRow.nil _ _⟩⟩
    have e1 : (off == 0) = true := by rw [h0.1]; rfl
    have e2 : ((ct : Int) == 0) = true := by rw [h0.2]; rfl
    clear h0
    go_enter Try.func11, Try.ntmps11
    go_wp2
    rw [← HW1.out]
    go_ret3
    exact HF.out
  · have HX2 : Hid (X = docT K 40 off ct true) := by unfold Hid; rw [HXX.out]; unfold docAll; rw [if_neg h0]
    rw [← HX2.out] at HND
    have HFIN : Hid (∀ z w', DcTold W1 X z w' → DcTold w X z w' ∧ ∃ p l c h m, z = .returned (.tuple #[.slice p l c, .int .i64 h, .int .i64 m])) := fun z w' ⟨hb, h⟩ => by
      refine ⟨⟨HB1.out.trans (hb.mono HB1.out.size), ?_⟩, ?_⟩
      · rcases h with h | ⟨l, h, p, c, h1, h2, h3⟩
        · exact .inl h
        · exact .inr ⟨l, h, p, c, h1, h2, h3.weaken HB1.out.size⟩
      · rcases h with ⟨-, h⟩ | ⟨l, h, p, c, -, h2, -⟩
        · exact ⟨_, _, _, _, _, h⟩
        · exact ⟨_, _, _, _, _, h2⟩
    have hq : (off == 0 && (ct : Int) == 0) = false := by
      cases hq : (off == 0 && (ct : Int) == 0) with
      | false => rfl
      | true => simp at hq; exact absurd ⟨hq.1, by omega⟩ h0
    by_cases h1 : off = 0
    · have e1 : (off == 0) = true := by rw [h1]; rfl
      have e2 : ((ct : Int) == 0) = false := by simp; intro h2; exact h0 ⟨h1, by omega⟩
      clear h0 h1 hq
      go_enter Try.func11, Try.ntmps11
      go_wp2_with fail
      rw [← HW1.out]
      refine HND.out.mono ?_
      intro e w2 he
      obtain ⟨hf, p, l, c, h, m, rfl⟩ := HFIN.out e w2 he
      have HF := Lib.hid hf
      clear he hf
      go_wp2
      go_ret3
      exact HF.out
    · have e1 : (off == 0) = false := by simpa using h1
      clear h0 h1 hq
      go_enter Try.func11, Try.ntmps11
      go_wp2_with fail
      rw [← HW1.out]
      refine HND.out.mono ?_
      intro e w2 he
      obtain ⟨hf, p, l, c, h, m, rfl⟩ := HFIN.out e w2 he
      have HF := Lib.hid hf
      clear he hf
      go_wp2
      go_ret3
      exact HF.out
end Go.Proofs.Ytajfcnaifegonaa.Sl.Nd
