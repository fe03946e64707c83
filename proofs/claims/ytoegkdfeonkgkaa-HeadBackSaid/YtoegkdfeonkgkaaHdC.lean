/- Heads in a program: the document's TakeDone. -/
import Derived.Test.YtoegkdfeonkgkaaHdA
import Derived.Test.YtoegkdfeonkgkaaRefO
namespace Go.Proofs.Ytoegkdfeonkgkaa
open Go Go.RowKit Go.By

set_option maxRecDepth 100000 in
set_option maxHeartbeats 8000000 in
theorem refTakeDone_any (v : Value) (l : List Nat) (w : World) (hv : Bytes w v l) :
    Calls Try.prog 10 #[v] w fun z w' => z = .returned (dnV l) ∧ Below w.heap.size w w' := by
  obtain ⟨p, cap, rfl, _⟩ := hv.any
  have hm := hv.short
  unfold maxLen at hm
  obtain ⟨w1, hw1⟩ : ∃ W, W = w.alloc (.cells #[.int .i64 0, .int .i64 0, .bool false] 25) := ⟨_, rfl⟩
  have hb1 : Below w.heap.size w w1 := by rw [hw1]; exact (Below.refl _ _).alloc (Nat.le_refl _) _
  have ha1 : w1.heap[w.heap.size]? = some (.cells #[.int .i64 0, .int .i64 0, .bool false] 25 (0, 0)) := by rw [hw1]; exact heap_alloc_new w _
  obtain ⟨A, hA⟩ : ∃ A, A = w.heap.size := ⟨_, rfl⟩
  by_cases hN : l.length = 10
  · have hs0 : ∀ w, (Instr.slice 26 (.slice p 10 cap) none (some (.int .i64 8)) none).run Try.prog w = .ok (.slice p 8 cap) w := fun w => upto_runI p 10 cap 8 8 rfl (by have := hv.room.2; omega) w
    have hv1 := hv.below hb1
    obtain ⟨q, c, hr, hq⟩ := tail_run hv1 8 (8 : Int) rfl (by omega)
    rw [hN] at hr hq
    have hr' : ∀ w0, (Instr.slice 26 (.slice p 10 cap) (some (.int .i64 8)) none none).run Try.prog w0 = .ok (.slice q 2 c) w0 := fun w0 => hr w0
    have hq' : Bytes w1 (.slice q 2 c) (l.drop 8) := hq
    have hu8 := hv1.upto (n := 8) (by omega)
    have hn2 : numOf (l.drop 8) < 65536 := by
      have h1 := numOf_lt (l.drop 8) (fun c hc => hv1.small c (List.mem_of_mem_drop hc))
      rw [List.length_drop, hN] at h1
      exact h1
    have HHU : Hid (∀ W, Bytes W (.slice p 8 cap) (l.take 8) → Calls Try.prog 28 #[.slice p 8 cap] W fun e w' => e = .returned (.int .u64 (numOf (l.take 8) : Nat)) ∧ W = w') := fun W h => num_any _ _ W h (by rw [List.length_take]; omega)
    have HHQ : Hid (∀ W, Bytes W (.slice q 2 c) (l.drop 8) → Calls Try.prog 28 #[.slice q 2 c] W fun e w' => e = .returned (.int .u64 (numOf (l.drop 8) : Nat)) ∧ W = w') := fun W h => num_any _ _ W h (by rw [List.length_drop]; omega)
    have HQ := Lib.hid hq'; have HU := Lib.hid hu8; have HA1 := Lib.hid ha1; have HB1 := Lib.hid hb1; have HW1 := Lib.hid hw1
    have HL1 : Hid (Bytes w1 (.slice p 10 cap) l) := by unfold Hid; rw [← hN]; exact hv1
    have HLL := Lib.hid hN
    have HRD : Hid (rdDn l = ⟨wrap64 (numOf (l.take 8) : Nat), (numOf (l.drop 8) : Nat), false⟩) := rfl
    have HN2 := Lib.hid hn2
    have HAA := Lib.hid hA
    rw [hN]
    clear hq hq' hu8 ha1 hb1 hw1 hm hN hv hv1 hr hn2
    generalize numOf (l.take 8) = N1 at *
    generalize numOf (l.drop 8) = N2 at *
    go_enter Try.func10, Try.ntmps10
    go_wp2_with fail
    rw [← HW1.out, ← hA]
    clear hA
    rename_i Kc hKc
    obtain ⟨Q1, hQ1⟩ : ∃ Q, Q = IntKind.i64.wrap (N1 : Int) := ⟨_, rfl⟩
    obtain ⟨Q2, hQ2⟩ : ∃ Q, Q = IntKind.i64.wrap (N2 : Int) := ⟨_, rfl⟩
    have HT : Hid (Kc ⟨#[.slice p 10 cap, undef, .pointer (some ⟨A, 0, none⟩), .int .i64 0, .pointer (some ⟨w1.heap.size, 0, none⟩), .slice p 10 cap, .int .i64 10, .bool false, undef, .slice p 10 cap, .slice p 8 cap, .int .u64 (N1 : Nat), .int .i64 Q1, .slice p 10 cap, .slice q 2 c, .int .u64 (N2 : Nat), .int .i64 Q2, .agg #[.int .i64 Q1, .int .i64 Q2, .bool false], undef, undef, undef, undef, undef, undef, undef, undef], []⟩ (w1.alloc (.cells #[.int .i64 Q1, .int .i64 Q2, .bool false] 25)).drew) := by
      unfold Hid
      have hq1 : Q1 = wrap64 (N1 : Int) := by rw [hQ1]; exact IntWalk.i64_left _
      have hq2 : Q2 = (N2 : Int) := by rw [hQ2, IntWalk.i64_left]; have := HN2.out; unfold wrap64; omega
      have hrd : rdDn l = ⟨Q1, Q2, false⟩ := by rw [HRD.out, hq1, hq2]
      have hQmax : Q1 ≤ 9223372036854775807 := by rw [hq1]; unfold wrap64; omega
      clear hq1 hq2 hQ1 hQ2
      obtain ⟨W, hW⟩ : ∃ W, W = (w1.alloc (.cells #[.int .i64 Q1, .int .i64 Q2, .bool false] 25)).drew := ⟨_, rfl⟩
      rw [← hW]
      have hbw : Below w1.heap.size w1 W := by rw [hW]; exact ((Below.refl _ _).alloc (Nat.le_refl _) _).drew
      obtain ⟨G4, hG4⟩ : ∃ G, G = w1.heap.size := ⟨_, rfl⟩
      rw [← hG4]
      have hgc : W.heap[G4]? = some (.cells #[.int .i64 Q1, .int .i64 Q2, .bool false] 25 (0, 0)) := by rw [hW, hG4]; exact heap_alloc_new w1 _
      have HG4 : Hid (G4 < W.heap.size) := (Array.getElem?_eq_some_iff.1 hgc).1
      have HD0 : Hid (W.cell? ⟨G4, 0, none⟩ = some (.int .i64 Q1)) := cells_of hgc 0
      have HD1 : Hid (W.cell? ⟨G4, 1, none⟩ = some (.int .i64 Q2)) := cells_of hgc 1
      have HD2 : Hid (W.cell? ⟨G4, 2, none⟩ = some (.bool false)) := cells_of hgc 2
      have HL := Lib.hid (HL1.out.below hbw)
      have HAW : Hid (W.heap[A]? = some (.cells #[.int .i64 0, .int .i64 0, .bool false] 25 (0, 0))) := (hbw.block A (by have := (Array.getElem?_eq_some_iff.1 HA1.out).1; rw [← HAA.out] at this; exact this)).trans (by rw [HAA.out]; exact HA1.out)
      have HBW : Hid (Below w.heap.size w W) := HB1.out.trans (hbw.mono HB1.out.size)
      have HGC := Lib.hid hgc
      have HPH := Lib.hid (fun wz => refPutDone_any Q1 Q2 false wz hQmax)
      have HRL := Lib.hid hrd
      clear hW hbw hG4 hgc hrd hQmax HL1 HA1 HU HQ HHU HHQ hs0 hr' HRD HB1 HW1
      refine hKc _ _ ?_
      clear hKc Kc
      by_cases hpl : putDn (rdDn l) = l
      · have E : Hid (takeDn l = some ⟨Q1, Q2, false⟩) := by unfold Hid takeDn; rw [if_pos ⟨HLL.out, hpl⟩, HRL.out]
        have HP : Hid (putDn ⟨Q1, Q2, false⟩ = l) := by unfold Hid; rw [← HRL.out]; exact hpl
        clear hpl
        go_wp2_with fail
        rename_i Kc hKc
        refine wp_region_own (by kernel_rfl)
          [.is (.agg #[.int .i64 Q1, .int .i64 Q2, .bool false]),
           Own.row Try.prog 5 (putDn ⟨Q1, Q2, false⟩),
           .is (.string (strOf l)),
           .is (.slice p 10 cap),
           .is (.string (strOf l)),
           .is (.bool false)]
          [[], [0], [1], [], [3], [2, 4]]
          [[], [], [], [], [], []]
          [none, none, none, none, none, none]
          [false, true, false, false, false, false] [false, false, false, false, false, false] [] (by kernel_rfl) (by rfl) (by rfl) (by rfl) (by rfl) ?_ ?_
        · refine OwnOps.cons ?_ (OwnOps.cons ?_ (OwnOps.cons ?_ (OwnOps.cons ?_ (OwnOps.cons ?_ (OwnOps.cons ?_ (OwnOps.nil))))))
          · intro wz hwz
            clear hKc
            refine withOwn_nil ?_
            refine own_run rfl rfl ?_
            refine OwnRun.mono (X0 := fun _ => False) (fun _ h => h.elim) ?_
            unfold OwnRun
            have d0 := (hwz.cell (p := ⟨G4, 0, none⟩) HG4.out).trans HD0.out
            have d1 := (hwz.cell (p := ⟨G4, 1, none⟩) HG4.out).trans HD1.out
            have d2 := (hwz.cell (p := ⟨G4, 2, none⟩) HG4.out).trans HD2.out
            go_wp2
            exact ⟨rfl, rfl, rfl, Chg.of_below (Below.refl _ _), fun h => by cases h⟩
          · intro wz hwz
            clear hKc
            refine withOwn_is rfl rfl ?_
            refine withOwn_nil ?_
            simp only [Act.put, List.setIfInBounds_toArray, List.set_cons_zero, List.set_cons_succ]
            refine own_run rfl rfl ?_
            refine OwnRun.mono (X0 := fun _ => False) (fun _ h => h.elim) ?_
            unfold OwnRun
            go_wp2_with fail
            refine (HPH.out wz).mono ?_
            rintro e wq ⟨vq, rfl, hoq, hbq⟩
            have hrq := Own.row_of (P := Try.prog) hoq
            have hkq := row_blk hoq
            clear hoq
            go_wp2
            exact ⟨rfl, hrq, rfl, Chg.of_below hbq, fun _ k hk => .inl (hkq k hk)⟩
          · intro wz hwz
            clear hKc
            refine withOwn_own rfl rfl ?_
            intro vv1 hv1 hB1
            refine withOwn_nil ?_
            simp only [Act.put, List.setIfInBounds_toArray, List.set_cons_zero, List.set_cons_succ]
            refine own_run rfl rfl ?_
            refine OwnRun.mono (X0 := fun _ => False) (fun _ h => h.elim) ?_
            obtain ⟨pv, cv, hvv⟩ := row_shape hv1.1
            have hcvv := (Bytes.of_owns hv1.1 (putDn_small _) (by have := putDn_length ⟨Q1, Q2, false⟩; unfold maxLen; omega)).toString (P := Try.prog) byT (d := 9) (by kernel_rfl)
            rw [HP.out] at hcvv
            subst hvv
            unfold OwnRun
            go_wp2
            exact ⟨rfl, rfl, rfl, Chg.of_below (Below.refl _ _), fun h => by cases h⟩
          · intro wz hwz
            clear hKc
            refine withOwn_nil ?_
            refine own_run rfl rfl ?_
            exact own_move rfl (by first | rfl | assumption)
          · intro wz hwz
            clear hKc
            refine withOwn_is rfl rfl ?_
            refine withOwn_nil ?_
            simp only [Act.put, List.setIfInBounds_toArray, List.set_cons_zero, List.set_cons_succ]
            refine own_run rfl rfl ?_
            refine OwnRun.mono (X0 := fun _ => False) (fun _ h => h.elim) ?_
            have hcl := (HL.out.below hwz).toString (P := Try.prog) byT (d := 9) (by kernel_rfl)
            unfold OwnRun
            go_wp2
            exact ⟨rfl, rfl, rfl, Chg.of_below (Below.refl _ _), fun h => by cases h⟩
          · intro wz hwz
            clear hKc
            refine withOwn_is rfl rfl ?_
            refine withOwn_is rfl rfl ?_
            refine withOwn_nil ?_
            simp only [Act.put, List.setIfInBounds_toArray, List.set_cons_zero, List.set_cons_succ]
            refine own_run rfl rfl ?_
            refine OwnRun.mono (X0 := fun _ => False) (fun _ h => h.elim) ?_
            unfold OwnRun
            go_wp2
            exact ⟨rfl, rfl, rfl, Chg.of_below (Below.refl _ _), fun h => by cases h⟩
        intro wz hwz
        refine OwnEnd.is rfl (OwnEnd.own rfl (fun _ _ _ => OwnEnd.is rfl (OwnEnd.is rfl (OwnEnd.is rfl (OwnEnd.is rfl (OwnEnd.nil ?_))))))
        simp only [Act.put, List.setIfInBounds_toArray, List.set_cons_zero, List.set_cons_succ]
        refine ViaEnd.nil ?_
        have HBZ := Lib.hid (HBW.out.trans (hwz.mono HBW.out.size))
        have hAZ := (hwz.block A (Array.getElem?_eq_some_iff.1 HAW.out).1).trans HAW.out
        have hGZ := (hwz.block G4 HG4.out).trans HGC.out
        have a0 := cells_of hAZ 0; have a1 := cells_of hAZ 1; have a2 := cells_of hAZ 2
        have q0 := free_of hAZ 0; have q1 := free_of hAZ 1; have q2 := free_of hAZ 2
        have g0 := cells_of hGZ 0; have g1 := cells_of hGZ 1; have g2 := cells_of hGZ 2
        have HX := Lib.hid (three_set hAZ (.int .i64 Q1) (.int .i64 Q2) (.bool false))
        have HBX := Lib.hid (three_below (A := A) HBZ.out (Nat.le_of_eq HAA.out.symm) (.int .i64 Q1) (.int .i64 Q2) (.bool false))
        clear hAZ hGZ hwz
        refine hKc _ _ ?_
        clear hKc Kc
        go_wp2
        refine bodyPost_ret (done_ret rfl rfl HX.out rfl) rfl ?_
        exact ⟨by rw [dnV_yes E.out]; rfl, HBX.out⟩
      · have E : Hid (takeDn l = none) := by unfold Hid takeDn; rw [if_neg (fun h => hpl h.2)]
        have HSM : Hid (∀ c ∈ l, c < 256) := HL.out.small
        have hne : ((strOf (putDn ⟨Q1, Q2, false⟩)).toList == (strOf l).toList) = false := by
          rw [eq_str, natsOf_strOf (putDn_small _), natsOf_strOf HSM.out, decide_eq_false]
          rw [← HRL.out]; exact hpl
        have HNE := Lib.hid hne
        clear hpl hne
        go_wp2_with fail
        rename_i Kc hKc
        refine wp_region_own (by kernel_rfl)
          [.is (.agg #[.int .i64 Q1, .int .i64 Q2, .bool false]),
           Own.row Try.prog 5 (putDn ⟨Q1, Q2, false⟩),
           .is (.string (strOf (putDn ⟨Q1, Q2, false⟩))),
           .is (.slice p 10 cap),
           .is (.string (strOf l)),
           .is (.bool true)]
          [[], [0], [1], [], [3], [2, 4]]
          [[], [], [], [], [], []]
          [none, none, none, none, none, none]
          [false, true, false, false, false, false] [false, false, false, false, false, false] [] (by kernel_rfl) (by rfl) (by rfl) (by rfl) (by rfl) ?_ ?_
        · refine OwnOps.cons ?_ (OwnOps.cons ?_ (OwnOps.cons ?_ (OwnOps.cons ?_ (OwnOps.cons ?_ (OwnOps.cons ?_ (OwnOps.nil))))))
          · intro wz hwz
            clear hKc
            refine withOwn_nil ?_
            refine own_run rfl rfl ?_
            refine OwnRun.mono (X0 := fun _ => False) (fun _ h => h.elim) ?_
            unfold OwnRun
            have d0 := (hwz.cell (p := ⟨G4, 0, none⟩) HG4.out).trans HD0.out
            have d1 := (hwz.cell (p := ⟨G4, 1, none⟩) HG4.out).trans HD1.out
            have d2 := (hwz.cell (p := ⟨G4, 2, none⟩) HG4.out).trans HD2.out
            go_wp2
            exact ⟨rfl, rfl, rfl, Chg.of_below (Below.refl _ _), fun h => by cases h⟩
          · intro wz hwz
            clear hKc
            refine withOwn_is rfl rfl ?_
            refine withOwn_nil ?_
            simp only [Act.put, List.setIfInBounds_toArray, List.set_cons_zero, List.set_cons_succ]
            refine own_run rfl rfl ?_
            refine OwnRun.mono (X0 := fun _ => False) (fun _ h => h.elim) ?_
            unfold OwnRun
            go_wp2_with fail
            refine (HPH.out wz).mono ?_
            rintro e wq ⟨vq, rfl, hoq, hbq⟩
            have hrq := Own.row_of (P := Try.prog) hoq
            have hkq := row_blk hoq
            clear hoq
            go_wp2
            exact ⟨rfl, hrq, rfl, Chg.of_below hbq, fun _ k hk => .inl (hkq k hk)⟩
          · intro wz hwz
            clear hKc
            refine withOwn_own rfl rfl ?_
            intro vv1 hv1 hB1
            refine withOwn_nil ?_
            simp only [Act.put, List.setIfInBounds_toArray, List.set_cons_zero, List.set_cons_succ]
            refine own_run rfl rfl ?_
            refine OwnRun.mono (X0 := fun _ => False) (fun _ h => h.elim) ?_
            obtain ⟨pv, cv, hvv⟩ := row_shape hv1.1
            have hcvv := (Bytes.of_owns hv1.1 (putDn_small _) (by have := putDn_length ⟨Q1, Q2, false⟩; unfold maxLen; omega)).toString (P := Try.prog) byT (d := 9) (by kernel_rfl)
            subst hvv
            unfold OwnRun
            go_wp2
            exact ⟨rfl, rfl, rfl, Chg.of_below (Below.refl _ _), fun h => by cases h⟩
          · intro wz hwz
            clear hKc
            refine withOwn_nil ?_
            refine own_run rfl rfl ?_
            exact own_move rfl (by first | rfl | assumption)
          · intro wz hwz
            clear hKc
            refine withOwn_is rfl rfl ?_
            refine withOwn_nil ?_
            simp only [Act.put, List.setIfInBounds_toArray, List.set_cons_zero, List.set_cons_succ]
            refine own_run rfl rfl ?_
            refine OwnRun.mono (X0 := fun _ => False) (fun _ h => h.elim) ?_
            have hcl := (HL.out.below hwz).toString (P := Try.prog) byT (d := 9) (by kernel_rfl)
            unfold OwnRun
            go_wp2
            exact ⟨rfl, rfl, rfl, Chg.of_below (Below.refl _ _), fun h => by cases h⟩
          · intro wz hwz
            clear hKc
            refine withOwn_is rfl rfl ?_
            refine withOwn_is rfl rfl ?_
            refine withOwn_nil ?_
            simp only [Act.put, List.setIfInBounds_toArray, List.set_cons_zero, List.set_cons_succ]
            refine own_run rfl rfl ?_
            refine OwnRun.mono (X0 := fun _ => False) (fun _ h => h.elim) ?_
            unfold OwnRun
            have hne := HNE.out
            go_wp2
            exact ⟨rfl, rfl, rfl, Chg.of_below (Below.refl _ _), fun h => by cases h⟩
        intro wz hwz
        refine OwnEnd.is rfl (OwnEnd.own rfl (fun _ _ _ => OwnEnd.is rfl (OwnEnd.is rfl (OwnEnd.is rfl (OwnEnd.is rfl (OwnEnd.nil ?_))))))
        simp only [Act.put, List.setIfInBounds_toArray, List.set_cons_zero, List.set_cons_succ]
        refine ViaEnd.nil ?_
        have HBZ := Lib.hid (HBW.out.trans (hwz.mono HBW.out.size))
        have hAZ := (hwz.block A (Array.getElem?_eq_some_iff.1 HAW.out).1).trans HAW.out
        have a0 := cells_of hAZ 0; have a1 := cells_of hAZ 1; have a2 := cells_of hAZ 2
        have q0 := free_of hAZ 0; have q1 := free_of hAZ 1; have q2 := free_of hAZ 2
        have HX := Lib.hid (three_set hAZ (.int .i64 0) (.int .i64 0) (.bool false))
        have HBX := Lib.hid (three_below (A := A) HBZ.out (Nat.le_of_eq HAA.out.symm) (.int .i64 0) (.int .i64 0) (.bool false))
        clear hAZ hwz
        refine hKc _ _ ?_
        clear hKc Kc
        go_wp2
        refine bodyPost_ret (done_ret rfl rfl HX.out rfl) rfl ?_
        exact ⟨by rw [dnV_no E.out]; rfl, HBX.out⟩
    go_region_held (fun _ => True) (trivial)
      (first
        | (go_at_call 28
           with_reducible refine (HHU.out _ (HU.out.below (by first | exact (Below.refl _ _).drew | exact ((Below.refl _ _).alloc (Nat.le_refl _) _).drew))).mono ?_
           rintro z w2 ⟨rfl, rfl⟩)
        | (go_at_call 28
           with_reducible refine (HHQ.out _ (HQ.out.below (by first | exact (Below.refl _ _).drew | exact ((Below.refl _ _).alloc (Nat.le_refl _) _).drew))).mono ?_
           rintro z w2 ⟨rfl, rfl⟩))
    all_goals (subst hQ1 hQ2; exact HT.out)
  · have E : Hid (takeDn l = none) := by unfold Hid takeDn; rw [if_neg (fun h => hN h.1)]
    have hNi : ((l.length : Int) == 10) = false := by rw [beq_eq_false_iff_ne]; omega
    have HX : Hid ((w.alloc (.cells #[.int .i64 0, .int .i64 0, .bool false] 25)).heap[w.heap.size]? = some (.cells #[.int .i64 0, .int .i64 0, .bool false] 25 (0, 0))) := heap_alloc_new w _
    have HBX : Hid (Below w.heap.size w (w.alloc (.cells #[.int .i64 0, .int .i64 0, .bool false] 25))) := (Below.refl _ _).alloc (Nat.le_refl _) _
    clear hv ha1 hb1 hN hw1 hA
    go_enter Try.func10, Try.ntmps10
    go_wp2
    refine bodyPost_ret (done_ret rfl rfl HX.out rfl) rfl ?_
    exact ⟨by rw [dnV_no E.out]; rfl, HBX.out⟩
end Go.Proofs.Ytoegkdfeonkgkaa

