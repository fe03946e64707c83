/- Heads in a program: what the document puts. -/
import Derived.Test.YtoegkdfeonkgkaaRefN
import Derived.Test.YtoegkdfeonkgkaaGenZ
import Derived.Test.YtoegkdfeonkgkaaConvB
import Derived.Test.YtoegkdfeonkgkaaHdP
import Derived.Test.YtoegkdfeonkgkaaRegO
namespace Go.Proofs.Ytoegkdfeonkgkaa
open Go Go.RowKit Go.By

set_option maxRecDepth 100000 in
set_option maxHeartbeats 4000000 in
theorem refPutHead_any (n f : Int) (tb : Bool) (w : World) (hn : n ≤ 9223372036854775807) :
    Calls Try.prog 16 #[.agg #[.int .i64 n, .int .i64 f, .bool tb]] w fun z w' => ∃ v', z = .returned v' ∧ w'.ownsRow w.heap.size 5 1 v' (putHd ⟨n, f, tb⟩).length (cellsOf (putHd ⟨n, f, tb⟩)) ∧ Below w.heap.size w w' := by
  have hb := (Below.refl w.heap.size w).alloc (Nat.le_refl _) (.cells #[.int .i64 n, .int .i64 f, .bool tb] 23)
  have HB := Lib.hid hb
  clear hb
  by_cases h0 : 0 ≤ f
  · by_cases h1 : f ≤ n
    · obtain ⟨a, rfl⟩ : ∃ a : Nat, n = a := ⟨n.toNat, by omega⟩
      obtain ⟨b, rfl⟩ : ∃ b : Nat, f = b := ⟨f.toNat, by omega⟩
      have hn' : (a : Int) ≤ 9223372036854775807 := hn
      have hb' : (b : Int) ≤ 9223372036854775807 := by omega
      have E : Hid (putHd ⟨a, b, tb⟩ = highOf a 8 ++ highOf b 8 ++ [tombOf tb]) := by
        unfold Hid putHd
        rw [if_pos ((mayHd_iff _).2 ⟨h0, h1⟩)]
        show highOf a 8 ++ (highOf b 8 ++ [tombOf tb]) = _
        rw [List.append_assoc]
      have HHA : Hid (∀ w, Calls Try.prog 44 #[.int .u64 (a : Nat), .int .i64 8] w fun e w' => ∃ v', e = .returned v' ∧ w'.ownsRow w.heap.size 5 1 v' (highOf a 8).length (cellsOf (highOf a 8)) ∧ Below w.heap.size w w') := fun w => by rw [highOf_length]; exact high_any a 8 w (by omega) (by omega)
      have HHB : Hid (∀ w, Calls Try.prog 44 #[.int .u64 (b : Nat), .int .i64 8] w fun e w' => ∃ v', e = .returned v' ∧ w'.ownsRow w.heap.size 5 1 v' (highOf b 8).length (cellsOf (highOf b 8)) ∧ Below w.heap.size w w') := fun w => by rw [highOf_length]; exact high_any b 8 w (by omega) (by omega)
      have hwa : IntKind.u64.wrap (a : Int) = a := by rw [IntKind.wrap_u64]; omega
      have hwb : IntKind.u64.wrap (b : Int) = b := by rw [IntKind.wrap_u64]; omega
      obtain ⟨W, hW⟩ : ∃ W, W = w.alloc (.cells #[.int .i64 (a : Nat), .int .i64 (b : Nat), .bool tb] 23) := ⟨_, rfl⟩
      obtain ⟨GX, hGX⟩ : ∃ G, G = w.heap.size := ⟨_, rfl⟩
      have hcell : W.heap[GX]? = some (.cells #[.int .i64 (a : Nat), .int .i64 (b : Nat), .bool tb] 23 (0, 0)) := by rw [hW, hGX]; exact heap_alloc_new w _
      have HGX : Hid (GX < W.heap.size) := (Array.getElem?_eq_some_iff.1 hcell).1
      have HC0 : Hid (W.cell? ⟨GX, 0, none⟩ = some (.int .i64 (a : Nat))) := cells_of hcell 0
      have HC1 : Hid (W.cell? ⟨GX, 1, none⟩ = some (.int .i64 (b : Nat))) := cells_of hcell 1
      have HBW : Hid (Below w.heap.size w W) := by unfold Hid; rw [hW]; exact HB.out
      clear hcell hn
      cases tb with
      | false =>
        go_enter Try.func16, Try.ntmps16
        go_wp2_with fail
        rw [← hW, ← hGX]
        clear hW hGX
        rename_i Kc hKc
        refine wp_region_own (by kernel_rfl)
          [.is (.pointer (some ⟨GX, 0, none⟩)),
           .is (.int .i64 (a : Nat)),
           .is (.int .u64 (a : Nat)),
           Own.row Try.prog 5 (highOf a 8),
           .is (.pointer (some ⟨GX, 1, none⟩)),
           .is (.int .i64 (b : Nat)),
           .is (.int .u64 (b : Nat)),
           Own.row Try.prog 5 (highOf b 8),
           Own.row Try.prog 5 ((highOf a 8) ++ (highOf b 8)),
           .is (.int .u8 0),
           Own.row Try.prog 5 [0],
           Own.row Try.prog 5 (((highOf a 8) ++ (highOf b 8)) ++ [0]),
           Own.row Try.prog 5 (((highOf a 8) ++ (highOf b 8)) ++ [0])]
          [[], [0], [1], [2], [], [4], [5], [6], [3, 7], [], [9], [8, 10], [11]]
          [[], [], [], [], [], [], [], [], [3], [], [], [8], [11]]
          [none, none, none, none, none, none, none, none, none, none, none, none, none]
          [false, false, false, true, false, false, false, true, true, false, true, true, true] [false, false, false, true, false, false, false, false, true, false, false, true, false] [] (by kernel_rfl) (by rfl) (by rfl) (by rfl) (by rfl) ?_ ?_
        · refine OwnOps.cons ?_ (OwnOps.cons ?_ (OwnOps.cons ?_ (OwnOps.cons ?_ (OwnOps.cons ?_ (OwnOps.cons ?_ (OwnOps.cons ?_ (OwnOps.cons ?_ (OwnOps.cons ?_ (OwnOps.cons ?_ (OwnOps.cons ?_ (OwnOps.cons ?_ (OwnOps.cons ?_ (OwnOps.nil)))))))))))))
          · intro wz hwz
            clear hKc
            refine withOwn_nil ?_
            refine own_run rfl rfl ?_
            refine OwnRun.mono (X0 := fun _ => False) (fun _ h => h.elim) ?_
            unfold OwnRun
            go_wp2
            exact ⟨rfl, rfl, rfl, Chg.of_below (Below.refl _ _), fun h => by cases h⟩
          · intro wz hwz
            clear hKc
            refine withOwn_is rfl rfl ?_
            refine withOwn_nil ?_
            simp only [Act.put, List.setIfInBounds_toArray, List.set_cons_zero, List.set_cons_succ]
            refine own_run rfl rfl ?_
            refine OwnRun.mono (X0 := fun _ => False) (fun _ h => h.elim) ?_
            unfold OwnRun
            have d0 := (hwz.cell (p := ⟨GX, 0, none⟩) HGX.out).trans HC0.out
            go_wp2
            exact ⟨rfl, rfl, rfl, Chg.of_below (Below.refl _ _), fun h => by cases h⟩
          · intro wz hwz
            clear hKc
            refine withOwn_is rfl rfl ?_
            refine withOwn_nil ?_
            simp only [Act.put, List.setIfInBounds_toArray, List.set_cons_zero, List.set_cons_succ]
            refine own_run rfl rfl ?_
            refine OwnRun.mono (X0 := fun _ => False) (fun _ h => h.elim) ?_
            unfold OwnRun
            go_wp2
            exact ⟨rfl, rfl, rfl, Chg.of_below (Below.refl _ _), fun h => by cases h⟩
          · intro wz hwz
            clear hKc
            refine withOwn_is rfl rfl ?_
            refine withOwn_nil ?_
            simp only [Act.put, List.setIfInBounds_toArray, List.set_cons_zero, List.set_cons_succ]
            refine own_run rfl rfl ?_
            refine OwnRun.mono (X0 := fun _ => False) (fun _ h => h.elim) ?_
            unfold OwnRun
            go_wp2_with fail
            refine (HHA.out wz).mono ?_
            rintro e wq ⟨vq, rfl, hoq, hbq⟩
            have hrq := Own.row_of (P := Try.prog) hoq
            have hkq := row_blk hoq
            clear hoq
            go_wp2
            exact ⟨rfl, hrq, rfl, Chg.of_below hbq, fun _ k hk => .inl (hkq k hk)⟩
          · intro wz hwz
            clear hKc
            refine withOwn_nil ?_
            refine own_run rfl rfl ?_
            refine OwnRun.mono (X0 := fun _ => False) (fun _ h => h.elim) ?_
            unfold OwnRun
            go_wp2
            exact ⟨rfl, rfl, rfl, Chg.of_below (Below.refl _ _), fun h => by cases h⟩
          · intro wz hwz
            clear hKc
            refine withOwn_is rfl rfl ?_
            refine withOwn_nil ?_
            simp only [Act.put, List.setIfInBounds_toArray, List.set_cons_zero, List.set_cons_succ]
            refine own_run rfl rfl ?_
            refine OwnRun.mono (X0 := fun _ => False) (fun _ h => h.elim) ?_
            unfold OwnRun
            have d0 := (hwz.cell (p := ⟨GX, 1, none⟩) HGX.out).trans HC1.out
            go_wp2
            exact ⟨rfl, rfl, rfl, Chg.of_below (Below.refl _ _), fun h => by cases h⟩
          · intro wz hwz
            clear hKc
            refine withOwn_is rfl rfl ?_
            refine withOwn_nil ?_
            simp only [Act.put, List.setIfInBounds_toArray, List.set_cons_zero, List.set_cons_succ]
            refine own_run rfl rfl ?_
            refine OwnRun.mono (X0 := fun _ => False) (fun _ h => h.elim) ?_
            unfold OwnRun
            go_wp2
            exact ⟨rfl, rfl, rfl, Chg.of_below (Below.refl _ _), fun h => by cases h⟩
          · intro wz hwz
            clear hKc
            refine withOwn_is rfl rfl ?_
            refine withOwn_nil ?_
            simp only [Act.put, List.setIfInBounds_toArray, List.set_cons_zero, List.set_cons_succ]
            refine own_run rfl rfl ?_
            refine OwnRun.mono (X0 := fun _ => False) (fun _ h => h.elim) ?_
            unfold OwnRun
            go_wp2_with fail
            refine (HHB.out wz).mono ?_
            rintro e wq ⟨vq, rfl, hoq, hbq⟩
            have hrq := Own.row_of (P := Try.prog) hoq
            have hkq := row_blk hoq
            clear hoq
            go_wp2
            exact ⟨rfl, hrq, rfl, Chg.of_below hbq, fun _ k hk => .inl (hkq k hk)⟩
          · intro wz hwz
            clear hKc
            refine withOwn_own rfl rfl ?_
            intro vv3 hv3 hB3
            refine withOwn_own rfl rfl ?_
            intro vv7 hv7 hB7
            refine withOwn_nil ?_
            simp only [Act.put, List.setIfInBounds_toArray, List.set_cons_zero, List.set_cons_succ]
            refine own_run rfl rfl ?_
            refine OwnRun.mono (X0 := fun k => blkOf vv3 = some k) (fun k hk => ⟨3, by simp, 19, rfl, hk⟩) ?_
            exact own_append byT rfl hv3.1 rfl (Bytes.of_owns hv7.1 (highOf_small _ _) (by rw [highOf_length]; decide)) (by simp [highOf_length]) (fun k hk => hk) rfl
          · intro wz hwz
            clear hKc
            refine withOwn_nil ?_
            refine own_run rfl rfl ?_
            exact own_move rfl (by first | rfl | assumption)
          · intro wz hwz
            clear hKc
            refine withOwn_is rfl rfl ?_
            refine withOwn_nil ?_
            simp only [Act.put, List.setIfInBounds_toArray, List.set_cons_zero, List.set_cons_succ]
            refine own_run rfl rfl ?_
            refine OwnRun.mono (X0 := fun _ => False) (fun _ h => h.elim) ?_
            unfold OwnRun
            go_wp2
            exact ⟨rfl, Own.row_of (P := Try.prog) (row_built wz _ 0), rfl, Chg.of_below ((Below.refl _ _).alloc (Nat.le_refl _) _), fun _ k hk => .inl (row_blk (row_built wz 5 0) k hk)⟩
          · intro wz hwz
            clear hKc
            refine withOwn_own rfl rfl ?_
            intro vv8 hv8 hB8
            refine withOwn_own rfl rfl ?_
            intro vv10 hv10 hB10
            refine withOwn_nil ?_
            simp only [Act.put, List.setIfInBounds_toArray, List.set_cons_zero, List.set_cons_succ]
            refine own_run rfl rfl ?_
            refine OwnRun.mono (X0 := fun k => blkOf vv8 = some k) (fun k hk => ⟨8, by simp, 24, rfl, hk⟩) ?_
            exact own_append byT rfl hv8.1 rfl (Bytes.of_owns hv10.1 (by decide) (by decide)) (by simp [highOf_length]) (fun k hk => hk) rfl
          · intro wz hwz
            clear hKc
            refine withOwn_own rfl rfl ?_
            intro vv11 hv11 hB11
            refine withOwn_nil ?_
            simp only [Act.put, List.setIfInBounds_toArray, List.set_cons_zero, List.set_cons_succ]
            refine own_run rfl rfl ?_
            refine OwnRun.mono (X0 := fun k => blkOf vv11 = some k) (fun k hk => ⟨11, by simp, 27, rfl, hk⟩) ?_
            exact own_pass rfl rfl hv11 (fun k hk => hk)
        intro wz hwz
        refine OwnEnd.is rfl (OwnEnd.is rfl (OwnEnd.is rfl (OwnEnd.dead rfl (fun _ => OwnEnd.is rfl (OwnEnd.is rfl (OwnEnd.is rfl (OwnEnd.own rfl (fun _ _ _ => OwnEnd.dead rfl (fun _ => OwnEnd.is rfl (OwnEnd.own rfl (fun _ _ _ => OwnEnd.dead rfl (fun _ => OwnEnd.own rfl (fun _ _ _ => OwnEnd.nil ?_)))))))))))))
        simp only [Act.put, List.setIfInBounds_toArray, List.set_cons_zero, List.set_cons_succ]
        refine ViaEnd.nil ?_
        rename_i v2 hv2 hB2
        have HR := Lib.hid (row_from hv2.1 hB2)
        have HBZ := Lib.hid (HBW.out.trans (hwz.mono HBW.out.size))
        clear hv2 hB2 hwz
        refine hKc _ _ ?_
        clear hKc Kc
        go_wp2
        go_ret
        exact ⟨_, rfl, by rw [E.out]; exact owns_base HR.out HBW.out.size, HBZ.out⟩
      | true =>
        go_enter Try.func16, Try.ntmps16
        go_wp2_with fail
        rw [← hW, ← hGX]
        clear hW hGX
        rename_i Kc hKc
        refine wp_region_own (by kernel_rfl)
          [.is (.pointer (some ⟨GX, 0, none⟩)),
           .is (.int .i64 (a : Nat)),
           .is (.int .u64 (a : Nat)),
           Own.row Try.prog 5 (highOf a 8),
           .is (.pointer (some ⟨GX, 1, none⟩)),
           .is (.int .i64 (b : Nat)),
           .is (.int .u64 (b : Nat)),
           Own.row Try.prog 5 (highOf b 8),
           Own.row Try.prog 5 ((highOf a 8) ++ (highOf b 8)),
           .is (.int .u8 1),
           Own.row Try.prog 5 [1],
           Own.row Try.prog 5 (((highOf a 8) ++ (highOf b 8)) ++ [1]),
           Own.row Try.prog 5 (((highOf a 8) ++ (highOf b 8)) ++ [1])]
          [[], [0], [1], [2], [], [4], [5], [6], [3, 7], [], [9], [8, 10], [11]]
          [[], [], [], [], [], [], [], [], [3], [], [], [8], [11]]
          [none, none, none, none, none, none, none, none, none, none, none, none, none]
          [false, false, false, true, false, false, false, true, true, false, true, true, true] [false, false, false, true, false, false, false, false, true, false, false, true, false] [] (by kernel_rfl) (by rfl) (by rfl) (by rfl) (by rfl) ?_ ?_
        · refine OwnOps.cons ?_ (OwnOps.cons ?_ (OwnOps.cons ?_ (OwnOps.cons ?_ (OwnOps.cons ?_ (OwnOps.cons ?_ (OwnOps.cons ?_ (OwnOps.cons ?_ (OwnOps.cons ?_ (OwnOps.cons ?_ (OwnOps.cons ?_ (OwnOps.cons ?_ (OwnOps.cons ?_ (OwnOps.nil)))))))))))))
          · intro wz hwz
            clear hKc
            refine withOwn_nil ?_
            refine own_run rfl rfl ?_
            refine OwnRun.mono (X0 := fun _ => False) (fun _ h => h.elim) ?_
            unfold OwnRun
            go_wp2
            exact ⟨rfl, rfl, rfl, Chg.of_below (Below.refl _ _), fun h => by cases h⟩
          · intro wz hwz
            clear hKc
            refine withOwn_is rfl rfl ?_
            refine withOwn_nil ?_
            simp only [Act.put, List.setIfInBounds_toArray, List.set_cons_zero, List.set_cons_succ]
            refine own_run rfl rfl ?_
            refine OwnRun.mono (X0 := fun _ => False) (fun _ h => h.elim) ?_
            unfold OwnRun
            have d0 := (hwz.cell (p := ⟨GX, 0, none⟩) HGX.out).trans HC0.out
            go_wp2
            exact ⟨rfl, rfl, rfl, Chg.of_below (Below.refl _ _), fun h => by cases h⟩
          · intro wz hwz
            clear hKc
            refine withOwn_is rfl rfl ?_
            refine withOwn_nil ?_
            simp only [Act.put, List.setIfInBounds_toArray, List.set_cons_zero, List.set_cons_succ]
            refine own_run rfl rfl ?_
            refine OwnRun.mono (X0 := fun _ => False) (fun _ h => h.elim) ?_
            unfold OwnRun
            go_wp2
            exact ⟨rfl, rfl, rfl, Chg.of_below (Below.refl _ _), fun h => by cases h⟩
          · intro wz hwz
            clear hKc
            refine withOwn_is rfl rfl ?_
            refine withOwn_nil ?_
            simp only [Act.put, List.setIfInBounds_toArray, List.set_cons_zero, List.set_cons_succ]
            refine own_run rfl rfl ?_
            refine OwnRun.mono (X0 := fun _ => False) (fun _ h => h.elim) ?_
            unfold OwnRun
            go_wp2_with fail
            refine (HHA.out wz).mono ?_
            rintro e wq ⟨vq, rfl, hoq, hbq⟩
            have hrq := Own.row_of (P := Try.prog) hoq
            have hkq := row_blk hoq
            clear hoq
            go_wp2
            exact ⟨rfl, hrq, rfl, Chg.of_below hbq, fun _ k hk => .inl (hkq k hk)⟩
          · intro wz hwz
            clear hKc
            refine withOwn_nil ?_
            refine own_run rfl rfl ?_
            refine OwnRun.mono (X0 := fun _ => False) (fun _ h => h.elim) ?_
            unfold OwnRun
            go_wp2
            exact ⟨rfl, rfl, rfl, Chg.of_below (Below.refl _ _), fun h => by cases h⟩
          · intro wz hwz
            clear hKc
            refine withOwn_is rfl rfl ?_
            refine withOwn_nil ?_
            simp only [Act.put, List.setIfInBounds_toArray, List.set_cons_zero, List.set_cons_succ]
            refine own_run rfl rfl ?_
            refine OwnRun.mono (X0 := fun _ => False) (fun _ h => h.elim) ?_
            unfold OwnRun
            have d0 := (hwz.cell (p := ⟨GX, 1, none⟩) HGX.out).trans HC1.out
            go_wp2
            exact ⟨rfl, rfl, rfl, Chg.of_below (Below.refl _ _), fun h => by cases h⟩
          · intro wz hwz
            clear hKc
            refine withOwn_is rfl rfl ?_
            refine withOwn_nil ?_
            simp only [Act.put, List.setIfInBounds_toArray, List.set_cons_zero, List.set_cons_succ]
            refine own_run rfl rfl ?_
            refine OwnRun.mono (X0 := fun _ => False) (fun _ h => h.elim) ?_
            unfold OwnRun
            go_wp2
            exact ⟨rfl, rfl, rfl, Chg.of_below (Below.refl _ _), fun h => by cases h⟩
          · intro wz hwz
            clear hKc
            refine withOwn_is rfl rfl ?_
            refine withOwn_nil ?_
            simp only [Act.put, List.setIfInBounds_toArray, List.set_cons_zero, List.set_cons_succ]
            refine own_run rfl rfl ?_
            refine OwnRun.mono (X0 := fun _ => False) (fun _ h => h.elim) ?_
            unfold OwnRun
            go_wp2_with fail
            refine (HHB.out wz).mono ?_
            rintro e wq ⟨vq, rfl, hoq, hbq⟩
            have hrq := Own.row_of (P := Try.prog) hoq
            have hkq := row_blk hoq
            clear hoq
            go_wp2
            exact ⟨rfl, hrq, rfl, Chg.of_below hbq, fun _ k hk => .inl (hkq k hk)⟩
          · intro wz hwz
            clear hKc
            refine withOwn_own rfl rfl ?_
            intro vv3 hv3 hB3
            refine withOwn_own rfl rfl ?_
            intro vv7 hv7 hB7
            refine withOwn_nil ?_
            simp only [Act.put, List.setIfInBounds_toArray, List.set_cons_zero, List.set_cons_succ]
            refine own_run rfl rfl ?_
            refine OwnRun.mono (X0 := fun k => blkOf vv3 = some k) (fun k hk => ⟨3, by simp, 19, rfl, hk⟩) ?_
            exact own_append byT rfl hv3.1 rfl (Bytes.of_owns hv7.1 (highOf_small _ _) (by rw [highOf_length]; decide)) (by simp [highOf_length]) (fun k hk => hk) rfl
          · intro wz hwz
            clear hKc
            refine withOwn_nil ?_
            refine own_run rfl rfl ?_
            exact own_move rfl (by first | rfl | assumption)
          · intro wz hwz
            clear hKc
            refine withOwn_is rfl rfl ?_
            refine withOwn_nil ?_
            simp only [Act.put, List.setIfInBounds_toArray, List.set_cons_zero, List.set_cons_succ]
            refine own_run rfl rfl ?_
            refine OwnRun.mono (X0 := fun _ => False) (fun _ h => h.elim) ?_
            unfold OwnRun
            go_wp2
            exact ⟨rfl, Own.row_of (P := Try.prog) (row_built wz _ 1), rfl, Chg.of_below ((Below.refl _ _).alloc (Nat.le_refl _) _), fun _ k hk => .inl (row_blk (row_built wz 5 1) k hk)⟩
          · intro wz hwz
            clear hKc
            refine withOwn_own rfl rfl ?_
            intro vv8 hv8 hB8
            refine withOwn_own rfl rfl ?_
            intro vv10 hv10 hB10
            refine withOwn_nil ?_
            simp only [Act.put, List.setIfInBounds_toArray, List.set_cons_zero, List.set_cons_succ]
            refine own_run rfl rfl ?_
            refine OwnRun.mono (X0 := fun k => blkOf vv8 = some k) (fun k hk => ⟨8, by simp, 24, rfl, hk⟩) ?_
            exact own_append byT rfl hv8.1 rfl (Bytes.of_owns hv10.1 (by decide) (by decide)) (by simp [highOf_length]) (fun k hk => hk) rfl
          · intro wz hwz
            clear hKc
            refine withOwn_own rfl rfl ?_
            intro vv11 hv11 hB11
            refine withOwn_nil ?_
            simp only [Act.put, List.setIfInBounds_toArray, List.set_cons_zero, List.set_cons_succ]
            refine own_run rfl rfl ?_
            refine OwnRun.mono (X0 := fun k => blkOf vv11 = some k) (fun k hk => ⟨11, by simp, 27, rfl, hk⟩) ?_
            exact own_pass rfl rfl hv11 (fun k hk => hk)
        intro wz hwz
        refine OwnEnd.is rfl (OwnEnd.is rfl (OwnEnd.is rfl (OwnEnd.dead rfl (fun _ => OwnEnd.is rfl (OwnEnd.is rfl (OwnEnd.is rfl (OwnEnd.own rfl (fun _ _ _ => OwnEnd.dead rfl (fun _ => OwnEnd.is rfl (OwnEnd.own rfl (fun _ _ _ => OwnEnd.dead rfl (fun _ => OwnEnd.own rfl (fun _ _ _ => OwnEnd.nil ?_)))))))))))))
        simp only [Act.put, List.setIfInBounds_toArray, List.set_cons_zero, List.set_cons_succ]
        refine ViaEnd.nil ?_
        rename_i v2 hv2 hB2
        have HR := Lib.hid (row_from hv2.1 hB2)
        have HBZ := Lib.hid (HBW.out.trans (hwz.mono HBW.out.size))
        clear hv2 hB2 hwz
        refine hKc _ _ ?_
        clear hKc Kc
        go_wp2
        go_ret
        exact ⟨_, rfl, by rw [E.out]; exact owns_base HR.out HBW.out.size, HBZ.out⟩
    · have E : Hid (putHd ⟨n, f, tb⟩ = []) := by unfold Hid putHd; rw [if_neg (by intro h; exact h1 ((mayHd_iff _).1 h).2)]
      go_enter Try.func16, Try.ntmps16
      go_wp2
      go_ret
      exact ⟨_, rfl, by rw [E.out]; exact ⟨rfl, .inl ⟨rfl, rfl⟩⟩, HB.out⟩
  · have E : Hid (putHd ⟨n, f, tb⟩ = []) := by unfold Hid putHd; rw [if_neg (by intro h; exact h0 ((mayHd_iff _).1 h).1)]
    go_enter Try.func16, Try.ntmps16
    go_wp2
    go_ret
    exact ⟨_, rfl, by rw [E.out]; exact ⟨rfl, .inl ⟨rfl, rfl⟩⟩, HB.out⟩

set_option maxRecDepth 100000 in
set_option maxHeartbeats 4000000 in
theorem refPutDone_any (f c : Int) (ag : Bool) (w : World) (hf : f ≤ 9223372036854775807) :
    Calls Try.prog 18 #[.agg #[.int .i64 f, .int .i64 c, .bool ag]] w fun z w' => ∃ v', z = .returned v' ∧ w'.ownsRow w.heap.size 5 1 v' (putDn ⟨f, c, ag⟩).length (cellsOf (putDn ⟨f, c, ag⟩)) ∧ Below w.heap.size w w' := by
  have hb := (Below.refl w.heap.size w).alloc (Nat.le_refl _) (.cells #[.int .i64 f, .int .i64 c, .bool ag] 25)
  have HB := Lib.hid hb
  clear hb
  cases hm : mayDn ⟨f, c, ag⟩ with
  | true =>
    obtain ⟨h0, h1, h2, h3⟩ := (mayDn_iff _).1 hm
    dsimp only at h0 h1 h2 h3
    subst h3
    obtain ⟨a, rfl⟩ : ∃ a : Nat, f = a := ⟨f.toNat, by omega⟩
    obtain ⟨b, rfl⟩ : ∃ b : Nat, c = b := ⟨c.toNat, by omega⟩
    have hn' : (a : Int) ≤ 9223372036854775807 := hf
    have E : Hid (putDn ⟨a, b, false⟩ = highOf a 8 ++ highOf b 2) := by
      unfold Hid putDn
      rw [if_pos hm]; rfl
    have HHA : Hid (∀ w, Calls Try.prog 44 #[.int .u64 (a : Nat), .int .i64 8] w fun e w' => ∃ v', e = .returned v' ∧ w'.ownsRow w.heap.size 5 1 v' (highOf a 8).length (cellsOf (highOf a 8)) ∧ Below w.heap.size w w') := fun w => by rw [highOf_length]; exact high_any a 8 w (by omega) (by omega)
    have HHB : Hid (∀ w, Calls Try.prog 44 #[.int .u64 (b : Nat), .int .i64 2] w fun e w' => ∃ v', e = .returned v' ∧ w'.ownsRow w.heap.size 5 1 v' (highOf b 2).length (cellsOf (highOf b 2)) ∧ Below w.heap.size w w') := fun w => by rw [highOf_length]; exact high_any b 2 w (by omega) (by omega)
    have hwa : IntKind.u64.wrap (a : Int) = a := by rw [IntKind.wrap_u64]; omega
    have hwb : IntKind.u64.wrap (b : Int) = b := by rw [IntKind.wrap_u64]; omega
    obtain ⟨W, hW⟩ : ∃ W, W = w.alloc (.cells #[.int .i64 (a : Nat), .int .i64 (b : Nat), .bool false] 25) := ⟨_, rfl⟩
    obtain ⟨GX, hGX⟩ : ∃ G, G = w.heap.size := ⟨_, rfl⟩
    have hcell : W.heap[GX]? = some (.cells #[.int .i64 (a : Nat), .int .i64 (b : Nat), .bool false] 25 (0, 0)) := by rw [hW, hGX]; exact heap_alloc_new w _
    have HGX : Hid (GX < W.heap.size) := (Array.getElem?_eq_some_iff.1 hcell).1
    have HC0 : Hid (W.cell? ⟨GX, 0, none⟩ = some (.int .i64 (a : Nat))) := cells_of hcell 0
    have HC1 : Hid (W.cell? ⟨GX, 1, none⟩ = some (.int .i64 (b : Nat))) := cells_of hcell 1
    have HBW : Hid (Below w.heap.size w W) := by unfold Hid; rw [hW]; exact HB.out
    clear hcell hf hm
    go_enter Try.func18, Try.ntmps18
    go_wp2_with fail
    rw [← hW, ← hGX]
    clear hW hGX
    rename_i Kc hKc
    refine wp_region_own (by kernel_rfl)
      [.is (.pointer (some ⟨GX, 0, none⟩)),
       .is (.int .i64 (a : Nat)),
       .is (.int .u64 (a : Nat)),
       Own.row Try.prog 5 (highOf a 8),
       .is (.pointer (some ⟨GX, 1, none⟩)),
       .is (.int .i64 (b : Nat)),
       .is (.int .u64 (b : Nat)),
       Own.row Try.prog 5 (highOf b 2),
       Own.row Try.prog 5 ((highOf a 8) ++ (highOf b 2)),
       Own.row Try.prog 5 ((highOf a 8) ++ (highOf b 2))]
      [[], [0], [1], [2], [], [4], [5], [6], [3, 7], [8]]
      [[], [], [], [], [], [], [], [], [3], [8]]
      [none, none, none, none, none, none, none, none, none, none]
      [false, false, false, true, false, false, false, true, true, true] [false, false, false, true, false, false, false, false, true, false] [] (by kernel_rfl) (by rfl) (by rfl) (by rfl) (by rfl) ?_ ?_
    · refine OwnOps.cons ?_ (OwnOps.cons ?_ (OwnOps.cons ?_ (OwnOps.cons ?_ (OwnOps.cons ?_ (OwnOps.cons ?_ (OwnOps.cons ?_ (OwnOps.cons ?_ (OwnOps.cons ?_ (OwnOps.cons ?_ (OwnOps.nil))))))))))
      · intro wz hwz
        clear hKc
        refine withOwn_nil ?_
        refine own_run rfl rfl ?_
        refine OwnRun.mono (X0 := fun _ => False) (fun _ h => h.elim) ?_
        unfold OwnRun
        go_wp2
        exact ⟨rfl, rfl, rfl, Chg.of_below (Below.refl _ _), fun h => by cases h⟩
      · intro wz hwz
        clear hKc
        refine withOwn_is rfl rfl ?_
        refine withOwn_nil ?_
        simp only [Act.put, List.setIfInBounds_toArray, List.set_cons_zero, List.set_cons_succ]
        refine own_run rfl rfl ?_
        refine OwnRun.mono (X0 := fun _ => False) (fun _ h => h.elim) ?_
        unfold OwnRun
        have d0 := (hwz.cell (p := ⟨GX, 0, none⟩) HGX.out).trans HC0.out
        go_wp2
        exact ⟨rfl, rfl, rfl, Chg.of_below (Below.refl _ _), fun h => by cases h⟩
      · intro wz hwz
        clear hKc
        refine withOwn_is rfl rfl ?_
        refine withOwn_nil ?_
        simp only [Act.put, List.setIfInBounds_toArray, List.set_cons_zero, List.set_cons_succ]
        refine own_run rfl rfl ?_
        refine OwnRun.mono (X0 := fun _ => False) (fun _ h => h.elim) ?_
        unfold OwnRun
        go_wp2
        exact ⟨rfl, rfl, rfl, Chg.of_below (Below.refl _ _), fun h => by cases h⟩
      · intro wz hwz
        clear hKc
        refine withOwn_is rfl rfl ?_
        refine withOwn_nil ?_
        simp only [Act.put, List.setIfInBounds_toArray, List.set_cons_zero, List.set_cons_succ]
        refine own_run rfl rfl ?_
        refine OwnRun.mono (X0 := fun _ => False) (fun _ h => h.elim) ?_
        unfold OwnRun
        go_wp2_with fail
        refine (HHA.out wz).mono ?_
        rintro e wq ⟨vq, rfl, hoq, hbq⟩
        have hrq := Own.row_of (P := Try.prog) hoq
        have hkq := row_blk hoq
        clear hoq
        go_wp2
        exact ⟨rfl, hrq, rfl, Chg.of_below hbq, fun _ k hk => .inl (hkq k hk)⟩
      · intro wz hwz
        clear hKc
        refine withOwn_nil ?_
        refine own_run rfl rfl ?_
        refine OwnRun.mono (X0 := fun _ => False) (fun _ h => h.elim) ?_
        unfold OwnRun
        go_wp2
        exact ⟨rfl, rfl, rfl, Chg.of_below (Below.refl _ _), fun h => by cases h⟩
      · intro wz hwz
        clear hKc
        refine withOwn_is rfl rfl ?_
        refine withOwn_nil ?_
        simp only [Act.put, List.setIfInBounds_toArray, List.set_cons_zero, List.set_cons_succ]
        refine own_run rfl rfl ?_
        refine OwnRun.mono (X0 := fun _ => False) (fun _ h => h.elim) ?_
        unfold OwnRun
        have d0 := (hwz.cell (p := ⟨GX, 1, none⟩) HGX.out).trans HC1.out
        go_wp2
        exact ⟨rfl, rfl, rfl, Chg.of_below (Below.refl _ _), fun h => by cases h⟩
      · intro wz hwz
        clear hKc
        refine withOwn_is rfl rfl ?_
        refine withOwn_nil ?_
        simp only [Act.put, List.setIfInBounds_toArray, List.set_cons_zero, List.set_cons_succ]
        refine own_run rfl rfl ?_
        refine OwnRun.mono (X0 := fun _ => False) (fun _ h => h.elim) ?_
        unfold OwnRun
        go_wp2
        exact ⟨rfl, rfl, rfl, Chg.of_below (Below.refl _ _), fun h => by cases h⟩
      · intro wz hwz
        clear hKc
        refine withOwn_is rfl rfl ?_
        refine withOwn_nil ?_
        simp only [Act.put, List.setIfInBounds_toArray, List.set_cons_zero, List.set_cons_succ]
        refine own_run rfl rfl ?_
        refine OwnRun.mono (X0 := fun _ => False) (fun _ h => h.elim) ?_
        unfold OwnRun
        go_wp2_with fail
        refine (HHB.out wz).mono ?_
        rintro e wq ⟨vq, rfl, hoq, hbq⟩
        have hrq := Own.row_of (P := Try.prog) hoq
        have hkq := row_blk hoq
        clear hoq
        go_wp2
        exact ⟨rfl, hrq, rfl, Chg.of_below hbq, fun _ k hk => .inl (hkq k hk)⟩
      · intro wz hwz
        clear hKc
        refine withOwn_own rfl rfl ?_
        intro vv3 hv3 hB3
        refine withOwn_own rfl rfl ?_
        intro vv7 hv7 hB7
        refine withOwn_nil ?_
        simp only [Act.put, List.setIfInBounds_toArray, List.set_cons_zero, List.set_cons_succ]
        refine own_run rfl rfl ?_
        refine OwnRun.mono (X0 := fun k => blkOf vv3 = some k) (fun k hk => ⟨3, by simp, 23, rfl, hk⟩) ?_
        exact own_append byT rfl hv3.1 rfl (Bytes.of_owns hv7.1 (highOf_small _ _) (by rw [highOf_length]; decide)) (by simp [highOf_length]) (fun k hk => hk) rfl
      · intro wz hwz
        clear hKc
        refine withOwn_own rfl rfl ?_
        intro vv8 hv8 hB8
        refine withOwn_nil ?_
        simp only [Act.put, List.setIfInBounds_toArray, List.set_cons_zero, List.set_cons_succ]
        refine own_run rfl rfl ?_
        refine OwnRun.mono (X0 := fun k => blkOf vv8 = some k) (fun k hk => ⟨8, by simp, 28, rfl, hk⟩) ?_
        exact own_pass rfl rfl hv8 (fun k hk => hk)
    intro wz hwz
    refine OwnEnd.is rfl (OwnEnd.is rfl (OwnEnd.is rfl (OwnEnd.dead rfl (fun _ => OwnEnd.is rfl (OwnEnd.is rfl (OwnEnd.is rfl (OwnEnd.own rfl (fun _ _ _ => OwnEnd.dead rfl (fun _ => OwnEnd.own rfl (fun _ _ _ => OwnEnd.nil ?_))))))))))
    simp only [Act.put, List.setIfInBounds_toArray, List.set_cons_zero, List.set_cons_succ]
    refine ViaEnd.nil ?_
    rename_i v2 hv2 hB2
    have HR := Lib.hid (row_from hv2.1 hB2)
    have HBZ := Lib.hid (HBW.out.trans (hwz.mono HBW.out.size))
    clear hv2 hB2 hwz
    refine hKc _ _ ?_
    clear hKc Kc
    go_wp2
    go_ret
    exact ⟨_, rfl, by rw [E.out]; exact owns_base HR.out HBW.out.size, HBZ.out⟩
  | false =>
    have E : Hid (putDn ⟨f, c, ag⟩ = []) := by unfold Hid putDn; rw [hm]; rfl
    have HM := Lib.hid hm
    by_cases h0 : 0 ≤ f
    · by_cases h1 : 1 ≤ c
      · by_cases h2 : c ≤ 65535
        · cases ag with
          | false =>
            have := HM.out
            unfold mayDn at this
            simp only [decide_eq_true h0, decide_eq_true h1, decide_eq_true h2, Bool.true_and, Bool.not_false, Bool.and_true] at this
            cases this
          | true =>
            clear hm HM
            go_enter Try.func18, Try.ntmps18
            go_wp2
            go_ret
            exact ⟨_, rfl, by rw [E.out]; exact ⟨rfl, .inl ⟨rfl, rfl⟩⟩, HB.out⟩
        · clear hm HM
          go_enter Try.func18, Try.ntmps18
          go_wp2
          go_ret
          exact ⟨_, rfl, by rw [E.out]; exact ⟨rfl, .inl ⟨rfl, rfl⟩⟩, HB.out⟩
      · clear hm HM
        go_enter Try.func18, Try.ntmps18
        go_wp2
        go_ret
        exact ⟨_, rfl, by rw [E.out]; exact ⟨rfl, .inl ⟨rfl, rfl⟩⟩, HB.out⟩
    · clear hm HM
      go_enter Try.func18, Try.ntmps18
      go_wp2
      go_ret
      exact ⟨_, rfl, by rw [E.out]; exact ⟨rfl, .inl ⟨rfl, rfl⟩⟩, HB.out⟩

set_option maxRecDepth 100000 in
set_option maxHeartbeats 4000000 in
theorem refPutMark_any (t : Int) (v : Value) (m : List Nat) (w : World) (hv : Bytes w v m) (ht : t ≤ 9223372036854775807) :
    Calls Try.prog 20 #[.agg #[.int .i64 t, v]] w fun z w' => ∃ v', z = .returned v' ∧ w'.ownsRow w.heap.size 5 1 v' (putMk ⟨t, m⟩).length (cellsOf (putMk ⟨t, m⟩)) ∧ Below w.heap.size w w' := by
  obtain ⟨p, cap, rfl, _⟩ := hv.any
  have hms := hv.short
  unfold maxLen at hms
  have hb := (Below.refl w.heap.size w).alloc (Nat.le_refl _) (.cells #[.int .i64 t, .slice p m.length cap] 28)
  have HB := Lib.hid hb
  have HDA := Lib.hid (hv.below hb)
  clear hb hv
  obtain ⟨M, hM⟩ : ∃ M, M = m.length := ⟨_, rfl⟩
  have HM := Lib.hid hM
  rw [← hM] at HB HDA hms ⊢
  clear hM
  by_cases h0 : 0 ≤ t
  · by_cases h1 : (M : Int) ≤ 100
    · obtain ⟨a, rfl⟩ : ∃ a : Nat, t = a := ⟨t.toNat, by omega⟩
      have hn' : (a : Int) ≤ 9223372036854775807 := ht
      have E : Hid (putMk ⟨a, m⟩ = highOf a 8 ++ m) := by
        unfold Hid putMk
        rw [if_pos ((mayMk_iff _).2 ⟨h0, by show m.length ≤ 100; have := HM.out; omega⟩)]; rfl
      have HML : Hid ((highOf a 8).length + m.length ≤ 140737488355328) := by unfold Hid; rw [highOf_length]; have := HM.out; omega
      have HHA : Hid (∀ w, Calls Try.prog 44 #[.int .u64 (a : Nat), .int .i64 8] w fun e w' => ∃ v', e = .returned v' ∧ w'.ownsRow w.heap.size 5 1 v' (highOf a 8).length (cellsOf (highOf a 8)) ∧ Below w.heap.size w w') := fun w => by rw [highOf_length]; exact high_any a 8 w (by omega) (by omega)
      have hwa : IntKind.u64.wrap (a : Int) = a := by rw [IntKind.wrap_u64]; omega
      obtain ⟨W, hW⟩ : ∃ W, W = w.alloc (.cells #[.int .i64 (a : Nat), .slice p M cap] 28) := ⟨_, rfl⟩
      obtain ⟨GX, hGX⟩ : ∃ G, G = w.heap.size := ⟨_, rfl⟩
      have hcell : W.heap[GX]? = some (.cells #[.int .i64 (a : Nat), .slice p M cap] 28 (0, 0)) := by rw [hW, hGX]; exact heap_alloc_new w _
      have HGX : Hid (GX < W.heap.size) := (Array.getElem?_eq_some_iff.1 hcell).1
      have HC0 : Hid (W.cell? ⟨GX, 0, none⟩ = some (.int .i64 (a : Nat))) := cells_of hcell 0
      have HC1 : Hid (W.cell? ⟨GX, 1, none⟩ = some (.slice p M cap)) := cells_of hcell 1
      have HBW : Hid (Below w.heap.size w W) := by unfold Hid; rw [hW]; exact HB.out
      have HDW : Hid (Bytes W (.slice p M cap) m) := by unfold Hid; rw [hW]; exact HDA.out
      clear hcell ht HDA HB
      go_enter Try.func20, Try.ntmps20
      go_wp2_with fail
      rw [← hW, ← hGX]
      clear hW hGX
      rename_i Kc hKc
      refine wp_region_own (by kernel_rfl)
        [.is (.pointer (some ⟨GX, 0, none⟩)),
         .is (.int .i64 (a : Nat)),
         .is (.int .u64 (a : Nat)),
         Own.row Try.prog 5 (highOf a 8),
         .is (.pointer (some ⟨GX, 1, none⟩)),
         .is (.slice p M cap),
         Own.row Try.prog 5 ((highOf a 8) ++ m),
         Own.row Try.prog 5 ((highOf a 8) ++ m)]
        [[], [0], [1], [2], [], [4], [3, 5], [6]]
        [[], [], [], [], [], [], [3], [6]]
        [none, none, none, none, none, none, none, none]
        [false, false, false, true, false, false, true, true] [false, false, false, true, false, false, true, false] [] (by kernel_rfl) (by rfl) (by rfl) (by rfl) (by rfl) ?_ ?_
      · refine OwnOps.cons ?_ (OwnOps.cons ?_ (OwnOps.cons ?_ (OwnOps.cons ?_ (OwnOps.cons ?_ (OwnOps.cons ?_ (OwnOps.cons ?_ (OwnOps.cons ?_ (OwnOps.nil))))))))
        · intro wz hwz
          clear hKc
          refine withOwn_nil ?_
          refine own_run rfl rfl ?_
          refine OwnRun.mono (X0 := fun _ => False) (fun _ h => h.elim) ?_
          unfold OwnRun
          go_wp2
          exact ⟨rfl, rfl, rfl, Chg.of_below (Below.refl _ _), fun h => by cases h⟩
        · intro wz hwz
          clear hKc
          refine withOwn_is rfl rfl ?_
          refine withOwn_nil ?_
          simp only [Act.put, List.setIfInBounds_toArray, List.set_cons_zero, List.set_cons_succ]
          refine own_run rfl rfl ?_
          refine OwnRun.mono (X0 := fun _ => False) (fun _ h => h.elim) ?_
          unfold OwnRun
          have d0 := (hwz.cell (p := ⟨GX, 0, none⟩) HGX.out).trans HC0.out
          go_wp2
          exact ⟨rfl, rfl, rfl, Chg.of_below (Below.refl _ _), fun h => by cases h⟩
        · intro wz hwz
          clear hKc
          refine withOwn_is rfl rfl ?_
          refine withOwn_nil ?_
          simp only [Act.put, List.setIfInBounds_toArray, List.set_cons_zero, List.set_cons_succ]
          refine own_run rfl rfl ?_
          refine OwnRun.mono (X0 := fun _ => False) (fun _ h => h.elim) ?_
          unfold OwnRun
          go_wp2
          exact ⟨rfl, rfl, rfl, Chg.of_below (Below.refl _ _), fun h => by cases h⟩
        · intro wz hwz
          clear hKc
          refine withOwn_is rfl rfl ?_
          refine withOwn_nil ?_
          simp only [Act.put, List.setIfInBounds_toArray, List.set_cons_zero, List.set_cons_succ]
          refine own_run rfl rfl ?_
          refine OwnRun.mono (X0 := fun _ => False) (fun _ h => h.elim) ?_
          unfold OwnRun
          go_wp2_with fail
          refine (HHA.out wz).mono ?_
          rintro e wq ⟨vq, rfl, hoq, hbq⟩
          have hrq := Own.row_of (P := Try.prog) hoq
          have hkq := row_blk hoq
          clear hoq
          go_wp2
          exact ⟨rfl, hrq, rfl, Chg.of_below hbq, fun _ k hk => .inl (hkq k hk)⟩
        · intro wz hwz
          clear hKc
          refine withOwn_nil ?_
          refine own_run rfl rfl ?_
          refine OwnRun.mono (X0 := fun _ => False) (fun _ h => h.elim) ?_
          unfold OwnRun
          go_wp2
          exact ⟨rfl, rfl, rfl, Chg.of_below (Below.refl _ _), fun h => by cases h⟩
        · intro wz hwz
          clear hKc
          refine withOwn_is rfl rfl ?_
          refine withOwn_nil ?_
          simp only [Act.put, List.setIfInBounds_toArray, List.set_cons_zero, List.set_cons_succ]
          refine own_run rfl rfl ?_
          refine OwnRun.mono (X0 := fun _ => False) (fun _ h => h.elim) ?_
          unfold OwnRun
          have d0 := (hwz.cell (p := ⟨GX, 1, none⟩) HGX.out).trans HC1.out
          go_wp2
          exact ⟨rfl, rfl, rfl, Chg.of_below (Below.refl _ _), fun h => by cases h⟩
        · intro wz hwz
          clear hKc
          refine withOwn_own rfl rfl ?_
          intro vv3 hv3 hB3
          refine withOwn_is rfl rfl ?_
          refine withOwn_nil ?_
          simp only [Act.put, List.setIfInBounds_toArray, List.set_cons_zero, List.set_cons_succ]
          refine own_run rfl rfl ?_
          refine OwnRun.mono (X0 := fun k => blkOf vv3 = some k) (fun k hk => ⟨3, by simp, 15, rfl, hk⟩) ?_
          exact own_append byT rfl hv3.1 rfl (HDW.out.below hwz) HML.out (fun k hk => hk) rfl
        · intro wz hwz
          clear hKc
          refine withOwn_own rfl rfl ?_
          intro vv6 hv6 hB6
          refine withOwn_nil ?_
          simp only [Act.put, List.setIfInBounds_toArray, List.set_cons_zero, List.set_cons_succ]
          refine own_run rfl rfl ?_
          refine OwnRun.mono (X0 := fun k => blkOf vv6 = some k) (fun k hk => ⟨6, by simp, 18, rfl, hk⟩) ?_
          exact own_pass rfl rfl hv6 (fun k hk => hk)
      intro wz hwz
      refine OwnEnd.is rfl (OwnEnd.is rfl (OwnEnd.is rfl (OwnEnd.dead rfl (fun _ => OwnEnd.is rfl (OwnEnd.is rfl (OwnEnd.dead rfl (fun _ => OwnEnd.own rfl (fun _ _ _ => OwnEnd.nil ?_))))))))
      simp only [Act.put, List.setIfInBounds_toArray, List.set_cons_zero, List.set_cons_succ]
      refine ViaEnd.nil ?_
      rename_i v2 hv2 hB2
      have HR := Lib.hid (row_from hv2.1 hB2)
      have HBZ := Lib.hid (HBW.out.trans (hwz.mono HBW.out.size))
      clear hv2 hB2 hwz
      refine hKc _ _ ?_
      clear hKc Kc
      go_wp2
      go_ret
      exact ⟨_, rfl, by rw [E.out]; exact owns_base HR.out HBW.out.size, HBZ.out⟩
    · have E : Hid (putMk ⟨t, m⟩ = []) := by unfold Hid putMk; rw [if_neg (by intro h; have := ((mayMk_iff _).1 h).2; dsimp only at this; have := HM.out; omega)]
      go_enter Try.func20, Try.ntmps20
      go_wp2
      go_ret
      exact ⟨_, rfl, by rw [E.out]; exact ⟨rfl, .inl ⟨rfl, rfl⟩⟩, HB.out⟩
  · have E : Hid (putMk ⟨t, m⟩ = []) := by unfold Hid putMk; rw [if_neg (by intro h; exact h0 ((mayMk_iff _).1 h).1)]
    go_enter Try.func20, Try.ntmps20
    go_wp2
    go_ret
    exact ⟨_, rfl, by rw [E.out]; exact ⟨rfl, .inl ⟨rfl, rfl⟩⟩, HB.out⟩

set_option maxRecDepth 100000 in
theorem refPutOff_any (n : Int) (w : World) (hn : n ≤ 9223372036854775807) :
    Calls Try.prog 22 #[.int .i64 n] w fun z w' => ∃ v', z = .returned v' ∧ w'.ownsRow w.heap.size 5 1 v' (putOf n).length (cellsOf (putOf n)) ∧ Below w.heap.size w w' := by
  have HS : Hid (Calls Try.prog 53 #[.int .i64 n] w fun z w' => ∃ v', z = .returned v' ∧ w'.ownsRow w.heap.size 5 1 v' (putOf n).length (cellsOf (putOf n)) ∧ Below w.heap.size w w') := by
    unfold Hid
    by_cases h0 : 0 ≤ n
    · obtain ⟨a, rfl⟩ : ∃ a : Nat, n = a := ⟨n.toNat, by omega⟩
      have hn' : (a : Int) ≤ 9223372036854775807 := hn
      have E : Hid (putOf (a : Int) = highOf a 8) := by unfold Hid putOf; rw [if_pos h0]; rfl
      have hwa : IntKind.u64.wrap (a : Int) = a := by rw [IntKind.wrap_u64]; omega
      go_enter Try.func53, Try.ntmps53
      go_wp2_with fail
      refine (high_any a 8 w (by omega) (by omega)).mono ?_
      rintro e w1 ⟨v1, rfl, ho, hb⟩
      have HO := Lib.hid ho; have HB := Lib.hid hb
      clear ho hb
      go_wp2
      go_ret
      exact ⟨_, rfl, by rw [E.out, highOf_length]; exact HO.out, HB.out⟩
    · have E : Hid (putOf n = []) := by unfold Hid putOf; rw [if_neg h0]
      go_enter Try.func53, Try.ntmps53
      go_wp2
      go_ret
      exact ⟨_, rfl, by rw [E.out]; exact ⟨rfl, .inl ⟨rfl, rfl⟩⟩, Below.refl _ _⟩
  go_enter Try.func22, Try.ntmps22
  go_wp2_with fail
  refine HS.out.mono ?_
  rintro e w1 ⟨v1, rfl, ho, hb⟩
  have HO := Lib.hid ho; have HB := Lib.hid hb
  clear ho hb
  go_wp2
  go_ret
  exact ⟨_, rfl, HO.out, HB.out⟩
end Go.Proofs.Ytoegkdfeonkgkaa

