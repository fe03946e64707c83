/- Heads in a program: what the document takes. -/
import Derived.Test.YtoegkdfeonkgkaaHdB
import Derived.Deep.RegionHeld
import Derived.Deep.RegionHeld3
import Derived.Deep.RegionWith
import Derived.Laws.ResultCell
import Derived.Laws.Rows
namespace Go.Proofs.Ytoegkdfeonkgkaa
open Go Go.RowKit Go.By

/-- What TakeHead tells of bytes. -/
def hdH (l : List Nat) : Hd := (takeHd l).getD ⟨0, 0, false⟩
def hdC (l : List Nat) : Int := if takeHd l = none then 2 else 0
def hdV (l : List Nat) : Value := .tuple #[.agg #[.int .i64 (hdH l).nx, .int .i64 (hdH l).fi, .bool (hdH l).tb], .int .i64 (hdC l)]
theorem hdV_no {l : List Nat} (h : takeHd l = none) : hdV l = .tuple #[.agg #[.int .i64 0, .int .i64 0, .bool false], .int .i64 2] := by
  unfold hdV hdH hdC
  rw [if_pos h, h]; rfl
theorem hdV_yes {l : List Nat} {h : Hd} (hh : takeHd l = some h) : hdV l = .tuple #[.agg #[.int .i64 h.nx, .int .i64 h.fi, .bool h.tb], .int .i64 0] := by
  unfold hdV hdH hdC
  rw [if_neg (by rw [hh]; intro h; cases h), hh]; rfl
/-- What TakeDone tells of bytes. -/
def dnD (l : List Nat) : Dn := (takeDn l).getD ⟨0, 0, false⟩
def dnC (l : List Nat) : Int := if takeDn l = none then 2 else 0
def dnV (l : List Nat) : Value := .tuple #[.agg #[.int .i64 (dnD l).fi, .int .i64 (dnD l).ct, .bool (dnD l).ag], .int .i64 (dnC l)]
theorem dnV_no {l : List Nat} (h : takeDn l = none) : dnV l = .tuple #[.agg #[.int .i64 0, .int .i64 0, .bool false], .int .i64 2] := by
  unfold dnV dnD dnC
  rw [if_pos h, h]; rfl
theorem dnV_yes {l : List Nat} {h : Dn} (hh : takeDn l = some h) : dnV l = .tuple #[.agg #[.int .i64 h.fi, .int .i64 h.ct, .bool h.ag], .int .i64 0] := by
  unfold dnV dnD dnC
  rw [if_neg (by rw [hh]; intro h; cases h), hh]; rfl
/-- Three cells are laid over a block. -/
theorem three_set {w : World} {A : Nat} {t : TypeId} {x0 x1 x2 : Value} (h : w.heap[A]? = some (.cells #[x0, x1, x2] t (0, 0))) (a b c : Value) :
    (((w.setCell ⟨A, 0, none⟩ a).setCell ⟨A, 1, none⟩ b).setCell ⟨A, 2, none⟩ c).heap[A]? = some (.cells #[a, b, c] t (0, 0)) :=
  heap_setCell_same _ A 2 _ _ c (heap_setCell_same _ A 1 _ _ b (heap_setCell_same _ A 0 _ _ a h))
theorem three_below {B : Nat} {w0 w : World} {A : Nat} (h : Below B w0 w) (hB : B ≤ A) (a b c : Value) :
    Below B w0 (((w.setCell ⟨A, 0, none⟩ a).setCell ⟨A, 1, none⟩ b).setCell ⟨A, 2, none⟩ c) :=
  ((h.setCell (p := ⟨A, 0, none⟩) hB _).setCell (p := ⟨A, 1, none⟩) hB _).setCell (p := ⟨A, 2, none⟩) hB _
theorem head_ret {tmps : Array Value} {w : World} {A : Nat} {cs : Array Value} {x : Value} (hp : tmps.getD 2 undef = .pointer (some ⟨A, 0, none⟩)) (hx : tmps.getD 3 undef = x) (hg : w.heap[A]? = some (.cells cs 23 (0, 0))) (hc : cs.size = 3) :
    (results Try.f8 tmps).run Try.prog w = .ok (.tuple #[.agg cs, x]) w := by
  have hi : (Try.prog.info? 23).map (·.size) = some cs.size := by rw [hc]; kernel_rfl
  have hq : (Try.prog.underlying 23).map (fun d => match d with | .struct _ | .array _ _ => true | _ => false) = some true := by kernel_rfl
  obtain ⟨d, hu, hd⟩ := Option.map_eq_some_iff.1 hq
  rw [results_cell_tmp (p := 2) (u := 3) (ty := 23) (by kernel_rfl), hp, hx]
  have := run_loadVar_row (P := Try.prog) w A 23 23 cs (0, 0) d hg hu (by cases d <;> simp_all) hi
  simp [asAddr, this, Result.andThen]
theorem done_ret {tmps : Array Value} {w : World} {A : Nat} {cs : Array Value} {x : Value} (hp : tmps.getD 2 undef = .pointer (some ⟨A, 0, none⟩)) (hx : tmps.getD 3 undef = x) (hg : w.heap[A]? = some (.cells cs 25 (0, 0))) (hc : cs.size = 3) :
    (results Try.f10 tmps).run Try.prog w = .ok (.tuple #[.agg cs, x]) w := by
  have hi : (Try.prog.info? 25).map (·.size) = some cs.size := by rw [hc]; kernel_rfl
  have hq : (Try.prog.underlying 25).map (fun d => match d with | .struct _ | .array _ _ => true | _ => false) = some true := by kernel_rfl
  obtain ⟨d, hu, hd⟩ := Option.map_eq_some_iff.1 hq
  rw [results_cell_tmp (p := 2) (u := 3) (ty := 25) (by kernel_rfl), hp, hx]
  have := run_loadVar_row (P := Try.prog) w A 25 25 cs (0, 0) d hg hu (by cases d <;> simp_all) hi
  simp [asAddr, this, Result.andThen]

set_option maxRecDepth 100000 in
set_option maxHeartbeats 8000000 in
theorem refTakeHead_any (v : Value) (l : List Nat) (w : World) (hv : Bytes w v l) :
    Calls Try.prog 8 #[v] w fun z w' => z = .returned (hdV l) ∧ Below w.heap.size w w' := by
  obtain ⟨p, cap, rfl, _⟩ := hv.any
  have hm := hv.short
  unfold maxLen at hm
  obtain ⟨w1, hw1⟩ : ∃ W, W = w.alloc (.cells #[.int .i64 0, .int .i64 0, .bool false] 23) := ⟨_, rfl⟩
  have hb1 : Below w.heap.size w w1 := by rw [hw1]; exact (Below.refl _ _).alloc (Nat.le_refl _) _
  have ha1 : w1.heap[w.heap.size]? = some (.cells #[.int .i64 0, .int .i64 0, .bool false] 23 (0, 0)) := by rw [hw1]; exact heap_alloc_new w _
  obtain ⟨A, hA⟩ : ∃ A, A = w.heap.size := ⟨_, rfl⟩
  by_cases hN : l.length = 17
  · have hs0 : ∀ w, (Instr.slice 26 (.slice p 17 cap) none (some (.int .i64 8)) none).run Try.prog w = .ok (.slice p 8 cap) w := fun w => upto_runI p 17 cap 8 8 rfl (by have := hv.room.2; omega) w
    have hv1 := hv.below hb1
    obtain ⟨q, c, hr, hq⟩ := piece_run (i := 8) (n := 8) hv1 (by omega)
    rw [hN] at hr
    have hr' : ∀ w0, (Instr.slice 26 (.slice p 17 cap) (some (.int .i64 8)) (some (.int .i64 16)) none).run Try.prog w0 = .ok (.slice q 8 c) w0 := fun w0 => by simpa using hr w0
    have hu8 := hv1.upto (n := 8) (by omega)
    have hsp := hv1.spot 16 (by omega)
    have hat := hv1.at_lt (i := 16) (by omega)
    obtain ⟨b1, o1, rfl, hcell⟩ := hsp
    have HHU : Hid (∀ W, Bytes W (.slice (some ⟨b1, o1, none⟩) 8 cap) (l.take 8) → Calls Try.prog 28 #[.slice (some ⟨b1, o1, none⟩) 8 cap] W fun e w' => e = .returned (.int .u64 (numOf (l.take 8) : Nat)) ∧ W = w') := fun W h => num_any _ _ W h (by rw [List.length_take]; omega)
    have HHQ : Hid (∀ W, Bytes W (.slice q 8 c) (pc l 8 8) → Calls Try.prog 28 #[.slice q 8 c] W fun e w' => e = .returned (.int .u64 (numOf (pc l 8 8) : Nat)) ∧ W = w') := fun W h => num_any _ _ W h (by unfold pc; rw [List.length_take]; omega)
    have HQ := Lib.hid hq; have HU := Lib.hid hu8; have HA1 := Lib.hid ha1; have HB1 := Lib.hid hb1; have HW1 := Lib.hid hw1
    have HL1 : Hid (Bytes w1 (.slice (some ⟨b1, o1, none⟩) 17 cap) l) := by unfold Hid; rw [← hN]; exact hv1
    have HLL := Lib.hid hN
    have HRD : Hid (rdHd l = ⟨wrap64 (numOf (l.take 8) : Nat), wrap64 (numOf (pc l 8 8) : Nat), decide (atB l 16 = 1)⟩) := rfl
    have HAA := Lib.hid hA
    rw [hN]
    clear hq hu8 ha1 hb1 hw1 hm hN hv hv1 hr
    generalize numOf (l.take 8) = N1 at *
    generalize numOf (pc l 8 8) = N2 at *
    generalize hx : atB l 16 = x at *
    have hcl : w1.cell? ⟨b1, o1 + 16, none⟩ = some (.int .u8 (x : Nat)) := hcell
    have hxb : ((x : Int) == 1) = decide (x = 1) := by rw [Bool.eq_iff_iff]; simp; omega
    have HXB := Lib.hid hxb
    clear hcell hx hxb
    go_enter Try.func8, Try.ntmps8
    go_wp2_with fail
    rw [← HW1.out, ← hA]
    clear hA
    rename_i Kc hKc
    obtain ⟨Q1, hQ1⟩ : ∃ Q, Q = IntKind.i64.wrap (N1 : Int) := ⟨_, rfl⟩
    obtain ⟨Q2, hQ2⟩ : ∃ Q, Q = IntKind.i64.wrap (N2 : Int) := ⟨_, rfl⟩
    have HT : Hid (Kc ⟨#[.slice (some ⟨b1, o1, none⟩) 17 cap, undef, .pointer (some ⟨A, 0, none⟩), .int .i64 0, .pointer (some ⟨w1.heap.size, 0, none⟩), .slice (some ⟨b1, o1, none⟩) 17 cap, .int .i64 17, .bool false, undef, .slice (some ⟨b1, o1, none⟩) 17 cap, .slice (some ⟨b1, o1, none⟩) 8 cap, .int .u64 (N1 : Nat), .int .i64 Q1, .slice (some ⟨b1, o1, none⟩) 17 cap, .slice q 8 c, .int .u64 (N2 : Nat), .int .i64 Q2, .slice (some ⟨b1, o1, none⟩) 17 cap, .pointer (some ⟨b1, o1 + 16, none⟩), .int .u8 (x : Nat), .bool ((x : Int) == 1), .agg #[.int .i64 Q1, .int .i64 Q2, .bool ((x : Int) == 1)], undef, undef, undef, undef, undef, undef, undef, undef], []⟩ (w1.alloc (.cells #[.int .i64 Q1, .int .i64 Q2, .bool ((x : Int) == 1)] 23)).drew) := by
      unfold Hid
      have hq1 : Q1 = wrap64 (N1 : Int) := by rw [hQ1]; exact IntWalk.i64_left _
      have hq2 : Q2 = wrap64 (N2 : Int) := by rw [hQ2]; exact IntWalk.i64_left _
      rw [HXB.out]
      generalize hTB : decide (x = 1) = TB at *
      have hrd : rdHd l = ⟨Q1, Q2, TB⟩ := by rw [HRD.out, hq1, hq2]
      have hQmax : Q1 ≤ 9223372036854775807 := by rw [hq1]; unfold wrap64; omega
      clear hq1 hq2 hQ1 hQ2 hTB HXB
      obtain ⟨W, hW⟩ : ∃ W, W = (w1.alloc (.cells #[.int .i64 Q1, .int .i64 Q2, .bool TB] 23)).drew := ⟨_, rfl⟩
      rw [← hW]
      have hbw : Below w1.heap.size w1 W := by rw [hW]; exact ((Below.refl _ _).alloc (Nat.le_refl _) _).drew
      obtain ⟨G4, hG4⟩ : ∃ G, G = w1.heap.size := ⟨_, rfl⟩
      rw [← hG4]
      have hgc : W.heap[G4]? = some (.cells #[.int .i64 Q1, .int .i64 Q2, .bool TB] 23 (0, 0)) := by rw [hW, hG4]; exact heap_alloc_new w1 _
      have HG4 : Hid (G4 < W.heap.size) := (Array.getElem?_eq_some_iff.1 hgc).1
      have HD0 : Hid (W.cell? ⟨G4, 0, none⟩ = some (.int .i64 Q1)) := cells_of hgc 0
      have HD1 : Hid (W.cell? ⟨G4, 1, none⟩ = some (.int .i64 Q2)) := cells_of hgc 1
      have HD2 : Hid (W.cell? ⟨G4, 2, none⟩ = some (.bool TB)) := cells_of hgc 2
      have HL := Lib.hid (HL1.out.below hbw)
      have HAW : Hid (W.heap[A]? = some (.cells #[.int .i64 0, .int .i64 0, .bool false] 23 (0, 0))) := (hbw.block A (by have := (Array.getElem?_eq_some_iff.1 HA1.out).1; rw [← HAA.out] at this; exact this)).trans (by rw [HAA.out]; exact HA1.out)
      have HBW : Hid (Below w.heap.size w W) := HB1.out.trans (hbw.mono HB1.out.size)
      have HGC := Lib.hid hgc
      have HPH := Lib.hid (fun wz => refPutHead_any Q1 Q2 TB wz hQmax)
      have HRL := Lib.hid hrd
      clear hW hbw hG4 hgc hrd hQmax HL1 HA1 HU HQ HHU HHQ hs0 hr' HRD hcl HB1 HW1
      generalize (some ⟨b1, o1, none⟩ : Option Addr) = p at *
      refine hKc _ _ ?_
      clear hKc Kc
      by_cases hpl : putHd (rdHd l) = l
      · have E : Hid (takeHd l = some ⟨Q1, Q2, TB⟩) := by unfold Hid takeHd; rw [if_pos ⟨HLL.out, hpl⟩, HRL.out]
        have HP : Hid (putHd ⟨Q1, Q2, TB⟩ = l) := by unfold Hid; rw [← HRL.out]; exact hpl
        clear hpl
        go_wp2_with fail
        rename_i Kc hKc
        refine wp_region_own (by kernel_rfl)
          [.is (.agg #[.int .i64 Q1, .int .i64 Q2, .bool TB]),
           Own.row Try.prog 5 (putHd ⟨Q1, Q2, TB⟩),
           .is (.string (strOf l)),
           .is (.slice p 17 cap),
           .is (.string (strOf l)),
           .is (.bool false)]
          [[], [0], [1], [], [3], [2, 4]]
          [[], [], [], [], [], []]
          [none, none, none, none, none, none]
          [false, true, false, false, false, false] [false, false, false, false, false, false] [] (by kernel_rfl) (by rfl) (by rfl) (by rfl) (by rfl) ?_ ?_
        · refine OwnOps.cons ?_ (OwnOps.cons ?_ (OwnOps.cons ?_ (OwnOps.cons ?_ (OwnOps.cons ?_ (OwnOps.cons ?_ (OwnOps.nil))))))
          · intro wz hwz
            clear hKc
            refine withOwn_nil ?_
            refine own_run rfl rfl ?_
            refine OwnRun.mono (X0 := fun _ => False) (fun _ h => h.elim) ?_
            unfold OwnRun
            have d0 := (hwz.cell (p := ⟨G4, 0, none⟩) HG4.out).trans HD0.out
            have d1 := (hwz.cell (p := ⟨G4, 1, none⟩) HG4.out).trans HD1.out
            have d2 := (hwz.cell (p := ⟨G4, 2, none⟩) HG4.out).trans HD2.out
            go_wp2
            exact ⟨rfl, rfl, rfl, Chg.of_below (Below.refl _ _), fun h => by cases h⟩
          · intro wz hwz
            clear hKc
            refine withOwn_is rfl rfl ?_
            refine withOwn_nil ?_
            simp only [Act.put, List.setIfInBounds_toArray, List.set_cons_zero, List.set_cons_succ]
            refine own_run rfl rfl ?_
            refine OwnRun.mono (X0 := fun _ => False) (fun _ h => h.elim) ?_
            unfold OwnRun
            go_wp2_with fail
            refine (HPH.out wz).mono ?_
            rintro e wq ⟨vq, rfl, hoq, hbq⟩
            have hrq := Own.row_of (P := Try.prog) hoq
            have hkq := row_blk hoq
            clear hoq
            go_wp2
            exact ⟨rfl, hrq, rfl, Chg.of_below hbq, fun _ k hk => .inl (hkq k hk)⟩
          · intro wz hwz
            clear hKc
            refine withOwn_own rfl rfl ?_
            intro vv1 hv1 hB1
            refine withOwn_nil ?_
            simp only [Act.put, List.setIfInBounds_toArray, List.set_cons_zero, List.set_cons_succ]
            refine own_run rfl rfl ?_
            refine OwnRun.mono (X0 := fun _ => False) (fun _ h => h.elim) ?_
            obtain ⟨pv, cv, hvv⟩ := row_shape hv1.1
            have hcvv := (Bytes.of_owns hv1.1 (putHd_small _) (by have := putHd_length ⟨Q1, Q2, TB⟩; unfold maxLen; omega)).toString (P := Try.prog) byT (d := 9) (by kernel_rfl)
            rw [HP.out] at hcvv
            subst hvv
            unfold OwnRun
            go_wp2
            exact ⟨rfl, rfl, rfl, Chg.of_below (Below.refl _ _), fun h => by cases h⟩
          · intro wz hwz
            clear hKc
            refine withOwn_nil ?_
            refine own_run rfl rfl ?_
            exact own_move rfl (by first | rfl | assumption)
          · intro wz hwz
            clear hKc
            refine withOwn_is rfl rfl ?_
            refine withOwn_nil ?_
            simp only [Act.put, List.setIfInBounds_toArray, List.set_cons_zero, List.set_cons_succ]
            refine own_run rfl rfl ?_
            refine OwnRun.mono (X0 := fun _ => False) (fun _ h => h.elim) ?_
            have hcl := (HL.out.below hwz).toString (P := Try.prog) byT (d := 9) (by kernel_rfl)
            unfold OwnRun
            go_wp2
            exact ⟨rfl, rfl, rfl, Chg.of_below (Below.refl _ _), fun h => by cases h⟩
          · intro wz hwz
            clear hKc
            refine withOwn_is rfl rfl ?_
            refine withOwn_is rfl rfl ?_
            refine withOwn_nil ?_
            simp only [Act.put, List.setIfInBounds_toArray, List.set_cons_zero, List.set_cons_succ]
            refine own_run rfl rfl ?_
            refine OwnRun.mono (X0 := fun _ => False) (fun _ h => h.elim) ?_
            unfold OwnRun
            go_wp2
            exact ⟨rfl, rfl, rfl, Chg.of_below (Below.refl _ _), fun h => by cases h⟩
        intro wz hwz
        refine OwnEnd.is rfl (OwnEnd.own rfl (fun _ _ _ => OwnEnd.is rfl (OwnEnd.is rfl (OwnEnd.is rfl (OwnEnd.is rfl (OwnEnd.nil ?_))))))
        simp only [Act.put, List.setIfInBounds_toArray, List.set_cons_zero, List.set_cons_succ]
        refine ViaEnd.nil ?_
        have HBZ := Lib.hid (HBW.out.trans (hwz.mono HBW.out.size))
        have hAZ := (hwz.block A (Array.getElem?_eq_some_iff.1 HAW.out).1).trans HAW.out
        have hGZ := (hwz.block G4 HG4.out).trans HGC.out
        have a0 := cells_of hAZ 0; have a1 := cells_of hAZ 1; have a2 := cells_of hAZ 2
        have q0 := free_of hAZ 0; have q1 := free_of hAZ 1; have q2 := free_of hAZ 2
        have g0 := cells_of hGZ 0; have g1 := cells_of hGZ 1; have g2 := cells_of hGZ 2
        have HX := Lib.hid (three_set hAZ (.int .i64 Q1) (.int .i64 Q2) (.bool TB))
        have HBX := Lib.hid (three_below (A := A) HBZ.out (Nat.le_of_eq HAA.out.symm) (.int .i64 Q1) (.int .i64 Q2) (.bool TB))
        clear hAZ hGZ hwz
        refine hKc _ _ ?_
        clear hKc Kc
        go_wp2
        refine bodyPost_ret (head_ret rfl rfl HX.out rfl) rfl ?_
        exact ⟨by rw [hdV_yes E.out]; rfl, HBX.out⟩
      · have E : Hid (takeHd l = none) := by unfold Hid takeHd; rw [if_neg (fun h => hpl h.2)]
        have HSM : Hid (∀ c ∈ l, c < 256) := HL.out.small
        have hne : ((strOf (putHd ⟨Q1, Q2, TB⟩)).toList == (strOf l).toList) = false := by
          rw [eq_str, natsOf_strOf (putHd_small _), natsOf_strOf HSM.out, decide_eq_false]
          rw [← HRL.out]; exact hpl
        have HNE := Lib.hid hne
        clear hpl hne
        go_wp2_with fail
        rename_i Kc hKc
        refine wp_region_own (by kernel_rfl)
          [.is (.agg #[.int .i64 Q1, .int .i64 Q2, .bool TB]),
           Own.row Try.prog 5 (putHd ⟨Q1, Q2, TB⟩),
           .is (.string (strOf (putHd ⟨Q1, Q2, TB⟩))),
           .is (.slice p 17 cap),
           .is (.string (strOf l)),
           .is (.bool true)]
          [[], [0], [1], [], [3], [2, 4]]
          [[], [], [], [], [], []]
          [none, none, none, none, none, none]
          [false, true, false, false, false, false] [false, false, false, false, false, false] [] (by kernel_rfl) (by rfl) (by rfl) (by rfl) (by rfl) ?_ ?_
        · refine OwnOps.cons ?_ (OwnOps.cons ?_ (OwnOps.cons ?_ (OwnOps.cons ?_ (OwnOps.cons ?_ (OwnOps.cons ?_ (OwnOps.nil))))))
          · intro wz hwz
            clear hKc
            refine withOwn_nil ?_
            refine own_run rfl rfl ?_
            refine OwnRun.mono (X0 := fun _ => False) (fun _ h => h.elim) ?_
            unfold OwnRun
            have d0 := (hwz.cell (p := ⟨G4, 0, none⟩) HG4.out).trans HD0.out
            have d1 := (hwz.cell (p := ⟨G4, 1, none⟩) HG4.out).trans HD1.out
            have d2 := (hwz.cell (p := ⟨G4, 2, none⟩) HG4.out).trans HD2.out
            go_wp2
            exact ⟨rfl, rfl, rfl, Chg.of_below (Below.refl _ _), fun h => by cases h⟩
          · intro wz hwz
            clear hKc
            refine withOwn_is rfl rfl ?_
            refine withOwn_nil ?_
            simp only [Act.put, List.setIfInBounds_toArray, List.set_cons_zero, List.set_cons_succ]
            refine own_run rfl rfl ?_
            refine OwnRun.mono (X0 := fun _ => False) (fun _ h => h.elim) ?_
            unfold OwnRun
            go_wp2_with fail
            refine (HPH.out wz).mono ?_
            rintro e wq ⟨vq, rfl, hoq, hbq⟩
            have hrq := Own.row_of (P := Try.prog) hoq
            have hkq := row_blk hoq
            clear hoq
            go_wp2
            exact ⟨rfl, hrq, rfl, Chg.of_below hbq, fun _ k hk => .inl (hkq k hk)⟩
          · intro wz hwz
            clear hKc
            refine withOwn_own rfl rfl ?_
            intro vv1 hv1 hB1
            refine withOwn_nil ?_
            simp only [Act.put, List.setIfInBounds_toArray, List.set_cons_zero, List.set_cons_succ]
            refine own_run rfl rfl ?_
            refine OwnRun.mono (X0 := fun _ => False) (fun _ h => h.elim) ?_
            obtain ⟨pv, cv, hvv⟩ := row_shape hv1.1
            have hcvv := (Bytes.of_owns hv1.1 (putHd_small _) (by have := putHd_length ⟨Q1, Q2, TB⟩; unfold maxLen; omega)).toString (P := Try.prog) byT (d := 9) (by kernel_rfl)
            subst hvv
            unfold OwnRun
            go_wp2
            exact ⟨rfl, rfl, rfl, Chg.of_below (Below.refl _ _), fun h => by cases h⟩
          · intro wz hwz
            clear hKc
            refine withOwn_nil ?_
            refine own_run rfl rfl ?_
            exact own_move rfl (by first | rfl | assumption)
          · intro wz hwz
            clear hKc
            refine withOwn_is rfl rfl ?_
            refine withOwn_nil ?_
            simp only [Act.put, List.setIfInBounds_toArray, List.set_cons_zero, List.set_cons_succ]
            refine own_run rfl rfl ?_
            refine OwnRun.mono (X0 := fun _ => False) (fun _ h => h.elim) ?_
            have hcl := (HL.out.below hwz).toString (P := Try.prog) byT (d := 9) (by kernel_rfl)
            unfold OwnRun
            go_wp2
            exact ⟨rfl, rfl, rfl, Chg.of_below (Below.refl _ _), fun h => by cases h⟩
          · intro wz hwz
            clear hKc
            refine withOwn_is rfl rfl ?_
            refine withOwn_is rfl rfl ?_
            refine withOwn_nil ?_
            simp only [Act.put, List.setIfInBounds_toArray, List.set_cons_zero, List.set_cons_succ]
            refine own_run rfl rfl ?_
            refine OwnRun.mono (X0 := fun _ => False) (fun _ h => h.elim) ?_
            unfold OwnRun
            have hne := HNE.out
            go_wp2
            exact ⟨rfl, rfl, rfl, Chg.of_below (Below.refl _ _), fun h => by cases h⟩
        intro wz hwz
        refine OwnEnd.is rfl (OwnEnd.own rfl (fun _ _ _ => OwnEnd.is rfl (OwnEnd.is rfl (OwnEnd.is rfl (OwnEnd.is rfl (OwnEnd.nil ?_))))))
        simp only [Act.put, List.setIfInBounds_toArray, List.set_cons_zero, List.set_cons_succ]
        refine ViaEnd.nil ?_
        have HBZ := Lib.hid (HBW.out.trans (hwz.mono HBW.out.size))
        have hAZ := (hwz.block A (Array.getElem?_eq_some_iff.1 HAW.out).1).trans HAW.out
        have a0 := cells_of hAZ 0; have a1 := cells_of hAZ 1; have a2 := cells_of hAZ 2
        have q0 := free_of hAZ 0; have q1 := free_of hAZ 1; have q2 := free_of hAZ 2
        have HX := Lib.hid (three_set hAZ (.int .i64 0) (.int .i64 0) (.bool false))
        have HBX := Lib.hid (three_below (A := A) HBZ.out (Nat.le_of_eq HAA.out.symm) (.int .i64 0) (.int .i64 0) (.bool false))
        clear hAZ hwz
        refine hKc _ _ ?_
        clear hKc Kc
        go_wp2
        refine bodyPost_ret (head_ret rfl rfl HX.out rfl) rfl ?_
        exact ⟨by rw [hdV_no E.out]; rfl, HBX.out⟩
    go_region_held3 (fun w' => w'.cell? ⟨b1, o1 + 16, none⟩ = some (.int .u8 (x : Nat))) (go_keep)
      (first
        | (go_at_call 28
           with_reducible refine (HHU.out _ (HU.out.below (by first | exact (Below.refl _ _).drew | exact ((Below.refl _ _).alloc (Nat.le_refl _) _).drew))).mono ?_
           rintro z w2 ⟨rfl, rfl⟩)
        | (go_at_call 28
           with_reducible refine (HHQ.out _ (HQ.out.below (by first | exact (Below.refl _ _).drew | exact ((Below.refl _ _).alloc (Nat.le_refl _) _).drew))).mono ?_
           rintro z w2 ⟨rfl, rfl⟩))
    all_goals (subst hQ1 hQ2; exact HT.out)
  · have E : Hid (takeHd l = none) := by unfold Hid takeHd; rw [if_neg (fun h => hN h.1)]
    have hNi : ((l.length : Int) == 17) = false := by rw [beq_eq_false_iff_ne]; omega
    have HX : Hid ((w.alloc (.cells #[.int .i64 0, .int .i64 0, .bool false] 23)).heap[w.heap.size]? = some (.cells #[.int .i64 0, .int .i64 0, .bool false] 23 (0, 0))) := heap_alloc_new w _
    have HBX : Hid (Below w.heap.size w (w.alloc (.cells #[.int .i64 0, .int .i64 0, .bool false] 23))) := (Below.refl _ _).alloc (Nat.le_refl _) _
    clear hv ha1 hb1 hN hw1 hA
    go_enter Try.func8, Try.ntmps8
    go_wp2
    refine bodyPost_ret (head_ret rfl rfl HX.out rfl) rfl ?_
    exact ⟨by rw [hdV_no E.out]; rfl, HBX.out⟩
end Go.Proofs.Ytoegkdfeonkgkaa

