/- Heads in a program: the document's TakeMark and TakeOff. -/
import Derived.Test.YtoegkdfeonkgkaaHdA
import Derived.Test.YtoegkdfeonkgkaaRefO
namespace Go.Proofs.Ytoegkdfeonkgkaa
open Go Go.RowKit Go.By

/-- What TakeOff tells of bytes. -/
def ofN (l : List Nat) : Int := (takeOf l).getD 0
def ofC (l : List Nat) : Int := if takeOf l = none then 2 else 0
def ofV (l : List Nat) : Value := .tuple #[.int .i64 (ofN l), .int .i64 (ofC l)]
theorem ofV_no {l : List Nat} (h : takeOf l = none) : ofV l = .tuple #[.int .i64 0, .int .i64 2] := by
  unfold ofV ofN ofC
  rw [if_pos h, h]; rfl
theorem ofV_yes {l : List Nat} {n : Int} (h : takeOf l = some n) : ofV l = .tuple #[.int .i64 n, .int .i64 0] := by
  unfold ofV ofN ofC
  rw [if_neg (by rw [h]; intro h; cases h), h]; rfl

set_option maxRecDepth 100000 in
theorem refTakeOff_any (v : Value) (l : List Nat) (w : World) (hv : Bytes w v l) :
    Calls Try.prog 14 #[v] w fun z w' => z = .returned (ofV l) ∧ Below w.heap.size w w' := by
  obtain ⟨p, cap, rfl, _⟩ := hv.any
  have hm := hv.short
  unfold maxLen at hm
  by_cases h8 : l.length = 8
  · obtain ⟨b1, o1, rfl, hcell⟩ := hv.spot 0 (by omega)
    have hat := hv.at_lt (i := 0) (by omega)
    rw [Nat.add_zero] at hcell
    have HN := Lib.hid (num_any _ l w hv (by omega))
    by_cases h127 : atB l 0 ≤ 127
    · have E : Hid (takeOf l = some (wrap64 (numOf l : Nat))) := by unfold Hid takeOf; rw [if_pos ⟨h8, h127⟩]
      generalize atB l 0 = x at *
      generalize hX : numOf l = N at *
      rw [h8] at HN ⊢
      have h127i : (x : Int) ≤ 127 := by omega
      clear hv hm h8 hX h127 hat
      go_enter Try.func14, Try.ntmps14
      go_wp2_with fail
      refine HN.out.mono ?_
      rintro e w1 ⟨rfl, rfl⟩
      go_wp2
      go_ret2
      exact ⟨by rw [ofV_yes E.out]; rfl, Below.refl _ _⟩
    · have E : Hid (takeOf l = none) := by unfold Hid takeOf; rw [if_neg (fun h => h127 h.2)]
      generalize atB l 0 = x at *
      rw [h8]
      have h127i : (127 : Int) < x := by omega
      clear hv hm h8 HN h127 hat
      go_enter Try.func14, Try.ntmps14
      go_wp2
      go_ret2
      exact ⟨by rw [ofV_no E.out]; rfl, Below.refl _ _⟩
  · have E : Hid (takeOf l = none) := by unfold Hid takeOf; rw [if_neg (fun h => h8 h.1)]
    have hNi : ((l.length : Int) != 8) = true := by rw [bne_iff_ne]; omega
    clear hv h8
    go_enter Try.func14, Try.ntmps14
    go_wp2
    go_ret2
    exact ⟨by rw [ofV_no E.out]; rfl, Below.refl _ _⟩

/-- What TakeMark tells of bytes. -/
def mkM (l : List Nat) : Mk := (takeMk l).getD ⟨0, []⟩
def mkC (l : List Nat) : Int := if takeMk l = none then 2 else 0
theorem mk_no {l : List Nat} (h : takeMk l = none) : mkM l = ⟨0, []⟩ ∧ mkC l = 2 := by
  unfold mkM mkC
  rw [if_pos h, h]; exact ⟨rfl, rfl⟩
theorem mk_yes {l : List Nat} {m : Mk} (h : takeMk l = some m) : mkM l = m ∧ mkC l = 0 := by
  unfold mkM mkC
  rw [if_neg (by rw [h]; intro h; cases h), h]; exact ⟨rfl, rfl⟩
def TellsMk (w : World) (l : List Nat) (z : Ending) (w' : World) : Prop :=
  (∃ u, z = .returned (.tuple #[.agg #[.int .i64 (mkM l).at_, u], .int .i64 (mkC l)]) ∧ Bytes w' u (mkM l).da) ∧ Below w.heap.size w w'
theorem mark_ret {tmps : Array Value} {w : World} {A : Nat} {cs : Array Value} {x : Value} (hp : tmps.getD 2 undef = .pointer (some ⟨A, 0, none⟩)) (hx : tmps.getD 3 undef = x) (hg : w.heap[A]? = some (.cells cs 28 (0, 0))) (hc : cs.size = 2) :
    (results Try.f12 tmps).run Try.prog w = .ok (.tuple #[.agg cs, x]) w := by
  have hi : (Try.prog.info? 28).map (·.size) = some cs.size := by rw [hc]; kernel_rfl
  have hq : (Try.prog.underlying 28).map (fun d => match d with | .struct _ | .array _ _ => true | _ => false) = some true := by kernel_rfl
  obtain ⟨d, hu, hd⟩ := Option.map_eq_some_iff.1 hq
  rw [results_cell_tmp (p := 2) (u := 3) (ty := 28) (by kernel_rfl), hp, hx]
  have := run_loadVar_row (P := Try.prog) w A 28 28 cs (0, 0) d hg hu (by cases d <;> simp_all) hi
  simp [asAddr, this, Result.andThen]
theorem two_set {w : World} {A : Nat} {t : TypeId} {x0 x1 : Value} (h : w.heap[A]? = some (.cells #[x0, x1] t (0, 0))) (a b : Value) :
    ((w.setCell ⟨A, 0, none⟩ a).setCell ⟨A, 1, none⟩ b).heap[A]? = some (.cells #[a, b] t (0, 0)) :=
  heap_setCell_same _ A 1 _ _ b (heap_setCell_same _ A 0 _ _ a h)
theorem two_below {B : Nat} {w0 w : World} {A : Nat} (h : Below B w0 w) (hB : B ≤ A) (a b : Value) :
    Below B w0 ((w.setCell ⟨A, 0, none⟩ a).setCell ⟨A, 1, none⟩ b) :=
  (h.setCell (p := ⟨A, 0, none⟩) hB _).setCell (p := ⟨A, 1, none⟩) hB _
theorem two_grown (w : World) (A : Nat) (a b : Value) : w.grownBy ((w.setCell ⟨A, 0, none⟩ a).setCell ⟨A, 1, none⟩ b) (some A) :=
  ⟨rfl, rfl, rfl, by simp [World.setCell], fun k _ hne => by
    rw [heap_setCell_other _ _ k _ (fun e => hne (by rw [e])), heap_setCell_other _ _ k _ (fun e => hne (by rw [e]))]⟩

set_option maxRecDepth 100000 in
set_option maxHeartbeats 4000000 in
theorem refTakeMark_any (v : Value) (l : List Nat) (w : World) (hv : Bytes w v l) :
    Calls Try.prog 12 #[v] w (TellsMk w l) := by
  obtain ⟨p, cap, rfl, _⟩ := hv.any
  have hm := hv.short
  unfold maxLen at hm
  have hfail : Hid (takeMk l = none → TellsMk w l (.returned (.tuple #[.agg #[.int .i64 0, .slice none 0 0], .int .i64 2])) (w.alloc (.cells #[.int .i64 0, .slice none 0 0] 28))) := fun h => by
    obtain ⟨e1, e2⟩ := mk_no h
    refine ⟨⟨.slice none 0 0, by rw [e1, e2], by rw [e1]; exact Bytes.nil _⟩, (Below.refl _ _).alloc (Nat.le_refl _) _⟩
  have HX : Hid ((w.alloc (.cells #[.int .i64 0, .slice none 0 0] 28)).heap[w.heap.size]? = some (.cells #[.int .i64 0, .slice none 0 0] 28 (0, 0))) := heap_alloc_new w _
  by_cases h8 : 8 ≤ l.length
  · by_cases h108 : l.length ≤ 108
    · obtain ⟨b1, o1, rfl, hcell0⟩ := hv.spot 0 (by omega)
      have hat := hv.at_lt (i := 0) (by omega)
      by_cases h127 : atB l 0 ≤ 127
      · obtain ⟨w1, hw1⟩ : ∃ W, W = w.alloc (.cells #[.int .i64 0, .slice none 0 0] 28) := ⟨_, rfl⟩
        have hb1 : Below w.heap.size w w1 := by rw [hw1]; exact (Below.refl _ _).alloc (Nat.le_refl _) _
        have hv1 := hv.below hb1
        have hcl : w1.cell? ⟨b1, o1, none⟩ = some (.int .u8 (atB l 0 : Nat)) := by
          obtain ⟨b2, o2, h1, h2⟩ := hv1.spot 0 (by omega)
          simp only [Option.some.injEq, Addr.mk.injEq] at h1
          obtain ⟨rfl, rfl, _⟩ := h1
          exact h2
        obtain ⟨q, c, hr, hq⟩ := tail_run hv1 8 (8 : Int) rfl h8
        have hs0 : ∀ w, (Instr.slice 26 (.slice (some ⟨b1, o1, none⟩) l.length cap) none (some (.int .i64 8)) none).run Try.prog w = .ok (.slice (some ⟨b1, o1, none⟩) 8 cap) w := fun w => upto_runI (some ⟨b1, o1, none⟩) l.length cap 8 8 rfl (by have := hv1.room.2; omega) w
        have hu8 := hv1.upto (n := 8) h8
        have HHU : Hid (∀ W, Bytes W (.slice (some ⟨b1, o1, none⟩) 8 cap) (l.take 8) → Calls Try.prog 28 #[.slice (some ⟨b1, o1, none⟩) 8 cap] W fun e w' => e = .returned (.int .u64 (numOf (l.take 8) : Nat)) ∧ W = w') := fun W h => num_any _ _ W h (by rw [List.length_take]; omega)
        have E : Hid (takeMk l = some ⟨wrap64 (numOf (l.take 8) : Nat), l.drop 8⟩) := by unfold Hid takeMk; rw [if_pos ⟨h8, h108, h127⟩]; rfl
        have hdl : (l.drop 8).length = l.length - 8 := List.length_drop ..
        obtain ⟨R, hR⟩ : ∃ R, R = l.length - 8 := ⟨_, rfl⟩
        rw [← hR] at hr hq hdl
        obtain ⟨LL, hLL⟩ : ∃ R, R = l.length := ⟨_, rfl⟩
        rw [← hLL] at hr hs0 ⊢
        have hl8 : (8 : Int) ≤ LL := by omega
        have hl108 : (LL : Int) ≤ 108 := by omega
        have h127i : ((atB l 0 : Nat) : Int) ≤ 127 := by omega
        have HA1 : Hid (w1.heap[w.heap.size]? = some (.cells #[.int .i64 0, .slice none 0 0] 28 (0, 0))) := by unfold Hid; rw [hw1]; exact HX.out
        have HU := Lib.hid hu8; have HQ := Lib.hid hq; have HB1 := Lib.hid hb1; have HW1 := Lib.hid hw1; have HDL := Lib.hid hdl
        have HRB : Hid (R ≤ 100) := by unfold Hid; omega
        have HOWN : Hid ((w1.alloc (.cells #[] 5)).ownsRow w1.heap.size 5 1 (.slice (some ⟨w1.heap.size, 0, none⟩) 0 0) 0 []) := World.ownsRow_made w1 #[] 0 (Nat.le_refl _) (by decide) rfl
        have hclr := hcl
        rw [hw1] at hclr
        clear hcl
        have HZ : Hid (w1.heap.size ≤ (w1.alloc (.cells #[] 5)).drew.heap.size) := by
          show w1.heap.size ≤ (w1.alloc (.cells #[] 5)).heap.size
          rw [World.size_alloc]; omega
        clear hcell0 hw1 hb1 hv hv1 hu8 hq hm hR hLL hdl h8 h108 h127 hat hfail HX
        generalize atB l 0 = x at *
        generalize numOf (l.take 8) = N1 at *
        obtain ⟨A, hA⟩ : ∃ A, A = w.heap.size := ⟨_, rfl⟩
        have HAA := Lib.hid hA
        rw [← hA] at HA1
        go_enter Try.func12, Try.ntmps12
        go_wp2_with fail
        rw [← HW1.out, ← hA]
        clear hA HW1
        go_region_held3 (fun _ => True) (trivial)
          (first
            | (go_at_call 28
               with_reducible refine (HHU.out _ (HU.out.below (by first | exact (Below.refl _ _).drew | exact ((Below.refl _ _).alloc (Nat.le_refl _) _).drew))).mono ?_
               rintro z w2 ⟨rfl, rfl⟩)
            | (refine step_append_bytes rfl (.tmp 23) (.tmp 25) byT rfl w1.heap.size (.slice (some ⟨w1.heap.size, 0, none⟩) 0 0) 0 [] rfl HOWN.out (.slice q R c) (l.drop 8) rfl (HQ.out.below (((Below.refl _ _).alloc (Nat.le_refl _) _).drew)) (by rw [HDL.out]; have := HRB.out; omega) HZ.out ?_
               intro v2 w2 hown2 hgrow2
               have hown2' : w2.ownsRow w1.heap.size 5 1 v2 (l.drop 8).length (cellsOf (l.drop 8)) := by simpa using hown2
               have hb2 : Below w1.heap.size w1 w2 := (((Below.refl _ _).alloc (Nat.le_refl _) _).drew).grown hgrow2 HZ.out (by simp [Value.ownBlock])
               have hA2 := (hb2.block A (Array.getElem?_eq_some_iff.1 HA1.out).1).trans HA1.out
               have a0 := cells_of hA2 0; have a1 := cells_of hA2 1
               have q0 := free_of hA2 0; have q1 := free_of hA2 1
               obtain ⟨p2, c2, rfl⟩ := shape_of hown2'
               have HO2 := Lib.hid hown2'; have HB2 := Lib.hid hb2; have HA2 := Lib.hid hA2
               clear hown2 hgrow2 hown2' hb2 hA2))
        all_goals
          have hlt : A < w1.heap.size := (Array.getElem?_eq_some_iff.1 HA1.out).1
          have hy2 := owns_bytes HO2.out HQ.out.small HQ.out.short
          have hyx := hy2.kept (two_grown w2 A (.int .i64 (IntKind.i64.wrap (N1 : Int))) (.slice p2 (l.drop 8).length c2)) (.inr (by
            intro h
            have := (HO2.out.lt A h).1
            omega))
          have HYX := Lib.hid hyx
          have HX2 := Lib.hid (two_set HA2.out (.int .i64 (IntKind.i64.wrap (N1 : Int))) (.slice p2 (l.drop 8).length c2))
          have HBX := Lib.hid (two_below (A := A) (HB1.out.trans (HB2.out.mono HB1.out.size)) (Nat.le_of_eq HAA.out.symm) (.int .i64 (IntKind.i64.wrap (N1 : Int))) (.slice p2 (l.drop 8).length c2))
          rw [List.length_drop] at HYX HX2 HBX
          clear hlt hy2 hyx
          go_wp2
          refine bodyPost_ret (mark_ret rfl rfl HX2.out rfl) rfl ?_
          obtain ⟨e1, e2⟩ := mk_yes E.out
          exact ⟨⟨_, by rw [e1, e2, IntWalk.i64_left]; rfl, by rw [e1]; exact HYX.out⟩, HBX.out⟩
      · have E : Hid (takeMk l = none) := by unfold Hid takeMk; rw [if_neg (fun h => h127 h.2.2)]
        rw [Nat.add_zero] at hcell0
        have HF := Lib.hid (hfail.out E.out)
        have hcw : (w.alloc (.cells #[.int .i64 0, .slice none 0 0] 28)).cell? ⟨b1, o1, none⟩ = some (.int .u8 (atB l 0 : Nat)) := ((Below.refl w.heap.size w).alloc (Nat.le_refl _) _).cell (p := ⟨b1, o1, none⟩) (block_lt_of_cell hcell0) |>.trans hcell0
        obtain ⟨LL, hLL⟩ : ∃ R, R = l.length := ⟨_, rfl⟩
        rw [← hLL]
        have hl8 : (8 : Int) ≤ LL := by omega
        have hl108 : (LL : Int) ≤ 108 := by omega
        have h127i : (127 : Int) < ((atB l 0 : Nat) : Int) := by omega
        generalize atB l 0 = x at *
        clear hcell0 hv hm h8 h108 h127 hat hfail hLL
        go_enter Try.func12, Try.ntmps12
        go_wp2
        exact bodyPost_ret (mark_ret rfl rfl HX.out rfl) rfl HF.out
    · have E : Hid (takeMk l = none) := by unfold Hid takeMk; rw [if_neg (fun h => h108 h.2.1)]
      have HF := Lib.hid (hfail.out E.out)
      have hl8 : (8 : Int) ≤ l.length := by omega
      have hl108 : (108 : Int) < l.length := by omega
      clear hv hm h8 h108 hfail
      go_enter Try.func12, Try.ntmps12
      go_wp2
      exact bodyPost_ret (mark_ret rfl rfl HX.out rfl) rfl HF.out
  · have E : Hid (takeMk l = none) := by unfold Hid takeMk; rw [if_neg (fun h => h8 h.1)]
    have HF := Lib.hid (hfail.out E.out)
    have hl8 : (l.length : Int) < 8 := by omega
    clear hv hm h8 hfail
    go_enter Try.func12, Try.ntmps12
    go_wp2
    exact bodyPost_ret (mark_ret rfl rfl HX.out rfl) rfl HF.out
end Go.Proofs.Ytoegkdfeonkgkaa

