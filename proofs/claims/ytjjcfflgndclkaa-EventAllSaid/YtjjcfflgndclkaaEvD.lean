/- Events in a program: the document's Take. -/
import Derived.Test.YtjjcfflgndclkaaEvDP
namespace Go.Proofs.Ytjjcfflgndclkaa
open Go Go.RowKit Go.By

theorem ev_ret {tmps : Array Value} {w : World} {A : Nat} {cs : Array Value} {x : Value} (hp : tmps.getD 2 undef = .pointer (some ⟨A, 0, none⟩)) (hx : tmps.getD 3 undef = x) (hg : w.heap[A]? = some (.cells cs 24 (0, 0))) (hc : cs.size = 5) :
    (results Try.f9 tmps).run Try.prog w = .ok (.tuple #[.agg cs, x]) w := by
  have hi : (Try.prog.info? 24).map (·.size) = some cs.size := by rw [hc]; kernel_rfl
  have hq : (Try.prog.underlying 24).map (fun d => match d with | .struct _ | .array _ _ => true | _ => false) = some true := by kernel_rfl
  obtain ⟨d, hu, hd⟩ := Option.map_eq_some_iff.1 hq
  rw [results_cell_tmp (p := 2) (u := 3) (ty := 24) (by kernel_rfl), hp, hx]
  have := run_loadVar_row (P := Try.prog) w A 24 24 cs (0, 0) d hg hu (by cases d <;> simp_all) hi
  simp [asAddr, this, Result.andThen]

set_option maxRecDepth 100000 in
set_option maxHeartbeats 16000000 in
theorem refTakeEv_any (v : Value) (l : List Nat) (w : World) (hv : Bytes w v l) (hl : l.length ≤ 1000000) :
    Calls Try.prog 9 #[v] w fun z w' => ((takeEv l = none ∧ z = .returned (.tuple #[evVal 0 0 ⟨#[]⟩ ⟨#[]⟩ (.slice none 0 0), .int .i64 2])) ∨
      ∃ ev x q r s t u, takeEv l = some ev ∧ z = .returned (.tuple #[x, .int .i64 0]) ∧ IsEv w' x ev q r s t u) ∧ Below w.heap.size w w' := by
  obtain ⟨p, cap, hveq⟩ : ∃ p cap, v = .slice p l.length cap := let ⟨p, cap, h, _⟩ := hv.any; ⟨p, cap, h⟩
  subst hveq
  have HV := Lib.hid hv
  clear hv
  go_enter Try.func9, Try.ntmps9
  go_wp2_with fail
  obtain ⟨W1, hW1⟩ : ∃ W, W = (w.alloc (.cells #[.int .i64 0, .string ⟨#[]⟩, .int .i64 0, .string ⟨#[]⟩, .slice none 0 0] 24)).alloc (.cells #[.slice p l.length cap, .bool false] 43) := ⟨_, rfl⟩
  rw [← hW1]
  have hB1 : Below w.heap.size w W1 := by rw [hW1]; exact ((Below.refl _ _).alloc (Nat.le_refl _) _).alloc (by simp) _
  have hz1 : W1.heap.size = w.heap.size + 2 := by rw [hW1]; simp
  have ha1 : W1.heap[w.heap.size]? = some (.cells #[.int .i64 0, .string ⟨#[]⟩, .int .i64 0, .string ⟨#[]⟩, .slice none 0 0] 24 (0, 0)) := by
    rw [hW1, Below.heap_alloc _ _ _ (by simp)]
    exact heap_alloc_new w _
  have hg1 : W1.heap[w.heap.size + 1]? = some (.cells #[.slice p l.length cap, .bool false] 43 (0, 0)) := by
    have := heap_alloc_new (w.alloc (.cells #[.int .i64 0, .string ⟨#[]⟩, .int .i64 0, .string ⟨#[]⟩, .slice none 0 0] 24)) (.cells #[.slice p l.length cap, .bool false] 43)
    rw [World.size_alloc] at this
    rw [hW1]; exact this
  have hr1 : RdIs W1 (w.heap.size + 1) l false := ⟨_, hg1, HV.out.below hB1⟩
  obtain ⟨A, hA⟩ : ∃ A, A = w.heap.size := ⟨_, rfl⟩
  obtain ⟨G, hG⟩ : ∃ G, G = w.heap.size + 1 := ⟨_, rfl⟩
  rw [← hG] at hr1 ⊢
  rw [← hA] at ha1
  simp only [← hA]
  have HA := Lib.hid hA; have HG := Lib.hid hG
  have HB1 := Lib.hid hB1; have HZ1 := Lib.hid hz1; have HA1 := Lib.hid ha1
  clear hW1 hB1 hz1 ha1 hg1 hA hG
  refine (rdNum_any G 8 l false W1 hr1 (by omega)).mono ?_
  clear hr1
  rintro z w2 ⟨l2, b2, rfl, hs2, hr2, hg2⟩
  have HS2 := Lib.hid hs2
  have HB2 : Hid (Below w.heap.size w w2) := HB1.out.grown hg2 HB1.out.size (fun k hk => by have := Option.some.inj hk; have := HG.out; omega)
  have HA2 : Hid (w2.heap[A]? = _) := (hg2.block A (by have := HZ1.out; have := HA.out; omega) (by intro h; have := Option.some.inj h; have := HA.out; have := HG.out; omega)).trans HA1.out
  have HZ2 : Hid (w.heap.size + 2 ≤ w2.heap.size) := by have := hg2.size; have := HZ1.out; unfold Hid; omega
  have HN2 := Lib.hid (rdNum_any G 8 l2 b2 w2 hr2 (by omega))
  clear hs2 hr2 hg2
  generalize hN1 : numOf (rdTake 8 (rdS l false)).1 = N1
  have HN1 := Lib.hid hN1
  clear hN1
  go_wp2_with fail
  refine HN2.out.mono ?_
  rintro z w3 ⟨l3, b3, rfl, hs3, hr3, hg3⟩
  have HS3 := Lib.hid hs3
  have HB3 : Hid (Below w.heap.size w w3) := HB2.out.grown hg3 HB2.out.size (fun k hk => by have := Option.some.inj hk; have := HG.out; omega)
  have HA3 : Hid (w3.heap[A]? = _) := (hg3.block A (by have := HZ2.out; have := HA.out; omega) (by intro h; have := Option.some.inj h; have := HA.out; have := HG.out; omega)).trans HA2.out
  have HZ3 : Hid (w.heap.size + 2 ≤ w3.heap.size) := by have := hg3.size; have := HZ2.out; unfold Hid; omega
  have HR3 := Lib.hid hr3
  clear hs3 hr3 hg3 HN2
  generalize hN2 : numOf (rdTake 8 (rdS l2 b2)).1 = N2
  have HN2 := Lib.hid hN2
  clear hN2
  go_wp2_with fail
  generalize hQ1 : wrap64 (N1 : Int) = Q1
  generalize hQ2 : wrap64 (N2 : Int) = Q2
  have HQ1 := Lib.hid hQ1; have HQ2 := Lib.hid hQ2
  clear hQ1 hQ2
  obtain ⟨H, hH⟩ : ∃ H, H = w3.heap.size := ⟨_, rfl⟩
  obtain ⟨w4, hw4⟩ : ∃ W, W = w3.alloc (.cells #[.int .i64 Q1, .string ⟨#[]⟩, .int .i64 Q2, .string ⟨#[]⟩, .slice none 0 0] 24) := ⟨_, rfl⟩
  rw [← hw4]
  have hh4 : w4.heap[H]? = some (.cells #[.int .i64 Q1, .string ⟨#[]⟩, .int .i64 Q2, .string ⟨#[]⟩, .slice none 0 0] 24 (0, 0)) := by
    rw [hw4, hH]; exact heap_alloc_new w3 _
  have hb34 : Below w3.heap.size w3 w4 := by rw [hw4]; exact (Below.refl _ _).alloc (Nat.le_refl _) _
  have HB4 : Hid (Below w.heap.size w w4) := HB3.out.trans (hb34.mono HB3.out.size)
  have HA4 : Hid (w4.heap[A]? = _) := (hb34.block A (by have := HZ3.out; have := HA.out; omega)).trans HA3.out
  have hr4 : RdIs w4 G l3 b3 := by
    obtain ⟨v3, h1, h2⟩ := HR3.out
    exact ⟨v3, (hb34.block G (Array.getElem?_eq_some_iff.1 h1).1).trans h1, h2.below hb34⟩
  have hz4 : w4.heap.size = H + 1 := by rw [hw4, hH]; exact World.size_alloc ..
  have HZ4 := Lib.hid hz4
  have HHZ : Hid (w.heap.size + 2 ≤ H) := by have := HZ3.out; unfold Hid; omega
  have HT1 := Lib.hid (rdText_any G l3 b3 w4.drew hr4.drew)
  have HH4 := Lib.hid hh4
  have HR4 := Lib.hid hr4
  simp only [← hH]
  clear hw4 hh4 hb34 hr4 hz4 hH HB3 HA3 HZ3 HR3 HZ2 HA2 HB2 HB1 HZ1 HA1
  have hcn : ∀ w : World, True := fun _ => trivial
  go_region_held (fun _ => True) (trivial)
    (first
      | (go_at_call 25
         with_reducible refine HT1.out.mono ?_
         rintro z w5 ⟨v5, l5, b5, rfl, ho5, hs5, hr5, hg5⟩
         have hy5 := ho5.bytes (rdText_small HR4.out.small)
         have cA := hy5.toString (P := Try.prog) byT (d := 9) (by kernel_rfl)
         have HT2 := Lib.hid (rdText_any G l5 b5 w5 hr5)
         have HSHA := Lib.hid hy5.short
         have HY5 := Lib.hid hy5; have HO5 := Lib.hid ho5; have HS5 := Lib.hid hs5; have HR5 := Lib.hid hr5; have HG5 := Lib.hid hg5
         have hh5 : w5.heap[H]? = _ := (hg5.block H (by show H < w4.heap.size; have := HZ4.out; omega) (by intro h; have := Option.some.inj h; have := HHZ.out; have := HG.out; omega)).trans HH4.out
         have HH5 := Lib.hid hh5
         clear ho5 hs5 hr5 hg5 hy5 hh5)
      | (go_at_call 25
         with_reducible refine HT2.out.mono ?_
         rintro z w6 ⟨v6, l6, b6, rfl, ho6, hs6, hr6, hg6⟩
         have hy6 := ho6.bytes (rdText_small HR5.out.small)
         have HSHB := Lib.hid hy6.short
         have hy56 := HY5.out.kept hg6 (.inr (by intro h; have := (HO5.out.lt G h).1; have h2 : w4.drew.heap.size = w4.heap.size := rfl; have := HZ4.out; have := HHZ.out; have := HG.out; omega))
         have cA6 := hy56.toString (P := Try.prog) byT (d := 9) (by kernel_rfl)
         have cB := hy6.toString (P := Try.prog) byT (d := 9) (by kernel_rfl)
         have cB1 := (hy6.kept (row := some H) (w' := w6.setCell ⟨H, 1, none⟩ (.string (strOf (rdText (rdS l3 b3)).1))) ⟨rfl, rfl, rfl, by simp [World.setCell], fun k _ hne => heap_setCell_other w6 _ k _ (fun e => hne (by rw [e]))⟩ (.inr (by intro h; have := (ho6.lt H h).1; have h3 := (Array.getElem?_eq_some_iff.1 HH5.out).1; omega))).toString (P := Try.prog) byT (d := 9) (by kernel_rfl)
         have cA1 := (hy56.kept (row := some H) (w' := w6.setCell ⟨H, 3, none⟩ (.string (strOf (rdText (rdS l5 b5)).1))) ⟨rfl, rfl, rfl, by simp [World.setCell], fun k _ hne => heap_setCell_other w6 _ k _ (fun e => hne (by rw [e]))⟩ (.inr (by intro h; have := (HO5.out.lt H h).1; have h2 : w4.drew.heap.size = w4.heap.size := rfl; have := HZ4.out; omega))).toString (P := Try.prog) byT (d := 9) (by kernel_rfl)
         have hh6 : w6.heap[H]? = _ := (hg6.block H ((Array.getElem?_eq_some_iff.1 HH5.out).1) (by intro h; have := Option.some.inj h; have := HHZ.out; have := HG.out; omega)).trans HH5.out
         have e1 := cells_of hh6 1; have e3 := cells_of hh6 3
         have f1 := free_of hh6 1; have f3 := free_of hh6 3
         have HS6 := Lib.hid hs6; have HR6 := Lib.hid hr6; have HG6 := Lib.hid hg6; have HH6 := Lib.hid hh6
         clear ho6 hs6 hr6 hg6 hy6 hy56 hh6))
  all_goals
    clear cA cA6 cB cB1 cA1 e1 e3 f1 f3 hcn HT1 HT2
    generalize hSA : strOf (rdText (rdS l3 b3)).1 = SA
    generalize hSB : strOf (rdText (rdS l5 b5)).1 = SB
    obtain ⟨w7, hw7⟩ : ∃ W, W = (w6.setCell ⟨H, 1, none⟩ (.string SA)).setCell ⟨H, 3, none⟩ (.string SB) := ⟨_, rfl⟩
    rw [← hw7]
    have hh7 : w7.heap[H]? = some (.cells #[.int .i64 Q1, .string SA, .int .i64 Q2, .string SB, .slice none 0 0] 24 (0, 0)) := by
      rw [hw7]
      exact heap_setCell_same _ H 3 _ _ _ (heap_setCell_same _ H 1 _ _ _ HH6.out)
    have ho7 : ∀ k, k ≠ H → w7.heap[k]? = w6.heap[k]? := fun k hk => by
      rw [hw7, heap_setCell_other _ _ k _ hk, heap_setCell_other _ _ k _ hk]
    have hz7 : w7.heap.size = w6.heap.size := by rw [hw7]; simp [World.setCell]
    have hgH : w6.grownBy w7 (some H) := ⟨by rw [hw7]; rfl, by rw [hw7]; rfl, by rw [hw7]; rfl, by rw [hz7]; exact Nat.le_refl _, fun k _ hne => ho7 k (fun e => hne (by rw [e]))⟩
    have HB7 : Hid (Below w.heap.size w w7) := by
      have h5 := HB4.out.drew.grown HG5.out (by have := HB4.out.size; exact this) (fun k hk => by have := Option.some.inj hk; have := HG.out; omega)
      have h6 := h5.grown HG6.out h5.size (fun k hk => by have := Option.some.inj hk; have := HG.out; omega)
      exact h6.grown hgH h6.size (fun k hk => by have := Option.some.inj hk; have := HHZ.out; omega)
    have HA7 : Hid (w7.heap[A]? = some (.cells #[.int .i64 0, .string ⟨#[]⟩, .int .i64 0, .string ⟨#[]⟩, .slice none 0 0] 24 (0, 0))) := by
      have hz5 := HG5.out.size
      have h4 : w4.drew.heap.size = w4.heap.size := rfl
      exact (ho7 A (by have := HA.out; have := HHZ.out; omega)).trans ((HG6.out.block A (by have := HZ4.out; have := HA.out; have := HHZ.out; omega) (by intro h; have := Option.some.inj h; have := HA.out; have := HG.out; omega)).trans
        ((HG5.out.block A (by have := HZ4.out; have := HA.out; have := HHZ.out; omega) (by intro h; have := Option.some.inj h; have := HA.out; have := HG.out; omega)).trans HA4.out))
    have hr7 : RdIs w7 G l6 b6 := by
      obtain ⟨u, h1, h2⟩ := HR6.out
      refine ⟨u, (ho7 G (by have := HG.out; have := HHZ.out; omega)).trans h1, ?_⟩
      exact bytes_off h2 HH6.out (fun _ _ h => by cases h) (fun k hk hne => ho7 k hne)
    have HT7 := Lib.hid (rdText_any G l6 b6 w7 hr7)
    have HH7 := Lib.hid hh7; have HSA := Lib.hid hSA; have HSB := Lib.hid hSB
    have HSM6 := Lib.hid HR6.out.small
    have HSM3 := Lib.hid HR4.out.small; have HSM5 := Lib.hid HR5.out.small
    clear hw7 hh7 ho7 hgH hr7 hSA hSB hz7 HH6 HR6 HG6 HY5 HO5 HG5 HH5 HR5 HH4 HR4 HA4 HB4
    go_wp2_with fail
    refine HT7.out.mono ?_
    rintro z w8 ⟨v8, l8, b8, rfl, ho8, hs8, hr8, hg8⟩
    have hch := ev_chain HS2.out HS3.out HS5.out HS6.out hs8
    have hy8 := ho8.bytes (rdText_small HSM6.out)
    have hh8 : w8.heap[H]? = some (.cells #[.int .i64 Q1, .string SA, .int .i64 Q2, .string SB, .slice none 0 0] 24 (0, 0)) := (hg8.block H ((Array.getElem?_eq_some_iff.1 HH7.out).1) (by intro h; have := Option.some.inj h; have := HHZ.out; have := HG.out; omega)).trans HH7.out
    obtain ⟨p8, c8, rfl⟩ := ho8.shape
    have hA8 : w8.heap[A]? = some (.cells #[.int .i64 0, .string ⟨#[]⟩, .int .i64 0, .string ⟨#[]⟩, .slice none 0 0] 24 (0, 0)) := (hg8.block A ((Array.getElem?_eq_some_iff.1 HA7.out).1) (by intro h; have := Option.some.inj h; have := HA.out; have := HG.out; omega)).trans HA7.out
    have hHG : H ≠ G := by have := HHZ.out; have := HG.out; omega
    have hGH : G ≠ H := fun e => hHG e.symm
    have hHA : H ≠ A := by have := HHZ.out; have := HA.out; omega
    have hAH : A ≠ H := fun e => hHA e.symm
    have HB8 : Hid (Below w.heap.size w w8) := HB7.out.grown hg8 HB7.out.size (fun k hk => by have := Option.some.inj hk; have := HG.out; omega)
    obtain ⟨u8, hu8, hub⟩ := hr8
    obtain ⟨pu, cu, rfl, _⟩ := hub.any
    have g0 := cells_of hu8 0; have g1 := cells_of hu8 1
    have k0 := cells_of hh8 0; have k1 := cells_of hh8 1; have k2 := cells_of hh8 2; have k3 := cells_of hh8 3; have k4 := cells_of hh8 4
    have a0 := cells_of hA8 0; have a1 := cells_of hA8 1; have a2 := cells_of hA8 2; have a3 := cells_of hA8 3; have a4 := cells_of hA8 4
    have f4 := free_of hh8 4
    have q0 := free_of hA8 0; have q1 := free_of hA8 1; have q2 := free_of hA8 2; have q3 := free_of hA8 3; have q4 := free_of hA8 4
    have HCH := Lib.hid hch; have HHA8 := Lib.hid hA8; have HHH8 := Lib.hid hh8; have HY8 := Lib.hid hy8; have HG8 := Lib.hid hu8
    clear hch hy8 hh8 hg8 hs8 ho8 hu8 hub hA8 HT7 HH7 HA7 HB7
    generalize hDL : (rdText (rdS l6 b6)).1.length = DL at *
    have HDL := Lib.hid hDL
    clear hDL
    cases b8 with
    | true =>
      have E : Hid (takeEv l = none) := takeEv_bad (by rw [HCH.out]; intro h; cases h)
      have hX := ans_set ((heap_setCell_other w8 ⟨H, 4, none⟩ A (.slice p8 DL c8) hAH).trans HHA8.out) 0 0 ⟨#[]⟩ ⟨#[]⟩ (.slice none 0 0)
      have HX := Lib.hid hX
      have hBX := ans_below (A := A) (HB8.out.setCell (p := ⟨H, 4, none⟩) (by show w.heap.size ≤ H; have := HHZ.out; omega) (.slice p8 DL c8)) (Nat.le_of_eq HA.out.symm) 0 0 ⟨#[]⟩ ⟨#[]⟩ (.slice none 0 0)
      have HBX := Lib.hid hBX
      clear hX hBX
      go_wp2
      refine bodyPost_ret (ev_ret rfl rfl HX.out rfl) rfl ?_
      exact ⟨.inl ⟨E.out, rfl⟩, HBX.out⟩
    | false =>
      by_cases h8 : 0 < l8.length
      · have h8d : decide (0 < l8.length) = true := decide_eq_true h8
        have h8i : (0 : Int) < l8.length := by omega
        have E : Hid (takeEv l = none) := takeEv_bad (by rw [HCH.out]; intro h; have := Option.some.inj h; rw [this] at h8; simp at h8)
        have hX := ans_set ((heap_setCell_other w8 ⟨H, 4, none⟩ A (.slice p8 DL c8) hAH).trans HHA8.out) 0 0 ⟨#[]⟩ ⟨#[]⟩ (.slice none 0 0)
        have HX := Lib.hid hX
        have hBX := ans_below (A := A) (HB8.out.setCell (p := ⟨H, 4, none⟩) (by show w.heap.size ≤ H; have := HHZ.out; omega) (.slice p8 DL c8)) (Nat.le_of_eq HA.out.symm) 0 0 ⟨#[]⟩ ⟨#[]⟩ (.slice none 0 0)
        have HBX := Lib.hid hBX
        clear hX hBX
        go_wp2
        refine bodyPost_ret (ev_ret rfl rfl HX.out rfl) rfl ?_
        exact ⟨.inl ⟨E.out, rfl⟩, HBX.out⟩
      · obtain rfl : l8 = [] := List.eq_nil_of_length_eq_zero (by omega)
        have hBW : Below w.heap.size w (w8.setCell ⟨H, 4, none⟩ (.slice p8 DL c8)) := HB8.out.setCell (p := ⟨H, 4, none⟩) (by show w.heap.size ≤ H; have := HHZ.out; omega) _
        have hYW : Bytes (w8.setCell ⟨H, 4, none⟩ (.slice p8 DL c8)) (.slice p8 DL c8) (rdText (rdS l6 b6)).1 := bytes_off HY8.out HHH8.out (fun _ _ h => by cases h) (fun k _ hne => heap_setCell_other w8 _ k _ hne)
        have hAW := (heap_setCell_other w8 ⟨H, 4, none⟩ A (.slice p8 DL c8) hAH).trans HHA8.out
        have hHW := heap_setCell_same _ H 4 _ _ (.slice p8 DL c8) HHH8.out
        have hIS : IsEv (w8.setCell ⟨H, 4, none⟩ (.slice p8 DL c8)) (evVal Q1 Q2 SA SB (.slice p8 DL c8)) (evRd (rdEv (some l))) Q1 Q2 SA SB (.slice p8 DL c8) := by
          have hda : (evRd (rdEv (some l))).da = (rdText (rdS l6 b6)).1 := by rw [HCH.out]; rfl
          refine ⟨rfl, ?_, by rw [hda]; exact hYW, by rw [← HQ1.out]; unfold wrap64; omega, by rw [← HQ2.out]; unfold wrap64; omega, by rw [← HSA.out]; exact strOf_max HSHA.out, by rw [← HSB.out]; exact strOf_max HSHB.out⟩
          rw [← HSA.out, ← HSB.out, natsOf_strOf (rdText_small HSM3.out), natsOf_strOf (rdText_small HSM5.out), ← HQ1.out, ← HQ2.out, ← HN1.out, ← HN2.out, HCH.out]
          rfl
        have HBW := Lib.hid hBW; have HYW := Lib.hid hYW; have HAW := Lib.hid hAW; have HHW := Lib.hid hHW; have HIS := Lib.hid hIS
        have HMAY := Lib.hid (refMayEv_any hIS)
        unfold evVal at HMAY
        have hHlt := (Array.getElem?_eq_some_iff.1 hHW).1
        have hAlt := (Array.getElem?_eq_some_iff.1 hAW).1
        have HHL := Lib.hid hHlt; have HAL := Lib.hid hAlt
        clear hBW hYW hAW hHW hIS hHlt hAlt
        go_wp2_with fail
        refine HMAY.out.mono ?_
        rintro z w10 ⟨rfl, hb10⟩
        have HB10 : Hid (Below w.heap.size w w10) := HBW.out.trans (hb10.mono HBW.out.size)
        have hA10 := (hb10.block A HAL.out).trans HAW.out
        have hH10 := (hb10.block H HHL.out).trans HHW.out
        have HIS10 := Lib.hid (HIS.out.below hb10)
        clear g0 g1 k0 k1 k2 k3 k4 a0 a1 a2 a3 a4 f4 q0 q1 q2 q3 q4 hb10
        have k0 := cells_of hH10 0; have k1 := cells_of hH10 1; have k2 := cells_of hH10 2; have k3 := cells_of hH10 3; have k4 := cells_of hH10 4
        have a0 := cells_of hA10 0; have a1 := cells_of hA10 1; have a2 := cells_of hA10 2; have a3 := cells_of hA10 3; have a4 := cells_of hA10 4
        have q0 := free_of hA10 0; have q1 := free_of hA10 1; have q2 := free_of hA10 2; have q3 := free_of hA10 3; have q4 := free_of hA10 4
        have HA10 := Lib.hid hA10; have HH10 := Lib.hid hH10
        clear hA10 hH10 HMAY HIS HHW HAW HYW HBW HHL HAL HY8 HG8 HHH8 HHA8
        cases hm : mayEv (evRd (rdEv (some l))) with
        | false =>
          have E : Hid (takeEv l = none) := takeEv_not hm
          have HX := Lib.hid (ans_set HA10.out 0 0 ⟨#[]⟩ ⟨#[]⟩ (.slice none 0 0))
          have HBX := Lib.hid (ans_below (A := A) HB10.out (Nat.le_of_eq HA.out.symm) 0 0 ⟨#[]⟩ ⟨#[]⟩ (.slice none 0 0))
          clear hm
          go_wp2
          refine bodyPost_ret (ev_ret rfl rfl HX.out rfl) rfl ?_
          exact ⟨.inl ⟨E.out, rfl⟩, HBX.out⟩
        | true =>
          have E : Hid (takeEv l = some (evRd (rdEv (some l)))) := takeEv_yes (by rw [HCH.out]; rfl) hm
          have HX := Lib.hid (ans_set HA10.out Q1 Q2 SA SB (.slice p8 DL c8))
          have HBX := Lib.hid (ans_below (A := A) HB10.out (Nat.le_of_eq HA.out.symm) Q1 Q2 SA SB (.slice p8 DL c8))
          have HIX := Lib.hid (ans_isEv HIS10.out HA10.out Q1 Q2 SA SB (.slice p8 DL c8))
          clear hm
          go_wp2
          refine bodyPost_ret (ev_ret rfl rfl HX.out rfl) rfl ?_
          exact ⟨.inr ⟨evRd (rdEv (some l)), evVal Q1 Q2 SA SB (.slice p8 DL c8), Q1, Q2, SA, SB, .slice p8 DL c8, E.out, rfl, HIX.out⟩, HBX.out⟩
end Go.Proofs.Ytjjcfflgndclkaa

