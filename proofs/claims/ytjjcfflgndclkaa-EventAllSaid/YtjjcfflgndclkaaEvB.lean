/- Events in a program: the document's Put. -/
import Derived.Test.YtjjcfflgndclkaaEvA
namespace Go.Proofs.Ytjjcfflgndclkaa
open Go Go.RowKit Go.By

set_option maxRecDepth 100000 in
theorem refText_any (v : Value) (l : List Nat) (s : ByteArray) (base : Nat) (w : World) (hv : w.ownsRow base 5 1 v l.length (cellsOf l)) (hl : l.length ≤ 1000000) (hb : base ≤ w.heap.size) (hs : s.size ≤ 255) :
    Calls Try.prog 32 #[v, .string s] w fun e w' => ∃ v', e = .returned v' ∧ w'.ownsRow base 5 1 v' (l ++ txt (natsOf s)).length (cellsOf (l ++ txt (natsOf s))) ∧ Below base w w' := by
  obtain ⟨p, cap, rfl⟩ := shape_of hv
  have HV := Lib.hid hv; clear hv
  have hs' : (s.size : Int) ≤ 255 := by omega
  have hw8 : IntKind.u8.wrap (s.size : Int) = s.size := by rw [IntKind.wrap_u8]; omega
  obtain ⟨v1, w1, hrun, hown1, hgrow1⟩ := run_append_bytes (P := Try.prog) 22 byT base (.slice p l.length cap) l.length (cellsOf l) (HV.out.alloc (.cells #[.int .u8 (s.size : Nat)] 5)) (.slice (some ⟨w.heap.size, 0, none⟩) 1 1) [s.size] (Bytes.one rfl (by omega)) (by simp; omega) (by simp; omega)
  have hb1 : Below base w w1 := ((Below.refl _ _).alloc hb _).grown hgrow1 (by simp; omega) (fun j hj => (HV.out.lt j hj).1)
  have ho1 : w1.ownsRow base 5 1 v1 (l ++ [s.size]).length (cellsOf (l ++ [s.size])) := by
    rw [List.length_append, cellsOf_append]; exact hown1
  obtain ⟨i, hi, hz, hz1, hz2⟩ := info_parts (byT).info
  have hz := hb1.size
  obtain ⟨v2, w2, hrun2, ho2, hg2, _⟩ := Lib.run_append_own_string (P := Try.prog) w1 base 22 9 22 5 i byT.slice (by kernel_rfl) hi (by assumption) hz1 hz2 v1 _ _ ho1 s (by rw [List.length_append]; simp; unfold maxLen; omega) (by rw [List.length_append]; simp; omega) (by omega)
  have ho3 : w2.ownsRow base 5 1 v2 (l ++ txt (natsOf s)).length (cellsOf (l ++ txt (natsOf s))) := by
    have e : l ++ txt (natsOf s) = (l ++ [s.size]) ++ natsOf s := by unfold txt; rw [natsOf_length]; simp
    rw [e, List.length_append, cellsOf_append, natsOf_length, ← strCells_nats]
    exact ho2
  have hb2 : Below base w w2 := hb1.grown hg2 (by omega) (fun j hj => (ho1.lt j hj).1)
  have HR1 := Lib.hid hrun; have HR2 := Lib.hid hrun2; have HO := Lib.hid ho3; have HB := Lib.hid hb2
  clear hrun hrun2 ho3 hb2 ho2 hg2 ho1 hb1 hown1 hgrow1 hi hz hz1 hz2 HV
  go_enter Try.func32, Try.ntmps32
  go_wp2_with first
    | (at_builtin; refine Lib.wpList_append_run _ rfl (.tmp 5) (.tmp 9) 22 22 rfl _ _ rfl rfl v1 w1 HR1.out ?_)
    | (at_builtin; refine Lib.wpList_append_run _ rfl (.tmp 10) (.tmp 11) 22 9 rfl _ _ rfl rfl v2 w2 HR2.out ?_)
  go_ret
  exact ⟨_, rfl, HO.out, HB.out⟩

/-- What the parts of an event come to, laid one behind the other. -/
theorem evOf_eq (a b : Nat) (s t : ByteArray) (da : List Nat) : highOf a 8 ++ highOf b 8 ++ txt (natsOf s) ++ txt (natsOf t) ++ txt da = evOf ⟨a, b, natsOf s, natsOf t, da⟩ := by
  unfold evOf
  simp

set_option maxRecDepth 100000 in
set_option maxHeartbeats 1600000 in
theorem refPutEv_any {w : World} {x : Value} {e : Ev} {q r : Int} {s t : ByteArray} {v : Value} (h : IsEv w x e q r s t v) (hdl : e.da.length ≤ 1000000) :
    Calls Try.prog 13 #[x] w fun z w' => ∃ v', z = .returned v' ∧ OwnM w' w.heap.size v' (putEv e) ∧ Below w.heap.size w w' := by
  have hx := h.val
  have HH := Lib.hid h
  obtain ⟨p, cap, rfl, _⟩ := h.da.any
  unfold evVal at hx
  subst hx
  obtain ⟨W, hW⟩ : ∃ W, W = w.alloc (.cells #[.int .i64 q, .string s, .int .i64 r, .string t, .slice p e.da.length cap] 24) := ⟨_, rfl⟩
  have hb : Below w.heap.size w W := by rw [hW]; exact (Below.refl w.heap.size w).alloc (Nat.le_refl _) _
  have hWs : W.heap.size = w.heap.size + 1 := by rw [hW]; exact World.size_alloc ..
  have hWb : W.heap[w.heap.size]? = some (.cells #[.int .i64 q, .string s, .int .i64 r, .string t, .slice p e.da.length cap] 24 (0, 0)) := by rw [hW]; exact heap_alloc_new w _
  have HB := Lib.hid hb; have HWS := Lib.hid hWs; have HWB := Lib.hid hWb; have HW := Lib.hid hW
  have HMAY := Lib.hid (refMayEv_any (h.below hb))
  clear hb hWs hWb hW h
  go_enter Try.func13, Try.ntmps13
  go_wp2_with fail
  rw [← HW.out]
  refine HMAY.out.mono ?_
  rintro z w1 ⟨rfl, hb1⟩
  have hbw : Below w.heap.size w w1 := HB.out.trans (hb1.mono HB.out.size)
  have hbx : w1.heap[w.heap.size]? = some (.cells #[.int .i64 q, .string s, .int .i64 r, .string t, .slice p e.da.length cap] 24 (0, 0)) := (hb1.block _ (by rw [HWS.out]; omega)).trans HWB.out
  have hsz1 : w.heap.size + 1 ≤ w1.heap.size := by have := hb1.size; rw [HWS.out] at this; exact this
  cases hm : mayEv e with
  | false =>
    have E : Hid (putEv e = []) := by unfold Hid putEv; rw [hm]; rfl
    have HBW := Lib.hid hbw
    clear hbx hb1 hbw
    go_wp2
    go_ret
    exact ⟨_, rfl, by rw [E.out]; exact .inl ⟨rfl, rfl⟩, HBW.out⟩
  | true =>
    obtain ⟨h0, h1, hms, hmt, hda⟩ := (mayEv_iff e).1 hm
    have he := HH.out.ev
    rw [he] at h0 h1 hms hmt
    dsimp only at h0 h1 hms hmt
    have hq := HH.out.q63
    have hr := HH.out.r63
    obtain ⟨a, rfl⟩ : ∃ a : Nat, q = a := ⟨q.toNat, by omega⟩
    obtain ⟨b, rfl⟩ : ∃ b : Nat, r = b := ⟨r.toNat, by omega⟩
    have E : Hid (putEv e = highOf a 8 ++ highOf b 8 ++ txt (natsOf s) ++ txt (natsOf t) ++ txt e.da) := by
      unfold Hid putEv
      rw [if_pos hm, evOf_eq, ← he]
    have hls := mayNm_length hms
    have hlt := mayNm_length hmt
    rw [natsOf_length] at hls hlt
    have c0 : w1.cell? ⟨w.heap.size, 0, none⟩ = some (.int .i64 a) := cells_of hbx 0
    have c1 : w1.cell? ⟨w.heap.size, 1, none⟩ = some (.string s) := cells_of hbx 1
    have c2 : w1.cell? ⟨w.heap.size, 2, none⟩ = some (.int .i64 b) := cells_of hbx 2
    have c3 : w1.cell? ⟨w.heap.size, 3, none⟩ = some (.string t) := cells_of hbx 3
    have c4 : w1.cell? ⟨w.heap.size, 4, none⟩ = some (.slice p e.da.length cap) := cells_of hbx 4
    have HBW := Lib.hid hbw; have HBX := Lib.hid hbx
    have HS := Lib.hid hls; have HT := Lib.hid hlt; have HD := Lib.hid hda
    have hq' : (a : Int) ≤ 9223372036854775807 := hq
    have hr' : (b : Int) ≤ 9223372036854775807 := hr
    clear hbx hb1 hbw he hls hlt hda h0 h1 hms hmt hq hr HMAY
    go_wp2_with fail
    have hw1 : w.heap.size < w1.heap.size := by omega
    have hwa : IntKind.u64.wrap (a : Int) = a := by rw [IntKind.wrap_u64]; omega
    have hwb : IntKind.u64.wrap (b : Int) = b := by rw [IntKind.wrap_u64]; omega
    have HHA : Hid (∀ w, Calls Try.prog 31 #[.int .u64 (a : Nat), .int .i64 8] w fun e w' => ∃ v', e = .returned v' ∧ w'.ownsRow w.heap.size 5 1 v' 8 (cellsOf (highOf a 8)) ∧ Below w.heap.size w w') := fun w => high_any a 8 w (by omega) (by omega)
    have HHB : Hid (∀ w, Calls Try.prog 31 #[.int .u64 (b : Nat), .int .i64 8] w fun e w' => ∃ v', e = .returned v' ∧ w'.ownsRow w.heap.size 5 1 v' 8 (cellsOf (highOf b 8)) ∧ Below w.heap.size w w') := fun w => high_any b 8 w (by omega) (by omega)
    go_region_held3 (fun w' => w'.cell? ⟨w.heap.size, 0, none⟩ = some (.int .i64 a) ∧ w'.cell? ⟨w.heap.size, 1, none⟩ = some (.string s) ∧ w'.cell? ⟨w.heap.size, 2, none⟩ = some (.int .i64 b) ∧ w'.cell? ⟨w.heap.size, 3, none⟩ = some (.string t) ∧ w'.cell? ⟨w.heap.size, 4, none⟩ = some (.slice p e.da.length cap)) (go_keep)
      (first
        | (go_at_call 31
           with_reducible refine (HHA.out _).mono ?_
           rintro z w2 ⟨v2, rfl, ho2, hb2⟩
           have hb2' : Below w1.heap.size w1 w2 := ((Below.refl _ _).drew).trans hb2
           have d0 := (hb2'.cell (p := ⟨w.heap.size, 0, none⟩) hw1).trans c0
           have d1 := (hb2'.cell (p := ⟨w.heap.size, 1, none⟩) hw1).trans c1
           have d2 := (hb2'.cell (p := ⟨w.heap.size, 2, none⟩) hw1).trans c2
           have d3 := (hb2'.cell (p := ⟨w.heap.size, 3, none⟩) hw1).trans c3
           have d4 := (hb2'.cell (p := ⟨w.heap.size, 4, none⟩) hw1).trans c4
           have HO2 := Lib.hid ho2; have HB2 := Lib.hid hb2'
           clear ho2 hb2 hb2')
        | (go_at_call 31
           with_reducible refine (HHB.out _).mono ?_
           rintro z w3 ⟨v3, rfl, ho3, hb3⟩
           have hb3' : Below w1.heap.size w1 w3 := HB2.out.trans (hb3.mono HB2.out.size)
           have f0 := (hb3'.cell (p := ⟨w.heap.size, 0, none⟩) hw1).trans c0
           have f1 := (hb3'.cell (p := ⟨w.heap.size, 1, none⟩) hw1).trans c1
           have f2 := (hb3'.cell (p := ⟨w.heap.size, 2, none⟩) hw1).trans c2
           have f3 := (hb3'.cell (p := ⟨w.heap.size, 3, none⟩) hw1).trans c3
           have f4 := (hb3'.cell (p := ⟨w.heap.size, 4, none⟩) hw1).trans c4
           have HO23 := Lib.hid (owns_below HO2.out hb3)
           have HY3 := Lib.hid (Bytes.of_owns ho3 (highOf_small _ _) (by rw [highOf_length]; decide))
           have HB3 := Lib.hid hb3'
           clear ho3 hb3 hb3')
        | (refine step_append_bytes rfl (.tmp 10) (.tmp 14) byT rfl w1.heap.size v2 8 (cellsOf (highOf a 8)) rfl HO23.out v3 (highOf b 8) rfl HY3.out (by rw [highOf_length]; omega) HB3.out.size ?_
           intro v4 w4 hown4 hgrow4
           have hb4 : Below w1.heap.size w1 w4 := HB3.out.grown hgrow4 HB3.out.size (fun j hj => (HO23.out.lt j hj).1)
           have g0 := (hb4.cell (p := ⟨w.heap.size, 0, none⟩) hw1).trans c0
           have g1 := (hb4.cell (p := ⟨w.heap.size, 1, none⟩) hw1).trans c1
           have g2 := (hb4.cell (p := ⟨w.heap.size, 2, none⟩) hw1).trans c2
           have g3 := (hb4.cell (p := ⟨w.heap.size, 3, none⟩) hw1).trans c3
           have g4 := (hb4.cell (p := ⟨w.heap.size, 4, none⟩) hw1).trans c4
           have HO4 := Lib.hid hown4; have HB4 := Lib.hid hb4
           clear hown4 hgrow4 hb4))
    have ho4 : w4.ownsRow w1.heap.size 5 1 v4 (highOf a 8 ++ highOf b 8).length (cellsOf (highOf a 8 ++ highOf b 8)) := by
      have := HO4.out
      rw [cellsOf_append, List.length_append, highOf_length, highOf_length]
      rw [highOf_length] at this
      exact this
    have HO4' := Lib.hid (owns_below ho4 ((Below.refl _ _).drew))
    obtain ⟨M0, hM0⟩ : ∃ M, M = highOf a 8 ++ highOf b 8 := ⟨_, rfl⟩
    have h16 : M0.length = 16 := by rw [hM0, List.length_append, highOf_length, highOf_length]
    rw [← hM0] at HO4' E
    have HL0 := Lib.hid h16
    have hsz4 : w1.heap.size ≤ w4.drew.heap.size := HB4.out.size
    have HP4 := Lib.hid (And.intro HO4'.out hsz4)
    have HT1 : Hid (∀ W', W'.ownsRow w1.heap.size 5 1 v4 M0.length (cellsOf M0) ∧ w1.heap.size ≤ W'.heap.size → Calls Try.prog 32 #[v4, .string s] W' fun e W2 => ∃ v', e = .returned v' ∧ W2.ownsRow w1.heap.size 5 1 v' (M0 ++ txt (natsOf s)).length (cellsOf (M0 ++ txt (natsOf s))) ∧ Below w1.heap.size W' W2) :=
      fun W' h => refText_any v4 M0 s w1.heap.size W' h.1 (by rw [HL0.out]; omega) h.2 (by have := HS.out; omega)
    obtain ⟨M1, hM1⟩ : ∃ M, M = M0 ++ txt (natsOf s) := ⟨_, rfl⟩
    have HL1 : Hid (M1.length ≤ 33) := by unfold Hid; rw [hM1, List.length_append, HL0.out, txt_length, natsOf_length]; have := HS.out; omega
    rw [← hM1] at HT1 E
    have HT2 : Hid (∀ v5 W', W'.ownsRow w1.heap.size 5 1 v5 M1.length (cellsOf M1) ∧ w1.heap.size ≤ W'.heap.size → Calls Try.prog 32 #[v5, .string t] W' fun e W2 => ∃ v', e = .returned v' ∧ W2.ownsRow w1.heap.size 5 1 v' (M1 ++ txt (natsOf t)).length (cellsOf (M1 ++ txt (natsOf t))) ∧ Below w1.heap.size W' W2) :=
      fun v5 W' h => refText_any v5 M1 t w1.heap.size W' h.1 (by have := HL1.out; omega) h.2 (by have := HT.out; omega)
    obtain ⟨M2, hM2⟩ : ∃ M, M = M1 ++ txt (natsOf t) := ⟨_, rfl⟩
    have HL2 : Hid (M2.length ≤ 50) := by unfold Hid; rw [hM2, List.length_append, txt_length, natsOf_length]; have := HT.out; have := HL1.out; omega
    rw [← hM2] at HT2 E
    have hdn : natsOf (strOf e.da) = e.da := natsOf_strOf HH.out.da.small
    have HT3 : Hid (∀ v6 W', W'.ownsRow w1.heap.size 5 1 v6 M2.length (cellsOf M2) ∧ w1.heap.size ≤ W'.heap.size → Calls Try.prog 32 #[v6, .string (strOf e.da)] W' fun e' W2 => ∃ v', e' = .returned v' ∧ W2.ownsRow w1.heap.size 5 1 v' (M2 ++ txt e.da).length (cellsOf (M2 ++ txt e.da)) ∧ Below w1.heap.size W' W2) := by
      intro v6 W' h
      have := refText_any v6 M2 (strOf e.da) w1.heap.size W' h.1 (by have := HL2.out; omega) h.2 (by rw [← natsOf_length, hdn]; have := HD.out; omega)
      rw [hdn] at this
      exact this
    have hkeep : ∀ w', Below w1.heap.size w1 w' → w'.cell? ⟨w.heap.size, 1, none⟩ = some (.string s) ∧ w'.cell? ⟨w.heap.size, 3, none⟩ = some (.string t) ∧ w'.cell? ⟨w.heap.size, 4, none⟩ = some (.slice p e.da.length cap) ∧ (convert 22 9 (.slice p e.da.length cap)).run Try.prog w' = .ok (.string (strOf e.da)) w' := fun w' hb' =>
      ⟨(hb'.cell (p := ⟨w.heap.size, 1, none⟩) hw1).trans c1, (hb'.cell (p := ⟨w.heap.size, 3, none⟩) hw1).trans c3, (hb'.cell (p := ⟨w.heap.size, 4, none⟩) hw1).trans c4,
        (HH.out.da.below (HBW.out.trans (hb'.mono HBW.out.size))).toString (P := Try.prog) byT (d := 9) (by kernel_rfl)⟩
    have HK := Lib.hid hkeep
    clear hkeep hM0 hM1 hM2 hdn h16 ho4 HHA HHB g0 g1 g2 g3 g4 c0 c1 c2 c3 c4 HO4 hwa hwb
    go_wp2_with fail
    go_region_held (fun w' => w'.cell? ⟨w.heap.size, 1, none⟩ = some (.string s) ∧ w'.cell? ⟨w.heap.size, 3, none⟩ = some (.string t) ∧ w'.cell? ⟨w.heap.size, 4, none⟩ = some (.slice p e.da.length cap) ∧ (convert 22 9 (.slice p e.da.length cap)).run Try.prog w' = .ok (.string (strOf e.da)) w') (exact HK.out _ (by first | assumption | exact HB4.out.drew))
      (first
        | (go_at_call 32
           with_reducible refine (HT1.out _ HP4.out).mono ?_
           rintro z w5 ⟨v5, rfl, ho, hb⟩
           have hbb : Below w1.heap.size w1 w5 := HB4.out.drew.trans hb
           have HB5 := Lib.hid hbb
           have HO5 := Lib.hid ho
           clear ho hb)
        | (go_at_call 32
           with_reducible refine (HT2.out _ _ ⟨HO5.out, HB5.out.size⟩).mono ?_
           rintro z w6 ⟨v6, rfl, ho, hb⟩
           have hbb : Below w1.heap.size w1 w6 := HB5.out.trans hb
           have HB6 := Lib.hid hbb
           have HO6 := Lib.hid ho
           clear ho hb)
        | (go_at_call 32
           with_reducible refine (HT3.out _ _ ⟨HO6.out, HB6.out.size⟩).mono ?_
           rintro z w7 ⟨v7, rfl, ho, hb⟩
           have hbb : Below w1.heap.size w1 w7 := HB6.out.trans hb
           have HB7 := Lib.hid hbb
           have HO7 := Lib.hid ho
           clear ho hb))
    have ho7 : OwnM w7 w.heap.size v7 (putEv e) := by
      rw [E.out]
      exact OwnM.of_owns (owns_base HO7.out HBW.out.size)
    have hb7 : Below w.heap.size w w7 := HBW.out.trans (HB7.out.mono HBW.out.size)
    have HF := Lib.hid ho7; have HG := Lib.hid hb7
    clear ho7 hb7
    go_wp2
    go_ret
    exact ⟨_, rfl, HF.out, HG.out⟩
end Go.Proofs.Ytjjcfflgndclkaa

