/- slot: the document's slots are taken. -/
import Derived.Test.YtjkbhlfgkpopdaaRefS
import Derived.Test.YtjkbhlfgkpopdaaSlH
namespace Go.Proofs.Ytjkbhlfgkpopdaa
open Go Go.RowKit Go.By

theorem isSlot_great {l : List Nat} (h : 113 < slotSize l) : isSlot l = false := by
  have : spOk l 2 = false := decide_eq_false (by omega)
  simp [isSlot, this]

set_option maxRecDepth 100000 in
theorem refTake_any (sv : Value) (l : List Nat) (w : World) (hsv : Bytes w sv l) (hl : l.length ≤ 17592186044416) :
    Calls Try.prog 11 #[sv] w fun e w' => Taken w l e w' := by
  obtain ⟨p, cap, rfl, hspot⟩ := hsv.any
  have HSV := Lib.hid hsv
  clear hsv
  by_cases h128 : l.length = 128
  · obtain ⟨b, off, rfl, hc10⟩ := hspot 10 (by omega)
    have HL := Lib.hid h128
    have hsz : slotSize l = atB l 10 := rfl
    have hlt := slotSize_lt h128 HSV.out.small
    clear hspot hl
    by_cases h113 : 113 < slotSize l
    · have HN := Lib.hid (isSlot_great h113)
      rw [← hsz] at hc10
      have h113' : (113 : Int) < (slotSize l : Int) := by omega
      have hw64 : wrap64 (slotSize l : Int) = slotSize l := IntWalk.wrap64_in _ (by omega)
      clear hsz h113 hlt
      rw [h128] at HSV ⊢
      clear h128
      generalize slotSize l = n at *
      go_enter Try.func11, Try.ntmps11
      go_wp2
      exact bodyPost_ret (v := .tuple #[.int .u64 0, .slice none 0 0, .int .i64 2]) (by simp [results, go_sem]) rfl (taken_no HN.out (Below.refl _ _))
    · have hle : slotSize l ≤ 113 := by omega
      have hle' : (slotSize l : Int) ≤ 113 := by omega
      have hw64 : wrap64 (slotSize l : Int) = slotSize l := IntWalk.wrap64_in _ (by omega)
      rw [← hsz] at hc10
      obtain ⟨q, c, hpr, hpb⟩ := piece_run HSV.out 2 8 (by omega)
      obtain ⟨q2, c2, hpr2, hpb2⟩ := piece_run HSV.out 11 (slotSize l) (by omega)
      have e2 : ((2 : Nat) : Int) + ((8 : Nat) : Int) = 10 := by omega
      have e3 : ((2 : Nat) : Int) = 2 := rfl
      have e4 : ((11 : Nat) : Int) = 11 := rfl
      rw [e2, e3] at hpr
      rw [e4] at hpr2
      have hpl : (pc l 2 8).length = 8 := pc_length (by omega)
      have hbl : (slotBody l).length = slotSize l := pc_length (by omega)
      have hs2 : ∀ n, Calls Try.prog 31 #[.slice q 8 c] (w.drewN n) fun e w' => e = .returned (.int .u64 (slotGen l : Nat)) ∧ w' = w.drewN n := fun n =>
        (num_any _ _ _ (bytes_drewN hpb n) (by omega)).mono fun _ _ ⟨h1, h2⟩ => ⟨h1, h2.symm⟩
      have HS2 := Lib.hid hs2
      have HPB : Hid (Bytes w (.slice q2 (slotSize l) c2) (slotBody l)) := hpb2
      have HGL := Lib.hid (slotGen_lt HSV.out.small)
      have HIF := Lib.hid (isSlot_iff HSV.out.small h128 hle)
      have HBL := Lib.hid hbl
      have HLE := Lib.hid hle
      clear hs2 hpb hpb2 hpl hbl h113 hsz hlt e2 e3 e4 hle
      rw [h128] at hpr hpr2 HSV ⊢
      clear h128
      generalize hn : slotSize l = n at *
      clear hn
      go_enter Try.func11, Try.ntmps11
      go_wp2
      go_quiet ((go_at_call 31; exact Calls.quiet_of_same (HS2.out _)))
      have hBW : Below w.heap.size w (w.drewN nq) := below_drewN _ _
      have HW := Lib.hid hBW
      have HPW := Lib.hid (HPB.out.below hBW)
      have HSW := Lib.hid (HSV.out.below hBW)
      clear hBW HPB HSV HS2 hpr hpr2 hc10 hw64
      generalize w.drewN nq = W at *
      have hsb : (slotBody l).length ≤ 113 := by rw [HBL.out]; exact HLE.out
      go_wp2_with fail
      refine (refPut_any (slotGen l) _ (slotBody l) W HGL.out HPW.out hsb).mono ?_
      rintro e w1 ⟨v1, rfl, ho1, hb1⟩
      obtain ⟨p1, c1, rfl⟩ := shape_of ho1
      have HB1 : Hid (Below w.heap.size w w1) := HW.out.trans (hb1.mono HW.out.size)
      have hy1 := Bytes.of_owns ho1 (slotOf_small hsb HPW.out.small) (by rw [slotOf_length hsb]; decide)
      have hyl := HSW.out.below hb1
      have s1 := hy1.toString byT (P := Try.prog) (d := 9) (by kernel_rfl)
      have s2 := hyl.toString byT (P := Try.prog) (d := 9) (by kernel_rfl)
      have HPY := Lib.hid (HPW.out.below hb1)
      have HSM : Hid (∀ c ∈ l, c < 256) := hyl.small
      have hne : slotOf (slotGen l) (slotBody l) ≠ l → ((strOf (slotOf (slotGen l) (slotBody l))).toList == (strOf l).toList) = false := fun h => by
        rw [beq_eq_false_iff_ne, Lib.toList_data, Lib.toList_data]
        intro h2
        exact h (strOf_inj hy1.small hyl.small (ByteArray.ext (Array.toList_inj.1 h2)))
      clear ho1 hb1 hy1 hyl HPW HSW HW
      by_cases heq : slotOf (slotGen l) (slotBody l) = l
      · have HY : Hid (isSlot l = true) := by unfold Hid; rw [HIF.out, decide_eq_true heq]
        rw [show strOf (slotOf (slotGen l) (slotBody l)) = strOf l by rw [heq]] at s1
        clear hne HIF heq
        have hz := HB1.out.size
        go_wp2_with (at_builtin; go_loud (refine wpList_append_bytes rfl (.tmp 41) (.tmp 42) byT rfl w1.heap.size (.slice (some ⟨w1.heap.size, 0, none⟩) 0 0) 0 [] rfl (World.ownsRow_made w1 #[] 0 (Nat.le_refl _) (by decide) rfl) (.slice q2 n c2) (slotBody l) rfl (HPY.out.below ((Below.refl _ _).alloc (Nat.le_refl _) _)) (by omega) (by simp) ?_); intro v2 w2 hown hgrow _)
        have ho2 : w2.ownsRow w.heap.size 5 1 v2 (slotBody l).length (cellsOf (slotBody l)) := by
          have := owns_base hown hz
          rw [Nat.zero_add, List.nil_append] at this
          exact this
        have hb2 : Below w.heap.size w w2 := (HB1.out.alloc hz _).grown hgrow (by simp; omega) (by simp [Value.ownBlock]; omega)
        have HT := Lib.hid (taken_yes HY.out HSM.out HL.out hb2 ho2)
        clear ho2 hb2 hown hgrow s1 s2
        go_wp2
        exact bodyPost_ret (v := .tuple #[.int .u64 (slotGen l : Nat), v2, .int .i64 0]) (by simp [results, go_sem]) rfl HT.out
      · have HN : Hid (isSlot l = false) := by unfold Hid; rw [HIF.out, decide_eq_false heq]
        have hne2 := hne heq
        clear hne HIF heq
        generalize strOf (slotOf (slotGen l) (slotBody l)) = x1 at *
        generalize strOf l = x2 at *
        go_wp2
        exact bodyPost_ret (v := .tuple #[.int .u64 0, .slice none 0 0, .int .i64 2]) (by simp [results, go_sem]) rfl (taken_no HN.out HB1.out)
  · have HN := Lib.hid (isSlot_long h128)
    have h1 : ((l.length : Int) == 128) = false := by rw [beq_eq_false_iff_ne]; omega
    have h2 : ¬ l.length = 128 := h128
    clear h128 hspot
    go_enter Try.func11, Try.ntmps11
    go_wp2
    exact bodyPost_ret (v := .tuple #[.int .u64 0, .slice none 0 0, .int .i64 2]) (by simp [results, go_sem]) rfl (taken_no HN.out (Below.refl _ _))

set_option maxRecDepth 100000 in
theorem refBetter_any (u v : Value) (a b : List Nat) (w : World) (hu : Bytes w u a) (hv : Bytes w v b) (ha : a.length ≤ 17592186044416) (hb : b.length ≤ 17592186044416) :
    Calls Try.prog 13 #[u, v] w fun e w' => Bettered w a b e w' := by
  have HA := Lib.hid (refTake_any u a w hu ha)
  have HV := Lib.hid hv
  have HBL := Lib.hid hb
  obtain ⟨p, cap, hu'⟩ : ∃ p cap, u = .slice p a.length cap := let ⟨p, cap, h, _⟩ := hu.any; ⟨p, cap, h⟩
  obtain ⟨q, cup, hv'⟩ : ∃ p cap, v = .slice p b.length cap := let ⟨p, cap, h, _⟩ := hv.any; ⟨p, cap, h⟩
  subst hu' hv'
  clear hu hv ha hb
  cases hia : isSlot a
  · have ea := (st_none hia).1
    cases hib : isSlot b
    · have eb := (st_none hib).1
      have hn := st_none hia
      have HW : Hid (btWins a b = false) := by unfold Hid btWins; rw [hib]; rfl
      go_enter Try.func13, Try.ntmps13
      go_wp2_with fail
      refine HA.out.mono ?_
      rintro e w1 ⟨p1, c1, rfl, hy1, hb1⟩
      have HY1 := Lib.hid hy1
      have HB1 := Lib.hid hb1
      have HB2 := Lib.hid (refTake_any _ b w1 (HV.out.below hb1) HBL.out)
      clear hy1 hb1 HA
      go_wp2_with fail
      refine HB2.out.mono ?_
      rintro e w2 ⟨p2, c2, rfl, hy2, hb2⟩
      have HT : Bettered w a b (.returned (.tuple #[.int .i64 0, .int .u64 0, .slice none 0 0, .int .i64 2])) w2 := by
        have e3 : stBody a = [] := hn.2.2
        have hx : Bytes w2 (.slice none (stBody a).length 0) (stBody a) := by rw [e3]; exact Bytes.nil _
        have := better_no HW.out hx (HB1.out.trans (hb2.mono HB1.out.size))
        rw [hn.2.1, ea, e3] at this
        exact this
      have HT := Lib.hid HT
      clear hy2 hb2 hn
      go_wp2
      exact bodyPost_ret (v := .tuple #[.int .i64 0, .int .u64 0, .slice none 0 0, .int .i64 2]) (by simp [results, go_sem]) rfl HT.out
    · have eb := (st_some hib).1
      have HW : Hid (btWins a b = true) := by unfold Hid btWins; rw [hib, hia]; rfl
      clear hia hib
      go_enter Try.func13, Try.ntmps13
      go_wp2_with fail
      refine HA.out.mono ?_
      rintro e w1 ⟨p1, c1, rfl, hy1, hb1⟩
      have HB1 := Lib.hid hb1
      have HB2 := Lib.hid (refTake_any _ b w1 (HV.out.below hb1) HBL.out)
      clear hy1 hb1 HA
      go_wp2_with fail
      refine HB2.out.mono ?_
      rintro e w2 ⟨p2, c2, rfl, hy2, hb2⟩
      have HT := Lib.hid (better_yes HW.out hy2 (HB1.out.trans (hb2.mono HB1.out.size)))
      clear hy2 hb2
      go_wp2
      exact bodyPost_ret (v := .tuple #[.int .i64 1, .int .u64 (stGen b : Nat), .slice p2 (stBody b).length c2, .int .i64 0]) (by simp [results, go_sem]) rfl HT.out
  · have ea := (st_some hia).1
    have hga := (st_some hia).2.1
    cases hib : isSlot b
    · have eb := (st_none hib).1
      have HW : Hid (btWins a b = false) := by unfold Hid btWins; rw [hib]; rfl
      clear hia hib hga
      go_enter Try.func13, Try.ntmps13
      go_wp2_with fail
      refine HA.out.mono ?_
      rintro e w1 ⟨p1, c1, rfl, hy1, hb1⟩
      have HY1 := Lib.hid hy1
      have HB1 := Lib.hid hb1
      have HB2 := Lib.hid (refTake_any _ b w1 (HV.out.below hb1) HBL.out)
      clear hy1 hb1 HA
      go_wp2_with fail
      refine HB2.out.mono ?_
      rintro e w2 ⟨p2, c2, rfl, hy2, hb2⟩
      have HT := Lib.hid (better_no HW.out (HY1.out.below hb2) (HB1.out.trans (hb2.mono HB1.out.size)))
      rw [ea] at HT
      clear hy2 hb2
      go_wp2
      exact bodyPost_ret (v := .tuple #[.int .i64 0, .int .u64 (stGen a : Nat), .slice p1 (stBody a).length c1, .int .i64 0]) (by simp [results, go_sem]) rfl HT.out
    · have eb := (st_some hib).1
      have hgb := (st_some hib).2.1
      by_cases hlt : stGen a < stGen b
      · have HW : Hid (btWins a b = true) := by unfold Hid btWins; rw [hib, hia, ← hga, ← hgb, decide_eq_true hlt]; rfl
        have hlt' : ((stGen a : Nat) : Int) < ((stGen b : Nat) : Int) := by omega
        have hge : ¬ ((stGen b : Nat) : Int) ≤ ((stGen a : Nat) : Int) := by omega
        clear hia hib hga hgb hlt
        go_enter Try.func13, Try.ntmps13
        go_wp2_with fail
        refine HA.out.mono ?_
        rintro e w1 ⟨p1, c1, rfl, hy1, hb1⟩
        have HB1 := Lib.hid hb1
        have HB2 := Lib.hid (refTake_any _ b w1 (HV.out.below hb1) HBL.out)
        clear hy1 hb1 HA
        go_wp2_with fail
        refine HB2.out.mono ?_
        rintro e w2 ⟨p2, c2, rfl, hy2, hb2⟩
        have HT := Lib.hid (better_yes HW.out hy2 (HB1.out.trans (hb2.mono HB1.out.size)))
        clear hy2 hb2
        go_wp2
        exact bodyPost_ret (v := .tuple #[.int .i64 1, .int .u64 (stGen b : Nat), .slice p2 (stBody b).length c2, .int .i64 0]) (by simp [results, go_sem]) rfl HT.out
      · have HW : Hid (btWins a b = false) := by unfold Hid btWins; rw [hib, hia, ← hga, ← hgb, decide_eq_false hlt]; rfl
        have hge : ((stGen b : Nat) : Int) ≤ ((stGen a : Nat) : Int) := by omega
        clear hia hib hga hgb hlt
        go_enter Try.func13, Try.ntmps13
        go_wp2_with fail
        refine HA.out.mono ?_
        rintro e w1 ⟨p1, c1, rfl, hy1, hb1⟩
        have HY1 := Lib.hid hy1
        have HB1 := Lib.hid hb1
        have HB2 := Lib.hid (refTake_any _ b w1 (HV.out.below hb1) HBL.out)
        clear hy1 hb1 HA
        go_wp2_with fail
        refine HB2.out.mono ?_
        rintro e w2 ⟨p2, c2, rfl, hy2, hb2⟩
        have HT := Lib.hid (better_no HW.out (HY1.out.below hb2) (HB1.out.trans (hb2.mono HB1.out.size)))
        rw [ea] at HT
        clear hy2 hb2
        go_wp2
        exact bodyPost_ret (v := .tuple #[.int .i64 0, .int .u64 (stGen a : Nat), .slice p1 (stBody a).length c1, .int .i64 0]) (by simp [results, go_sem]) rfl HT.out
end Go.Proofs.Ytjkbhlfgkpopdaa
