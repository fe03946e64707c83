/- rec: the document's records are taken. -/
import Derived.Test.YtajfcnaifegonaaMRecF
import Derived.Deep.RegionHeld3
namespace Go.Proofs.Ytajfcnaifegonaa.Rc
open Go Go.RowKit Go.By
theorem bytes_drewN {w : World} {v : Value} {l : List Nat} (h : Bytes w v l) (n : Nat) : Bytes (w.drewN n) v l where
  out := by
    rcases h.out with h1 | h1 | ⟨b, off, cap, rfl, h2, hc⟩
    · exact .inl h1
    · exact .inr (.inl h1)
    · exact .inr <| .inr ⟨b, off, cap, rfl, h2, fun i hi => hc i hi⟩
  small := h.small
  short := h.short
theorem below_drewN {B : Nat} (w : World) (n : Nat) : Below B w (w.drewN n) := ⟨rfl, rfl, rfl, Nat.le_refl _, fun _ _ => rfl⟩
theorem isRec_short {l : List Nat} (h : l.length < 9) : isRec l = false := by
  have : partOk l 3 = false := by
    simp only [partOk]
    rw [decide_eq_false (by omega)]; rfl
  simp [isRec, this]
theorem isRec_great {l : List Nat} (h : 4096 < bodyLen l) : isRec l = false := by
  have : partOk l 0 = false := by
    simp only [partOk]
    rw [decide_eq_false (p := bodyLen l ≤ 4096) (by omega), Bool.and_false]
  simp [isRec, this]
theorem isRec_ends {l : List Nat} (h : l.length < 9 + bodyLen l) : isRec l = false := by
  have : partOk l 3 = false := by
    simp only [partOk]
    rw [decide_eq_false (by omega)]; rfl
  simp [isRec, this]
theorem isRec_sum {l : List Nat} (h1 : bodyLen l ≤ 4096) (h2 : 9 + bodyLen l ≤ l.length) : isRec l = (numOf (pc l (5 + bodyLen l) 4) == Crc.sum (l.take (5 + bodyLen l))) := by
  simp only [isRec, partOk]
  rw [decide_eq_true h1, decide_eq_true h2, decide_eq_true (p := 4 ≤ l.length) (by omega), decide_eq_true (p := 5 ≤ l.length) (by omega), decide_eq_true (p := 5 + bodyLen l ≤ l.length) (by omega)]
  simp
set_option maxRecDepth 100000 in
theorem refTake_any (sv : Value) (l : List Nat) (w : World) (hsv : Bytes w sv l) (hl : l.length ≤ 17592186044416) :
    Calls Try.prog 43 #[sv] w fun e w' => Took w.heap.size w l e w' := by
  obtain ⟨p, cap, rfl, hspot⟩ := hsv.any
  have HSV := Lib.hid hsv
  have HSP := Lib.hid hspot
  clear hsv hspot
  by_cases h9 : l.length < 9
  · have HN := Lib.hid (isRec_short h9)
    have h9' : (l.length : Int) < 9 := by omega
    clear h9
    go_enter Try.func43, Try.ntmps43
    go_wp2
    exact bodyPost_ret (v := .tuple #[.int .u8 0, .slice none 0 0, .int .i64 0, .int .i64 2]) (by simp [results, go_sem]) rfl (took_no HN.out (Below.refl _ _))
  · have h9' : ¬ (l.length : Int) < 9 := by omega
    have hup := upto_runI p l.length cap 4 4 rfl (by have := HSV.out.room.2; omega)
    have HNUM := Lib.hid (num_any _ _ w (HSV.out.upto (n := 4) (by omega)) (by simp; omega))
    have hbl : numOf (l.take 4) = bodyLen l := by simp [bodyLen, pc]
    rw [hbl] at HNUM
    have hn32 : (bodyLen l : Int) < 4294967296 := by
      have h1 := numOf_lt (pc l 0 4) (pc_small HSV.out.small)
      rw [pc_length (by omega)] at h1
      unfold bodyLen; omega
    have hw9 : IntKind.u64.wrap ((bodyLen l : Int) + 9) = (bodyLen l : Int) + 9 := by rw [IntKind.wrap_u64]; omega
    have HL := Lib.hid hl
    clear h9 hbl hn32 hl
    by_cases h4 : 4096 < bodyLen l
    · have HN := Lib.hid (isRec_great h4)
      have h4' : (4096 : Int) < bodyLen l := by omega
      clear h4
      generalize bodyLen l = n at *
      go_enter Try.func43, Try.ntmps43
      go_wp2_with fail
      refine HNUM.out.mono ?_
      rintro e w1 ⟨rfl, rfl⟩
      go_wp2
      exact bodyPost_ret (v := .tuple #[.int .u8 0, .slice none 0 0, .int .i64 0, .int .i64 2]) (by simp [results, go_sem]) rfl (took_no HN.out (Below.refl _ _))
    · have h4' : (bodyLen l : Int) ≤ 4096 := by omega
      by_cases he : l.length < 9 + bodyLen l
      · have HN := Lib.hid (isRec_ends he)
        have he' : (l.length : Int) < (bodyLen l : Int) + 9 := by omega
        clear h4 he
        generalize bodyLen l = n at *
        go_enter Try.func43, Try.ntmps43
        go_wp2_with fail
        refine HNUM.out.mono ?_
        rintro e w1 ⟨rfl, rfl⟩
        go_wp2
        exact bodyPost_ret (v := .tuple #[.int .u8 0, .slice none 0 0, .int .i64 0, .int .i64 2]) (by simp [results, go_sem]) rfl (took_no HN.out (Below.refl _ _))
      · have he' : (bodyLen l : Int) + 9 ≤ (l.length : Int) := by omega
        have hup2 := upto_runI p l.length cap (5 + bodyLen l) ((bodyLen l : Int) + 5) (by omega) (by have := HSV.out.room.2; omega)
        obtain ⟨q, c, hpr, hpb⟩ := piece_run HSV.out (5 + bodyLen l) 4 (by omega)
        have e54 : ((5 + bodyLen l : Nat) : Int) + (4 : Nat) = (bodyLen l : Int) + 5 + 4 := by omega
        have e5 : ((5 + bodyLen l : Nat) : Int) = (bodyLen l : Int) + 5 := by omega
        rw [e54, e5] at hpr
        have HIS := Lib.hid (isRec_sum (by omega) (by omega : 9 + bodyLen l ≤ l.length))
        have hs1 : ∀ n, Calls Try.prog 70 #[.slice p (5 + bodyLen l) cap] (w.drewN n) fun e w' => e = .returned (.int .u32 (Crc.sum (l.take (5 + bodyLen l)) : Nat)) ∧ w' = w.drewN n := fun n =>
          (ref_any _ _ _ (bytes_drewN (HSV.out.upto (n := 5 + bodyLen l) (by omega)) n)).mono fun _ _ ⟨h1, h2⟩ => ⟨h1, h2.symm⟩
        have hs2 : ∀ n, Calls Try.prog 69 #[.slice q 4 c] (w.drewN n) fun e w' => e = .returned (.int .u64 (numOf (pc l (5 + bodyLen l) 4) : Nat)) ∧ w' = w.drewN n := fun n =>
          (num_any _ _ _ (bytes_drewN hpb n) (by rw [pc_length (by omega)]; omega)).mono fun _ _ ⟨h1, h2⟩ => ⟨h1, h2.symm⟩
        have hws : IntKind.u64.wrap ((Crc.sum (l.take (5 + bodyLen l)) : Nat) : Int) = ((Crc.sum (l.take (5 + bodyLen l)) : Nat) : Int) := by
          have := Crc.sum_lt (l.take (5 + bodyLen l)) (fun c hc => HSV.out.small c (List.mem_of_mem_take hc))
          rw [IntKind.wrap_u64]; omega
        have hwl : IntKind.u64.wrap (l.length : Int) = (l.length : Int) := by have := HL.out; rw [IntKind.wrap_u64]; omega
        have HS1 := Lib.hid hs1
        have HS2 := Lib.hid hs2
        clear hs1 hs2 h4 he hpb e54 e5
        have HBODY := Lib.hid (piece_run HSV.out 5 (bodyLen l) (by have := he'; omega))
        generalize Crc.sum (l.take (5 + bodyLen l)) = s at *
        generalize numOf (pc l (5 + bodyLen l) 4) = x at *
        by_cases hsx : x = s
        · have HN : Hid (isRec l = true) := by unfold Hid; rw [HIS.out, hsx]; simp
          obtain ⟨q2, c2, hpr2, hpb2⟩ := HBODY.out
          have e55 : ((5 : Nat) : Int) + (bodyLen l : Int) = (bodyLen l : Int) + 5 := by omega
          have e5' : ((5 : Nat) : Int) = 5 := rfl
          rw [e55, e5'] at hpr2
          have hb4 := fun W (hb : Bytes W (.slice p l.length cap) l) => hb.spot 4 (by omega)
          have hT : ∀ v' w', Below w.heap.size w w' → w'.ownsRow w.heap.size 5 1 v' (pc l 5 (bodyLen l)).length (cellsOf (pc l 5 (bodyLen l))) → Took w.heap.size w l (.returned (.tuple #[.int .u8 (atB l 4 : Nat), v', .int .i64 ((bodyLen l : Int) + 5 + 4), .int .i64 0])) w' := fun v' w' h1 h2 => by
            have := took_yes HN.out h1 h2
            rw [show (((9 + bodyLen l : Nat)) : Int) = (bodyLen l : Int) + 5 + 4 by omega] at this
            exact this
          have HT := Lib.hid hT
          clear hT
          have HB4 := Lib.hid hb4
          have HPB2 := Lib.hid hpb2
          have hbl2 : (pc l 5 (bodyLen l)).length = bodyLen l := pc_length (by omega)
          have HBL2 := Lib.hid hbl2
          clear e55 e5' hpb2 HBODY HIS hb4 hbl2
          subst hsx
          generalize pc l 5 (bodyLen l) = body at *
          generalize bodyLen l = n at *
          go_enter Try.func43, Try.ntmps43
          go_wp2_with fail
          refine HNUM.out.mono ?_
          rintro e w1 ⟨rfl, rfl⟩
          go_wp2
          go_quiet ((first
            | (go_at_call 70; exact Calls.quiet_of_same (HS1.out _))
            | (go_at_call 69; exact Calls.quiet_of_same (HS2.out _))))
          have hBW : Below w.heap.size w (w.drewN nq) := below_drewN _ _
          have hsz : (w.drewN nq).heap.size = w.heap.size := rfl
          generalize w.drewN nq = W at *
          obtain ⟨pb, po, rfl, hcell⟩ := HB4.out W (HSV.out.below hBW)
          have HW := Lib.hid hBW
          have HZ := Lib.hid hsz
          have h4l : (4 : Int) < l.length := by omega
          have hpl : pb < W.heap.size := block_lt_of_cell hcell
          have hca : (W.alloc (.cells #[] 5)).cell? ⟨pb, po + 4, none⟩ = some (.int .u8 (atB l 4 : Nat)) := (World.cell?_alloc_lt _ _ _ (by simpa using hpl)).trans hcell
          have HCA := Lib.hid hca
          have H54 := Lib.hid (show IntKind.i64.wrap ((n : Int) + 5 + 4) = (n : Int) + 5 + 4 from IntWalk.i64_in _ (by omega))
          have HPL := Lib.hid hpl
          clear hBW hsz hpl
          go_wp2
          go_region_law ((refine step_append_bytesR rfl (.tmp 42) (.tmp 45) byT rfl W.heap.size (.slice (some ⟨W.heap.size, 0, none⟩) 0 0) 0 [] rfl (World.ownsRow_made _ #[] 0 (Nat.le_refl _) (by decide) rfl) (.slice q2 n c2) body rfl (HPB2.out.below (HW.out.trans (((Below.refl _ _).alloc (Nat.le_of_eq HZ.out.symm) _).drew))) (by rw [HBL2.out]; omega) (by simp) ?_; intro v' w' hown hgrow; have hc2 : w'.cell? ⟨pb, po + 4, none⟩ = some (.int .u8 (atB l 4 : Nat)) := hgrow.cell (HCA.out) (by have := HPL.out; simp [Value.ownBlock]; omega)))
          all_goals
            have ho : w'.ownsRow w.heap.size 5 1 v' body.length (cellsOf body) := by
              have := hown
              rw [HZ.out, Nat.zero_add, List.nil_append] at this
              exact this
            have hb : Below w.heap.size w w' := Below.grown (HW.out.trans ((Below.refl _ _).alloc (Nat.le_of_eq HZ.out.symm) _).drew) hgrow (by have := HZ.out; simp; omega) (by have := HZ.out; simp [Value.ownBlock]; omega)
            have HO := Lib.hid (HT.out v' w' hb ho)
            clear ho hb hown hgrow hc2
            go_wp2
            exact bodyPost_ret (v := .tuple #[.int .u8 (atB l 4 : Nat), v', .int .i64 ((n : Int) + 5 + 4), .int .i64 0]) (by simp [results, go_sem, H54.out]) rfl HO.out
        · have HN : Hid (isRec l = false) := by unfold Hid; rw [HIS.out]; simpa using hsx
          have hsx' : ¬ (s : Int) = x := by omega
          clear hsx HBODY HIS
          generalize bodyLen l = n at *
          go_enter Try.func43, Try.ntmps43
          go_wp2_with fail
          refine HNUM.out.mono ?_
          rintro e w1 ⟨rfl, rfl⟩
          go_wp2
          go_outline
          go_quiet ((first
            | (go_at_call 70; exact Calls.quiet_of_same (HS1.out _))
            | (go_at_call 69; exact Calls.quiet_of_same (HS2.out _))))
          go_wp2
          exact bodyPost_ret (v := .tuple #[.int .u8 0, .slice none 0 0, .int .i64 0, .int .i64 2]) (by simp [results, go_sem]) rfl (took_no HN.out (below_drewN _ _))
end Go.Proofs.Ytajfcnaifegonaa.Rc
