/- The law FileSynced: every call of it returns true, and all that was there before the call is as it was. No condition. -/
import Derived.Test.YtldkeelgnfegeaaGreatRows
import Derived.Test.YtldkeelgnfegeaaGreatMFlK
import Derived.Test.YtldkeelgnfegeaaGreatMFlL
import Derived.Test.YtldkeelgnfegeaaGreatMFlM

namespace Go.Proofs.YtldkeelgnfegeaaGreat
open Go Go.ChangeShapes Go.WideShapes Go.ChangeAt Go.RowKit Go.By

def kpT : List (ByteArray × Nat) := [(tT, 1)]
/-- What the first loop keeps. -/
structure FS (W : World) (T : Nat → Value × List Nat) (a g k : Nat) (offs : Value) (R : List Nat) (C : List Nat) (E ops : Nat) (os : List ByteOp) (own : Own) (w : World) : Prop where
  fE : E = 256 + C.length
  two : Two W a g tT E (oneF tT 1048576 ops 0 kpT [] (K3 zero128 zero128 C) [] os) 2 2 offs (.slice none 0 0) R [] own w
  redone : Redone (K3 zero128 zero128 C) [] os
  good : ∀ j, j < R.length → 256 ≤ R.getD j 0 ∧ ∃ m, C.drop (R.getD j 0 - 256) = recOf 7 (T j).2 ++ m
  fR : R.length = k
  fops : ops ≤ 3 + k
  fos : os.length ≤ 1 + k
  fC : C.length ≤ 309 * k
theorem fs_next {W : World} {T : Nat → Value × List Nat} {a g k : Nat} {o o' : Value} {R C B : List Nat} {E E2 ops : Nat} {os : List ByteOp} {own own' : Own} {w w' : World} (h : FS W T a g k o R C E ops os own w) (hB : B = (T k).2) (hBl : B.length ≤ 300) (hE2 : E2 = 256 + (C ++ recOf 7 B).length)
    (hQ : Two W a g tT E2 (oneF tT 1048576 (ops + 1) (0 - 1) kpT [] (K3 zero128 zero128 (C ++ recOf 7 B)) [] (os ++ [.write E (recOf 7 B)])) 2 2 o' (.slice none 0 0) (R ++ [E]) [] own' w') :
    FS W T a g (k + 1) o' (R ++ [E]) (C ++ recOf 7 B) E2 (ops + 1) (os ++ [.write E (recOf 7 B)]) own' w' := by
  have f1 := h.fops; have f3 := h.fos; have f4 := h.fC; have f5 := h.fR; have fE := h.fE
  refine ⟨hE2, hQ, ?_, fun j hj => ?_, by rw [List.length_append, List.length_singleton]; omega, by omega, by rw [List.length_append, List.length_singleton]; omega, by rw [List.length_append, recOf_length]; omega⟩
  · have := h.redone.append zero128_length zero128_length 7 B
    rw [← fE] at this
    exact this
  · rw [List.length_append, List.length_singleton] at hj
    by_cases hjr : j < R.length
    · obtain ⟨g1, m, g3⟩ := h.good j hjr
      have e : (R ++ [E]).getD j 0 = R.getD j 0 := by
        rw [List.getD_eq_getElem?_getD, List.getElem?_append_left hjr, ← List.getD_eq_getElem?_getD]
      rw [e]
      exact ⟨g1, _, drop_more g3⟩
    · obtain rfl : j = k := by omega
      have e : (R ++ [E]).getD j 0 = E := by
        rw [List.getD_eq_getElem?_getD, List.getElem?_append_right (by omega), show j - R.length = 0 by omega]; rfl
      rw [e]
      refine ⟨by omega, [], ?_⟩
      rw [show E - 256 = C.length by omega, List.drop_left, List.append_nil, hB]

/-- What the second loop keeps. -/
structure FT (W : World) (T : Nat → Value × List Nat) (a g k i : Nat) (offs : Value) (R : List Nat) (C X : List Nat) (E ops : Nat) (ws : List (Nat × List Nat)) (own : Own) (w : World) : Prop where
  fE : E = 256 + (C ++ X).length
  two : Two W a g tT E (oneF tT 1048576 ops 0 kpT [] (K3 zero128 zero128 (C ++ X)) (K3 zero128 zero128 C) (writeOps ws)) 2 2 offs (.slice none 0 0) R [] own w
  good : ∀ j, j < R.length → 256 ≤ R.getD j 0 ∧ ∃ m, C.drop (R.getD j 0 - 256) = recOf 7 (T j).2 ++ m
  behind : ∀ p ∈ ws, 256 + C.length ≤ p.1 ∧ p.1 + p.2.length ≤ 100000
  fR : R.length = k
  fk : k ≤ 10
  fops : ops ≤ 4 + k + i
  fws : ws.length ≤ i
  fC : C.length ≤ 309 * k
  fX : X.length ≤ 309 * i
theorem ft_next {W : World} {T : Nat → Value × List Nat} {a g k i : Nat} {o : Value} {R C X B : List Nat} {E E2 ops : Nat} {ws : List (Nat × List Nat)} {own own' : Own} {w w' : World} (h : FT W T a g k i o R C X E ops ws own w) (hi : i ≤ 10) (hBl : B.length ≤ 300) (hE2 : E2 = 256 + ((C ++ X) ++ recOf 8 B).length)
    (hm : Moves g own own' w w') (hd : Dsk W a (oneF tT 1048576 (ops + 1) (0 - 1) kpT [] (K3 zero128 zero128 ((C ++ X) ++ recOf 8 B)) (K3 zero128 zero128 C) (writeOps ws ++ [.write E (recOf 8 B)])) own' w') (hf : Fil W g a tT E2 own' w') :
    FT W T a g k (i + 1) o R C (X ++ recOf 8 B) E2 (ops + 1) (ws ++ [(E, recOf 8 B)]) own' w' := by
  have f1 := h.fops; have f3 := h.fws; have f4 := h.fC; have f5 := h.fR; have fE := h.fE; have f6 := h.fX; have f7 := h.fk
  rw [List.length_append] at fE
  rw [writeOps_snoc] at hd
  rw [List.append_assoc] at hd hE2
  refine ⟨hE2, ⟨hd, hf, h.two.r1.moves hm, h.two.r2.moves hm, h.two.apart⟩, h.good, fun p hp => ?_, f5, f7, by omega, by rw [List.length_append, List.length_singleton]; omega, f4, by rw [List.length_append, recOf_length]; omega⟩
  rcases List.mem_append.1 hp with hp | hp
  · exact h.behind p hp
  · rw [List.mem_singleton] at hp
    subst hp
    dsimp only
    rw [recOf_length]
    omega

theorem free_old {W w : World} {v : Value} {l : List Nat} {own : Own} (hb : Bytes w v l) (hw : w.heap.size ≤ W.heap.size) (far : ∀ k r, own k = some r → W.heap.size ≤ k) (hne : l ≠ []) : ∀ k, v.ownBlock = some k → own k = none := by
  intro k hk
  rcases hb.out with ⟨_, h1⟩ | ⟨_, _, h1⟩ | ⟨b, off, cap, rfl, h2, hc⟩
  · exact absurd h1 hne
  · exact absurd h1 hne
  · cases hk
    have hlt : b < w.heap.size := block_lt_of_cell (hc 0 (List.length_pos_iff.2 hne))
    cases e : own b with
    | none => rfl
    | some r => have := far b r e; omega

/-- What the third loop keeps. -/
structure FU (W : World) (T : Nat → Value × List Nat) (a g g2 : Nat) (offs : Value) (R : List Nat) (C Y : List Nat) (k : Nat) (oj : Nat × Nat) (own : Own) (w : World) : Prop where
  disk : Dsk W a (oneF tT 1048576 oj.1 0 kpT [] (K3 zero128 zero128 (C ++ Y)) (K3 zero128 zero128 (C ++ Y)) []) own w
  file : Fil W g2 a tT (K3 zero128 zero128 (C ++ Y)).length own w
  r1 : IRow W g 2 offs R own w
  good : ∀ j, j < R.length → 256 ≤ R.getD j 0 ∧ ∃ m, C.drop (R.getD j 0 - 256) = recOf 7 (T j).2 ++ m
  short : 256 + (C ++ Y).length ≤ 200000
  fR : R.length = k
  fops : oj.1 ≤ 30 + oj.2
  fk : k ≤ 10
theorem FU.at_ {W : World} {T : Nat → Value × List Nat} {a g g2 k j ops : Nat} {o : Value} {R C Y : List Nat} {own : Own} {w : World} (h : FU W T a g g2 o R C Y k (ops, j) own w) (hj : j < R.length) :
    256 ≤ R.getD j 0 ∧ ∃ m, (K3 zero128 zero128 (C ++ Y)).drop (R.getD j 0) = recOf 7 (T j).2 ++ m := by
  obtain ⟨h1, m, h3⟩ := h.good j hj
  refine ⟨h1, m ++ Y, ?_⟩
  · have e : R.getD j 0 = 256 + (R.getD j 0 - 256) := by omega
    rw [e, K3_drop zero128_length zero128_length, drop_more h3]
theorem fu_next {W : World} {T : Nat → Value × List Nat} {a g g2 k j ops : Nat} {o : Value} {R C Y : List Nat} {own : Own} {w w' : World} (h : FU W T a g g2 o R C Y k (ops, j) own w) (hst : Steps own own w w')
    (hd : Dsk W a (oneF tT 1048576 (ops + 1) (0 - 1) kpT [] (K3 zero128 zero128 (C ++ Y)) (K3 zero128 zero128 (C ++ Y)) []) own w') : FU W T a g g2 o R C Y k (ops + 1, j + 1) own w' :=
  ⟨hd, h.file.steps hst, h.r1.steps hst, h.good, h.short, h.fR, by have := h.fops; show ops + 1 ≤ 30 + (j + 1); dsimp only at this; omega, h.fk⟩
theorem FU.drew {W : World} {T : Nat → Value × List Nat} {a g g2 k : Nat} {oj : Nat × Nat} {o : Value} {R C Y : List Nat} {own : Own} {w : World} (h : FU W T a g g2 o R C Y k oj own w) (n : Nat) : FU W T a g g2 o R C Y k oj own (w.drewN n) :=
  ⟨h.disk.stay (Sl.below_drewN w n), h.file.stay (Sl.below_drewN w n), h.r1.stay (Sl.below_drewN w n), h.good, h.short, h.fR, h.fops, h.fk⟩

set_option maxRecDepth 100000 in
set_option maxHeartbeats 40000000 in
theorem synced_any (pa : Option Addr) (na ca : Nat) (A : Nat → Value × List Nat) (pb : Option Addr) (nb cb : Nat) (B : Nat → Value × List Nat) (bv : Value) (bits : List Nat) (w : World) (ha : BodyRow w pa na ca A) (hb : BodyRow w pb nb cb B) (hbits : Bytes w bv bits) :
    Calls Tryz.prog 3 #[.slice pa na ca, .slice pb nb cb, bv] w fun e w' => e = .returned (.bool true) ∧ Below w.heap.size w w' := by
  obtain ⟨q, cq, rfl, _⟩ := hbits.any
  have hca := ha.most
  have hla := ha.le
  have hcb := hb.most
  have hlb := hb.le
  have hcq := hbits.short
  unfold maxLen at hca hcb hcq
  have HA := Lib.hid ha; have HB := Lib.hid hb; have HBITS := Lib.hid hbits
  clear ha hb hbits
  by_cases hna : 10 < na
  · have hd : (10 : Int) < na := by omega
    go_enter Tryz.func3, Tryz.ntmps3
    go_wp2_with (go_at_call 6; refine (begun_any _).mono ?_; rintro e w1 ⟨rfl, hb1⟩)
    have HB1 := Lib.hid hb1; clear hb1
    go_wp2
    go_ret
    exact ⟨rfl, HB1.out⟩
  have hna' : ¬ (10 : Int) < na := by omega
  by_cases hnb : 10 < nb
  · have hd : (10 : Int) < nb := by omega
    go_enter Tryz.func3, Tryz.ntmps3
    go_wp2_with (go_at_call 6; refine (begun_any _).mono ?_; rintro e w1 ⟨rfl, hb1⟩)
    have HB1 := Lib.hid hb1; clear hb1
    go_wp2
    go_ret
    exact ⟨rfl, HB1.out⟩
  have hnb' : ¬ (10 : Int) < nb := by omega
  by_cases hn40 : 40 < bits.length
  · have hd : (40 : Int) < bits.length := by omega
    go_enter Tryz.func3, Tryz.ntmps3
    go_wp2_with (go_at_call 6; refine (begun_any _).mono ?_; rintro e w1 ⟨rfl, hb1⟩)
    have HB1 := Lib.hid hb1; clear hb1
    go_wp2
    go_ret
    exact ⟨rfl, HB1.out⟩
  have hn40' : ¬ (40 : Int) < bits.length := by omega
  go_enter Tryz.func3, Tryz.ntmps3
  go_wp2_with (go_at_call 6; refine (begun_any _).mono ?_; rintro e w1 ⟨rfl, hb1⟩)
  have HB1 := Lib.hid hb1; clear hb1
  refine (new_any 1048576 w1).mono ?_
  rintro e w2 ⟨rfl, hd2, hb2⟩
  have HD2 := Lib.hid (Dsk.new hd2 hb2)
  clear hd2 hb2
  go_wp2_with fail
  refine (new_file tT tT_may (by decide) 1048576 (by omega) HD2.out).mono ?_
  rintro e w3 ⟨g, own3, hg, rfl, hst3, hd3, hf3⟩
  rw [noughts_K3] at hd3
  have HD3 := Lib.hid hd3; have HF3 := Lib.hid hf3
  clear hg hst3 hd3 hf3 HD2
  go_wp2_with fail
  refine (one_syncDir HD3.out (by omega) (by omega)).mono ?_
  rintro e w4 ⟨rfl, own4, hst4, hd4⟩
  have hf4 := HF3.out.steps hst4
  have hre : Redone (K3 zero128 zero128 []) [] [.cut 256] := by rw [← noughts_K3]; exact Redone.new
  have hfs : FS w1 A w1.heap.size g 0 (.slice none 0 0) [] [] 256 3 [.cut 256] own4 w4 :=
    ⟨rfl, ⟨hd4, hf4, IRow.nil _ _ _ _ _, IRow.nil _ _ _ _ _, fun j hj => (by cases hj)⟩, hre, fun j hj => (by cases hj), rfl, by omega, by decide, by decide⟩
  have HFS := Lib.hid hfs
  clear hst4 hd4 hf4 hre hfs HD3 HF3
  go_wp2
  go_loopw [10, 11] (fun offs x wr => ∃ (k : Nat) (R C : List Nat) (E ops : Nat) (os : List ByteOp) (own : Own), x = .int .i64 k ∧ k ≤ na ∧ FS w1 A w1.heap.size g k offs R C E ops os own wr) (fun _ x _ => na - (intOf x).toNat)
  case atStart => exact ⟨0, [], [], 256, 3, _, own4, rfl, by omega, HFS.out⟩
  case round =>
    obtain ⟨k, R, C, E, ops, os, own, rfl, hk, hfs⟩ := hrel
    clear HFS
    have HFS := Lib.hid hfs
    obtain ⟨po, co, rfl⟩ := hfs.two.r1.shape
    by_cases hkl : k < na
    · have hki : (k : Int) < na := by omega
      have HTW := Lib.hid ((HA.out.below HB1.out).below hfs.two.disk.below)
      obtain ⟨lb, lo, rfl, hcell⟩ := HTW.out.at_ k hkl
      obtain ⟨qb, c, hbc, hbb⟩ := HTW.out.body hkl
      obtain ⟨Bk, hBk⟩ : ∃ Bk, Bk = (A k).2 := ⟨_, rfl⟩
      rw [← hBk] at hbc hbb
      have HBT := Lib.hid hBk
      clear hBk hcell
      have hBl := hbb.short
      unfold maxLen at hBl
      by_cases h300 : 300 < Bk.length
      · have h300' : (300 : Int) < Bk.length := by omega
        have HBL := Lib.hid (HB1.out.trans (hfs.two.disk.below.mono HB1.out.size))
        clear hfs hbb h300
        go_wp2
        go_ret
        exact ⟨rfl, HBL.out⟩
      · have h300' : ¬ (300 : Int) < Bk.length := by omega
        have hfC := hfs.fC
        have hfE := hfs.fE
        have hap := one_append (A := zero128) (B := zero128) (C := C) (b := Bk) (k := 7) hfs.two.disk (by rw [← hfE]; exact hfs.two.file) tT_may (by decide) (by omega) zero128_length zero128_length (by omega) (by omega) (by have := hfs.fops; have := hfs.fos; exact ⟨by omega, by omega, by decide, by omega⟩) (by omega) hbb (by omega)
        rw [← hfE] at hap
        have HAP := Lib.hid hap
        obtain ⟨E2, hE2⟩ : ∃ E2, E2 = 256 + (C ++ recOf 7 Bk).length := ⟨_, rfl⟩
        rw [← hE2] at HAP
        have HE2 := Lib.hid hE2
        have HRK := Lib.hid hfs.fR
        clear hap hfs hbb h300 hfE hE2
        go_wp2_with fail
        refine HAP.out.mono ?_
        rintro e w6 ⟨rfl, own6, hm6, hd6, hf6⟩
        have HR1 := Lib.hid (HFS.out.two.r1.moves hm6)
        have HR2 := Lib.hid (HFS.out.two.r2.moves hm6)
        have HAPT := Lib.hid HFS.out.two.apart
        have HZ : Hid (w1.heap.size ≤ w6.heap.size ∧ g < w6.heap.size ∧ R.length ≤ 1000000) := ⟨hd6.below.size, hf6.lt, by have := HRK.out; omega⟩
        have HD6 := Lib.hid hd6; have HF6 := Lib.hid hf6
        clear hm6 hd6 hf6 HAP
        go_wp2_with (at_builtin; first
          | (refine wpList_append_int rfl (.tmp 75) (.tmp 77) 32 2 rfl int64T info64 HR1.out HZ.out.1 (fun j hj => HD6.out.new_none hj) HZ.out.2.1 HZ.out.2.2 rfl rfl ?_
             intro v1 w7 hr1 hg1 hat1
             have HQ := Lib.hid (after_one HD6.out HF6.out HR1.out HR2.out HAPT.out hr1 hg1 hat1)
             clear hr1 hg1 hat1))
        have HFS2 := Lib.hid (fs_next HFS.out HBT.out (by omega) HE2.out HQ.out)
        clear HQ HFS HR1 HR2 HD6 HF6
        exact ⟨⟨k + 1, R ++ [E], C ++ recOf 7 Bk, E2, ops + 1, _, own6, by go_num, by omega, HFS2.out⟩, by simp [intOf]; omega⟩
    · have hki : ¬ (k : Int) < na := by omega
      obtain rfl : k = na := by omega
      have hfC := hfs.fC
      have HRK := Lib.hid hfs.fR
      have HSY := Lib.hid (one_sync hfs.two.disk hfs.two.file tT_may (by decide) (by omega) (by omega) (by rw [K3_length zero128_length zero128_length]; omega) (by have := hfs.fops; have := hfs.fos; exact ⟨by omega, by omega, by decide, by omega⟩) hfs.redone)
      clear hfs hk hkl
      go_wp2_with fail
      refine HSY.out.mono ?_
      rintro e w6 ⟨rfl, own6, hst6, hd6, hf6⟩
      have hft : FT w1 A w1.heap.size g k 0 (.slice po R.length co) R C [] E (ops + 1) [] own6 w6 :=
        ⟨by rw [List.append_nil]; exact HFS.out.fE, ⟨by rw [List.append_nil]; exact hd6, hf6, HFS.out.two.r1.steps hst6, HFS.out.two.r2.steps hst6, HFS.out.two.apart⟩, HFS.out.good, fun p hp => (by cases hp), HFS.out.fR, by omega, by have := HFS.out.fops; omega, by decide, HFS.out.fC, by decide⟩
      have HFT := Lib.hid hft
      clear hst6 hd6 hf6 hft HSY HFS
      go_wp2
      go_loopw [14] (fun x wr => ∃ (i : Nat) (X : List Nat) (E ops : Nat) (ws : List (Nat × List Nat)) (own : Own), x = .int .i64 i ∧ i ≤ nb ∧ FT w1 A w1.heap.size g k i (.slice po R.length co) R C X E ops ws own wr) (fun x _ => nb - (intOf x).toNat)
      case atStart => exact ⟨0, [], E, ops + 1, [], own6, rfl, by omega, HFT.out⟩
      case round =>
        obtain ⟨i, X, E, ops, ws, own, rfl, hi, hft⟩ := hrel
        clear HFT
        have HFT := Lib.hid hft
        by_cases hil : i < nb
        · have hii : (i : Int) < nb := by omega
          have HTW := Lib.hid ((HB.out.below HB1.out).below hft.two.disk.below)
          obtain ⟨lb, lo, rfl, hcell⟩ := HTW.out.at_ i hil
          obtain ⟨qb, c, hbc, hbb⟩ := HTW.out.body hil
          obtain ⟨Bk, hBk⟩ : ∃ Bk, Bk = (B i).2 := ⟨_, rfl⟩
          rw [← hBk] at hbc hbb
          clear hBk hcell
          have hBl := hbb.short
          unfold maxLen at hBl
          by_cases h300 : 300 < Bk.length
          · have h300' : (300 : Int) < Bk.length := by omega
            have HBL := Lib.hid (HB1.out.trans (hft.two.disk.below.mono HB1.out.size))
            clear hft hbb h300
            go_wp2
            go_ret
            exact ⟨rfl, HBL.out⟩
          · have h300' : ¬ (300 : Int) < Bk.length := by omega
            have hfX := hft.fX
            have hfE := hft.fE
            have hCX : (C ++ X).length = C.length + X.length := List.length_append
            have hap := one_append (A := zero128) (B := zero128) (C := C ++ X) (b := Bk) (k := 8) hft.two.disk (by rw [← hfE]; exact hft.two.file) tT_may (by decide) (by omega) zero128_length zero128_length (by omega) (by omega) (by have := hft.fops; have := hft.fws; exact ⟨by omega, by omega, by decide, by simp [writeOps]; omega⟩) (by omega) hbb (by omega)
            rw [← hfE] at hap
            have HAP := Lib.hid hap
            obtain ⟨E2, hE2⟩ : ∃ E2, E2 = 256 + ((C ++ X) ++ recOf 8 Bk).length := ⟨_, rfl⟩
            rw [← hE2] at HAP
            have HE2 := Lib.hid hE2
            clear hap hft hbb h300 hfE hE2 hCX
            go_wp2_with fail
            refine HAP.out.mono ?_
            rintro e w7 ⟨rfl, own7, hm7, hd7, hf7⟩
            have HFT2 := Lib.hid (ft_next HFT.out (by omega) (by omega) HE2.out hm7 hd7 hf7)
            clear hm7 hd7 hf7 HAP HFT
            go_wp2
            exact ⟨⟨i + 1, X ++ recOf 8 Bk, E2, ops + 1, _, own7, by go_num, by omega, HFT2.out⟩, by simp [intOf]; omega⟩
        · have hii : ¬ (i : Int) < nb := by omega
          obtain rfl : i = nb := by omega
          have hlf := left_front (bit := drawBit bits) (K0 := K3 zero128 zero128 C) (ws := ws) (m := 100000) (fun p hp => by rw [K3_length zero128_length zero128_length]; exact (HFT.out.behind p hp).1) (fun p hp => (HFT.out.behind p hp).2)
          have hCl : (K3 zero128 zero128 C).length = 256 + C.length := K3_length zero128_length zero128_length
          have hcr := one_crash (bits := bits) hft.two.disk (by decide) ((HBITS.out.below HB1.out).below hft.two.disk.below) (fun hne => free_old HBITS.out HB1.out.size hft.two.disk.far hne) (by have := hft.fws; simp [writeOps]; omega) (fun j => by have := (hlf j).2; omega)
          obtain ⟨⟨Y, hY⟩, hYl⟩ := hlf 0
          have hY' : leftK bits (K3 zero128 zero128 C) (writeOps ws) = K3 zero128 zero128 (C ++ Y) := by
            unfold leftK
            rw [hY]; simp [K3]
          rw [hY'] at hcr
          have hYlen : 256 + (C ++ Y).length ≤ 200000 := by
            rw [hY] at hYl
            rw [List.length_append, hCl] at hYl
            rw [List.length_append]; omega
          have HCR := Lib.hid hcr
          have HYL := Lib.hid hYlen
          clear hft hlf hCl hcr hY hYl hY' hYlen
          go_wp2_with fail
          refine HCR.out.mono ?_
          rintro e w7 ⟨rfl, own7, hst7, hd7⟩
          have HR7 := Lib.hid (HFT.out.two.r1.steps hst7)
          have HOP := Lib.hid (one_open hd7 (by rw [K3_length zero128_length zero128_length]; omega))
          clear hst7 hd7 HCR
          go_wp2_with fail
          refine HOP.out.mono ?_
          rintro e w8 ⟨g2, hg2, rfl, hb8, hd8, hf8⟩
          have hfu : FU w1 A w1.heap.size g g2 (.slice po R.length co) R C Y k (ops, 0) own7 w8 := ⟨hd8, hf8, HR7.out.stay hb8, HFT.out.good, HYL.out, HFT.out.fR, by have := HFT.out.fops; show ops ≤ 30 + 0; omega, by omega⟩
          have HFU := Lib.hid hfu
          clear hg2 hb8 hd8 hf8 hfu HOP HR7 HYL HFT
          go_wp2
          go_loopw [16] (fun x wr => ∃ (j ops : Nat), x = .int .i64 j ∧ j ≤ k ∧ FU w1 A w1.heap.size g g2 (.slice po R.length co) R C Y k (ops, j) own7 wr) (fun x _ => k - (intOf x).toNat)
          case atStart => exact ⟨0, ops, rfl, by omega, HFU.out⟩
          case round =>
            obtain ⟨j, ops, rfl, hj, hfu⟩ := hrel
            clear HFU
            have HFU := Lib.hid hfu
            by_cases hjl : j < k
            · have hji : (j : Int) < k := by omega
              have hjR : j < R.length := by rw [HRK.out]; exact hjl
              have hjRi : (j : Int) < R.length := by omega
              obtain ⟨h256, m, hdrop⟩ := hfu.at_ hjR
              obtain ⟨b1, rfl, hc1⟩ := hfu.r1.cell (i := j) hjR
              obtain ⟨o, ho⟩ : ∃ o, o = R.getD j 0 := ⟨_, rfl⟩
              rw [← ho] at h256 hdrop hc1
              have hTW := ((HA.out.below HB1.out).below hfu.disk.below)
              obtain ⟨lb, lo, rfl, _⟩ := hTW.at_ j hjl
              obtain ⟨qb, c, hbc, hbb⟩ := hTW.body hjl
              obtain ⟨Bk, hBk⟩ : ∃ Bk, Bk = (A j).2 := ⟨_, rfl⟩
              rw [← hBk] at hbc hbb hdrop
              have HBT := Lib.hid hBk
              have hfo := hfu.fops; have hsh := hfu.short; have hfk := hfu.fk
              dsimp only at hfo
              have hBl : Bk.length ≤ 4096 := by
                obtain ⟨g1, m', g3⟩ := hfu.good j hjR
                have := congrArg List.length g3
                rw [List.length_drop, List.length_append, recOf_length, ← hBk] at this
                omega
              have hrd := one_read (k := 7) (b := Bk) (m := m) (off := o) hfu.disk hfu.file tT_may (by decide) (by omega) (by omega) (by rw [K3_length zero128_length zero128_length]; omega) (by rw [K3_length zero128_length zero128_length]; omega) ⟨by omega, by omega, by decide, by decide⟩ h256 (by omega) hBl hbb.small hdrop
              have HRD := Lib.hid hrd
              clear hrd hTW hdrop hfu hfo hsh hBl h256 hBk ho hjR
              go_wp2_with fail
              refine HRD.out.mono ?_
              rintro e w9 ⟨p9, c9, rfl, hy9, _, hst9, hd9, hf9⟩
              have hfu9 := fu_next HFU.out hst9 hd9
              have HFU9 := Lib.hid hfu9
              have hTW := ((HA.out.below HB1.out).below hfu9.disk.below)
              obtain ⟨q', c', hbc9, hbb9⟩ := hTW.body hjl
              rw [← HBT.out] at hbc9 hbb9
              have x1 := fun nq => (Sl.bytes_drewN hy9 nq).toString byT (P := Tryz.prog) (d := 9) (by kernel_rfl)
              have x2 := fun nq => (Sl.bytes_drewN hbb9 nq).toString byT (P := Tryz.prog) (d := 9) (by kernel_rfl)
              clear hy9 hst9 hd9 hf9 hfu9 hTW hbb9 HRD HFU HBT hbc hbb hc1
              go_wp2
              go_big_quiet (fail)
              have HFU10 := Lib.hid (HFU9.out.drew nq)
              clear x1 x2 hbc9 HFU9
              generalize w9.drewN nq = w10 at *
              go_wp2
              exact ⟨⟨j + 1, ops + 1, by go_num, by omega, HFU10.out⟩, by simp [intOf]; omega⟩
            · have hji : ¬ (j : Int) < k := by omega
              have HBL := Lib.hid (HB1.out.trans (hfu.disk.below.mono HB1.out.size))
              clear hfu
              go_wp2
              go_ret
              exact ⟨rfl, HBL.out⟩

set_option maxRecDepth 100000 in
theorem synced_lifted (os : Os) (started : os.Started) (H : Type) (enc : TypeId × Value → H) :
    ReturnsInHanded {} Tryz.checked os 3 .any (Rows.fileSyncedSpec.pre6 enc Tryz.prog Tryz.f3 Rows.fileSyncedRow.domain false) (Rows.fileSyncedSpec.post enc Tryz.prog Tryz.f3 false true false false) := by
  refine returnsInHanded_of_change (C := Tryz.checked) Sl.own_none started (by kernel_rfl) Tryz.func3
    (ChangeSpec.witness6 (enc := enc) (C := Tryz.checked) false ⟨#[], #[.slice none 0 0, .slice none 0 0, .slice none 0 0], []⟩ 8 (by kernel_rfl) (by kernel_rfl) (by kernel_rfl) (by kernel_rfl)) ?_
  intro W base args ds gs before hval0 hW hcnd _
  have hval : ∀ (j : Nat) t v, Tryz.f3.params[j]? = some t → args[j]? = some v → Value.okWide Tryz.prog W .any base t v := hval0
  have hW' := hW
  obtain ⟨p, q, hA0, hV, rfl, hfz, hnd⟩ := hW
  have hA : DataW.TrodAll enc Tryz.prog W 0 (fun _ => true) true Tryz.f3.params.toList args.toList ds p := hA0
  have hp : Tryz.f3.params = #[22, 22, 23] := by kernel_rfl
  rw [hp] at hA hval
  obtain ⟨v0, v1, v2, d0, d1, d2, p0, p1, p2, rfl, rfl, rfl, h0, h1, h2⟩ := trodAll_three hA
  obtain ⟨rfl, rfl⟩ := trodVars_none hV
  obtain ⟨pa, na, ca, Ta, rfl, hTa⟩ := open_rows (P := Tryz.prog) (t := 22) (e := 23) (te := 5) (by kernel_rfl) (by kernel_rfl) byT (by kernel_rfl) (hval 0 22 v0 rfl rfl) h0
  obtain ⟨pb, nb, cb, Tb, rfl, hTb⟩ := open_rows (P := Tryz.prog) (t := 22) (e := 23) (te := 5) (by kernel_rfl) (by kernel_rfl) byT (by kernel_rfl) (hval 1 22 v1 rfl rfl) h1
  obtain ⟨bits, hbits⟩ := open_bytes (P := Tryz.prog) byT (by kernel_rfl) (hval 2 23 v2 rfl rfl) h2
  refine (synced_any pa na ca Ta pb nb cb Tb v2 bits W hTa hTb hbits).mono fun e W' ⟨he, hb⟩ => ?_
  subst he
  exact ⟨_, rfl, law_post (tb := 4) Sl.laidOut (by rw [hp]; intro t ht; simp at ht; rcases ht with rfl | rfl <;> exact ⟨by kernel_rfl, by decide +kernel⟩) rfl rfl (by kernel_rfl) (by kernel_rfl) hW' hb⟩

theorem fileSynced_holds : Rows.FileSyncedSaid :=
  OpenClaim.holds_of_wide 3 Tryz.f3 rfl rfl rfl rfl rfl rfl rfl ⟨rfl, rfl, rfl, rfl, rfl⟩ rfl rfl rfl rfl rfl (by kernel_rfl) Tryz.func3 (by kernel_rfl)
    (of_decide_eq_true (by kernel_rfl)) (by unfold Func.isWrapper; rw [if_neg (by decide +kernel)]; exact ⟨rfl, rfl⟩)
    (fun os started H enc _ => synced_lifted os started H enc)
end Go.Proofs.YtldkeelgnfegeaaGreat
