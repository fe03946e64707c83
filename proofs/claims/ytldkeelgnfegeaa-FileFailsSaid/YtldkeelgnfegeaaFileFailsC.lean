/- The law FileFails: every call of it returns true, and all that was there before the call is as it was. No condition. -/
import Derived.Test.YtldkeelgnfegeaaM5
import Derived.Test.YtldkeelgnfegeaaRows
namespace Go.Proofs.Ytldkeelgnfegeaa
open Go Go.ChangeShapes Go.WideShapes Go.ChangeAt Go.RowKit Go.By

/-- What the first loop keeps. -/
structure FF (W : World) (T : Nat → Value × List Nat) (a g k : Nat) (offs there : Value) (R : List (Nat × Nat)) (C : List Nat) (E ops lf : Nat) (os : List ByteOp) (own : Own) (w : World) : Prop where
  fE : E = 256 + C.length
  disk : Dsk W a (oneF tT 1048576 ops lf [] [.create tT 1] (K3 zero128 zero128 C) [] os) own w
  file : Fil W g a tT E own w
  r1 : IRow W g 2 offs (R.map Prod.fst) own w
  r2 : IRow W g 3 there (R.map Prod.snd) own w
  apart : ∀ j, offs.ownBlock = some j → there.ownBlock ≠ some j
  good : ∀ p ∈ R, 256 ≤ p.1 ∧ p.2 < k ∧ ∃ m, C.drop (p.1 - 256) = recOf 1 (T p.2).2 ++ m
  fops : ops ≤ 2 + k
  flf : lf ≤ 16
  fos : os.length ≤ 1 + k
  fC : C.length ≤ 309 * k
  fR : R.length ≤ k

theorem ff_next {W : World} {T : Nat → Value × List Nat} {a g k : Nat} {o t o' t' : Value} {R : List (Nat × Nat)} {C B : List Nat} {E E2 ops lf : Nat} {os : List ByteOp} {own own' : Own} {w w' : World} (h : FF W T a g k o t R C E ops lf os own w) (hB : B = (T k).2) (hBl : B.length ≤ 300) (hE2 : E2 = 256 + (C ++ recOf 1 B).length)
    (hQ : Two W a g tT E2 (oneF tT 1048576 (ops + 1) (lf - 1) [] [.create tT 1] (K3 zero128 zero128 (C ++ recOf 1 B)) [] (os ++ [.write E (recOf 1 B)])) 2 3 o' t' (R.map Prod.fst ++ [E]) (R.map Prod.snd ++ [k]) own' w') (m : Nat) :
    FF W T a g (k + 1) o' t' (R ++ [(E, k)]) (C ++ recOf 1 B) E2 (ops + 1) (lf - 1) (os ++ [.write E (recOf 1 B)]) own' (w'.drewN m) := by
  have hb := Sl.below_drewN (B := w'.heap.size) w' m
  have f1 := h.fops; have f2 := h.flf; have f3 := h.fos; have f4 := h.fC; have f5 := h.fR
  refine ⟨hE2, hQ.disk.stay hb, hQ.file.stay hb, ?_, ?_, hQ.apart, ?_, by omega, by omega, by rw [List.length_append, List.length_singleton]; omega, by rw [List.length_append, recOf_length]; omega, by rw [List.length_append, List.length_singleton]; omega⟩
  · have := hQ.r1.stay hb
    rw [List.map_append]; exact this
  · have := hQ.r2.stay hb
    rw [List.map_append]; exact this
  · intro p hp
    rcases List.mem_append.1 hp with hp | hp
    · obtain ⟨g1, g2, m', g3⟩ := h.good p hp
      exact ⟨g1, by omega, _, drop_more g3⟩
    · rw [List.mem_singleton] at hp
      subst hp
      refine ⟨by have := h.fE; show 256 ≤ E; omega, by show k < k + 1; omega, [], ?_⟩
      show (C ++ recOf 1 B).drop (E - 256) = recOf 1 (T k).2 ++ []
      have he : E - 256 = C.length := by have := h.fE; omega
      rw [he, List.drop_left, List.append_nil, hB]

theorem ff_same {W : World} {T : Nat → Value × List Nat} {a g k : Nat} {o t : Value} {R : List (Nat × Nat)} {C : List Nat} {E ops lf : Nat} {os : List ByteOp} {own own' : Own} {w w' : World} (h : FF W T a g k o t R C E ops lf os own w)
    (hQ : Two W a g tT E (oneF tT 1048576 (ops + 1) 0 [] [.create tT 1] (K3 zero128 zero128 C) [] os) 2 3 o t (R.map Prod.fst) (R.map Prod.snd) own' w') (m : Nat) :
    FF W T a g (k + 1) o t R C E (ops + 1) 0 os own' (w'.drewN m) := by
  have hb := Sl.below_drewN (B := w'.heap.size) w' m
  have f1 := h.fops; have f3 := h.fos; have f4 := h.fC; have f5 := h.fR
  exact ⟨h.fE, hQ.disk.stay hb, hQ.file.stay hb, hQ.r1.stay hb, hQ.r2.stay hb, hQ.apart, fun p hp => (let ⟨g1, g2, g3⟩ := h.good p hp; ⟨g1, by omega, g3⟩), by omega, by omega, by omega, by omega, by omega⟩

/-- What the second loop keeps. -/
structure FG (W : World) (T : Nat → Value × List Nat) (a g : Nat) (offs there : Value) (R : List (Nat × Nat)) (C : List Nat) (E k : Nat) (oj : Nat × Nat) (os : List ByteOp) (own : Own) (w : World) : Prop where
  fE : E = 256 + C.length
  disk : Dsk W a (oneF tT 1048576 oj.1 0 [] [.create tT 1] (K3 zero128 zero128 C) [] os) own w
  file : Fil W g a tT E own w
  r1 : IRow W g 2 offs (R.map Prod.fst) own w
  r2 : IRow W g 3 there (R.map Prod.snd) own w
  good : ∀ p ∈ R, 256 ≤ p.1 ∧ p.2 < k ∧ ∃ m, C.drop (p.1 - 256) = recOf 1 (T p.2).2 ++ m
  fk : k ≤ 12
  fops : oj.1 ≤ 2 + k + oj.2
  fos : os.length ≤ 1 + k
  fC : C.length ≤ 309 * k
  fR : R.length ≤ k
theorem fg_start {W : World} {T : Nat → Value × List Nat} {a g k : Nat} {o t : Value} {R : List (Nat × Nat)} {C : List Nat} {E ops lf : Nat} {os : List ByteOp} {own : Own} {w w' : World} (h : FF W T a g k o t R C E ops lf os own w) (hst : Steps own own w w')
    (hd : Dsk W a { oneF tT 1048576 ops lf [] [.create tT 1] (K3 zero128 zero128 C) [] os with left := 0 } own w') (hk : k ≤ 12) : FG W T a g o t R C E k (ops, 0) os own w' :=
  ⟨h.fE, hd, h.file.steps hst, h.r1.steps hst, h.r2.steps hst, h.good, hk, by have := h.fops; show ops ≤ 2 + k + 0; omega, h.fos, h.fC, h.fR⟩
theorem FG.at_ {W : World} {T : Nat → Value × List Nat} {a g k j ops : Nat} {o t : Value} {R : List (Nat × Nat)} {C : List Nat} {E : Nat} {os : List ByteOp} {own : Own} {w : World} (h : FG W T a g o t R C E k (ops, j) os own w) (hj : j < R.length) :
    ∃ p x B m, (R.map Prod.fst).getD j 0 = p ∧ (R.map Prod.snd).getD j 0 = x ∧ x < k ∧ 256 ≤ p ∧ B = (T x).2 ∧ (K3 zero128 zero128 C).drop p = recOf 1 B ++ m := by
  obtain ⟨h1, h2, m, h3⟩ := h.good R[j] (List.getElem_mem _)
  refine ⟨R[j].1, R[j].2, _, m, ?_, ?_, h2, h1, rfl, ?_⟩
  · rw [List.getD_eq_getElem?_getD, List.getElem?_map, List.getElem?_eq_getElem hj]; rfl
  · rw [List.getD_eq_getElem?_getD, List.getElem?_map, List.getElem?_eq_getElem hj]; rfl
  · have e : R[j].1 = 256 + (R[j].1 - 256) := by omega
    rw [e, K3_drop zero128_length zero128_length, h3]

theorem fg_next {W : World} {T : Nat → Value × List Nat} {a g k j ops : Nat} {o t : Value} {R : List (Nat × Nat)} {C : List Nat} {E : Nat} {os : List ByteOp} {own : Own} {w w' : World} (h : FG W T a g o t R C E k (ops, j) os own w) (hst : Steps own own w w')
    (hd : Dsk W a (oneF tT 1048576 (ops + 1) (0 - 1) [] [.create tT 1] (K3 zero128 zero128 C) [] os) own w') : FG W T a g o t R C E k (ops + 1, j + 1) os own w' :=
  ⟨h.fE, hd, h.file.steps hst, h.r1.steps hst, h.r2.steps hst, h.good, h.fk, by have := h.fops; show ops + 1 ≤ 2 + k + (j + 1); dsimp only at this; omega, h.fos, h.fC, h.fR⟩
theorem FG.drew {W : World} {T : Nat → Value × List Nat} {a g k : Nat} {oj : Nat × Nat} {o t : Value} {R : List (Nat × Nat)} {C : List Nat} {E : Nat} {os : List ByteOp} {own : Own} {w : World} (h : FG W T a g o t R C E k oj os own w) (n : Nat) : FG W T a g o t R C E k oj os own (w.drewN n) :=
  ⟨h.fE, h.disk.stay (Sl.below_drewN w n), h.file.stay (Sl.below_drewN w n), h.r1.stay (Sl.below_drewN w n), h.r2.stay (Sl.below_drewN w n), h.good, h.fk, h.fops, h.fos, h.fC, h.fR⟩

set_option maxRecDepth 100000 in
set_option maxHeartbeats 40000000 in
theorem fails_any (n : Nat) (hn : n < 256) (p : Option Addr) (len cap : Nat) (T : Nat → Value × List Nat) (w : World) (hT : BodyRow w p len cap T) :
    Calls Try.prog 3 #[.slice p len cap, .int .u8 n] w fun e w' => e = .returned (.bool true) ∧ Below w.heap.size w w' := by
  have hcm := hT.most
  have hle := hT.le
  unfold maxLen at hcm
  have HT := Lib.hid hT; clear hT
  by_cases h12 : 12 < len
  · have h12' : (12 : Int) < len := by omega
    clear h12
    go_enter Try.func3, Try.ntmps3
    go_wp2_with (go_at_call 5; refine (begun_any _).mono ?_; rintro e w1 ⟨rfl, hb1⟩)
    have HB1 := Lib.hid hb1; clear hb1
    go_wp2
    go_ret
    exact ⟨rfl, HB1.out⟩
  have h12' : ¬ (12 : Int) < len := by omega
  obtain ⟨lf, hlf⟩ : ∃ lf, lf = n % 16 := ⟨_, rfl⟩
  have hlfn : (n : Int) % 16 = (lf : Int) := by omega
  have hlf16 : lf < 16 := by omega
  have HLFN := Lib.hid hlfn
  clear hlf hlfn
  go_enter Try.func3, Try.ntmps3
  go_wp2_with (go_at_call 5; refine (begun_any _).mono ?_; rintro e w1 ⟨rfl, hb1⟩)
  have HB1 := Lib.hid hb1; clear hb1
  refine (new_any 1048576 w1).mono ?_
  rintro e w2 ⟨rfl, hd2, hb2⟩
  have HD2 := Lib.hid (Dsk.new hd2 hb2)
  clear hd2 hb2
  go_wp2_with fail
  refine (new_file tT tT_may (by decide) 1048576 (by omega) HD2.out).mono ?_
  rintro e w3 ⟨g, own3, hg, rfl, hst3, hd3, hf3⟩
  rw [noughts_K3] at hd3
  have HD3 := Lib.hid hd3; have HF3 := Lib.hid hf3
  clear hg hst3 hd3 hf3 HD2
  go_wp2_with fail
  rw [HLFN.out]
  refine (HD3.out.fail lf).mono ?_
  rintro e w4 ⟨rfl, hst4, hd4⟩
  have HD4 : Hid (Dsk w1 w1.heap.size (oneF tT 1048576 2 lf [] [.create tT 1] (K3 zero128 zero128 []) [] [.cut 256]) own3 w4) := hd4
  have HF4 := Lib.hid (HF3.out.steps hst4)
  clear hd4 hst4 HD3 HF3 HLFN
  have HE := Lib.hid (end_any HD4.out HF4.out)
  rw [oneF_end (by rw [K3_length zero128_length zero128_length]; rfl), K3_length zero128_length zero128_length] at HE
  rw [show ((256 + ([] : List Nat).length : Nat) : Int) = 256 from rfl] at HE
  go_wp2_with fail
  refine HE.out.mono ?_
  rintro e w5 ⟨rfl, m5, rfl⟩
  have hff : FF w1 T w1.heap.size g 0 (.slice none 0 0) (.slice none 0 0) [] [] 256 2 lf [.cut 256] own3 (w4.drewN m5) :=
    ⟨rfl, HD4.out.stay (Sl.below_drewN w4 m5), HF4.out.stay (Sl.below_drewN w4 m5), IRow.nil _ _ _ _ _, IRow.nil _ _ _ _ _, fun j hj => (by cases hj), fun p hp => (by cases hp), by omega, by omega, by decide, by decide, by decide⟩
  have HFF := Lib.hid hff
  clear hff HE HD4 HF4
  generalize w4.drewN m5 = w5 at *
  go_wp2
  go_loopw [8, 9, 10, 11] (fun offs there end_ x wr => ∃ (k : Nat) (R : List (Nat × Nat)) (C : List Nat) (E ops lf : Nat) (os : List ByteOp) (own : Own), x = .int .i64 k ∧ end_ = .int .i64 E ∧ k ≤ len ∧ FF w1 T w1.heap.size g k offs there R C E ops lf os own wr) (fun _ _ _ x _ => len - (intOf x).toNat)
  case atStart => exact ⟨0, [], [], 256, 2, lf, _, own3, rfl, rfl, by omega, HFF.out⟩
  case round =>
    obtain ⟨k, R, C, E, ops, lf', os, own, rfl, rfl, hk, hff⟩ := hrel
    clear HFF
    have HFF := Lib.hid hff
    obtain ⟨po, co, rfl⟩ := hff.r1.shape
    obtain ⟨pt, ct, rfl⟩ := hff.r2.shape
    rw [List.length_map] at hff HFF ⊢
    rw [List.length_map] at hff HFF ⊢
    by_cases hkl : k < len
    · have hki : (k : Int) < len := by omega
      have HTW := Lib.hid ((HT.out.below HB1.out).below hff.disk.below)
      obtain ⟨lb, lo, rfl, hcell⟩ := HTW.out.at_ k hkl
      obtain ⟨q, c, hbc, hbb⟩ := HTW.out.body hkl
      obtain ⟨B, hB⟩ : ∃ B, B = (T k).2 := ⟨_, rfl⟩
      rw [← hB] at hbc hbb
      have HBT := Lib.hid hB
      clear hB hcell
      have hBl := hbb.short
      unfold maxLen at hBl
      by_cases h300 : 300 < B.length
      · have h300' : (300 : Int) < B.length := by omega
        have HBL := Lib.hid (HB1.out.trans (hff.disk.below.mono HB1.out.size))
        clear hff hbb h300
        go_wp2
        go_ret
        exact ⟨rfl, HBL.out⟩
      · have h300' : ¬ (300 : Int) < B.length := by omega
        have hfC := hff.fC
        have hfE := hff.fE
        by_cases h1 : lf' = 1
        · subst h1
          have hap := one_append_io (A := zero128) (B := zero128) (C := C) (b := B) (k := 1) hff.disk (by rw [← hfE]; exact hff.file) (by decide) zero128_length zero128_length (by omega) (by omega) (by have := hff.fops; have := hff.fos; exact ⟨by omega, Nat.lt_of_le_of_lt (Nat.le_refl 1) (by omega), by omega⟩) (by omega) hbb (by omega)
          rw [← hfE] at hap
          have HAP := Lib.hid hap
          have hEi : ¬ (E : Int) < E := by omega
          have HFE := Lib.hid hfE
          clear hap hff hbb h300 hfE
          go_wp2_with fail
          refine HAP.out.mono ?_
          rintro e w6 ⟨rfl, own6, hm6, hd6, hf6⟩
          have hq : Two w1 w1.heap.size g tT E (oneF tT 1048576 (ops + 1) 0 [] [.create tT 1] (K3 zero128 zero128 C) [] os) 2 3 (.slice po R.length co) (.slice pt R.length ct) (R.map Prod.fst) (R.map Prod.snd) own6 w6 := ⟨hd6, hf6, HFF.out.r1.moves hm6, HFF.out.r2.moves hm6, HFF.out.apart⟩
          have HQ2 := Lib.hid hq
          clear hm6 hd6 hf6 HAP hq
          have HE8 : Hid (∀ m, _) := fun m => end_any (HQ2.out.disk.stay (Sl.below_drewN w6 m)) (HQ2.out.file.stay (Sl.below_drewN w6 m))
          rw [oneF_end (by rw [HFE.out, K3_length zero128_length zero128_length]), K3_length zero128_length zero128_length, ← HFE.out] at HE8
          go_wp2_with fail
          refine (HE8.out 0).mono ?_
          rintro e w9 ⟨rfl, m9, rfl⟩
          rw [World.drewN_drewN, Nat.zero_add]
          go_wp2_with fail
          refine (HE8.out m9).mono ?_
          rintro e w10 ⟨rfl, m10, rfl⟩
          rw [World.drewN_drewN]
          have HFF2 := Lib.hid (ff_same HFF.out HQ2.out (m9 + m10))
          clear HE8 HQ2 HFF
          generalize w6.drewN (m9 + m10) = w10 at *
          go_wp2
          exact ⟨⟨k + 1, R, C, E, ops + 1, 0, _, own6, by go_num, rfl, by omega, HFF2.out⟩, by simp [intOf]; omega⟩
        · have hap := one_append (A := zero128) (B := zero128) (C := C) (b := B) (k := 1) hff.disk (by rw [← hfE]; exact hff.file) tT_may (by decide) h1 zero128_length zero128_length (by omega) (by omega) (by have := hff.fops; have := hff.flf; have := hff.fos; exact ⟨by omega, by omega, Nat.lt_of_le_of_lt (Nat.le_refl 1) (by omega), by omega⟩) (by omega) hbb (by omega)
          rw [← hfE] at hap
          have HAP := Lib.hid hap
          have HBB := Lib.hid hbb
          obtain ⟨E2, hE2⟩ : ∃ E2, E2 = 256 + (C ++ recOf 1 B).length := ⟨_, rfl⟩
          rw [← hE2] at HAP
          have hE2' : E2 = E + (9 + B.length) := by rw [hE2, hfE, List.length_append, recOf_length]; omega
          have HE2 := Lib.hid hE2
          have hEi : ¬ (E : Int) < E := by omega
          have hE2i : ¬ (E2 : Int) < E := by omega
          clear hap hff hbb h300 hfE hE2 hE2'
          go_wp2_with fail
          refine HAP.out.mono ?_
          rintro e w6 ⟨rfl, own6, hm6, hd6, hf6⟩
          have HR1 := Lib.hid (HFF.out.r1.moves hm6)
          have HR2 := Lib.hid (HFF.out.r2.moves hm6)
          have HAPT := Lib.hid HFF.out.apart
          have HZ : Hid (w1.heap.size ≤ w6.heap.size ∧ g < w6.heap.size ∧ R.length ≤ 1000000) := ⟨hd6.below.size, hf6.lt, by have := HFF.out.fR; omega⟩
          have HD6 := Lib.hid hd6; have HF6 := Lib.hid hf6
          clear hm6 hd6 hf6 HAP
          go_wp2_with (at_builtin; first
            | (refine wpList_append_int rfl (.tmp 68) (.tmp 70) 31 2 rfl int64T info64 HR1.out HZ.out.1 (fun j hj => HD6.out.new_none hj) HZ.out.2.1 (by rw [List.length_map]; exact HZ.out.2.2) rfl rfl ?_
               intro v1 w7 hr1 hg1 hat1
               have HQ := Lib.hid (after_one HD6.out HF6.out HR1.out HR2.out HAPT.out hr1 hg1 hat1)
               clear hr1 hg1 hat1)
            | (refine wpList_append_int rfl (.tmp 72) (.tmp 74) 32 3 rfl intT infoInt HQ.out.r2 HQ.out.disk.below.size (fun j hj => HQ.out.disk.new_none hj) HQ.out.file.lt (by rw [List.length_map]; exact HZ.out.2.2) rfl rfl ?_
               intro v2 w8 hr2 hg2 hat2
               have HQ2 := Lib.hid (after_two HQ.out hr2 hg2 hat2)
               clear hr2 hg2 hat2))
          have HE8 : Hid (∀ m, _) := fun m => end_any (HQ2.out.disk.stay (Sl.below_drewN w8 m)) (HQ2.out.file.stay (Sl.below_drewN w8 m))
          rw [oneF_end (by rw [HE2.out, K3_length zero128_length zero128_length]), K3_length zero128_length zero128_length, ← HE2.out] at HE8
          go_wp2_with fail
          refine (HE8.out 0).mono ?_
          rintro e w9 ⟨rfl, m9, rfl⟩
          rw [World.drewN_drewN, Nat.zero_add]
          go_wp2_with fail
          refine (HE8.out m9).mono ?_
          rintro e w10 ⟨rfl, m10, rfl⟩
          rw [World.drewN_drewN]
          have HFF2 := Lib.hid (ff_next HFF.out HBT.out (by omega) HE2.out HQ2.out (m9 + m10))
          clear HE8 HQ2 HQ HFF HR1 HR2 HD6 HF6
          generalize w8.drewN (m9 + m10) = w10 at *
          go_wp2
          exact ⟨⟨k + 1, R ++ [(E, k)], C ++ recOf 1 B, E2, ops + 1, lf' - 1, _, own6, by go_num, rfl, by omega, HFF2.out⟩, by simp [intOf]; omega⟩
    · have hki : ¬ (k : Int) < len := by omega
      obtain rfl : k = len := by omega
      have hfs : Hid (∀ lfx, _) := fun (lfx : Nat) => hff.disk.fail lfx
      clear hff hk hkl
      go_wp2_with fail
      refine (hfs.out 0).mono ?_
      rintro e w6 ⟨rfl, hst6, hd6⟩
      have hfg : FG w1 T w1.heap.size g (.slice po R.length co) (.slice pt R.length ct) R C E k (ops, 0) os own w6 := fg_start HFF.out hst6 hd6 (by omega)
      have HFG := Lib.hid hfg
      have HTB := Lib.hid (HT.out.below HB1.out)
      clear hst6 hd6 hfs HFF hfg
      generalize hRl : R.length = RL at *
      have HRL := Lib.hid hRl
      clear hRl
      go_wp2
      go_loopw [14] (fun x wr => ∃ (j ops : Nat), x = .int .i64 j ∧ j ≤ RL ∧ FG w1 T w1.heap.size g (.slice po RL co) (.slice pt RL ct) R C E k (ops, j) os own wr) (fun x _ => RL - (intOf x).toNat)
      case atStart => exact ⟨0, ops, rfl, by omega, HFG.out⟩
      case round =>
        obtain ⟨j, ops, rfl, hj, hfg⟩ := hrel
        clear HFG
        have HFG := Lib.hid hfg
        by_cases hjl : j < RL
        · have hji : (j : Int) < RL := by omega
          obtain ⟨o, x, B, m, ho, hx, hxk, h256, hB, hdrop⟩ := hfg.at_ (by rw [HRL.out]; exact hjl)
          obtain ⟨b1, rfl, hc1⟩ := hfg.r1.cell (i := j) (by rw [List.length_map, HRL.out]; exact hjl)
          obtain ⟨b2, rfl, hc2⟩ := hfg.r2.cell (i := j) (by rw [List.length_map, HRL.out]; exact hjl)
          rw [ho] at hc1
          have HX := Lib.hid hx
          have hTW := (HTB.out.below hfg.disk.below)
          obtain ⟨lb, lo, rfl, _⟩ := hTW.at_ x hxk
          obtain ⟨q, c, hbc, hbb⟩ := hTW.body hxk
          rw [← hB] at hbc hbb
          have hfk := hfg.fk; have hfo := hfg.fops; have hfC := hfg.fC; have hfos := hfg.fos; have hfE := hfg.fE; have hfR := hfg.fR
          dsimp only at hfo
          have hRj := HRL.out
          have hBl : B.length ≤ 4096 := by
            have := congrArg List.length hdrop
            rw [List.length_drop, K3_length zero128_length zero128_length, List.length_append, recOf_length] at this
            omega
          have hrd := one_read (k := 1) (b := B) (m := m) (off := o) hfg.disk hfg.file tT_may (by decide) (by omega) (by omega) (by rw [K3_length zero128_length zero128_length]; omega) (by omega) ⟨by omega, by omega, Nat.lt_of_le_of_lt (Nat.le_refl 1) (by omega), by omega⟩ h256 (by omega) hBl hbb.small hdrop
          have HRD := Lib.hid hrd
          have HBB := Lib.hid hbb
          have hx12 : x < 1000 := by omega
          have hxki : (x : Int) < k := by omega
          have hj12 : j < 1000 := by omega
          have HBT := Lib.hid hB
          clear hrd hTW hB hdrop hfg hfo hfC hfos hfE hfR hRj hBl h256 ho hx
          go_wp2_with fail
          refine HRD.out.mono ?_
          rintro e w8 ⟨p8, c8, rfl, hy8, _, hst8, hd8, hf8⟩
          have hfg8 : FG w1 T w1.heap.size g (.slice (some ⟨b1, 0, none⟩) RL co) (.slice (some ⟨b2, 0, none⟩) RL ct) R C E k (ops + 1, j + 1) os own w8 := fg_next HFG.out hst8 hd8
          have HFG8 := Lib.hid hfg8
          have hTW := (HTB.out.below hfg8.disk.below)
          obtain ⟨q', c', hbc8, hbb8⟩ := hTW.body hxk
          rw [← HBT.out] at hbc8 hbb8
          obtain ⟨b2', hb2', hc28⟩ := hfg8.r2.cell (i := j) (by rw [List.length_map, HRL.out]; exact hjl)
          cases hb2'
          rw [HX.out] at hc28
          have x1 := fun nq => (Sl.bytes_drewN hy8 nq).toString byT (P := Try.prog) (d := 9) (by kernel_rfl)
          have x2 := fun nq => (Sl.bytes_drewN hbb8 nq).toString byT (P := Try.prog) (d := 9) (by kernel_rfl)
          clear hy8 hst8 hd8 hf8 hfg8 hTW hbb8 HRD HBB HFG HBT hbc hbb hc1 hc2
          go_wp2
          go_big_quiet (fail)
          have HFG9 := Lib.hid (HFG8.out.drew nq)
          clear x1 x2 hbc8 hc28 HFG8
          generalize w8.drewN nq = w9 at *
          go_wp2
          exact ⟨⟨j + 1, ops + 1, by go_num, by omega, HFG9.out⟩, by simp [intOf]; omega⟩
        · have hji : ¬ (j : Int) < RL := by omega
          have HB := Lib.hid (HB1.out.trans (hfg.disk.below.mono HB1.out.size))
          clear hfg
          go_wp2
          go_ret
          exact ⟨rfl, HB.out⟩

set_option maxRecDepth 100000 in
theorem fails_lifted (os : Os) (started : os.Started) (H : Type) (enc : TypeId × Value → H) :
    ReturnsInHanded {} Try.checked os 3 .any (Rows.fileFailsSpec.pre6 enc Try.prog Try.f3 Rows.fileFailsRow.domain false) (Rows.fileFailsSpec.post enc Try.prog Try.f3 false true false false) := by
  refine returnsInHanded_of_change (C := Try.checked) Sl.own_none started (by kernel_rfl) Try.func3
    (ChangeSpec.witness6 (enc := enc) (C := Try.checked) false ⟨#[], #[.slice none 0 0, .int .u8 0], []⟩ 8 (by kernel_rfl) (by kernel_rfl) (by kernel_rfl) (by kernel_rfl)) ?_
  intro W base args ds gs before hval0 hW hcnd _
  have hval : ∀ (j : Nat) t v, Try.f3.params[j]? = some t → args[j]? = some v → Value.okWide Try.prog W .any base t v := hval0
  have hW' := hW
  obtain ⟨p, q, hA0, hV, rfl, hfz, hnd⟩ := hW
  have hA : DataW.TrodAll enc Try.prog W 0 (fun _ => true) true Try.f3.params.toList args.toList ds p := hA0
  have hp : Try.f3.params = #[22, 5] := by kernel_rfl
  rw [hp] at hA hval
  obtain ⟨v0, v1, d0, d1, p0, p1, rfl, rfl, rfl, h0, h1⟩ := trodAll_two hA
  obtain ⟨rfl, rfl⟩ := trodVars_none hV
  obtain ⟨p, n, cap, T, rfl, hT⟩ := open_rows (P := Try.prog) (t := 22) (e := 34) (te := 5) (by kernel_rfl) (by kernel_rfl) byT (by kernel_rfl) (hval 0 22 v0 rfl rfl) h0
  obtain ⟨b, rfl, _, _, wb⟩ := open_int (P := Try.prog) (t := 5) (k := .u8) (by kernel_rfl) (hval 1 5 v1 rfl rfl) h1
  obtain ⟨b, rfl, hb⟩ := u8_of_wf wb
  refine (fails_any b hb p n cap T W hT).mono fun e W' ⟨he, hb⟩ => ?_
  subst he
  exact ⟨_, rfl, law_post (tb := 4) Sl.laidOut (by rw [hp]; intro t ht; simp at ht; rcases ht with rfl | rfl <;> exact ⟨by kernel_rfl, by decide +kernel⟩) rfl rfl (by kernel_rfl) (by kernel_rfl) hW' hb⟩

theorem fileFails_holds : Rows.FileFailsSaid :=
  OpenClaim.holds_of_wide 3 Try.f3 rfl rfl rfl rfl rfl rfl rfl ⟨rfl, rfl, rfl, rfl, rfl⟩ rfl rfl rfl rfl rfl (by kernel_rfl) Try.func3 (by kernel_rfl)
    (of_decide_eq_true (by kernel_rfl)) (by unfold Func.isWrapper; rw [if_neg (by decide +kernel)]; exact ⟨rfl, rfl⟩)
    (fun os started H enc _ => fails_lifted os started H enc)
end Go.Proofs.Ytldkeelgnfegeaa

