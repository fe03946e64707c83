/- The law FileTwo: every call of it returns true, and all that was there before the call is as it was. No condition. -/
import Derived.Test.YtldkeelgnfegeaaGreatRows
import Derived.Test.YtldkeelgnfegeaaGreatMFlQ

namespace Go.Proofs.YtldkeelgnfegeaaGreat
open Go Go.ChangeShapes Go.WideShapes Go.ChangeAt Go.RowKit Go.By

def tA : ByteArray := ⟨#[97]⟩
def tB : ByteArray := ⟨#[98]⟩
def tC : ByteArray := ⟨#[99]⟩
theorem tA_may : mayName tA = true := by decide +kernel
theorem tB_may : mayName tB = true := by decide +kernel
theorem tC_may : mayName tC = true := by decide +kernel
def twoSeen : List (ByteArray × Nat) := [(tA, 1), (tB, 2)]
def twoLaid : List NameOp := [.create tA 1, .create tB 2]
def S2a : Sk := ⟨1048576, 256, 3, 0, 2, twoSeen, [], twoLaid, fun n => if n = 2 then ⟨[], [], []⟩ else if n = 1 then ⟨noughts256, [], [.cut 256]⟩ else noFile⟩
def S2b : Sk := ⟨1048576, 512, 4, 0, 2, twoSeen, [], twoLaid, fun n => if n = 2 then ⟨noughts256, [], [.cut 256]⟩ else if n = 1 then ⟨noughts256, [], [.cut 256]⟩ else noFile⟩
theorem two_create : (oneF tA 1048576 2 0 [] [.create tA 1] noughts256 [] [.cut 256]).create tB = (S2a, 0) := by
  unfold Sk.create
  rw [err_ok (show (0 : Nat) ≠ 1 by decide) tB_may, if_neg (by decide)]
  have hg : Mp.get (oneF tA 1048576 2 0 [] [.create tA 1] noughts256 [] [.cut 256]).seen tB = none := by decide +kernel
  rw [hg, if_neg (by decide)]
  refine congrArg (·, (0 : Int)) ?_
  have hp : Mp.put (oneF tA 1048576 2 0 [] [.create tA 1] noughts256 [] [.cut 256]).seen tB 2 = twoSeen := by decide +kernel
  unfold Sk.tick Sk.withFile
  show (⟨1048576, (noughts256.length : Int), 3, 0, 2, Mp.put (oneF tA 1048576 2 0 [] [.create tA 1] noughts256 [] [.cut 256]).seen tB 2, [], twoLaid, _⟩ : Sk) = _
  rw [hp, noughts256_length]
  rfl
theorem two_made : (oneF tA 1048576 2 0 [] [.create tA 1] noughts256 [] [.cut 256]).made2 tB = (S2b, 0) := by
  unfold Sk.made2
  rw [two_create]
  dsimp only
  unfold Sk.truncate Sk.onFile
  rw [err_ok (show (0 : Nat) ≠ 1 by decide) (by rw [show (256 : Int) = ((256 : Nat) : Int) from rfl, num_may (by omega), tB_may]; rfl), if_neg (by decide)]
  have hg : Mp.get S2a.seen tB = some 2 := by decide +kernel
  rw [hg]
  dsimp only
  unfold Sk.cutAt
  rw [if_pos]
  · refine congrArg (·, (0 : Int)) ?_
    have h2 : S2a.tick.cont 2 = ⟨[], [], []⟩ := rfl
    have hal : (⟨[], [], []⟩ : FileA).alter (.cut (256 : Int).toNat) = ⟨noughts256, [], [.cut 256]⟩ := rfl
    have hm : (⟨[], [], []⟩ : FileA).more (.cut (256 : Int).toNat) = 256 := by
      unfold FileA.more
      rw [hal]
      show ((noughts256.length : Int)) - 0 = 256
      rw [noughts256_length]; rfl
    unfold Sk.alterFile
    rw [h2, hal, hm]
    unfold Sk.tick Sk.withFile S2a S2b
    refine congrArg (Sk.mk _ _ _ _ _ _ _ _) ?_
    funext n
    dsimp only
    by_cases e : n = 2
    · rw [if_pos e, if_pos e]
    · rw [if_neg e, if_neg e, if_neg e]
  · unfold Sk.hasRoom
    rw [show S2a.tick.cont 2 = ⟨[], [], []⟩ from rfl, show S2a.tick.room = 1048576 from rfl, show S2a.tick.used = 256 from rfl]
    decide
theorem s2_fine (S : Sk) (h : S = S2a ∨ S = S2b) : S.Fine := by
  have hn : noughts256.length = 256 := noughts256_length
  rcases h with rfl | rfl
  all_goals
    refine ⟨by decide, by decide, by decide, by decide, fun n => ?_, fun n => ?_, by decide, by decide⟩
    · first | unfold S2a | unfold S2b
      dsimp only
      split
      · decide
      · split
        · decide
        · decide
    · first | unfold S2a | unfold S2b
      dsimp only
      split
      · first | (rw [hn]; decide) | decide
      · split
        · rw [hn]; decide
        · decide

def fq (j : Nat) : Nat := if j % 2 = 1 then 2 else 1
/-- What the first loop keeps. -/
structure FW (W : World) (T : Nat → Value × List Nat) (a ga gb k : Nat) (offs : Value) (R : List Nat) (A B C : Nat → List Nat) (os : Nat → List ByteOp) (n : Nat) (S : Sk) (own : Own) (w : World) : Prop where
  du : DU W a ga gb tA tB A B C os n S own w
  r1 : IRow W ga 2 offs R own w
  r2 : IRow W gb 2 offs R own w
  seen : S.seen = twoSeen
  laid : S.laid = twoLaid
  good : ∀ j, j < R.length → 256 ≤ R.getD j 0 ∧ ∃ m, (C (fq j)).drop (R.getD j 0 - 256) = recOf j (T j).2 ++ m
  small : ∀ j, j < R.length → (T j).2.length ≤ 300
  fR : R.length = k
  fn : n ≤ 2 * k
  fC : ∀ q, (C q).length ≤ 309 * k

theorem irow_other {W w w' : World} {g g' : Nat} {e : TypeId} {v : Value} {l : List Nat} {own own' : Own} (h : IRow W g e v l own w) (h2 : IRow W g' e v l own w) (hm : Moves g' own own' w w') : IRow W g e v l own' w' :=
  ⟨(h2.moves hm).owns, fun k hk => ⟨(hm.same k (h.lt k hk).2).trans (h.free k hk).1, (h.free k hk).2⟩⟩
theorem two_upd (C : Nat → List Nat) (q : Nat) (X : List Nat) (x : Nat) : upd (upd C q X) q (upd C q X q) x = upd C q X x := by
  unfold upd
  split
  · rw [if_pos rfl]
  · rfl
/-- Behind Append and Hold. -/
def FX (W : World) (T : Nat → Value × List Nat) (a ga gb k : Nat) (Bk : List Nat) (offs : Value) (R : List Nat) (C : Nat → List Nat) (E : Nat) (w : World) : Prop :=
  ∃ (A2 B2 C2 : Nat → List Nat) (os2 : Nat → List ByteOp) (n2 : Nat) (S2 : Sk) (own : Own), DU W a ga gb tA tB A2 B2 C2 os2 n2 S2 own w ∧ IRow W ga 2 offs R own w ∧ IRow W gb 2 offs R own w ∧ S2.seen = twoSeen ∧ S2.laid = twoLaid ∧ n2 ≤ 2 * (k + 1) ∧ ∀ x, C2 x = upd C (fq k) (C (fq k) ++ recOf k Bk) x

theorem fw_next {W : World} {T : Nat → Value × List Nat} {a ga gb k : Nat} {o o' : Value} {R Bk : List Nat} {A B C A2 B2 C2 : Nat → List Nat} {os os2 : Nat → List ByteOp} {n n2 : Nat} {S S2 : Sk} {own own' : Own} {w w' w'' : World} {E : Nat} {tt : TypeId} (h : FW W T a ga gb k o R A B C os n S own w) (hB : Bk = (T k).2) (hBl : Bk.length ≤ 300) (hE : E = 256 + (C (fq k)).length)
    (hdu : DU W a ga gb tA tB A2 B2 C2 os2 n2 S2 own' w') (h1 : IRow W ga 2 o R own' w') (h2 : IRow W gb 2 o R own' w') (hs : S2.seen = twoSeen) (hl : S2.laid = twoLaid) (hn : n2 ≤ 2 * (k + 1)) (hC : ∀ x, C2 x = upd C (fq k) (C (fq k) ++ recOf k Bk) x)
    (hr : IRow W ga 2 o' (R ++ [E]) own' w'') (hg : (w'.alloc (.cells #[.int .i64 (E : Int)] tt)).grownBy w'' o.ownBlock) (hat : o'.ownBlock = o.ownBlock ∨ ∃ k, w'.heap.size ≤ k ∧ o'.ownBlock = some k) :
    FW W T a ga gb (k + 1) o' (R ++ [E]) A2 B2 C2 os2 n2 S2 own' w'' := by
  have hb := (Below.refl w'.heap.size w').alloc (Nat.le_refl _) (.cells #[.int .i64 (E : Int)] tt)
  have f1 := h.fR; have f2 := h.fC
  refine ⟨(hdu.stay hb).grown hg fun j hj => ⟨(h1.free j hj).1, (h1.lt j hj).1, (h1.free j hj).2, (h2.free j hj).2⟩, hr, ⟨hr.owns, fun j hj => ⟨(hr.free j hj).1, ?_⟩⟩, hs, hl, fun j hj => ?_, fun j hj => ?_, by rw [List.length_append, List.length_singleton]; omega, hn, fun x => ?_⟩
  · rcases hat with e | ⟨i, hi, e⟩
    · exact (h2.free j (e ▸ hj)).2
    · rw [e] at hj; cases hj
      have := hdu.fb.lt; omega
  · rw [List.length_append, List.length_singleton] at hj
    rw [hC]
    by_cases hjr : j < R.length
    · obtain ⟨g1, m, g3⟩ := h.good j hjr
      have e : (R ++ [E]).getD j 0 = R.getD j 0 := by
        rw [List.getD_eq_getElem?_getD, List.getElem?_append_left hjr, ← List.getD_eq_getElem?_getD]
      rw [e]
      refine ⟨g1, ?_⟩
      by_cases hq : fq j = fq k
      · rw [hq, upd_same]
        rw [hq] at g3
        exact ⟨_, drop_more g3⟩
      · rw [upd_other _ _ hq]
        exact ⟨m, g3⟩
    · obtain rfl : j = k := by omega
      have e : (R ++ [E]).getD j 0 = E := by
        rw [List.getD_eq_getElem?_getD, List.getElem?_append_right (by omega), show j - R.length = 0 by omega]; rfl
      rw [e, upd_same]
      refine ⟨by omega, [], ?_⟩
      rw [show E - 256 = (C (fq j)).length by omega, List.drop_left, List.append_nil, hB]
  · rw [List.length_append, List.length_singleton] at hj
    by_cases hjr : j < R.length
    · exact h.small j hjr
    · obtain rfl : j = k := by omega
      rw [← hB]; exact hBl
  · rw [hC]
    have := f2 x; have := f2 (fq k)
    unfold upd
    split
    · rw [List.length_append, recOf_length]; omega
    · omega

def Sk.renamed (S : Sk) : Sk := { S.tick with seen := Mp.put (Mp.del S.seen tA) tC 1, laid := S.laid ++ [.rename tA tC] }
/-- What the second loop keeps. -/
structure FV (W : World) (T : Nat → Value × List Nat) (a ga gb k : Nat) (offs : Value) (R : List Nat) (A B C : Nat → List Nat) (os : Nat → List ByteOp) (n : Nat) (S : Sk) (own : Own) (w : World) : Prop where
  du : DU W a ga gb tC tB A B C os n S own w
  r1 : IRow W ga 2 offs R own w
  seen : S.seen = [(tB, 2), (tC, 1)]
  good : ∀ j, j < R.length → 256 ≤ R.getD j 0 ∧ ∃ m, (C (fq j)).drop (R.getD j 0 - 256) = recOf j (T j).2 ++ m
  small : ∀ j, j < R.length → (T j).2.length ≤ 300
  fR : R.length = k
  fk : k ≤ 16
  fC : ∀ q, (C q).length ≤ 309 * k
theorem fv_start {W : World} {T : Nat → Value × List Nat} {a ga gb k : Nat} {o : Value} {R : List Nat} {A B C : Nat → List Nat} {os : Nat → List ByteOp} {n : Nat} {S : Sk} {own own' : Own} {w w' : World} (h : FW W T a ga gb k o R A B C os n S own w) (hm : Moves ga own own' w w')
    (hd : Dsk W a { S.tick with seen := Mp.put (Mp.del S.seen tA) tC 1, laid := S.laid ++ [.rename tA tC] } own' w') (hf : Fil W ga a tC (256 + (C 1).length) own' w') (hk : k ≤ 16) : FV W T a ga gb k o R A B C os (n + 1) S.renamed own' w' := by
  have hd' : Dsk W a S.renamed own' w' := hd
  have hs : S.renamed.seen = [(tB, 2), (tC, 1)] := by
    show Mp.put (Mp.del S.seen tA) tC 1 = _
    rw [h.seen]; decide +kernel
  refine ⟨⟨hd', hf, h.du.fb.move hm (fun e => h.du.ne e.symm), h.du.ne, by rw [hs]; decide +kernel, by rw [hs]; decide +kernel, ?_, ?_, h.du.room, h.du.made, ?_, h.du.used, h.du.c1, h.du.c2, h.du.c0, h.du.lA, h.du.lB, fun q => by have := h.du.los q; omega⟩, h.r1.moves hm, hs, h.good, h.small, h.fR, hk, h.fC⟩
  · show (S.laid ++ [NameOp.rename tA tC]).length ≤ 10
    rw [h.laid]; decide
  · show S.left - 1 = 0
    rw [h.du.left]
  · show S.ops + 1 ≤ _
    have := h.du.ops; omega
def FV2 (W : World) (T : Nat → Value × List Nat) (a ga gb k : Nat) (offs : Value) (R : List Nat) (A B C : Nat → List Nat) (os : Nat → List ByteOp) (n : Nat) (S : Sk) (j : Nat) (own : Own) (w : World) : Prop := FV W T a ga gb k offs R A B C os n S own w ∧ n ≤ 40 + j
theorem two_sorted : (sortedNames [(tB, 2), (tC, 1)]).map encStr = [.string ⟨#[98]⟩, .string ⟨#[99]⟩] := by
  unfold sortedNames
  rw [List.mergeSort_of_pairwise (by decide +kernel)]
  rfl
theorem fv_next {W : World} {T : Nat → Value × List Nat} {a ga gb k : Nat} {o : Value} {R : List Nat} {A B C : Nat → List Nat} {os : Nat → List ByteOp} {n : Nat} {S : Sk} {own : Own} {w w' : World} (h : FV W T a ga gb k o R A B C os n S own w) (hs : Steps own own w w') (hd : Dsk W a S.tick own w') :
    FV W T a ga gb k o R A B C os (n + 1) S.tick own w' := ⟨h.du.tick hd hs, h.r1.steps hs, h.seen, h.good, h.small, h.fR, h.fk, h.fC⟩
theorem FV.drew {W : World} {T : Nat → Value × List Nat} {a ga gb k : Nat} {o : Value} {R : List Nat} {A B C : Nat → List Nat} {os : Nat → List ByteOp} {n : Nat} {S : Sk} {own : Own} {w : World} (h : FV W T a ga gb k o R A B C os n S own w) (m : Nat) :
    FV W T a ga gb k o R A B C os n S own (w.drewN m) := ⟨h.du.stay (Sl.below_drewN w m), h.r1.stay (Sl.below_drewN w m), h.seen, h.good, h.small, h.fR, h.fk, h.fC⟩
theorem FV.at_ {W : World} {T : Nat → Value × List Nat} {a ga gb k j q : Nat} {o : Value} {R : List Nat} {A B C : Nat → List Nat} {os : Nat → List ByteOp} {n : Nat} {S : Sk} {own : Own} {w : World} (h : FV W T a ga gb k o R A B C os n S own w) (hj : j < R.length) (hq : fq j = q) :
    256 ≤ R.getD j 0 ∧ ∃ m, (K3 (A q) (B q) (C q)).drop (R.getD j 0) = recOf j (T j).2 ++ m := by
  obtain ⟨h1, m, h3⟩ := h.good j hj
  rw [hq] at h3
  refine ⟨h1, m, ?_⟩
  have e : R.getD j 0 = 256 + (R.getD j 0 - 256) := by omega
  rw [e, K3_drop (h.du.lA q) (h.du.lB q)]
  exact h3

set_option maxRecDepth 100000 in
set_option maxHeartbeats 40000000 in
theorem two_any (p : Option Addr) (len cap : Nat) (T : Nat → Value × List Nat) (w : World) (hT : BodyRow w p len cap T) :
    Calls Tryz.prog 4 #[.slice p len cap] w fun e w' => e = .returned (.bool true) ∧ Below w.heap.size w w' := by
  have hcm := hT.most
  have hle := hT.le
  unfold maxLen at hcm
  have HT := Lib.hid hT; clear hT
  by_cases h16 : 16 < len
  · have h16' : (16 : Int) < len := by omega
    clear h16
    go_enter Tryz.func4, Tryz.ntmps4
    go_wp2_with (go_at_call 6; refine (begun_any _).mono ?_; rintro e w1 ⟨rfl, hb1⟩)
    have HB1 := Lib.hid hb1; clear hb1
    go_wp2
    go_ret
    exact ⟨rfl, HB1.out⟩
  have h16' : ¬ (16 : Int) < len := by omega
  go_enter Tryz.func4, Tryz.ntmps4
  go_wp2_with (go_at_call 6; refine (begun_any _).mono ?_; rintro e w1 ⟨rfl, hb1⟩)
  have HB1 := Lib.hid hb1; clear hb1
  refine (new_any 1048576 w1).mono ?_
  rintro e w2 ⟨rfl, hd2, hb2⟩
  have HD2 := Lib.hid (Dsk.new hd2 hb2)
  clear hd2 hb2
  go_wp2_with fail
  refine (new_file tA tA_may (by decide) 1048576 (by omega) HD2.out).mono ?_
  rintro e w3 ⟨ga, own3, hga, rfl, hst3, hd3, hf3⟩
  have HD3 := Lib.hid hd3; have HF3 := Lib.hid hf3
  have hmk := fileCreate_any hd3 (oneF_fine (by omega) (by omega) (by decide) (by rw [noughts256_length]; omega) (by decide) (by omega)) tB (fun _ => by rw [two_create, two_made]; exact ⟨s2_fine _ (.inl rfl), s2_fine _ (.inr rfl)⟩) (by decide)
  rw [two_create, two_made] at hmk
  have HMK := Lib.hid hmk
  clear hga hst3 hd3 hf3 HD2 hmk
  go_wp2_with fail
  refine HMK.out.mono ?_
  rintro e w4 ⟨own4, hst4, hc4⟩
  have hc4' : ∃ gb, w3.heap.size ≤ gb ∧ e = .returned (.tuple #[.pointer (some ⟨gb, 0, none⟩), .int .i64 0]) ∧ Dsk w1 w1.heap.size S2b own4 w4 ∧ Fil w1 gb w1.heap.size tB 256 own4 w4 := by
    rcases hc4 with ⟨h1, _⟩ | ⟨_, h1, _⟩ | ⟨_, _, h⟩
    · exact absurd rfl h1
    · exact absurd rfl h1
    · exact h
  obtain ⟨gb, hgb, rfl, hd4, hf4⟩ := hc4'
  have hfa4 := HF3.out.steps hst4
  have hne : ga ≠ gb := by have := HF3.out.lt; omega
  have hfw : FW w1 T w1.heap.size ga gb 0 (.slice none 0 0) [] (fun _ => zero128) (fun _ => zero128) (fun _ => []) (fun _ => [.cut 256]) 0 S2b own4 w4 :=
    ⟨⟨hd4, hfa4, hf4, hne, by decide +kernel, by decide +kernel, by decide, rfl, rfl, rfl, by decide, by decide, by rw [← noughts_K3]; rfl, by rw [← noughts_K3]; rfl, fun k h1 h2 => by unfold S2b; dsimp only; rw [if_neg h2, if_neg h1], fun _ => zero128_length, fun _ => zero128_length, fun _ => by decide⟩,
      IRow.nil _ _ _ _ _, IRow.nil _ _ _ _ _, rfl, rfl, fun j hj => (by cases hj), fun j hj => (by cases hj), rfl, by decide, fun _ => by decide⟩
  have HFW := Lib.hid hfw
  clear hst4 hc4 hgb hd4 hf4 hfa4 hfw HMK HD3 HF3
  go_wp2
  go_loopw [8, 9] (fun offs x wr => ∃ (k : Nat) (R : List Nat) (A B C : Nat → List Nat) (os : Nat → List ByteOp) (n : Nat) (S : Sk) (own : Own), x = .int .i64 k ∧ k ≤ len ∧ FW w1 T w1.heap.size ga gb k offs R A B C os n S own wr) (fun _ x _ => len - (intOf x).toNat)
  case atStart => exact ⟨0, [], _, _, _, _, 0, _, own4, rfl, by omega, HFW.out⟩
  case round =>
    obtain ⟨k, R, A, B, C, os, n, S, own, rfl, hk, hfw⟩ := hrel
    clear HFW
    have HFW := Lib.hid hfw
    obtain ⟨po, co, rfl⟩ := hfw.r1.shape
    by_cases hkl : k < len
    · have hki : (k : Int) < len := by omega
      have HTW := Lib.hid ((HT.out.below HB1.out).below hfw.du.disk.below)
      obtain ⟨lb, lo, rfl, hcell⟩ := HTW.out.at_ k hkl
      obtain ⟨q, c, hbc, hbb⟩ := HTW.out.body hkl
      obtain ⟨Bk, hBk⟩ : ∃ Bk, Bk = (T k).2 := ⟨_, rfl⟩
      rw [← hBk] at hbc hbb
      have HBT := Lib.hid hBk
      clear hBk hcell
      have hBl := hbb.short
      unfold maxLen at hBl
      by_cases h300 : 300 < Bk.length
      · have h300' : (300 : Int) < Bk.length := by omega
        have HBL := Lib.hid (HB1.out.trans (hfw.du.disk.below.mono HB1.out.size))
        clear hfw hbb h300
        go_wp2
        go_ret
        exact ⟨rfl, HBL.out⟩
      · have h300' : ¬ (300 : Int) < Bk.length := by omega
        have hfC : ∀ q, (C q).length ≤ 4944 := fun q => by have := hfw.fC q; omega
        have hused := hfw.du.used
        have hroom := hfw.du.room
        have hfine := hfw.du.fine (by have := hfw.fn; omega) (by have := hfC 1; omega) (by have := hfC 2; omega)
        have hk16 : k < 16 := by omega
        by_cases hp : k % 2 = 0
        · have hfq : fq k = 1 := by unfold fq; first | rw [if_neg (by omega)] | rw [if_pos (by omega)]
          have hpar : ((k : Int) % 2 == 1) = false := by simp; omega
          have hpar2 : (Int.tmod (k : Int) 2 == 1) = false := by rw [Int.tmod_eq_emod_of_nonneg (by omega)]; exact hpar
          have hap := at_append (A := A 1) (B := B 1) (C := C 1) (b := Bk) (k := k) (q := 1) hfw.du.disk hfw.du.fa hfine hfw.du.one hfw.du.c1 tA_may (by decide) (by have := hfw.du.left; omega) (hfw.du.lA 1) (hfw.du.lB 1) (by have := hfC 1; omega) (by rw [hroom, hused]; have := hfC 1; have := hfC 2; omega) (by omega) hbb (by omega)
          have HAP := Lib.hid hap
          obtain ⟨E, hE⟩ : ∃ E, E = 256 + (C 1).length := ⟨_, rfl⟩
          rw [← hE] at HAP
          have HE := Lib.hid hE
          clear hap hE hfw hbb h300 hp hfine hused hroom
          go_wp2_with fail
          refine HAP.out.mono ?_
          rintro e w6 ⟨rfl, own6, hm6, hd6, hf6⟩
          have hdu6 := HFW.out.du.put1 (HFW.out.du.lA 1) (HFW.out.du.lB 1) (by rw [HE.out] at hd6; exact hd6) hf6 hm6
          have hr16 := HFW.out.r1.moves hm6
          have hr26 := irow_other HFW.out.r2 HFW.out.r1 hm6
          have hho : ∀ t : TypeId, Calls Tryz.prog 15 #[.pointer (some ⟨ga, 0, none⟩), .int .u64 k, .slice (some ⟨w6.heap.size, 0, none⟩) 1 1] (w6.alloc (.cells #[.int .u8 k] t)) fun e w' => e = .returned (.int .i64 0) ∧ FX w1 T w1.heap.size ga gb k Bk (.slice po R.length co) R C E w' := fun t => by
            have hb0 := (Below.refl w6.heap.size w6).alloc (Nat.le_refl _) (.cells #[.int .u8 k] t)
            have hdu := hdu6.stay hb0
            have hfin := hdu.fine (by have := HFW.out.fn; omega) (by unfold upd; have := hfC 1; have := hfC 2; split <;> (try rw [List.length_append, recOf_length]) <;> omega) (by unfold upd; have := hfC 1; have := hfC 2; split <;> (try rw [List.length_append, recOf_length]) <;> omega)
            have hus := hdu.used
            have hu1 : (upd C 1 (C 1 ++ recOf k Bk) 1).length ≤ 100000 := by unfold upd; have := hfC 1; have := hfC 2; split <;> (try rw [List.length_append, recOf_length]) <;> omega
            have hu2 : (upd C 1 (C 1 ++ recOf k Bk) 2).length ≤ 100000 := by unfold upd; have := hfC 1; have := hfC 2; split <;> (try rw [List.length_append, recOf_length]) <;> omega
            have h := at_hold (q := 1) (b := [k]) (k := k) hdu.disk hdu.fa hfin hdu.one hdu.c1 tA_may (by decide) (by have := hdu.left; omega) (hdu.lA 1) (hdu.lB 1) (by rw [hdu.room, hus]; omega) (by omega) (Bytes.one rfl (by omega)) (show 1 ≤ 113 by decide)
            refine h.mono fun e w' ⟨h1, own', h2, h3, h4⟩ => ⟨h1, ?_⟩
            have hl : (slotOf k [k]).length = 128 := slotOf_length (show 1 ≤ 113 by decide)
            have hdu2 := hdu.put1 (by split; exact hl; exact hdu.lA 1) (by split; exact hdu.lB 1; exact hl) h3 h4 (h2.moves ga)
            exact ⟨_, _, _, _, _, _, _, hdu2, (hr16.stay hb0).steps h2, (hr26.stay hb0).steps h2, HFW.out.seen, HFW.out.laid, by have := HFW.out.fn; omega, fun x => by rw [two_upd, hfq]⟩
          have HHO := Lib.hid hho
          clear hm6 hd6 hf6 hdu6 hr16 hr26 hho HAP
          have hu8 : IntKind.u8.wrap (k : Int) = k := IntWalk.u8_in _ (by omega)
          have hu64 : IntKind.u64.wrap (k : Int) = k := IntWalk.u64_in _ (by omega)
          go_wp2_with fail
          refine (HHO.out _).mono ?_
          rintro e w7 ⟨rfl, A2, B2, C2, os2, n2, S2, own7, hdu7, hr17, hr27, hs7, hl7, hn7, hC7⟩
          have HDU := Lib.hid hdu7; have HR17 := Lib.hid hr17; have HR27 := Lib.hid hr27; have HS7 := Lib.hid hs7; have HL7 := Lib.hid hl7; have HN7 := Lib.hid hn7; have HC7 := Lib.hid hC7
          have HZ : Hid (w1.heap.size ≤ w7.heap.size ∧ ga < w7.heap.size ∧ R.length ≤ 1000000) := ⟨hdu7.disk.below.size, hdu7.fa.lt, by have := HFW.out.fR; omega⟩
          have HFQ := Lib.hid hfq
          clear hdu7 hr17 hr27 hs7 hl7 hn7 hC7 HHO hfq
          go_wp2_with (at_builtin; first
            | (refine wpList_append_int rfl (.tmp 89) (.tmp 91) 32 2 rfl int64T info64 HR17.out HZ.out.1 (fun j hj => HDU.out.disk.new_none hj) HZ.out.2.1 HZ.out.2.2 rfl rfl ?_
               intro v1 w8 hr8 hg8 hat8
               have HFW2 := Lib.hid (fw_next HFW.out HBT.out (by omega) (by rw [HFQ.out]; exact HE.out) HDU.out HR17.out HR27.out HS7.out HL7.out HN7.out HC7.out hr8 hg8 hat8)
               clear hr8 hg8 hat8))
          clear HDU HR17 HR27 HS7 HL7 HN7 HC7 HFW
          exact ⟨⟨k + 1, R ++ [E], A2, B2, C2, os2, n2, S2, own7, by go_num, by omega, HFW2.out⟩, by simp [intOf]; omega⟩
        · have hfq : fq k = 2 := by unfold fq; first | rw [if_neg (by omega)] | rw [if_pos (by omega)]
          have hpar : ((k : Int) % 2 == 1) = true := by simp; omega
          have hpar2 : (Int.tmod (k : Int) 2 == 1) = true := by rw [Int.tmod_eq_emod_of_nonneg (by omega)]; exact hpar
          have hap := at_append (A := A 2) (B := B 2) (C := C 2) (b := Bk) (k := k) (q := 2) hfw.du.disk hfw.du.fb hfine hfw.du.two hfw.du.c2 tB_may (by decide) (by have := hfw.du.left; omega) (hfw.du.lA 2) (hfw.du.lB 2) (by have := hfC 2; omega) (by rw [hroom, hused]; have := hfC 1; have := hfC 2; omega) (by omega) hbb (by omega)
          have HAP := Lib.hid hap
          obtain ⟨E, hE⟩ : ∃ E, E = 256 + (C 2).length := ⟨_, rfl⟩
          rw [← hE] at HAP
          have HE := Lib.hid hE
          clear hap hE hfw hbb h300 hp hfine hused hroom
          go_wp2_with fail
          refine HAP.out.mono ?_
          rintro e w6 ⟨rfl, own6, hm6, hd6, hf6⟩
          have hdu6 := HFW.out.du.put2 (HFW.out.du.lA 2) (HFW.out.du.lB 2) (by rw [HE.out] at hd6; exact hd6) hf6 hm6
          have hr16 := irow_other HFW.out.r1 HFW.out.r2 hm6
          have hr26 := HFW.out.r2.moves hm6
          have hho : ∀ t : TypeId, Calls Tryz.prog 15 #[.pointer (some ⟨gb, 0, none⟩), .int .u64 k, .slice (some ⟨w6.heap.size, 0, none⟩) 1 1] (w6.alloc (.cells #[.int .u8 k] t)) fun e w' => e = .returned (.int .i64 0) ∧ FX w1 T w1.heap.size ga gb k Bk (.slice po R.length co) R C E w' := fun t => by
            have hb0 := (Below.refl w6.heap.size w6).alloc (Nat.le_refl _) (.cells #[.int .u8 k] t)
            have hdu := hdu6.stay hb0
            have hfin := hdu.fine (by have := HFW.out.fn; omega) (by unfold upd; have := hfC 1; have := hfC 2; split <;> (try rw [List.length_append, recOf_length]) <;> omega) (by unfold upd; have := hfC 1; have := hfC 2; split <;> (try rw [List.length_append, recOf_length]) <;> omega)
            have hus := hdu.used
            have hu1 : (upd C 2 (C 2 ++ recOf k Bk) 1).length ≤ 100000 := by unfold upd; have := hfC 1; have := hfC 2; split <;> (try rw [List.length_append, recOf_length]) <;> omega
            have hu2 : (upd C 2 (C 2 ++ recOf k Bk) 2).length ≤ 100000 := by unfold upd; have := hfC 1; have := hfC 2; split <;> (try rw [List.length_append, recOf_length]) <;> omega
            have h := at_hold (q := 2) (b := [k]) (k := k) hdu.disk hdu.fb hfin hdu.two hdu.c2 tB_may (by decide) (by have := hdu.left; omega) (hdu.lA 2) (hdu.lB 2) (by rw [hdu.room, hus]; omega) (by omega) (Bytes.one rfl (by omega)) (show 1 ≤ 113 by decide)
            refine h.mono fun e w' ⟨h1, own', h2, h3, h4⟩ => ⟨h1, ?_⟩
            have hl : (slotOf k [k]).length = 128 := slotOf_length (show 1 ≤ 113 by decide)
            have hdu2 := hdu.put2 (by split; exact hl; exact hdu.lA 2) (by split; exact hdu.lB 2; exact hl) h3 h4 (h2.moves gb)
            exact ⟨_, _, _, _, _, _, _, hdu2, (hr16.stay hb0).steps h2, (hr26.stay hb0).steps h2, HFW.out.seen, HFW.out.laid, by have := HFW.out.fn; omega, fun x => by rw [two_upd, hfq]⟩
          have HHO := Lib.hid hho
          clear hm6 hd6 hf6 hdu6 hr16 hr26 hho HAP
          have hu8 : IntKind.u8.wrap (k : Int) = k := IntWalk.u8_in _ (by omega)
          have hu64 : IntKind.u64.wrap (k : Int) = k := IntWalk.u64_in _ (by omega)
          go_wp2_with fail
          refine (HHO.out _).mono ?_
          rintro e w7 ⟨rfl, A2, B2, C2, os2, n2, S2, own7, hdu7, hr17, hr27, hs7, hl7, hn7, hC7⟩
          have HDU := Lib.hid hdu7; have HR17 := Lib.hid hr17; have HR27 := Lib.hid hr27; have HS7 := Lib.hid hs7; have HL7 := Lib.hid hl7; have HN7 := Lib.hid hn7; have HC7 := Lib.hid hC7
          have HZ : Hid (w1.heap.size ≤ w7.heap.size ∧ ga < w7.heap.size ∧ R.length ≤ 1000000) := ⟨hdu7.disk.below.size, hdu7.fa.lt, by have := HFW.out.fR; omega⟩
          have HFQ := Lib.hid hfq
          clear hdu7 hr17 hr27 hs7 hl7 hn7 hC7 HHO hfq
          go_wp2_with (at_builtin; first
            | (refine wpList_append_int rfl (.tmp 89) (.tmp 91) 32 2 rfl int64T info64 HR17.out HZ.out.1 (fun j hj => HDU.out.disk.new_none hj) HZ.out.2.1 HZ.out.2.2 rfl rfl ?_
               intro v1 w8 hr8 hg8 hat8
               have HFW2 := Lib.hid (fw_next HFW.out HBT.out (by omega) (by rw [HFQ.out]; exact HE.out) HDU.out HR17.out HR27.out HS7.out HL7.out HN7.out HC7.out hr8 hg8 hat8)
               clear hr8 hg8 hat8))
          clear HDU HR17 HR27 HS7 HL7 HN7 HC7 HFW
          exact ⟨⟨k + 1, R ++ [E], A2, B2, C2, os2, n2, S2, own7, by go_num, by omega, HFW2.out⟩, by simp [intOf]; omega⟩
    · have hki : ¬ (k : Int) < len := by omega
      obtain rfl : k = len := by omega
      have hfine := hfw.du.fine (by have := hfw.fn; omega) (by have := hfw.fC 1; omega) (by have := hfw.fC 2; omega)
      have hrn := fileRenamed_any (t := tC) (n := 1) hfw.du.disk hfw.du.fa hfine (by decide) (by decide) tA_may tC_may (by have := hfw.du.left; omega) (by decide +kernel) (by rw [hfw.seen]; decide +kernel) (by rw [hfw.seen]; decide +kernel)
      have HRN := Lib.hid hrn
      clear hfw hk hkl hfine hrn
      go_wp2_with fail
      refine HRN.out.mono ?_
      rintro e w6 ⟨rfl, own6, hm6, hd6, hf6⟩
      have hfv : FV w1 T w1.heap.size ga gb k (.slice po R.length co) R A B C os (n + 1) (S.renamed) own6 w6 := fv_start HFW.out hm6 hd6 hf6 (by omega)
      have HFV := Lib.hid hfv
      have HRK := Lib.hid HFW.out.fR
      have HFN := Lib.hid HFW.out.fn
      clear hm6 hd6 hf6 hfv HRN HFW
      go_wp2
      go_loopw [13] (fun x wr => ∃ (j n : Nat) (S : Sk), x = .int .i64 j ∧ j ≤ k ∧ FV2 w1 T w1.heap.size ga gb k (.slice po R.length co) R A B C os n S j own6 wr) (fun x _ => k - (intOf x).toNat)
      case atStart => exact ⟨0, n + 1, _, rfl, by omega, HFV.out, by have := HFN.out; omega⟩
      case round =>
        obtain ⟨j, n, S, rfl, hj, hfv, hnj⟩ := hrel
        clear HFV HFN
        have HFV := Lib.hid hfv
        have hfk := hfv.fk
        by_cases hjl : j < k
        · have hji : (j : Int) < k := by omega
          have hjR : j < R.length := by rw [HRK.out]; exact hjl
          have hjRi : (j : Int) < R.length := by omega
          have hj16 : j < 16 := by omega
          obtain ⟨b1, rfl, hc1⟩ := hfv.r1.cell (i := j) hjR
          obtain ⟨o, ho⟩ : ∃ o, o = R.getD j 0 := ⟨_, rfl⟩
          rw [← ho] at hc1
          have hTW := ((HT.out.below HB1.out).below hfv.du.disk.below)
          obtain ⟨lb, lo, rfl, _⟩ := hTW.at_ j hjl
          obtain ⟨qb, c, hbc, hbb⟩ := hTW.body hjl
          obtain ⟨Bk, hBk⟩ : ∃ Bk, Bk = (T j).2 := ⟨_, rfl⟩
          rw [← hBk] at hbc hbb
          have HBT := Lib.hid hBk
          have hfC : ∀ q, (C q).length ≤ 4944 := fun q => by have := hfv.fC q; omega
          have hfine := hfv.du.fine (by omega) (by have := hfC 1; omega) (by have := hfC 2; omega)
          clear hTW
          by_cases hp : j % 2 = 0
          · have hfq : fq j = 1 := by unfold fq; first | rw [if_neg (by omega)] | rw [if_pos (by omega)]
            have hpar : ((j : Int) % 2 == 1) = false := by simp; omega
            have hpar2 : (Int.tmod (j : Int) 2 == 1) = false := by rw [Int.tmod_eq_emod_of_nonneg (by omega)]; exact hpar
            obtain ⟨h256, m, hdrop⟩ := hfv.at_ hjR hfq
            rw [← ho] at h256 hdrop
            rw [← hBk] at hdrop
            have hBl : Bk.length ≤ 4096 := by
              have := hfv.small j hjR
              rw [← hBk] at this
              omega
            have hrd := at_read (k := j) (b := Bk) (m := m) (off := o) (q := 1) hfv.du.disk hfv.du.fa hfine hfv.du.one hfv.du.c1 tC_may (by decide) (by have := hfv.du.left; omega) (by rw [K3_length (hfv.du.lA 1) (hfv.du.lB 1)]; have := hfC 1; omega) (by have := hfC 1; omega) h256 (by omega) hBl hbb.small hdrop
            have HRD := Lib.hid hrd
            have hu8 : IntKind.u8.wrap (j : Int) = j := IntWalk.u8_in _ (by omega)
            clear hrd hdrop hfv hBl h256 hBk ho hjR hfine hp hfq
            go_wp2_with fail
            refine HRD.out.mono ?_
            rintro e w9 ⟨p9, c9, rfl, hy9, _, hst9, hd9, hf9⟩
            have hfv9 := fv_next HFV.out hst9 hd9
            have HFV9 := Lib.hid hfv9
            have hTW := ((HT.out.below HB1.out).below hfv9.du.disk.below)
            obtain ⟨q', c', hbc9, hbb9⟩ := hTW.body hjl
            rw [← HBT.out] at hbc9 hbb9
            have x1 := fun nq => (Sl.bytes_drewN hy9 nq).toString byT (P := Tryz.prog) (d := 9) (by kernel_rfl)
            have x2 := fun nq => (Sl.bytes_drewN hbb9 nq).toString byT (P := Tryz.prog) (d := 9) (by kernel_rfl)
            clear hy9 hst9 hd9 hf9 hfv9 hTW hbb9 HRD HFV HBT hbc hbb hc1
            go_wp2
            go_big_quiet (fail)
            have HFV10 := Lib.hid (HFV9.out.drew nq)
            clear x1 x2 hbc9 HFV9
            generalize w9.drewN nq = w10 at *
            go_wp2
            exact ⟨⟨j + 1, n + 1, S.tick, by go_num, by omega, HFV10.out, by omega⟩, by simp [intOf]; omega⟩
          · have hfq : fq j = 2 := by unfold fq; first | rw [if_neg (by omega)] | rw [if_pos (by omega)]
            have hpar : ((j : Int) % 2 == 1) = true := by simp; omega
            have hpar2 : (Int.tmod (j : Int) 2 == 1) = true := by rw [Int.tmod_eq_emod_of_nonneg (by omega)]; exact hpar
            obtain ⟨h256, m, hdrop⟩ := hfv.at_ hjR hfq
            rw [← ho] at h256 hdrop
            rw [← hBk] at hdrop
            have hBl : Bk.length ≤ 4096 := by
              have := hfv.small j hjR
              rw [← hBk] at this
              omega
            have hrd := at_read (k := j) (b := Bk) (m := m) (off := o) (q := 2) hfv.du.disk hfv.du.fb hfine hfv.du.two hfv.du.c2 tB_may (by decide) (by have := hfv.du.left; omega) (by rw [K3_length (hfv.du.lA 2) (hfv.du.lB 2)]; have := hfC 2; omega) (by have := hfC 2; omega) h256 (by omega) hBl hbb.small hdrop
            have HRD := Lib.hid hrd
            have hu8 : IntKind.u8.wrap (j : Int) = j := IntWalk.u8_in _ (by omega)
            clear hrd hdrop hfv hBl h256 hBk ho hjR hfine hp hfq
            go_wp2_with fail
            refine HRD.out.mono ?_
            rintro e w9 ⟨p9, c9, rfl, hy9, _, hst9, hd9, hf9⟩
            have hfv9 := fv_next HFV.out hst9 hd9
            have HFV9 := Lib.hid hfv9
            have hTW := ((HT.out.below HB1.out).below hfv9.du.disk.below)
            obtain ⟨q', c', hbc9, hbb9⟩ := hTW.body hjl
            rw [← HBT.out] at hbc9 hbb9
            have x1 := fun nq => (Sl.bytes_drewN hy9 nq).toString byT (P := Tryz.prog) (d := 9) (by kernel_rfl)
            have x2 := fun nq => (Sl.bytes_drewN hbb9 nq).toString byT (P := Tryz.prog) (d := 9) (by kernel_rfl)
            clear hy9 hst9 hd9 hf9 hfv9 hTW hbb9 HRD HFV HBT hbc hbb hc1
            go_wp2
            go_big_quiet (fail)
            have HFV10 := Lib.hid (HFV9.out.drew nq)
            clear x1 x2 hbc9 HFV9
            generalize w9.drewN nq = w10 at *
            go_wp2
            exact ⟨⟨j + 1, n + 1, S.tick, by go_num, by omega, HFV10.out, by omega⟩, by simp [intOf]; omega⟩
        · have hji : ¬ (j : Int) < k := by omega
          have HB := Lib.hid (HB1.out.trans (hfv.du.disk.below.mono HB1.out.size))
          have hls := hfv.du.disk.list (by rw [hfv.seen]; decide +kernel) (by rw [hfv.seen]; decide)
          rw [hfv.seen, two_sorted] at hls
          have HLS := Lib.hid hls
          clear hfv hls
          go_wp2_with fail
          refine HLS.out.mono ?_
          rintro e w9 ⟨v9, rfl, hown9, hb9⟩
          obtain ⟨b9, c9, rfl⟩ : ∃ b c, v9 = .slice (some ⟨b, 0, none⟩) 2 c := by
            rcases hown9.2 with ⟨_, h2⟩ | ⟨b, c, _, h1, _⟩
            · cases h2
            · exact ⟨b, c, h1⟩
          have d0 : w9.cell? ⟨b9, 0, none⟩ = some (.string ⟨#[98]⟩) := World.ownsRow.cells hown9 (g := b9) rfl 0 _ rfl
          have d1 : w9.cell? ⟨b9, 1, none⟩ = some (.string ⟨#[99]⟩) := World.ownsRow.cells hown9 (g := b9) rfl 1 _ rfl
          have hna : Calls Tryz.prog 18 #[.pointer (some ⟨ga, 0, none⟩)] w9 fun e w' => e = .returned (.string ⟨#[99]⟩) ∧ w9 = w' := name_any (HFV.out.du.fa.stay hb9)
          have hnb : Calls Tryz.prog 18 #[.pointer (some ⟨gb, 0, none⟩)] w9 fun e w' => e = .returned (.string ⟨#[98]⟩) ∧ w9 = w' := name_any (HFV.out.du.fb.stay hb9)
          have HNA := Lib.hid hna; have HNB := Lib.hid hnb
          have HB9 : Hid (Below w.heap.size w w9) := HB.out.trans (hb9.mono HB.out.size)
          clear hown9 hb9 hna hnb HLS HFV HB
          go_wp2_with fail
          refine HNA.out.mono ?_
          rintro e w10 ⟨rfl, rfl⟩
          go_wp2_with fail
          refine HNB.out.mono ?_
          rintro e w10 ⟨rfl, rfl⟩
          go_wp2
          go_ret
          exact ⟨rfl, HB9.out⟩

set_option maxRecDepth 100000 in
theorem two_lifted (os : Os) (started : os.Started) (H : Type) (enc : TypeId × Value → H) :
    ReturnsInHanded {} Tryz.checked os 4 .any (Rows.fileTwoSpec.pre6 enc Tryz.prog Tryz.f4 Rows.fileTwoRow.domain false) (Rows.fileTwoSpec.post enc Tryz.prog Tryz.f4 false true false false) := by
  refine returnsInHanded_of_change (C := Tryz.checked) Sl.own_none started (by kernel_rfl) Tryz.func4
    (ChangeSpec.witness6 (enc := enc) (C := Tryz.checked) false ⟨#[], #[.slice none 0 0], []⟩ 8 (by kernel_rfl) (by kernel_rfl) (by kernel_rfl) (by kernel_rfl)) ?_
  intro W base args ds gs before hval0 hW hcnd _
  have hval : ∀ (j : Nat) t v, Tryz.f4.params[j]? = some t → args[j]? = some v → Value.okWide Tryz.prog W .any base t v := hval0
  have hW' := hW
  obtain ⟨p, q, hA0, hV, rfl, hfz, hnd⟩ := hW
  have hA : DataW.TrodAll enc Tryz.prog W 0 (fun _ => true) true Tryz.f4.params.toList args.toList ds p := hA0
  have hp : Tryz.f4.params = #[22] := by kernel_rfl
  rw [hp] at hA hval
  obtain ⟨v0, d0, rfl, rfl, h0⟩ := trodAll_one hA
  obtain ⟨rfl, rfl⟩ := trodVars_none hV
  obtain ⟨p, n, cap, T, rfl, hT⟩ := open_rows (P := Tryz.prog) (t := 22) (e := 23) (te := 5) (by kernel_rfl) (by kernel_rfl) byT (by kernel_rfl) (hval 0 22 v0 rfl rfl) h0
  refine (two_any p n cap T W hT).mono fun e W' ⟨he, hb⟩ => ?_
  subst he
  exact ⟨_, rfl, law_post (tb := 4) Sl.laidOut (by rw [hp]; intro t ht; simp at ht; subst ht; exact ⟨by kernel_rfl, by decide +kernel⟩) rfl rfl (by kernel_rfl) (by kernel_rfl) hW' hb⟩

theorem fileTwo_holds : Rows.FileTwoSaid :=
  OpenClaim.holds_of_wide 4 Tryz.f4 rfl rfl rfl rfl rfl rfl rfl ⟨rfl, rfl, rfl, rfl, rfl⟩ rfl rfl rfl rfl rfl (by kernel_rfl) Tryz.func4 (by kernel_rfl)
    (of_decide_eq_true (by kernel_rfl)) (by unfold Func.isWrapper; rw [if_neg (by decide +kernel)]; exact ⟨rfl, rfl⟩)
    (fun os started H enc _ => two_lifted os started H enc)
end Go.Proofs.YtldkeelgnfegeaaGreat
