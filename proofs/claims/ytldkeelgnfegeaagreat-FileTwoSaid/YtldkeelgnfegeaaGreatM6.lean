/- Own texts, merged: FlE, FlF, FlG, FlP, FlI, FlH, FlJ, FlM, FlN, FlO, FlQ. -/
import Derived.Test.YtldkeelgnfegeaaGreatM5
import Derived.Lib.SlBytesConst
import Derived.Maps.AppendAt

/- A file of a disk: Held. -/
namespace Go.Proofs.YtldkeelgnfegeaaGreat
open Go Go.RowKit Go.By

/-- What Held tells: the generation, the body, the error. -/
def heldOut (S : Sk) (s : ByteArray) : Nat × List Nat × Int :=
  if (S.read s 0 256).2 ≠ 0 then (0, [], (S.read s 0 256).2)
  else (btGen ((S.read s 0 256).1.take 128) ((S.read s 0 256).1.drop 128), btBody ((S.read s 0 256).1.take 128) ((S.read s 0 256).1.drop 128), btErr ((S.read s 0 256).1.take 128) ((S.read s 0 256).1.drop 128))

theorem low_run (b len cap i : Nat) (hn : i ≤ len) (hlc : len ≤ cap) (hi : i < cap) (w : World) :
    (Instr.slice 23 (.slice (some ⟨b, 0, none⟩) len cap) (some (.int .i64 (i : Int))) none none).run Tryz.prog w = .ok (.slice (some ⟨b, i, none⟩) (len - i) (cap - i)) w := by
  have hr := run_slice_l (P := Tryz.prog) w 23 (some ⟨b, 0, none⟩) len cap (by kernel_rfl) .i64 (i : Int) (by omega) (by omega)
  have e2 : (i : Int).toNat = i := by omega
  simp only [Sl.bytT_size, Result.andThen, e2, sliced, Nat.mul_one] at hr
  rw [hr]
  rw [if_neg (by omega)]
  simp [Addr.add_lit]
theorem bytes_upper {w : World} {g cap i : Nat} {l : List Nat} (h : Bytes w (.slice (some ⟨g, 0, none⟩) l.length cap) l) (hi : i ≤ l.length) (hc : l.length ≤ cap) : Bytes w (.slice (some ⟨g, i, none⟩) (l.length - i) (cap - i)) (l.drop i) := by
  have hlen : (l.drop i).length = l.length - i := by simp
  refine ⟨?_, fun c hc => h.small c (List.mem_of_mem_drop hc), by rw [hlen]; have := h.short; omega⟩
  rcases h.out with ⟨h1, _⟩ | ⟨a, h1, h2⟩ | ⟨b, off, cap', h1, h2, hcell⟩
  · cases h1
  · have hl0 : l.length = 0 := by rw [h2]; rfl
    have hc0 : cap = 0 := by
      simp only [Value.slice.injEq] at h1
      exact h1.2.2
    exact .inr (.inl ⟨⟨g, i, none⟩, by rw [hl0, hc0]; simp, by rw [h2]; simp⟩)
  · simp only [Value.slice.injEq, Option.some.injEq, Addr.mk.injEq, true_and, and_true] at h1
    obtain ⟨⟨rfl, rfl⟩, rfl⟩ := h1
    refine .inr (.inr ⟨g, i, cap - i, by rw [hlen], by rw [hlen]; omega, fun j hj => ?_⟩)
    rw [hlen] at hj
    have := hcell (i + j) (by omega)
    rw [Nat.zero_add] at this
    rw [this]
    unfold atB
    simp [List.getD_eq_getElem?_getD]

set_option maxRecDepth 100000 in
theorem held_any {W w : World} {g a : Nat} {s : ByteArray} {E : Nat} {S : Sk} {own : Own} (hD : Dsk W a S own w) (h : Fil W g a s E own w) (hF : S.Fine) (hs : s.size ≤ maxLen) :
    Calls Tryz.prog 19 #[.pointer (some ⟨g, 0, none⟩)] w fun e w' => ∃ p c, e = .returned (.tuple #[.int .u64 (heldOut S s).1, .slice p (heldOut S s).2.1.length c, .int .i64 (heldOut S s).2.2]) ∧
      Bytes w' (.slice p (heldOut S s).2.1.length c) (heldOut S s).2.1 ∧ Steps own own w w' ∧ Dsk W a S.tick own w' ∧ Fil W g a s E own w' := by
  have HN := Lib.hid (isNone_any h)
  obtain ⟨c0, c1, _⟩ := h.at_
  have hfil : ∀ w', Steps own own w w' → Fil W g a s E own w' := fun w' hst => h.steps hst
  have HFIL := Lib.hid hfil
  have HO : Hid (heldOut S s = if (S.read s 0 256).2 ≠ 0 then (0, [], (S.read s 0 256).2) else (btGen ((S.read s 0 256).1.take 128) ((S.read s 0 256).1.drop 128), btBody ((S.read s 0 256).1.take 128) ((S.read s 0 256).1.drop 128), btErr ((S.read s 0 256).1.take 128) ((S.read s 0 256).1.drop 128))) := rfl
  have HR := Lib.hid (hD.read_held h hF hs 0 256)
  have HL : Hid ((S.read s 0 256).2 = 0 → (S.read s 0 256).1.length = 256) := fun h0 => Sk.read_len (n := 256) h0
  have HSM := Lib.hid (hD.read_small s 0 256)
  clear hD h hF hfil
  have hsb : ∃ l x, S.read s 0 256 = (l, x) := ⟨_, _, rfl⟩
  obtain ⟨l, x, hR⟩ := hsb
  rw [hR] at HR HO HL HSM
  clear hR
  dsimp only at HR HO HL HSM
  go_enter Tryz.func19, Tryz.ntmps19
  go_wp2_with (go_at_call 28; refine HN.out.mono ?_; rintro e w1 ⟨rfl, rfl⟩)
  go_region_held3 (fun w' => w'.cell? ⟨g, 0, none⟩ = some (.pointer (some ⟨a, 0, none⟩)) ∧ w'.cell? ⟨g, 1, none⟩ = some (.string s)) (go_keep)
    (first | (go_at_call 41; refine (HR.out _ (by rfl) (by rfl) (by rfl) (by rfl)).mono ?_; rintro e w2 ⟨p, c, rfl, d0, d1, hown, hz, hst, hd⟩))
  have HST := Lib.hid hst
  have HD2 := Lib.hid hd
  by_cases hx : x = 0
  · subst hx
    have hl := HL.out rfl
    rw [if_neg (by simp)] at HO
    have hby := Bytes.of_owns hown HSM.out (by rw [hl]; decide)
    obtain ⟨b, rfl, hcap⟩ : ∃ b, p = some ⟨b, 0, none⟩ ∧ l.length ≤ c := by
      rcases hown.2 with ⟨h1, h2⟩ | ⟨b, c', cur, h1, h2, h3, h4⟩
      · omega
      · simp only [Value.slice.injEq, true_and] at h1
        exact ⟨b, h1.1, by have := hby.room.2; omega⟩
    have hu1 := fun w => Sl.upto_run (some ⟨b, 0, none⟩) l.length c 128 (by omega) w
    have hu2 := fun w => low_run b l.length c 128 (by omega) hcap (by omega) w
    have hy1 : Bytes w2 (.slice (some ⟨b, 0, none⟩) 128 c) (l.take 128) := hby.upto (by omega)
    have hy2 : Bytes w2 (.slice (some ⟨b, 128, none⟩) (l.length - 128) (c - 128)) (l.drop 128) := bytes_upper hby (by omega) hcap
    have hbt : ∀ w0 : World, w0.heap = w2.heap → w0.os = w2.os → w0.tape = w2.tape → w0.output = w2.output → Calls Tryz.prog 42 #[.slice (some ⟨b, 0, none⟩) 128 c, .slice (some ⟨b, 128, none⟩) (l.length - 128) (c - 128)] w0 fun e w' => ∃ p c, e = .returned (.tuple #[.int .i64 (btWhich (l.take 128) (l.drop 128) : Nat), .int .u64 (btGen (l.take 128) (l.drop 128) : Nat), .slice p (btBody (l.take 128) (l.drop 128)).length c, .int .i64 (btErr (l.take 128) (l.drop 128) : Nat)]) ∧ Bytes w' (.slice p (btBody (l.take 128) (l.drop 128)).length c) (btBody (l.take 128) (l.drop 128)) ∧ Below w2.heap.size w2 w' := by
      intro w0 e1 e2 e3 e4
      have hb0 := below_same e1 e2 e3 e4
      refine (Sl.better_all _ _ _ _ w0 (hy1.below hb0) (hy2.below hb0) (by simp; omega) (by simp; omega)).mono ?_
      rintro e w' ⟨p', c', h1, h2, h3⟩
      exact ⟨p', c', h1, h2, hb0.trans (by rw [e1] at h3; exact h3)⟩
    have HBT := Lib.hid hbt
    clear hbt
    rw [hl] at hu1 hu2 HBT ⊢
    have hi1 : ((128 : Nat) : Int) = 128 := rfl
    simp only [hi1] at hu1 hu2
    clear hown hz hst hd hby hy1 hy2 HR HL HSM HN hi1
    generalize btWhich (l.take 128) (l.drop 128) = B1 at *
    generalize btGen (l.take 128) (l.drop 128) = B2 at *
    generalize btBody (l.take 128) (l.drop 128) = B3 at *
    generalize btErr (l.take 128) (l.drop 128) = B4 at *
    go_wp2
    go_region_held3 (fun _ => True) (trivial)
      (first | (go_at_call 42; refine (HBT.out _ (by rfl) (by rfl) (by rfl) (by rfl)).mono ?_; rintro e w3 ⟨p3, c3, rfl, hb3, hbw⟩))
    have HFIN : Hid (Bytes w3 (.slice p3 B3.length c3) B3 ∧ Steps own own w w3 ∧ Dsk W a S.tick own w3 ∧ Fil W g a s E own w3) :=
      ⟨hb3, HST.out.trans (Steps.of_below hbw), HD2.out.stay hbw, HFIL.out _ (HST.out.trans (Steps.of_below hbw))⟩
    clear hb3 hbw HBT
    go_wp2
    go_returns
    rw [HO.out]
    exact ⟨p3, c3, rfl, HFIN.out⟩
  · rw [if_pos hx] at HO
    clear hown hz hst hd HR HL HSM HN
    go_wp2
    go_returns
    rw [HO.out]
    exact ⟨none, 0, rfl, Bytes.nil _, HST.out, HD2.out, HFIL.out _ HST.out⟩
end Go.Proofs.YtldkeelgnfegeaaGreat

/- A file of a disk: Create. -/
namespace Go.Proofs.YtldkeelgnfegeaaGreat
open Go Go.RowKit Go.By

theorem Dsk.remove {W w : World} {a : Nat} {S : Sk} {own : Own} (h : Dsk W a S own w) (hF : S.Fine) (s : ByteArray) (hs : s.size ≤ maxLen) :
    Calls Tryz.prog 23 #[.pointer (some ⟨a, 0, none⟩), .string s] w fun e w' => (∃ x, e = .returned (.int .i64 x)) ∧ ∃ own', Steps own own' w w' := by
  obtain ⟨D, hd, hok, rfl⟩ := h.out
  exact remove_any own a D s w hd hok hF.ops hF.left hs (by have := hF.used; exact ⟨by have := this.1; show _ ≤ D.sk.used; omega, this.2⟩) hF.short hF.laid

/-- What a new file is on. -/
def Sk.made2 (S : Sk) (s : ByteArray) : Sk × Int := (S.create s).1.truncate s 256
def Sk.Made (W : World) (a : Nat) (s : ByteArray) (S2 : Sk) (x : Int) (S3 : Sk) (y : Int) (own : Own) (w : World) (e : Ending) (w' : World) : Prop :=
  ∃ own', Steps own own' w w' ∧
      ((x ≠ 0 ∧ e = .returned (.tuple #[.pointer none, .int .i64 x]) ∧ Dsk W a S2 own' w') ∨
       (x = 0 ∧ y ≠ 0 ∧ e = .returned (.tuple #[.pointer none, .int .i64 y])) ∨
       (x = 0 ∧ y = 0 ∧ ∃ g, w.heap.size ≤ g ∧ e = .returned (.tuple #[.pointer (some ⟨g, 0, none⟩), .int .i64 0]) ∧ Dsk W a S3 own' w' ∧ Fil W g a s 256 own' w'))
set_option maxRecDepth 100000 in
theorem fileCreate_any {W w : World} {a : Nat} {S : Sk} {own : Own} (hD : Dsk W a S own w) (hF : S.Fine) (s : ByteArray) (hF2 : (S.create s).2 = 0 → (S.create s).1.Fine ∧ (S.made2 s).1.Fine) (hs : s.size ≤ maxLen) :
    Calls Tryz.prog 8 #[.pointer (some ⟨a, 0, none⟩), .string s] w (Sk.Made W a s (S.create s).1 (S.create s).2 (S.made2 s).1 (S.made2 s).2 own w) := by
  have HC := Lib.hid (hD.create hF s hs)
  have hn := hD.below.size
  unfold Sk.made2 at hF2 ⊢
  have hsb : ∃ S2 x, S.create s = (S2, x) := ⟨_, _, rfl⟩
  obtain ⟨S2, x, hR⟩ := hsb
  rw [hR] at HC hF2 ⊢
  dsimp only at HC hF2 ⊢
  have HT : Hid (x = 0 → ∀ own2 w2, Dsk W a S2 own2 w2 → _) := fun hx own2 w2 h2 => h2.truncate (hF2 hx).1 s hs 256
  have hsb : ∃ S3 y, S2.truncate s 256 = (S3, y) := ⟨_, _, rfl⟩
  obtain ⟨S3, y, hR2⟩ := hsb
  rw [hR2] at HT hF2 ⊢
  dsimp only at HT hF2 ⊢
  have HRM : Hid (x = 0 → ∀ own3 w3, Dsk W a S3 own3 w3 → _) := fun hx own3 w3 h3 => h3.remove (hF2 hx).2 s hs
  clear hD hF hF2 hR hR2
  go_enter Tryz.func8, Tryz.ntmps8
  go_wp2_with fail
  refine HC.out.mono ?_
  rintro e w1 ⟨rfl, own1, hst1, hd1⟩
  have HST1 := Lib.hid hst1
  have HD1 := Lib.hid hd1
  have HT1 : Hid (x = 0 → _) := fun hx => HT.out hx own1 w1 hd1
  clear hst1 hd1 HT HC
  by_cases hx : x = 0
  · subst hx
    go_wp2_with fail
    refine (HT1.out (by trivial)).mono ?_
    rintro e w2 ⟨rfl, own2, hst2, hd2⟩
    have HST2 := Lib.hid (HST1.out.trans hst2)
    have HD2 := Lib.hid hd2
    have HRM1 := Lib.hid (HRM.out (by trivial) own2 w2 hd2)
    clear hst2 hd2 HT1 HRM
    by_cases hy : y = 0
    · subst hy
      have HNW := Lib.hid (heap_alloc_new w2 (.cells #[.pointer (some ⟨a, 0, none⟩), .string s, .int .i64 (256 : Nat)] 59))
      have HB := Lib.hid ((Below.refl w2.heap.size w2).alloc (Nat.le_refl _) (.cells #[.pointer (some ⟨a, 0, none⟩), .string s, .int .i64 (256 : Nat)] 59))
      go_wp2
      go_ret2
      exact ⟨own2, HST2.out.trans (Steps.of_below HB.out), .inr (.inr ⟨rfl, rfl, w2.heap.size, HST2.out.size, rfl, HD2.out.stay HB.out, HNW.out, HD2.out.new_none (Nat.le_refl _), HD2.out.below.size⟩)⟩
    · go_wp2_with fail
      refine HRM1.out.mono ?_
      rintro e w3 ⟨⟨z, rfl⟩, own3, hst3⟩
      have HST3 := Lib.hid (HST2.out.trans hst3)
      clear hst3
      go_wp2
      go_ret2
      exact ⟨own3, HST3.out, .inr (.inl ⟨rfl, hy, rfl⟩)⟩
  · go_wp2
    go_ret2
    exact ⟨own1, HST1.out, .inl ⟨hx, rfl, HD1.out⟩⟩
end Go.Proofs.YtldkeelgnfegeaaGreat

/- A file that is none, a disk that is none: what they tell. -/
namespace Go.Proofs.YtldkeelgnfegeaaGreat
open Go Go.RowKit Go.By

set_option maxRecDepth 100000 in
theorem end_nil (w : World) : Calls Tryz.prog 20 #[.pointer none] w fun e w' => e = .returned (.int .i64 0) ∧ w = w' := by
  go_enter Tryz.func20, Tryz.ntmps20
  go_wp2_with (go_at_call 28; refine (isNone_nil _).mono ?_; rintro e w1 ⟨rfl, rfl⟩)
  go_ret
  exact ⟨rfl, rfl⟩
set_option maxRecDepth 100000 in
theorem name_nil (w : World) : Calls Tryz.prog 18 #[.pointer none] w fun e w' => e = .returned (.string ByteArray.empty) ∧ w = w' := by
  go_enter Tryz.func18, Tryz.ntmps18
  go_wp2_with (go_at_call 28; refine (isNone_nil _).mono ?_; rintro e w1 ⟨rfl, rfl⟩)
  go_ret
  exact ⟨rfl, rfl⟩
set_option maxRecDepth 100000 in
theorem sync_nil (w : World) : Calls Tryz.prog 11 #[.pointer none] w fun e w' => e = .returned (.int .i64 1) ∧ w = w' := by
  go_enter Tryz.func11, Tryz.ntmps11
  go_wp2_with (go_at_call 28; refine (isNone_nil _).mono ?_; rintro e w1 ⟨rfl, rfl⟩)
  go_ret
  exact ⟨rfl, rfl⟩
set_option maxRecDepth 100000 in
theorem renamed_nil (t : ByteArray) (w : World) : Calls Tryz.prog 16 #[.pointer none, .string t] w fun e w' => e = .returned (.int .i64 1) ∧ w = w' := by
  go_enter Tryz.func16, Tryz.ntmps16
  go_wp2_with (go_at_call 28; refine (isNone_nil _).mono ?_; rintro e w1 ⟨rfl, rfl⟩)
  go_ret
  exact ⟨rfl, rfl⟩
set_option maxRecDepth 100000 in
theorem held_nil (w : World) : Calls Tryz.prog 19 #[.pointer none] w fun e w' => e = .returned (.tuple #[.int .u64 0, .slice none 0 0, .int .i64 1]) ∧ w = w' := by
  go_enter Tryz.func19, Tryz.ntmps19
  go_wp2_with (go_at_call 28; refine (isNone_nil _).mono ?_; rintro e w1 ⟨rfl, rfl⟩)
  go_returns
  exact ⟨rfl, rfl⟩
set_option maxRecDepth 100000 in
theorem read_nil (off : Int) (w : World) : Calls Tryz.prog 14 #[.pointer none, .int .i64 off] w fun e w' => e = .returned (.tuple #[.int .u8 0, .slice none 0 0, .int .i64 1]) ∧ w = w' := by
  go_enter Tryz.func14, Tryz.ntmps14
  go_wp2_with (go_at_call 28; refine (isNone_nil _).mono ?_; rintro e w1 ⟨rfl, rfl⟩)
  go_returns
  exact ⟨rfl, rfl⟩
set_option maxRecDepth 100000 in
theorem lay_nil (off : Int) (v : Value) (w : World) : Calls Tryz.prog 26 #[.pointer none, .int .i64 off, v] w fun e w' => e = .returned (.tuple #[.int .i64 0, .int .i64 1]) ∧ w = w' := by
  go_enter Tryz.func26, Tryz.ntmps26
  go_wp2_with (go_at_call 28; refine (isNone_nil _).mono ?_; rintro e w1 ⟨rfl, rfl⟩)
  go_ret2
  exact ⟨rfl, rfl⟩
set_option maxRecDepth 100000 in
theorem append_nil (k : Int) (w : World) : Calls Tryz.prog 10 #[.pointer none, .int .u8 k, .slice none 0 0] w fun e w' => e = .returned (.tuple #[.int .i64 0, .int .i64 1]) ∧ w = w' := by
  go_enter Tryz.func10, Tryz.ntmps10
  go_wp2_with fail
  refine (end_nil w).mono ?_
  rintro e w1 ⟨rfl, rfl⟩
  go_wp2_with fail
  refine (lay_nil _ _ w).mono ?_
  rintro e w1 ⟨rfl, rfl⟩
  go_wp2
  go_ret2
  exact ⟨rfl, rfl⟩
set_option maxRecDepth 100000 in
theorem hold_nil (k : Nat) (w : World) : Calls Tryz.prog 15 #[.pointer none, .int .u64 k, .slice none 0 0] w fun e w' => e = .returned (.int .i64 1) ∧ w = w' := by
  go_enter Tryz.func15, Tryz.ntmps15
  go_wp2_with fail
  refine (lay_nil _ _ w).mono ?_
  rintro e w1 ⟨rfl, rfl⟩
  go_wp2
  go_ret
  exact ⟨rfl, rfl⟩
set_option maxRecDepth 100000 in
theorem open_nil (s : ByteArray) (w : World) : Calls Tryz.prog 13 #[.pointer none, .string s] w fun e w' => e = .returned (.tuple #[.pointer none, .int .i64 1]) ∧ w = w' := by
  go_enter Tryz.func13, Tryz.ntmps13
  go_wp2
  go_ret2
  exact ⟨rfl, rfl⟩
set_option maxRecDepth 100000 in
theorem begin_nil (m : Bool) (w : World) : Calls Tryz.prog 24 #[.pointer none, .bool m] w fun e w' => e = .returned (.int .i64 1) ∧ w = w' := by
  go_enter Tryz.func24, Tryz.ntmps24
  go_wp2
  go_ret
  exact ⟨rfl, rfl⟩
set_option maxRecDepth 100000 in
theorem create_nil (s : ByteArray) (hs : s.size ≤ maxLen) (w : World) : Calls Tryz.prog 21 #[.pointer none, .string s] w fun e w' => e = .returned (.int .i64 1) ∧ w = w' := by
  go_enter Tryz.func21, Tryz.ntmps21
  go_wp2_with (go_at_call 43; refine (mayName_any s _ hs).mono ?_; rintro e w1 ⟨rfl, rfl⟩)
  refine (begin_nil _ w).mono ?_
  rintro e w1 ⟨rfl, rfl⟩
  go_wp2
  go_ret
  exact ⟨rfl, rfl⟩
set_option maxRecDepth 100000 in
theorem fileCreate_nil (s : ByteArray) (hs : s.size ≤ maxLen) (w : World) : Calls Tryz.prog 8 #[.pointer none, .string s] w fun e w' => e = .returned (.tuple #[.pointer none, .int .i64 1]) ∧ w = w' := by
  go_enter Tryz.func8, Tryz.ntmps8
  go_wp2_with fail
  refine (create_nil s hs w).mono ?_
  rintro e w1 ⟨rfl, rfl⟩
  go_wp2
  go_ret2
  exact ⟨rfl, rfl⟩
end Go.Proofs.YtldkeelgnfegeaaGreat

/- A disk with one file of slots and records: what operations make of it. Plain. -/
namespace Go.Proofs.YtldkeelgnfegeaaGreat
open Go Go.RowKit Go.By

def noFile : FileA := ⟨[], [], []⟩
def oneF (s : ByteArray) (R : Int) (ops lf : Nat) (kp : List (ByteArray × Nat)) (ld : List NameOp) (K K0 : List Nat) (os : List ByteOp) : Sk :=
  ⟨R, K.length, ops, lf, 1, [(s, 1)], kp, ld, fun n => if n = 1 then ⟨K, K0, os⟩ else noFile⟩

theorem num_may {off : Nat} (h : off ≤ 16777216) : mayNumber (off : Int) = true := by unfold mayNumber; simp; omega
theorem err_ok {S : Sk} {m : Bool} (h : S.left ≠ 1) (hm : m = true) : S.err m = 0 := by
  unfold Sk.err
  rw [if_neg h, if_pos hm]
theorem err_io {S : Sk} {m : Bool} (h : S.left = 1) : S.err m = 5 := by
  unfold Sk.err
  rw [if_pos h]
theorem get_one (s : ByteArray) (n : Nat) : Mp.get [(s, n)] s = some n := by simp [Mp.get]

theorem oneF_fine {s : ByteArray} {R : Int} {ops lf : Nat} {kp : List (ByteArray × Nat)} {ld : List NameOp} {K K0 : List Nat} {os : List ByteOp} (ho : ops < 1000000) (hl : lf < 1000000) (hld : ld.length < 1000000) (hK : K.length ≤ 16777216) (hos : os.length < 1000000) (hR : 0 ≤ R ∧ R ≤ 1099511627776) : (oneF s R ops lf kp ld K K0 os).Fine where
  ops := by show ops < _; omega
  left := by show lf < _; omega
  made := by show 1 < _; omega
  laid := hld
  few := fun n => by
    show (if n = 1 then (⟨K, K0, os⟩ : FileA) else noFile).laid.length < _
    split
    · exact hos
    · show 0 < _; omega
  short := fun n => by
    show (if n = 1 then (⟨K, K0, os⟩ : FileA) else noFile).seen.length ≤ _
    split
    · show K.length ≤ _; omega
    · show 0 ≤ _; omega
  room := by show 0 ≤ R ∧ R ≤ _; omega
  used := by show 0 ≤ (K.length : Int) ∧ (K.length : Int) ≤ _; omega

/-- The bytes behind a write. -/
def nextK (K : List Nat) (off : Nat) (b : List Nat) : List Nat := (redoWrite off b allBits b.length 0 0 K).1
theorem nextK_at (K : List Nat) (off : Nat) (b : List Nat) (k : Nat) : atB (nextK K off b) k = if off ≤ k ∧ k < off + b.length then atB b (k - off) else atB K k := by
  unfold nextK
  by_cases h : 0 < b.length
  · exact (redoWrite_all b.length 0 0 K (by omega) h).1 k
  · have : b = [] := List.length_eq_zero_iff.1 (by omega)
    subst this
    rw [if_neg (by simp)]; rfl
theorem nextK_length (K : List Nat) (off : Nat) {b : List Nat} (h : b ≠ []) : (nextK K off b).length = max K.length (off + b.length) := (redoWrite_all b.length 0 0 K (by omega) (List.length_pos_iff.2 h)).2
theorem ext_at {l m : List Nat} (h : l.length = m.length) (h2 : ∀ k, k < l.length → atB l k = atB m k) : l = m := by
  refine List.ext_getElem h fun k h1 h3 => ?_
  have := h2 k h1
  rw [atB_of h1, atB_of h3] at this
  exact this
theorem atB_left {l m : List Nat} {k : Nat} (h : k < l.length) : atB (l ++ m) k = atB l k := by
  rw [atB_getD, atB_getD, List.getElem?_append_left h]
theorem atB_right {l m : List Nat} {k : Nat} (h : l.length ≤ k) : atB (l ++ m) k = atB m (k - l.length) := by
  rw [atB_getD, atB_getD, List.getElem?_append_right h]
/-- What is written over a part. -/
theorem nextK_mid {A X Y C : List Nat} (hX : X ≠ []) (h : Y.length = X.length) : nextK (A ++ (Y ++ C)) A.length X = A ++ (X ++ C) := by
  have hp := List.length_pos_iff.2 hX
  refine ext_at ?_ fun k hk => ?_
  · rw [nextK_length _ _ hX]; simp; omega
  · rw [nextK_at]
    split
    · rename_i h1
      rw [atB_right (by omega), atB_left (by omega)]
    · rename_i h1
      by_cases h2 : k < A.length
      · rw [atB_left h2, atB_left h2]
      · rw [atB_right (by omega), atB_right (by omega), atB_right (by omega), atB_right (by omega), h]
/-- What is written at the end. -/
theorem nextK_end {A X : List Nat} (hX : X ≠ []) : nextK A A.length X = A ++ X := by
  refine ext_at ?_ fun k hk => ?_
  · rw [nextK_length _ _ hX]; simp
  · rw [nextK_at]
    split
    · rename_i h1
      rw [atB_right (by omega)]
    · rename_i h1
      rw [nextK_length _ _ hX] at hk
      rw [atB_left (by omega)]

theorem oneF_write {s : ByteArray} {R : Int} {ops lf : Nat} {kp : List (ByteArray × Nat)} {ld : List NameOp} {K K0 : List Nat} {os : List ByteOp} (hs : mayName s = true) (hl : lf ≠ 1) {off : Nat} (ho : off ≤ 16777216) {b : List Nat} (hb : b ≠ []) (hR : ((off + b.length : Nat) : Int) ≤ R) :
    (oneF s R ops lf kp ld K K0 os).write s off b = (oneF s R (ops + 1) (lf - 1) kp ld (nextK K off b) K0 (os ++ [.write off b]), 0) := by
  unfold Sk.write Sk.onFile
  rw [err_ok hl (by rw [num_may ho, hs]; rfl), if_neg (by decide)]
  have hg : Mp.get (oneF s R ops lf kp ld K K0 os).seen s = some 1 := get_one s 1
  rw [hg]
  dsimp only
  unfold Sk.writeAt
  rw [if_neg hb, if_pos]
  · have h1 : (oneF s R ops lf kp ld K K0 os).tick.cont 1 = ⟨K, K0, os⟩ := rfl
    have hal : (⟨K, K0, os⟩ : FileA).alter (.write (off : Int).toNat b) = ⟨nextK K off b, K0, os ++ [.write off b]⟩ := rfl
    unfold Sk.alterFile
    rw [h1, hal]
    have hm : (⟨K, K0, os⟩ : FileA).more (.write (off : Int).toNat b) = ((nextK K off b).length : Int) - K.length := rfl
    rw [hm]
    have hu : (oneF s R ops lf kp ld K K0 os).tick.used + (((nextK K off b).length : Int) - K.length) = (nextK K off b).length := by
      show (K.length : Int) + (((nextK K off b).length : Int) - K.length) = _
      omega
    rw [hu]
    refine congrArg (·, (0 : Int)) ?_
    unfold oneF Sk.tick Sk.withFile
    refine congrArg (Sk.mk _ _ _ _ _ _ _ _) ?_
    funext n
    dsimp only
    by_cases e : n = 1
    · rw [if_pos e, if_pos e]
    · rw [if_neg e, if_neg e, if_neg e]
  · unfold Sk.hasRoom
    have h1 : (oneF s R ops lf kp ld K K0 os).tick.cont 1 = ⟨K, K0, os⟩ := rfl
    rw [h1]
    have h2 : (oneF s R ops lf kp ld K K0 os).tick.room = R := rfl
    have h3 : (oneF s R ops lf kp ld K K0 os).tick.used = K.length := rfl
    rw [h2, h3, Bool.or_eq_true, decide_eq_true_eq, decide_eq_true_eq]
    dsimp only
    right; omega
theorem oneF_write_io {s : ByteArray} {R : Int} {ops : Nat} {kp : List (ByteArray × Nat)} {ld : List NameOp} {K K0 : List Nat} {os : List ByteOp} {off : Int} {b : List Nat} :
    (oneF s R ops 1 kp ld K K0 os).write s off b = (oneF s R (ops + 1) 0 kp ld K K0 os, 5) := by
  unfold Sk.write Sk.onFile
  rw [err_io (show (oneF s R ops 1 kp ld K K0 os).left = 1 from rfl), if_pos (by decide)]
  rfl
theorem oneF_size (s : ByteArray) (R : Int) (ops lf : Nat) (kp : List (ByteArray × Nat)) (ld : List NameOp) (K K0 : List Nat) (os : List ByteOp) : (oneF s R ops lf kp ld K K0 os).size s = some K.length := by
  unfold Sk.size
  rw [show (oneF s R ops lf kp ld K K0 os).seen = [(s, 1)] from rfl, get_one]
  rfl
theorem oneF_end {s : ByteArray} {R : Int} {ops lf : Nat} {kp : List (ByteArray × Nat)} {ld : List NameOp} {K K0 : List Nat} {os : List ByteOp} {E : Nat} (h : E = K.length) : endAt (oneF s R ops lf kp ld K K0 os) s E = K.length := by
  unfold endAt
  rw [oneF_size, h]; simp
theorem oneF_read {s : ByteArray} {R : Int} {ops lf : Nat} {kp : List (ByteArray × Nat)} {ld : List NameOp} {K K0 : List Nat} {os : List ByteOp} (hs : mayName s = true) (hl : lf ≠ 1) {off n : Nat} (ho : off ≤ 16777216) (hn : n ≤ 16777216) (hon : off + n ≤ K.length) :
    (oneF s R ops lf kp ld K K0 os).read s off n = ((K.drop off).take n, 0) := by
  unfold Sk.read
  rw [err_ok hl (by rw [num_may ho, num_may hn, hs]; rfl), if_neg (by decide)]
  rw [show (oneF s R ops lf kp ld K K0 os).seen = [(s, 1)] from rfl, get_one]
  dsimp only
  rw [show (oneF s R ops lf kp ld K K0 os).cont 1 = ⟨K, K0, os⟩ from rfl, if_neg (by dsimp only; omega)]
  simp
theorem oneF_tick (s : ByteArray) (R : Int) (ops lf : Nat) (kp : List (ByteArray × Nat)) (ld : List NameOp) (K K0 : List Nat) (os : List ByteOp) : (oneF s R ops lf kp ld K K0 os).tick = oneF s R (ops + 1) (lf - 1) kp ld K K0 os := rfl
theorem oneF_piece {s : ByteArray} {R : Int} {ops lf : Nat} {kp : List (ByteArray × Nat)} {ld : List NameOp} {K K0 : List Nat} {os : List ByteOp} (hs : mayName s = true) (hl : lf ≠ 1) {off : Nat} (ho : off ≤ K.length) (hK : K.length ≤ 16777216) :
    (oneF s R ops lf kp ld K K0 os).piece s off = ((K.drop off).take 4105, 0) := by
  have e : min (max ((((oneF s R ops lf kp ld K K0 os).size s).getD 0 : Nat) - (off : Int)) 0) 4105 = ((min (K.length - off) 4105 : Nat) : Int) := by
    rw [oneF_size]
    simp only [Option.getD_some]
    omega
  unfold Sk.piece
  rw [e, oneF_read hs hl (by omega) (by omega) (by omega)]
  rw [if_neg (show ¬ (0 : Int) = 1 by decide)]
  refine congrArg (·, (0 : Int)) ?_
  by_cases h : K.length - off ≤ 4105
  · rw [Nat.min_eq_left h, List.take_of_length_le (by simp), List.take_of_length_le (by simp; omega)]
  · rw [Nat.min_eq_right (by omega)]
/-- A record is read. -/
theorem oneF_record {s : ByteArray} {R : Int} {ops lf : Nat} {kp : List (ByteArray × Nat)} {ld : List NameOp} {K K0 : List Nat} {os : List ByteOp} (hs : mayName s = true) (hl : lf ≠ 1) {off E : Nat} (h256 : 256 ≤ off) (hE : K.length ≤ max E K.length) (hK : K.length ≤ 16777216) {k : Nat} {b m : List Nat} (hk : k < 256) (hb : b.length ≤ 4096) (hbs : ∀ c ∈ b, c < 256) (hd : K.drop off = recOf k b ++ m) :
    readOut (oneF s R ops lf kp ld K K0 os) s E off = (k, b, 0) ∧ readS (oneF s R ops lf kp ld K K0 os) s E off = oneF s R (ops + 1) (lf - 1) kp ld K K0 os := by
  have hlen : off + (9 + b.length) ≤ K.length := by
    have h := congrArg List.length hd
    rw [List.length_drop, List.length_append, recOf_length] at h
    omega
  have hend : K.length ≤ endAt (oneF s R ops lf kp ld K K0 os) s E := by
    unfold endAt
    rw [oneF_size, Option.getD_some]
    omega
  have hn : ¬ ((off : Int) < 256 ∨ (endAt (oneF s R ops lf kp ld K K0 os) s E : Int) ≤ off) := by omega
  unfold readOut readS
  rw [if_neg hn, if_neg hn, oneF_piece hs hl (by omega) hK]
  dsimp only
  rw [if_neg (by simp), hd]
  have ht : (recOf k b ++ m).take 4105 = recOf k b ++ m.take (4105 - (recOf k b).length) := by
    rw [List.take_append, List.take_of_length_le (by rw [recOf_length]; omega)]
  rw [ht]
  obtain ⟨e1, e2, e3⟩ := tk_rec (m.take (4105 - (recOf k b).length)) hk hb hbs
  rw [e1, e2, e3]
  exact ⟨rfl, rfl⟩

theorem redoWrite_ix (off : Nat) (b : List Nat) : ∀ (fuel at_ i j : Nat) (l : List Nat), (redoWrite off b allBits fuel at_ i l).1 = (redoWrite off b allBits fuel at_ j l).1
  | 0, _, _, _, _ => rfl
  | fuel + 1, at_, i, j, l => by
    unfold redoWrite
    split
    · exact redoWrite_ix off b fuel _ (i + 1) (j + 1) _
    · rfl
/-- The bytes seen are what was laid by, done again on those that last. -/
def Redone (K K0 : List Nat) (os : List ByteOp) : Prop := K = (redoOps allBits os 0 K0).1
theorem Redone.next {K K0 : List Nat} {os : List ByteOp} (h : Redone K K0 os) (off : Nat) (b : List Nat) : Redone (nextK K off b) K0 (os ++ [.write off b]) := by
  unfold Redone at h ⊢
  rw [redoOps_append]
  show nextK K off b = (redoWrite off b allBits b.length 0 _ (redoOps allBits os 0 K0).1).1
  rw [← h]
  exact redoWrite_ix _ _ _ _ _ _ _
theorem Redone.self (K : List Nat) : Redone K K [] := rfl
theorem oneF_sync {s : ByteArray} {R : Int} {ops lf : Nat} {kp : List (ByteArray × Nat)} {ld : List NameOp} {K K0 : List Nat} {os : List ByteOp} (hs : mayName s = true) (hl : lf ≠ 1) (hr : Redone K K0 os) :
    (oneF s R ops lf kp ld K K0 os).sync s = (oneF s R (ops + 1) (lf - 1) kp ld K K [], 0) := by
  unfold Sk.sync Sk.onFile
  rw [err_ok hl (by rw [hs]; rfl), if_neg (by decide)]
  rw [show (oneF s R ops lf kp ld K K0 os).seen = [(s, 1)] from rfl, get_one]
  dsimp only
  refine congrArg (·, (0 : Int)) ?_
  have h1 : ((oneF s R ops lf kp ld K K0 os).tick.cont 1).settle = ⟨K, K, []⟩ := by
    show (⟨K, (redoOps allBits os 0 K0).1, []⟩ : FileA) = _
    rw [← hr]
  rw [h1]
  unfold oneF Sk.tick Sk.withFile
  refine congrArg (Sk.mk _ _ _ _ _ _ _ _) ?_
  funext n
  dsimp only
  by_cases e : n = 1
  · rw [if_pos e, if_pos e]
  · rw [if_neg e, if_neg e, if_neg e]

/-- A new file. -/
def noughts256 : List Nat := List.replicate 256 0
theorem noughts256_length : noughts256.length = 256 := List.length_replicate
theorem oneF_made {s : ByteArray} {R : Int} (hs : mayName s = true) (hR : 256 ≤ R) :
    (DiskA.new R).sk.create s = (oneF s R 1 0 [] [.create s 1] [] [] [], 0) ∧ (DiskA.new R).sk.made2 s = (oneF s R 2 0 [] [.create s 1] noughts256 [] [.cut 256], 0) := by
  have hr : (DiskA.new R).room = R := by unfold DiskA.new; dsimp only; rw [if_neg (by omega)]
  have h1 : (DiskA.new R).sk.create s = (oneF s R 1 0 [] [.create s 1] [] [] [], 0) := by
    unfold Sk.create
    rw [err_ok (show (DiskA.new R).sk.left ≠ 1 from (show (0 : Nat) ≠ 1 by decide)) hs, if_neg (by decide), if_neg (show ¬ (Mp.get (DiskA.new R).sk.seen s).isSome = true from (show ¬ (none : Option Nat).isSome = true by decide))]
    refine congrArg (·, (0 : Int)) ?_
    unfold oneF Sk.tick Sk.withFile DiskA.sk
    rw [hr]
    rfl
  refine ⟨h1, ?_⟩
  unfold Sk.made2
  rw [h1]
  dsimp only
  unfold Sk.truncate Sk.onFile
  rw [err_ok (show (oneF s R 1 0 [] [.create s 1] [] [] []).left ≠ 1 from (show (0 : Nat) ≠ 1 by decide)) (by rw [show (256 : Int) = ((256 : Nat) : Int) from rfl, num_may (by omega), hs]; rfl), if_neg (by decide)]
  rw [show (oneF s R 1 0 [] [.create s 1] [] [] []).seen = [(s, 1)] from rfl, get_one]
  dsimp only
  unfold Sk.cutAt
  rw [if_pos]
  · refine congrArg (·, (0 : Int)) ?_
    have h2 : (oneF s R 1 0 [] [.create s 1] [] [] []).tick.cont 1 = ⟨[], [], []⟩ := rfl
    have hal : (⟨[], [], []⟩ : FileA).alter (.cut (256 : Int).toNat) = ⟨noughts256, [], [.cut 256]⟩ := rfl
    have hm : (⟨[], [], []⟩ : FileA).more (.cut (256 : Int).toNat) = 256 := by
      unfold FileA.more
      rw [hal]
      show ((noughts256.length : Int)) - 0 = 256
      rw [noughts256_length]; rfl
    unfold Sk.alterFile
    rw [h2, hal, hm]
    unfold oneF Sk.tick Sk.withFile
    rw [noughts256_length]
    refine congrArg (Sk.mk _ _ _ _ _ _ _ _) ?_
    funext n
    dsimp only
    by_cases e : n = 1
    · rw [if_pos e, if_pos e]
    · rw [if_neg e, if_neg e, if_neg e]
  · unfold Sk.hasRoom
    rw [show (oneF s R 1 0 [] [.create s 1] [] [] []).tick.cont 1 = ⟨[], [], []⟩ from rfl, show (oneF s R 1 0 [] [.create s 1] [] [] []).tick.room = R from rfl, show (oneF s R 1 0 [] [.create s 1] [] [] []).tick.used = 0 from rfl]
    rw [Bool.or_eq_true, decide_eq_true_eq, decide_eq_true_eq]
    right
    show (256 : Int) - 0 ≤ R - 0
    omega
theorem Redone.new : Redone noughts256 [] [.cut 256] := rfl
end Go.Proofs.YtldkeelgnfegeaaGreat

/- A disk with one file: its steps. -/
namespace Go.Proofs.YtldkeelgnfegeaaGreat
open Go Go.RowKit Go.By

def tT : ByteArray := ⟨#[116]⟩
theorem tT_may : mayName tT = true := by decide +kernel
theorem new_fine {R : Int} (hR : 0 ≤ R ∧ R ≤ 1099511627776) : (DiskA.new R).sk.Fine where
  ops := by show 0 < _; omega
  left := by show 0 < _; omega
  made := by show 0 < _; omega
  laid := by show 0 < _; omega
  few := fun n => by show 0 < _; omega
  short := fun n => Nat.zero_le _
  room := by
    show 0 ≤ (DiskA.new R).room ∧ (DiskA.new R).room ≤ _
    unfold DiskA.new; dsimp only
    split <;> omega
  used := by show 0 ≤ (0 : Int) ∧ (0 : Int) ≤ _; omega

/-- A new file on a new disk. -/
theorem new_file (s : ByteArray) (hs : mayName s = true) (hsz : s.size ≤ maxLen) (R : Int) (hR : 256 ≤ R ∧ R ≤ 1099511627776) {W w : World} {a : Nat} {own : Own} (hD : Dsk W a (DiskA.new R).sk own w) :
    Calls Tryz.prog 8 #[.pointer (some ⟨a, 0, none⟩), .string s] w fun e w' => ∃ g own', w.heap.size ≤ g ∧ e = .returned (.tuple #[.pointer (some ⟨g, 0, none⟩), .int .i64 0]) ∧ Steps own own' w w' ∧ Dsk W a (oneF s R 2 0 [] [.create s 1] noughts256 [] [.cut 256]) own' w' ∧ Fil W g a s 256 own' w' := by
  obtain ⟨e1, e2⟩ := oneF_made hs hR.1
  have f1 : ((DiskA.new R).sk.create s).1.Fine := by rw [e1]; exact oneF_fine (by omega) (by omega) (Nat.lt_of_le_of_lt (Nat.le_refl 1) (by omega)) (by decide) (by decide) (by omega)
  have f2 : ((DiskA.new R).sk.made2 s).1.Fine := by rw [e2]; exact oneF_fine (by omega) (by omega) (Nat.lt_of_le_of_lt (Nat.le_refl 1) (by omega)) (by rw [noughts256_length]; omega) (by decide) (by omega)
  refine (fileCreate_any hD (new_fine (by omega)) s (fun _ => ⟨f1, f2⟩) hsz).mono ?_
  rintro e w' ⟨own', hst, hc⟩
  rw [e1, e2] at hc
  rcases hc with ⟨h1, _⟩ | ⟨_, h1, _⟩ | ⟨_, _, g, hg, rfl, hd, hf⟩
  · exact absurd rfl h1
  · exact absurd rfl h1
  · exact ⟨g, own', hg, rfl, hst, hd, hf⟩

/-- The two slots and the records. -/
def K3 (A B C : List Nat) : List Nat := A ++ (B ++ C)
def zero128 : List Nat := List.replicate 128 0
theorem zero128_length : zero128.length = 128 := List.length_replicate
theorem noughts_K3 : noughts256 = K3 zero128 zero128 [] := by
  unfold noughts256 K3 zero128
  rw [List.append_nil, List.replicate_append_replicate]
theorem K3_length {A B C : List Nat} (hA : A.length = 128) (hB : B.length = 128) : (K3 A B C).length = 256 + C.length := by simp [K3, hA, hB]; omega
theorem K3_append {A B C X : List Nat} (hA : A.length = 128) (hB : B.length = 128) (hX : X ≠ []) : nextK (K3 A B C) (256 + C.length) X = K3 A B (C ++ X) := by
  rw [← K3_length hA hB (C := C), nextK_end hX]
  simp [K3]
theorem K3_one {A B C X : List Nat} (hB : B.length = 128) (hA : A.length = 128) (hX : X.length = 128) : nextK (K3 A B C) 128 X = K3 A X C := by
  have h : X ≠ [] := by intro e; rw [e] at hX; cases hX
  have := nextK_mid (A := A) (X := X) (Y := B) (C := C) h (by omega)
  rw [hA] at this
  exact this
theorem K3_zero {A B C X : List Nat} (hA : A.length = 128) (hX : X.length = 128) : nextK (K3 A B C) 0 X = K3 X B C := by
  have h : X ≠ [] := by intro e; rw [e] at hX; cases hX
  exact nextK_mid (A := []) (X := X) (Y := A) (C := B ++ C) h (by omega)
theorem K3_drop {A B C : List Nat} (hA : A.length = 128) (hB : B.length = 128) (j : Nat) : (K3 A B C).drop (256 + j) = C.drop j := by
  unfold K3
  rw [List.drop_append, List.drop_append, List.drop_of_length_le (by omega : A.length ≤ 256 + j), List.drop_of_length_le (by omega : B.length ≤ 256 + j - A.length)]
  simp only [List.nil_append]
  congr 1; omega
theorem K3_held {A B C : List Nat} (hA : A.length = 128) (hB : B.length = 128) : (((K3 A B C).drop 0).take 256).take 128 = A ∧ (((K3 A B C).drop 0).take 256).drop 128 = B := by
  unfold K3
  rw [List.drop_zero]
  have e : (A ++ (B ++ C)).take 256 = A ++ B := by
    rw [← List.append_assoc, List.take_append_of_le_length (by simp; omega), List.take_of_length_le (by simp; omega)]
  rw [e]
  refine ⟨?_, ?_⟩
  · rw [List.take_append_of_le_length (by omega), List.take_of_length_le (by omega)]
  · rw [List.drop_append_of_le_length (by omega), List.drop_of_length_le (by omega), List.nil_append]
theorem oneF_held {s : ByteArray} {R : Int} {ops lf : Nat} {kp : List (ByteArray × Nat)} {ld : List NameOp} {A B C K0 : List Nat} {os : List ByteOp} (hs : mayName s = true) (hl : lf ≠ 1) (hA : A.length = 128) (hB : B.length = 128) :
    heldOut (oneF s R ops lf kp ld (K3 A B C) K0 os) s = (btGen A B, btBody A B, ((btErr A B : Nat) : Int)) := by
  have hr := oneF_read (s := s) (R := R) (ops := ops) (lf := lf) (kp := kp) (ld := ld) (K := K3 A B C) (K0 := K0) (os := os) hs hl (off := 0) (n := 256) (by omega) (by omega) (by rw [K3_length hA hB]; omega)
  have hr' : (oneF s R ops lf kp ld (K3 A B C) K0 os).read s 0 256 = ((((K3 A B C).drop 0).take 256), 0) := hr
  unfold heldOut
  rw [hr']
  dsimp only
  rw [if_neg (by simp)]
  obtain ⟨e1, e2⟩ := K3_held (C := C) hA hB
  rw [e1, e2]
theorem isSlot_zero : isSlot zero128 = false := by
  have h : spOk zero128 1 = false := by
    unfold spOk zero128
    rw [show List.replicate 128 0 = List.replicate 2 0 ++ List.replicate 126 0 by rw [List.replicate_append_replicate]]
    rfl
  simp [isSlot, h]
theorem bt_first {a b : List Nat} (ha : isSlot a = true) (hb : isSlot b = false ∨ slotGen b ≤ slotGen a) : btGen a b = slotGen a ∧ btBody a b = slotBody a ∧ btErr a b = 0 := by
  have hw : btWins a b = false := by
    unfold btWins
    rcases hb with hb | hb
    · rw [hb]; rfl
    · rw [ha, decide_eq_false (p := slotGen a < slotGen b) (by omega)]; simp
  obtain ⟨_, e2, e3, e4⟩ := Sl.bt_no hw
  obtain ⟨f1, f2, f3⟩ := st_some ha
  rw [e2, e3, e4, f1, f2, f3]
  exact ⟨rfl, rfl, rfl⟩
theorem bt_second {a b : List Nat} (hb : isSlot b = true) (ha : isSlot a = false ∨ slotGen a < slotGen b) : btGen a b = slotGen b ∧ btBody a b = slotBody b ∧ btErr a b = 0 := by
  have hw : btWins a b = true := by
    unfold btWins
    rcases ha with ha | ha
    · rw [ha, hb]; rfl
    · rw [hb, decide_eq_true ha]; simp
  obtain ⟨_, e2, e3, e4⟩ := Sl.bt_yes hw
  obtain ⟨f1, f2, f3⟩ := st_some hb
  rw [e2, e3, e4, f2, f3]
  exact ⟨rfl, rfl, rfl⟩

/-- Steps and moves keep what is not the disk's and not the file's. -/
theorem Moves.below {g : Nat} {own own' : Own} {W w w' : World} (h : Moves g own own' w w') (hb : Below W.heap.size W w) (far : ∀ k r, own k = some r → W.heap.size ≤ k) (hg : W.heap.size ≤ g) : Below W.heap.size W w' :=
  ⟨h.os.trans hb.os, h.tape.trans hb.tape, h.output.trans hb.output, Nat.le_trans hb.size h.size, fun k hk => (h.block k (Nat.lt_of_lt_of_le hk hb.size) (by omega) (.inl (by
    cases e : own k with
    | none => rfl
    | some r => have := far k r e; omega))).trans (hb.block k hk)⟩

/-- Bytes of an argument: their block is not the disk's. -/
def Free (own : Own) (bv : Value) : Prop := ∀ k, bv.ownBlock = some k → own k = none

theorem oneF_append {s : ByteArray} {R : Int} {ops lf : Nat} {kp : List (ByteArray × Nat)} {ld : List NameOp} {A B C K0 : List Nat} {os : List ByteOp} (hs : mayName s = true) (hl : lf ≠ 1) (hA : A.length = 128) (hB : B.length = 128) (k : Nat) (b : List Nat) (hR : ((256 + C.length + (9 + b.length) : Nat) : Int) ≤ R) (h16 : 256 + C.length ≤ 16777216) :
    appendAt (oneF s R ops lf kp ld (K3 A B C) K0 os) s (256 + C.length) k b = (oneF s R (ops + 1) (lf - 1) kp ld (K3 A B (C ++ recOf k b)) K0 (os ++ [.write (256 + C.length) (recOf k b)]), 0) ∧ endAt (oneF s R ops lf kp ld (K3 A B C) K0 os) s (256 + C.length) = 256 + C.length := by
  have he : endAt (oneF s R ops lf kp ld (K3 A B C) K0 os) s (256 + C.length) = 256 + C.length := by
    rw [oneF_end (K3_length hA hB).symm, K3_length hA hB]
  have hne : recOf k b ≠ [] := by
    intro e
    have := recOf_length k b
    rw [e] at this; simp at this; omega
  refine ⟨?_, he⟩
  unfold appendAt
  rw [he, oneF_write hs hl h16 hne (by rw [recOf_length]; exact hR), K3_append hA hB hne]

theorem one_append {W w : World} {g a : Nat} {s : ByteArray} {R : Int} {ops lf : Nat} {kp : List (ByteArray × Nat)} {ld : List NameOp} {A B C K0 : List Nat} {os : List ByteOp} {own : Own} (hD : Dsk W a (oneF s R ops lf kp ld (K3 A B C) K0 os) own w) (hf : Fil W g a s (256 + C.length) own w) (hs : mayName s = true) (hsz : s.size ≤ maxLen)
    (hl : lf ≠ 1) (hA : A.length = 128) (hB : B.length = 128) (hR : ((256 + C.length + 4105 : Nat) : Int) ≤ R ∧ R ≤ 1099511627776) (h16 : 256 + C.length ≤ 16777216) (hops : ops < 1000000 ∧ lf < 1000000 ∧ ld.length < 1000000 ∧ os.length < 1000000) {k : Nat} (hk : k < 256) {bv : Value} {b : List Nat} (hb : Bytes w bv b) (hbl : b.length ≤ 4096) :
    Calls Tryz.prog 10 #[.pointer (some ⟨g, 0, none⟩), .int .u8 k, bv] w fun e w' => e = .returned (.tuple #[.int .i64 (256 + C.length : Nat), .int .i64 0]) ∧
      ∃ own', Moves g own own' w w' ∧ Dsk W a (oneF s R (ops + 1) (lf - 1) kp ld (K3 A B (C ++ recOf k b)) K0 (os ++ [.write (256 + C.length) (recOf k b)])) own' w' ∧ Fil W g a s (256 + (C ++ recOf k b).length) own' w' := by
  obtain ⟨e1, e2⟩ := oneF_append (s := s) (R := R) (ops := ops) (lf := lf) (kp := kp) (ld := ld) (K0 := K0) (os := os) hs hl hA hB k b (by omega) h16
  refine (append_any hD hf (oneF_fine hops.1 hops.2.1 hops.2.2.1 (by rw [K3_length hA hB]; exact h16) hops.2.2.2 (by omega)) hsz k hk hb hbl (by rw [e2]; omega)).mono ?_
  rintro e w' ⟨rfl, own', hm, hd, hf'⟩
  rw [e1] at hd hf' ⊢
  rw [e2] at hf' ⊢
  rw [if_pos rfl] at hf' ⊢
  refine ⟨rfl, own', hm, hd, ?_⟩
  rw [List.length_append, recOf_length]
  rw [Nat.add_assoc] at hf'
  exact hf'
/-- .. where the disk says no. -/
theorem one_append_io {W w : World} {g a : Nat} {s : ByteArray} {R : Int} {ops : Nat} {kp : List (ByteArray × Nat)} {ld : List NameOp} {A B C K0 : List Nat} {os : List ByteOp} {own : Own} (hD : Dsk W a (oneF s R ops 1 kp ld (K3 A B C) K0 os) own w) (hf : Fil W g a s (256 + C.length) own w) (hsz : s.size ≤ maxLen)
    (hA : A.length = 128) (hB : B.length = 128) (hR : 0 ≤ R ∧ R ≤ 1099511627776) (h16 : 256 + C.length ≤ 16777216) (hops : ops < 1000000 ∧ ld.length < 1000000 ∧ os.length < 1000000) {k : Nat} (hk : k < 256) {bv : Value} {b : List Nat} (hb : Bytes w bv b) (hbl : b.length ≤ 4096) :
    Calls Tryz.prog 10 #[.pointer (some ⟨g, 0, none⟩), .int .u8 k, bv] w fun e w' => e = .returned (.tuple #[.int .i64 0, .int .i64 5]) ∧
      ∃ own', Moves g own own' w w' ∧ Dsk W a (oneF s R (ops + 1) 0 kp ld (K3 A B C) K0 os) own' w' ∧ Fil W g a s (256 + C.length) own' w' := by
  have e2 : endAt (oneF s R ops 1 kp ld (K3 A B C) K0 os) s (256 + C.length) = 256 + C.length := by
    rw [oneF_end (K3_length hA hB).symm, K3_length hA hB]
  have e1 : appendAt (oneF s R ops 1 kp ld (K3 A B C) K0 os) s (256 + C.length) k b = (oneF s R (ops + 1) 0 kp ld (K3 A B C) K0 os, 5) := oneF_write_io
  refine (append_any hD hf (oneF_fine hops.1 (by omega) hops.2.1 (by rw [K3_length hA hB]; exact h16) hops.2.2 (by omega)) hsz k hk hb hbl (by rw [e2]; omega)).mono ?_
  rintro e w' ⟨rfl, own', hm, hd, hf'⟩
  rw [e1] at hd hf' ⊢
  rw [if_neg (show ¬ (5 : Int) = 0 by decide)] at hf' ⊢
  exact ⟨rfl, own', hm, hd, hf'⟩

theorem one_read {W w : World} {g a : Nat} {s : ByteArray} {R : Int} {ops lf E : Nat} {kp : List (ByteArray × Nat)} {ld : List NameOp} {K K0 : List Nat} {os : List ByteOp} {own : Own} (hD : Dsk W a (oneF s R ops lf kp ld K K0 os) own w) (hf : Fil W g a s E own w) (hs : mayName s = true) (hsz : s.size ≤ maxLen)
    (hl : lf ≠ 1) (hR : 0 ≤ R ∧ R ≤ 1099511627776) (h16 : K.length ≤ 16777216) (hE : E ≤ 16777216) (hops : ops < 1000000 ∧ lf < 1000000 ∧ ld.length < 1000000 ∧ os.length < 1000000) {off : Nat} (h256 : 256 ≤ off) {k : Nat} {b m : List Nat} (hk : k < 256) (hb : b.length ≤ 4096) (hbs : ∀ c ∈ b, c < 256) (hd : K.drop off = recOf k b ++ m) :
    Calls Tryz.prog 14 #[.pointer (some ⟨g, 0, none⟩), .int .i64 (off : Int)] w fun e w' => ∃ p c, e = .returned (.tuple #[.int .u8 k, .slice p b.length c, .int .i64 0]) ∧ Bytes w' (.slice p b.length c) b ∧ (∀ j, (Value.slice p b.length c).ownBlock = some j → w.heap.size ≤ j) ∧ Steps own own w w' ∧
      Dsk W a (oneF s R (ops + 1) (lf - 1) kp ld K K0 os) own w' ∧ Fil W g a s E own w' := by
  obtain ⟨e1, e2⟩ := oneF_record (s := s) (R := R) (ops := ops) (lf := lf) (kp := kp) (ld := ld) (K0 := K0) (os := os) (E := E) hs hl h256 (by omega) h16 hk hb hbs hd
  have he : endAt (oneF s R ops lf kp ld K K0 os) s E ≤ 1099511627776 := by
    unfold endAt
    rw [oneF_size, Option.getD_some]
    omega
  have h := fileRead_any hD hf (oneF_fine hops.1 hops.2.1 hops.2.2.1 h16 hops.2.2.2 hR) hsz (off : Int) he
  rw [e1, e2] at h
  exact h

theorem one_hold {W w : World} {g a : Nat} {s : ByteArray} {R : Int} {ops lf E : Nat} {kp : List (ByteArray × Nat)} {ld : List NameOp} {A B C K0 : List Nat} {os : List ByteOp} {own : Own} (hD : Dsk W a (oneF s R ops lf kp ld (K3 A B C) K0 os) own w) (hf : Fil W g a s E own w) (hs : mayName s = true) (hsz : s.size ≤ maxLen)
    (hl : lf ≠ 1) (hA : A.length = 128) (hB : B.length = 128) (hR : 256 ≤ R ∧ R ≤ 1099511627776) (h16 : 256 + C.length ≤ 16777216) (hops : ops < 1000000 ∧ lf < 1000000 ∧ ld.length < 1000000 ∧ os.length < 1000000) {k : Nat} (hk : k < 18446744073709551616) {bv : Value} {b : List Nat} (hb : Bytes w bv b) (hbl : b.length ≤ 113) :
    Calls Tryz.prog 15 #[.pointer (some ⟨g, 0, none⟩), .int .u64 k, bv] w fun e w' => e = .returned (.int .i64 0) ∧
      ∃ own', Steps own own' w w' ∧ Dsk W a (oneF s R (ops + 1) (lf - 1) kp ld (K3 (if k % 2 = 0 then slotOf k b else A) (if k % 2 = 0 then B else slotOf k b) C) K0 (os ++ [.write (k % 2 * 128) (slotOf k b)])) own' w' ∧ Fil W g a s E own' w' := by
  have hl2 := slotOf_length (g := k) hbl
  have hne : slotOf k b ≠ [] := by intro e; rw [e] at hl2; cases hl2
  have e1 : holdAt (oneF s R ops lf kp ld (K3 A B C) K0 os) s k b = (oneF s R (ops + 1) (lf - 1) kp ld (K3 (if k % 2 = 0 then slotOf k b else A) (if k % 2 = 0 then B else slotOf k b) C) K0 (os ++ [.write (k % 2 * 128) (slotOf k b)]), 0) := by
    unfold holdAt
    rw [oneF_write hs hl (by omega) hne (by rw [hl2]; omega)]
    by_cases h : k % 2 = 0
    · rw [if_pos h, if_pos h, h, Nat.zero_mul, K3_zero hA hl2]
    · have h1 : k % 2 = 1 := by omega
      rw [if_neg h, if_neg h, h1, Nat.one_mul, K3_one hB hA hl2]
  refine (hold_any hD hf (oneF_fine hops.1 hops.2.1 hops.2.2.1 (by rw [K3_length hA hB]; exact h16) hops.2.2.2 (by omega)) hsz k hk hb hbl).mono ?_
  rintro e w' ⟨rfl, own', hm, hd, hf'⟩
  rw [e1] at hd ⊢
  exact ⟨rfl, own', hm, hd, hf'⟩

theorem one_held {W w : World} {g a : Nat} {s : ByteArray} {R : Int} {ops lf E : Nat} {kp : List (ByteArray × Nat)} {ld : List NameOp} {A B C K0 : List Nat} {os : List ByteOp} {own : Own} (hD : Dsk W a (oneF s R ops lf kp ld (K3 A B C) K0 os) own w) (hf : Fil W g a s E own w) (hs : mayName s = true) (hsz : s.size ≤ maxLen)
    (hl : lf ≠ 1) (hA : A.length = 128) (hB : B.length = 128) (hR : 0 ≤ R ∧ R ≤ 1099511627776) (h16 : 256 + C.length ≤ 16777216) (hops : ops < 1000000 ∧ lf < 1000000 ∧ ld.length < 1000000 ∧ os.length < 1000000) {k : Nat} {b : List Nat} (h1 : btGen A B = k) (h2 : btBody A B = b) (h3 : btErr A B = 0) :
    Calls Tryz.prog 19 #[.pointer (some ⟨g, 0, none⟩)] w fun e w' => ∃ p c, e = .returned (.tuple #[.int .u64 k, .slice p b.length c, .int .i64 0]) ∧ Bytes w' (.slice p b.length c) b ∧ Steps own own w w' ∧
      Dsk W a (oneF s R (ops + 1) (lf - 1) kp ld (K3 A B C) K0 os) own w' ∧ Fil W g a s E own w' := by
  have h := held_any hD hf (oneF_fine hops.1 hops.2.1 hops.2.2.1 (by rw [K3_length hA hB]; exact h16) hops.2.2.2 (by omega)) hsz
  rw [oneF_held hs hl hA hB, h1, h2, h3] at h
  exact h

theorem one_sync {W w : World} {g a : Nat} {s : ByteArray} {R : Int} {ops lf E : Nat} {kp : List (ByteArray × Nat)} {ld : List NameOp} {K K0 : List Nat} {os : List ByteOp} {own : Own} (hD : Dsk W a (oneF s R ops lf kp ld K K0 os) own w) (hf : Fil W g a s E own w) (hs : mayName s = true) (hsz : s.size ≤ maxLen)
    (hl : lf ≠ 1) (hR : 0 ≤ R ∧ R ≤ 1099511627776) (h16 : K.length ≤ 16777216) (hops : ops < 1000000 ∧ lf < 1000000 ∧ ld.length < 1000000 ∧ os.length < 1000000) (hr : Redone K K0 os) :
    Calls Tryz.prog 11 #[.pointer (some ⟨g, 0, none⟩)] w fun e w' => e = .returned (.int .i64 0) ∧ ∃ own', Steps own own' w w' ∧ Dsk W a (oneF s R (ops + 1) (lf - 1) kp ld K K []) own' w' ∧ Fil W g a s E own' w' := by
  have h := fileSync_any hD hf (oneF_fine hops.1 hops.2.1 hops.2.2.1 h16 hops.2.2.2 hR) hsz
  rw [oneF_sync hs hl hr] at h
  exact h

theorem one_open {W w : World} {a : Nat} {s : ByteArray} {R : Int} {ops lf : Nat} {kp : List (ByteArray × Nat)} {ld : List NameOp} {K K0 : List Nat} {os : List ByteOp} {own : Own} (hD : Dsk W a (oneF s R ops lf kp ld K K0 os) own w) (h256 : 256 ≤ K.length) :
    Calls Tryz.prog 13 #[.pointer (some ⟨a, 0, none⟩), .string s] w fun e w' => ∃ g, w.heap.size ≤ g ∧ e = .returned (.tuple #[.pointer (some ⟨g, 0, none⟩), .int .i64 0]) ∧ Below w.heap.size w w' ∧ Dsk W a (oneF s R ops lf kp ld K K0 os) own w' ∧ Fil W g a s K.length own w' := by
  refine (open_any hD s).mono ?_
  rintro e w' ⟨hd, hst, hc⟩
  rw [oneF_size] at hc
  rcases hc with ⟨h, _⟩ | ⟨n, h, h2, _⟩ | ⟨n, h, _, g, hg, rfl, hf⟩
  · cases h
  · cases h; omega
  · cases h
    exact ⟨g, hg, rfl, hst, hd, hf⟩
/-- Bytes in a block of no disk's stay. -/
theorem bytes_steps {w w' : World} {own own' : Own} {v : Value} {l : List Nat} (h : Bytes w v l) (hs : Steps own own' w w') (ho : ∀ k, v.ownBlock = some k → own k = none) : Bytes w' v l where
  out := by
    rcases h.out with h1 | h1 | ⟨b, off, cap, rfl, h2, hc⟩
    · exact .inl h1
    · exact .inr (.inl h1)
    · exact .inr (.inr ⟨b, off, cap, rfl, h2, fun i hi => (World.cell?_of_block (hs.block b (block_lt_of_cell (hc i hi)) (.inl (ho b rfl)))).trans (hc i hi)⟩)
  small := h.small
  short := h.short
theorem free_steps {w w' : World} {own own' : Own} {v : Value} {l : List Nat} (h : Bytes w v l) (hl : l ≠ []) (hs : Steps own own' w w') (ho : ∀ k, v.ownBlock = some k → own k = none) : ∀ k, v.ownBlock = some k → own' k = none := by
  intro k hk
  rcases h.out with ⟨_, h1⟩ | ⟨_, _, h1⟩ | ⟨b, off, cap, rfl, h2, hc⟩
  · exact absurd h1 hl
  · exact absurd h1 hl
  · cases hk
    rw [hs.same b (block_lt_of_cell (hc 0 (List.length_pos_iff.2 hl)))]
    exact ho b rfl
theorem rec_ne (k : Nat) (b : List Nat) : recOf k b ≠ [] := by
  intro e
  have := recOf_length k b
  rw [e] at this; simp at this; omega
theorem Redone.append {A B C K0 : List Nat} {os : List ByteOp} (h : Redone (K3 A B C) K0 os) (hA : A.length = 128) (hB : B.length = 128) (k : Nat) (b : List Nat) : Redone (K3 A B (C ++ recOf k b)) K0 (os ++ [.write (256 + C.length) (recOf k b)]) := by
  have := h.next (256 + C.length) (recOf k b)
  rw [K3_append hA hB (rec_ne k b)] at this
  exact this
theorem Redone.hold {A B C K0 : List Nat} {os : List ByteOp} (h : Redone (K3 A B C) K0 os) (hA : A.length = 128) (hB : B.length = 128) (k : Nat) {b : List Nat} (hb : b.length ≤ 113) :
    Redone (K3 (if k % 2 = 0 then slotOf k b else A) (if k % 2 = 0 then B else slotOf k b) C) K0 (os ++ [.write (k % 2 * 128) (slotOf k b)]) := by
  have hl2 := slotOf_length (g := k) hb
  have := h.next (k % 2 * 128) (slotOf k b)
  by_cases h0 : k % 2 = 0
  · rw [if_pos h0, if_pos h0]
    rw [h0, Nat.zero_mul, K3_zero hA hl2] at this
    rw [h0, Nat.zero_mul]
    exact this
  · have h1 : k % 2 = 1 := by omega
    rw [if_neg h0, if_neg h0]
    rw [h1, Nat.one_mul, K3_one hB hA hl2] at this
    rw [h1, Nat.one_mul]
    exact this
end Go.Proofs.YtldkeelgnfegeaaGreat

/- file has begun. -/
namespace Go.Proofs.YtldkeelgnfegeaaGreat
open Go Go.RowKit Go.By

set_option maxRecDepth 100000 in
theorem begun_any (w : World) : Calls Tryz.prog 6 #[] w fun e w' => e = .returned (.bool true) ∧ Below w.heap.size w w' := by
  have hcv := fun (w : World) (C : Array Value) (n c : Nat) => Lib.run_convert_bytes_const (P := Tryz.prog) w 23 5 C n c byT.slice byT.elem
  go_enter Tryz.func6, Tryz.ntmps6
  go_wp2_with fail
  refine (new_any 10000 w).mono ?_
  rintro e w1 ⟨rfl, hd1, hb1⟩
  have HD1 := Lib.hid (Dsk.new hd1 hb1)
  clear hd1 hb1
  go_wp2_with fail
  refine (new_file tT tT_may (by decide +kernel) 10000 (by omega) HD1.out).mono ?_
  rintro e w2 ⟨g, own2, hg, rfl, hst2, hd2, hf2⟩
  rw [noughts_K3] at hd2
  have HD2 := Lib.hid hd2; have HF2 := Lib.hid hf2
  clear hg hst2 hd2 hf2 HD1
  go_wp2_with fail
  have hb0 := (Below.refl w2.heap.size w2).alloc (Nat.le_refl _) (.cells #[.int .u8 120] 5 (1, 2))
  refine (one_append (A := zero128) (B := zero128) (C := []) (b := [120]) (k := 1) (HD2.out.stay hb0) (HF2.out.stay hb0) tT_may (by decide +kernel) (by omega) zero128_length zero128_length (by decide) (by decide) (by decide) (by omega) (Bytes.lit [120] rfl rfl (by decide) (by decide)) (by decide)).mono ?_
  rintro e w3 ⟨rfl, own3, hm3, hd3, hf3⟩
  have HD3 := Lib.hid hd3; have HF3 := Lib.hid hf3
  clear hm3 hd3 hf3 HD2 HF2 hb0
  go_wp2_with fail
  refine (one_read (k := 1) (b := [120]) (m := []) (off := 256) HD3.out HF3.out tT_may (by decide +kernel) (by omega) (by decide) (by rw [K3_length zero128_length zero128_length, List.nil_append, recOf_length]; decide) (by rw [List.nil_append, recOf_length]; decide) (by decide) (by omega) (by omega) (by decide) (by decide) (by rw [show 256 = 256 + 0 from rfl, K3_drop zero128_length zero128_length]; simp)).mono ?_
  rintro e w4 ⟨p4, c4, rfl, hy4, hfr4, hst4, hd4, hf4⟩
  have HO4 : Hid (∀ j, (Value.slice p4 1 c4).ownBlock = some j → own3 j = none) := fun j hj => HD3.out.new_none (hfr4 j hj)
  have HD4 := Lib.hid hd4; have HF4 := Lib.hid hf4; have HY4 := Lib.hid hy4
  clear hst4 hd4 hf4 hy4 hfr4 HD3 HF3
  go_wp2_with fail
  have hb0 := (Below.refl w4.heap.size w4).alloc (Nat.le_refl _) (.cells #[.int .u8 114] 5 (1, 2))
  refine (one_hold (A := zero128) (B := zero128) (C := [] ++ recOf 1 [120]) (b := [114]) (k := 3) (HD4.out.stay hb0) (HF4.out.stay hb0) tT_may (by decide +kernel) (by omega) zero128_length zero128_length (by decide) (by rw [List.nil_append, recOf_length]; decide) (by decide) (by omega) (Bytes.lit [114] rfl rfl (by decide) (by decide)) (by decide)).mono ?_
  rintro e w5 ⟨rfl, own5, hst5, hd5, hf5⟩
  rw [if_neg (by decide), if_neg (by decide)] at hd5
  have hy40 : Bytes _ (.slice p4 1 c4) [120] := HY4.out.below hb0
  have HY5 : Hid (Bytes w5 (.slice p4 1 c4) [120]) := bytes_steps hy40 hst5 HO4.out
  have HO5 : Hid (∀ j, (Value.slice p4 1 c4).ownBlock = some j → own5 j = none) := free_steps hy40 (by decide) hst5 HO4.out
  have HD5 := Lib.hid hd5; have HF5 := Lib.hid hf5
  clear hst5 hd5 hf5 hb0 hy40 HD4 HF4 HY4 HO4
  go_wp2_with fail
  have hbt : btGen zero128 (slotOf 3 [114]) = 3 ∧ btBody zero128 (slotOf 3 [114]) = [114] ∧ btErr zero128 (slotOf 3 [114]) = 0 := by
    have h := bt_second (a := zero128) (b := slotOf 3 [114]) (isSlot_slot (by decide) (by decide)) (.inl isSlot_zero)
    rw [gen_slot (by decide), body_slot] at h
    exact h
  refine (one_held (k := 3) (b := [114]) HD5.out HF5.out tT_may (by decide +kernel) (by omega) zero128_length (slotOf_length (by decide)) (by decide) (by rw [List.nil_append, recOf_length]; decide) (by decide) hbt.1 hbt.2.1 hbt.2.2).mono ?_
  rintro e w6 ⟨p6, c6, rfl, hy6, hst6, hd6, hf6⟩
  have HD6 := Lib.hid hd6; have HF6 := Lib.hid hf6; have HY6 := Lib.hid hy6
  have HY61 : Hid (Bytes w6 (.slice p4 1 c4) [120]) := bytes_steps HY5.out hst6 HO5.out
  clear hst6 hd6 hf6 hy6 hbt HD5 HF5 HY5 HO5
  go_wp2_with fail
  refine (open_any HD6.out ⟨#[117]⟩).mono ?_
  rintro e w7 ⟨hd7, hb7, hc⟩
  have he7 : e = .returned (.tuple #[.pointer none, .int .i64 3]) := by
    rcases hc with ⟨_, h⟩ | ⟨n, h, _⟩ | ⟨n, h, _⟩
    · exact h
    · exact absurd h (by intro h; cases h)
    · exact absurd h (by intro h; cases h)
  subst he7
  have HD7 := Lib.hid hd7; have HF7 := Lib.hid (HF6.out.stay hb7)
  have c1 := (HY61.out.below hb7).toString byT (P := Tryz.prog) (d := 9) (by kernel_rfl)
  have c2 := (HY6.out.below hb7).toString byT (P := Tryz.prog) (d := 9) (by kernel_rfl)
  rw [show strOf [120] = ⟨#[120]⟩ from rfl] at c1
  rw [show strOf [114] = ⟨#[114]⟩ from rfl, show [114].length = 1 from rfl] at c2
  have hlen : 256 + ([] ++ recOf 1 [120]).length = 266 := by rw [List.nil_append, recOf_length]; rfl
  have hEA := fun (S : Sk) (E : Nat) (h : endAt S tT E = 256 + ([] ++ recOf 1 [120]).length) => h.trans hlen
  have HE := Lib.hid (end_any HD7.out HF7.out)
  rw [hEA _ _ (by rw [oneF_end (by rw [K3_length zero128_length (slotOf_length (by decide))]), K3_length zero128_length (slotOf_length (by decide))])] at HE
  rw [show ((266 : Nat) : Int) = 266 from rfl] at HE
  have hre : Redone (K3 zero128 zero128 []) [] [.cut 256] := by rw [← noughts_K3]; exact Redone.new
  have hr2 := (hre.append zero128_length zero128_length 1 [120]).hold zero128_length zero128_length 3 (b := [114]) (by decide)
  rw [if_neg (by decide), if_neg (by decide)] at hr2
  have HSY : Hid (∀ m, _) := fun m => one_sync (HD7.out.stay (Sl.below_drewN w7 m)) (HF7.out.stay (Sl.below_drewN w7 m)) tT_may (by decide +kernel) (by omega) (by decide) (by rw [K3_length zero128_length (slotOf_length (by decide)), hlen]; decide) (by decide) hr2
  have hnm : ∀ m, Calls Tryz.prog 18 #[.pointer (some ⟨g, 0, none⟩)] (w7.drewN m) fun e w' => e = .returned (.string ⟨#[116]⟩) ∧ w7.drewN m = w' := fun m => name_any (HF7.out.stay (Sl.below_drewN w7 m))
  have HNM := Lib.hid hnm
  clear hnm
  clear hd7 hb7 hc HD6 HF6 HY6 HY61 hre hr2 hEA hlen
  go_wp2_with fail
  refine HE.out.mono ?_
  rintro e w8 ⟨rfl, m, rfl⟩
  go_wp2_with fail
  refine (HNM.out m).mono ?_
  rintro e w9 ⟨rfl, rfl⟩
  go_wp2_with fail
  refine (HSY.out m).mono ?_
  rintro e w10 ⟨rfl, own10, _, hd10, _⟩
  have HB := Lib.hid hd10.below
  clear hd10 HSY HNM HE HD7 HF7
  go_wp2
  go_ret
  exact ⟨rfl, HB.out⟩
end Go.Proofs.YtldkeelgnfegeaaGreat

/- A disk that shall fail; rows of numbers of the law's own. -/
namespace Go.Proofs.YtldkeelgnfegeaaGreat
open Go Go.RowKit Go.By

/-- Numbers, in a row of the law's own. -/
def intsOf (l : List Nat) : List Value := l.map fun (n : Nat) => Value.int .i64 (n : Int)
structure IRow (W : World) (g : Nat) (e : TypeId) (v : Value) (l : List Nat) (own : Own) (w : World) : Prop where
  owns : w.ownsRow W.heap.size e 1 v l.length (intsOf l)
  free : ∀ k, v.ownBlock = some k → own k = none ∧ k ≠ g
theorem IRow.lt {W w : World} {g : Nat} {e : TypeId} {v : Value} {l : List Nat} {own : Own} (h : IRow W g e v l own w) : ∀ k, v.ownBlock = some k → W.heap.size ≤ k ∧ k < w.heap.size := fun k hk => h.owns.lt k hk
theorem IRow.nil (W : World) (g : Nat) (e : TypeId) (own : Own) (w : World) : IRow W g e (.slice none 0 0) [] own w := ⟨World.ownsRow_nil _ _ _ _, fun k hk => (by cases hk)⟩
theorem ownsRow_heap {w w' : World} {base : Nat} {e : TypeId} {v : Value} {n : Nat} {xs : List Value} (h : w.ownsRow base e 1 v n xs) (hb : ∀ k, v.ownBlock = some k → w'.heap[k]? = w.heap[k]?) : w'.ownsRow base e 1 v n xs := by
  refine ⟨h.1, ?_⟩
  rcases h.2 with hn | ⟨g, cap, cur, rfl, h1, h2, rest⟩
  · exact .inl hn
  · exact .inr ⟨g, cap, cur, rfl, h1, (hb g rfl).trans h2, rest⟩
theorem IRow.moves {W w w' : World} {g : Nat} {e : TypeId} {v : Value} {l : List Nat} {own own' : Own} (h : IRow W g e v l own w) (hm : Moves g own own' w w') : IRow W g e v l own' w' :=
  ⟨ownsRow_heap h.owns fun k hk => hm.block k (h.lt k hk).2 (h.free k hk).2 (.inl (h.free k hk).1), fun k hk => ⟨(hm.same k (h.lt k hk).2).trans (h.free k hk).1, (h.free k hk).2⟩⟩
theorem IRow.steps {W w w' : World} {g : Nat} {e : TypeId} {v : Value} {l : List Nat} {own own' : Own} (h : IRow W g e v l own w) (hs : Steps own own' w w') : IRow W g e v l own' w' := h.moves (hs.moves g)
theorem IRow.stay {W w w' : World} {g : Nat} {e : TypeId} {v : Value} {l : List Nat} {own : Own} (h : IRow W g e v l own w) (hb : Below w.heap.size w w') : IRow W g e v l own w' := h.steps (Steps.of_below hb)
theorem IRow.shape {W w : World} {g : Nat} {e : TypeId} {v : Value} {l : List Nat} {own : Own} (h : IRow W g e v l own w) : ∃ p c, v = .slice p l.length c := by
  rcases h.owns.2 with ⟨h1, h2⟩ | ⟨k, c, _, h1, _⟩
  · exact ⟨none, 0, by rw [h1, h2]⟩
  · exact ⟨_, c, h1⟩
theorem IRow.cell {W w : World} {g : Nat} {e : TypeId} {p : Option Addr} {n c : Nat} {l : List Nat} {own : Own} (h : IRow W g e (.slice p n c) l own w) {i : Nat} (hi : i < l.length) : ∃ b, p = some ⟨b, 0, none⟩ ∧ w.cell? ⟨b, i, none⟩ = some (.int .i64 (l.getD i 0 : Nat)) := by
  rcases h.owns.2 with ⟨_, h2⟩ | ⟨b, c', _, h1, _⟩
  · omega
  · simp only [Value.slice.injEq] at h1
    have hc := World.ownsRow.cells h.owns (g := b) (by rw [h1.1]; rfl) i (.int .i64 (l.getD i 0 : Nat)) (by
      unfold intsOf
      rw [List.getElem?_map, List.getElem?_eq_getElem hi, List.getD_eq_getElem?_getD, List.getElem?_eq_getElem hi]; rfl)
    rw [Addr.add_lit, Nat.zero_add] at hc
    exact ⟨b, h1.1, hc⟩
/-- A row has grown; the others stand. -/
theorem Dsk.grown {W w w' : World} {a : Nat} {S : Sk} {own : Own} (h : Dsk W a S own w) {r : Option Nat} (hg : w.grownBy w' r) (hr : ∀ k, r = some k → own k = none ∧ W.heap.size ≤ k) : Dsk W a S own w' := by
  have hst : Steps (fun k => if r = some k then some .disk else none) (fun k => if r = some k then some .disk else none) w w' :=
    ⟨hg.os, hg.tape, hg.output, hg.size, fun k hk ho => hg.block k hk (fun e => by
      rw [if_pos e.symm] at ho
      rcases ho with h | h <;> cases h), fun _ _ => rfl⟩
  obtain ⟨D, hd, hok, e⟩ := h.out
  refine ⟨⟨D, hd.beside hst (fun k r' hr' => .inl (if_neg (by intro e; rw [(hr k e).1] at hr'; cases hr'))), hok, e⟩, h.far, ?_⟩
  exact ⟨hg.os.trans h.below.os, hg.tape.trans h.below.tape, hg.output.trans h.below.output, Nat.le_trans h.below.size hg.size, fun k hk => (hg.block k (Nat.lt_of_lt_of_le hk h.below.size) (fun e => by have := (hr k e.symm).2; omega)).trans (h.below.block k hk)⟩
theorem Fil.grown {W w w' : World} {g a : Nat} {s : ByteArray} {E : Nat} {own : Own} (h : Fil W g a s E own w) {r : Option Nat} (hg : w.grownBy w' r) (hr : r ≠ some g) : Fil W g a s E own w' :=
  h.same (hg.block g h.lt (fun e => hr e.symm))
theorem IRow.grown {W w w' : World} {g : Nat} {e : TypeId} {v : Value} {l : List Nat} {own : Own} (h : IRow W g e v l own w) {r : Option Nat} (hg : w.grownBy w' r) (hr : ∀ k, v.ownBlock = some k → r ≠ some k) : IRow W g e v l own w' :=
  ⟨ownsRow_heap h.owns fun k hk => hg.block k (h.lt k hk).2 (fun e => hr k hk e.symm), h.free⟩
/-- The row that has grown. -/
theorem IRow.appended {W w w' : World} {g : Nat} {e : TypeId} {v v' : Value} {l : List Nat} {own : Own} (h : IRow W g e v l own w) (hW : W.heap.size ≤ w.heap.size) (hnew : ∀ k, w.heap.size ≤ k → own k = none) (hgl : g < w.heap.size) {x : Nat} (ho : w'.ownsRow W.heap.size e 1 v' (l.length + 1) (intsOf l ++ [.int .i64 (x : Int)]))
    (hat : v'.ownBlock = v.ownBlock ∨ ∃ k, w.heap.size ≤ k ∧ v'.ownBlock = some k) : IRow W g e v' (l ++ [x]) own w' := by
  refine ⟨?_, fun k hk => ?_⟩
  · rw [List.length_append, List.length_singleton]
    have : intsOf (l ++ [x]) = intsOf l ++ [.int .i64 (x : Int)] := by simp [intsOf]
    rw [this]; exact ho
  · rcases hat with h1 | ⟨j, hj, h1⟩
    · exact h.free k (h1 ▸ hk)
    · rw [h1] at hk; cases hk
      exact ⟨hnew k hj, by omega⟩
theorem info_of {P : Program} {e : TypeId} {z : Value} {s b : Nat} (h : (P.info? e).map (fun i => (i.zero, i.size, i.bytes)) = some (some z, s, b)) : ∃ i, P.info? e = some i ∧ i.zero = some z ∧ i.size = s ∧ i.bytes = b := by
  cases hi : P.info? e with
  | none => rw [hi] at h; cases h
  | some i =>
    rw [hi] at h
    simp only [Option.map_some, Option.some.injEq, Prod.mk.injEq] at h
    exact ⟨i, rfl, h.1, h.2.1, h.2.2⟩
/-- append of a number to a row of the law's own. -/
theorem wpList_append_int {P : Program} {ops : Array Oper} {rest : List Oper} {o : Oper} {a : Act} {Q : Exit → Act → World → Prop} (hgd : o.guard = none) (s x : Operand) (t e : TypeId)
    (ho : o.op = .call { callee := .builtin .append, args := #[s, x], argTypes := #[t, t] }) (ht : P.underlying t = some (.slice e)) (hi : (P.info? e).map (fun i => (i.zero, i.size, i.bytes)) = some (some (.int .i64 0), 1, 8))
    {W w0 : World} {g : Nat} {v : Value} {l : List Nat} {own : Own} (h : IRow W g e v l own w0) (hW : W.heap.size ≤ w0.heap.size) (hnew : ∀ k, w0.heap.size ≤ k → own k = none) (hgl : g < w0.heap.size) (hl : l.length ≤ 1000000) (hs : a.eval s = v) {X : Nat} {tt : TypeId} (hx : a.eval x = .slice (some ⟨w0.heap.size, 0, none⟩) 1 1)
    (hK : ∀ v' w', IRow W g e v' (l ++ [X]) own w' → (w0.alloc (.cells #[.int .i64 (X : Int)] tt)).grownBy w' v.ownBlock → (v'.ownBlock = v.ownBlock ∨ ∃ k, w0.heap.size ≤ k ∧ v'.ownBlock = some k) → wpList P ops Q rest (a.put o.dst v') w') :
    wpList P ops Q (o :: rest) a (w0.alloc (.cells #[.int .i64 (X : Int)] tt)) := by
  obtain ⟨i, h1, h2, h3, h4⟩ := info_of hi
  have hst := h.stay ((Below.refl _ _).alloc (Nat.le_refl _) (.cells #[.int .i64 (X : Int)] tt))
  refine wpList_append_own_at _ hgd s x t ho W.heap.size e i (.int .i64 0) 1 8 ht h1 h2 h3 h4 rfl (by decide) v l.length (intsOf l) hs hst.owns ⟨w0.heap.size, 0, none⟩ 1 1 [.int .i64 (X : Int)] hx rfl (cell_one_new _ _ _) (fun u hu => by simp at hu; subst hu; rfl) (by unfold maxLen; omega) (by omega) (by simp; omega) ?_
  intro v' w' hown hgrow _ hat
  have hat' : v'.ownBlock = v.ownBlock ∨ ∃ k, w0.heap.size ≤ k ∧ v'.ownBlock = some k := by
    rcases hat with h | h
    · exact .inl h
    · exact .inr ⟨_, by simp, h⟩
  refine hK v' w' ?_ hgrow hat'
  refine ⟨?_, fun k hk => ?_⟩
  · rw [List.length_append, List.length_singleton]
    have : intsOf (l ++ [X]) = intsOf l ++ [.int .i64 (X : Int)] := by simp [intsOf]
    rw [this]; exact hown
  · rcases hat' with h1 | ⟨j, hj, h1⟩
    · exact h.free k (h1 ▸ hk)
    · rw [h1] at hk; cases hk
      exact ⟨hnew k hj, by omega⟩
end Go.Proofs.YtldkeelgnfegeaaGreat

/- The disk, its file, rows of numbers of the law's own. -/
namespace Go.Proofs.YtldkeelgnfegeaaGreat
open Go Go.ChangeShapes Go.WideShapes Go.ChangeAt Go.RowKit Go.By

theorem int64T : Tryz.prog.underlying 32 = some (.slice 2) := by kernel_rfl
theorem info64 : (Tryz.prog.info? 2).map (fun i => (i.zero, i.size, i.bytes)) = some (some (.int .i64 0), 1, 8) := by kernel_rfl
theorem infoInt : (Tryz.prog.info? 3).map (fun i => (i.zero, i.size, i.bytes)) = some (some (.int .i64 0), 1, 8) := by kernel_rfl

/-- The disk, its file, two rows of numbers. -/
structure Two (W : World) (a g : Nat) (s : ByteArray) (E : Nat) (S : Sk) (e1 e2 : TypeId) (v1 v2 : Value) (l1 l2 : List Nat) (own : Own) (w : World) : Prop where
  disk : Dsk W a S own w
  file : Fil W g a s E own w
  r1 : IRow W g e1 v1 l1 own w
  r2 : IRow W g e2 v2 l2 own w
  apart : ∀ j, v1.ownBlock = some j → v2.ownBlock ≠ some j
theorem after_one {W w w' : World} {a g : Nat} {s : ByteArray} {E : Nat} {S : Sk} {e1 e2 : TypeId} {v1 v2 v' : Value} {l1 l2 : List Nat} {own : Own} {x : Nat} {tt : TypeId} (hD : Dsk W a S own w) (hF : Fil W g a s E own w) (h1 : IRow W g e1 v1 l1 own w) (h2 : IRow W g e2 v2 l2 own w) (hap : ∀ j, v1.ownBlock = some j → v2.ownBlock ≠ some j)
    (hr : IRow W g e1 v' (l1 ++ [x]) own w') (hg : (w.alloc (.cells #[.int .i64 (x : Int)] tt)).grownBy w' v1.ownBlock) (hat : v'.ownBlock = v1.ownBlock ∨ ∃ k, w.heap.size ≤ k ∧ v'.ownBlock = some k) : Two W a g s E S e1 e2 v' v2 (l1 ++ [x]) l2 own w' := by
  have hb := (Below.refl w.heap.size w).alloc (Nat.le_refl _) (.cells #[.int .i64 (x : Int)] tt)
  refine ⟨(hD.stay hb).grown hg fun k hk => ⟨(h1.free k hk).1, (h1.lt k hk).1⟩, (hF.stay hb).grown hg fun e => (h1.free g e).2 rfl, hr, (h2.stay hb).grown hg fun k hk e => hap k e hk, fun j hj e => ?_⟩
  rcases hat with h | ⟨k, hk, h⟩
  · exact hap j (h ▸ hj) e
  · rw [h] at hj; cases hj
    have := (h2.lt _ e).2; omega
theorem after_two {W w w' : World} {a g : Nat} {s : ByteArray} {E : Nat} {S : Sk} {e1 e2 : TypeId} {v1 v2 v' : Value} {l1 l2 : List Nat} {own : Own} {x : Nat} {tt : TypeId} (h : Two W a g s E S e1 e2 v1 v2 l1 l2 own w)
    (hr : IRow W g e2 v' (l2 ++ [x]) own w') (hg : (w.alloc (.cells #[.int .i64 (x : Int)] tt)).grownBy w' v2.ownBlock) (hat : v'.ownBlock = v2.ownBlock ∨ ∃ k, w.heap.size ≤ k ∧ v'.ownBlock = some k) : Two W a g s E S e1 e2 v1 v' l1 (l2 ++ [x]) own w' := by
  have hb := (Below.refl w.heap.size w).alloc (Nat.le_refl _) (.cells #[.int .i64 (x : Int)] tt)
  refine ⟨(h.disk.stay hb).grown hg fun k hk => ⟨(h.r2.free k hk).1, (h.r2.lt k hk).1⟩, (h.file.stay hb).grown hg fun e => (h.r2.free g e).2 rfl, (h.r1.stay hb).grown hg fun k hk e => h.apart k hk e, hr, fun j hj e => ?_⟩
  rcases hat with h' | ⟨k, hk, h'⟩
  · exact h.apart j hj (h' ▸ e)
  · rw [h'] at e; cases e
    have := (h.r1.lt _ hj).2; omega
theorem drop_more {C X Y m : List Nat} {j k : Nat} (h : C.drop j = recOf k Y ++ m) : (C ++ X).drop j = recOf k Y ++ (m ++ X) := by
  have hl := congrArg List.length h
  rw [List.length_drop, List.length_append, recOf_length] at hl
  rw [List.drop_append_of_le_length (by omega), h, List.append_assoc]
end Go.Proofs.YtldkeelgnfegeaaGreat

/- A file among others of a disk: what operations make of it. -/
namespace Go.Proofs.YtldkeelgnfegeaaGreat
open Go Go.RowKit Go.By

def Sk.put (S : Sk) (q : Nat) (F : FileA) : Sk := { S.tick with cont := fun k => if k = q then F else S.cont k, used := S.used + ((F.seen.length : Int) - ((S.cont q).seen.length : Int)) }
theorem sk_write {S : Sk} {s : ByteArray} {q : Nat} {K K0 : List Nat} {os : List ByteOp} (hq : Mp.get S.seen s = some q) (hF : S.cont q = ⟨K, K0, os⟩) (hs : mayName s = true) (hl : S.left ≠ 1) {off : Nat} (ho : off ≤ 16777216) {b : List Nat} (hb : b ≠ []) (hR : ((off + b.length : Nat) : Int) - K.length ≤ S.room - S.used) :
    S.write s off b = (S.put q ⟨nextK K off b, K0, os ++ [.write off b]⟩, 0) := by
  unfold Sk.write Sk.onFile
  rw [err_ok hl (by rw [num_may ho, hs]; rfl), if_neg (by decide), hq]
  dsimp only
  unfold Sk.writeAt
  have h1 : S.tick.cont q = ⟨K, K0, os⟩ := hF
  rw [if_neg hb, if_pos]
  · have hal : (⟨K, K0, os⟩ : FileA).alter (.write (off : Int).toNat b) = ⟨nextK K off b, K0, os ++ [.write off b]⟩ := rfl
    have hm : (⟨K, K0, os⟩ : FileA).more (.write (off : Int).toNat b) = ((nextK K off b).length : Int) - K.length := rfl
    unfold Sk.alterFile
    rw [h1, hal, hm]
    unfold Sk.put
    rw [hF]
    rfl
  · unfold Sk.hasRoom
    rw [h1, show S.tick.room = S.room from rfl, show S.tick.used = S.used from rfl, Bool.or_eq_true, decide_eq_true_eq, decide_eq_true_eq]
    dsimp only
    right; omega
theorem sk_size {S : Sk} {s : ByteArray} {q : Nat} {K K0 : List Nat} {os : List ByteOp} (hq : Mp.get S.seen s = some q) (hF : S.cont q = ⟨K, K0, os⟩) : S.size s = some K.length := by
  unfold Sk.size
  rw [hq, Option.map_some, hF]
theorem sk_end {S : Sk} {s : ByteArray} {q : Nat} {K K0 : List Nat} {os : List ByteOp} (hq : Mp.get S.seen s = some q) (hF : S.cont q = ⟨K, K0, os⟩) {E : Nat} (h : E = K.length) : endAt S s E = K.length := by
  unfold endAt
  rw [sk_size hq hF, h]; simp
theorem sk_read {S : Sk} {s : ByteArray} {q : Nat} {K K0 : List Nat} {os : List ByteOp} (hq : Mp.get S.seen s = some q) (hF : S.cont q = ⟨K, K0, os⟩) (hs : mayName s = true) (hl : S.left ≠ 1) {off n : Nat} (ho : off ≤ 16777216) (hn : n ≤ 16777216) (hon : off + n ≤ K.length) :
    S.read s off n = ((K.drop off).take n, 0) := by
  unfold Sk.read
  rw [err_ok hl (by rw [num_may ho, num_may hn, hs]; rfl), if_neg (by decide), hq]
  dsimp only
  rw [hF, if_neg (by dsimp only; omega)]
  simp
theorem sk_piece {S : Sk} {s : ByteArray} {q : Nat} {K K0 : List Nat} {os : List ByteOp} (hq : Mp.get S.seen s = some q) (hF : S.cont q = ⟨K, K0, os⟩) (hs : mayName s = true) (hl : S.left ≠ 1) {off : Nat} (ho : off ≤ K.length) (hK : K.length ≤ 16777216) :
    S.piece s off = ((K.drop off).take 4105, 0) := by
  have e : min (max (((S.size s).getD 0 : Nat) - (off : Int)) 0) 4105 = ((min (K.length - off) 4105 : Nat) : Int) := by
    rw [sk_size hq hF]
    simp only [Option.getD_some]
    omega
  unfold Sk.piece
  rw [e, sk_read hq hF hs hl (by omega) (by omega) (by omega)]
  rw [if_neg (show ¬ (0 : Int) = 1 by decide)]
  refine congrArg (·, (0 : Int)) ?_
  by_cases h : K.length - off ≤ 4105
  · rw [Nat.min_eq_left h, List.take_of_length_le (by simp), List.take_of_length_le (by simp; omega)]
  · rw [Nat.min_eq_right (by omega)]
theorem sk_record {S : Sk} {s : ByteArray} {q : Nat} {K K0 : List Nat} {os : List ByteOp} (hq : Mp.get S.seen s = some q) (hF : S.cont q = ⟨K, K0, os⟩) (hs : mayName s = true) (hl : S.left ≠ 1) {off E : Nat} (h256 : 256 ≤ off) (hK : K.length ≤ 16777216) {k : Nat} {b m : List Nat} (hk : k < 256) (hb : b.length ≤ 4096) (hbs : ∀ c ∈ b, c < 256) (hd : K.drop off = recOf k b ++ m) :
    readOut S s E off = (k, b, 0) ∧ readS S s E off = S.tick := by
  have hlen : off + (9 + b.length) ≤ K.length := by
    have h := congrArg List.length hd
    rw [List.length_drop, List.length_append, recOf_length] at h
    omega
  have hend : K.length ≤ endAt S s E := by
    unfold endAt
    rw [sk_size hq hF, Option.getD_some]
    omega
  have hn : ¬ ((off : Int) < 256 ∨ (endAt S s E : Int) ≤ off) := by omega
  unfold readOut readS
  rw [if_neg hn, if_neg hn, sk_piece hq hF hs hl (by omega) hK]
  dsimp only
  rw [if_neg (by simp), hd]
  have ht : (recOf k b ++ m).take 4105 = recOf k b ++ m.take (4105 - (recOf k b).length) := by
    rw [List.take_append, List.take_of_length_le (by rw [recOf_length]; omega)]
  rw [ht]
  obtain ⟨e1, e2, e3⟩ := tk_rec (m.take (4105 - (recOf k b).length)) hk hb hbs
  rw [e1, e2, e3]
  exact ⟨rfl, rfl⟩

theorem at_append {W w : World} {g a : Nat} {s : ByteArray} {S : Sk} {q : Nat} {A B C K0 : List Nat} {os : List ByteOp} {own : Own} (hD : Dsk W a S own w) (hf : Fil W g a s (256 + C.length) own w) (hFi : S.Fine) (hq : Mp.get S.seen s = some q) (hF : S.cont q = ⟨K3 A B C, K0, os⟩) (hs : mayName s = true) (hsz : s.size ≤ maxLen)
    (hl : S.left ≠ 1) (hA : A.length = 128) (hB : B.length = 128) (h16 : 256 + C.length ≤ 16777216) (hR : (4105 : Int) ≤ S.room - S.used) {k : Nat} (hk : k < 256) {bv : Value} {b : List Nat} (hb : Bytes w bv b) (hbl : b.length ≤ 4096) :
    Calls Tryz.prog 10 #[.pointer (some ⟨g, 0, none⟩), .int .u8 k, bv] w fun e w' => e = .returned (.tuple #[.int .i64 (256 + C.length : Nat), .int .i64 0]) ∧
      ∃ own', Moves g own own' w w' ∧ Dsk W a (S.put q ⟨K3 A B (C ++ recOf k b), K0, os ++ [.write (256 + C.length) (recOf k b)]⟩) own' w' ∧ Fil W g a s (256 + (C ++ recOf k b).length) own' w' := by
  have he : endAt S s (256 + C.length) = 256 + C.length := by
    rw [sk_end hq hF (K3_length hA hB).symm, K3_length hA hB]
  have e1 : appendAt S s (256 + C.length) k b = (S.put q ⟨K3 A B (C ++ recOf k b), K0, os ++ [.write (256 + C.length) (recOf k b)]⟩, 0) := by
    unfold appendAt
    rw [he, sk_write hq hF hs hl h16 (rec_ne k b) (by rw [recOf_length, K3_length hA hB]; omega), K3_append hA hB (rec_ne k b)]
  refine (append_any hD hf hFi hsz k hk hb hbl (by rw [he]; omega)).mono ?_
  rintro e w' ⟨rfl, own', hm, hd, hf'⟩
  rw [e1] at hd hf' ⊢
  rw [he] at hf' ⊢
  rw [if_pos rfl] at hf' ⊢
  refine ⟨rfl, own', hm, hd, ?_⟩
  rw [List.length_append, recOf_length]
  rw [Nat.add_assoc] at hf'
  exact hf'
theorem at_hold {W w : World} {g a : Nat} {s : ByteArray} {E : Nat} {S : Sk} {q : Nat} {A B C K0 : List Nat} {os : List ByteOp} {own : Own} (hD : Dsk W a S own w) (hf : Fil W g a s E own w) (hFi : S.Fine) (hq : Mp.get S.seen s = some q) (hF : S.cont q = ⟨K3 A B C, K0, os⟩) (hs : mayName s = true) (hsz : s.size ≤ maxLen)
    (hl : S.left ≠ 1) (hA : A.length = 128) (hB : B.length = 128) (hR : (256 : Int) ≤ S.room - S.used) {k : Nat} (hk : k < 18446744073709551616) {bv : Value} {b : List Nat} (hb : Bytes w bv b) (hbl : b.length ≤ 113) :
    Calls Tryz.prog 15 #[.pointer (some ⟨g, 0, none⟩), .int .u64 k, bv] w fun e w' => e = .returned (.int .i64 0) ∧
      ∃ own', Steps own own' w w' ∧ Dsk W a (S.put q ⟨K3 (if k % 2 = 0 then slotOf k b else A) (if k % 2 = 0 then B else slotOf k b) C, K0, os ++ [.write (k % 2 * 128) (slotOf k b)]⟩) own' w' ∧ Fil W g a s E own' w' := by
  have hl2 := slotOf_length (g := k) hbl
  have hne : slotOf k b ≠ [] := by intro e; rw [e] at hl2; cases hl2
  have e1 : holdAt S s k b = (S.put q ⟨K3 (if k % 2 = 0 then slotOf k b else A) (if k % 2 = 0 then B else slotOf k b) C, K0, os ++ [.write (k % 2 * 128) (slotOf k b)]⟩, 0) := by
    unfold holdAt
    rw [sk_write hq hF hs hl (by omega) hne (by rw [hl2, K3_length hA hB]; omega)]
    by_cases h : k % 2 = 0
    · rw [if_pos h, if_pos h, h, Nat.zero_mul, K3_zero hA hl2]
    · have h1 : k % 2 = 1 := by omega
      rw [if_neg h, if_neg h, h1, Nat.one_mul, K3_one hB hA hl2]
  refine (hold_any hD hf hFi hsz k hk hb hbl).mono ?_
  rintro e w' ⟨rfl, own', hm, hd, hf'⟩
  rw [e1] at hd ⊢
  exact ⟨rfl, own', hm, hd, hf'⟩
theorem at_read {W w : World} {g a : Nat} {s : ByteArray} {E : Nat} {S : Sk} {q : Nat} {K K0 : List Nat} {os : List ByteOp} {own : Own} (hD : Dsk W a S own w) (hf : Fil W g a s E own w) (hFi : S.Fine) (hq : Mp.get S.seen s = some q) (hF : S.cont q = ⟨K, K0, os⟩) (hs : mayName s = true) (hsz : s.size ≤ maxLen)
    (hl : S.left ≠ 1) (h16 : K.length ≤ 16777216) (hE : E ≤ 16777216) {off : Nat} (h256 : 256 ≤ off) {k : Nat} {b m : List Nat} (hk : k < 256) (hb : b.length ≤ 4096) (hbs : ∀ c ∈ b, c < 256) (hd : K.drop off = recOf k b ++ m) :
    Calls Tryz.prog 14 #[.pointer (some ⟨g, 0, none⟩), .int .i64 (off : Int)] w fun e w' => ∃ p c, e = .returned (.tuple #[.int .u8 k, .slice p b.length c, .int .i64 0]) ∧ Bytes w' (.slice p b.length c) b ∧ (∀ j, (Value.slice p b.length c).ownBlock = some j → w.heap.size ≤ j) ∧ Steps own own w w' ∧
      Dsk W a S.tick own w' ∧ Fil W g a s E own w' := by
  obtain ⟨e1, e2⟩ := sk_record (E := E) hq hF hs hl h256 h16 hk hb hbs hd
  have he : endAt S s E ≤ 1099511627776 := by
    unfold endAt
    rw [sk_size hq hF, Option.getD_some]
    omega
  have h := fileRead_any hD hf hFi hsz (off : Int) he
  rw [e1, e2] at h
  exact h
end Go.Proofs.YtldkeelgnfegeaaGreat

/- Two files of a disk. -/
namespace Go.Proofs.YtldkeelgnfegeaaGreat
open Go Go.RowKit Go.By

def upd {α : Type} (f : Nat → α) (q : Nat) (v : α) : Nat → α := fun k => if k = q then v else f k
theorem upd_same {α : Type} (f : Nat → α) (q : Nat) (v : α) : upd f q v q = v := if_pos rfl
theorem upd_other {α : Type} (f : Nat → α) {q k : Nat} (v : α) (h : k ≠ q) : upd f q v k = f k := if_neg h

theorem put_same (S : Sk) (q : Nat) (F : FileA) : (S.put q F).cont q = F := if_pos rfl
theorem put_other (S : Sk) (q : Nat) (F : FileA) {k : Nat} (h : k ≠ q) : (S.put q F).cont k = S.cont k := if_neg h

/-- Two files, of the numbers 1 and 2, in the blocks ga and gb. -/
structure DU (W : World) (a ga gb : Nat) (s1 s2 : ByteArray) (A B C : Nat → List Nat) (os : Nat → List ByteOp) (n : Nat) (S : Sk) (own : Own) (w : World) : Prop where
  disk : Dsk W a S own w
  fa : Fil W ga a s1 (256 + (C 1).length) own w
  fb : Fil W gb a s2 (256 + (C 2).length) own w
  ne : ga ≠ gb
  one : Mp.get S.seen s1 = some 1
  two : Mp.get S.seen s2 = some 2
  laid : S.laid.length ≤ 10
  left : S.left = 0
  room : S.room = 1048576
  made : S.made = 2
  ops : S.ops ≤ 4 + n
  used : S.used = 512 + (C 1).length + (C 2).length
  c1 : S.cont 1 = ⟨K3 (A 1) (B 1) (C 1), [], os 1⟩
  c2 : S.cont 2 = ⟨K3 (A 2) (B 2) (C 2), [], os 2⟩
  c0 : ∀ k, k ≠ 1 → k ≠ 2 → S.cont k = noFile
  lA : ∀ k, (A k).length = 128
  lB : ∀ k, (B k).length = 128
  los : ∀ k, (os k).length ≤ 1 + n
theorem DU.fine {W : World} {a ga gb : Nat} {s1 s2 : ByteArray} {A B C : Nat → List Nat} {os : Nat → List ByteOp} {n : Nat} {S : Sk} {own : Own} {w : World} (h : DU W a ga gb s1 s2 A B C os n S own w) (hn : n ≤ 1000) (h1 : (C 1).length ≤ 100000) (h2 : (C 2).length ≤ 100000) : S.Fine where
  ops := by have := h.ops; omega
  left := by have := h.left; omega
  made := by have := h.made; omega
  laid := by have := h.laid; omega
  few := fun k => by
    by_cases e1 : k = 1
    · subst e1; rw [h.c1]; have := h.los 1; show (os 1).length < _; omega
    · by_cases e2 : k = 2
      · subst e2; rw [h.c2]; have := h.los 2; show (os 2).length < _; omega
      · rw [h.c0 k e1 e2]; show 0 < _; omega
  short := fun k => by
    by_cases e1 : k = 1
    · subst e1; rw [h.c1]; show (K3 _ _ _).length ≤ _; rw [K3_length (h.lA 1) (h.lB 1)]; omega
    · by_cases e2 : k = 2
      · subst e2; rw [h.c2]; show (K3 _ _ _).length ≤ _; rw [K3_length (h.lA 2) (h.lB 2)]; omega
      · rw [h.c0 k e1 e2]; show 0 ≤ _; omega
  room := by have := h.room; omega
  used := by have := h.used; omega
/-- The first file is turned. -/
theorem DU.put1 {W : World} {a ga gb : Nat} {s1 s2 : ByteArray} {A B C : Nat → List Nat} {os : Nat → List ByteOp} {n : Nat} {S : Sk} {own own' : Own} {w w' : World} (h : DU W a ga gb s1 s2 A B C os n S own w) {A' B' C' : List Nat} {o : ByteOp} (hA : A'.length = 128) (hB : B'.length = 128)
    (hd : Dsk W a (S.put 1 ⟨K3 A' B' C', [], os 1 ++ [o]⟩) own' w') (hf : Fil W ga a s1 (256 + C'.length) own' w') (hm : Moves ga own own' w w') :
    DU W a ga gb s1 s2 (upd A 1 A') (upd B 1 B') (upd C 1 C') (upd os 1 (os 1 ++ [o])) (n + 1) (S.put 1 ⟨K3 A' B' C', [], os 1 ++ [o]⟩) own' w' where
  disk := hd
  fa := by rw [upd_same]; exact hf
  fb := by rw [upd_other _ _ (by decide)]; exact h.fb.move hm (fun e => h.ne e.symm)
  ne := h.ne
  one := h.one
  two := h.two
  laid := h.laid
  left := by show S.left - 1 = 0; rw [h.left]
  room := h.room
  made := h.made
  ops := by have := h.ops; show S.ops + 1 ≤ _; omega
  used := by
    show S.used + (((K3 A' B' C').length : Int) - ((S.cont 1).seen.length : Int)) = _
    rw [h.used, h.c1, upd_same, upd_other _ _ (by decide)]
    show _ + (((K3 A' B' C').length : Int) - ((K3 (A 1) (B 1) (C 1)).length : Int)) = _
    rw [K3_length hA hB, K3_length (h.lA 1) (h.lB 1)]; omega
  c1 := by rw [upd_same, upd_same, upd_same, upd_same]; exact put_same _ _ _
  c2 := by
    rw [upd_other _ _ (by decide), upd_other _ _ (by decide), upd_other _ _ (by decide), upd_other _ _ (by decide), ← h.c2]
    exact put_other _ _ _ (by decide)
  c0 := fun k h1 h2 => by rw [← h.c0 k h1 h2]; exact put_other _ _ _ h1
  lA := fun k => by unfold upd; split <;> first | exact hA | exact h.lA k
  lB := fun k => by unfold upd; split <;> first | exact hB | exact h.lB k
  los := fun k => by
    have := h.los k; have := h.los 1
    unfold upd; split
    · rw [List.length_append, List.length_singleton]; omega
    · omega
/-- The second one. -/
theorem DU.put2 {W : World} {a ga gb : Nat} {s1 s2 : ByteArray} {A B C : Nat → List Nat} {os : Nat → List ByteOp} {n : Nat} {S : Sk} {own own' : Own} {w w' : World} (h : DU W a ga gb s1 s2 A B C os n S own w) {A' B' C' : List Nat} {o : ByteOp} (hA : A'.length = 128) (hB : B'.length = 128)
    (hd : Dsk W a (S.put 2 ⟨K3 A' B' C', [], os 2 ++ [o]⟩) own' w') (hf : Fil W gb a s2 (256 + C'.length) own' w') (hm : Moves gb own own' w w') :
    DU W a ga gb s1 s2 (upd A 2 A') (upd B 2 B') (upd C 2 C') (upd os 2 (os 2 ++ [o])) (n + 1) (S.put 2 ⟨K3 A' B' C', [], os 2 ++ [o]⟩) own' w' where
  disk := hd
  fa := by rw [upd_other _ _ (by decide)]; exact h.fa.move hm h.ne
  fb := by rw [upd_same]; exact hf
  ne := h.ne
  one := h.one
  two := h.two
  laid := h.laid
  left := by show S.left - 1 = 0; rw [h.left]
  room := h.room
  made := h.made
  ops := by have := h.ops; show S.ops + 1 ≤ _; omega
  used := by
    show S.used + (((K3 A' B' C').length : Int) - ((S.cont 2).seen.length : Int)) = _
    rw [h.used, h.c2, upd_same, upd_other _ _ (by decide)]
    show _ + (((K3 A' B' C').length : Int) - ((K3 (A 2) (B 2) (C 2)).length : Int)) = _
    rw [K3_length hA hB, K3_length (h.lA 2) (h.lB 2)]; omega
  c1 := by
    rw [upd_other _ _ (by decide), upd_other _ _ (by decide), upd_other _ _ (by decide), upd_other _ _ (by decide), ← h.c1]
    exact put_other _ _ _ (by decide)
  c2 := by rw [upd_same, upd_same, upd_same, upd_same]; exact put_same _ _ _
  c0 := fun k h1 h2 => by rw [← h.c0 k h1 h2]; exact put_other _ _ _ h2
  lA := fun k => by unfold upd; split <;> first | exact hA | exact h.lA k
  lB := fun k => by unfold upd; split <;> first | exact hB | exact h.lB k
  los := fun k => by
    have := h.los k; have := h.los 2
    unfold upd; split
    · rw [List.length_append, List.length_singleton]; omega
    · omega
theorem DU.stay {W : World} {a ga gb : Nat} {s1 s2 : ByteArray} {A B C : Nat → List Nat} {os : Nat → List ByteOp} {n : Nat} {S : Sk} {own : Own} {w w' : World} (h : DU W a ga gb s1 s2 A B C os n S own w) (hb : Below w.heap.size w w') : DU W a ga gb s1 s2 A B C os n S own w' :=
  ⟨h.disk.stay hb, h.fa.stay hb, h.fb.stay hb, h.ne, h.one, h.two, h.laid, h.left, h.room, h.made, h.ops, h.used, h.c1, h.c2, h.c0, h.lA, h.lB, h.los⟩
theorem DU.grown {W : World} {a ga gb : Nat} {s1 s2 : ByteArray} {A B C : Nat → List Nat} {os : Nat → List ByteOp} {n : Nat} {S : Sk} {own : Own} {w w' : World} (h : DU W a ga gb s1 s2 A B C os n S own w) {r : Option Nat} (hg : w.grownBy w' r) (hr : ∀ k, r = some k → own k = none ∧ W.heap.size ≤ k ∧ k ≠ ga ∧ k ≠ gb) : DU W a ga gb s1 s2 A B C os n S own w' :=
  ⟨h.disk.grown hg fun k hk => ⟨(hr k hk).1, (hr k hk).2.1⟩, h.fa.grown hg fun e => (hr ga e).2.2.1 rfl, h.fb.grown hg fun e => (hr gb e).2.2.2 rfl, h.ne, h.one, h.two, h.laid, h.left, h.room, h.made, h.ops, h.used, h.c1, h.c2, h.c0, h.lA, h.lB, h.los⟩
/-- A reading of either. -/
theorem DU.tick {W : World} {a ga gb : Nat} {s1 s2 : ByteArray} {A B C : Nat → List Nat} {os : Nat → List ByteOp} {n : Nat} {S : Sk} {own : Own} {w w' : World} (h : DU W a ga gb s1 s2 A B C os n S own w) (hd : Dsk W a S.tick own w') (hs : Steps own own w w') : DU W a ga gb s1 s2 A B C os (n + 1) S.tick own w' :=
  ⟨hd, h.fa.steps hs, h.fb.steps hs, h.ne, h.one, h.two, h.laid, by show S.left - 1 = 0; rw [h.left], h.room, h.made, by have := h.ops; show S.ops + 1 ≤ _; omega, h.used, h.c1, h.c2, h.c0, h.lA, h.lB, fun k => by have := h.los k; omega⟩
end Go.Proofs.YtldkeelgnfegeaaGreat

/- A file gets another name; the names of a disk. -/
namespace Go.Proofs.YtldkeelgnfegeaaGreat
open Go Go.RowKit Go.By

theorem Dsk.rename {W w : World} {a : Nat} {S : Sk} {own : Own} (h : Dsk W a S own w) (hF : S.Fine) {s t : ByteArray} (hs : s.size ≤ maxLen) (ht : t.size ≤ maxLen) (hmay : mayName s = true) (hmay2 : mayName t = true) (hl : S.left ≠ 1) (hne : (s.toList == t.toList) = false) {n : Nat} (hg : Mp.get S.seen s = some n) (hg2 : Mp.get S.seen t = none) :
    Calls Tryz.prog 38 #[.pointer (some ⟨a, 0, none⟩), .string s, .string t] w fun e w' => e = .returned (.int .i64 0) ∧ ∃ own', Steps own own' w w' ∧ Dsk W a { S.tick with seen := Mp.put (Mp.del S.seen s) t n, laid := S.laid ++ [.rename s t] } own' w' := by
  obtain ⟨D, hd, hok, rfl⟩ := h.out
  refine (rename_any own a n D s t w hd hok hF.ops hF.left hs ht hF.laid hmay hmay2 hl hne hg hg2).mono ?_
  rintro e w' ⟨rfl, own', hst, hd'⟩
  have hb := (sk_begin D true).1
  have hok1 := DiskA.begin_ok hok true
  have hsame := D.begin_same true
  refine ⟨rfl, own', hst, h.of_steps hst ⟨_, hd', ⟨fun x m hx => ?_, hok1.keptIn, fun x m hx => ?_, hok1.made⟩, ?_⟩⟩
  · have hx' : Mp.get (Mp.put (Mp.del D.seen s) t n) x = some m := hx
    show (Mp.get (D.begin true).1.fm m).isSome = true
    rw [hsame.2.2.2.1]
    rw [Mp.get_put] at hx'
    split at hx'
    · cases hx'; exact hok.seenIn s n hg
    · have hnd : (D.seen.map (·.1)).Nodup := by
        obtain ⟨ms, mk, mf, lv, _, h2⟩ := hd.out
        rcases h2.seen with ⟨_, h0⟩ | ⟨b, _, _, hm⟩
        · rw [h0]; exact List.nodup_nil
        · exact hm.2
      rw [Mp.get_del D.seen hnd] at hx'
      split at hx'
      · cases hx'
      · exact hok.seenIn x m hx'
  · have hx' : NameOp.create x m ∈ D.laid ++ [.rename s t] := hx
    show (Mp.get (D.begin true).1.fm m).isSome = true
    rw [hsame.2.2.2.1]
    rcases List.mem_append.1 hx' with h1 | h1
    · exact hok.laidIn x m h1
    · rw [List.mem_singleton] at h1; cases h1
  · show (⟨(D.begin true).1.room, (D.begin true).1.used, (D.begin true).1.ops, (D.begin true).1.left, (D.begin true).1.made, Mp.put (Mp.del D.seen s) t n, (D.begin true).1.kept, D.laid ++ [.rename s t], (D.begin true).1.cont⟩ : Sk) = _
    have e1 : ∀ (P Q : Sk), P = Q → (⟨P.room, P.used, P.ops, P.left, P.made, Mp.put (Mp.del D.seen s) t n, P.kept, D.laid ++ [.rename s t], P.cont⟩ : Sk) = ⟨Q.room, Q.used, Q.ops, Q.left, Q.made, Mp.put (Mp.del D.seen s) t n, Q.kept, D.laid ++ [.rename s t], Q.cont⟩ := fun P Q h => by rw [h]
    exact e1 _ _ hb

set_option maxRecDepth 100000 in
theorem fileRenamed_any {W w : World} {g a : Nat} {s t : ByteArray} {E : Nat} {S : Sk} {own : Own} (hD : Dsk W a S own w) (h : Fil W g a s E own w) (hF : S.Fine) (hs : s.size ≤ maxLen) (ht : t.size ≤ maxLen) (hmay : mayName s = true) (hmay2 : mayName t = true) (hl : S.left ≠ 1) (hne : (s.toList == t.toList) = false) {n : Nat} (hg : Mp.get S.seen s = some n) (hg2 : Mp.get S.seen t = none) :
    Calls Tryz.prog 16 #[.pointer (some ⟨g, 0, none⟩), .string t] w fun e w' => e = .returned (.int .i64 0) ∧ ∃ own', Moves g own own' w w' ∧ Dsk W a { S.tick with seen := Mp.put (Mp.del S.seen s) t n, laid := S.laid ++ [.rename s t] } own' w' ∧ Fil W g a t E own' w' := by
  have HN := Lib.hid (isNone_any h)
  obtain ⟨c0, c1, _⟩ := h.at_
  have hrn : ∀ w0 : World, w0.heap = w.heap → w0.os = w.os → w0.tape = w.tape → w0.output = w.output → Calls Tryz.prog 38 #[.pointer (some ⟨a, 0, none⟩), .string s, .string t] w0 fun e w' => e = .returned (.int .i64 0) ∧
      w'.cell? ⟨g, 0, none⟩ = some (.pointer (some ⟨a, 0, none⟩)) ∧ w'.cell? ⟨g, 1, none⟩ = some (.string s) ∧ ∃ own', Steps own own' w w' ∧ Dsk W a { S.tick with seen := Mp.put (Mp.del S.seen s) t n, laid := S.laid ++ [.rename s t] } own' w' ∧ Fil W g a s E own' w' := by
    intro w0 e1 e2 e3 e4
    have hb0 := below_same e1 e2 e3 e4
    refine ((hD.stay hb0).rename hF hs ht hmay hmay2 hl hne hg hg2).mono ?_
    rintro e w' ⟨rfl, own', hst, hd⟩
    have hf' := (h.stay hb0).steps hst
    exact ⟨rfl, hf'.at_.1, hf'.at_.2.1, own', (Steps.of_below hb0).trans hst, hd, hf'⟩
  have HRN := Lib.hid hrn
  generalize ({ S.tick with seen := Mp.put (Mp.del S.seen s) t n, laid := S.laid ++ [.rename s t] } : Sk) = S2 at *
  clear hD h hF hrn
  go_enter Tryz.func16, Tryz.ntmps16
  go_wp2_with (go_at_call 28; refine HN.out.mono ?_; rintro e w1 ⟨rfl, rfl⟩)
  go_region_held3 (fun w' => w'.cell? ⟨g, 0, none⟩ = some (.pointer (some ⟨a, 0, none⟩)) ∧ w'.cell? ⟨g, 1, none⟩ = some (.string s)) (go_keep)
    (first | (go_at_call 38; refine (HRN.out _ (by rfl) (by rfl) (by rfl) (by rfl)).mono ?_; rintro e w2 ⟨rfl, d0, d1, hfin⟩))
  obtain ⟨own2, hst, hd, hf⟩ := hfin
  have fz := free_of hf.cells 1
  have HFIN : Hid (Moves g own own2 w (w2.setCell ⟨g, 1, none⟩ (.string t)) ∧ Dsk W a S2 own2 (w2.setCell ⟨g, 1, none⟩ (.string t)) ∧ Fil W g a t E own2 (w2.setCell ⟨g, 1, none⟩ (.string t))) :=
    ⟨(hst.moves g).trans (Moves.set g own2 w2 1 _), hd.set hf.free hf.far 1 _, (set_heap hf.cells 1 _).1, hf.free, hf.far⟩
  clear hst hd hf HRN
  go_wp2
  go_ret
  exact ⟨rfl, own2, HFIN.out⟩

theorem Dsk.list {W w : World} {a : Nat} {S : Sk} {own : Own} (h : Dsk W a S own w) (hs : ∀ p ∈ S.seen, p.1.size ≤ maxLen) (hm : S.seen.length ≤ 1000000) :
    Calls Tryz.prog 17 #[.pointer (some ⟨a, 0, none⟩)] w fun e w' => ∃ v, e = .returned v ∧ w'.ownsRow w.heap.size 9 1 v S.seen.length ((sortedNames S.seen).map encStr) ∧ Below w.heap.size w w' := by
  obtain ⟨D, hd, hok, rfl⟩ := h.out
  exact (list_any own a D w hd hs hm).mono fun e w' ⟨v, h1, h2, _, h3⟩ => ⟨v, h1, h2, h3⟩
end Go.Proofs.YtldkeelgnfegeaaGreat
