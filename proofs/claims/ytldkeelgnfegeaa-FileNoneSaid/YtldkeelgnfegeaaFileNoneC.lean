/- The law FileNone: every call of it returns true, and all that was there before the call is as it was. No condition. -/
import Derived.Test.YtldkeelgnfegeaaM5
import Derived.Test.YtldkeelgnfegeaaRows
namespace Go.Proofs.Ytldkeelgnfegeaa
open Go Go.ChangeShapes Go.WideShapes Go.ChangeAt Go.RowKit Go.By

theorem oneF_cut {s : ByteArray} {R : Int} {ops lf : Nat} {kp : List (ByteArray × Nat)} {ld : List NameOp} {K0 : List Nat} {os : List ByteOp} (hs : mayName s = true) (hl : lf ≠ 1) {v : Nat} (hv : v ≤ 16777216) (hv0 : 0 < v ∨ 0 ≤ R) :
    (oneF s R ops lf kp ld [] K0 os).truncate s v = if (v : Int) ≤ R then (oneF s R (ops + 1) (lf - 1) kp ld (List.replicate v 0) K0 (os ++ [.cut v]), 0) else (oneF s R (ops + 1) (lf - 1) kp ld [] K0 os, 4) := by
  unfold Sk.truncate Sk.onFile
  rw [err_ok hl (by rw [num_may hv, hs]; rfl), if_neg (by decide)]
  rw [show (oneF s R ops lf kp ld [] K0 os).seen = [(s, 1)] from rfl, get_one]
  dsimp only
  unfold Sk.cutAt
  have hroom : (oneF s R ops lf kp ld [] K0 os).tick.hasRoom 1 (v : Int) = decide ((v : Int) ≤ R) := by
    unfold Sk.hasRoom
    have h1 : (oneF s R ops lf kp ld [] K0 os).tick.cont 1 = ⟨[], K0, os⟩ := rfl
    rw [h1, show (oneF s R ops lf kp ld [] K0 os).tick.room = R from rfl, show (oneF s R ops lf kp ld [] K0 os).tick.used = 0 from rfl]
    rw [Bool.eq_iff_iff, Bool.or_eq_true, decide_eq_true_eq, decide_eq_true_eq, decide_eq_true_eq]
    dsimp only [List.length_nil]
    omega
  rw [hroom]
  by_cases hR : (v : Int) ≤ R
  · rw [if_pos (by simpa using hR), if_pos hR]
    refine congrArg (·, (0 : Int)) ?_
    have h2 : (oneF s R ops lf kp ld [] K0 os).tick.cont 1 = ⟨[], K0, os⟩ := rfl
    have hal : (⟨[], K0, os⟩ : FileA).alter (.cut (v : Int).toNat) = ⟨List.replicate v 0, K0, os ++ [.cut v]⟩ := by
      show (⟨fitL [] v, K0, os ++ [.cut v]⟩ : FileA) = _
      unfold fitL; simp
    have hm : (⟨[], K0, os⟩ : FileA).more (.cut (v : Int).toNat) = v := by
      unfold FileA.more
      rw [hal]
      show ((List.replicate v 0).length : Int) - 0 = v
      rw [List.length_replicate]; omega
    unfold Sk.alterFile
    rw [h2, hal, hm]
    unfold oneF Sk.tick Sk.withFile
    rw [List.length_replicate]
    have hu : ((0 : Nat) : Int) + (v : Int) = v := by omega
    refine congr (congrArg (fun u => Sk.mk R u (ops + 1) (lf - 1) 1 [(s, 1)] kp ld) hu) ?_
    funext n
    dsimp only
    by_cases e : n = 1
    · rw [if_pos e, if_pos e]
    · rw [if_neg e, if_neg e, if_neg e]
  · rw [if_neg (by simpa using hR), if_neg hR]
    rfl
theorem oneF_many {s : ByteArray} {R : Int} {ops lf : Nat} {kp : List (ByteArray × Nat)} {ld : List NameOp} {K K0 : List Nat} {os : List ByteOp} (hs : mayName s = true) (hl : lf ≠ 1) : (oneF s R ops lf kp ld K K0 os).create s = (oneF s R (ops + 1) (lf - 1) kp ld K K0 os, 8) := by
  unfold Sk.create
  rw [err_ok hl hs, if_neg (by decide), if_pos (by rw [show (oneF s R ops lf kp ld K K0 os).seen = [(s, 1)] from rfl, get_one]; rfl)]
  rfl
theorem new_create {s : ByteArray} {R : Int} (hs : mayName s = true) (hR : 0 ≤ R) : (DiskA.new R).sk.create s = (oneF s R 1 0 [] [.create s 1] [] [] [], 0) := by
  have hr : (DiskA.new R).room = R := by unfold DiskA.new; dsimp only; rw [if_neg (by omega)]
  unfold Sk.create
  rw [err_ok (show (DiskA.new R).sk.left ≠ 1 from (show (0 : Nat) ≠ 1 by decide)) hs, if_neg (by decide), if_neg (show ¬ (Mp.get (DiskA.new R).sk.seen s).isSome = true from (show ¬ (none : Option Nat).isSome = true by decide))]
  refine congrArg (·, (0 : Int)) ?_
  unfold oneF Sk.tick Sk.withFile DiskA.sk
  rw [hr]
  rfl

set_option maxRecDepth 100000 in
set_option maxHeartbeats 8000000 in
theorem none_any (off : Int) (n : Nat) (hn : n < 65536) (w : World) :
    Calls Try.prog 4 #[.int .i64 off, .int .u16 n] w fun e w' => e = .returned (.bool true) ∧ Below w.heap.size w w' := by
  go_enter Try.func4, Try.ntmps4
  go_wp2_with fail
  refine (begun_any w).mono ?_
  rintro e w1 ⟨rfl, hb1⟩
  have HB1 := Lib.hid hb1
  clear hb1
  go_wp2_with fail
  refine (append_nil _ w1).mono ?_
  rintro e w2 ⟨rfl, rfl⟩
  go_wp2_with fail
  refine (read_nil off w1).mono ?_
  rintro e w2 ⟨rfl, rfl⟩
  go_wp2_with fail
  refine (held_nil w1).mono ?_
  rintro e w2 ⟨rfl, rfl⟩
  go_wp2_with fail
  refine (fileCreate_nil _ (by decide) w1).mono ?_
  rintro e w2 ⟨rfl, rfl⟩
  go_wp2_with fail
  refine (open_nil _ w1).mono ?_
  rintro e w2 ⟨rfl, rfl⟩
  go_wp2_with fail
  refine (new_any 1000 w1).mono ?_
  rintro e w2 ⟨rfl, hd2, hb2⟩
  have HD2 := Lib.hid (Dsk.new hd2 hb2)
  clear hd2 hb2
  go_wp2_with fail
  have hc := HD2.out.create (new_fine (by omega)) tT (by decide)
  rw [new_create tT_may (by omega)] at hc
  refine hc.mono ?_
  rintro e w3 ⟨rfl, own3, _, hd3⟩
  have HD3 := Lib.hid hd3
  clear hc hd3 HD2
  obtain ⟨v, hv⟩ : ∃ v, v = n % 1000 := ⟨_, rfl⟩
  have hv1 : v < 1000 := by omega
  have hvn : ((n : Int) % 1000) = (v : Int) := by omega
  have ht := HD3.out.truncate (oneF_fine (by omega) (by omega) (Nat.lt_of_le_of_lt (Nat.le_refl 1) (by omega)) (by decide) (by decide) (by omega)) tT (by decide) (v : Int)
  rw [oneF_cut tT_may (by omega) (by omega) (.inr (by omega)), if_pos (by omega)] at ht
  have HT := Lib.hid ht
  clear ht HD3 hv
  go_wp2_with fail
  rw [hvn]
  refine HT.out.mono ?_
  rintro e w4 ⟨rfl, own4, _, hd4⟩
  have HD4 := Lib.hid hd4
  have HVN := Lib.hid hvn
  clear hd4 HT hvn
  go_wp2_with fail
  refine (open_any HD4.out tT).mono ?_
  rintro e w5 ⟨hd5, hb5, ho5⟩
  rw [oneF_size, List.length_replicate] at ho5
  have hmany := fileCreate_any hd5 (oneF_fine (by omega) (by omega) (Nat.lt_of_le_of_lt (Nat.le_refl 1) (by omega)) (by rw [List.length_replicate]; omega) (Nat.lt_of_le_of_lt (Nat.le_refl 1) (by omega)) (by omega)) tT (by rw [oneF_many tT_may (by omega)]; intro h; cases h) (by decide)
  rw [oneF_many tT_may (by omega)] at hmany
  have HMANY := Lib.hid hmany
  have HB5 : Hid (Below w.heap.size w w5) := HB1.out.trans (hd5.below.mono HB1.out.size)
  clear hmany hd5 hb5 HD4
  have hopen : ∃ q x, e = .returned (.tuple #[.pointer q, .int .i64 x]) ∧ ((v < 256 ∧ q = none ∧ x = 2) ∨ (256 ≤ v ∧ q ≠ none ∧ x = 0)) := by
    rcases ho5 with ⟨h, _⟩ | ⟨m, h, hm, rfl⟩ | ⟨m, h, hm, g, _, rfl, _⟩
    · cases h
    · cases h
      exact ⟨none, 2, rfl, .inl ⟨hm, rfl, rfl⟩⟩
    · cases h
      exact ⟨some ⟨g, 0, none⟩, 0, rfl, .inr ⟨hm, by simp, rfl⟩⟩
  clear ho5
  obtain ⟨q, x, rfl, hq⟩ := hopen
  have HQ := Lib.hid hq
  clear hq
  go_wp2_with fail
  refine HMANY.out.mono ?_
  rintro e w6 ⟨own6, hst6, hc6⟩
  have he6 : e = .returned (.tuple #[.pointer none, .int .i64 8]) := by
    rcases hc6 with ⟨_, h, _⟩ | ⟨h, _⟩ | ⟨h, _⟩
    · exact h
    · cases h
    · cases h
  subst he6
  have HB6 : Hid (Below w.heap.size w w6) := by
    rcases hc6 with ⟨_, _, h⟩ | ⟨h, _⟩ | ⟨h, _⟩
    · exact HB1.out.trans (h.below.mono HB1.out.size)
    · cases h
    · cases h
  clear hst6 hc6 HMANY HB5
  go_wp2_with fail
  refine (new_any 100 w6).mono ?_
  rintro e w7 ⟨rfl, hd7, hb7⟩
  have hD7 := Dsk.new hd7 hb7
  have e7 : (DiskA.new 100).sk.made2 tT = (oneF tT 100 2 0 [] [.create tT 1] [] [] [], 4) := by
    unfold Sk.made2
    rw [new_create tT_may (by omega)]
    have := oneF_cut (s := tT) (R := 100) (ops := 1) (lf := 0) (kp := []) (ld := [.create tT 1]) (K0 := []) (os := []) tT_may (by omega) (v := 256) (by omega) (.inl (by omega))
    rw [if_neg (by decide)] at this
    exact this
  have hfull := fileCreate_any hD7 (new_fine (by omega)) tT (fun _ => by
    rw [e7, new_create tT_may (by omega)]
    exact ⟨oneF_fine (by omega) (by omega) (by decide) (by decide) (by decide) (by omega), oneF_fine (by omega) (by omega) (by decide) (by decide) (by decide) (by omega)⟩) (by decide)
  rw [e7, new_create tT_may (by omega)] at hfull
  have HFULL := Lib.hid hfull
  have HF7 : Hid (∀ own' w', Steps (fun k => if k = w6.heap.size then some Role.disk else none) own' w7 w' → Below w.heap.size w w') := fun own' w' hs => HB6.out.trans ((hD7.below.trans (hs.below hD7.below.size hD7.far)).mono HB6.out.size)
  clear hd7 hb7 hD7 e7 hfull HB6
  go_wp2_with fail
  refine HFULL.out.mono ?_
  rintro e w8 ⟨own8, hst8, hc8⟩
  have he8 : e = .returned (.tuple #[.pointer none, .int .i64 4]) := by
    rcases hc8 with ⟨h, _⟩ | ⟨_, _, h⟩ | ⟨_, h, _⟩
    · exact absurd rfl h
    · exact h
    · cases h
  subst he8
  have HB8 := Lib.hid (HF7.out own8 w8 hst8)
  clear hst8 hc8 HF7 HFULL HB1
  rcases HQ.out with ⟨hv2, rfl, rfl⟩ | ⟨hv2, hq, rfl⟩
  · have hlt : (n : Int) % 1000 < 256 := by have := HVN.out; omega
    clear HQ HVN
    go_wp2_with fail
    refine (hold_nil _ w8).mono ?_
    rintro e w9 ⟨rfl, rfl⟩
    go_wp2_with fail
    refine (sync_nil w8).mono ?_
    rintro e w9 ⟨rfl, rfl⟩
    go_wp2_with fail
    refine (end_nil w8).mono ?_
    rintro e w9 ⟨rfl, rfl⟩
    go_wp2_with fail
    refine (name_nil w8).mono ?_
    rintro e w9 ⟨rfl, rfl⟩
    go_wp2_with fail
    refine (renamed_nil _ w8).mono ?_
    rintro e w9 ⟨rfl, rfl⟩
    go_wp2
    go_ret
    exact ⟨rfl, HB8.out⟩
  · have hlt : ¬ (n : Int) % 1000 < 256 := by have := HVN.out; omega
    obtain ⟨qa, rfl⟩ := Option.ne_none_iff_exists'.1 hq
    clear HQ HVN hq
    go_wp2_with fail
    refine (hold_nil _ w8).mono ?_
    rintro e w9 ⟨rfl, rfl⟩
    go_wp2_with fail
    refine (sync_nil w8).mono ?_
    rintro e w9 ⟨rfl, rfl⟩
    go_wp2_with fail
    refine (end_nil w8).mono ?_
    rintro e w9 ⟨rfl, rfl⟩
    go_wp2_with fail
    refine (name_nil w8).mono ?_
    rintro e w9 ⟨rfl, rfl⟩
    go_wp2_with fail
    refine (renamed_nil _ w8).mono ?_
    rintro e w9 ⟨rfl, rfl⟩
    go_wp2
    go_ret
    exact ⟨rfl, HB8.out⟩

set_option maxRecDepth 100000 in
theorem none_lifted (os : Os) (started : os.Started) (H : Type) (enc : TypeId × Value → H) :
    ReturnsInHanded {} Try.checked os 4 .any (Rows.fileNoneSpec.pre6 enc Try.prog Try.f4 Rows.fileNoneRow.domain false) (Rows.fileNoneSpec.post enc Try.prog Try.f4 false true false false) := by
  refine returnsInHanded_of_change (C := Try.checked) Sl.own_none started (by kernel_rfl) Try.func4
    (ChangeSpec.witness6 (enc := enc) (C := Try.checked) false ⟨#[], #[.int .i64 0, .int .u16 0], []⟩ 8 (by kernel_rfl) (by kernel_rfl) (by kernel_rfl) (by kernel_rfl)) ?_
  intro W base args ds gs before hval0 hW hcnd _
  have hval : ∀ (j : Nat) t v, Try.f4.params[j]? = some t → args[j]? = some v → Value.okWide Try.prog W .any base t v := hval0
  have hW' := hW
  obtain ⟨p, q, hA0, hV, rfl, hfz, hnd⟩ := hW
  have hA : DataW.TrodAll enc Try.prog W 0 (fun _ => true) true Try.f4.params.toList args.toList ds p := hA0
  have hp : Try.f4.params = #[2, 40] := by kernel_rfl
  rw [hp] at hA hval
  obtain ⟨v0, v1, d0, d1, p0, p1, rfl, rfl, rfl, h0, h1⟩ := trodAll_two hA
  obtain ⟨rfl, rfl⟩ := trodVars_none hV
  obtain ⟨a, rfl, _, _, _⟩ := open_int (P := Try.prog) (t := 2) (k := .i64) (by kernel_rfl) (hval 0 2 v0 rfl rfl) h0
  obtain ⟨b, rfl, _, _, wb⟩ := open_int (P := Try.prog) (t := 40) (k := .u16) (by kernel_rfl) (hval 1 40 v1 rfl rfl) h1
  obtain ⟨b, rfl, hb⟩ := Sl.u16_of_wf wb
  refine (none_any a b hb W).mono fun e W' ⟨he, hb⟩ => ?_
  subst he
  exact ⟨_, rfl, law_post (tb := 4) Sl.laidOut (by rw [hp]; intro t ht; simp at ht; rcases ht with rfl | rfl <;> exact ⟨by kernel_rfl, by decide +kernel⟩) rfl rfl (by kernel_rfl) (by kernel_rfl) hW' hb⟩

theorem fileNone_holds : Rows.FileNoneSaid :=
  OpenClaim.holds_of_wide 4 Try.f4 rfl rfl rfl rfl rfl rfl rfl ⟨rfl, rfl, rfl, rfl, rfl⟩ rfl rfl rfl rfl rfl (by kernel_rfl) Try.func4 (by kernel_rfl)
    (of_decide_eq_true (by kernel_rfl)) (by unfold Func.isWrapper; rw [if_neg (by decide +kernel)]; exact ⟨rfl, rfl⟩)
    (fun os started H enc _ => none_lifted os started H enc)
end Go.Proofs.Ytldkeelgnfegeaa

