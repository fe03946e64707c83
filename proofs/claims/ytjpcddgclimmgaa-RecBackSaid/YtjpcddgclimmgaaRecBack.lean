/- The law RecBack: whatever the kind, the bytes, what stands behind, the place and the turn, every call of it returns true, and all that was there before the call is as it was. No condition. -/
import Derived.Test.YtjpcddgclimmgaaRows
import Derived.Test.YtjpcddgclimmgaaRecH
import Derived.Laws.OwnMore
namespace Go.Proofs.Ytjpcddgclimmgaa
open Go.ChangeShapes Go.WideShapes Go.ChangeAt Go.RowKit Go.By Go

/-- A copy of a record of which a byte is turned. -/
theorem take_turned (k : Nat) (b : List Nat) (j y : Nat) (sv : Value) (w : World) (hk : k < 256) (hb : b.length ≤ 4096) (hs : ∀ c ∈ b, c < 256) (h4 : 4 ≤ j) (hj : j < 9 + b.length) (hy : y < 256) (hsv : Bytes w sv ((recOf k b).set j (atB (recOf k b) j ^^^ y))) :
    Calls Try.prog 10 #[sv] w fun e w' => ∃ (x : Value) (v : Value) (n : Value), e = .returned (.tuple #[x, v, n, .int .i64 (if y = 0 then 0 else 2 : Nat)]) ∧ Below w.heap.size w w' := by
  refine (take_all sv _ w hsv (by rw [List.length_set, recOf_length]; omega)).mono ?_
  rintro e w' ⟨p, c, rfl, _, hb'⟩
  have ht : tkErr ((recOf k b).set j (atB (recOf k b) j ^^^ y)) = if y = 0 then 0 else 2 := by
    unfold tkErr
    rw [isRec_turned hk hb hs h4 hj hy]
    simp
  rw [ht]
  exact ⟨_, _, _, rfl, hb'⟩

theorem own_open {w : World} {base : Nat} {v : Value} {n : Nat} {l : List Nat} (h : w.ownsRow base 5 1 v n (cellsOf l)) (hn : 0 < n) :
    ∃ g c, v = .slice (some ⟨g, 0, none⟩) n c ∧ n ≤ c ∧ c ≤ maxLen ∧ base ≤ g ∧ (∀ j, j < l.length → w.cell? ⟨g, j, none⟩ = some (.int .u8 (atB l j : Nat))) ∧ ∀ j, w.frozen? ⟨g, j, none⟩ = false := by
  rcases h.2 with ⟨_, h0⟩ | ⟨g, c, cur, rfl, hg, hh, hc, hm, _, _⟩
  · omega
  · refine ⟨g, c, rfl, hc, hm, hg, fun j hj => ?_, fun j => frozen_of_row w g j cur 5 hh⟩
    have := h.cells (g := g) rfl j _ (cellsOf_get hj)
    rw [Addr.add_lit, Nat.zero_add] at this
    exact this
theorem run_max2 (w : World) (ts : Array TypeId) (t : TypeId) (i j : Nat) (hj : max i 4 = j) :
    (Builtin.max_ ts t #[.int .i64 i, .int .i64 4]).run Try.prog w = .ok (.int .i64 (j : Int)) w := by
  simp only [Builtin.max_, List.foldlM_cons, List.foldlM_nil, Builtin.max2, pure_bind, Sem.run_pure, Result.ok.injEq, Value.int.injEq, true_and, and_true]
  split <;> omega

set_option maxRecDepth 100000 in
set_option maxHeartbeats 1600000 in
theorem back_any (k : Nat) (v u : Value) (l m : List Nat) (a y : Nat) (w : World) (hk : k < 256) (hv : Bytes w v l) (hu : Bytes w u m) (ha : a < 65536) (hy : y < 256) :
    Calls Try.prog 4 #[.int .u8 k, v, u, .int .u16 a, .int .u8 y] w fun e w' => e = .returned (.bool true) ∧ Below w.heap.size w w' := by
  obtain ⟨p, cap, hveq⟩ : ∃ p cap, v = .slice p l.length cap := let ⟨p, cap, h, _⟩ := hv.any; ⟨p, cap, h⟩
  obtain ⟨q, cup, hueq⟩ : ∃ p cap, u = .slice p m.length cap := let ⟨p, cap, h, _⟩ := hu.any; ⟨p, cap, h⟩
  subst hveq hueq
  have hm := hv.short
  have hm2 := hu.short
  unfold maxLen at hm hm2
  have HV := Lib.hid hv; clear hv
  have HU := Lib.hid hu; clear hu
  have HK := Lib.hid hk; clear hk
  have HA := Lib.hid ha; clear ha
  have HYY := Lib.hid hy; clear hy
  by_cases hl : l.length ≤ 200
  · by_cases hb : m.length ≤ 20
    · have hl' : (l.length : Int) ≤ 200 := by omega
      have hb' : (m.length : Int) ≤ 20 := by omega
      have HL := Lib.hid hl
      have HLB := Lib.hid hb
      clear hm hm2 hl hb
      obtain ⟨N, hN⟩ : ∃ N, 9 + l.length = N := ⟨_, rfl⟩
      obtain ⟨i, hi⟩ : ∃ i, a % N = i := ⟨_, rfl⟩
      obtain ⟨j, hj⟩ : ∃ j, max i 4 = j := ⟨_, rfl⟩
      have hiN : i < N := by rw [← hi]; exact Nat.mod_lt _ (by omega)
      have hjN : j < N := by omega
      have hj4 : 4 ≤ j := by omega
      have hN9 : 9 ≤ (N : Int) := by omega
      have hN209 : (N : Int) ≤ 209 := by omega
      have hNl : 9 + (l.length : Int) = N := by omega
      have HN := Lib.hid hN; have HI := Lib.hid hi; have HJ := Lib.hid hj; have HIN := Lib.hid hiN; have HJN := Lib.hid hjN; have HJ4 := Lib.hid hj4; have HNL := Lib.hid hNl
      have HRL : Hid ((recOf k l).length = N) := by unfold Hid; rw [recOf_length]; exact hN
      clear hN hi hj hiN hjN hj4 hNl
      go_enter Try.func4, Try.ntmps4
      go_wp2_with (go_at_call 6; refine (begun_any _).mono ?_; rintro e w1 ⟨rfl, hb1⟩)
      have HB1 := Lib.hid hb1; clear hb1
      go_wp2_with fail
      refine (put_lit k k _ l N w1 rfl HN.out HK.out (HV.out.below HB1.out) (by have := HL.out; omega)).mono ?_
      rintro e w2 ⟨p2, c2, rfl, hy2, hb2⟩
      have HR2 := Lib.hid hy2
      have HB2 : Hid (Below w.heap.size w w2) := HB1.out.trans (hb2.mono HB1.out.size)
      have hz2 := HB2.out.size
      clear hy2 hb2 HB1
      have hne := HNL.out
      go_wp2_with (at_builtin; first
        | (refine wpList_append_bytes rfl (.tmp 54) (.tmp 55) byT rfl w2.heap.size (.slice (some ⟨w2.heap.size, 0, none⟩) 0 0) 0 [] rfl (World.ownsRow_made w2 #[] 0 (Nat.le_refl _) (by decide) rfl) (.slice p2 N c2) (recOf k l) rfl (HR2.out.below ((Below.refl _ _).alloc (Nat.le_refl _) _)) (by rw [HRL.out]; omega) (by simp) ?_; intro v3 w3 hown3 hgrow3 _
           have HO3 := Lib.hid hown3; have HG3 := Lib.hid hgrow3; clear hown3 hgrow3)
        | (refine wpList_append_bytes rfl (.tmp 56) (.tmp 57) byT rfl w2.heap.size v3 (0 + (recOf k l).length) ([] ++ cellsOf (recOf k l)) rfl HO3.out (.slice q m.length cup) m rfl (HU.out.below ((HB2.out.alloc hz2 _).grown HG3.out (by simp; omega) (by simp [Value.ownBlock]; omega))) (by rw [HRL.out]; have := HLB.out; omega) (by have := HG3.out.size; simp at this; omega) ?_; intro v4 w4 hown4 hgrow4 _))
      have hb3 : Below w.heap.size w w3 := (HB2.out.alloc hz2 _).grown HG3.out (by simp; omega) (by simp [Value.ownBlock]; omega)
      have hb4 : Below w.heap.size w w4 := hb3.grown hgrow4 hb3.size (fun j hj => by have := (HO3.out.lt j hj).1; omega)
      have hb23 : Below w2.heap.size w2 w3 := ((Below.refl _ _).alloc (Nat.le_refl _) _).grown HG3.out (by simp) (by simp [Value.ownBlock])
      have hb24 : Below w2.heap.size w2 w4 := hb23.grown hgrow4 hb23.size (fun j hj => (HO3.out.lt j hj).1)
      have ho4 : w4.ownsRow w2.heap.size 5 1 v4 (recOf k l ++ m).length (cellsOf (recOf k l ++ m)) := by
        rw [List.length_append, cellsOf_append]
        rw [Nat.zero_add, List.nil_append] at hown4
        exact hown4
      obtain ⟨p4, c4, rfl⟩ := shape_of ho4
      have hy4 := Bytes.of_owns ho4 (by
        intro c hc
        rcases List.mem_append.1 hc with hc | hc
        · exact recOf_small HK.out HV.out.small c hc
        · exact HU.out.small c hc) (by rw [List.length_append, HRL.out]; have := HLB.out; unfold maxLen; omega)
      have HY4 := Lib.hid hy4
      have HB4 := Lib.hid hb4
      have HR4 := Lib.hid (HR2.out.below hb24)
      clear hb3 hb4 hb23 hb24 ho4 hy4 hown4 hgrow4 HO3 HG3 HR2 HB2 hz2 hne
      go_wp2_with fail
      refine (take_lit k N k l.length l m (recOf k l ++ m) _ w4 rfl rfl (by rw [HN.out]) rfl HK.out (by have := HL.out; omega) (by have := HLB.out; omega) HV.out.small HY4.out).mono ?_
      rintro e w5 ⟨p5, c5, rfl, hy5, hb5⟩
      have HB5 : Hid (Below w.heap.size w w5) := HB4.out.trans (hb5.mono HB4.out.size)
      have HR5 := Lib.hid (HR4.out.below hb5)
      have HY5 := Lib.hid hy5
      clear hy5 hb5 HB4 HR4 HY4
      have hr1 : Int.tmod (a : Int) N = i := by rw [Int.tmod_eq_emod_of_nonneg (by omega), ← HI.out]; omega
      have hr2 : (a : Int) % N = i := by rw [← HI.out]; omega
      have hw64 : wrap64 (a : Int) = a := IntWalk.wrap64_in _ (by have := HA.out; omega)
      have hup := upto_run p2 N c2 i (by have := HR5.out.room; have := HIN.out; omega)
      have hcut : isRec ((recOf k l).take i) = false := isRec_cut (by have := HL.out; omega) (by rw [HN.out]; exact HIN.out)
      have hyi : Bytes w5 (.slice p2 i c2) ((recOf k l).take i) := Bytes.upto (l := recOf k l) (n := i) (by rw [HRL.out]; exact HR5.out) (by rw [HRL.out]; exact Nat.le_of_lt HIN.out)
      have HNO := Lib.hid (take_none _ _ w5 (by rw [List.length_take, HRL.out]; omega) hcut hyi)
      clear hcut hyi
      go_wp2_with fail
      clear hup
      ((with_reducible refine HNO.out.mono ?_))
      rintro e w6 ⟨rfl, hb6⟩
      have HB6 : Hid (Below w.heap.size w w6) := HB5.out.trans (hb6.mono HB5.out.size)
      have HR6 := Lib.hid (HR5.out.below hb6)
      have HY6 := Lib.hid (HY5.out.below hb6)
      have hz6 := HB6.out.size
      clear hb6 HB5 HR5 HY5 HNO
      have hmx := fun w0 ts t => run_max2 w0 ts t i j HJ.out
      clear hr1 hr2 hw64
      go_wp2_with (at_builtin; refine wpList_append_bytes rfl (.tmp 78) (.tmp 79) byT rfl w6.heap.size (.slice (some ⟨w6.heap.size, 0, none⟩) 0 0) 0 [] rfl (World.ownsRow_made w6 #[] 0 (Nat.le_refl _) (by decide) rfl) (.slice p2 N c2) (recOf k l) rfl (HR6.out.below ((Below.refl _ _).alloc (Nat.le_refl _) _)) (by rw [HRL.out]; omega) (by simp) ?_; intro v7 w7 hown7 hgrow7 _
                   rw [Nat.zero_add, List.nil_append, HRL.out] at hown7
                   obtain ⟨g, c7, rfl, hc7, hm7, hg7, hcells, hfree⟩ := own_open hown7 (by omega)
                   have hcj := hcells j (by rw [HRL.out]; exact HJN.out)
                   have hfj := hfree j
                   have hb67 : Below w6.heap.size w6 w7 := ((Below.refl _ _).alloc (Nat.le_refl _) _).grown hgrow7 (by simp) (by simp [Value.ownBlock])
                   have HB7 := Lib.hid (HB6.out.trans (hb67.mono hz6))
                   have HY67 := HY6
                   have HB67 := Lib.hid hb67
                   have HST := Lib.hid (hown7.stored j (.int .u8 (atB (recOf k l) j ^^^ y : Nat)))
                   have e8 := bits_xor8 (atB (recOf k l) j) y (by rw [atB_of (by rw [HRL.out]; exact HJN.out)]; exact recOf_small HK.out HV.out.small _ (List.getElem_mem _)) HYY.out
                   have hj0 : (j : Int) < N := by have := HJN.out; omega
                   have HG7 := Lib.hid hg7
                   clear hown7 hgrow7 hcells hfree hb67 hm7 hc7 hg7)
      have hb67 := HB67.out
      have ho8 : (w7.setCell ⟨g, j, none⟩ (.int .u8 (atB (recOf k l) j ^^^ y : Nat))).ownsRow w6.heap.size 5 1 (.slice (some ⟨g, 0, none⟩) N c7) N (cellsOf ((recOf k l).set j (atB (recOf k l) j ^^^ y))) := by
        have := HST.out.1
        rw [cellsOf_set] at this
        exact this
      have hsm : ∀ c ∈ (recOf k l).set j (atB (recOf k l) j ^^^ y), c < 256 := by
        intro c hc
        rcases List.mem_or_eq_of_mem_set hc with hc | rfl
        · exact recOf_small HK.out HV.out.small c hc
        · refine Nat.xor_lt_two_pow (n := 8) ?_ HYY.out
          rw [atB_of (by rw [HRL.out]; exact HJN.out)]
          exact recOf_small HK.out HV.out.small _ (List.getElem_mem _)
      have hy8 := Bytes.of_owns ho8 hsm (by rw [List.length_set, HRL.out]; unfold maxLen; omega)
      have HB8 : Hid (Below w.heap.size w (w7.setCell ⟨g, j, none⟩ (.int .u8 (atB (recOf k l) j ^^^ y : Nat)))) := HB7.out.setCell (by show w.heap.size ≤ g; have := HG7.out; omega) _
      have HC := Lib.hid (take_turned k l j y _ _ HK.out (by have := HL.out; omega) HV.out.small HJ4.out (by rw [HN.out]; exact HJN.out) HYY.out hy8)
      have hk6 : Below w6.heap.size w7 (w7.setCell ⟨g, j, none⟩ (.int .u8 (atB (recOf k l) j ^^^ y : Nat))) := (Below.refl _ _).setCell HG7.out _
      have hY8 : Bytes (w7.setCell ⟨g, j, none⟩ (.int .u8 (atB (recOf k l) j ^^^ y : Nat))) (.slice p5 l.length c5) l := HY67.out.below (hb67.trans hk6)
      have hV8 : Bytes (w7.setCell ⟨g, j, none⟩ (.int .u8 (atB (recOf k l) j ^^^ y : Nat))) (.slice p l.length cap) l := (HV.out.below HB6.out).below (hb67.trans hk6)
      have HY8 := Lib.hid hY8
      have HV8 := Lib.hid hV8
      clear ho8 hsm hy8 hk6 hY8 hV8 hb67 hcj hfj
      generalize w7.setCell ⟨g, j, none⟩ (.int .u8 (atB (recOf k l) j ^^^ y : Nat)) = w8 at *
      refine HC.out.mono ?_
      rintro e w9 ⟨x, v9, n9, rfl, hb9⟩
      have HB9 : Hid (Below w.heap.size w w9) := HB8.out.trans (hb9.mono HB8.out.size)
      have c1 := (HY8.out.below hb9).toString byT (P := Try.prog) (d := 9) (by kernel_rfl)
      have c2' := (HV8.out.below hb9).toString byT (P := Try.prog) (d := 9) (by kernel_rfl)
      clear hb9 e8 hmx hj0
      by_cases hy0 : y = 0
      · have hyz : (y : Int) = 0 := by omega
        rw [if_pos hy0]
        clear hy0
        go_wp2
        go_ret
        exact ⟨rfl, HB9.out⟩
      · have hyz : ((y : Int) == 0) = false := beq_eq_false_iff_ne.2 (by omega)
        rw [if_neg hy0]
        clear hy0
        go_wp2
        go_ret
        exact ⟨rfl, HB9.out⟩
    · have hl' : (l.length : Int) ≤ 200 := by omega
      have hb' : ¬ (m.length : Int) ≤ 20 := by omega
      clear hl hb
      go_enter Try.func4, Try.ntmps4
      go_wp2_with (go_at_call 6; refine (begun_any _).mono ?_; rintro e w1 ⟨rfl, hb1⟩)
      have HB1 := Lib.hid hb1; clear hb1
      go_wp2
      go_ret
      exact ⟨rfl, HB1.out⟩
  · have hl' : ¬ (l.length : Int) ≤ 200 := by omega
    clear hl
    go_enter Try.func4, Try.ntmps4
    go_wp2_with (go_at_call 6; refine (begun_any _).mono ?_; rintro e w1 ⟨rfl, hb1⟩)
    have HB1 := Lib.hid hb1; clear hb1
    go_wp2
    go_ret
    exact ⟨rfl, HB1.out⟩

theorem u16_of_wf {a : Int} (h : (Lit.int .u16 a).wf = true) : ∃ n : Nat, a = n ∧ n < 65536 := by
  have h' : 0 ≤ a ∧ a ≤ 65535 := by simpa [Lit.wf, IntKind.min, IntKind.max, IntKind.signed, IntKind.bits] using h
  exact ⟨a.toNat, by omega, by omega⟩

set_option maxRecDepth 100000 in
theorem back_lifted (os : Os) (started : os.Started) (H : Type) (enc : TypeId × Value → H) :
    ReturnsInHanded {} Try.checked os 4 .any (Rows.recBackSpec.pre6 enc Try.prog Try.f4 Rows.recBackRow.domain false) (Rows.recBackSpec.post enc Try.prog Try.f4 false true false false) := by
  refine returnsInHanded_of_change (C := Try.checked) own_none started (by kernel_rfl) Try.func4
    (ChangeSpec.witness6 (enc := enc) (C := Try.checked) false ⟨#[], #[.int .u8 0, .slice none 0 0, .slice none 0 0, .int .u16 0, .int .u8 0], []⟩ 8 (by kernel_rfl) (by kernel_rfl) (by kernel_rfl) (by kernel_rfl)) ?_
  intro W base args ds gs before hval0 hW hcnd _
  have hval : ∀ (j : Nat) t v, Try.f4.params[j]? = some t → args[j]? = some v → Value.okWide Try.prog W .any base t v := hval0
  have hW' := hW
  obtain ⟨p, q, hA0, hV, rfl, hfz, hnd⟩ := hW
  have hA : DataW.TrodAll enc Try.prog W 0 (fun _ => true) true Try.f4.params.toList args.toList ds p := hA0
  have hp : Try.f4.params = #[5, 22, 22, 32, 5] := by kernel_rfl
  rw [hp] at hA hval
  obtain ⟨v0, vs0, d0, ds0, p0, q0, ha0, rfl, rfl, h0, hA⟩ := trodAll_cons hA
  obtain ⟨v1, vs1, d1, ds1, p1, q1, rfl, rfl, rfl, h1, hA⟩ := trodAll_cons hA
  obtain ⟨v2, vs2, d2, ds2, p2, q2, rfl, rfl, rfl, h2, hA⟩ := trodAll_cons hA
  obtain ⟨v3, vs3, d3, ds3, p3, q3, rfl, rfl, rfl, h3, hA⟩ := trodAll_cons hA
  obtain ⟨v4, vs4, d4, ds4, p4, q4, rfl, rfl, rfl, h4, hA⟩ := trodAll_cons hA
  obtain ⟨rfl, rfl, rfl⟩ := trodAll_nil hA
  obtain rfl : args = #[v0, v1, v2, v3, v4] := by cases args; simp_all
  obtain ⟨rfl, rfl⟩ := trodVars_none hV
  obtain ⟨a, rfl, _, _, wa⟩ := open_int (P := Try.prog) (t := 5) (k := .u8) (by kernel_rfl) (hval 0 5 v0 rfl rfl) h0
  obtain ⟨a, rfl, ha⟩ := u8_of_wf wa
  obtain ⟨l, hl⟩ := open_bytes byT (by kernel_rfl) (hval 1 22 v1 rfl rfl) h1
  obtain ⟨m, hm⟩ := open_bytes byT (by kernel_rfl) (hval 2 22 v2 rfl rfl) h2
  obtain ⟨b, rfl, _, _, wb⟩ := open_int (P := Try.prog) (t := 32) (k := .u16) (by kernel_rfl) (hval 3 32 v3 rfl rfl) h3
  obtain ⟨b, rfl, hb⟩ := u16_of_wf wb
  obtain ⟨y, rfl, _, _, wy⟩ := open_int (P := Try.prog) (t := 5) (k := .u8) (by kernel_rfl) (hval 4 5 v4 rfl rfl) h4
  obtain ⟨y, rfl, hy⟩ := u8_of_wf wy
  refine (back_any a v1 v2 l m b y W ha hl hm hb hy).mono fun e W' ⟨he, hb⟩ => ?_
  subst he
  exact ⟨_, rfl, law_post (tb := 4) laidOut (by rw [hp]; intro t ht; simp at ht; rcases ht with rfl | rfl | rfl | rfl <;> exact ⟨by kernel_rfl, by decide +kernel⟩) rfl rfl (by kernel_rfl) (by kernel_rfl) hW' hb⟩

theorem recBack_holds : Rows.RecBackSaid :=
  OpenClaim.holds_of_wide 4 Try.f4 rfl rfl rfl rfl rfl rfl rfl ⟨rfl, rfl, rfl, rfl, rfl⟩ rfl rfl rfl rfl rfl (by kernel_rfl) Try.func4 (by kernel_rfl)
    (of_decide_eq_true (by kernel_rfl)) (by unfold Func.isWrapper; rw [if_neg (by decide +kernel)]; exact ⟨rfl, rfl⟩)
    (fun os started H enc _ => back_lifted os started H enc)
end Go.Proofs.Ytjpcddgclimmgaa
