/- The law DiskCopies: whatever the bytes and what survives, every call of it returns true, and all that was there before the call is as it was. No condition. -/
import Derived.Test.YtobhhedggppneaaRows
import Derived.Test.YtobhhedggppneaaCpyB
import Derived.Test.YtobhhedggppneaaAbsM
import Derived.Test.YtobhhedggppneaaLaw
import Derived.Handy
namespace Go.Proofs.Ytobhhedggppneaa
open Go Go.ChangeShapes Go.WideShapes Go.ChangeAt Go.RowKit Go.By

theorem far_none {w w1 : World} (hb : Below w.heap.size w w1) {own : Own} (far : ∀ k r, own k = some r → w1.heap.size ≤ k) {x : Value} {l : List Nat} (hx : Bytes w x l) (hne : l ≠ []) (k : Nat) (hk : x.ownBlock = some k) : own k = none := by
  cases hr : own k with
  | none => rfl
  | some r =>
    have h1 := far k r hr
    have h2 := hb.size
    have h3 : k < w.heap.size := by
      rcases hx.out with ⟨_, e⟩ | ⟨_, _, e⟩ | ⟨g, o, c, e, _, hc⟩
      · exact absurd e hne
      · exact absurd e hne
      · rw [e] at hk
        cases hk
        exact block_lt_of_cell (hc 0 (List.length_pos_iff.2 hne))
    omega
theorem Left1.small {W w : World} {i a : Nat} {K0 S : List Nat} {ws : List (Nat × List Nat)} {own : Own} {D : DiskA} (h : Left1 W i a K0 S ws own D w) : ∀ c ∈ S, c < 256 := by
  obtain ⟨ms, mk, mf, lv, _, h2⟩ := h.disk.out
  have hin := h.ok.seenIn fF 1 (by rw [h.seen]; rfl)
  obtain ⟨fb, hfb⟩ := Option.isSome_iff_exists.1 hin
  obtain ⟨⟨sv, kv, lv', cs, _, r2, _⟩, _⟩ := h2.each 1 fb hfb
  have := r2.small
  rw [h.one] at this
  exact this
theorem owns_steps {w w' : World} {own own' : Own} {B n : Nat} {v : Value} {xs : List Value} (h : w.ownsRow B 5 1 v n xs) (hs : Steps own own' w w') (hn : ∀ k, B ≤ k → own k = none) : w'.ownsRow B 5 1 v n xs :=
  ownsRow_of_heap h fun k hk => hs.block k (h.lt k hk).2 (.inl (hn k (h.lt k hk).1))
theorem none_of_here {w : World} {own : Own} (h : ∀ k r, own k = some r → k < w.heap.size) {B : Nat} (hB : w.heap.size ≤ B) (k : Nat) (hk : B ≤ k) : own k = none := by
  cases hr : own k with
  | none => rfl
  | some r => have := h k r hr; omega

set_option maxRecDepth 100000 in
set_option maxHeartbeats 4000000 in
theorem copies_any (hbeg : ∀ w, Calls Try.prog 7 #[] w fun e w' => e = .returned (.bool true) ∧ Below w.heap.size w w') (v u : Value) (b bits : List Nat) (w : World) (hv : Bytes w v b) (hu : Bytes w u bits) :
    Calls Try.prog 6 #[v, u] w fun e w' => e = .returned (.bool true) ∧ Below w.heap.size w w' := by
  obtain ⟨p, cap, hveq⟩ : ∃ p cap, v = .slice p b.length cap := let ⟨p, cap, h, _⟩ := hv.any; ⟨p, cap, h⟩
  obtain ⟨q, cup, hueq⟩ : ∃ p cap, u = .slice p bits.length cap := let ⟨p, cap, h, _⟩ := hu.any; ⟨p, cap, h⟩
  subst hveq hueq
  have hm := hv.short
  have hm2 := hu.short
  unfold maxLen at hm hm2
  have HV := Lib.hid hv; have HU := Lib.hid hu; have HBG := Lib.hid hbeg
  clear hv hu hbeg
  by_cases hb : b.length ≤ 300
  · by_cases ht : bits.length ≤ 20
    · have hb' : (b.length : Int) ≤ 300 := by omega
      have ht' : (bits.length : Int) ≤ 20 := by omega
      have HB300 := Lib.hid hb
      clear hm hm2 hb ht
      go_enter Try.func6, Try.ntmps6
      go_wp2_with (go_at_call 7; refine (HBG.out _).mono ?_; rintro e w1 ⟨rfl, hb1⟩)
      have HB1 := Lib.hid hb1; clear hb1 HBG
      go_wp2_with fail
      refine (new_any 1000 w1).mono ?_
      rintro e w2 ⟨rfl, hd2, hb2⟩
      have HCR := Lib.hid (SyD.start (W := w1) hd2 (fun k r hk => by
        have hk' : (if k = w1.heap.size then some Role.disk else none) = some r := hk
        split at hk'
        · omega
        · cases hk') hb2)
      clear hd2 hb2
      go_wp2_with fail
      refine HCR.out.mono ?_
      rintro e w3 ⟨rfl, own3, D3, hs3⟩
      have HSD := Lib.hid (hs3.syncDir (by omega))
      clear hs3 HCR
      go_wp2_with fail
      refine HSD.out.mono ?_
      rintro e w4 ⟨rfl, own4, D4, _, hs4⟩
      have HWR := Lib.hid (hs4.write (by omega) (off := 0) (by omega) ((HV.out.below HB1.out).below hs4.below) HB300.out (fun hne k hk => .inl (far_none HB1.out hs4.far HV.out hne k hk)))
      clear hs4 HSD
      go_wp2_with fail
      refine HWR.out.mono ?_
      rintro e w5 ⟨rfl, own5, D5, _, hs5⟩
      have HS5 := Lib.hid hs5
      clear hs5 HWR
      have HCP := Lib.hid (HS5.out.copy (by omega) (by simp))
      go_wp2_with fail
      refine HCP.out.mono ?_
      rintro e w6 ⟨rfl, hd6, ownc, Dc, hc6, r1, r2⟩
      obtain ⟨cb, hcb⟩ : ∃ cb, cb = w5.heap.size := ⟨_, rfl⟩
      rw [← hcb] at hc6 ⊢
      have HD6 := Lib.hid hd6; have HC6 := Lib.hid hc6
      have AP6 : Hid (Apart ownc own5) := ⟨r1, r2⟩
      clear hd6 hc6 r1 r2 hcb HCP HS5
      go_wp2_with fail
      have BW6 : Below w.heap.size w w6 := HB1.out.trans (HD6.out.below.mono HB1.out.size)
      have HK7 := Lib.hid (HD6.out.crash (by omega) (by simp) (HU.out.below BW6) (fun hne k hk => far_none HB1.out HD6.out.far HU.out hne k hk))
      clear BW6
      refine HK7.out.mono ?_
      rintro e w7 ⟨rfl, own7, D7, hs7, hl7⟩
      have HC7 := Lib.hid (HC6.out.beside hs7 AP6.out.one hl7.below)
      have AP7 : Hid (Apart ownc own7) := AP6.out.step hs7 HC6.out.disk.here
      have HL7 := Lib.hid hl7
      clear hs7 hl7 HK7 HC6 HD6 AP6
      have BW7 : Below w.heap.size w w7 := HB1.out.trans (HL7.out.below.mono HB1.out.size)
      have HK8 := Lib.hid (HC7.out.crash (by omega) (by simp) (HU.out.below BW7) (fun hne k hk => far_none HB1.out HC7.out.far HU.out hne k hk))
      clear BW7
      go_wp2_with fail
      refine HK8.out.mono ?_
      rintro e w8 ⟨rfl, own8, D8, hs8, hl8⟩
      have HL78 := Lib.hid (HL7.out.beside hs8 AP7.out.two hl8.below)
      have AP8 : Hid (Apart own7 own8) := AP7.out.symm.step hs8 HL7.out.disk.here
      have HL8 := Lib.hid hl8
      clear hs8 hl8 HK8 HC7 HL7 AP7
      generalize hS : (redoOps (drawBit bits) (writeOps (nextWs [] 0 b)) 0 []).1 = S at *
      have hS300 : (S.length : Int) ≤ 300 := by have := HL8.out.most; omega
      clear hS
      go_wp2_with fail
      refine (HL78.out.size).mono ?_
      rintro e w8' ⟨rfl, rfl⟩
      go_wp2_with fail
      refine (HL8.out.size).mono ?_
      rintro e w8' ⟨rfl, rfl⟩
      go_wp2_with fail
      refine (HL78.out.read (by omega)).mono ?_
      rintro e w9 ⟨x, rfl, ox, hbw9, hs9, D9, hl9⟩
      obtain ⟨p9, c9, rfl⟩ := owns_slice ox
      have HL89 := Lib.hid (HL8.out.beside hs9 AP8.out.two hbw9)
      have HN8 : Hid (∀ k, w8.heap.size ≤ k → own8 k = none) := none_of_here HL8.out.disk.here (Nat.le_refl _)
      have HN7 : Hid (∀ k, w8.heap.size ≤ k → own7 k = none) := none_of_here HL78.out.disk.here (Nat.le_refl _)
      have HZ9 : Hid (w8.heap.size ≤ w9.heap.size) := hs9.size
      have HL9 := Lib.hid hl9
      have OX := Lib.hid ox
      clear hl9 ox hbw9 hs9 HL8 HL78
      go_wp2_with fail
      refine (HL89.out.read (by omega)).mono ?_
      rintro e w10 ⟨y, rfl, oy, hbw10, hs10, D10, hl10⟩
      obtain ⟨p10, c10, rfl⟩ := owns_slice oy
      have HL910 := Lib.hid (HL9.out.beside hs10 AP8.out.one hbw10)
      have OX10 := Lib.hid (owns_steps OX.out hs10 HN8.out)
      have OY := Lib.hid oy
      have HL10 := Lib.hid hl10
      clear hl10 oy hbw10 hs10 HL89 HL9 OX
      go_wp2_with fail
      refine (remove_any own7 _ D9 fF w10 HL910.out.disk HL910.out.ok (by have := HL910.out.ops; omega) (by rw [HL910.out.left]; omega) (by decide) (by rw [HL910.out.used]; omega) (fun n => by have := HL910.out.others n; omega) (by rw [HL910.out.laid]; decide)).mono ?_
      rintro e w11 ⟨⟨z, rfl⟩, own11, hs11⟩
      have hb11 : Below w1.heap.size w1 w11 := HL910.out.below.trans (hs11.below HL910.out.below.size HL910.out.far)
      have HLC := Lib.hid (HL10.out.beside hs11 AP8.out.two hb11)
      have hz9 := HZ9.out
      have ox11 := owns_steps OX10.out hs11 HN7.out
      have oy11 := owns_steps OY.out hs11 (fun k hk => HN7.out k (by omega))
      have hsm := HLC.out.small
      have hsl : S.length ≤ maxLen := by unfold maxLen; omega
      have x1 := (Bytes.of_owns ox11 hsm hsl).toString bytesT (P := Try.prog) (d := 9) (by kernel_rfl)
      have x2 := (Bytes.of_owns oy11 hsm hsl).toString bytesT (P := Try.prog) (d := 9) (by kernel_rfl)
      have HB11 : Hid (Below w.heap.size w w11) := HB1.out.trans (hb11.mono HB1.out.size)
      have hops : (D10.ops : Int) = 4 := by have := HLC.out.ops; omega
      have HOPS := Lib.hid hops
      clear hs11 hb11 ox11 oy11 hsm hsl hz9 hops HL10 HL910 OX10 OY HN7 HN8 AP8 HZ9
      go_wp2_with fail
      refine (HLC.out.size).mono ?_
      rintro e w11' ⟨rfl, rfl⟩
      have HO := Lib.hid (ops_any own8 _ D10 w11 HLC.out.disk)
      rw [HOPS.out] at HO
      go_wp2_with fail
      refine HO.out.mono ?_
      rintro e w11' ⟨rfl, rfl⟩
      clear x1 x2
      go_wp2
      go_ret
      exact ⟨rfl, HB11.out⟩
    · have hb' : (b.length : Int) ≤ 300 := by omega
      have ht' : ¬ (bits.length : Int) ≤ 20 := by omega
      clear hb ht
      go_enter Try.func6, Try.ntmps6
      go_wp2_with (go_at_call 7; refine (HBG.out _).mono ?_; rintro e w1 ⟨rfl, hb1⟩)
      have HB1 := Lib.hid hb1; clear hb1
      go_wp2
      go_ret
      exact ⟨rfl, HB1.out⟩
  · have hb' : ¬ (b.length : Int) ≤ 300 := by omega
    clear hb
    go_enter Try.func6, Try.ntmps6
    go_wp2_with (go_at_call 7; refine (HBG.out _).mono ?_; rintro e w1 ⟨rfl, hb1⟩)
    have HB1 := Lib.hid hb1; clear hb1
    go_wp2
    go_ret
    exact ⟨rfl, HB1.out⟩
end Go.Proofs.Ytobhhedggppneaa
namespace Go.Proofs.Ytobhhedggppneaa
open Go Go.ChangeShapes Go.WideShapes Go.ChangeAt Go.RowKit Go.By
theorem own_none : ownKnob Try.prog.godebug = none := by kernel_rfl
theorem laidOut : laidOutB Try.prog = true := by kernel_rfl

set_option maxRecDepth 100000 in
theorem copies_lifted (os : Os) (started : os.Started) (H : Type) (enc : TypeId × Value → H) :
    ReturnsInHanded {} Try.checked os 6 .any (Rows.diskCopiesSpec.pre6 enc Try.prog Try.f6 Rows.diskCopiesRow.domain false) (Rows.diskCopiesSpec.post enc Try.prog Try.f6 false true false false) := by
  refine returnsInHanded_of_change (C := Try.checked) own_none started (by kernel_rfl) Try.func6
    (ChangeSpec.witness6 (enc := enc) (C := Try.checked) false ⟨#[], #[.slice none 0 0, .slice none 0 0], []⟩ 8 (by kernel_rfl) (by kernel_rfl) (by kernel_rfl) (by kernel_rfl)) ?_
  intro W base args ds gs before hval0 hW hcnd _
  have hval : ∀ (j : Nat) t v, Try.f6.params[j]? = some t → args[j]? = some v → Value.okWide Try.prog W .any base t v := hval0
  have hW' := hW
  obtain ⟨p, q, hA0, hV, rfl, hfz, hnd⟩ := hW
  have hA : DataW.TrodAll enc Try.prog W 0 (fun _ => true) true Try.f6.params.toList args.toList ds p := hA0
  have hp : Try.f6.params = #[23, 23] := by kernel_rfl
  rw [hp] at hA hval
  obtain ⟨v0, vs0, d0, ds0, p0, q0, ha0, rfl, rfl, h0, hA⟩ := trodAll_cons hA
  obtain ⟨v1, vs1, d1, ds1, p1, q1, rfl, rfl, rfl, h1, hA⟩ := trodAll_cons hA
  obtain ⟨rfl, rfl, rfl⟩ := trodAll_nil hA
  obtain rfl : args = #[v0, v1] := by cases args; simp_all
  obtain ⟨rfl, rfl⟩ := trodVars_none hV
  obtain ⟨b, hb⟩ := open_bytes (P := Try.prog) bytesT (by kernel_rfl) (hval 0 23 v0 rfl rfl) h0
  obtain ⟨bits, hbits⟩ := open_bytes (P := Try.prog) bytesT (by kernel_rfl) (hval 1 23 v1 rfl rfl) h1
  refine (copies_any (fun w => Go.Abs.begun_any w) v0 v1 b bits W hb hbits).mono fun e W' ⟨he, hb⟩ => ?_
  subst he
  exact ⟨_, rfl, law_post (tb := 4) laidOut (by rw [hp]; intro t ht; simp at ht; rcases ht with rfl | rfl <;> exact ⟨by kernel_rfl, by decide +kernel⟩) rfl rfl (by kernel_rfl) (by kernel_rfl) hW' hb⟩

theorem diskCopies_holds : Rows.DiskCopiesSaid :=
  OpenClaim.holds_of_wide 6 Try.f6 rfl rfl rfl rfl rfl rfl rfl ⟨rfl, rfl, rfl, rfl, rfl⟩ rfl rfl rfl rfl rfl (by kernel_rfl) Try.func6 (by kernel_rfl)
    (of_decide_eq_true (by kernel_rfl)) (by unfold Func.isWrapper; rw [if_neg (by decide +kernel)]; exact ⟨rfl, rfl⟩)
    (fun os started H enc _ => copies_lifted os started H enc)
end Go.Proofs.Ytobhhedggppneaa
