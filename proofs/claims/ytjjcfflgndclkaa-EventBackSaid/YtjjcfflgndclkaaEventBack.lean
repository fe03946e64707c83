/- The law EventBack: whatever the event, the place and the byte, every call of it returns true, and all that was there before the call is as it was. No condition. -/
import Derived.Test.YtjjcfflgndclkaaRows
import Derived.Test.YtjjcfflgndclkaaEvI
import Derived.Test.YtjjcfflgndclkaaEvO
import Derived.ChangeMaps5
namespace Go.Proofs.Ytjjcfflgndclkaa
open Go Go.ChangeShapes Go.WideShapes Go.ChangeAt Go.RowKit Go.By

set_option maxRecDepth 100000 in
set_option maxHeartbeats 4000000 in
theorem eventBack_any {w : World} {x : Value} {e : Ev} {q r : Int} {s t : ByteArray} {v : Value} (h : IsEv w x e q r s t v) (cut more : Nat) (hcut : cut < 65536) (hmore : more < 256) :
    Calls Try.prog 4 #[x, .int .u16 cut, .int .u8 more] w fun z w' => z = .returned (.bool true) ∧ Below w.heap.size w w' := by
  have hx := h.val
  have hfine := h.fine
  have hs := h.s63
  have ht := h.t63
  have hd := h.da.short
  unfold maxLen at hs ht hd
  have he := h.ev
  obtain ⟨p, cap, rfl, _⟩ := h.da.any
  unfold evVal at hx
  subst hx
  obtain ⟨W, hW⟩ : ∃ W, W = w.alloc (.cells #[.int .i64 q, .string s, .int .i64 r, .string t, .slice p e.da.length cap] 24) := ⟨_, rfl⟩
  have hb : Below w.heap.size w W := by rw [hW]; exact (Below.refl w.heap.size w).alloc (Nat.le_refl _) _
  have hE : EvAt W w.heap.size q r s t (.slice p e.da.length cap) := by rw [hW]; exact EvAt.new ..
  have HI := Lib.hid (h.below hb); have HB := Lib.hid hb; have HE := Lib.hid hE; have HW := Lib.hid hW
  have HFI := Lib.hid hfine
  have HEV := Lib.hid he
  clear hb hE hW h hfine he
  go_enter Try.func4, Try.ntmps4
  go_wp2_with fail
  rw [← HW.out]
  clear HW
  refine (begun_any W).mono ?_
  rintro z w1 ⟨rfl, hb1⟩
  have HI1 := Lib.hid (HI.out.below hb1); have HE1 := Lib.hid (HE.out.below hb1)
  have HB1 : Hid (Below w.heap.size w w1) := HB.out.trans (hb1.mono HB.out.size)
  clear hb1 HI HE HB
  obtain ⟨c0, c1, c2, c3, c4⟩ := HE1.out.cells
  go_wp2_with fail
  refine (may_any HI1.out).mono ?_
  rintro z w2 ⟨rfl, hb2⟩
  have HI2 := Lib.hid (HI1.out.below hb2); have HE2 := Lib.hid (HE1.out.below hb2)
  have HB2 : Hid (Below w.heap.size w w2) := HB1.out.trans (hb2.mono HB1.out.size)
  clear hb2 HI1 HE1 HB1 c0 c1 c2 c3 c4
  obtain ⟨c0, c1, c2, c3, c4⟩ := HE2.out.cells
  cases hm : mayEv e with
  | false =>
    have E : Hid (putEv e = []) := by unfold Hid putEv; rw [hm]; rfl
    clear hm
    go_wp2_with fail
    refine (put_any HI2.out).mono ?_
    rintro z w3 ⟨v3, rfl, ho3, hb3⟩
    rw [E.out] at ho3
    obtain ⟨p3, c3', rfl⟩ := ho3.shape
    have HB3 : Hid (Below w.heap.size w w3) := HB2.out.trans (hb3.mono HB2.out.size)
    clear ho3 hb3 c0 c1 c2 c3 c4
    go_wp2
    go_ret
    exact ⟨rfl, HB3.out⟩
  | true =>
    have E : Hid (putEv e = evOf e) := by unfold Hid putEv; rw [hm]; rfl
    have HM := Lib.hid hm
    obtain ⟨_, _, hms, hmt, hda⟩ := (mayEv_iff e).1 hm
    have he := HEV.out
    have hls := mayNm_length hms
    have hlt := mayNm_length hmt
    rw [he] at hls hlt
    dsimp only at hls hlt
    rw [natsOf_length] at hls hlt
    have hN : (evOf e).length = 19 + s.size + t.size + e.da.length := by
      rw [evOf_length, he]
      dsimp only
      rw [natsOf_length, natsOf_length]
    have hDL := hda
    generalize hLd : e.da.length = L at *
    have HLD := Lib.hid hLd
    have hs1 : (s.size : Int) ≤ 16 := by omega
    have ht1 : (t.size : Int) ≤ 16 := by omega
    have hL1 : (L : Int) ≤ 100 := by omega
    clear hm hms hmt hda hls hlt hLd he hDL hs ht hd
    go_wp2_with fail
    refine (put_any HI2.out).mono ?_
    rintro z w3 ⟨v3, rfl, ho3, hb3⟩
    rw [E.out] at ho3
    obtain ⟨p3, cap3, rfl⟩ := ho3.shape
    have hy3 := ho3.bytes (evOf_small HFI.out HM.out)
    obtain ⟨N, hNN⟩ : ∃ N, N = (evOf e).length := ⟨_, rfl⟩
    rw [← hNN] at hy3 hN ⊢
    have hNi : (N : Int) = 19 + s.size + t.size + L := by omega
    have HY3 := Lib.hid hy3
    have HNN := Lib.hid hNN
    have HI3 := Lib.hid (HI2.out.below hb3); have HE3 := Lib.hid (HE2.out.below hb3)
    have HB3 : Hid (Below w.heap.size w w3) := HB2.out.trans (hb3.mono HB2.out.size)
    clear hb3 HI2 HE2 HB2 c0 c1 c2 c3 c4 hy3 ho3 hN hNN
    obtain ⟨c0, c1, c2, c3, c4⟩ := HE3.out.cells
    go_wp2_with fail
    refine (take_any _ (evOf e) w3 HY3.out).mono ?_
    intro z w4 ht4
    obtain ⟨q4, r4, s4, t4, p4, cap4, rfl, hi4, hb4⟩ := tells_put HFI.out HM.out ht4
    rw [HLD.out] at hi4 ⊢
    obtain ⟨W4, hW4⟩ : ∃ W, W = w4.alloc (.cells #[.int .i64 q4, .string s4, .int .i64 r4, .string t4, .slice p4 L cap4] 24) := ⟨_, rfl⟩
    have hb44 : Below w4.heap.size w4 W4 := by rw [hW4]; exact (Below.refl _ _).alloc (Nat.le_refl _) _
    have hb34 : Below w3.heap.size w3 W4 := hb4.trans (hb44.mono hb4.size)
    have HN4 : Hid (EvAt W4 w4.heap.size q4 r4 s4 t4 (.slice p4 L cap4)) := by unfold Hid; rw [hW4]; exact EvAt.new ..
    have HJ4 := Lib.hid (hi4.below hb44)
    have HI4 := Lib.hid (HI3.out.below hb34); have HE4 := Lib.hid (HE3.out.below hb34)
    have HB4 : Hid (Below w.heap.size w W4) := HB3.out.trans (hb34.mono HB3.out.size)
    have HY4 := Lib.hid (HY3.out.below hb34)
    have HW4 := Lib.hid hW4
    have hN0 : (0 : Int) < N := by omega
    have hN1 : (N : Int) ≤ 151 := by omega
    have HNI := Lib.hid hNi
    obtain ⟨k, hk⟩ : ∃ k, k = cut % N := ⟨_, rfl⟩
    have hkN : k < N := by rw [hk]; exact Nat.mod_lt _ (by omega)
    have hki : (cut : Int) % (N : Int) = k := by rw [hk]; exact (Int.natCast_emod ..).symm
    have hsl := fun w => upto_runI p3 N cap3 k (k : Int) rfl (by have := HY4.out.room.2; omega) w
    have HKN := Lib.hid hkN
    clear hi4 hb4 hb44 hb34 hW4 ht4 HI3 HE3 HB3 HY3 c0 c1 c2 c3 c4 hk hNi
    have hcut1 : (cut : Int) < 65536 := by omega
    have hkn : (k : Int) < N := by omega
    clear hkN
    go_wp2_with fail
    rw [← HW4.out]
    clear HW4 hsl
    have hcutn : takeEv ((evOf e).take k) = none := takeEv_cut HFI.out HM.out (by rw [← HNN.out]; exact HKN.out)
    have hyk : Bytes W4 (.slice p3 k cap3) ((evOf e).take k) := Bytes.upto (l := evOf e) (n := k) (by rw [← HNN.out]; exact HY4.out) (by rw [← HNN.out]; exact Nat.le_of_lt HKN.out)
    refine (take_any _ _ W4 hyk).mono ?_
    intro z w5 ht5
    obtain ⟨rfl, hb5⟩ := tells_none hcutn ht5
    have hb55 : Below w5.heap.size w5 (w5.alloc (.cells #[.int .i64 0, .string ⟨#[]⟩, .int .i64 0, .string ⟨#[]⟩, .slice none 0 0] 24)) := (Below.refl _ _).alloc (Nat.le_refl _) _
    have hb45 := hb5.trans (hb55.mono hb5.size)
    have HB5 : Hid (Below w.heap.size w (w5.alloc (.cells #[.int .i64 0, .string ⟨#[]⟩, .int .i64 0, .string ⟨#[]⟩, .slice none 0 0] 24))) := HB4.out.trans (hb45.mono HB4.out.size)
    have HJ5 := Lib.hid (HJ4.out.below hb45)
    have HI5 := Lib.hid (HI4.out.below hb45); have HE5 := Lib.hid (HE4.out.below hb45); have HN5 := Lib.hid (HN4.out.below hb45)
    have HY5 := Lib.hid (HY4.out.below hb45)
    have hown : ((w5.alloc (.cells #[.int .i64 0, .string ⟨#[]⟩, .int .i64 0, .string ⟨#[]⟩, .slice none 0 0] 24)).alloc (.cells #[] 5)).ownsRow (w5.heap.size + 1) 5 1 (.slice (some ⟨w5.heap.size + 1, 0, none⟩) 0 0) 0 [] := by
      have := World.ownsRow_made (base := w5.heap.size + 1) (size := 1) (e := 5) (w5.alloc (.cells #[.int .i64 0, .string ⟨#[]⟩, .int .i64 0, .string ⟨#[]⟩, .slice none 0 0] 24)) #[] 0 (by simp) (by decide) rfl
      rw [World.size_alloc] at this
      exact this
    have hbo : Below (w5.heap.size + 1) (w5.alloc (.cells #[.int .i64 0, .string ⟨#[]⟩, .int .i64 0, .string ⟨#[]⟩, .slice none 0 0] 24)) ((w5.alloc (.cells #[.int .i64 0, .string ⟨#[]⟩, .int .i64 0, .string ⟨#[]⟩, .slice none 0 0] 24)).alloc (.cells #[] 5)) := (Below.refl _ _).alloc (by simp) _
    have hyo : Bytes ((w5.alloc (.cells #[.int .i64 0, .string ⟨#[]⟩, .int .i64 0, .string ⟨#[]⟩, .slice none 0 0] 24)).alloc (.cells #[] 5)) (.slice p3 N cap3) (evOf e) := HY5.out.below ((Below.refl _ _).alloc (Nat.le_refl _) _)
    have HO5 := Lib.hid hown; have HBO := Lib.hid hbo; have HYO := Lib.hid hyo
    clear hcutn hyk ht5 hb5 hb55 hb45 HJ4 HI4 HE4 HN4 HY4 HB4 hown hbo hyo hki hcut1 hkn
    go_wp2_with (at_builtin; first
      | (go_loud (refine wpList_append_bytes rfl (.tmp 57) (.tmp 58) byT rfl (w5.heap.size + 1) (.slice (some ⟨w5.heap.size + 1, 0, none⟩) 0 0) 0 [] rfl HO5.out (.slice p3 N cap3) (evOf e) rfl HYO.out (by rw [← HNN.out]; omega) (by simp) ?_); intro v6 w6 hown6 hgrow6 _
         have hb6 : Below (w5.heap.size + 1) (w5.alloc (.cells #[.int .i64 0, .string ⟨#[]⟩, .int .i64 0, .string ⟨#[]⟩, .slice none 0 0] 24)) w6 := HBO.out.grown hgrow6 (by simp) (fun j hj => (HO5.out.lt j hj).1)
         have ho6 : w6.ownsRow (w5.heap.size + 1) 5 1 v6 (evOf e).length (cellsOf (evOf e)) := by
           rw [Nat.zero_add, List.nil_append] at hown6
           exact hown6
         obtain ⟨p6, c6, rfl⟩ := shape_of ho6
         have hz6 := hb6.size
         simp only [World.size_alloc] at hz6
         have hm6 : Bytes (w6.alloc (.cells #[.int .u8 (more : Nat)] 5)) (.slice (some ⟨w6.heap.size, 0, none⟩) 1 1) [more] := Bytes.lit [more] rfl rfl (by simp; omega) (by simp [maxLen])
         have HO6 := Lib.hid ho6; have HB6 := Lib.hid hb6; have HZ6 := Lib.hid hz6; have HM6 := Lib.hid hm6
         clear hown6 hgrow6 hb6 ho6 hz6 hm6)
      | (go_loud (refine wpList_append_bytes rfl (.tmp 59) (.tmp 61) byT rfl (w5.heap.size + 1) (.slice p6 (evOf e).length c6) (evOf e).length (cellsOf (evOf e)) rfl (HO6.out.alloc _) (.slice (some ⟨w6.heap.size, 0, none⟩) 1 1) [more] rfl HM6.out (by rw [← HNN.out]; simp; omega) (by have := HZ6.out; simp; omega) ?_); intro v7 w7 hown7 hgrow7 _))
    have hb7 : Below (w5.heap.size + 1) (w5.alloc (.cells #[.int .i64 0, .string ⟨#[]⟩, .int .i64 0, .string ⟨#[]⟩, .slice none 0 0] 24)) w7 := (HB6.out.alloc (by have := HZ6.out; omega) _).grown hgrow7 (by have := HZ6.out; simp; omega) (fun j hj => (HO6.out.lt j hj).1)
    have ho7 : w7.ownsRow (w5.heap.size + 1) 5 1 v7 (evOf e ++ [more]).length (cellsOf (evOf e ++ [more])) := by
      rw [List.length_append, cellsOf_append]; exact hown7
    have hy7 : Bytes w7 v7 (evOf e ++ [more]) := owns_bytes ho7 (by
      intro c hc
      rcases List.mem_append.1 hc with hc | hc
      · exact evOf_small HFI.out HM.out c hc
      · simp at hc; omega) (by rw [List.length_append, ← HNN.out]; unfold maxLen; simp; omega)
    obtain ⟨p7, c7, rfl⟩ := shape_of ho7
    have HY7 := Lib.hid hy7
    have hb57 : Below (w5.alloc (.cells #[.int .i64 0, .string ⟨#[]⟩, .int .i64 0, .string ⟨#[]⟩, .slice none 0 0] 24)).heap.size (w5.alloc (.cells #[.int .i64 0, .string ⟨#[]⟩, .int .i64 0, .string ⟨#[]⟩, .slice none 0 0] 24)) w7 := hb7.mono (by simp)
    have HB7 : Hid (Below w.heap.size w w7) := HB5.out.trans (hb57.mono HB5.out.size)
    have HJ7 := Lib.hid (HJ5.out.below hb57)
    have HI7 := Lib.hid (HI5.out.below hb57); have HE7 := Lib.hid (HE5.out.below hb57); have HN7 := Lib.hid (HN5.out.below hb57)
    clear hb7 ho7 hy7 hb57 hown7 hgrow7 HJ5 HI5 HE5 HN5 HY5 HB5 HO6 HB6 HZ6 HM6 HO5 HBO HYO
    go_wp2_with fail
    refine (take_any _ (evOf e ++ [more]) w7 HY7.out).mono ?_
    intro z w8 ht8
    obtain ⟨rfl, hb8⟩ := tells_none (takeEv_more e (by simp)) ht8
    have hb88 : Below w8.heap.size w8 (w8.alloc (.cells #[.int .i64 0, .string ⟨#[]⟩, .int .i64 0, .string ⟨#[]⟩, .slice none 0 0] 24)) := (Below.refl _ _).alloc (Nat.le_refl _) _
    have hb78 := hb8.trans (hb88.mono hb8.size)
    have HB8 : Hid (Below w.heap.size w (w8.alloc (.cells #[.int .i64 0, .string ⟨#[]⟩, .int .i64 0, .string ⟨#[]⟩, .slice none 0 0] 24))) := HB7.out.trans (hb78.mono HB7.out.size)
    have HJ8 := Lib.hid (HJ7.out.below hb78)
    have HI8 := Lib.hid (HI7.out.below hb78); have HE8 := Lib.hid (HE7.out.below hb78); have HN8 := Lib.hid (HN7.out.below hb78)
    clear ht8 hb8 hb88 hb78 HB7 HJ7 HI7 HE7 HN7 HY7
    obtain ⟨c0, c1, c2, c3, c4⟩ := HE8.out.cells
    obtain ⟨d0, d1, d2, d3, d4⟩ := HN8.out.cells
    go_wp2_with fail
    refine (same_any HI8.out HJ8.out).mono ?_
    rintro z w9 ⟨rfl, hb9⟩
    rw [decide_eq_true (rfl : e = e)]
    have HB9 : Hid (Below w.heap.size w w9) := HB8.out.trans (hb9.mono HB8.out.size)
    have HJ9 := Lib.hid (HJ8.out.below hb9)
    have HI9 := Lib.hid (HI8.out.below hb9); have HE9 := Lib.hid (HE8.out.below hb9); have HN9 := Lib.hid (HN8.out.below hb9)
    clear hb9 HB8 HJ8 HI8 HE8 HN8 c0 c1 c2 c3 c4 d0 d1 d2 d3 d4
    obtain ⟨c0, c1, c2, c3, c4⟩ := HE9.out.cells
    obtain ⟨d0, d1, d2, d3, d4⟩ := HN9.out.cells
    go_wp2_with fail
    refine (refSame_any HI9.out HJ9.out).mono ?_
    rintro z w10 ⟨rfl, hb10⟩
    rw [decide_eq_true (rfl : e = e)]
    have HB10 : Hid (Below w.heap.size w w10) := HB9.out.trans (hb10.mono HB9.out.size)
    clear hb10 HB9 HJ9 HI9 HE9 HN9 c0 c1 c2 c3 c4 d0 d1 d2 d3 d4
    go_wp2
    go_ret
    exact ⟨rfl, HB10.out⟩
set_option maxRecDepth 100000 in
theorem eventBack_lifted (os : Os) (started : os.Started) (H : Type) (enc : TypeId × Value → H) :
    ReturnsInHanded {} Try.checked os 4 .any (Rows.eventBackSpec.pre6 enc Try.prog Try.f4 Rows.eventBackRow.domain false) (Rows.eventBackSpec.post enc Try.prog Try.f4 false true false false) := by
  refine returnsInHanded_of_change (C := Try.checked) own_none started (by kernel_rfl) Try.func4
    (ChangeSpec.witness6 (enc := enc) (C := Try.checked) false ⟨#[], #[.agg #[.int .i64 0, .string ⟨#[]⟩, .int .i64 0, .string ⟨#[]⟩, .slice none 0 0], .int .u16 0, .int .u8 0], []⟩ 8 (by kernel_rfl) (by kernel_rfl) (by kernel_rfl) (by kernel_rfl)) ?_
  intro W base args ds gs before hval0 hW hcnd _
  have hval : ∀ (j : Nat) t v, Try.f4.params[j]? = some t → args[j]? = some v → Value.okWide Try.prog W .any base t v := hval0
  have hW' := hW
  obtain ⟨p, q, hA0, hV, rfl, hfz, hnd⟩ := hW
  have hA : DataW.TrodAll enc Try.prog W 0 (fun _ => true) true Try.f4.params.toList args.toList ds p := hA0
  have hp : Try.f4.params = #[24, 35, 5] := by kernel_rfl
  rw [hp] at hA hval
  obtain ⟨v0, v1, v2, d0, d1, d2, p0, p1, p2, rfl, rfl, rfl, h0, h1, h2⟩ := trodAll_three hA
  obtain ⟨rfl, rfl⟩ := trodVars_none hV
  obtain ⟨e, q, r, s, t, u, he⟩ := open_ev (hval 0 24 v0 rfl rfl) h0
  obtain ⟨a, rfl, _, _, wa⟩ := open_int (P := Try.prog) (t := 35) (k := .u16) (by kernel_rfl) (hval 1 35 v1 rfl rfl) h1
  obtain ⟨b, rfl, _, _, wb⟩ := open_int (P := Try.prog) (t := 5) (k := .u8) (by kernel_rfl) (hval 2 5 v2 rfl rfl) h2
  obtain ⟨n, rfl, hn⟩ := u16_of_wf wa
  obtain ⟨m, rfl, hm⟩ := u8_of_wf wb
  refine (eventBack_any he n m hn hm).mono fun e W' ⟨he, hb⟩ => ?_
  subst he
  exact ⟨_, rfl, law_post (tb := 4) laidOut (by rw [hp]; intro t ht; simp at ht; rcases ht with rfl | rfl | rfl <;> exact ⟨by kernel_rfl, by decide +kernel⟩) rfl rfl (by kernel_rfl) (by kernel_rfl) hW' hb⟩

theorem eventBack_holds : Rows.EventBackSaid :=
  OpenClaim.holds_of_wide 4 Try.f4 rfl rfl rfl rfl rfl rfl rfl ⟨rfl, rfl, rfl, rfl, rfl⟩ rfl rfl rfl rfl rfl (by kernel_rfl) Try.func4 (by kernel_rfl)
    (of_decide_eq_true (by kernel_rfl)) (by unfold Func.isWrapper; rw [if_neg (by decide +kernel)]; exact ⟨rfl, rfl⟩)
    (fun os started H enc _ => eventBack_lifted os started H enc)
end Go.Proofs.Ytjjcfflgndclkaa

