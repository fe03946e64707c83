/- The law NodeBack: whatever the node, the place and the byte, every call of it returns true, and all that was there before the call is as it was. No condition. -/
import Derived.Test.YtbjjaabmdjbodaaRows
import Derived.Test.YtbjjaabmdjbodaaNdT
import Derived.ChangeMaps5
namespace Go.Proofs.Ytbjjaabmdjbodaa
open Go Go.ChangeShapes Go.WideShapes Go.ChangeAt Go.RowKit Go.By

set_option maxRecDepth 100000 in
set_option maxHeartbeats 4000000 in
theorem nodeBack_any {w : World} {v : Value} {n : Nd} {pi pk pd : Option Addr} {ci ck cd : Nat} (h : IsNd w v n pi ci pk ck pd cd) (cut more : Nat) (hcut : cut < 65536) (hmore : more < 256) :
    Calls Try.prog 3 #[v, .int .u16 cut, .int .u8 more] w fun z w' => z = .returned (.bool true) ∧ Below w.heap.size w w' := by
  have hv := h.val
  subst hv
  have hfine := h.fine
  obtain ⟨W, hW⟩ : ∃ W, W = w.alloc (.cells #[.bool n.leaf, .slice pi n.its.length ci, .slice pk n.ks.length ck, .slice pd n.kids.length cd] 26) := ⟨_, rfl⟩
  have hb : Below w.heap.size w W := by rw [hW]; exact (Below.refl w.heap.size w).alloc (Nat.le_refl _) _
  have hE : NdAt W w.heap.size n pi ci pk ck pd cd := by rw [hW]; exact NdAt.new ..
  have HI := Lib.hid (h.below hb); have HB := Lib.hid hb; have HE := Lib.hid hE; have HW := Lib.hid hW
  have HFI := Lib.hid hfine
  clear hb hE hW h hfine
  go_enter Try.func3, Try.ntmps3
  go_wp2_with fail
  rw [← HW.out]
  clear HW
  refine (begun_any W).mono ?_
  rintro z w1 ⟨rfl, hb1⟩
  have HI1 := Lib.hid (HI.out.below hb1); have HE1 := Lib.hid (HE.out.below hb1)
  have HB1 : Hid (Below w.heap.size w w1) := HB.out.trans (hb1.mono HB.out.size)
  clear hb1 HI HE HB
  obtain ⟨c0, c1, c2, c3⟩ := HE1.out.cells
  go_wp2_with fail
  refine (light_any HI1.out).mono ?_
  rintro z w2 ⟨lb, rfl, hb2⟩
  have HI2 := Lib.hid (HI1.out.below hb2); have HE2 := Lib.hid (HE1.out.below hb2)
  have HB2 : Hid (Below w.heap.size w w2) := HB1.out.trans (hb2.mono HB1.out.size)
  clear hb2 HI1 HE1 HB1 c0 c1 c2 c3
  cases lb with
  | false =>
    go_wp2
    go_ret
    exact ⟨rfl, HB2.out⟩
  | true =>
    obtain ⟨c0, c1, c2, c3⟩ := HE2.out.cells
    cases hm : mayNd n with
    | false =>
      have E : Hid (putNd n = []) := by unfold Hid putNd; rw [hm]; rfl
      have HM := Lib.hid hm
      clear hm
      go_wp2_with fail
      refine (put_any HI2.out).mono ?_
      rintro z w3 ⟨v3, rfl, ho3, hb3⟩
      rw [E.out] at ho3
      obtain ⟨p3, c3', rfl⟩ := shape_of ho3
      have HI3 := Lib.hid (HI2.out.below hb3); have HE3 := Lib.hid (HE2.out.below hb3)
      have HB3 : Hid (Below w.heap.size w w3) := HB2.out.trans (hb3.mono HB2.out.size)
      clear hb3 ho3 HI2 HE2 HB2 c0 c1 c2 c3
      obtain ⟨c0, c1, c2, c3⟩ := HE3.out.cells
      go_wp2_with fail
      refine (may_any HI3.out).mono ?_
      rintro z w4 ⟨rfl, hb4⟩
      rw [HM.out]
      have HB4 : Hid (Below w.heap.size w w4) := HB3.out.trans (hb4.mono HB3.out.size)
      clear hb4 c0 c1 c2 c3
      go_wp2
      go_ret
      exact ⟨rfl, HB4.out⟩
    | true =>
      have E : Hid (putNd n = ndOf n) := by unfold Hid putNd; rw [hm]; rfl
      have HM := Lib.hid hm
      obtain ⟨hN2, hN13⟩ := ndOf_length hm
      clear hm
      go_wp2_with fail
      refine (put_any HI2.out).mono ?_
      rintro z w3 ⟨v3, rfl, ho3, hb3⟩
      rw [E.out] at ho3
      obtain ⟨N, hNN⟩ : ∃ N, N = (ndOf n).length := ⟨_, rfl⟩
      have hy3 := owns_bytes ho3 (ndOf_small HFI.out HM.out) (by unfold maxLen; omega)
      obtain ⟨p3, cap3, rfl⟩ := shape_of ho3
      rw [← hNN] at hy3 hN2 hN13 ⊢
      have HY3 := Lib.hid hy3
      have HNN := Lib.hid hNN
      have HI3 := Lib.hid (HI2.out.below hb3); have HE3 := Lib.hid (HE2.out.below hb3)
      have HB3 : Hid (Below w.heap.size w w3) := HB2.out.trans (hb3.mono HB2.out.size)
      clear hb3 ho3 hy3 hNN HI2 HE2 HB2 c0 c1 c2 c3
      obtain ⟨c0, c1, c2, c3⟩ := HE3.out.cells
      go_wp2_with fail
      refine (may_any HI3.out).mono ?_
      rintro z w4 ⟨rfl, hb4⟩
      rw [HM.out]
      have HI4 := Lib.hid (HI3.out.below hb4); have HE4 := Lib.hid (HE3.out.below hb4); have HY4 := Lib.hid (HY3.out.below hb4)
      have HB4 : Hid (Below w.heap.size w w4) := HB3.out.trans (hb4.mono HB3.out.size)
      have hNi2 : (2 : Int) ≤ N := by omega
      have hNi13 : (N : Int) ≤ 1300 := by omega
      clear hb4 HI3 HE3 HY3 HB3 c0 c1 c2 c3
      go_wp2_with fail
      refine (take_any _ (ndOf n) w4 HY4.out).mono ?_
      intro z w5 ht5
      obtain ⟨qi, di, qk, dk, qd, dd, rfl, hi5, hb5⟩ := tells_put HFI.out HM.out ht5
      obtain ⟨W5, hW5⟩ : ∃ W, W = w5.alloc (.cells #[.bool n.leaf, .slice qi n.its.length di, .slice qk n.ks.length dk, .slice qd n.kids.length dd] 26) := ⟨_, rfl⟩
      have hb55 : Below w5.heap.size w5 W5 := by rw [hW5]; exact (Below.refl _ _).alloc (Nat.le_refl _) _
      have hb45 : Below w4.heap.size w4 W5 := hb5.trans (hb55.mono hb5.size)
      have HN5 : Hid (NdAt W5 w5.heap.size n qi di qk dk qd dd) := by unfold Hid; rw [hW5]; exact NdAt.new ..
      have HJ5 := Lib.hid (hi5.below hb55)
      have HI5 := Lib.hid (HI4.out.below hb45); have HE5 := Lib.hid (HE4.out.below hb45)
      have HB5 : Hid (Below w.heap.size w W5) := HB4.out.trans (hb45.mono HB4.out.size)
      have HY5 := Lib.hid (HY4.out.below hb45)
      have HW5 := Lib.hid hW5
      have hN0 : (0 : Int) < N := by omega
      obtain ⟨k, hk⟩ : ∃ k, k = cut % N := ⟨_, rfl⟩
      have hkN : k < N := by rw [hk]; exact Nat.mod_lt _ (by omega)
      have hki : (cut : Int) % (N : Int) = k := by rw [hk]; exact (Int.natCast_emod ..).symm
      have hsl := fun w => upto_runI p3 N cap3 k (k : Int) rfl (by have := HY5.out.room.2; omega) w
      have HKN := Lib.hid hkN
      clear hi5 hb5 hb55 hb45 hW5 ht5 HI4 HE4 HB4 HY4 hk
      have hcut1 : (cut : Int) < 65536 := by omega
      have hkn : (k : Int) < N := by omega
      clear hkN
      go_wp2_with fail
      rw [← HW5.out]
      clear HW5 hsl
      have hcutn : takeNd ((ndOf n).take k) = none := takeNd_cut HFI.out HM.out (by rw [← HNN.out]; exact HKN.out)
      have hyk : Bytes W5 (.slice p3 k cap3) ((ndOf n).take k) := Bytes.upto (l := ndOf n) (n := k) (by rw [← HNN.out]; exact HY5.out) (by rw [← HNN.out]; exact Nat.le_of_lt HKN.out)
      refine (take_any _ _ W5 hyk).mono ?_
      intro z w6 ht6
      obtain ⟨rfl, hb6⟩ := tells_none hcutn ht6
      have hb66 : Below w6.heap.size w6 (w6.alloc (.cells #[.bool false, .slice none 0 0, .slice none 0 0, .slice none 0 0] 26)) := (Below.refl _ _).alloc (Nat.le_refl _) _
      have hb56 := hb6.trans (hb66.mono hb6.size)
      have HB6 : Hid (Below w.heap.size w (w6.alloc (.cells #[.bool false, .slice none 0 0, .slice none 0 0, .slice none 0 0] 26))) := HB5.out.trans (hb56.mono HB5.out.size)
      have HJ6 := Lib.hid (HJ5.out.below hb56)
      have HI6 := Lib.hid (HI5.out.below hb56); have HE6 := Lib.hid (HE5.out.below hb56); have HN6 := Lib.hid (HN5.out.below hb56)
      have HY6 := Lib.hid (HY5.out.below hb56)
      have hown : ((w6.alloc (.cells #[.bool false, .slice none 0 0, .slice none 0 0, .slice none 0 0] 26)).alloc (.cells #[] 5)).ownsRow (w6.heap.size + 1) 5 1 (.slice (some ⟨w6.heap.size + 1, 0, none⟩) 0 0) 0 [] := by
        have := World.ownsRow_made (base := w6.heap.size + 1) (size := 1) (e := 5) (w6.alloc (.cells #[.bool false, .slice none 0 0, .slice none 0 0, .slice none 0 0] 26)) #[] 0 (by simp) (by decide) rfl
        rw [World.size_alloc] at this
        exact this
      have hbo : Below (w6.heap.size + 1) (w6.alloc (.cells #[.bool false, .slice none 0 0, .slice none 0 0, .slice none 0 0] 26)) ((w6.alloc (.cells #[.bool false, .slice none 0 0, .slice none 0 0, .slice none 0 0] 26)).alloc (.cells #[] 5)) := (Below.refl _ _).alloc (by simp) _
      have hyo : Bytes ((w6.alloc (.cells #[.bool false, .slice none 0 0, .slice none 0 0, .slice none 0 0] 26)).alloc (.cells #[] 5)) (.slice p3 N cap3) (ndOf n) := HY6.out.below ((Below.refl _ _).alloc (Nat.le_refl _) _)
      have HO6 := Lib.hid hown; have HBO := Lib.hid hbo; have HYO := Lib.hid hyo
      clear hcutn hyk ht6 hb6 hb66 hb56 HJ5 HI5 HE5 HN5 HY5 HB5 hown hbo hyo hki hcut1 hkn
      go_wp2_with (at_builtin; first
        | (go_loud (refine wpList_append_bytes rfl (.tmp 52) (.tmp 53) byT rfl (w6.heap.size + 1) (.slice (some ⟨w6.heap.size + 1, 0, none⟩) 0 0) 0 [] rfl HO6.out (.slice p3 N cap3) (ndOf n) rfl HYO.out (by rw [← HNN.out]; omega) (by simp) ?_); intro v7 w7 hown7 hgrow7 _
           have hb7 : Below (w6.heap.size + 1) (w6.alloc (.cells #[.bool false, .slice none 0 0, .slice none 0 0, .slice none 0 0] 26)) w7 := HBO.out.grown hgrow7 (by simp) (fun j hj => (HO6.out.lt j hj).1)
           have ho7 : w7.ownsRow (w6.heap.size + 1) 5 1 v7 (ndOf n).length (cellsOf (ndOf n)) := by
             rw [Nat.zero_add, List.nil_append] at hown7
             exact hown7
           obtain ⟨p7, c7, rfl⟩ := shape_of ho7
           have hz7 := hb7.size
           simp only [World.size_alloc] at hz7
           have hm7 : Bytes (w7.alloc (.cells #[.int .u8 (more : Nat)] 5)) (.slice (some ⟨w7.heap.size, 0, none⟩) 1 1) [more] := Bytes.lit [more] rfl rfl (by simp; omega) (by simp [maxLen])
           rw [← HNN.out] at ho7 ⊢
           have HO7 := Lib.hid ho7; have HB7 := Lib.hid hb7; have HZ7 := Lib.hid hz7; have HM7 := Lib.hid hm7
           clear hown7 hgrow7 hb7 ho7 hz7 hm7)
        | (go_loud (refine wpList_append_bytes rfl (.tmp 54) (.tmp 56) byT rfl (w6.heap.size + 1) (.slice p7 N c7) N (cellsOf (ndOf n)) rfl (HO7.out.alloc _) (.slice (some ⟨w7.heap.size, 0, none⟩) 1 1) [more] rfl HM7.out (by simp; omega) (by have := HZ7.out; simp; omega) ?_); intro v8 w8 hown8 hgrow8 _))
      have hb8 : Below (w6.heap.size + 1) (w6.alloc (.cells #[.bool false, .slice none 0 0, .slice none 0 0, .slice none 0 0] 26)) w8 := (HB7.out.alloc (by have := HZ7.out; omega) _).grown hgrow8 (by have := HZ7.out; simp; omega) (fun j hj => (HO7.out.lt j hj).1)
      have ho8 : w8.ownsRow (w6.heap.size + 1) 5 1 v8 (ndOf n ++ [more]).length (cellsOf (ndOf n ++ [more])) := by
        rw [List.length_append, cellsOf_append, ← HNN.out]; exact hown8
      have hy8 : Bytes w8 v8 (ndOf n ++ [more]) := owns_bytes ho8 (by
        intro c hc
        rcases List.mem_append.1 hc with hc | hc
        · exact ndOf_small HFI.out HM.out c hc
        · simp at hc; omega) (by rw [List.length_append, ← HNN.out]; unfold maxLen; simp; omega)
      obtain ⟨p8, c8, rfl⟩ := shape_of ho8
      have HY8 := Lib.hid hy8
      have hb68 : Below (w6.alloc (.cells #[.bool false, .slice none 0 0, .slice none 0 0, .slice none 0 0] 26)).heap.size (w6.alloc (.cells #[.bool false, .slice none 0 0, .slice none 0 0, .slice none 0 0] 26)) w8 := hb8.mono (by simp)
      have HB8 : Hid (Below w.heap.size w w8) := HB6.out.trans (hb68.mono HB6.out.size)
      have HJ8 := Lib.hid (HJ6.out.below hb68)
      have HI8 := Lib.hid (HI6.out.below hb68); have HE8 := Lib.hid (HE6.out.below hb68); have HN8 := Lib.hid (HN6.out.below hb68)
      clear hb8 ho8 hy8 hb68 hown8 hgrow8 HJ6 HI6 HE6 HN6 HY6 HB6 HO7 HB7 HZ7 HM7 HO6 HBO HYO
      go_wp2_with fail
      refine (take_any _ (ndOf n ++ [more]) w8 HY8.out).mono ?_
      intro z w9 ht9
      obtain ⟨rfl, hb9⟩ := tells_none (takeNd_more HFI.out HM.out (by simp)) ht9
      have hb99 : Below w9.heap.size w9 (w9.alloc (.cells #[.bool false, .slice none 0 0, .slice none 0 0, .slice none 0 0] 26)) := (Below.refl _ _).alloc (Nat.le_refl _) _
      have hb89 := hb9.trans (hb99.mono hb9.size)
      have HB9 : Hid (Below w.heap.size w (w9.alloc (.cells #[.bool false, .slice none 0 0, .slice none 0 0, .slice none 0 0] 26))) := HB8.out.trans (hb89.mono HB8.out.size)
      have HJ9 := Lib.hid (HJ8.out.below hb89)
      have HI9 := Lib.hid (HI8.out.below hb89); have HE9 := Lib.hid (HE8.out.below hb89); have HN9 := Lib.hid (HN8.out.below hb89)
      clear ht9 hb9 hb99 hb89 HB8 HJ8 HI8 HE8 HN8 HY8
      obtain ⟨c0, c1, c2, c3⟩ := HE9.out.cells
      obtain ⟨d0, d1, d2, d3⟩ := HN9.out.cells
      go_wp2_with fail
      refine (same_any HI9.out HJ9.out).mono ?_
      rintro z w10 ⟨rfl, hb10⟩
      rw [decide_eq_true (rfl : n = n)]
      have HB10 : Hid (Below w.heap.size w w10) := HB9.out.trans (hb10.mono HB9.out.size)
      clear hb10 HB9 HJ9 HI9 HE9 HN9 c0 c1 c2 c3 d0 d1 d2 d3
      go_wp2
      go_ret
      exact ⟨rfl, HB10.out⟩

set_option maxRecDepth 1000000 in
theorem node_parts : ∃ f0 f1 f2 f3 : Field, Try.prog.underlying 26 = some (.struct #[f0, f1, f2, f3]) ∧ (f0.offset = 0 ∧ f1.offset = 1 ∧ f2.offset = 2 ∧ f3.offset = 3) ∧ (f0.type = 4 ∧ f1.type = 22 ∧ f2.type = 23 ∧ f3.type = 24) :=
  ⟨_, _, _, _, rfl, ⟨rfl, rfl, rfl, rfl⟩, ⟨rfl, rfl, rfl, rfl⟩⟩
set_option maxRecDepth 1000000 in
theorem item_parts : ∃ f0 f1 : Field, Try.prog.underlying 38 = some (.struct #[f0, f1]) ∧ (f0.offset = 0 ∧ f1.offset = 1) ∧ (f0.type = 30 ∧ f1.type = 30) :=
  ⟨_, _, rfl, ⟨rfl, rfl⟩, ⟨rfl, rfl⟩⟩
set_option maxRecDepth 1000000 in
theorem ref_parts : ∃ f0 f1 : Field, Try.prog.underlying 41 = some (.struct #[f0, f1]) ∧ (f0.offset = 0 ∧ f1.offset = 1) ∧ (f0.type = 2 ∧ f1.type = 39) :=
  ⟨_, _, rfl, ⟨rfl, rfl⟩, ⟨rfl, rfl⟩⟩

set_option maxRecDepth 100000 in
theorem nodeBack_lifted (os : Os) (started : os.Started) (H : Type) (enc : TypeId × Value → H) :
    ReturnsInHanded {} Try.checked os 3 .any (Rows.nodeBackSpec.pre6 enc Try.prog Try.f3 Rows.nodeBackRow.domain false) (Rows.nodeBackSpec.post enc Try.prog Try.f3 false true false false) := by
  refine returnsInHanded_of_change (C := Try.checked) own_none started (by kernel_rfl) Try.func3
    (ChangeSpec.witness6 (enc := enc) (C := Try.checked) false ⟨#[], #[.agg #[.bool false, .slice none 0 0, .slice none 0 0, .slice none 0 0], .int .u16 0, .int .u8 0], []⟩ 8 (by kernel_rfl) (by kernel_rfl) (by kernel_rfl) (by kernel_rfl)) ?_
  intro W base args ds gs before hval0 hW hcnd _
  have hval : ∀ (j : Nat) t v, Try.f3.params[j]? = some t → args[j]? = some v → Value.okWide Try.prog W .any base t v := hval0
  have hW' := hW
  obtain ⟨p, q, hA0, hV, rfl, hfz, hnd⟩ := hW
  have hA : DataW.TrodAll enc Try.prog W 0 (fun _ => true) true Try.f3.params.toList args.toList ds p := hA0
  have hp : Try.f3.params = #[26, 27, 5] := by kernel_rfl
  rw [hp] at hA hval
  obtain ⟨v0, v1, v2, d0, d1, d2, p0, p1, p2, rfl, rfl, rfl, h0, h1, h2⟩ := trodAll_three hA
  obtain ⟨rfl, rfl⟩ := trodVars_none hV
  obtain ⟨_, _, _, _, hu0, ho0, hf0⟩ := node_parts
  obtain ⟨_, _, hu1, ho1, hf1⟩ := item_parts
  obtain ⟨_, _, hu2, ho2, hf2⟩ := ref_parts
  obtain ⟨n, pi, ci, pk, ck, pd, cd, hn⟩ := open_node (P := Try.prog) hu0 (by kernel_rfl) ho0 hf0 ⟨by kernel_rfl, by kernel_rfl, by kernel_rfl, by kernel_rfl, by kernel_rfl, by kernel_rfl, by kernel_rfl, by kernel_rfl⟩ (by kernel_rfl) (by kernel_rfl) (by kernel_rfl) (by kernel_rfl) byT hu1 (by kernel_rfl) ho1 hf1 hu2 (by kernel_rfl) ho2 hf2 (by kernel_rfl) (by kernel_rfl) (hval 0 26 v0 rfl rfl) h0
  obtain ⟨a, rfl, _, _, wa⟩ := open_int (P := Try.prog) (t := 27) (k := .u16) (by kernel_rfl) (hval 1 27 v1 rfl rfl) h1
  obtain ⟨b, rfl, _, _, wb⟩ := open_int (P := Try.prog) (t := 5) (k := .u8) (by kernel_rfl) (hval 2 5 v2 rfl rfl) h2
  obtain ⟨x, rfl, hx⟩ := u16_of_wf wa
  obtain ⟨m, rfl, hm⟩ := u8_of_wf wb
  refine (nodeBack_any hn x m hx hm).mono fun e W' ⟨he, hb⟩ => ?_
  subst he
  exact ⟨_, rfl, law_post (tb := 4) laidOut (by rw [hp]; intro t ht; simp at ht; rcases ht with rfl | rfl | rfl <;> exact ⟨by kernel_rfl, by decide +kernel⟩) rfl rfl (by kernel_rfl) (by kernel_rfl) hW' hb⟩

theorem nodeBack_holds : Rows.NodeBackSaid :=
  OpenClaim.holds_of_wide 3 Try.f3 rfl rfl rfl rfl rfl rfl rfl ⟨rfl, rfl, rfl, rfl, rfl⟩ rfl rfl rfl rfl rfl (by kernel_rfl) Try.func3 (by kernel_rfl)
    (of_decide_eq_true (by kernel_rfl)) (by unfold Func.isWrapper; rw [if_neg (by decide +kernel)]; exact ⟨rfl, rfl⟩)
    (fun os started H enc _ => nodeBack_lifted os started H enc)
end Go.Proofs.Ytbjjaabmdjbodaa

