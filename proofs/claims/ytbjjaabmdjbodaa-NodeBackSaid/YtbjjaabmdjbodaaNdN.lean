/- Nodes in a program: trees, taken. -/
import Derived.Test.YtbjjaabmdjbodaaNdM
namespace Go.Proofs.Ytbjjaabmdjbodaa
open Go Go.RowKit Go.By

theorem ty_u64 : 5 ≠ 39 ∧ 30 ≠ 39 ∧ 41 ≠ 39 ∧ 47 ≠ 39 := by decide
/-- An inner node is being read. -/
def InSt (w0 : World) (b : Nat) (w : World) (sv : Value) (i : Nat) (fv : Value) (xs : List (List Nat × NKd)) : Prop :=
  ∃ kv dv, RdAt w b sv i false (.slice none 0 0) kv dv fv ∧ KyRow w b kv (xs.map (·.1)) ∧ KdRow w b dv (xs.map (·.2)) ∧ Below w0.heap.size w0 w
def KdTold (w0 : World) (b : Nat) (sv : Value) (l : List Nat) (i : Nat) (fv : Value) (xs : List (List Nat × NKd)) (e : Ending) (w' : World) : Prop :=
  ∃ x i' ok, e = .returned (.bool ok) ∧ InSt w0 b w' sv i' fv (xs ++ [x]) ∧ i' ≤ l.length ∧ ((ok = true ∧ pKd (l.drop i) = some (x, l.drop i')) ∨ (ok = false ∧ pKd (l.drop i) = none))
theorem share {T G : Prop} (k : T → G) (p : T) : G := k p
theorem set_ty {w : World} {b t j : Nat} {v : Value} {c c' : Array Value} {T T' : TypeId} {fr fr' : Nat × Nat} (hb : w.heap[b]? = some (.cells c T fr)) (ht : w.heap[t]? = some (.cells c' T' fr')) (hne : T ≠ T') : (w.setCell ⟨b, j, none⟩ v).heap[t]? = some (.cells c' T' fr') := by
  refine (heap_setCell_other w ⟨b, j, none⟩ t v (fun e => ?_)).trans ht
  subst e
  rw [ht] at hb
  simp only [Option.some.injEq, Obj.cells.injEq] at hb
  exact hne hb.2.1.symm

/-- The key is appended: what the region leaves. -/
theorem key_push {w0 w : World} {b i : Nat} {sv kv dv a fv : Value} {ks : List (List Nat)} {k : List Nat} {kids : List NKd} (hr : RdAt w b sv i false (.slice none 0 0) kv dv fv) (hi : KyRow w b kv ks) (hd : KdRow w b dv kids) (h0 : Below w0.heap.size w0 w) (hb : w0.heap.size ≤ b) (hn : ks.length ≤ 1000000) (ha : Txt w b a k) :
    ∃ p' n' c' w', (Builtin.append_ #[23, 23] 23 #[kv, .slice (some ⟨w.heap.size, 0, none⟩) 1 1]).run Try.prog (w.drew.alloc (.cells #[a] 30)) = .ok (.slice p' n' c') w' ∧ RdAt w' b sv i false (.slice none 0 0) kv dv fv ∧
      RdAt (w'.setCell ⟨b, 4, none⟩ (.slice p' n' c')) b sv i false (.slice none 0 0) (.slice p' n' c') dv fv ∧ KyRow (w'.setCell ⟨b, 4, none⟩ (.slice p' n' c')) b (.slice p' n' c') (ks ++ [k]) ∧ KdRow (w'.setCell ⟨b, 4, none⟩ (.slice p' n' c')) b dv kids ∧ Below w0.heap.size w0 (w'.setCell ⟨b, 4, none⟩ (.slice p' n' c')) ∧
      ∀ (t : Nat) (c : Array Value), w.heap[t]? = some (.cells c 39 (0, 0)) → (w'.setCell ⟨b, 4, none⟩ (.slice p' n' c')).heap[t]? = some (.cells c 39 (0, 0)) := by
  have hbz : Below w.heap.size w w.drew := (Below.refl _ _).drew
  have hi' : KyRow w.drew b kv ks := hi.below' hbz
  have hd' : KdRow w.drew b dv kids := hd.below' hbz
  have hrd : RdAt w.drew b sv i false (.slice none 0 0) kv dv fv := hr
  obtain ⟨v', w', hrun, hrow, hg⟩ := hi'.push hn (show b ≤ w.drew.heap.size from Nat.le_of_lt hr.lt) (ha.below' hbz)
  obtain ⟨cs, _, ho, _⟩ := hi'
  have hne : kv.ownBlock ≠ some b := owns_ne ho hrd ty_ne.2.2.1
  have hr' : RdAt w' b sv i false (.slice none 0 0) kv dv fv := (hg.block hrd.lt hne).trans hrd
  have hbl : Below w0.heap.size w0 w' := hg.below (h0.trans (hbz.mono h0.size)) (Nat.le_trans hb (Nat.le_of_lt hrd.lt)) (fun k hk => Nat.le_trans hb (ho.lt k hk).1)
  have hdd : KdRow w' b dv kids := ⟨owns_grows hd'.1 ho (Ne.symm ty_ne.2.2.2.2.2.2.2) hg, hd'.2⟩
  obtain ⟨p', c', rfl, -⟩ := hrow.at_
  refine ⟨_, _, _, w', hrun, hr', hr'.setKv _, hrow.only hr' (Only.set b 4 w' _), hdd.only hr' (Only.set b 4 w' _), hbl.setCell hb _, fun t c ht => ?_⟩
  have ht' : w'.heap[t]? = some (.cells c 39 (0, 0)) := (hg.block (show t < w.drew.heap.size from (Array.getElem?_eq_some_iff.1 ht).1) (owns_ne ho (show w.drew.heap[t]? = _ from ht) ty_u64.2.1)).trans ht
  exact set_ty hr' ht' ty_u64.2.2.2
/-- The tree is appended: what the region leaves. -/
theorem kid_push {w0 w : World} {b i : Nat} {sv kv dv fv : Value} {ks : List (List Nat)} {kids : List NKd} {d : NKd} (hr : RdAt w b sv i false (.slice none 0 0) kv dv fv) (hi : KyRow w b kv ks) (hd : KdRow w b dv kids) (h0 : Below w0.heap.size w0 w) (hb : w0.heap.size ≤ b) (hn : kids.length ≤ 1000000) (hq : d.off ≤ 9223372036854775807 ∧ d.ct < 18446744073709551616) :
    ∃ p' n' c' w', (Builtin.append_ #[24, 24] 24 #[dv, .slice (some ⟨w.heap.size, 0, none⟩) 1 1]).run Try.prog (w.drew.alloc (.cells #[.int .i64 d.off, .int .u64 (d.ct : Nat)] 41)) = .ok (.slice p' n' c') w' ∧ RdAt w' b sv i false (.slice none 0 0) kv dv fv ∧
      RdAt (w'.setCell ⟨b, 5, none⟩ (.slice p' n' c')) b sv i false (.slice none 0 0) kv (.slice p' n' c') fv ∧ KyRow (w'.setCell ⟨b, 5, none⟩ (.slice p' n' c')) b kv ks ∧ KdRow (w'.setCell ⟨b, 5, none⟩ (.slice p' n' c')) b (.slice p' n' c') (kids ++ [d]) ∧ Below w0.heap.size w0 (w'.setCell ⟨b, 5, none⟩ (.slice p' n' c')) := by
  have hbz : Below w.heap.size w w.drew := (Below.refl _ _).drew
  have hi' : KyRow w.drew b kv ks := hi.below' hbz
  have hd' : KdRow w.drew b dv kids := hd.below' hbz
  have hrd : RdAt w.drew b sv i false (.slice none 0 0) kv dv fv := hr
  obtain ⟨v', w', hrun, hrow, hg⟩ := hd'.push hn (show b ≤ w.drew.heap.size from Nat.le_of_lt hr.lt) hq
  have ho := hd'.1
  have hne : dv.ownBlock ≠ some b := owns_ne ho hrd ty_ne.2.2.2.1
  have hr' : RdAt w' b sv i false (.slice none 0 0) kv dv fv := (hg.block hrd.lt hne).trans hrd
  have hbl : Below w0.heap.size w0 w' := hg.below (h0.trans (hbz.mono h0.size)) (Nat.le_trans hb (Nat.le_of_lt hrd.lt)) (fun k hk => Nat.le_trans hb (ho.lt k hk).1)
  have hkk : KyRow w' b kv ks := by
    obtain ⟨cs, h1, h2, h3⟩ := hi'
    exact ⟨cs, h1, owns_grows h2 ho ty_ne.2.2.2.2.2.2.2 hg, fun j hj hj' => ⟨owns_grows (h3 j hj hj').1 ho ty_ne.2.2.2.2.2.2.1 hg, (h3 j hj hj').2⟩⟩
  obtain ⟨p', c', rfl, -⟩ := hrow.at_
  exact ⟨_, _, _, w', hrun, hr', hr'.setDv _, hkk.only hr' (Only.set b 5 w' _), hrow.only hr' (Only.set b 5 w' _), hbl.setCell hb _⟩
theorem kd_ok {l : List Nat} {i i1 i2 i3 : Nat} {k a c : List Nat} (h1 : pText (l.drop i) = some (k, l.drop i1)) (h2 : pTake 8 (l.drop i1) = some (a, l.drop i2)) (h3 : pTake 8 (l.drop i2) = some (c, l.drop i3)) : pKd (l.drop i) = some ((k, ⟨RowKit.wrap64 (numOf a : Nat), numOf c⟩), l.drop i3) := by
  unfold pKd
  rw [h1]; dsimp only
  rw [h2]; dsimp only
  rw [h3]
theorem kd_no1 {l : List Nat} {i : Nat} (h1 : pText (l.drop i) = none) : pKd (l.drop i) = none := by
  unfold pKd
  rw [h1]
theorem kd_no2 {l : List Nat} {i i1 : Nat} {k : List Nat} (h1 : pText (l.drop i) = some (k, l.drop i1)) (h2 : pTake 8 (l.drop i1) = none) : pKd (l.drop i) = none := by
  unfold pKd
  rw [h1]; dsimp only
  rw [h2]
theorem kd_no3 {l : List Nat} {i i1 i2 : Nat} {k a : List Nat} (h1 : pText (l.drop i) = some (k, l.drop i1)) (h2 : pTake 8 (l.drop i1) = some (a, l.drop i2)) (h3 : pTake 8 (l.drop i2) = none) : pKd (l.drop i) = none := by
  unfold pKd
  rw [h1]; dsimp only
  rw [h2]; dsimp only
  rw [h3]

set_option maxRecDepth 100000 in
set_option maxHeartbeats 1000000 in
theorem takeKid_any (w0 : World) (b : Nat) (w : World) (sv : Value) (l : List Nat) (i : Nat) (fv : Value) (xs : List (List Nat × NKd)) (h : InSt w0 b w sv i fv xs) (hsv : Bytes w0 sv l) (hb : w0.heap.size ≤ b) (hi : i ≤ l.length) (hn : xs.length ≤ 1000) :
    Calls Try.prog 35 #[.pointer (some ⟨b, 0, none⟩)] w (KdTold w0 b sv l i fv xs) := by
  obtain ⟨kv, dv, hr, hky, hkd, h0⟩ := h
  obtain ⟨W, hW⟩ : ∃ W, W = ((w.alloc (.cells #[.slice none 0 0] 30)).alloc (.cells #[.int .u64 0] 39)).alloc (.cells #[.int .u64 0] 39) := ⟨_, rfl⟩
  have hba : Below w.heap.size w W := by rw [hW]; exact (((Below.refl _ _).alloc (Nat.le_refl _) _).alloc (by simp) _).alloc (by simp; omega) _
  have a1 : W.heap[w.heap.size]? = some (.cells #[.slice none 0 0] 30 (0, 0)) := by rw [hW]; exact (Below.heap_alloc _ _ _ (by simp; omega)).trans ((Below.heap_alloc _ _ _ (by simp)).trans (heap_alloc_new w _))
  have a2 : W.heap[w.heap.size + 1]? = some (.cells #[.int .u64 0] 39 (0, 0)) := by rw [hW]; exact (Below.heap_alloc _ _ _ (by simp)).trans (by simpa using heap_alloc_new (w.alloc (.cells #[.slice none 0 0] 30)) (.cells #[.int .u64 0] 39))
  have a3 : W.heap[w.heap.size + 2]? = some (.cells #[.int .u64 0] 39 (0, 0)) := by rw [hW]; simpa using heap_alloc_new ((w.alloc (.cells #[.slice none 0 0] 30)).alloc (.cells #[.int .u64 0] 39)) (.cells #[.int .u64 0] 39)
  have hzw : W.heap.size = w.heap.size + 3 := by rw [hW]; simp
  have hlt := hr.lt
  have hr0 := hr.below' hba
  have h00 := h0.trans (hba.mono h0.size)
  have hT1 := text_any w0 b w.heap.size 0 _ 30 W sv l i false (.slice none 0 0) kv dv fv hr0 hsv h00 hb hi a1 rfl hlt
  have HT1 := Lib.hid hT1; have HKY := Lib.hid hky; have HKD := Lib.hid hkd; have H0 := Lib.hid h0; have HB := Lib.hid hb; have HSV := Lib.hid hsv; have HR := Lib.hid hr; have HN := Lib.hid hn; have HA2 := Lib.hid a2; have HA3 := Lib.hid a3; have HW := Lib.hid hW; have HBA := Lib.hid hba; have HLT := Lib.hid hlt; have HZW := Lib.hid hzw
  clear hba hr0 h00 hT1 hr hky hkd h0 hsv hb hi hn a1 a2 a3 hW hlt hzw
  go_enter Try.func35, Try.ntmps35
  go_wp2_with fail
  rw [← HW.out]
  refine HT1.out.mono ?_
  rintro e w1 ⟨v1, m1, i1, ok1, rfl, ht1, hc1, hr1, ho1, hi1, htold1⟩
  have hall1 : Only b w w1 := (Only.of_below HBA.out).then2 ho1 (Nat.le_refl _)
  have b2 : w1.heap[w.heap.size + 1]? = some (.cells #[.int .u64 0] 39 (0, 0)) := (ho1.block _ (by have := HZW.out; omega) (by have := HLT.out; omega) (by omega)).trans HA2.out
  have b3 : w1.heap[w.heap.size + 2]? = some (.cells #[.int .u64 0] 39 (0, 0)) := (ho1.block _ (by have := HZW.out; omega) (by have := HLT.out; omega) (by omega)).trans HA3.out
  clear HT1 HW
  rcases htold1 with ⟨rfl, hp1⟩ | ⟨rfl, hp1⟩
  · have h01 : Below w0.heap.size w0 w1 := Below.only H0.out HB.out (Nat.le_of_lt (Nat.lt_of_le_of_lt HB.out HR.out.lt)) hall1
    have hT2 := number_any w0 b (w.heap.size + 1) 39 w1 sv l i1 false (.slice none 0 0) kv dv fv hr1 HSV.out h01 HB.out hi1 b2 (by have := HLT.out; omega)
    have hz1 : w.heap.size + 3 ≤ w1.heap.size := by have := HZW.out; have := ho1.size; omega
    have HT2 := Lib.hid hT2; have HC1 := Lib.hid hc1; have HR1 := Lib.hid hr1; have HP1 := Lib.hid hp1; have HTX1 := Lib.hid ht1; have HA1 := Lib.hid hall1; have HB2 := Lib.hid b2; have HB3 := Lib.hid b3; have HZ1 := Lib.hid hz1
    clear hT2 h01 hc1 hr1 hp1 ht1 hall1 ho1 hi1 b2 b3 hz1
    go_wp2_with fail
    refine HT2.out.mono ?_
    rintro e w2 ⟨n2, i2, ok2, rfl, hn2, hc2, hr2, ho2, hi2, htold2⟩
    have hall2 : Only b w w2 := HA1.out.then2 ho2 (by omega)
    have d1 : w2.heap[w.heap.size]? = some (.cells #[v1] 30 (0, 0)) := (ho2.block _ (by have := HZ1.out; omega) (by have := HLT.out; omega) (by omega)).trans HC1.out
    have d3 : w2.heap[w.heap.size + 2]? = some (.cells #[.int .u64 0] 39 (0, 0)) := (ho2.block _ (by have := HZ1.out; omega) (by have := HLT.out; omega) (by omega)).trans HB3.out
    have ht12 : Txt w2 b v1 m1 := HTX1.out.only2 HR1.out HB2.out ty_u64.1 ho2
    clear HT2 HB2 HB3
    rcases htold2 with ⟨rfl, a2, hp2, rfl⟩ | ⟨rfl, hp2⟩
    · have h02 : Below w0.heap.size w0 w2 := Below.only H0.out HB.out (Nat.le_of_lt (Nat.lt_of_le_of_lt HB.out HR.out.lt)) hall2
      have hT3 := number_any w0 b (w.heap.size + 2) 39 w2 sv l i2 false (.slice none 0 0) kv dv fv hr2 HSV.out h02 HB.out hi2 d3 (by have := HLT.out; omega)
      have hz2 : w.heap.size + 3 ≤ w2.heap.size := by have := HZ1.out; have := ho2.size; omega
      have HT3 := Lib.hid hT3; have HC2 := Lib.hid hc2; have HD1 := Lib.hid d1; have HD3 := Lib.hid d3; have HR2 := Lib.hid hr2; have HP2 := Lib.hid hp2; have HTX2 := Lib.hid ht12; have HA2' := Lib.hid hall2; have HZ2 := Lib.hid hz2; have HN2 := Lib.hid hn2
      clear hT3 h02 hc2 hr2 hp2 ht12 hall2 ho2 hi2 d1 d3 hz2 hn2
      go_wp2_with fail
      refine HT3.out.mono ?_
      rintro e w3 ⟨n3, i3, ok3, rfl, hn3, hc3, hr3, ho3, hi3, htold3⟩
      have hall3 : Only b w w3 := HA2'.out.then2 ho3 (by omega)
      have f1 : w3.heap[w.heap.size]? = some (.cells #[v1] 30 (0, 0)) := (ho3.block _ (by have := HZ2.out; omega) (by have := HLT.out; omega) (by omega)).trans HD1.out
      have f2 : w3.heap[w.heap.size + 1]? = some (.cells #[.int .u64 (numOf a2 : Nat)] 39 (0, 0)) := (ho3.block _ (by have := HZ2.out; omega) (by have := HLT.out; omega) (by omega)).trans HC2.out
      have ht13 : Txt w3 b v1 m1 := HTX2.out.only2 HR2.out HD3.out ty_u64.1 ho3
      have hnn2 := HN2.out
      have htold : (ok3 = true ∧ pKd (l.drop i) = some ((m1, ⟨RowKit.wrap64 (numOf a2 : Nat), n3⟩), l.drop i3)) ∨ (ok3 = false ∧ pKd (l.drop i) = none) := by
        rcases htold3 with ⟨h1, a3, h2, rfl⟩ | ⟨h1, h2⟩
        · exact .inl ⟨h1, kd_ok HP1.out HP2.out h2⟩
        · exact .inr ⟨h1, kd_no3 HP1.out HP2.out h2⟩
      have HTOLD := Lib.hid htold
      clear HT3 HC1 HR1 HTX1 HA1 HP1 HC2 HD1 HD3 HR2 HP2 HTX2 HA2' HN2 htold3 htold
      have hky := HKY.out.only HR.out hall3
      have hkd := HKD.out.only HR.out hall3
      have h0w : Below w0.heap.size w0 w3 := Below.only H0.out HB.out (Nat.le_of_lt (Nat.lt_of_le_of_lt HB.out HR.out.lt)) hall3
      obtain ⟨p4, n4, c4, w4, hrun4, hr4, hr5, hky5, hkd5, h05, hstay⟩ := key_push (k := m1) hr3 hky hkd h0w HB.out (by rw [List.length_map]; have := HN.out; omega) ht13
      have g2 := hstay _ _ f2
      have g3 := hstay _ _ hc3
      obtain ⟨p6, n6, c6, w6, hrun6, hr6, hr7, hky7, hkd7, h07⟩ := kid_push (d := ⟨RowKit.wrap64 (numOf a2 : Nat), n3⟩) hr5 hky5 hkd5 h05 HB.out (by rw [List.length_map]; have := HN.out; omega) ⟨by show RowKit.wrap64 _ ≤ _; unfold RowKit.wrap64; omega, hn3⟩
      have hst : InSt w0 b (w6.setCell ⟨b, 5, none⟩ (.slice p6 n6 c6)) sv i3 fv (xs ++ [(m1, ⟨RowKit.wrap64 (numOf a2 : Nat), n3⟩)]) := ⟨_, _, hr7, by simpa using hky7, by simpa using hkd7, h07⟩
      have k4 := cells_of hr3 4
      have e0 := cells_of f1 0
      have q4 := cells_of hr4 4
      have qf4 := free_of hr4 4
      have k5 := cells_of hr5 5
      have e2 := cells_of g2 0
      have e3 : (w4.setCell ⟨b, 4, none⟩ (.slice p4 n4 c4)).cell? ⟨w.heap.size + 1 + 1, 0, none⟩ = some (.int .u64 (n3 : Nat)) := cells_of g3 0
      have q6 := cells_of hr6 5
      have qf6 := free_of hr6 5
      simp only [List.getElem?_toArray, List.getElem?_cons_zero, List.getElem?_cons_succ, List.setIfInBounds_toArray, List.set_cons_zero, List.set_cons_succ] at k4 e0 q4 k5 e2 q6
      have hw5 : b < (w4.setCell ⟨b, 4, none⟩ (.slice p4 n4 c4)).heap.size := hr5.lt
      obtain ⟨pk, ck, rfl, -⟩ := hky.at_
      obtain ⟨pd, cd, rfl, -⟩ := hkd.at_
      obtain ⟨pa, ca, rfl, -⟩ := ht13.bytes.any
      generalize (xs.map (·.1)).length = NK at *
      generalize (xs.map (·.2)).length = ND at *
      have k41 : (w3.alloc (.cells #[.slice pa m1.length ca] 30)).cell? ⟨b, 4, none⟩ = some (.slice pk NK ck) := (World.cell?_alloc_lt _ _ _ hr3.lt).trans k4
      have hO : IntKind.i64.wrap ((numOf a2 : Nat) : Int) = RowKit.wrap64 (numOf a2 : Nat) := by rw [IntKind.wrap_i64]; unfold RowKit.wrap64; rfl
      generalize RowKit.wrap64 (numOf a2 : Nat) = O at *
      generalize hW5 : w4.setCell ⟨b, 4, none⟩ (.slice p4 n4 c4) = W5 at *
      have k51 : (W5.alloc (.cells #[.int .i64 O, .int .u64 (n3 : Nat)] 41)).cell? ⟨b, 5, none⟩ = some (.slice pd ND cd) := (World.cell?_alloc_lt _ _ _ hw5).trans k5
      have e21 : (W5.alloc (.cells #[.int .i64 O, .int .u64 (n3 : Nat)] 41)).cell? ⟨w.heap.size + 1, 0, none⟩ = some (.int .u64 (numOf a2 : Nat)) := (World.cell?_alloc_lt _ _ _ (Array.getElem?_eq_some_iff.1 g2).1).trans e2
      have e31 : (W5.alloc (.cells #[.int .i64 O, .int .u64 (n3 : Nat)] 41)).cell? ⟨w.heap.size + 1 + 1, 0, none⟩ = some (.int .u64 (n3 : Nat)) := (World.cell?_alloc_lt _ _ _ (Array.getElem?_eq_some_iff.1 g3).1).trans e3
      have HRUN4 := Lib.hid hrun4; have HRUN6 := Lib.hid hrun6; have HST := Lib.hid hst; have HI := Lib.hid hi3; have HW5 := Lib.hid hW5
      clear hky hkd h0w hrun4 hr4 hr5 hky5 hkd5 h05 hstay hrun6 hr6 hr7 hky7 hkd7 h07 hst hr3 hall3 f1 f2 hc3 ht13 g2 g3 hw5 hW5 hi3
      go_wp2
      apply share
      · intro HT
        go_region_law ((refine step_append_run rfl (.tmp 22) (.tmp 24) 23 23 rfl (.slice pk NK ck) (.slice (some ⟨w3.heap.size, 0, none⟩) 1 1) rfl rfl (.slice p4 n4 c4) w4 HRUN4.out ?_))
        all_goals exact HT
      rw [HW5.out]
      go_wp2
      go_region_law ((refine step_append_run rfl (.tmp 34) (.tmp 39) 24 24 rfl (.slice pd ND cd) (.slice (some ⟨W5.heap.size, 0, none⟩) 1 1) rfl rfl (.slice p6 n6 c6) w6 HRUN6.out ?_))
      all_goals
        go_wp2
        go_ret
        exact ⟨_, _, _, rfl, HST.out, HI.out, HTOLD.out⟩
    · have HTOLD := Lib.hid (kd_no2 HP1.out hp2)
      obtain ⟨Z, hZ⟩ : ∃ Z : Nat, Z = 0 := ⟨0, rfl⟩
      have d3' : w2.heap[w.heap.size + 2]? = some (.cells #[.int .u64 (Z : Nat)] 39 (0, 0)) := by rw [hZ]; exact d3
      have hz9 : Z < 18446744073709551616 := by omega
      clear HC1 HR1 HTX1 HA1 HP1 hp2 d3 hZ
      have hky := HKY.out.only HR.out hall2
      have hkd := HKD.out.only HR.out hall2
      have h0w : Below w0.heap.size w0 w2 := Below.only H0.out HB.out (Nat.le_of_lt (Nat.lt_of_le_of_lt HB.out HR.out.lt)) hall2
      obtain ⟨p4, n4, c4, w4, hrun4, hr4, hr5, hky5, hkd5, h05, hstay⟩ := key_push (k := m1) hr2 hky hkd h0w HB.out (by rw [List.length_map]; have := HN.out; omega) ht12
      have g2 := hstay _ _ hc2
      have g3 := hstay _ _ d3'
      obtain ⟨p6, n6, c6, w6, hrun6, hr6, hr7, hky7, hkd7, h07⟩ := kid_push (d := ⟨RowKit.wrap64 (n2 : Nat), Z⟩) hr5 hky5 hkd5 h05 HB.out (by rw [List.length_map]; have := HN.out; omega) ⟨by show RowKit.wrap64 _ ≤ _; unfold RowKit.wrap64; omega, hz9⟩
      have hst : InSt w0 b (w6.setCell ⟨b, 5, none⟩ (.slice p6 n6 c6)) sv i2 fv (xs ++ [(m1, ⟨RowKit.wrap64 (n2 : Nat), Z⟩)]) := ⟨_, _, hr7, by simpa using hky7, by simpa using hkd7, h07⟩
      have k4 := cells_of hr2 4
      have e0 := cells_of d1 0
      have q4 := cells_of hr4 4
      have qf4 := free_of hr4 4
      have k5 := cells_of hr5 5
      have e2 := cells_of g2 0
      have e3 : (w4.setCell ⟨b, 4, none⟩ (.slice p4 n4 c4)).cell? ⟨w.heap.size + 1 + 1, 0, none⟩ = some (.int .u64 (Z : Nat)) := cells_of g3 0
      have q6 := cells_of hr6 5
      have qf6 := free_of hr6 5
      simp only [List.getElem?_toArray, List.getElem?_cons_zero, List.getElem?_cons_succ, List.setIfInBounds_toArray, List.set_cons_zero, List.set_cons_succ] at k4 e0 q4 k5 e2 q6
      have hw5 : b < (w4.setCell ⟨b, 4, none⟩ (.slice p4 n4 c4)).heap.size := hr5.lt
      obtain ⟨pk, ck, rfl, -⟩ := hky.at_
      obtain ⟨pd, cd, rfl, -⟩ := hkd.at_
      obtain ⟨pa, ca, rfl, -⟩ := ht12.bytes.any
      generalize (xs.map (·.1)).length = NK at *
      generalize (xs.map (·.2)).length = ND at *
      have k41 : (w2.alloc (.cells #[.slice pa m1.length ca] 30)).cell? ⟨b, 4, none⟩ = some (.slice pk NK ck) := (World.cell?_alloc_lt _ _ _ hr2.lt).trans k4
      have hO : IntKind.i64.wrap ((n2 : Nat) : Int) = RowKit.wrap64 (n2 : Nat) := by rw [IntKind.wrap_i64]; unfold RowKit.wrap64; rfl
      generalize RowKit.wrap64 (n2 : Nat) = O at *
      generalize hW5 : w4.setCell ⟨b, 4, none⟩ (.slice p4 n4 c4) = W5 at *
      have k51 : (W5.alloc (.cells #[.int .i64 O, .int .u64 (Z : Nat)] 41)).cell? ⟨b, 5, none⟩ = some (.slice pd ND cd) := (World.cell?_alloc_lt _ _ _ hw5).trans k5
      have e21 : (W5.alloc (.cells #[.int .i64 O, .int .u64 (Z : Nat)] 41)).cell? ⟨w.heap.size + 1, 0, none⟩ = some (.int .u64 (n2 : Nat)) := (World.cell?_alloc_lt _ _ _ (Array.getElem?_eq_some_iff.1 g2).1).trans e2
      have e31 : (W5.alloc (.cells #[.int .i64 O, .int .u64 (Z : Nat)] 41)).cell? ⟨w.heap.size + 1 + 1, 0, none⟩ = some (.int .u64 (Z : Nat)) := (World.cell?_alloc_lt _ _ _ (Array.getElem?_eq_some_iff.1 g3).1).trans e3
      have HRUN4 := Lib.hid hrun4; have HRUN6 := Lib.hid hrun6; have HST := Lib.hid hst; have HI := Lib.hid hi2; have HW5 := Lib.hid hW5
      clear hky hkd h0w hrun4 hr4 hr5 hky5 hkd5 h05 hstay hrun6 hr6 hr7 hky7 hkd7 h07 hst hr2 hall2 d1 hc2 d3' ht12 g2 g3 hw5 hW5 hi2
      go_wp2
      apply share
      · intro HT
        go_region_law ((refine step_append_run rfl (.tmp 22) (.tmp 24) 23 23 rfl (.slice pk NK ck) (.slice (some ⟨w2.heap.size, 0, none⟩) 1 1) rfl rfl (.slice p4 n4 c4) w4 HRUN4.out ?_))
        all_goals exact HT
      rw [HW5.out]
      go_wp2
      go_region_law ((refine step_append_run rfl (.tmp 34) (.tmp 39) 24 24 rfl (.slice pd ND cd) (.slice (some ⟨W5.heap.size, 0, none⟩) 1 1) rfl rfl (.slice p6 n6 c6) w6 HRUN6.out ?_))
      all_goals
        go_wp2
        go_ret
        exact ⟨_, _, _, rfl, HST.out, HI.out, .inr ⟨rfl, HTOLD.out⟩⟩
  · have HTOLD := Lib.hid (kd_no1 hp1)
    obtain ⟨Z, hZ⟩ : ∃ Z : Nat, Z = 0 := ⟨0, rfl⟩
    have b2' : w1.heap[w.heap.size + 1]? = some (.cells #[.int .u64 (Z : Nat)] 39 (0, 0)) := by rw [hZ]; exact b2
    have b3' : w1.heap[w.heap.size + 2]? = some (.cells #[.int .u64 (Z : Nat)] 39 (0, 0)) := by rw [hZ]; exact b3
    have hz9 : Z < 18446744073709551616 := by omega
    clear hp1 b2 b3 hZ
    have hky := HKY.out.only HR.out hall1
    have hkd := HKD.out.only HR.out hall1
    have h0w : Below w0.heap.size w0 w1 := Below.only H0.out HB.out (Nat.le_of_lt (Nat.lt_of_le_of_lt HB.out HR.out.lt)) hall1
    obtain ⟨p4, n4, c4, w4, hrun4, hr4, hr5, hky5, hkd5, h05, hstay⟩ := key_push (k := m1) hr1 hky hkd h0w HB.out (by rw [List.length_map]; have := HN.out; omega) ht1
    have g2 := hstay _ _ b2'
    have g3 := hstay _ _ b3'
    obtain ⟨p6, n6, c6, w6, hrun6, hr6, hr7, hky7, hkd7, h07⟩ := kid_push (d := ⟨RowKit.wrap64 (Z : Nat), Z⟩) hr5 hky5 hkd5 h05 HB.out (by rw [List.length_map]; have := HN.out; omega) ⟨by show RowKit.wrap64 _ ≤ _; unfold RowKit.wrap64; omega, hz9⟩
    have hst : InSt w0 b (w6.setCell ⟨b, 5, none⟩ (.slice p6 n6 c6)) sv i1 fv (xs ++ [(m1, ⟨RowKit.wrap64 (Z : Nat), Z⟩)]) := ⟨_, _, hr7, by simpa using hky7, by simpa using hkd7, h07⟩
    have k4 := cells_of hr1 4
    have e0 := cells_of hc1 0
    have q4 := cells_of hr4 4
    have qf4 := free_of hr4 4
    have k5 := cells_of hr5 5
    have e2 := cells_of g2 0
    have e3 : (w4.setCell ⟨b, 4, none⟩ (.slice p4 n4 c4)).cell? ⟨w.heap.size + 1 + 1, 0, none⟩ = some (.int .u64 (Z : Nat)) := cells_of g3 0
    have q6 := cells_of hr6 5
    have qf6 := free_of hr6 5
    simp only [List.getElem?_toArray, List.getElem?_cons_zero, List.getElem?_cons_succ, List.setIfInBounds_toArray, List.set_cons_zero, List.set_cons_succ] at k4 e0 q4 k5 e2 q6
    have hw5 : b < (w4.setCell ⟨b, 4, none⟩ (.slice p4 n4 c4)).heap.size := hr5.lt
    obtain ⟨pk, ck, rfl, -⟩ := hky.at_
    obtain ⟨pd, cd, rfl, -⟩ := hkd.at_
    obtain ⟨pa, ca, rfl, -⟩ := ht1.bytes.any
    generalize (xs.map (·.1)).length = NK at *
    generalize (xs.map (·.2)).length = ND at *
    have k41 : (w1.alloc (.cells #[.slice pa m1.length ca] 30)).cell? ⟨b, 4, none⟩ = some (.slice pk NK ck) := (World.cell?_alloc_lt _ _ _ hr1.lt).trans k4
    have hO : IntKind.i64.wrap ((Z : Nat) : Int) = RowKit.wrap64 (Z : Nat) := by rw [IntKind.wrap_i64]; unfold RowKit.wrap64; rfl
    generalize RowKit.wrap64 (Z : Nat) = O at *
    generalize hW5 : w4.setCell ⟨b, 4, none⟩ (.slice p4 n4 c4) = W5 at *
    have k51 : (W5.alloc (.cells #[.int .i64 O, .int .u64 (Z : Nat)] 41)).cell? ⟨b, 5, none⟩ = some (.slice pd ND cd) := (World.cell?_alloc_lt _ _ _ hw5).trans k5
    have e21 : (W5.alloc (.cells #[.int .i64 O, .int .u64 (Z : Nat)] 41)).cell? ⟨w.heap.size + 1, 0, none⟩ = some (.int .u64 (Z : Nat)) := (World.cell?_alloc_lt _ _ _ (Array.getElem?_eq_some_iff.1 g2).1).trans e2
    have e31 : (W5.alloc (.cells #[.int .i64 O, .int .u64 (Z : Nat)] 41)).cell? ⟨w.heap.size + 1 + 1, 0, none⟩ = some (.int .u64 (Z : Nat)) := (World.cell?_alloc_lt _ _ _ (Array.getElem?_eq_some_iff.1 g3).1).trans e3
    have HRUN4 := Lib.hid hrun4; have HRUN6 := Lib.hid hrun6; have HST := Lib.hid hst; have HI := Lib.hid hi1; have HW5 := Lib.hid hW5
    clear hky hkd h0w hrun4 hr4 hr5 hky5 hkd5 h05 hstay hrun6 hr6 hr7 hky7 hkd7 h07 hst hr1 hall1 hc1 b2' b3' ht1 g2 g3 hw5 hW5 hi1
    go_wp2
    apply share
    · intro HT
      go_region_law ((refine step_append_run rfl (.tmp 22) (.tmp 24) 23 23 rfl (.slice pk NK ck) (.slice (some ⟨w1.heap.size, 0, none⟩) 1 1) rfl rfl (.slice p4 n4 c4) w4 HRUN4.out ?_))
      all_goals exact HT
    rw [HW5.out]
    go_wp2
    go_region_law ((refine step_append_run rfl (.tmp 34) (.tmp 39) 24 24 rfl (.slice pd ND cd) (.slice (some ⟨W5.heap.size, 0, none⟩) 1 1) rfl rfl (.slice p6 n6 c6) w6 HRUN6.out ?_))
    all_goals
      go_wp2
      go_ret
      exact ⟨_, _, _, rfl, HST.out, HI.out, .inr ⟨rfl, HTOLD.out⟩⟩
end Go.Proofs.Ytbjjaabmdjbodaa

