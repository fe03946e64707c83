/- The law HeadBack, walked: every call of it returns true, and all that was there before the call is as it was. -/
import Derived.Test.YtoegkdfeonkgkaaRows
import Derived.Test.YtoegkdfeonkgkaaHdI
import Derived.Test.YtoegkdfeonkgkaaHdO
import Derived.Test.YtoegkdfeonkgkaaRegP
import Derived.ChangeMaps5
namespace Go.Proofs.Ytoegkdfeonkgkaa
open Go Go.ChangeShapes Go.WideShapes Go.ChangeAt Go.RowKit Go.By

set_option maxRecDepth 100000 in
set_option maxHeartbeats 8000000 in
theorem headBack_any {w : World} (n f : Int) (tb : Bool) (df dc : Int) (ag : Bool) (t : Int) (u : Value) (md : List Nat) (off : Int) (hn : n ≤ 9223372036854775807) (hdf : df ≤ 9223372036854775807) (ht : t ≤ 9223372036854775807) (hoff : off ≤ 9223372036854775807) (hu : Bytes w u md) :
    Calls Try.prog 4 #[.agg #[.int .i64 n, .int .i64 f, .bool tb], .agg #[.int .i64 df, .int .i64 dc, .bool ag], .agg #[.int .i64 t, u], .int .i64 off] w fun z w' => z = .returned (.bool true) ∧ Below w.heap.size w w' := by
  obtain ⟨pm, cm, rfl, _⟩ := hu.any
  have hdm := hu.short
  unfold maxLen at hdm
  obtain ⟨LM, hLM⟩ : ∃ L, L = md.length := ⟨_, rfl⟩
  rw [← hLM] at hu hdm ⊢
  have HLM := Lib.hid hLM
  have HN := Lib.hid hn; have HDF := Lib.hid hdf; have HT := Lib.hid ht; have HOFF := Lib.hid hoff
  obtain ⟨W, hW⟩ : ∃ W, W = ((w.alloc (.cells #[.int .i64 n, .int .i64 f, .bool tb] 23)).alloc (.cells #[.int .i64 df, .int .i64 dc, .bool ag] 25)).alloc (.cells #[.int .i64 t, .slice pm LM cm] 28) := ⟨_, rfl⟩
  have hb : Below w.heap.size w W := by rw [hW]; exact (((Below.refl w.heap.size w).alloc (Nat.le_refl _) _).alloc (by simp) _).alloc (by simp; omega) _
  have hX5 : BlkAt W w.heap.size #[.int .i64 n, .int .i64 f, .bool tb] 23 := by
    rw [hW]
    exact ((BlkAt.new w _ _).below ((Below.refl _ _).alloc (Nat.le_refl _) _)).below ((Below.refl _ _).alloc (Nat.le_refl _) _)
  have hX6 : BlkAt W (w.heap.size + 1) #[.int .i64 df, .int .i64 dc, .bool ag] 25 := by
    rw [hW]
    have := (BlkAt.new (w.alloc (.cells #[.int .i64 n, .int .i64 f, .bool tb] 23)) #[.int .i64 df, .int .i64 dc, .bool ag] 25).below ((Below.refl _ _).alloc (Nat.le_refl _) (.cells #[.int .i64 t, .slice pm LM cm] 28))
    rw [World.size_alloc] at this
    exact this
  have hX7 : BlkAt W (w.heap.size + 2) #[.int .i64 t, .slice pm LM cm] 28 := by
    rw [hW]
    have := BlkAt.new ((w.alloc (.cells #[.int .i64 n, .int .i64 f, .bool tb] 23)).alloc (.cells #[.int .i64 df, .int .i64 dc, .bool ag] 25)) #[.int .i64 t, .slice pm LM cm] 28
    rw [World.size_alloc, World.size_alloc] at this
    exact this
  have HU0 := Lib.hid (hu.below hb); have HB0 := Lib.hid hb
  have HX50 := Lib.hid hX5; have HX60 := Lib.hid hX6; have HX70 := Lib.hid hX7; have HW := Lib.hid hW
  clear hu hb hX5 hX6 hX7 hW hn hdf ht hoff hLM
  go_enter Try.func4, Try.ntmps4
  go_wp2_with fail
  rw [← HW.out]
  clear HW
  refine (begun_any W).mono ?_
  rintro z w1 ⟨rfl, hb1⟩
  have HU1 := Lib.hid (HU0.out.below hb1); have HX51 := Lib.hid (HX50.out.below hb1); have HX61 := Lib.hid (HX60.out.below hb1); have HX71 := Lib.hid (HX70.out.below hb1)
  have HB1 : Hid (Below w.heap.size w w1) := HB0.out.trans (hb1.mono HB0.out.size)
  clear hb1 HU0 HX50 HX60 HX70 HB0
  obtain ⟨m0, m1⟩ := HX71.out.two
  by_cases h1 : 120 < (LM : Int)
  · go_wp2
    go_ret
    exact ⟨rfl, HB1.out⟩
  clear hdm
  have HPM : Hid (∀ wz, Bytes wz (.slice pm LM cm) md → Calls Try.prog 19 #[.agg #[.int .i64 t, .slice pm LM cm]] wz fun z w' => ∃ v', z = .returned v' ∧ w'.ownsRow wz.heap.size 5 1 v' (putMk ⟨t, md⟩).length (cellsOf (putMk ⟨t, md⟩)) ∧ Below wz.heap.size wz w') := fun wz h => by
    have := putMark_any t pm cm md wz (by rw [← HLM.out]; exact h) HT.out
    rw [← HLM.out] at this
    exact this
  obtain ⟨c0, c1, c2⟩ := HX51.out.three
  go_wp2_with fail
  clear h1 m0 m1
  clear c0 c1 c2
  refine (putHead_any n f tb w1 HN.out).mono ?_
  rintro z v2 ⟨y2, rfl, ho2, hb2⟩
  have HU2 := Lib.hid (HU1.out.below hb2); have HX52 := Lib.hid (HX51.out.below hb2); have HX62 := Lib.hid (HX61.out.below hb2); have HX72 := Lib.hid (HX71.out.below hb2)
  have HB2 : Hid (Below w.heap.size w v2) := HB1.out.trans (hb2.mono HB1.out.size)
  obtain ⟨p2, c2', rfl, hy2⟩ := row_bytes ho2 (putHd_small _) (by have := putHd_length ⟨n, f, tb⟩; omega)
  have HY2 := Lib.hid hy2
  clear hb2 ho2 hy2 HU1 HX51 HX61 HX71 HB1
  go_wp2_with fail
  refine (takeHead_any _ (putHd ⟨n, f, tb⟩) v2 HY2.out).mono ?_
  rintro z v3 ⟨rfl, hb3⟩
  rw [show hdV (putHd ⟨n, f, tb⟩) = .tuple #[.agg #[.int .i64 (hdH (putHd ⟨n, f, tb⟩)).nx, .int .i64 (hdH (putHd ⟨n, f, tb⟩)).fi, .bool (hdH (putHd ⟨n, f, tb⟩)).tb], .int .i64 (hdC (putHd ⟨n, f, tb⟩))] from rfl]
  generalize qHN1 : (hdH (putHd ⟨n, f, tb⟩)).nx = HN1 at *
  have QHN1 := Lib.hid qHN1
  clear qHN1
  generalize qHF1 : (hdH (putHd ⟨n, f, tb⟩)).fi = HF1 at *
  have QHF1 := Lib.hid qHF1
  clear qHF1
  generalize qHT1 : (hdH (putHd ⟨n, f, tb⟩)).tb = HT1 at *
  have QHT1 := Lib.hid qHT1
  clear qHT1
  generalize qHC1 : hdC (putHd ⟨n, f, tb⟩) = HC1 at *
  have QHC1 := Lib.hid qHC1
  clear qHC1
  obtain ⟨w3, hw3⟩ : ∃ W, W = v3.alloc (.cells #[.int .i64 HN1, .int .i64 HF1, .bool HT1] 23) := ⟨_, rfl⟩
  have hc3 : Below v3.heap.size v3 w3 := by rw [hw3]; exact (Below.refl _ _).alloc (Nat.le_refl _) _
  have hd3 := hb3.trans (hc3.mono hb3.size)
  have HR93 : Hid (BlkAt w3 v3.heap.size #[.int .i64 HN1, .int .i64 HF1, .bool HT1] 23) := by unfold Hid; rw [hw3]; exact BlkAt.new ..
  have HU3 := Lib.hid (HU2.out.below hd3); have HX53 := Lib.hid (HX52.out.below hd3); have HX63 := Lib.hid (HX62.out.below hd3); have HX73 := Lib.hid (HX72.out.below hd3)
  have HB3 : Hid (Below w.heap.size w w3) := HB2.out.trans (hd3.mono HB2.out.size)
  have HW3 := Lib.hid hw3
  clear hb3 hc3 hd3 hw3 HU2 HX52 HX62 HX72 HB2 HY2
  obtain ⟨c0, c1, c2⟩ := HX63.out.three
  rw [HW3.out] at c0 c1 c2
  go_wp2_with fail
  rw [← HW3.out]
  clear HW3
  clear c0 c1 c2
  refine (putDone_any df dc ag w3 HDF.out).mono ?_
  rintro z v4 ⟨y4, rfl, ho4, hb4⟩
  have HU4 := Lib.hid (HU3.out.below hb4); have HX54 := Lib.hid (HX53.out.below hb4); have HX64 := Lib.hid (HX63.out.below hb4); have HX74 := Lib.hid (HX73.out.below hb4); have HR94 := Lib.hid (HR93.out.below hb4)
  have HB4 : Hid (Below w.heap.size w v4) := HB3.out.trans (hb4.mono HB3.out.size)
  obtain ⟨p4, c4', rfl, hy4⟩ := row_bytes ho4 (putDn_small _) (by have := putDn_length ⟨df, dc, ag⟩; omega)
  have HY4 := Lib.hid hy4
  clear hb4 ho4 hy4 HU3 HX53 HX63 HX73 HR93 HB3
  go_wp2_with fail
  refine (takeDone_any _ (putDn ⟨df, dc, ag⟩) v4 HY4.out).mono ?_
  rintro z v5 ⟨rfl, hb5⟩
  rw [show dnV (putDn ⟨df, dc, ag⟩) = .tuple #[.agg #[.int .i64 (dnD (putDn ⟨df, dc, ag⟩)).fi, .int .i64 (dnD (putDn ⟨df, dc, ag⟩)).ct, .bool (dnD (putDn ⟨df, dc, ag⟩)).ag], .int .i64 (dnC (putDn ⟨df, dc, ag⟩))] from rfl]
  generalize qDF1 : (dnD (putDn ⟨df, dc, ag⟩)).fi = DF1 at *
  have QDF1 := Lib.hid qDF1
  clear qDF1
  generalize qDC1 : (dnD (putDn ⟨df, dc, ag⟩)).ct = DC1 at *
  have QDC1 := Lib.hid qDC1
  clear qDC1
  generalize qDA1 : (dnD (putDn ⟨df, dc, ag⟩)).ag = DA1 at *
  have QDA1 := Lib.hid qDA1
  clear qDA1
  generalize qDE1 : dnC (putDn ⟨df, dc, ag⟩) = DE1 at *
  have QDE1 := Lib.hid qDE1
  clear qDE1
  obtain ⟨w5, hw5⟩ : ∃ W, W = v5.alloc (.cells #[.int .i64 DF1, .int .i64 DC1, .bool DA1] 25) := ⟨_, rfl⟩
  have hc5 : Below v5.heap.size v5 w5 := by rw [hw5]; exact (Below.refl _ _).alloc (Nat.le_refl _) _
  have hd5 := hb5.trans (hc5.mono hb5.size)
  have HR115 : Hid (BlkAt w5 v5.heap.size #[.int .i64 DF1, .int .i64 DC1, .bool DA1] 25) := by unfold Hid; rw [hw5]; exact BlkAt.new ..
  have HU5 := Lib.hid (HU4.out.below hd5); have HX55 := Lib.hid (HX54.out.below hd5); have HX65 := Lib.hid (HX64.out.below hd5); have HX75 := Lib.hid (HX74.out.below hd5); have HR95 := Lib.hid (HR94.out.below hd5)
  have HB5 : Hid (Below w.heap.size w w5) := HB4.out.trans (hd5.mono HB4.out.size)
  have HW5 := Lib.hid hw5
  clear hb5 hc5 hd5 hw5 HU4 HX54 HX64 HX74 HR94 HB4 HY4
  obtain ⟨c0, c1⟩ := HX75.out.two
  rw [HW5.out] at c0 c1
  go_wp2_with fail
  rw [← HW5.out]
  clear HW5
  clear c0 c1
  refine (HPM.out w5 HU5.out).mono ?_
  rintro z v6 ⟨y6, rfl, ho6, hb6⟩
  have HU6 := Lib.hid (HU5.out.below hb6); have HX56 := Lib.hid (HX55.out.below hb6); have HX66 := Lib.hid (HX65.out.below hb6); have HX76 := Lib.hid (HX75.out.below hb6); have HR96 := Lib.hid (HR95.out.below hb6); have HR116 := Lib.hid (HR115.out.below hb6)
  have HB6 : Hid (Below w.heap.size w v6) := HB5.out.trans (hb6.mono HB5.out.size)
  obtain ⟨p6, c6', rfl, hy6⟩ := row_bytes ho6 (putMk_small HU6.out.small) (putMk_length _)
  have HY6 := Lib.hid hy6
  clear hb6 ho6 hy6 HU5 HX55 HX65 HX75 HR95 HR115 HB5
  go_wp2_with fail
  refine (takeMark_any _ (putMk ⟨t, md⟩) v6 HY6.out).mono ?_
  rintro z v7 ⟨⟨u7, rfl, hu7⟩, hb7⟩
  obtain ⟨pu7, cu7, rfl, _⟩ := hu7.any
  generalize hMA : (mkM (putMk ⟨t, md⟩)).at_ = MA at *
  generalize hMC : mkC (putMk ⟨t, md⟩) = MC at *
  generalize hMD : (mkM (putMk ⟨t, md⟩)).da = MD at *
  generalize hML : MD.length = ML at *
  have QMA := Lib.hid hMA; have QMC := Lib.hid hMC; have QMD := Lib.hid hMD
  clear hMA hMC hMD hML
  obtain ⟨w7, hw7⟩ : ∃ W, W = v7.alloc (.cells #[.int .i64 MA, .slice pu7 ML cu7] 28) := ⟨_, rfl⟩
  have hc7 : Below v7.heap.size v7 w7 := by rw [hw7]; exact (Below.refl _ _).alloc (Nat.le_refl _) _
  have hd7 := hb7.trans (hc7.mono hb7.size)
  have HR137 : Hid (BlkAt w7 v7.heap.size #[.int .i64 MA, .slice pu7 ML cu7] 28) := by unfold Hid; rw [hw7]; exact BlkAt.new ..
  have HU7 := Lib.hid (HU6.out.below hd7); have HX57 := Lib.hid (HX56.out.below hd7); have HX67 := Lib.hid (HX66.out.below hd7); have HX77 := Lib.hid (HX76.out.below hd7); have HR97 := Lib.hid (HR96.out.below hd7); have HR117 := Lib.hid (HR116.out.below hd7)
  have HB7 : Hid (Below w.heap.size w w7) := HB6.out.trans (hd7.mono HB6.out.size)
  have HUR7 := Lib.hid (hu7.below hc7)
  have HW7 := Lib.hid hw7
  clear hb7 hc7 hd7 hw7 hu7 HU6 HX56 HX66 HX76 HR96 HR116 HB6 HY6
  go_wp2_with fail
  rw [← HW7.out]
  clear HW7
  refine (putOff_any off w7 HOFF.out).mono ?_
  rintro z v8 ⟨y8, rfl, ho8, hb8⟩
  have HU8 := Lib.hid (HU7.out.below hb8); have HX58 := Lib.hid (HX57.out.below hb8); have HX68 := Lib.hid (HX67.out.below hb8); have HX78 := Lib.hid (HX77.out.below hb8); have HR98 := Lib.hid (HR97.out.below hb8); have HR118 := Lib.hid (HR117.out.below hb8); have HR138 := Lib.hid (HR137.out.below hb8); have HUR8 := Lib.hid (HUR7.out.below hb8)
  have HB8 : Hid (Below w.heap.size w v8) := HB7.out.trans (hb8.mono HB7.out.size)
  obtain ⟨p8, c8', rfl, hy8⟩ := row_bytes ho8 (putOf_small _) (by have := putOf_length off; omega)
  have HY8 := Lib.hid hy8
  clear hb8 ho8 hy8 HU7 HX57 HX67 HX77 HR97 HR117 HR137 HUR7 HB7
  go_wp2_with fail
  refine (takeOff_any _ (putOf off) v8 HY8.out).mono ?_
  rintro z v9 ⟨rfl, hb9⟩
  rw [show ofV (putOf off) = .tuple #[.int .i64 (ofN (putOf off)), .int .i64 (ofC (putOf off))] from rfl]
  generalize qON1 : ofN (putOf off) = ON1 at *
  have QON1 := Lib.hid qON1
  clear qON1
  generalize qOC1 : ofC (putOf off) = OC1 at *
  have QOC1 := Lib.hid qOC1
  clear qOC1
  have HU9 := Lib.hid (HU8.out.below hb9); have HX59 := Lib.hid (HX58.out.below hb9); have HX69 := Lib.hid (HX68.out.below hb9); have HX79 := Lib.hid (HX78.out.below hb9); have HR99 := Lib.hid (HR98.out.below hb9); have HR119 := Lib.hid (HR118.out.below hb9); have HR139 := Lib.hid (HR138.out.below hb9); have HUR9 := Lib.hid (HUR8.out.below hb9)
  have HB9 : Hid (Below w.heap.size w v9) := HB8.out.trans (hb9.mono HB8.out.size)
  clear hb9 HU8 HX58 HX68 HX78 HR98 HR118 HR138 HUR8 HB8 HY8
  obtain ⟨x50, x51, x52⟩ := HX59.out.three
  obtain ⟨x60, x61, x62⟩ := HX69.out.three
  obtain ⟨x70, x71⟩ := HX79.out.two
  obtain ⟨r90, r91, r92⟩ := HR99.out.three
  obtain ⟨r110, r111, r112⟩ := HR119.out.three
  obtain ⟨r130, r131⟩ := HR139.out.two
  have hct1 := HUR9.out.toString (P := Try.prog) byT (d := 9) (by kernel_rfl)
  have hct2 := HU9.out.toString (P := Try.prog) byT (d := 9) (by kernel_rfl)
  have hA : (mayHd ⟨n, f, tb⟩ = true ∧ 0 ≤ f ∧ f ≤ n ∧ HC1 = 0 ∧ HN1 = n ∧ HF1 = f ∧ HT1 = tb) ∨ (HC1 = 2 ∧ (¬ 0 ≤ f ∨ (0 ≤ f ∧ ¬ f ≤ n))) := by
    cases hm : mayHd ⟨n, f, tb⟩ with
    | true =>
      obtain ⟨h0, h1⟩ := (mayHd_iff _).1 hm
      have ht := takeHd_put hm HN.out
      have e1 : hdH (putHd ⟨n, f, tb⟩) = ⟨n, f, tb⟩ := by unfold hdH; rw [ht]; rfl
      have e2 : hdC (putHd ⟨n, f, tb⟩) = 0 := by unfold hdC; rw [ht]; rfl
      exact .inl ⟨rfl, h0, h1, by rw [← QHC1.out, e2], by rw [← QHN1.out, e1], by rw [← QHF1.out, e1], by rw [← QHT1.out, e1]⟩
    | false =>
      have ht := takeHd_no hm
      refine .inr ⟨by rw [← QHC1.out]; unfold hdC; rw [ht]; rfl, ?_⟩
      by_cases h0 : 0 ≤ f
      · by_cases h1 : f ≤ n
        · rw [(mayHd_iff _).2 ⟨h0, h1⟩] at hm; cases hm
        · exact .inr ⟨h0, h1⟩
      · exact .inl h0
  have hD : (0 ≤ df ∧ 1 ≤ dc ∧ dc ≤ 65535 ∧ ag = false ∧ DE1 = 0 ∧ DF1 = df ∧ DC1 = dc ∧ DA1 = false) ∨ (DE1 = 2 ∧ (¬ 0 ≤ df ∨ (0 ≤ df ∧ ¬ 1 ≤ dc) ∨ (0 ≤ df ∧ 1 ≤ dc ∧ ¬ dc ≤ 65535) ∨ (0 ≤ df ∧ 1 ≤ dc ∧ dc ≤ 65535 ∧ ag = true))) := by
    cases hm : mayDn ⟨df, dc, ag⟩ with
    | true =>
      obtain ⟨h0, h1, h2, h3⟩ := (mayDn_iff _).1 hm
      have ht := takeDn_put hm HDF.out
      have e1 : dnD (putDn ⟨df, dc, ag⟩) = ⟨df, dc, ag⟩ := by unfold dnD; rw [ht]; rfl
      have e2 : dnC (putDn ⟨df, dc, ag⟩) = 0 := by unfold dnC; rw [ht]; rfl
      exact .inl ⟨h0, h1, h2, h3, by rw [← QDE1.out, e2], by rw [← QDF1.out, e1], by rw [← QDC1.out, e1], by rw [← QDA1.out, e1]; exact h3⟩
    | false =>
      have ht := takeDn_no hm
      refine .inr ⟨by rw [← QDE1.out]; unfold dnC; rw [ht]; rfl, ?_⟩
      by_cases h0 : 0 ≤ df
      · by_cases h1 : 1 ≤ dc
        · by_cases h2 : dc ≤ 65535
          · cases ag with
            | false => rw [(mayDn_iff _).2 ⟨h0, h1, h2, rfl⟩] at hm; cases hm
            | true => exact .inr (.inr (.inr ⟨h0, h1, h2, rfl⟩))
          · exact .inr (.inr (.inl ⟨h0, h1, h2⟩))
        · exact .inr (.inl ⟨h0, h1⟩)
      · exact .inl h0
  have hMk : (0 ≤ t ∧ (LM : Int) ≤ 100 ∧ MC = 0 ∧ MA = t ∧ MD = md) ∨ (MC = 2 ∧ (¬ 0 ≤ t ∨ (0 ≤ t ∧ ¬ (LM : Int) ≤ 100))) := by
    cases hm : mayMk ⟨t, md⟩ with
    | true =>
      obtain ⟨h0, h1⟩ := (mayMk_iff _).1 hm
      have ht := takeMk_put hm HT.out
      obtain ⟨e1, e2⟩ := mk_yes ht
      exact .inl ⟨h0, by have := HLM.out; dsimp only at h1; omega, by rw [← QMC.out, e2], by rw [← QMA.out, e1], by rw [← QMD.out, e1]⟩
    | false =>
      obtain ⟨e1, e2⟩ := mk_no (takeMk_no hm)
      refine .inr ⟨by rw [← QMC.out, e2], ?_⟩
      by_cases h0 : 0 ≤ t
      · refine .inr ⟨h0, fun h1 => ?_⟩
        rw [(mayMk_iff _).2 ⟨h0, by have := HLM.out; dsimp only; omega⟩] at hm; cases hm
      · exact .inl h0
  have hO : (0 ≤ off ∧ OC1 = 0 ∧ ON1 = off) ∨ (off < 0 ∧ OC1 = 2) := by
    by_cases h0 : 0 ≤ off
    · have ht := takeOf_put h0 HOFF.out
      exact .inl ⟨h0, by rw [← QOC1.out]; unfold ofC; rw [ht]; rfl, by rw [← QON1.out]; unfold ofN; rw [ht]; rfl⟩
    · exact .inr ⟨by omega, by rw [← QOC1.out]; unfold ofC; rw [takeOf_no h0]; rfl⟩
  clear QHN1 QHF1 QHT1 QHC1 QDF1 QDC1 QDA1 QDE1 QMA QMC QMD QON1 QOC1 HPM
  rename_i K1 hK1 K2 hK2
  have HK1 := Lib.hid hK1
  clear hK1
  clear x50 x51 x52 x60 x61 x62 x70 x71 r90 r91 r92 r110 r111 r112 r130 r131 hct1 hct2
  go_wp2
  refine HK1.out _ _ ?_
  obtain ⟨A0, hA0⟩ : ∃ A, decide (0 ≤ f) = A := ⟨_, rfl⟩
  obtain ⟨A1, hA1⟩ : ∃ A, decide (f ≤ n) = A := ⟨_, rfl⟩
  obtain ⟨A2, hA2⟩ : ∃ A, (A0 && A1) = A := ⟨_, rfl⟩
  obtain ⟨B0, hB0⟩ : ∃ A, decide (0 ≤ df) = A := ⟨_, rfl⟩
  obtain ⟨B1, hB1⟩ : ∃ A, decide (1 ≤ dc) = A := ⟨_, rfl⟩
  obtain ⟨B2, hB2⟩ : ∃ A, decide (dc ≤ 65535) = A := ⟨_, rfl⟩
  obtain ⟨C1, hC1⟩ : ∃ A, (B0 && B1) = A := ⟨_, rfl⟩
  obtain ⟨C2, hC2⟩ : ∃ A, (C1 && B2) = A := ⟨_, rfl⟩
  obtain ⟨AG, hAG⟩ : ∃ A, (!ag) = A := ⟨_, rfl⟩
  obtain ⟨C3, hC3⟩ : ∃ A, (C2 && AG) = A := ⟨_, rfl⟩
  obtain ⟨M0, hM0⟩ : ∃ A, decide (0 ≤ t) = A := ⟨_, rfl⟩
  obtain ⟨M1, hM1⟩ : ∃ A, decide ((LM : Int) ≤ 100) = A := ⟨_, rfl⟩
  obtain ⟨M2, hM2⟩ : ∃ A, (M0 && M1) = A := ⟨_, rfl⟩
  have HA0 := Lib.hid hA0; have HA1 := Lib.hid hA1; have HA2 := Lib.hid hA2; have HB0 := Lib.hid hB0; have HB1x := Lib.hid hB1; have HB2x := Lib.hid hB2; have HC1x := Lib.hid hC1; have HC2x := Lib.hid hC2; have HAG := Lib.hid hAG; have HC3x := Lib.hid hC3; have HM0 := Lib.hid hM0; have HM1 := Lib.hid hM1; have HM2 := Lib.hid hM2
  have HHA := Lib.hid hA; have HHD := Lib.hid hD; have HHM := Lib.hid hMk; have HHO := Lib.hid hO
  clear hA0 hA1 hA2 hB0 hB1 hB2 hC1 hC2 hAG hC3 hM0 hM1 hM2 hA hD hMk hO
  refine wp_seq_k fun K9 hK9 => ?_
  refine wp_region_left_plain
    [.is (.pointer (some ⟨w.heap.size, 1, none⟩)),
     .is (.int .i64 f),
     .is (.bool A0),
     .is (.bool A0),
     .is (if A0 = true then (.pointer (some ⟨w.heap.size, 1, none⟩)) else undef),
     .is (if A0 = true then (.int .i64 f) else undef),
     .is (if A0 = true then (.pointer (some ⟨w.heap.size, 0, none⟩)) else undef),
     .is (if A0 = true then (.int .i64 n) else undef),
     .is (if A0 = true then (.bool A1) else undef),
     .is (.bool A2),
     .is (.bool A2)]
    [[], [0], [1], [2], [3], [3, 4], [3], [3, 6], [3, 5, 7], [3, 8], [9]] (by kernel_rfl) (by rfl) ?_ ?_
  · refine LeftOps.cons ?_ (LeftOps.cons ?_ (LeftOps.cons ?_ (LeftOps.cons ?_ (LeftOps.cons ?_ (LeftOps.cons ?_ (LeftOps.cons ?_ (LeftOps.cons ?_ (LeftOps.cons ?_ (LeftOps.cons ?_ (LeftOps.cons ?_ (LeftOps.nil)))))))))))
    · intro wa hwa
      refine withLeft_nil ?_
      refine lft_run rfl rfl ?_
      unfold LftRun
      go_wp2
      exact ⟨rfl, rfl, rfl, Below.refl _ _⟩
    · intro wa hwa
      refine withLeft_is rfl rfl ?_
      refine withLeft_nil ?_
      simp only [Act.put, List.setIfInBounds_toArray, List.set_cons_zero, List.set_cons_succ]
      refine lft_run rfl rfl ?_
      unfold LftRun
      obtain ⟨y0, y1, y2⟩ := (HX59.out.below hwa).three
      go_wp2
      exact ⟨rfl, rfl, rfl, Below.refl _ _⟩
    · intro wa hwa
      refine withLeft_is rfl rfl ?_
      refine withLeft_nil ?_
      simp only [Act.put, List.setIfInBounds_toArray, List.set_cons_zero, List.set_cons_succ]
      refine lft_run rfl rfl ?_
      unfold LftRun
      have hz := HA0.out
      go_wp2
      exact ⟨rfl, by rw [← hz]; rfl, rfl, Below.refl _ _⟩
    · intro wa hwa
      refine withLeft_is rfl rfl ?_
      refine withLeft_nil ?_
      simp only [Act.put, List.setIfInBounds_toArray, List.set_cons_zero, List.set_cons_succ]
      refine lft_run rfl rfl ?_
      exact lft_move rfl (by first | rfl | assumption)
    · intro wa hwa
      refine withLeft_is rfl rfl ?_
      refine withLeft_nil ?_
      simp only [Act.put, List.setIfInBounds_toArray, List.set_cons_zero, List.set_cons_succ]
      refine lft_maybe rfl rfl rfl rfl rfl (fun hgv => ?_)
      subst hgv
      simp only [if_true, reduceIte]
      unfold LftRun
      go_wp2
      exact ⟨rfl, rfl, rfl, Below.refl _ _⟩
    · intro wa hwa
      refine withLeft_is rfl rfl ?_
      refine withLeft_is rfl rfl ?_
      refine withLeft_nil ?_
      simp only [Act.put, List.setIfInBounds_toArray, List.set_cons_zero, List.set_cons_succ]
      refine lft_maybe rfl rfl rfl rfl rfl (fun hgv => ?_)
      subst hgv
      simp only [if_true, reduceIte]
      unfold LftRun
      obtain ⟨y0, y1, y2⟩ := (HX59.out.below hwa).three
      go_wp2
      exact ⟨rfl, rfl, rfl, Below.refl _ _⟩
    · intro wa hwa
      refine withLeft_is rfl rfl ?_
      refine withLeft_nil ?_
      simp only [Act.put, List.setIfInBounds_toArray, List.set_cons_zero, List.set_cons_succ]
      refine lft_maybe rfl rfl rfl rfl rfl (fun hgv => ?_)
      subst hgv
      simp only [if_true, reduceIte]
      unfold LftRun
      go_wp2
      exact ⟨rfl, rfl, rfl, Below.refl _ _⟩
    · intro wa hwa
      refine withLeft_is rfl rfl ?_
      refine withLeft_is rfl rfl ?_
      refine withLeft_nil ?_
      simp only [Act.put, List.setIfInBounds_toArray, List.set_cons_zero, List.set_cons_succ]
      refine lft_maybe rfl rfl rfl rfl rfl (fun hgv => ?_)
      subst hgv
      simp only [if_true, reduceIte]
      unfold LftRun
      obtain ⟨y0, y1, y2⟩ := (HX59.out.below hwa).three
      go_wp2
      exact ⟨rfl, rfl, rfl, Below.refl _ _⟩
    · intro wa hwa
      refine withLeft_is rfl rfl ?_
      refine withLeft_is rfl rfl ?_
      refine withLeft_is rfl rfl ?_
      refine withLeft_nil ?_
      simp only [Act.put, List.setIfInBounds_toArray, List.set_cons_zero, List.set_cons_succ]
      refine lft_maybe rfl rfl rfl rfl rfl (fun hgv => ?_)
      subst hgv
      simp only [if_true, reduceIte]
      unfold LftRun
      have hz := HA1.out
      go_wp2
      exact ⟨rfl, by rw [← hz]; rfl, rfl, Below.refl _ _⟩
    · intro wa hwa
      refine withLeft_is rfl rfl ?_
      refine withLeft_is rfl rfl ?_
      refine withLeft_nil ?_
      simp only [Act.put, List.setIfInBounds_toArray, List.set_cons_zero, List.set_cons_succ]
      refine lft_run rfl rfl ?_
      rw [← HA2.out]
      cases A0 <;> exact lft_pick rfl rfl rfl
    · intro wa hwa
      refine withLeft_is rfl rfl ?_
      refine withLeft_nil ?_
      simp only [Act.put, List.setIfInBounds_toArray, List.set_cons_zero, List.set_cons_succ]
      refine lft_run rfl rfl ?_
      exact lft_assign rfl (by first | rfl | assumption)
  intro wa hwa
  refine LeftEnd.is (LeftEnd.is (LeftEnd.is (LeftEnd.is (LeftEnd.is (LeftEnd.is (LeftEnd.is (LeftEnd.is (LeftEnd.is (LeftEnd.is (LeftEnd.is (LeftEnd.nil ?_)))))))))))
  simp only [Act.put, List.setIfInBounds_toArray, List.set_cons_zero, List.set_cons_succ]
  refine hK9 _ _ ?_
  generalize (if A0 = true then ((.pointer (some ⟨w.heap.size, 1, none⟩)) : Value) else undef) = z54
  generalize (if A0 = true then ((.int .i64 f) : Value) else undef) = z55
  generalize (if A0 = true then ((.pointer (some ⟨w.heap.size, 0, none⟩)) : Value) else undef) = z56
  generalize (if A0 = true then ((.int .i64 n) : Value) else undef) = z57
  generalize (if A0 = true then ((.bool A1) : Value) else undef) = z58
  clear hK9 K9
  have HX6a := Lib.hid (HX69.out.below hwa); have HX7a := Lib.hid (HX79.out.below hwa)
  refine wp_seq_k fun K9 hK9 => ?_
  refine wp_region_left_plain
    [.is (.pointer (some ⟨w.heap.size + 1, 0, none⟩)),
     .is (.int .i64 df),
     .is (.bool B0),
     .is (.bool B0),
     .is (if B0 = true then (.pointer (some ⟨w.heap.size + 1, 1, none⟩)) else undef),
     .is (if B0 = true then (.int .i64 dc) else undef),
     .is (if B0 = true then (.bool B1) else undef),
     .is (.bool C1),
     .is (.bool C1),
     .is (if C1 = true then (.pointer (some ⟨w.heap.size + 1, 1, none⟩)) else undef),
     .is (if C1 = true then (.int .i64 dc) else undef),
     .is (if C1 = true then (.bool B2) else undef),
     .is (.bool C2),
     .is (.bool C2),
     .is (if C2 = true then (.pointer (some ⟨w.heap.size + 1, 2, none⟩)) else undef),
     .is (if C2 = true then (.bool ag) else undef),
     .is (if C2 = true then (.bool AG) else undef),
     .is (.bool C3),
     .is (.bool C3)]
    [[], [0], [1], [2], [3], [3, 4], [3, 5], [3, 6], [7], [8], [8, 9], [8, 10], [8, 11], [12], [13], [13, 14], [13, 15], [13, 16], [17]] (by kernel_rfl) (by rfl) ?_ ?_
  · refine LeftOps.cons ?_ (LeftOps.cons ?_ (LeftOps.cons ?_ (LeftOps.cons ?_ (LeftOps.cons ?_ (LeftOps.cons ?_ (LeftOps.cons ?_ (LeftOps.cons ?_ (LeftOps.cons ?_ (LeftOps.cons ?_ (LeftOps.cons ?_ (LeftOps.cons ?_ (LeftOps.cons ?_ (LeftOps.cons ?_ (LeftOps.cons ?_ (LeftOps.cons ?_ (LeftOps.cons ?_ (LeftOps.cons ?_ (LeftOps.cons ?_ (LeftOps.nil)))))))))))))))))))
    · intro wb hwb
      refine withLeft_nil ?_
      refine lft_run rfl rfl ?_
      unfold LftRun
      go_wp2
      exact ⟨rfl, rfl, rfl, Below.refl _ _⟩
    · intro wb hwb
      refine withLeft_is rfl rfl ?_
      refine withLeft_nil ?_
      simp only [Act.put, List.setIfInBounds_toArray, List.set_cons_zero, List.set_cons_succ]
      refine lft_run rfl rfl ?_
      unfold LftRun
      obtain ⟨y0, y1, y2⟩ := (HX6a.out.below hwb).three
      go_wp2
      exact ⟨rfl, rfl, rfl, Below.refl _ _⟩
    · intro wb hwb
      refine withLeft_is rfl rfl ?_
      refine withLeft_nil ?_
      simp only [Act.put, List.setIfInBounds_toArray, List.set_cons_zero, List.set_cons_succ]
      refine lft_run rfl rfl ?_
      unfold LftRun
      have hz := HB0.out
      go_wp2
      exact ⟨rfl, by rw [← hz]; rfl, rfl, Below.refl _ _⟩
    · intro wb hwb
      refine withLeft_is rfl rfl ?_
      refine withLeft_nil ?_
      simp only [Act.put, List.setIfInBounds_toArray, List.set_cons_zero, List.set_cons_succ]
      refine lft_run rfl rfl ?_
      exact lft_move rfl (by first | rfl | assumption)
    · intro wb hwb
      refine withLeft_is rfl rfl ?_
      refine withLeft_nil ?_
      simp only [Act.put, List.setIfInBounds_toArray, List.set_cons_zero, List.set_cons_succ]
      refine lft_maybe rfl rfl rfl rfl rfl (fun hgv => ?_)
      subst hgv
      simp only [if_true, reduceIte]
      unfold LftRun
      go_wp2
      exact ⟨rfl, rfl, rfl, Below.refl _ _⟩
    · intro wb hwb
      refine withLeft_is rfl rfl ?_
      refine withLeft_is rfl rfl ?_
      refine withLeft_nil ?_
      simp only [Act.put, List.setIfInBounds_toArray, List.set_cons_zero, List.set_cons_succ]
      refine lft_maybe rfl rfl rfl rfl rfl (fun hgv => ?_)
      subst hgv
      simp only [if_true, reduceIte]
      unfold LftRun
      obtain ⟨y0, y1, y2⟩ := (HX6a.out.below hwb).three
      go_wp2
      exact ⟨rfl, rfl, rfl, Below.refl _ _⟩
    · intro wb hwb
      refine withLeft_is rfl rfl ?_
      refine withLeft_is rfl rfl ?_
      refine withLeft_nil ?_
      simp only [Act.put, List.setIfInBounds_toArray, List.set_cons_zero, List.set_cons_succ]
      refine lft_maybe rfl rfl rfl rfl rfl (fun hgv => ?_)
      subst hgv
      simp only [if_true, reduceIte]
      unfold LftRun
      have hz := HB1x.out
      go_wp2
      exact ⟨rfl, by rw [← hz]; rfl, rfl, Below.refl _ _⟩
    · intro wb hwb
      refine withLeft_is rfl rfl ?_
      refine withLeft_is rfl rfl ?_
      refine withLeft_nil ?_
      simp only [Act.put, List.setIfInBounds_toArray, List.set_cons_zero, List.set_cons_succ]
      refine lft_run rfl rfl ?_
      rw [← HC1x.out]
      cases B0 <;> exact lft_pick rfl rfl rfl
    · intro wb hwb
      refine withLeft_is rfl rfl ?_
      refine withLeft_nil ?_
      simp only [Act.put, List.setIfInBounds_toArray, List.set_cons_zero, List.set_cons_succ]
      refine lft_run rfl rfl ?_
      exact lft_move rfl (by first | rfl | assumption)
    · intro wb hwb
      refine withLeft_is rfl rfl ?_
      refine withLeft_nil ?_
      simp only [Act.put, List.setIfInBounds_toArray, List.set_cons_zero, List.set_cons_succ]
      refine lft_maybe rfl rfl rfl rfl rfl (fun hgv => ?_)
      subst hgv
      simp only [if_true, reduceIte]
      unfold LftRun
      go_wp2
      exact ⟨rfl, rfl, rfl, Below.refl _ _⟩
    · intro wb hwb
      refine withLeft_is rfl rfl ?_
      refine withLeft_is rfl rfl ?_
      refine withLeft_nil ?_
      simp only [Act.put, List.setIfInBounds_toArray, List.set_cons_zero, List.set_cons_succ]
      refine lft_maybe rfl rfl rfl rfl rfl (fun hgv => ?_)
      subst hgv
      simp only [if_true, reduceIte]
      unfold LftRun
      obtain ⟨y0, y1, y2⟩ := (HX6a.out.below hwb).three
      go_wp2
      exact ⟨rfl, rfl, rfl, Below.refl _ _⟩
    · intro wb hwb
      refine withLeft_is rfl rfl ?_
      refine withLeft_is rfl rfl ?_
      refine withLeft_nil ?_
      simp only [Act.put, List.setIfInBounds_toArray, List.set_cons_zero, List.set_cons_succ]
      refine lft_maybe rfl rfl rfl rfl rfl (fun hgv => ?_)
      subst hgv
      simp only [if_true, reduceIte]
      unfold LftRun
      have hz := HB2x.out
      go_wp2
      exact ⟨rfl, by rw [← hz]; rfl, rfl, Below.refl _ _⟩
    · intro wb hwb
      refine withLeft_is rfl rfl ?_
      refine withLeft_is rfl rfl ?_
      refine withLeft_nil ?_
      simp only [Act.put, List.setIfInBounds_toArray, List.set_cons_zero, List.set_cons_succ]
      refine lft_run rfl rfl ?_
      rw [← HC2x.out]
      cases C1 <;> exact lft_pick rfl rfl rfl
    · intro wb hwb
      refine withLeft_is rfl rfl ?_
      refine withLeft_nil ?_
      simp only [Act.put, List.setIfInBounds_toArray, List.set_cons_zero, List.set_cons_succ]
      refine lft_run rfl rfl ?_
      exact lft_move rfl (by first | rfl | assumption)
    · intro wb hwb
      refine withLeft_is rfl rfl ?_
      refine withLeft_nil ?_
      simp only [Act.put, List.setIfInBounds_toArray, List.set_cons_zero, List.set_cons_succ]
      refine lft_maybe rfl rfl rfl rfl rfl (fun hgv => ?_)
      subst hgv
      simp only [if_true, reduceIte]
      unfold LftRun
      go_wp2
      exact ⟨rfl, rfl, rfl, Below.refl _ _⟩
    · intro wb hwb
      refine withLeft_is rfl rfl ?_
      refine withLeft_is rfl rfl ?_
      refine withLeft_nil ?_
      simp only [Act.put, List.setIfInBounds_toArray, List.set_cons_zero, List.set_cons_succ]
      refine lft_maybe rfl rfl rfl rfl rfl (fun hgv => ?_)
      subst hgv
      simp only [if_true, reduceIte]
      unfold LftRun
      obtain ⟨y0, y1, y2⟩ := (HX6a.out.below hwb).three
      go_wp2
      exact ⟨rfl, rfl, rfl, Below.refl _ _⟩
    · intro wb hwb
      refine withLeft_is rfl rfl ?_
      refine withLeft_is rfl rfl ?_
      refine withLeft_nil ?_
      simp only [Act.put, List.setIfInBounds_toArray, List.set_cons_zero, List.set_cons_succ]
      refine lft_maybe rfl rfl rfl rfl rfl (fun hgv => ?_)
      subst hgv
      simp only [if_true, reduceIte]
      unfold LftRun
      have hz := HAG.out
      go_wp2
      exact ⟨rfl, by rw [← hz]; rfl, rfl, Below.refl _ _⟩
    · intro wb hwb
      refine withLeft_is rfl rfl ?_
      refine withLeft_is rfl rfl ?_
      refine withLeft_nil ?_
      simp only [Act.put, List.setIfInBounds_toArray, List.set_cons_zero, List.set_cons_succ]
      refine lft_run rfl rfl ?_
      rw [← HC3x.out]
      cases C2 <;> exact lft_pick rfl rfl rfl
    · intro wb hwb
      refine withLeft_is rfl rfl ?_
      refine withLeft_nil ?_
      simp only [Act.put, List.setIfInBounds_toArray, List.set_cons_zero, List.set_cons_succ]
      refine lft_run rfl rfl ?_
      exact lft_assign rfl (by first | rfl | assumption)
  intro wb hwb
  refine LeftEnd.is (LeftEnd.is (LeftEnd.is (LeftEnd.is (LeftEnd.is (LeftEnd.is (LeftEnd.is (LeftEnd.is (LeftEnd.is (LeftEnd.is (LeftEnd.is (LeftEnd.is (LeftEnd.is (LeftEnd.is (LeftEnd.is (LeftEnd.is (LeftEnd.is (LeftEnd.is (LeftEnd.is (LeftEnd.nil ?_)))))))))))))))))))
  simp only [Act.put, List.setIfInBounds_toArray, List.set_cons_zero, List.set_cons_succ]
  refine hK9 _ _ ?_
  generalize (if B0 = true then ((.pointer (some ⟨w.heap.size + 1, 1, none⟩)) : Value) else undef) = z64
  generalize (if B0 = true then ((.int .i64 dc) : Value) else undef) = z65
  generalize (if B0 = true then ((.bool B1) : Value) else undef) = z66
  generalize (if C1 = true then ((.pointer (some ⟨w.heap.size + 1, 1, none⟩)) : Value) else undef) = z69
  generalize (if C1 = true then ((.int .i64 dc) : Value) else undef) = z70
  generalize (if C1 = true then ((.bool B2) : Value) else undef) = z71
  generalize (if C2 = true then ((.pointer (some ⟨w.heap.size + 1, 2, none⟩)) : Value) else undef) = z74
  generalize (if C2 = true then ((.bool ag) : Value) else undef) = z75
  generalize (if C2 = true then ((.bool AG) : Value) else undef) = z76
  clear hK9 K9
  have HX7b := Lib.hid (HX7a.out.below hwb)
  refine wp_seq_k fun K9 hK9 => ?_
  refine wp_region_left_plain
    [.is (.pointer (some ⟨w.heap.size + 2, 0, none⟩)),
     .is (.int .i64 t),
     .is (.bool M0),
     .is (.bool M0),
     .is (if M0 = true then (.pointer (some ⟨w.heap.size + 2, 1, none⟩)) else undef),
     .is (if M0 = true then (.slice pm LM cm) else undef),
     .is (if M0 = true then (.int .i64 (LM : Nat)) else undef),
     .is (if M0 = true then (.bool M1) else undef),
     .is (.bool M2),
     .is (.bool M2)]
    [[], [0], [1], [2], [3], [3, 4], [3, 5], [3, 6], [3, 7], [8]] (by kernel_rfl) (by rfl) ?_ ?_
  · refine LeftOps.cons ?_ (LeftOps.cons ?_ (LeftOps.cons ?_ (LeftOps.cons ?_ (LeftOps.cons ?_ (LeftOps.cons ?_ (LeftOps.cons ?_ (LeftOps.cons ?_ (LeftOps.cons ?_ (LeftOps.cons ?_ (LeftOps.nil))))))))))
    · intro wc hwc
      refine withLeft_nil ?_
      refine lft_run rfl rfl ?_
      unfold LftRun
      go_wp2
      exact ⟨rfl, rfl, rfl, Below.refl _ _⟩
    · intro wc hwc
      refine withLeft_is rfl rfl ?_
      refine withLeft_nil ?_
      simp only [Act.put, List.setIfInBounds_toArray, List.set_cons_zero, List.set_cons_succ]
      refine lft_run rfl rfl ?_
      unfold LftRun
      obtain ⟨y0, y1⟩ := (HX7b.out.below hwc).two
      go_wp2
      exact ⟨rfl, rfl, rfl, Below.refl _ _⟩
    · intro wc hwc
      refine withLeft_is rfl rfl ?_
      refine withLeft_nil ?_
      simp only [Act.put, List.setIfInBounds_toArray, List.set_cons_zero, List.set_cons_succ]
      refine lft_run rfl rfl ?_
      unfold LftRun
      have hz := HM0.out
      go_wp2
      exact ⟨rfl, by rw [← hz]; rfl, rfl, Below.refl _ _⟩
    · intro wc hwc
      refine withLeft_is rfl rfl ?_
      refine withLeft_nil ?_
      simp only [Act.put, List.setIfInBounds_toArray, List.set_cons_zero, List.set_cons_succ]
      refine lft_run rfl rfl ?_
      exact lft_move rfl (by first | rfl | assumption)
    · intro wc hwc
      refine withLeft_is rfl rfl ?_
      refine withLeft_nil ?_
      simp only [Act.put, List.setIfInBounds_toArray, List.set_cons_zero, List.set_cons_succ]
      refine lft_maybe rfl rfl rfl rfl rfl (fun hgv => ?_)
      subst hgv
      simp only [if_true, reduceIte]
      unfold LftRun
      go_wp2
      exact ⟨rfl, rfl, rfl, Below.refl _ _⟩
    · intro wc hwc
      refine withLeft_is rfl rfl ?_
      refine withLeft_is rfl rfl ?_
      refine withLeft_nil ?_
      simp only [Act.put, List.setIfInBounds_toArray, List.set_cons_zero, List.set_cons_succ]
      refine lft_maybe rfl rfl rfl rfl rfl (fun hgv => ?_)
      subst hgv
      simp only [if_true, reduceIte]
      unfold LftRun
      obtain ⟨y0, y1⟩ := (HX7b.out.below hwc).two
      go_wp2
      exact ⟨rfl, rfl, rfl, Below.refl _ _⟩
    · intro wc hwc
      refine withLeft_is rfl rfl ?_
      refine withLeft_is rfl rfl ?_
      refine withLeft_nil ?_
      simp only [Act.put, List.setIfInBounds_toArray, List.set_cons_zero, List.set_cons_succ]
      refine lft_maybe rfl rfl rfl rfl rfl (fun hgv => ?_)
      subst hgv
      simp only [if_true, reduceIte]
      unfold LftRun
      go_wp2
      exact ⟨rfl, rfl, rfl, Below.refl _ _⟩
    · intro wc hwc
      refine withLeft_is rfl rfl ?_
      refine withLeft_is rfl rfl ?_
      refine withLeft_nil ?_
      simp only [Act.put, List.setIfInBounds_toArray, List.set_cons_zero, List.set_cons_succ]
      refine lft_maybe rfl rfl rfl rfl rfl (fun hgv => ?_)
      subst hgv
      simp only [if_true, reduceIte]
      unfold LftRun
      have hz := HM1.out
      go_wp2
      exact ⟨rfl, by rw [← hz]; rfl, rfl, Below.refl _ _⟩
    · intro wc hwc
      refine withLeft_is rfl rfl ?_
      refine withLeft_is rfl rfl ?_
      refine withLeft_nil ?_
      simp only [Act.put, List.setIfInBounds_toArray, List.set_cons_zero, List.set_cons_succ]
      refine lft_run rfl rfl ?_
      rw [← HM2.out]
      cases M0 <;> exact lft_pick rfl rfl rfl
    · intro wc hwc
      refine withLeft_is rfl rfl ?_
      refine withLeft_nil ?_
      simp only [Act.put, List.setIfInBounds_toArray, List.set_cons_zero, List.set_cons_succ]
      refine lft_run rfl rfl ?_
      exact lft_assign rfl (by first | rfl | assumption)
  intro wc hwc
  refine LeftEnd.is (LeftEnd.is (LeftEnd.is (LeftEnd.is (LeftEnd.is (LeftEnd.is (LeftEnd.is (LeftEnd.is (LeftEnd.is (LeftEnd.is (LeftEnd.nil ?_))))))))))
  simp only [Act.put, List.setIfInBounds_toArray, List.set_cons_zero, List.set_cons_succ]
  refine hK9 _ _ ?_
  generalize (if M0 = true then ((.pointer (some ⟨w.heap.size + 2, 1, none⟩)) : Value) else undef) = z82
  generalize (if M0 = true then ((.slice pm LM cm) : Value) else undef) = z83
  generalize (if M0 = true then ((.int .i64 (LM : Nat)) : Value) else undef) = z84
  generalize (if M0 = true then ((.bool M1) : Value) else undef) = z85
  have HX5c := Lib.hid (((HX59.out.below hwa).below hwb).below hwc); have HX6c := Lib.hid ((HX6a.out.below hwb).below hwc); have HX7c := Lib.hid (HX7b.out.below hwc)
  have HR9c := Lib.hid (((HR99.out.below hwa).below hwb).below hwc); have HR11c := Lib.hid (((HR119.out.below hwa).below hwb).below hwc); have HR13c := Lib.hid (((HR139.out.below hwa).below hwb).below hwc)
  have HURc := Lib.hid (((HUR9.out.below hwa).below hwb).below hwc); have HUc := Lib.hid (((HU9.out.below hwa).below hwb).below hwc)
  obtain ⟨H0, hH0⟩ : ∃ A, (HC1 == 0) = A := ⟨_, rfl⟩
  obtain ⟨D0, hD0⟩ : ∃ A, (DE1 == 0) = A := ⟨_, rfl⟩
  obtain ⟨N0, hN0⟩ : ∃ A, (MC == 0) = A := ⟨_, rfl⟩
  obtain ⟨O0, hO0⟩ : ∃ A, (OC1 == 0) = A := ⟨_, rfl⟩
  obtain ⟨O1, hO1⟩ : ∃ A, decide (0 ≤ off) = A := ⟨_, rfl⟩
  obtain ⟨O2, hO2⟩ : ∃ A, decide (off < 0) = A := ⟨_, rfl⟩
  obtain ⟨A2n, hA2n⟩ : ∃ A, (!A2) = A := ⟨_, rfl⟩
  obtain ⟨C3n, hC3n⟩ : ∃ A, (!C3) = A := ⟨_, rfl⟩
  obtain ⟨M2n, hM2n⟩ : ∃ A, (!M2) = A := ⟨_, rfl⟩
  have HH0 := Lib.hid hH0; have HD0 := Lib.hid hD0; have HN0 := Lib.hid hN0; have HO0 := Lib.hid hO0; have HO1 := Lib.hid hO1; have HO2 := Lib.hid hO2; have HA2n := Lib.hid hA2n; have HC3n := Lib.hid hC3n; have HM2n := Lib.hid hM2n
  have HPA : Hid ((H0 == A2) = true) := by
    unfold Hid
    rw [← hH0, ← HA2.out, ← HA0.out, ← HA1.out]
    rcases HHA.out with ⟨_, a0, a1, e, _⟩ | ⟨e, a0 | ⟨a0, a1⟩⟩
    · rw [e, decide_eq_true a0, decide_eq_true a1]; rfl
    · rw [e, decide_eq_false (show ¬ 0 ≤ f by omega)]; rfl
    · rw [e, decide_eq_true a0, decide_eq_false (show ¬ f ≤ n by omega)]; rfl
  have HEQA : Hid (A2n = false → HN1 = n ∧ HF1 = f ∧ HT1 = tb) := fun h => by
    rcases HHA.out with ⟨_, _, _, _, e1, e2, e3⟩ | ⟨_, a0 | ⟨a0, a1⟩⟩
    · exact ⟨e1, e2, e3⟩
    · rw [← hA2n, ← HA2.out, ← HA0.out, decide_eq_false (show ¬ 0 ≤ f by omega)] at h; cases h
    · rw [← hA2n, ← HA2.out, ← HA0.out, ← HA1.out, decide_eq_true a0, decide_eq_false (show ¬ f ≤ n by omega)] at h; cases h
  have HPD : Hid ((D0 == C3) = true) := by
    unfold Hid
    rw [← hD0, ← HC3x.out, ← HC2x.out, ← HC1x.out, ← HB0.out, ← HB1x.out, ← HB2x.out, ← HAG.out]
    rcases HHD.out with ⟨a0, a1, a2, a3, e, _⟩ | ⟨e, a0 | ⟨a0, a1⟩ | ⟨a0, a1, a2⟩ | ⟨a0, a1, a2, a3⟩⟩
    · rw [e, decide_eq_true a0, decide_eq_true a1, decide_eq_true a2, a3]; rfl
    · rw [e, decide_eq_false (show ¬ 0 ≤ df by omega)]; rfl
    · rw [e, decide_eq_true a0, decide_eq_false (show ¬ 1 ≤ dc by omega)]; rfl
    · rw [e, decide_eq_true a0, decide_eq_true a1, decide_eq_false (show ¬ dc ≤ 65535 by omega)]; rfl
    · rw [e, decide_eq_true a0, decide_eq_true a1, decide_eq_true a2, a3]; rfl
  have HEQD : Hid (C3n = false → DF1 = df ∧ DC1 = dc ∧ DA1 = ag) := fun h => by
    rcases HHD.out with ⟨_, _, _, a3, _, e1, e2, e3⟩ | ⟨e, hh⟩
    · exact ⟨e1, e2, by rw [e3, a3]⟩
    · have hp := HPD.out
      rw [← hD0, e] at hp
      rw [← hC3n] at h
      cases C3 <;> simp_all
  have HPM2 : Hid ((N0 == M2) = true) := by
    unfold Hid
    rw [← hN0, ← HM2.out, ← HM0.out, ← HM1.out]
    rcases HHM.out with ⟨a0, a1, e, _⟩ | ⟨e, a0 | ⟨a0, a1⟩⟩
    · rw [e, decide_eq_true a0, decide_eq_true a1]; rfl
    · rw [e, decide_eq_false (show ¬ 0 ≤ t by omega)]; rfl
    · rw [e, decide_eq_true a0, decide_eq_false (show ¬ (LM : Int) ≤ 100 by omega)]; rfl
  have HEQM : M2n = false → MA = t ∧ MD = md := fun h => by
    rcases HHM.out with ⟨_, _, _, e1, e2⟩ | ⟨e, hh⟩
    · exact ⟨e1, e2⟩
    · have hp := HPM2.out
      rw [← hN0, e] at hp
      rw [← hM2n] at h
      cases M2 <;> simp_all
  have HEQM1 : Hid (M2n = false → MA = t) := fun h => (HEQM h).1
  have HEQM2 : Hid (M2n = false → MD = md) := fun h => (HEQM h).2
  have HPO : Hid ((O0 == O1) = true) := by
    unfold Hid
    rw [← hO0, ← hO1]
    rcases HHO.out with ⟨a0, e, _⟩ | ⟨a0, e⟩
    · rw [e, decide_eq_true a0]; rfl
    · rw [e, decide_eq_false (show ¬ 0 ≤ off by omega)]; rfl
  have HEQO : Hid (O2 = false → ON1 = off) := fun h => by
    rcases HHO.out with ⟨_, _, e⟩ | ⟨a0, _⟩
    · exact e
    · rw [← hO2, decide_eq_true a0] at h; cases h
  clear hH0 hD0 hN0 hO0 hO1 hO2 hA2n hC3n hM2n HEQM
  refine wp_seq_k fun K9 hK9 => ?_
  refine wp_region_left_plain
    [.is (.int .i64 HC1),
     .is (.bool H0),
     .is (.bool A2),
     .is (.bool true),
     .is (.bool true),
     .is (.bool A2),
     .is (.bool A2n),
     .is (.bool A2n),
     .is (if A2n = false then (.agg #[.int .i64 HN1, .int .i64 HF1, .bool HT1]) else undef),
     .is (if A2n = false then (.agg #[.int .i64 n, .int .i64 f, .bool tb]) else undef),
     .is (if A2n = false then (.bool true) else undef),
     .is (.bool true),
     .is (.bool true),
     .is (.bool true),
     .is (.int .i64 DE1),
     .is (.bool D0),
     .is (.bool C3),
     .is (.bool true),
     .is (.bool true),
     .is (.bool true),
     .is (.bool C3),
     .is (.bool C3n),
     .is (.bool C3n),
     .is (if C3n = false then (.agg #[.int .i64 DF1, .int .i64 DC1, .bool DA1]) else undef),
     .is (if C3n = false then (.agg #[.int .i64 df, .int .i64 dc, .bool ag]) else undef),
     .is (if C3n = false then (.bool true) else undef),
     .is (.bool true),
     .is (.bool true),
     .is (.bool true),
     .is (.int .i64 MC),
     .is (.bool N0),
     .is (.bool M2),
     .is (.bool true),
     .is (.bool true),
     .is (.bool true),
     .is (.bool M2),
     .is (.bool M2n),
     .is (.bool M2n),
     .is (if M2n = false then (.pointer (some ⟨v7.heap.size, 0, none⟩)) else undef),
     .is (if M2n = false then (.int .i64 MA) else undef),
     .is (if M2n = false then (.pointer (some ⟨w.heap.size + 2, 0, none⟩)) else undef),
     .is (if M2n = false then (.int .i64 t) else undef),
     .is (if M2n = false then (.bool true) else undef),
     .is (if M2n = false then (.bool true) else undef),
     .is (if M2n = false then (.pointer (some ⟨v7.heap.size, 1, none⟩)) else undef),
     .is (if M2n = false then (.slice pu7 ML cu7) else undef),
     .is (if M2n = false then (.string (strOf MD)) else undef),
     .is (if M2n = false then (.pointer (some ⟨w.heap.size + 2, 1, none⟩)) else undef),
     .is (if M2n = false then (.slice pm LM cm) else undef),
     .is (if M2n = false then (.string (strOf md)) else undef),
     .is (if M2n = false then (.bool true) else undef),
     .is (if M2n = false then (.bool true) else undef),
     .is (.bool true),
     .is (.bool true),
     .is (.bool true),
     .is (.int .i64 OC1),
     .is (.bool O0),
     .is (.int .i64 off),
     .is (.bool O1),
     .is (.bool true),
     .is (.bool true),
     .is (.bool true),
     .is (.int .i64 off),
     .is (.bool O2),
     .is (.bool O2),
     .is (if O2 = false then (.int .i64 ON1) else undef),
     .is (if O2 = false then (.int .i64 off) else undef),
     .is (if O2 = false then (.bool true) else undef),
     .is (.bool true),
     .is (.bool true),
     .is (.bool true)]
    [[], [0], [], [1, 2], [3], [4], [4, 5], [4, 6], [7], [7], [7, 8, 9], [4, 7, 10], [4, 11], [12], [13], [13, 14], [13], [13, 15, 16], [13, 17], [18], [19], [19, 20], [19, 21], [22], [22], [22, 23, 24], [19, 22, 25], [19, 26], [27], [28], [28, 29], [28], [28, 30, 31], [28, 32], [33], [34], [34, 35], [34, 36], [37], [37, 38], [37], [37, 40], [37, 39, 41], [37, 42], [43], [43, 44], [43, 45], [43], [43, 47], [43, 48], [43, 46, 49], [37, 43, 50], [34, 37, 51], [34, 52], [53], [54], [54, 55], [54], [54, 57], [54, 56, 58], [54, 59], [60], [61], [61, 62], [61, 63], [64], [64], [64, 65, 66], [61, 64, 67], [61, 68], [69]] (by kernel_rfl) (by rfl) ?_ ?_
  · refine LeftOps.cons ?_ (LeftOps.cons ?_ (LeftOps.cons ?_ (LeftOps.cons ?_ (LeftOps.cons ?_ (LeftOps.cons ?_ (LeftOps.cons ?_ (LeftOps.cons ?_ (LeftOps.cons ?_ (LeftOps.cons ?_ (LeftOps.cons ?_ (LeftOps.cons ?_ (LeftOps.cons ?_ (LeftOps.cons ?_ (LeftOps.cons ?_ (LeftOps.cons ?_ (LeftOps.cons ?_ (LeftOps.cons ?_ (LeftOps.cons ?_ (LeftOps.cons ?_ (LeftOps.cons ?_ (LeftOps.cons ?_ (LeftOps.cons ?_ (LeftOps.cons ?_ (LeftOps.cons ?_ (LeftOps.cons ?_ (LeftOps.cons ?_ (LeftOps.cons ?_ (LeftOps.cons ?_ (LeftOps.cons ?_ (LeftOps.cons ?_ (LeftOps.cons ?_ (LeftOps.cons ?_ (LeftOps.cons ?_ (LeftOps.cons ?_ (LeftOps.cons ?_ (LeftOps.cons ?_ (LeftOps.cons ?_ (LeftOps.cons ?_ (LeftOps.cons ?_ (LeftOps.cons ?_ (LeftOps.cons ?_ (LeftOps.cons ?_ (LeftOps.cons ?_ (LeftOps.cons ?_ (LeftOps.cons ?_ (LeftOps.cons ?_ (LeftOps.cons ?_ (LeftOps.cons ?_ (LeftOps.cons ?_ (LeftOps.cons ?_ (LeftOps.cons ?_ (LeftOps.cons ?_ (LeftOps.cons ?_ (LeftOps.cons ?_ (LeftOps.cons ?_ (LeftOps.cons ?_ (LeftOps.cons ?_ (LeftOps.cons ?_ (LeftOps.cons ?_ (LeftOps.cons ?_ (LeftOps.cons ?_ (LeftOps.cons ?_ (LeftOps.cons ?_ (LeftOps.cons ?_ (LeftOps.cons ?_ (LeftOps.cons ?_ (LeftOps.cons ?_ (LeftOps.cons ?_ (LeftOps.cons ?_ (LeftOps.cons ?_ (LeftOps.nil)))))))))))))))))))))))))))))))))))))))))))))))))))))))))))))))))))))))
    · intro wd hwd
      refine withLeft_nil ?_
      refine lft_run rfl rfl ?_
      exact lft_move rfl (by first | rfl | assumption)
    · intro wd hwd
      refine withLeft_is rfl rfl ?_
      refine withLeft_nil ?_
      simp only [Act.put, List.setIfInBounds_toArray, List.set_cons_zero, List.set_cons_succ]
      refine lft_run rfl rfl ?_
      unfold LftRun
      have hz := HH0.out
      go_wp2
      exact ⟨rfl, by rw [← hz]; rfl, rfl, Below.refl _ _⟩
    · intro wd hwd
      refine withLeft_nil ?_
      refine lft_run rfl rfl ?_
      exact lft_move rfl (by first | rfl | assumption)
    · intro wd hwd
      refine withLeft_is rfl rfl ?_
      refine withLeft_is rfl rfl ?_
      refine withLeft_nil ?_
      simp only [Act.put, List.setIfInBounds_toArray, List.set_cons_zero, List.set_cons_succ]
      refine lft_run rfl rfl ?_
      unfold LftRun
      have hz := HPA.out
      go_wp2
      exact ⟨rfl, by rw [← hz]; rfl, rfl, Below.refl _ _⟩
    · intro wd hwd
      refine withLeft_is rfl rfl ?_
      refine withLeft_nil ?_
      simp only [Act.put, List.setIfInBounds_toArray, List.set_cons_zero, List.set_cons_succ]
      refine lft_run rfl rfl ?_
      exact lft_move rfl (by first | rfl | assumption)
    · intro wd hwd
      refine withLeft_is rfl rfl ?_
      refine withLeft_nil ?_
      simp only [Act.put, List.setIfInBounds_toArray, List.set_cons_zero, List.set_cons_succ]
      refine lft_want rfl rfl rfl rfl ?_
      exact lft_move rfl (by first | rfl | assumption)
    · intro wd hwd
      refine withLeft_is rfl rfl ?_
      refine withLeft_is rfl rfl ?_
      refine withLeft_nil ?_
      simp only [Act.put, List.setIfInBounds_toArray, List.set_cons_zero, List.set_cons_succ]
      refine lft_want rfl rfl rfl rfl ?_
      unfold LftRun
      have hz := HA2n.out
      go_wp2
      exact ⟨rfl, by rw [← hz]; rfl, rfl, Below.refl _ _⟩
    · intro wd hwd
      refine withLeft_is rfl rfl ?_
      refine withLeft_is rfl rfl ?_
      refine withLeft_nil ?_
      simp only [Act.put, List.setIfInBounds_toArray, List.set_cons_zero, List.set_cons_succ]
      refine lft_want rfl rfl rfl rfl ?_
      exact lft_move rfl (by first | rfl | assumption)
    · intro wd hwd
      refine withLeft_is rfl rfl ?_
      refine withLeft_nil ?_
      simp only [Act.put, List.setIfInBounds_toArray, List.set_cons_zero, List.set_cons_succ]
      refine lft_maybe rfl rfl rfl rfl rfl (fun hgv => ?_)
      subst hgv
      simp only [if_true, reduceIte]
      unfold LftRun
      obtain ⟨y0, y1, y2⟩ := (HR9c.out.below hwd).three
      go_wp2
      exact ⟨rfl, rfl, rfl, Below.refl _ _⟩
    · intro wd hwd
      refine withLeft_is rfl rfl ?_
      refine withLeft_nil ?_
      simp only [Act.put, List.setIfInBounds_toArray, List.set_cons_zero, List.set_cons_succ]
      refine lft_maybe rfl rfl rfl rfl rfl (fun hgv => ?_)
      subst hgv
      simp only [if_true, reduceIte]
      unfold LftRun
      obtain ⟨y0, y1, y2⟩ := (HX5c.out.below hwd).three
      go_wp2
      exact ⟨rfl, rfl, rfl, Below.refl _ _⟩
    · intro wd hwd
      refine withLeft_is rfl rfl ?_
      refine withLeft_is rfl rfl ?_
      refine withLeft_is rfl rfl ?_
      refine withLeft_nil ?_
      simp only [Act.put, List.setIfInBounds_toArray, List.set_cons_zero, List.set_cons_succ]
      refine lft_maybe rfl rfl rfl rfl rfl (fun hgv => ?_)
      subst hgv
      simp only [if_true, reduceIte]
      obtain ⟨rfl, rfl, rfl⟩ := HEQA.out rfl
      unfold LftRun
      go_wp2
      exact ⟨rfl, rfl, rfl, Below.refl _ _⟩
    · intro wd hwd
      refine withLeft_is rfl rfl ?_
      refine withLeft_is rfl rfl ?_
      refine withLeft_is rfl rfl ?_
      refine withLeft_nil ?_
      simp only [Act.put, List.setIfInBounds_toArray, List.set_cons_zero, List.set_cons_succ]
      refine lft_want rfl rfl rfl rfl ?_
      cases A2n <;> exact lft_pick rfl rfl rfl
    · intro wd hwd
      refine withLeft_is rfl rfl ?_
      refine withLeft_is rfl rfl ?_
      refine withLeft_nil ?_
      simp only [Act.put, List.setIfInBounds_toArray, List.set_cons_zero, List.set_cons_succ]
      refine lft_run rfl rfl ?_
      exact lft_pick rfl rfl rfl
    · intro wd hwd
      refine withLeft_is rfl rfl ?_
      refine withLeft_nil ?_
      simp only [Act.put, List.setIfInBounds_toArray, List.set_cons_zero, List.set_cons_succ]
      refine lft_run rfl rfl ?_
      exact lft_move rfl (by first | rfl | assumption)
    · intro wd hwd
      refine withLeft_is rfl rfl ?_
      refine withLeft_nil ?_
      simp only [Act.put, List.setIfInBounds_toArray, List.set_cons_zero, List.set_cons_succ]
      refine lft_want rfl rfl rfl rfl ?_
      exact lft_move rfl (by first | rfl | assumption)
    · intro wd hwd
      refine withLeft_is rfl rfl ?_
      refine withLeft_is rfl rfl ?_
      refine withLeft_nil ?_
      simp only [Act.put, List.setIfInBounds_toArray, List.set_cons_zero, List.set_cons_succ]
      refine lft_want rfl rfl rfl rfl ?_
      unfold LftRun
      have hz := HD0.out
      go_wp2
      exact ⟨rfl, by rw [← hz]; rfl, rfl, Below.refl _ _⟩
    · intro wd hwd
      refine withLeft_is rfl rfl ?_
      refine withLeft_nil ?_
      simp only [Act.put, List.setIfInBounds_toArray, List.set_cons_zero, List.set_cons_succ]
      refine lft_want rfl rfl rfl rfl ?_
      exact lft_move rfl (by first | rfl | assumption)
    · intro wd hwd
      refine withLeft_is rfl rfl ?_
      refine withLeft_is rfl rfl ?_
      refine withLeft_is rfl rfl ?_
      refine withLeft_nil ?_
      simp only [Act.put, List.setIfInBounds_toArray, List.set_cons_zero, List.set_cons_succ]
      refine lft_want rfl rfl rfl rfl ?_
      unfold LftRun
      have hz := HPD.out
      go_wp2
      exact ⟨rfl, by rw [← hz]; rfl, rfl, Below.refl _ _⟩
    · intro wd hwd
      refine withLeft_is rfl rfl ?_
      refine withLeft_is rfl rfl ?_
      refine withLeft_nil ?_
      simp only [Act.put, List.setIfInBounds_toArray, List.set_cons_zero, List.set_cons_succ]
      refine lft_run rfl rfl ?_
      exact lft_pick rfl rfl rfl
    · intro wd hwd
      refine withLeft_is rfl rfl ?_
      refine withLeft_nil ?_
      simp only [Act.put, List.setIfInBounds_toArray, List.set_cons_zero, List.set_cons_succ]
      refine lft_run rfl rfl ?_
      exact lft_move rfl (by first | rfl | assumption)
    · intro wd hwd
      refine withLeft_is rfl rfl ?_
      refine withLeft_nil ?_
      simp only [Act.put, List.setIfInBounds_toArray, List.set_cons_zero, List.set_cons_succ]
      refine lft_want rfl rfl rfl rfl ?_
      exact lft_move rfl (by first | rfl | assumption)
    · intro wd hwd
      refine withLeft_is rfl rfl ?_
      refine withLeft_is rfl rfl ?_
      refine withLeft_nil ?_
      simp only [Act.put, List.setIfInBounds_toArray, List.set_cons_zero, List.set_cons_succ]
      refine lft_want rfl rfl rfl rfl ?_
      unfold LftRun
      have hz := HC3n.out
      go_wp2
      exact ⟨rfl, by rw [← hz]; rfl, rfl, Below.refl _ _⟩
    · intro wd hwd
      refine withLeft_is rfl rfl ?_
      refine withLeft_is rfl rfl ?_
      refine withLeft_nil ?_
      simp only [Act.put, List.setIfInBounds_toArray, List.set_cons_zero, List.set_cons_succ]
      refine lft_want rfl rfl rfl rfl ?_
      exact lft_move rfl (by first | rfl | assumption)
    · intro wd hwd
      refine withLeft_is rfl rfl ?_
      refine withLeft_nil ?_
      simp only [Act.put, List.setIfInBounds_toArray, List.set_cons_zero, List.set_cons_succ]
      refine lft_maybe rfl rfl rfl rfl rfl (fun hgv => ?_)
      subst hgv
      simp only [if_true, reduceIte]
      unfold LftRun
      obtain ⟨y0, y1, y2⟩ := (HR11c.out.below hwd).three
      go_wp2
      exact ⟨rfl, rfl, rfl, Below.refl _ _⟩
    · intro wd hwd
      refine withLeft_is rfl rfl ?_
      refine withLeft_nil ?_
      simp only [Act.put, List.setIfInBounds_toArray, List.set_cons_zero, List.set_cons_succ]
      refine lft_maybe rfl rfl rfl rfl rfl (fun hgv => ?_)
      subst hgv
      simp only [if_true, reduceIte]
      unfold LftRun
      obtain ⟨y0, y1, y2⟩ := (HX6c.out.below hwd).three
      go_wp2
      exact ⟨rfl, rfl, rfl, Below.refl _ _⟩
    · intro wd hwd
      refine withLeft_is rfl rfl ?_
      refine withLeft_is rfl rfl ?_
      refine withLeft_is rfl rfl ?_
      refine withLeft_nil ?_
      simp only [Act.put, List.setIfInBounds_toArray, List.set_cons_zero, List.set_cons_succ]
      refine lft_maybe rfl rfl rfl rfl rfl (fun hgv => ?_)
      subst hgv
      simp only [if_true, reduceIte]
      obtain ⟨rfl, rfl, rfl⟩ := HEQD.out rfl
      unfold LftRun
      go_wp2
      exact ⟨rfl, rfl, rfl, Below.refl _ _⟩
    · intro wd hwd
      refine withLeft_is rfl rfl ?_
      refine withLeft_is rfl rfl ?_
      refine withLeft_is rfl rfl ?_
      refine withLeft_nil ?_
      simp only [Act.put, List.setIfInBounds_toArray, List.set_cons_zero, List.set_cons_succ]
      refine lft_want rfl rfl rfl rfl ?_
      cases C3n <;> exact lft_pick rfl rfl rfl
    · intro wd hwd
      refine withLeft_is rfl rfl ?_
      refine withLeft_is rfl rfl ?_
      refine withLeft_nil ?_
      simp only [Act.put, List.setIfInBounds_toArray, List.set_cons_zero, List.set_cons_succ]
      refine lft_run rfl rfl ?_
      exact lft_pick rfl rfl rfl
    · intro wd hwd
      refine withLeft_is rfl rfl ?_
      refine withLeft_nil ?_
      simp only [Act.put, List.setIfInBounds_toArray, List.set_cons_zero, List.set_cons_succ]
      refine lft_run rfl rfl ?_
      exact lft_move rfl (by first | rfl | assumption)
    · intro wd hwd
      refine withLeft_is rfl rfl ?_
      refine withLeft_nil ?_
      simp only [Act.put, List.setIfInBounds_toArray, List.set_cons_zero, List.set_cons_succ]
      refine lft_want rfl rfl rfl rfl ?_
      exact lft_move rfl (by first | rfl | assumption)
    · intro wd hwd
      refine withLeft_is rfl rfl ?_
      refine withLeft_is rfl rfl ?_
      refine withLeft_nil ?_
      simp only [Act.put, List.setIfInBounds_toArray, List.set_cons_zero, List.set_cons_succ]
      refine lft_want rfl rfl rfl rfl ?_
      unfold LftRun
      have hz := HN0.out
      go_wp2
      exact ⟨rfl, by rw [← hz]; rfl, rfl, Below.refl _ _⟩
    · intro wd hwd
      refine withLeft_is rfl rfl ?_
      refine withLeft_nil ?_
      simp only [Act.put, List.setIfInBounds_toArray, List.set_cons_zero, List.set_cons_succ]
      refine lft_want rfl rfl rfl rfl ?_
      exact lft_move rfl (by first | rfl | assumption)
    · intro wd hwd
      refine withLeft_is rfl rfl ?_
      refine withLeft_is rfl rfl ?_
      refine withLeft_is rfl rfl ?_
      refine withLeft_nil ?_
      simp only [Act.put, List.setIfInBounds_toArray, List.set_cons_zero, List.set_cons_succ]
      refine lft_want rfl rfl rfl rfl ?_
      unfold LftRun
      have hz := HPM2.out
      go_wp2
      exact ⟨rfl, by rw [← hz]; rfl, rfl, Below.refl _ _⟩
    · intro wd hwd
      refine withLeft_is rfl rfl ?_
      refine withLeft_is rfl rfl ?_
      refine withLeft_nil ?_
      simp only [Act.put, List.setIfInBounds_toArray, List.set_cons_zero, List.set_cons_succ]
      refine lft_run rfl rfl ?_
      exact lft_pick rfl rfl rfl
    · intro wd hwd
      refine withLeft_is rfl rfl ?_
      refine withLeft_nil ?_
      simp only [Act.put, List.setIfInBounds_toArray, List.set_cons_zero, List.set_cons_succ]
      refine lft_run rfl rfl ?_
      exact lft_move rfl (by first | rfl | assumption)
    · intro wd hwd
      refine withLeft_is rfl rfl ?_
      refine withLeft_nil ?_
      simp only [Act.put, List.setIfInBounds_toArray, List.set_cons_zero, List.set_cons_succ]
      refine lft_want rfl rfl rfl rfl ?_
      exact lft_move rfl (by first | rfl | assumption)
    · intro wd hwd
      refine withLeft_is rfl rfl ?_
      refine withLeft_is rfl rfl ?_
      refine withLeft_nil ?_
      simp only [Act.put, List.setIfInBounds_toArray, List.set_cons_zero, List.set_cons_succ]
      refine lft_want rfl rfl rfl rfl ?_
      unfold LftRun
      have hz := HM2n.out
      go_wp2
      exact ⟨rfl, by rw [← hz]; rfl, rfl, Below.refl _ _⟩
    · intro wd hwd
      refine withLeft_is rfl rfl ?_
      refine withLeft_is rfl rfl ?_
      refine withLeft_nil ?_
      simp only [Act.put, List.setIfInBounds_toArray, List.set_cons_zero, List.set_cons_succ]
      refine lft_want rfl rfl rfl rfl ?_
      exact lft_move rfl (by first | rfl | assumption)
    · intro wd hwd
      refine withLeft_is rfl rfl ?_
      refine withLeft_nil ?_
      simp only [Act.put, List.setIfInBounds_toArray, List.set_cons_zero, List.set_cons_succ]
      refine lft_maybe rfl rfl rfl rfl rfl (fun hgv => ?_)
      subst hgv
      simp only [if_true, reduceIte]
      unfold LftRun
      go_wp2
      exact ⟨rfl, rfl, rfl, Below.refl _ _⟩
    · intro wd hwd
      refine withLeft_is rfl rfl ?_
      refine withLeft_is rfl rfl ?_
      refine withLeft_nil ?_
      simp only [Act.put, List.setIfInBounds_toArray, List.set_cons_zero, List.set_cons_succ]
      refine lft_maybe rfl rfl rfl rfl rfl (fun hgv => ?_)
      subst hgv
      simp only [if_true, reduceIte]
      unfold LftRun
      obtain ⟨y0, y1⟩ := (HR13c.out.below hwd).two
      go_wp2
      exact ⟨rfl, rfl, rfl, Below.refl _ _⟩
    · intro wd hwd
      refine withLeft_is rfl rfl ?_
      refine withLeft_nil ?_
      simp only [Act.put, List.setIfInBounds_toArray, List.set_cons_zero, List.set_cons_succ]
      refine lft_maybe rfl rfl rfl rfl rfl (fun hgv => ?_)
      subst hgv
      simp only [if_true, reduceIte]
      unfold LftRun
      go_wp2
      exact ⟨rfl, rfl, rfl, Below.refl _ _⟩
    · intro wd hwd
      refine withLeft_is rfl rfl ?_
      refine withLeft_is rfl rfl ?_
      refine withLeft_nil ?_
      simp only [Act.put, List.setIfInBounds_toArray, List.set_cons_zero, List.set_cons_succ]
      refine lft_maybe rfl rfl rfl rfl rfl (fun hgv => ?_)
      subst hgv
      simp only [if_true, reduceIte]
      unfold LftRun
      obtain ⟨y0, y1⟩ := (HX7c.out.below hwd).two
      go_wp2
      exact ⟨rfl, rfl, rfl, Below.refl _ _⟩
    · intro wd hwd
      refine withLeft_is rfl rfl ?_
      refine withLeft_is rfl rfl ?_
      refine withLeft_is rfl rfl ?_
      refine withLeft_nil ?_
      simp only [Act.put, List.setIfInBounds_toArray, List.set_cons_zero, List.set_cons_succ]
      refine lft_maybe rfl rfl rfl rfl rfl (fun hgv => ?_)
      subst hgv
      simp only [if_true, reduceIte]
      obtain ⟨rfl⟩ := HEQM1.out rfl
      unfold LftRun
      go_wp2
      exact ⟨rfl, rfl, rfl, Below.refl _ _⟩
    · intro wd hwd
      refine withLeft_is rfl rfl ?_
      refine withLeft_is rfl rfl ?_
      refine withLeft_nil ?_
      simp only [Act.put, List.setIfInBounds_toArray, List.set_cons_zero, List.set_cons_succ]
      refine lft_maybe rfl rfl rfl rfl rfl (fun hgv => ?_)
      subst hgv
      simp only [if_true, reduceIte]
      exact lft_move rfl (by first | rfl | assumption)
    · intro wd hwd
      refine withLeft_is rfl rfl ?_
      refine withLeft_nil ?_
      simp only [Act.put, List.setIfInBounds_toArray, List.set_cons_zero, List.set_cons_succ]
      refine lft_maybe2 rfl rfl rfl rfl rfl (fun hgv => ?_)
      subst hgv
      simp only [if_true, reduceIte]
      unfold LftRun
      go_wp2
      exact ⟨rfl, rfl, rfl, Below.refl _ _⟩
    · intro wd hwd
      refine withLeft_is rfl rfl ?_
      refine withLeft_is rfl rfl ?_
      refine withLeft_nil ?_
      simp only [Act.put, List.setIfInBounds_toArray, List.set_cons_zero, List.set_cons_succ]
      refine lft_maybe2 rfl rfl rfl rfl rfl (fun hgv => ?_)
      subst hgv
      simp only [if_true, reduceIte]
      unfold LftRun
      obtain ⟨y0, y1⟩ := (HR13c.out.below hwd).two
      go_wp2
      exact ⟨rfl, rfl, rfl, Below.refl _ _⟩
    · intro wd hwd
      refine withLeft_is rfl rfl ?_
      refine withLeft_is rfl rfl ?_
      refine withLeft_nil ?_
      simp only [Act.put, List.setIfInBounds_toArray, List.set_cons_zero, List.set_cons_succ]
      refine lft_maybe2 rfl rfl rfl rfl rfl (fun hgv => ?_)
      subst hgv
      simp only [if_true, reduceIte]
      have hcx := (HURc.out.below hwd).toString (P := Try.prog) byT (d := 9) (by kernel_rfl)
      unfold LftRun
      go_wp2
      exact ⟨rfl, rfl, rfl, Below.refl _ _⟩
    · intro wd hwd
      refine withLeft_is rfl rfl ?_
      refine withLeft_nil ?_
      simp only [Act.put, List.setIfInBounds_toArray, List.set_cons_zero, List.set_cons_succ]
      refine lft_maybe2 rfl rfl rfl rfl rfl (fun hgv => ?_)
      subst hgv
      simp only [if_true, reduceIte]
      unfold LftRun
      go_wp2
      exact ⟨rfl, rfl, rfl, Below.refl _ _⟩
    · intro wd hwd
      refine withLeft_is rfl rfl ?_
      refine withLeft_is rfl rfl ?_
      refine withLeft_nil ?_
      simp only [Act.put, List.setIfInBounds_toArray, List.set_cons_zero, List.set_cons_succ]
      refine lft_maybe2 rfl rfl rfl rfl rfl (fun hgv => ?_)
      subst hgv
      simp only [if_true, reduceIte]
      unfold LftRun
      obtain ⟨y0, y1⟩ := (HX7c.out.below hwd).two
      go_wp2
      exact ⟨rfl, rfl, rfl, Below.refl _ _⟩
    · intro wd hwd
      refine withLeft_is rfl rfl ?_
      refine withLeft_is rfl rfl ?_
      refine withLeft_nil ?_
      simp only [Act.put, List.setIfInBounds_toArray, List.set_cons_zero, List.set_cons_succ]
      refine lft_maybe2 rfl rfl rfl rfl rfl (fun hgv => ?_)
      subst hgv
      simp only [if_true, reduceIte]
      have hcx := (HUc.out.below hwd).toString (P := Try.prog) byT (d := 9) (by kernel_rfl)
      unfold LftRun
      go_wp2
      exact ⟨rfl, rfl, rfl, Below.refl _ _⟩
    · intro wd hwd
      refine withLeft_is rfl rfl ?_
      refine withLeft_is rfl rfl ?_
      refine withLeft_is rfl rfl ?_
      refine withLeft_nil ?_
      simp only [Act.put, List.setIfInBounds_toArray, List.set_cons_zero, List.set_cons_succ]
      refine lft_maybe2 rfl rfl rfl rfl rfl (fun hgv => ?_)
      subst hgv
      simp only [if_true, reduceIte]
      obtain ⟨rfl⟩ := HEQM2.out rfl
      unfold LftRun
      go_wp2
      exact ⟨rfl, rfl, rfl, Below.refl _ _⟩
    · intro wd hwd
      refine withLeft_is rfl rfl ?_
      refine withLeft_is rfl rfl ?_
      refine withLeft_is rfl rfl ?_
      refine withLeft_nil ?_
      simp only [Act.put, List.setIfInBounds_toArray, List.set_cons_zero, List.set_cons_succ]
      refine lft_maybe rfl rfl rfl rfl rfl (fun hgv => ?_)
      subst hgv
      simp only [if_true, reduceIte]
      exact lft_pick rfl rfl rfl
    · intro wd hwd
      refine withLeft_is rfl rfl ?_
      refine withLeft_is rfl rfl ?_
      refine withLeft_is rfl rfl ?_
      refine withLeft_nil ?_
      simp only [Act.put, List.setIfInBounds_toArray, List.set_cons_zero, List.set_cons_succ]
      refine lft_want rfl rfl rfl rfl ?_
      cases M2n <;> exact lft_pick rfl rfl rfl
    · intro wd hwd
      refine withLeft_is rfl rfl ?_
      refine withLeft_is rfl rfl ?_
      refine withLeft_nil ?_
      simp only [Act.put, List.setIfInBounds_toArray, List.set_cons_zero, List.set_cons_succ]
      refine lft_run rfl rfl ?_
      exact lft_pick rfl rfl rfl
    · intro wd hwd
      refine withLeft_is rfl rfl ?_
      refine withLeft_nil ?_
      simp only [Act.put, List.setIfInBounds_toArray, List.set_cons_zero, List.set_cons_succ]
      refine lft_run rfl rfl ?_
      exact lft_move rfl (by first | rfl | assumption)
    · intro wd hwd
      refine withLeft_is rfl rfl ?_
      refine withLeft_nil ?_
      simp only [Act.put, List.setIfInBounds_toArray, List.set_cons_zero, List.set_cons_succ]
      refine lft_want rfl rfl rfl rfl ?_
      exact lft_move rfl (by first | rfl | assumption)
    · intro wd hwd
      refine withLeft_is rfl rfl ?_
      refine withLeft_is rfl rfl ?_
      refine withLeft_nil ?_
      simp only [Act.put, List.setIfInBounds_toArray, List.set_cons_zero, List.set_cons_succ]
      refine lft_want rfl rfl rfl rfl ?_
      unfold LftRun
      have hz := HO0.out
      go_wp2
      exact ⟨rfl, by rw [← hz]; rfl, rfl, Below.refl _ _⟩
    · intro wd hwd
      refine withLeft_is rfl rfl ?_
      refine withLeft_nil ?_
      simp only [Act.put, List.setIfInBounds_toArray, List.set_cons_zero, List.set_cons_succ]
      refine lft_want rfl rfl rfl rfl ?_
      exact lft_move rfl (by first | rfl | assumption)
    · intro wd hwd
      refine withLeft_is rfl rfl ?_
      refine withLeft_is rfl rfl ?_
      refine withLeft_nil ?_
      simp only [Act.put, List.setIfInBounds_toArray, List.set_cons_zero, List.set_cons_succ]
      refine lft_want rfl rfl rfl rfl ?_
      unfold LftRun
      have hz := HO1.out
      go_wp2
      exact ⟨rfl, by rw [← hz]; rfl, rfl, Below.refl _ _⟩
    · intro wd hwd
      refine withLeft_is rfl rfl ?_
      refine withLeft_is rfl rfl ?_
      refine withLeft_is rfl rfl ?_
      refine withLeft_nil ?_
      simp only [Act.put, List.setIfInBounds_toArray, List.set_cons_zero, List.set_cons_succ]
      refine lft_want rfl rfl rfl rfl ?_
      unfold LftRun
      have hz := HPO.out
      go_wp2
      exact ⟨rfl, by rw [← hz]; rfl, rfl, Below.refl _ _⟩
    · intro wd hwd
      refine withLeft_is rfl rfl ?_
      refine withLeft_is rfl rfl ?_
      refine withLeft_nil ?_
      simp only [Act.put, List.setIfInBounds_toArray, List.set_cons_zero, List.set_cons_succ]
      refine lft_run rfl rfl ?_
      exact lft_pick rfl rfl rfl
    · intro wd hwd
      refine withLeft_is rfl rfl ?_
      refine withLeft_nil ?_
      simp only [Act.put, List.setIfInBounds_toArray, List.set_cons_zero, List.set_cons_succ]
      refine lft_run rfl rfl ?_
      exact lft_move rfl (by first | rfl | assumption)
    · intro wd hwd
      refine withLeft_is rfl rfl ?_
      refine withLeft_nil ?_
      simp only [Act.put, List.setIfInBounds_toArray, List.set_cons_zero, List.set_cons_succ]
      refine lft_want rfl rfl rfl rfl ?_
      exact lft_move rfl (by first | rfl | assumption)
    · intro wd hwd
      refine withLeft_is rfl rfl ?_
      refine withLeft_is rfl rfl ?_
      refine withLeft_nil ?_
      simp only [Act.put, List.setIfInBounds_toArray, List.set_cons_zero, List.set_cons_succ]
      refine lft_want rfl rfl rfl rfl ?_
      unfold LftRun
      have hz := HO2.out
      go_wp2
      exact ⟨rfl, by rw [← hz]; rfl, rfl, Below.refl _ _⟩
    · intro wd hwd
      refine withLeft_is rfl rfl ?_
      refine withLeft_is rfl rfl ?_
      refine withLeft_nil ?_
      simp only [Act.put, List.setIfInBounds_toArray, List.set_cons_zero, List.set_cons_succ]
      refine lft_want rfl rfl rfl rfl ?_
      exact lft_move rfl (by first | rfl | assumption)
    · intro wd hwd
      refine withLeft_is rfl rfl ?_
      refine withLeft_nil ?_
      simp only [Act.put, List.setIfInBounds_toArray, List.set_cons_zero, List.set_cons_succ]
      refine lft_maybe rfl rfl rfl rfl rfl (fun hgv => ?_)
      subst hgv
      simp only [if_true, reduceIte]
      exact lft_move rfl (by first | rfl | assumption)
    · intro wd hwd
      refine withLeft_is rfl rfl ?_
      refine withLeft_nil ?_
      simp only [Act.put, List.setIfInBounds_toArray, List.set_cons_zero, List.set_cons_succ]
      refine lft_maybe rfl rfl rfl rfl rfl (fun hgv => ?_)
      subst hgv
      simp only [if_true, reduceIte]
      exact lft_move rfl (by first | rfl | assumption)
    · intro wd hwd
      refine withLeft_is rfl rfl ?_
      refine withLeft_is rfl rfl ?_
      refine withLeft_is rfl rfl ?_
      refine withLeft_nil ?_
      simp only [Act.put, List.setIfInBounds_toArray, List.set_cons_zero, List.set_cons_succ]
      refine lft_maybe rfl rfl rfl rfl rfl (fun hgv => ?_)
      subst hgv
      simp only [if_true, reduceIte]
      obtain ⟨rfl⟩ := HEQO.out rfl
      unfold LftRun
      go_wp2
      exact ⟨rfl, rfl, rfl, Below.refl _ _⟩
    · intro wd hwd
      refine withLeft_is rfl rfl ?_
      refine withLeft_is rfl rfl ?_
      refine withLeft_is rfl rfl ?_
      refine withLeft_nil ?_
      simp only [Act.put, List.setIfInBounds_toArray, List.set_cons_zero, List.set_cons_succ]
      refine lft_want rfl rfl rfl rfl ?_
      cases O2 <;> exact lft_pick rfl rfl rfl
    · intro wd hwd
      refine withLeft_is rfl rfl ?_
      refine withLeft_is rfl rfl ?_
      refine withLeft_nil ?_
      simp only [Act.put, List.setIfInBounds_toArray, List.set_cons_zero, List.set_cons_succ]
      refine lft_run rfl rfl ?_
      exact lft_pick rfl rfl rfl
    · intro wd hwd
      refine withLeft_is rfl rfl ?_
      refine withLeft_nil ?_
      simp only [Act.put, List.setIfInBounds_toArray, List.set_cons_zero, List.set_cons_succ]
      refine lft_run rfl rfl ?_
      exact lft_assign rfl (by first | rfl | assumption)
  intro wd hwd
  refine LeftEnd.is (LeftEnd.is (LeftEnd.is (LeftEnd.is (LeftEnd.is (LeftEnd.is (LeftEnd.is (LeftEnd.is (LeftEnd.is (LeftEnd.is (LeftEnd.is (LeftEnd.is (LeftEnd.is (LeftEnd.is (LeftEnd.is (LeftEnd.is (LeftEnd.is (LeftEnd.is (LeftEnd.is (LeftEnd.is (LeftEnd.is (LeftEnd.is (LeftEnd.is (LeftEnd.is (LeftEnd.is (LeftEnd.is (LeftEnd.is (LeftEnd.is (LeftEnd.is (LeftEnd.is (LeftEnd.is (LeftEnd.is (LeftEnd.is (LeftEnd.is (LeftEnd.is (LeftEnd.is (LeftEnd.is (LeftEnd.is (LeftEnd.is (LeftEnd.is (LeftEnd.is (LeftEnd.is (LeftEnd.is (LeftEnd.is (LeftEnd.is (LeftEnd.is (LeftEnd.is (LeftEnd.is (LeftEnd.is (LeftEnd.is (LeftEnd.is (LeftEnd.is (LeftEnd.is (LeftEnd.is (LeftEnd.is (LeftEnd.is (LeftEnd.is (LeftEnd.is (LeftEnd.is (LeftEnd.is (LeftEnd.is (LeftEnd.is (LeftEnd.is (LeftEnd.is (LeftEnd.is (LeftEnd.is (LeftEnd.is (LeftEnd.is (LeftEnd.is (LeftEnd.is (LeftEnd.is (LeftEnd.nil ?_)))))))))))))))))))))))))))))))))))))))))))))))))))))))))))))))))))))))
  simp only [Act.put, List.setIfInBounds_toArray, List.set_cons_zero, List.set_cons_succ]
  refine hK9 _ _ ?_
  generalize (if A2n = false then ((.agg #[.int .i64 HN1, .int .i64 HF1, .bool HT1]) : Value) else undef) = z95
  generalize (if A2n = false then ((.agg #[.int .i64 n, .int .i64 f, .bool tb]) : Value) else undef) = z96
  generalize (if A2n = false then ((.bool true) : Value) else undef) = z97
  generalize (if C3n = false then ((.agg #[.int .i64 DF1, .int .i64 DC1, .bool DA1]) : Value) else undef) = z110
  generalize (if C3n = false then ((.agg #[.int .i64 df, .int .i64 dc, .bool ag]) : Value) else undef) = z111
  generalize (if C3n = false then ((.bool true) : Value) else undef) = z112
  generalize (if M2n = false then ((.pointer (some ⟨v7.heap.size, 0, none⟩)) : Value) else undef) = z125
  generalize (if M2n = false then ((.int .i64 MA) : Value) else undef) = z126
  generalize (if M2n = false then ((.pointer (some ⟨w.heap.size + 2, 0, none⟩)) : Value) else undef) = z127
  generalize (if M2n = false then ((.int .i64 t) : Value) else undef) = z128
  generalize (if M2n = false then ((.bool true) : Value) else undef) = z129
  generalize (if M2n = false then ((.bool true) : Value) else undef) = z130
  generalize (if M2n = false then ((.pointer (some ⟨v7.heap.size, 1, none⟩)) : Value) else undef) = z131
  generalize (if M2n = false then ((.slice pu7 ML cu7) : Value) else undef) = z132
  generalize (if M2n = false then ((.string (strOf MD)) : Value) else undef) = z133
  generalize (if M2n = false then ((.pointer (some ⟨w.heap.size + 2, 1, none⟩)) : Value) else undef) = z134
  generalize (if M2n = false then ((.slice pm LM cm) : Value) else undef) = z135
  generalize (if M2n = false then ((.string (strOf md)) : Value) else undef) = z136
  generalize (if M2n = false then ((.bool true) : Value) else undef) = z137
  generalize (if M2n = false then ((.bool true) : Value) else undef) = z138
  generalize (if O2 = false then ((.int .i64 ON1) : Value) else undef) = z152
  generalize (if O2 = false then ((.int .i64 off) : Value) else undef) = z153
  generalize (if O2 = false then ((.bool true) : Value) else undef) = z154
  clear hK9 K9
  have HBE : Hid (Below w.heap.size w wd) := ((HB9.out.trans (hwa.mono HB9.out.size)).trans (hwb.mono (HB9.out.trans (hwa.mono HB9.out.size)).size)).trans ((hwc.trans (hwd.mono hwc.size)).mono ((HB9.out.trans (hwa.mono HB9.out.size)).trans (hwb.mono (HB9.out.trans (hwa.mono HB9.out.size)).size)).size)
  go_wp2
  go_ret
  exact ⟨rfl, HBE.out⟩
end Go.Proofs.Ytoegkdfeonkgkaa

