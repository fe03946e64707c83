/- The law EventAll: whatever the two events and the bytes, every call of it returns true, and all that was there before the call is as it was. No condition. -/
import Derived.Test.YtjjcfflgndclkaaRows
import Derived.Test.YtjjcfflgndclkaaEvI
import Derived.Test.YtjjcfflgndclkaaEvO
import Derived.Test.YtjjcfflgndclkaaEvB
import Derived.Test.YtjjcfflgndclkaaEvD
import Derived.Test.YtjjcfflgndclkaaKept
import Derived.Test.YtjjcfflgndclkaaReg
import Derived.ChangeMaps5
namespace Go.Proofs.Ytjjcfflgndclkaa
open Go Go.ChangeShapes Go.WideShapes Go.ChangeAt Go.RowKit Go.By

/-- What is taken out of bytes: the event, and the verdict. -/
def tkE (l : List Nat) : Ev := (takeEv l).getD ev0
def tkC (l : List Nat) : Int := if takeEv l = none then 2 else 0
theorem tells_shape {w w' : World} {l : List Nat} {z : Ending} (h : Tells w l z w') : ∃ (q r : Int) (s t : ByteArray) (p : Option Addr) (n c : Nat),
    z = .returned (.tuple #[.agg #[.int .i64 q, .string s, .int .i64 r, .string t, .slice p n c], .int .i64 (tkC l)]) ∧ IsEv w' (evVal q r s t (.slice p n c)) (tkE l) q r s t (.slice p n c) := by
  rcases h.1 with ⟨h1, rfl⟩ | ⟨ev, x, q, r, s, t, u, h1, rfl, hi⟩
  · refine ⟨0, 0, ⟨#[]⟩, ⟨#[]⟩, none, 0, 0, ?_, ?_⟩
    · rw [show tkC l = 2 by unfold tkC; rw [if_pos h1]]; rfl
    · rw [show tkE l = ev0 by unfold tkE; rw [h1]; rfl]; exact isEv_zero _
  · obtain ⟨p, c, rfl, _⟩ := hi.da.any
    have e1 := hi.val
    subst e1
    refine ⟨q, r, s, t, p, ev.da.length, c, ?_, ?_⟩
    · rw [show tkC l = 0 by unfold tkC; rw [if_neg (by rw [h1]; intro h; cases h)]]; rfl
    · rw [show tkE l = ev by unfold tkE; rw [h1]; rfl]; exact hi

set_option maxRecDepth 100000 in
set_option maxHeartbeats 8000000 in
theorem eventAll_any {w : World} {x y v : Value} {ex ey : Ev} {qx rx qy ry : Int} {sx tx sy ty : ByteArray} {ux uy : Value} {b : List Nat} (hx : IsEv w x ex qx rx sx tx ux) (hy : IsEv w y ey qy ry sy ty uy) (hv : Bytes w v b) :
    Calls Try.prog 3 #[x, y, v] w fun z w' => z = .returned (.bool true) ∧ Below w.heap.size w w' := by
  have hxv := hx.val
  have hyv := hy.val
  obtain ⟨px, cx, rfl, _⟩ := hx.da.any
  obtain ⟨py, cy, rfl, _⟩ := hy.da.any
  obtain ⟨pb, cb, hveq⟩ : ∃ p cap, v = .slice p b.length cap := let ⟨p, cap, h, _⟩ := hv.any; ⟨p, cap, h⟩
  have hdx := hx.da.short
  have hdy := hy.da.short
  have hdb := hv.short
  unfold maxLen at hdx hdy hdb
  unfold evVal at hxv hyv
  subst hxv hyv hveq
  obtain ⟨LX, hLX⟩ : ∃ L, L = ex.da.length := ⟨_, rfl⟩
  obtain ⟨LY, hLY⟩ : ∃ L, L = ey.da.length := ⟨_, rfl⟩
  obtain ⟨LB, hLB⟩ : ∃ L, L = b.length := ⟨_, rfl⟩
  rw [← hLX] at hx hdx ⊢
  rw [← hLY] at hy hdy ⊢
  rw [← hLB] at hv hdb ⊢
  have HLX := Lib.hid hLX; have HLY := Lib.hid hLY; have HLB := Lib.hid hLB
  obtain ⟨W, hW⟩ : ∃ W, W = (w.alloc (.cells #[.int .i64 qx, .string sx, .int .i64 rx, .string tx, .slice px LX cx] 24)).alloc (.cells #[.int .i64 qy, .string sy, .int .i64 ry, .string ty, .slice py LY cy] 24) := ⟨_, rfl⟩
  have hb : Below w.heap.size w W := by rw [hW]; exact ((Below.refl w.heap.size w).alloc (Nat.le_refl _) _).alloc (by simp) _
  have hEX : EvAt W w.heap.size qx rx sx tx (.slice px LX cx) := by
    rw [hW]
    exact (EvAt.new w qx rx sx tx (.slice px LX cx)).below ((Below.refl _ _).alloc (Nat.le_refl _) _)
  have hEY : EvAt W (w.heap.size + 1) qy ry sy ty (.slice py LY cy) := by
    rw [hW]
    have := EvAt.new (w.alloc (.cells #[.int .i64 qx, .string sx, .int .i64 rx, .string tx, .slice px LX cx] 24)) qy ry sy ty (.slice py LY cy)
    rw [World.size_alloc] at this
    exact this
  have HX := Lib.hid (hx.below hb); have HY := Lib.hid (hy.below hb); have HV := Lib.hid (hv.below hb)
  have HB := Lib.hid hb; have HEX := Lib.hid hEX; have HEY := Lib.hid hEY; have HW := Lib.hid hW
  clear hx hy hv hb hEX hEY hW hLX hLY hLB
  go_enter Try.func3, Try.ntmps3
  go_wp2_with fail
  rw [← HW.out]
  clear HW
  refine (begun_any W).mono ?_
  rintro z w1 ⟨rfl, hb1⟩
  have HX1 := Lib.hid (HX.out.below hb1); have HY1 := Lib.hid (HY.out.below hb1); have HV1 := Lib.hid (HV.out.below hb1)
  have HEX1 := Lib.hid (HEX.out.below hb1); have HEY1 := Lib.hid (HEY.out.below hb1)
  have HB1 : Hid (Below w.heap.size w w1) := HB.out.trans (hb1.mono HB.out.size)
  clear hb1 HX HY HV HB HEX HEY
  obtain ⟨c0, c1, c2, c3, c4⟩ := HEX1.out.cells
  obtain ⟨d0, d1, d2, d3, d4⟩ := HEY1.out.cells
  by_cases h1 : 150 < (LX : Int)
  · go_wp2
    go_ret
    exact ⟨rfl, HB1.out⟩
  by_cases h2 : 150 < (LY : Int)
  · go_wp2
    go_ret
    exact ⟨rfl, HB1.out⟩
  by_cases h3 : 200 < (LB : Int)
  · go_wp2
    go_ret
    exact ⟨rfl, HB1.out⟩
  by_cases h4 : 120 < wrap64 (wrap64 (wrap64 ((sx.size : Int) + tx.size) + sy.size) + ty.size)
  · go_wp2
    go_ret
    exact ⟨rfl, HB1.out⟩
  have HLBs : Hid (b.length ≤ 200) := by unfold Hid; have := HLB.out; omega
  have HLXs : Hid (ex.da.length ≤ 1000000) := by unfold Hid; have := HLX.out; omega
  clear hdx hdy hdb
  go_wp2_with fail
  clear h1 h2 h3 h4 c0 c1 c2 c3 c4 d0 d1 d2 d3 d4
  refine (loaned_any _ b w1 HV1.out (by have := HLBs.out; omega)).mono ?_
  rintro z w2 ⟨vc, rfl, hl2, hb2⟩
  obtain ⟨gc, cc, hvc, _⟩ := id hl2
  rw [← HLB.out] at hvc
  have hbc2 := hl2.bytes HV1.out.small HV1.out.short
  subst hvc
  have HL2 := Lib.hid hl2
  have HBC2 := Lib.hid hbc2
  have HX2 := Lib.hid (HX1.out.below hb2); have HY2 := Lib.hid (HY1.out.below hb2); have HV2 := Lib.hid (HV1.out.below hb2)
  have HEX2 := Lib.hid (HEX1.out.below hb2); have HEY2 := Lib.hid (HEY1.out.below hb2)
  have HB2 : Hid (Below w.heap.size w w2) := HB1.out.trans (hb2.mono HB1.out.size)
  clear hb2 HX1 HY1 HV1 HEX1 HEY1 HB1 hl2 hbc2
  go_wp2_with fail
  refine (take_any _ b w2 HBC2.out).mono ?_
  intro z w3 ht3
  have hb3 := ht3.2
  obtain ⟨qp, rp, sp, tp, pp, np, cp, rfl, hip⟩ := tells_shape ht3
  obtain ⟨W3, hW3⟩ : ∃ W, W = w3.alloc (.cells #[.int .i64 qp, .string sp, .int .i64 rp, .string tp, .slice pp np cp] 24) := ⟨_, rfl⟩
  have hb33 : Below w3.heap.size w3 W3 := by rw [hW3]; exact (Below.refl _ _).alloc (Nat.le_refl _) _
  have hb23 := hb3.trans (hb33.mono hb3.size)
  have HEP3 : Hid (EvAt W3 w3.heap.size qp rp sp tp (.slice pp np cp)) := by unfold Hid; rw [hW3]; exact EvAt.new ..
  have HP3 := Lib.hid (hip.below hb33)
  have HX3 := Lib.hid (HX2.out.below hb23); have HY3 := Lib.hid (HY2.out.below hb23); have HV3 := Lib.hid (HV2.out.below hb23); have HL3 := Lib.hid (HL2.out.below hb23)
  have HEX3 := Lib.hid (HEX2.out.below hb23); have HEY3 := Lib.hid (HEY2.out.below hb23)
  have HB3 : Hid (Below w.heap.size w W3) := HB2.out.trans (hb23.mono HB2.out.size)
  have HW3 := Lib.hid hW3
  clear hip hb3 hb33 hb23 hW3 ht3 HX2 HY2 HV2 HEX2 HEY2 HB2 HL2 HBC2
  generalize hEC : tkC b = ec at *
  have HEC := Lib.hid hEC
  clear hEC
  go_wp2_with fail
  rw [← HW3.out]
  clear HW3
  refine (refTakeEv_any _ b W3 HV3.out (by have := HLBs.out; omega)).mono ?_
  intro z w4 ht4
  have hb4 := ht4.2
  obtain ⟨qq, rq, sq, tq, pq, nq, cq, rfl, hiq⟩ := tells_shape (w := W3) ht4
  rw [HEC.out]
  have hb44 : Below w4.heap.size w4 (w4.alloc (.cells #[.int .i64 qq, .string sq, .int .i64 rq, .string tq, .slice pq nq cq] 24)) := (Below.refl _ _).alloc (Nat.le_refl _) _
  have hb34 := hb4.trans (hb44.mono hb4.size)
  obtain ⟨GP, hGP⟩ : ∃ G, G = w3.heap.size := ⟨_, rfl⟩
  obtain ⟨GQ, hGQ⟩ : ∃ G, G = w4.heap.size := ⟨_, rfl⟩
  have HEQ4 : Hid (EvAt (w4.alloc (.cells #[.int .i64 qq, .string sq, .int .i64 rq, .string tq, .slice pq nq cq] 24)) GQ qq rq sq tq (.slice pq nq cq)) := by unfold Hid; rw [hGQ]; exact EvAt.new ..
  have HEP4 : Hid (EvAt (w4.alloc (.cells #[.int .i64 qq, .string sq, .int .i64 rq, .string tq, .slice pq nq cq] 24)) GP qp rp sp tp (.slice pp np cp)) := by unfold Hid; rw [hGP]; exact HEP3.out.below hb34
  have HQ4 := Lib.hid (hiq.below hb44)
  have HP4 := Lib.hid (HP3.out.below hb34)
  have HX4 := Lib.hid (HX3.out.below hb34); have HY4 := Lib.hid (HY3.out.below hb34); have HV4 := Lib.hid (HV3.out.below hb34); have HL4 := Lib.hid (HL3.out.below hb34)
  have HEX4 := Lib.hid (HEX3.out.below hb34); have HEY4 := Lib.hid (HEY3.out.below hb34)
  have HB4 : Hid (Below w.heap.size w (w4.alloc (.cells #[.int .i64 qq, .string sq, .int .i64 rq, .string tq, .slice pq nq cq] 24))) := HB3.out.trans (hb34.mono HB3.out.size)
  obtain ⟨GX, hGX⟩ : ∃ G, G = w.heap.size := ⟨_, rfl⟩
  obtain ⟨GY, hGY⟩ : ∃ G, G = w.heap.size + 1 := ⟨_, rfl⟩
  rw [← hGX] at HEX4
  rw [← hGY] at HEY4
  obtain ⟨PX, hPX⟩ : ∃ l, l = putEv ex := ⟨_, rfl⟩
  obtain ⟨MX, hMX⟩ : ∃ l, l = mayEv ex := ⟨_, rfl⟩
  obtain ⟨SXY, hSXY⟩ : ∃ l, l = decide (ex = ey) := ⟨_, rfl⟩
  have HPX := Lib.hid hPX; have HMX := Lib.hid hMX; have HSXY := Lib.hid hSXY
  have HSM : Hid (∀ c ∈ PX, c < 256) := by
    unfold Hid
    rw [hPX]
    intro c hc
    unfold putEv at hc
    split at hc
    · exact evOf_small HX4.out.fine (by assumption) c hc
    · cases hc
  clear hiq hb4 hb44 hb34 ht4 HP3 HX3 HY3 HV3 HL3 HEX3 HEY3 HB3 HEP3 hPX hMX hSXY
  go_wp2_with fail
  rw [← hGP, ← hGQ, ← hGY, ← hGX]
  clear hGP hGQ hGX hGY
  generalize w4.alloc (.cells #[.int .i64 qq, .string sq, .int .i64 rq, .string tq, .slice pq nq cq] 24) = W4 at *
  rename_i Kc hKc
  refine wp_region_left (by kernel_rfl)
    [.is (.agg #[.int .i64 qx, .string sx, .int .i64 rx, .string tx, .slice px LX cx]),
     .is (.bool MX),
     .is (.agg #[.int .i64 qx, .string sx, .int .i64 rx, .string tx, .slice px LX cx]),
     .is (.bool MX),
     .is (.bool true),
     .is (.bool true),
     .is (.agg #[.int .i64 qx, .string sx, .int .i64 rx, .string tx, .slice px LX cx]),
     .bytes PX,
     .is (.string (strOf PX)),
     .is (.agg #[.int .i64 qx, .string sx, .int .i64 rx, .string tx, .slice px LX cx]),
     .bytes PX,
     .is (.string (strOf PX)),
     .is (.bool true),
     .is (.bool true),
     .is (.bool true),
     .is (.agg #[.int .i64 qp, .string sp, .int .i64 rp, .string tp, .slice pp np cp]),
     .is (.agg #[.int .i64 qq, .string sq, .int .i64 rq, .string tq, .slice pq nq cq]),
     .is (.bool true),
     .is (.bool true),
     .is (.bool true),
     .is (.int .i64 ec),
     .is (.int .i64 ec),
     .is (.bool true),
     .is (.bool true),
     .is (.bool true),
     .is (.agg #[.int .i64 qx, .string sx, .int .i64 rx, .string tx, .slice px LX cx]),
     .is (.agg #[.int .i64 qy, .string sy, .int .i64 ry, .string ty, .slice py LY cy]),
     .is (.bool SXY),
     .is (.agg #[.int .i64 qx, .string sx, .int .i64 rx, .string tx, .slice px LX cx]),
     .is (.agg #[.int .i64 qy, .string sy, .int .i64 ry, .string ty, .slice py LY cy]),
     .is (.bool SXY),
     .is (.bool true),
     .is (.bool true),
     .is (.bool true),
     .is (.agg #[.int .i64 qx, .string sx, .int .i64 rx, .string tx, .slice px LX cx]),
     .is (.agg #[.int .i64 qx, .string sx, .int .i64 rx, .string tx, .slice px LX cx]),
     .is (.bool true),
     .is (.bool true),
     .is (.bool true),
     .is (.slice (some ⟨gc, 0, none⟩) LB cc),
     .is (.slice pb LB cb),
     .is (.bool true),
     .is (.bool true),
     .is (.bool true)]
    [[], [0], [], [2], [1, 3], [4], [5], [5, 6], [5, 7], [5], [5, 9], [5, 10], [5, 8, 11], [5, 12], [13], [14], [14], [14, 15, 16], [14, 17], [18], [19], [19], [19, 20, 21], [19, 22], [23], [24], [24], [24, 25, 26], [24], [24], [24, 28, 29], [24, 27, 30], [24, 31], [32], [33], [33], [33, 34, 35], [33, 36], [37], [38], [38], [38, 39, 40], [38, 41], [42]] (by kernel_rfl) (by rfl) ?_ ?_
  · refine LeftOps.cons ?_ (LeftOps.cons ?_ (LeftOps.cons ?_ (LeftOps.cons ?_ (LeftOps.cons ?_ (LeftOps.cons ?_ (LeftOps.cons ?_ (LeftOps.cons ?_ (LeftOps.cons ?_ (LeftOps.cons ?_ (LeftOps.cons ?_ (LeftOps.cons ?_ (LeftOps.cons ?_ (LeftOps.cons ?_ (LeftOps.cons ?_ (LeftOps.cons ?_ (LeftOps.cons ?_ (LeftOps.cons ?_ (LeftOps.cons ?_ (LeftOps.cons ?_ (LeftOps.cons ?_ (LeftOps.cons ?_ (LeftOps.cons ?_ (LeftOps.cons ?_ (LeftOps.cons ?_ (LeftOps.cons ?_ (LeftOps.cons ?_ (LeftOps.cons ?_ (LeftOps.cons ?_ (LeftOps.cons ?_ (LeftOps.cons ?_ (LeftOps.cons ?_ (LeftOps.cons ?_ (LeftOps.cons ?_ (LeftOps.cons ?_ (LeftOps.cons ?_ (LeftOps.cons ?_ (LeftOps.cons ?_ (LeftOps.cons ?_ (LeftOps.cons ?_ (LeftOps.cons ?_ (LeftOps.cons ?_ (LeftOps.cons ?_ (LeftOps.cons ?_ (LeftOps.nil))))))))))))))))))))))))))))))))))))))))))))
    · intro wz hwz
      clear hKc
      refine withLeft_nil ?_
      refine lft_run rfl rfl ?_
      unfold LftRun
      obtain ⟨c0, c1, c2, c3, c4⟩ := (HEX4.out.below hwz).cells
      go_wp2
      exact ⟨rfl, rfl, rfl, Below.refl _ _⟩
    · intro wz hwz
      clear hKc
      refine withLeft_is rfl rfl ?_
      refine withLeft_nil ?_
      simp only [Act.put, List.setIfInBounds_toArray, List.set_cons_zero, List.set_cons_succ]
      refine lft_run rfl rfl ?_
      unfold LftRun
      go_wp2_with fail
      refine (may_any (HX4.out.below hwz)).mono ?_
      rintro e wq ⟨rfl, hbq⟩
      rw [← HMX.out]
      go_wp2
      exact ⟨rfl, rfl, rfl, hbq⟩
    · intro wz hwz
      clear hKc
      refine withLeft_nil ?_
      refine lft_run rfl rfl ?_
      unfold LftRun
      obtain ⟨c0, c1, c2, c3, c4⟩ := (HEX4.out.below hwz).cells
      go_wp2
      exact ⟨rfl, rfl, rfl, Below.refl _ _⟩
    · intro wz hwz
      clear hKc
      refine withLeft_is rfl rfl ?_
      refine withLeft_nil ?_
      simp only [Act.put, List.setIfInBounds_toArray, List.set_cons_zero, List.set_cons_succ]
      refine lft_run rfl rfl ?_
      unfold LftRun
      go_wp2_with fail
      refine (refMayEv_any (HX4.out.below hwz)).mono ?_
      rintro e wq ⟨rfl, hbq⟩
      rw [← HMX.out]
      go_wp2
      exact ⟨rfl, rfl, rfl, hbq⟩
    · intro wz hwz
      clear hKc
      refine withLeft_is rfl rfl ?_
      refine withLeft_is rfl rfl ?_
      refine withLeft_nil ?_
      simp only [Act.put, List.setIfInBounds_toArray, List.set_cons_zero, List.set_cons_succ]
      refine lft_run rfl rfl ?_
      unfold LftRun
      cases MX <;> (go_wp2; exact ⟨rfl, rfl, rfl, Below.refl _ _⟩)
    · intro wz hwz
      clear hKc
      refine withLeft_is rfl rfl ?_
      refine withLeft_nil ?_
      simp only [Act.put, List.setIfInBounds_toArray, List.set_cons_zero, List.set_cons_succ]
      refine lft_run rfl rfl ?_
      exact lft_move rfl (by first | rfl | assumption)
    · intro wz hwz
      clear hKc
      refine withLeft_is rfl rfl ?_
      refine withLeft_nil ?_
      simp only [Act.put, List.setIfInBounds_toArray, List.set_cons_zero, List.set_cons_succ]
      refine lft_want rfl rfl rfl rfl ?_
      unfold LftRun
      obtain ⟨c0, c1, c2, c3, c4⟩ := (HEX4.out.below hwz).cells
      go_wp2
      exact ⟨rfl, rfl, rfl, Below.refl _ _⟩
    · intro wz hwz
      clear hKc
      refine withLeft_is rfl rfl ?_
      refine withLeft_is rfl rfl ?_
      refine withLeft_nil ?_
      simp only [Act.put, List.setIfInBounds_toArray, List.set_cons_zero, List.set_cons_succ]
      refine lft_want rfl rfl rfl rfl ?_
      unfold LftRun
      go_wp2_with fail
      refine (put_any (HX4.out.below hwz)).mono ?_
      rintro e wq ⟨vq, rfl, hoq, hbq⟩
      rw [← HPX.out] at hoq
      have hyq := hoq.bytes HSM.out
      clear hoq
      go_wp2
      exact ⟨rfl, hyq, rfl, hbq⟩
    · intro wz hwz
      clear hKc
      refine withLeft_is rfl rfl ?_
      refine withLeft_bytes rfl rfl ?_
      intro vv hvv
      obtain ⟨pv, cv, rfl, _⟩ := hvv.any
      have hcvv := hvv.toString (P := Try.prog) byT (d := 9) (by kernel_rfl)
      refine withLeft_nil ?_
      simp only [Act.put, List.setIfInBounds_toArray, List.set_cons_zero, List.set_cons_succ]
      refine lft_want rfl rfl rfl rfl ?_
      unfold LftRun
      go_wp2
      exact ⟨rfl, rfl, rfl, Below.refl _ _⟩
    · intro wz hwz
      clear hKc
      refine withLeft_is rfl rfl ?_
      refine withLeft_nil ?_
      simp only [Act.put, List.setIfInBounds_toArray, List.set_cons_zero, List.set_cons_succ]
      refine lft_want rfl rfl rfl rfl ?_
      unfold LftRun
      obtain ⟨c0, c1, c2, c3, c4⟩ := (HEX4.out.below hwz).cells
      go_wp2
      exact ⟨rfl, rfl, rfl, Below.refl _ _⟩
    · intro wz hwz
      clear hKc
      refine withLeft_is rfl rfl ?_
      refine withLeft_is rfl rfl ?_
      refine withLeft_nil ?_
      simp only [Act.put, List.setIfInBounds_toArray, List.set_cons_zero, List.set_cons_succ]
      refine lft_want rfl rfl rfl rfl ?_
      unfold LftRun
      go_wp2_with fail
      refine (refPutEv_any (HX4.out.below hwz) HLXs.out).mono ?_
      rintro e wq ⟨vq, rfl, hoq, hbq⟩
      rw [← HPX.out] at hoq
      have hyq := hoq.bytes HSM.out
      clear hoq
      go_wp2
      exact ⟨rfl, hyq, rfl, hbq⟩
    · intro wz hwz
      clear hKc
      refine withLeft_is rfl rfl ?_
      refine withLeft_bytes rfl rfl ?_
      intro vv hvv
      obtain ⟨pv, cv, rfl, _⟩ := hvv.any
      have hcvv := hvv.toString (P := Try.prog) byT (d := 9) (by kernel_rfl)
      refine withLeft_nil ?_
      simp only [Act.put, List.setIfInBounds_toArray, List.set_cons_zero, List.set_cons_succ]
      refine lft_want rfl rfl rfl rfl ?_
      unfold LftRun
      go_wp2
      exact ⟨rfl, rfl, rfl, Below.refl _ _⟩
    · intro wz hwz
      clear hKc
      refine withLeft_is rfl rfl ?_
      refine withLeft_is rfl rfl ?_
      refine withLeft_is rfl rfl ?_
      refine withLeft_nil ?_
      simp only [Act.put, List.setIfInBounds_toArray, List.set_cons_zero, List.set_cons_succ]
      refine lft_want rfl rfl rfl rfl ?_
      unfold LftRun
      go_wp2
      exact ⟨rfl, rfl, rfl, Below.refl _ _⟩
    · intro wz hwz
      clear hKc
      refine withLeft_is rfl rfl ?_
      refine withLeft_is rfl rfl ?_
      refine withLeft_nil ?_
      simp only [Act.put, List.setIfInBounds_toArray, List.set_cons_zero, List.set_cons_succ]
      refine lft_run rfl rfl ?_
      exact lft_pick rfl rfl rfl
    · intro wz hwz
      clear hKc
      refine withLeft_is rfl rfl ?_
      refine withLeft_nil ?_
      simp only [Act.put, List.setIfInBounds_toArray, List.set_cons_zero, List.set_cons_succ]
      refine lft_run rfl rfl ?_
      exact lft_move rfl (by first | rfl | assumption)
    · intro wz hwz
      clear hKc
      refine withLeft_is rfl rfl ?_
      refine withLeft_nil ?_
      simp only [Act.put, List.setIfInBounds_toArray, List.set_cons_zero, List.set_cons_succ]
      refine lft_want rfl rfl rfl rfl ?_
      unfold LftRun
      obtain ⟨c0, c1, c2, c3, c4⟩ := (HEP4.out.below hwz).cells
      go_wp2
      exact ⟨rfl, rfl, rfl, Below.refl _ _⟩
    · intro wz hwz
      clear hKc
      refine withLeft_is rfl rfl ?_
      refine withLeft_nil ?_
      simp only [Act.put, List.setIfInBounds_toArray, List.set_cons_zero, List.set_cons_succ]
      refine lft_want rfl rfl rfl rfl ?_
      unfold LftRun
      obtain ⟨c0, c1, c2, c3, c4⟩ := (HEQ4.out.below hwz).cells
      go_wp2
      exact ⟨rfl, rfl, rfl, Below.refl _ _⟩
    · intro wz hwz
      clear hKc
      refine withLeft_is rfl rfl ?_
      refine withLeft_is rfl rfl ?_
      refine withLeft_is rfl rfl ?_
      refine withLeft_nil ?_
      simp only [Act.put, List.setIfInBounds_toArray, List.set_cons_zero, List.set_cons_succ]
      refine lft_want rfl rfl rfl rfl ?_
      unfold LftRun
      go_wp2_with fail
      refine (refSame_any (HP4.out.below hwz) (HQ4.out.below hwz)).mono ?_
      rintro e wq ⟨rfl, hbq⟩
      rw [decide_eq_true (rfl : tkE b = tkE b)]
      go_wp2
      exact ⟨rfl, rfl, rfl, hbq⟩
    · intro wz hwz
      clear hKc
      refine withLeft_is rfl rfl ?_
      refine withLeft_is rfl rfl ?_
      refine withLeft_nil ?_
      simp only [Act.put, List.setIfInBounds_toArray, List.set_cons_zero, List.set_cons_succ]
      refine lft_run rfl rfl ?_
      exact lft_pick rfl rfl rfl
    · intro wz hwz
      clear hKc
      refine withLeft_is rfl rfl ?_
      refine withLeft_nil ?_
      simp only [Act.put, List.setIfInBounds_toArray, List.set_cons_zero, List.set_cons_succ]
      refine lft_run rfl rfl ?_
      exact lft_move rfl (by first | rfl | assumption)
    · intro wz hwz
      clear hKc
      refine withLeft_is rfl rfl ?_
      refine withLeft_nil ?_
      simp only [Act.put, List.setIfInBounds_toArray, List.set_cons_zero, List.set_cons_succ]
      refine lft_want rfl rfl rfl rfl ?_
      exact lft_move rfl (by first | rfl | assumption)
    · intro wz hwz
      clear hKc
      refine withLeft_is rfl rfl ?_
      refine withLeft_nil ?_
      simp only [Act.put, List.setIfInBounds_toArray, List.set_cons_zero, List.set_cons_succ]
      refine lft_want rfl rfl rfl rfl ?_
      exact lft_move rfl (by first | rfl | assumption)
    · intro wz hwz
      clear hKc
      refine withLeft_is rfl rfl ?_
      refine withLeft_is rfl rfl ?_
      refine withLeft_is rfl rfl ?_
      refine withLeft_nil ?_
      simp only [Act.put, List.setIfInBounds_toArray, List.set_cons_zero, List.set_cons_succ]
      refine lft_want rfl rfl rfl rfl ?_
      unfold LftRun
      go_wp2
      exact ⟨rfl, rfl, rfl, Below.refl _ _⟩
    · intro wz hwz
      clear hKc
      refine withLeft_is rfl rfl ?_
      refine withLeft_is rfl rfl ?_
      refine withLeft_nil ?_
      simp only [Act.put, List.setIfInBounds_toArray, List.set_cons_zero, List.set_cons_succ]
      refine lft_run rfl rfl ?_
      exact lft_pick rfl rfl rfl
    · intro wz hwz
      clear hKc
      refine withLeft_is rfl rfl ?_
      refine withLeft_nil ?_
      simp only [Act.put, List.setIfInBounds_toArray, List.set_cons_zero, List.set_cons_succ]
      refine lft_run rfl rfl ?_
      exact lft_move rfl (by first | rfl | assumption)
    · intro wz hwz
      clear hKc
      refine withLeft_is rfl rfl ?_
      refine withLeft_nil ?_
      simp only [Act.put, List.setIfInBounds_toArray, List.set_cons_zero, List.set_cons_succ]
      refine lft_want rfl rfl rfl rfl ?_
      unfold LftRun
      obtain ⟨c0, c1, c2, c3, c4⟩ := (HEX4.out.below hwz).cells
      go_wp2
      exact ⟨rfl, rfl, rfl, Below.refl _ _⟩
    · intro wz hwz
      clear hKc
      refine withLeft_is rfl rfl ?_
      refine withLeft_nil ?_
      simp only [Act.put, List.setIfInBounds_toArray, List.set_cons_zero, List.set_cons_succ]
      refine lft_want rfl rfl rfl rfl ?_
      unfold LftRun
      obtain ⟨c0, c1, c2, c3, c4⟩ := (HEY4.out.below hwz).cells
      go_wp2
      exact ⟨rfl, rfl, rfl, Below.refl _ _⟩
    · intro wz hwz
      clear hKc
      refine withLeft_is rfl rfl ?_
      refine withLeft_is rfl rfl ?_
      refine withLeft_is rfl rfl ?_
      refine withLeft_nil ?_
      simp only [Act.put, List.setIfInBounds_toArray, List.set_cons_zero, List.set_cons_succ]
      refine lft_want rfl rfl rfl rfl ?_
      unfold LftRun
      go_wp2_with fail
      refine (same_any (HX4.out.below hwz) (HY4.out.below hwz)).mono ?_
      rintro e wq ⟨rfl, hbq⟩
      rw [← HSXY.out]
      go_wp2
      exact ⟨rfl, rfl, rfl, hbq⟩
    · intro wz hwz
      clear hKc
      refine withLeft_is rfl rfl ?_
      refine withLeft_nil ?_
      simp only [Act.put, List.setIfInBounds_toArray, List.set_cons_zero, List.set_cons_succ]
      refine lft_want rfl rfl rfl rfl ?_
      unfold LftRun
      obtain ⟨c0, c1, c2, c3, c4⟩ := (HEX4.out.below hwz).cells
      go_wp2
      exact ⟨rfl, rfl, rfl, Below.refl _ _⟩
    · intro wz hwz
      clear hKc
      refine withLeft_is rfl rfl ?_
      refine withLeft_nil ?_
      simp only [Act.put, List.setIfInBounds_toArray, List.set_cons_zero, List.set_cons_succ]
      refine lft_want rfl rfl rfl rfl ?_
      unfold LftRun
      obtain ⟨c0, c1, c2, c3, c4⟩ := (HEY4.out.below hwz).cells
      go_wp2
      exact ⟨rfl, rfl, rfl, Below.refl _ _⟩
    · intro wz hwz
      clear hKc
      refine withLeft_is rfl rfl ?_
      refine withLeft_is rfl rfl ?_
      refine withLeft_is rfl rfl ?_
      refine withLeft_nil ?_
      simp only [Act.put, List.setIfInBounds_toArray, List.set_cons_zero, List.set_cons_succ]
      refine lft_want rfl rfl rfl rfl ?_
      unfold LftRun
      go_wp2_with fail
      refine (refSame_any (HX4.out.below hwz) (HY4.out.below hwz)).mono ?_
      rintro e wq ⟨rfl, hbq⟩
      rw [← HSXY.out]
      go_wp2
      exact ⟨rfl, rfl, rfl, hbq⟩
    · intro wz hwz
      clear hKc
      refine withLeft_is rfl rfl ?_
      refine withLeft_is rfl rfl ?_
      refine withLeft_is rfl rfl ?_
      refine withLeft_nil ?_
      simp only [Act.put, List.setIfInBounds_toArray, List.set_cons_zero, List.set_cons_succ]
      refine lft_want rfl rfl rfl rfl ?_
      unfold LftRun
      cases SXY <;> (go_wp2; exact ⟨rfl, rfl, rfl, Below.refl _ _⟩)
    · intro wz hwz
      clear hKc
      refine withLeft_is rfl rfl ?_
      refine withLeft_is rfl rfl ?_
      refine withLeft_nil ?_
      simp only [Act.put, List.setIfInBounds_toArray, List.set_cons_zero, List.set_cons_succ]
      refine lft_run rfl rfl ?_
      exact lft_pick rfl rfl rfl
    · intro wz hwz
      clear hKc
      refine withLeft_is rfl rfl ?_
      refine withLeft_nil ?_
      simp only [Act.put, List.setIfInBounds_toArray, List.set_cons_zero, List.set_cons_succ]
      refine lft_run rfl rfl ?_
      exact lft_move rfl (by first | rfl | assumption)
    · intro wz hwz
      clear hKc
      refine withLeft_is rfl rfl ?_
      refine withLeft_nil ?_
      simp only [Act.put, List.setIfInBounds_toArray, List.set_cons_zero, List.set_cons_succ]
      refine lft_want rfl rfl rfl rfl ?_
      unfold LftRun
      obtain ⟨c0, c1, c2, c3, c4⟩ := (HEX4.out.below hwz).cells
      go_wp2
      exact ⟨rfl, rfl, rfl, Below.refl _ _⟩
    · intro wz hwz
      clear hKc
      refine withLeft_is rfl rfl ?_
      refine withLeft_nil ?_
      simp only [Act.put, List.setIfInBounds_toArray, List.set_cons_zero, List.set_cons_succ]
      refine lft_want rfl rfl rfl rfl ?_
      unfold LftRun
      obtain ⟨c0, c1, c2, c3, c4⟩ := (HEX4.out.below hwz).cells
      go_wp2
      exact ⟨rfl, rfl, rfl, Below.refl _ _⟩
    · intro wz hwz
      clear hKc
      refine withLeft_is rfl rfl ?_
      refine withLeft_is rfl rfl ?_
      refine withLeft_is rfl rfl ?_
      refine withLeft_nil ?_
      simp only [Act.put, List.setIfInBounds_toArray, List.set_cons_zero, List.set_cons_succ]
      refine lft_want rfl rfl rfl rfl ?_
      unfold LftRun
      go_wp2_with fail
      refine (same_any (HX4.out.below hwz) (HX4.out.below hwz)).mono ?_
      rintro e wq ⟨rfl, hbq⟩
      rw [decide_eq_true (rfl : ex = ex)]
      go_wp2
      exact ⟨rfl, rfl, rfl, hbq⟩
    · intro wz hwz
      clear hKc
      refine withLeft_is rfl rfl ?_
      refine withLeft_is rfl rfl ?_
      refine withLeft_nil ?_
      simp only [Act.put, List.setIfInBounds_toArray, List.set_cons_zero, List.set_cons_succ]
      refine lft_run rfl rfl ?_
      exact lft_pick rfl rfl rfl
    · intro wz hwz
      clear hKc
      refine withLeft_is rfl rfl ?_
      refine withLeft_nil ?_
      simp only [Act.put, List.setIfInBounds_toArray, List.set_cons_zero, List.set_cons_succ]
      refine lft_run rfl rfl ?_
      exact lft_move rfl (by first | rfl | assumption)
    · intro wz hwz
      clear hKc
      refine withLeft_is rfl rfl ?_
      refine withLeft_nil ?_
      simp only [Act.put, List.setIfInBounds_toArray, List.set_cons_zero, List.set_cons_succ]
      refine lft_want rfl rfl rfl rfl ?_
      exact lft_move rfl (by first | rfl | assumption)
    · intro wz hwz
      clear hKc
      refine withLeft_is rfl rfl ?_
      refine withLeft_nil ?_
      simp only [Act.put, List.setIfInBounds_toArray, List.set_cons_zero, List.set_cons_succ]
      refine lft_want rfl rfl rfl rfl ?_
      exact lft_move rfl (by first | rfl | assumption)
    · intro wz hwz
      clear hKc
      refine withLeft_is rfl rfl ?_
      refine withLeft_is rfl rfl ?_
      refine withLeft_is rfl rfl ?_
      refine withLeft_nil ?_
      simp only [Act.put, List.setIfInBounds_toArray, List.set_cons_zero, List.set_cons_succ]
      refine lft_want rfl rfl rfl rfl ?_
      unfold LftRun
      go_wp2_with fail
      refine (kept_any _ _ _ b _ (HL4.out.below hwz) (HV4.out.below hwz) (by have := HLBs.out; omega)).mono ?_
      rintro e wq ⟨rfl, rfl⟩
      go_wp2
      exact ⟨rfl, rfl, rfl, Below.refl _ _⟩
    · intro wz hwz
      clear hKc
      refine withLeft_is rfl rfl ?_
      refine withLeft_is rfl rfl ?_
      refine withLeft_nil ?_
      simp only [Act.put, List.setIfInBounds_toArray, List.set_cons_zero, List.set_cons_succ]
      refine lft_run rfl rfl ?_
      exact lft_pick rfl rfl rfl
    · intro wz hwz
      clear hKc
      refine withLeft_is rfl rfl ?_
      refine withLeft_nil ?_
      simp only [Act.put, List.setIfInBounds_toArray, List.set_cons_zero, List.set_cons_succ]
      refine lft_run rfl rfl ?_
      exact lft_assign rfl (by first | rfl | assumption)
  intro wz hwz
  refine LeftEnd.is (LeftEnd.is (LeftEnd.is (LeftEnd.is (LeftEnd.is (LeftEnd.is (LeftEnd.is (LeftEnd.bytes (fun _ _ => LeftEnd.is (LeftEnd.is (LeftEnd.bytes (fun _ _ => LeftEnd.is (LeftEnd.is (LeftEnd.is (LeftEnd.is (LeftEnd.is (LeftEnd.is (LeftEnd.is (LeftEnd.is (LeftEnd.is (LeftEnd.is (LeftEnd.is (LeftEnd.is (LeftEnd.is (LeftEnd.is (LeftEnd.is (LeftEnd.is (LeftEnd.is (LeftEnd.is (LeftEnd.is (LeftEnd.is (LeftEnd.is (LeftEnd.is (LeftEnd.is (LeftEnd.is (LeftEnd.is (LeftEnd.is (LeftEnd.is (LeftEnd.is (LeftEnd.is (LeftEnd.is (LeftEnd.is (LeftEnd.is (LeftEnd.is (LeftEnd.nil ?_))))))))))))))))))))))))))))))))))))))))))))
  simp only [Act.put, List.setIfInBounds_toArray, List.set_cons_zero, List.set_cons_succ]
  have HBZ : Hid (Below w.heap.size w wz) := HB4.out.trans (hwz.mono HB4.out.size)
  clear hwz
  refine hKc _ _ ?_
  clear hKc Kc
  go_wp2
  go_ret
  exact ⟨rfl, HBZ.out⟩

set_option maxRecDepth 100000 in
theorem eventAll_lifted (os : Os) (started : os.Started) (H : Type) (enc : TypeId × Value → H) :
    ReturnsInHanded {} Try.checked os 3 .any (Rows.eventAllSpec.pre6 enc Try.prog Try.f3 Rows.eventAllRow.domain false) (Rows.eventAllSpec.post enc Try.prog Try.f3 false true false false) := by
  refine returnsInHanded_of_change (C := Try.checked) own_none started (by kernel_rfl) Try.func3
    (ChangeSpec.witness6 (enc := enc) (C := Try.checked) false ⟨#[], #[.agg #[.int .i64 0, .string ⟨#[]⟩, .int .i64 0, .string ⟨#[]⟩, .slice none 0 0], .agg #[.int .i64 0, .string ⟨#[]⟩, .int .i64 0, .string ⟨#[]⟩, .slice none 0 0], .slice none 0 0], []⟩ 8 (by kernel_rfl) (by kernel_rfl) (by kernel_rfl) (by kernel_rfl)) ?_
  intro W base args ds gs before hval0 hW hcnd _
  have hval : ∀ (j : Nat) t v, Try.f3.params[j]? = some t → args[j]? = some v → Value.okWide Try.prog W .any base t v := hval0
  have hW' := hW
  obtain ⟨p, q, hA0, hV, rfl, hfz, hnd⟩ := hW
  have hA : DataW.TrodAll enc Try.prog W 0 (fun _ => true) true Try.f3.params.toList args.toList ds p := hA0
  have hp : Try.f3.params = #[24, 24, 22] := by kernel_rfl
  rw [hp] at hA hval
  obtain ⟨v0, v1, v2, d0, d1, d2, p0, p1, p2, rfl, rfl, rfl, h0, h1, h2⟩ := trodAll_three hA
  obtain ⟨rfl, rfl⟩ := trodVars_none hV
  obtain ⟨ex, qx, rx, sx, tx, ux, hex⟩ := open_ev (hval 0 24 v0 rfl rfl) h0
  obtain ⟨ey, qy, ry, sy, ty, uy, hey⟩ := open_ev (hval 1 24 v1 rfl rfl) h1
  obtain ⟨l, hl⟩ := open_bytes byT (by kernel_rfl) (hval 2 22 v2 rfl rfl) h2
  refine (eventAll_any hex hey hl).mono fun e W' ⟨he, hb⟩ => ?_
  subst he
  exact ⟨_, rfl, law_post (tb := 4) laidOut (by rw [hp]; intro t ht; simp at ht; rcases ht with rfl | rfl <;> exact ⟨by kernel_rfl, by decide +kernel⟩) rfl rfl (by kernel_rfl) (by kernel_rfl) hW' hb⟩

theorem eventAll_holds : Rows.EventAllSaid :=
  OpenClaim.holds_of_wide 3 Try.f3 rfl rfl rfl rfl rfl rfl rfl ⟨rfl, rfl, rfl, rfl, rfl⟩ rfl rfl rfl rfl rfl (by kernel_rfl) Try.func3 (by kernel_rfl)
    (of_decide_eq_true (by kernel_rfl)) (by unfold Func.isWrapper; rw [if_neg (by decide +kernel)]; exact ⟨rfl, rfl⟩)
    (fun os started H enc _ => eventAll_lifted os started H enc)
end Go.Proofs.Ytjjcfflgndclkaa

