/- Events in a program: what is put. -/
import Derived.Test.YtjjcfflgndclkaaEvE
import Derived.Test.YtjjcfflgndclkaaGenZ
namespace Go.Proofs.Ytjjcfflgndclkaa
open Go Go.RowKit Go.By

theorem highOf_at (n : Nat) : ∀ (v k : Nat), k < n → (highOf v n)[k]? = some (v / 256 ^ (n - 1 - k) % 256) := by
  induction n with
  | zero => intro v k h; omega
  | succ n ih =>
    intro v k h
    rw [highOf]
    by_cases hk : k < n
    · rw [List.getElem?_append_left (by rw [highOf_length]; exact hk), ih _ _ hk, Nat.div_div_eq_div_mul, show n + 1 - 1 - k = (n - 1 - k) + 1 by omega, Nat.pow_succ, Nat.mul_comm]
    · obtain rfl : k = n := by omega
      rw [List.getElem?_append_right (by rw [highOf_length]; omega), highOf_length]
      simp
theorem highOf_take {v n k : Nat} (h : k < n) : (highOf v n).take (k + 1) = (highOf v n).take k ++ [v / 256 ^ (n - 1 - k) % 256] := by
  have hl : k < (highOf v n).length := by rw [highOf_length]; exact h
  rw [List.take_succ_eq_append_getElem hl]
  have := highOf_at n v k h
  rw [List.getElem?_eq_getElem hl] at this
  rw [Option.some.inj this]

/-- The row that a number is being laid behind, and where it stands. -/
def NumAt (w0 : World) (base n : Nat) (l : List Nat) (x i : Value) (w : World) : Prop :=
  ∃ k : Nat, k ≤ 8 ∧ i = .int .i64 k ∧ w.ownsRow base 5 1 x (l ++ (highOf n 8).take k).length (cellsOf (l ++ (highOf n 8).take k)) ∧ Below base w0 w

/-- A row of one's own is told, this one. -/
def Rows (w : World) (base : Nat) (m : List Nat) (e : Ending) (w' : World) : Prop :=
  ∃ v', e = .returned v' ∧ w'.ownsRow base 5 1 v' m.length (cellsOf m) ∧ Below base w w'

set_option maxRecDepth 100000 in
theorem putNumber_any (n : Nat) (hn : n < 9223372036854775808) (v : Value) (l : List Nat) (base : Nat) (w : World) (hv : w.ownsRow base 5 1 v l.length (cellsOf l)) (hl : l.length ≤ 1000) (hb : base ≤ w.heap.size) :
    Calls Try.prog 28 #[v, .int .i64 n] w (Rows w base (l ++ highOf n 8)) := by
  have hn1 : (n : Int) ≤ 9223372036854775807 := by omega
  have HN := Lib.hid hn; clear hn
  have h0 : NumAt w base n l v (.int .i64 (0 : Nat)) w := ⟨0, by omega, rfl, by simpa using hv, Below.refl _ _⟩
  have H0 := Lib.hid h0
  clear h0 hv
  go_enter Try.func28, Try.ntmps28
  go_wp2
  go_loopw [0, 6] (fun x i wr => NumAt w base n l x i wr) (fun _ i _ => 8 - (intOf i).toNat)
  case atStart => exact H0.out
  case round =>
    clear H0
    obtain ⟨k, hk, rfl, hown, hbel⟩ := hrel
    have hsz := hbel.size
    obtain ⟨p, cap, rfl⟩ := shape_of hown
    by_cases hlt : k < 8
    · obtain ⟨j, hj⟩ : ∃ j, j = 7 - k := ⟨_, rfl⟩
      have hj1 : (7 : Int) - (k : Int) = j := by omega
      have hsh : (n : Int) / 2 ^ (8 * (j : Int)).toNat = ((n / 256 ^ j : Nat) : Int) := by
        have : (8 * (j : Int)).toNat = 8 * j := by omega
        rw [this, show 256 ^ j = 2 ^ (8 * j) by rw [Nat.pow_mul], Int.natCast_ediv, Int.natCast_pow]
        rfl
      have htk := highOf_take (v := n) hlt
      rw [show 8 - 1 - k = j by omega] at htk
      have hxn : n / 256 ^ j ≤ n := Nat.div_le_self _ _
      have hw8 : IntKind.u8.wrap ((n / 256 ^ j : Nat) : Int) = ((n / 256 ^ j % 256 : Nat) : Int) := by rw [IntKind.wrap_u8]; omega
      generalize hx : n / 256 ^ j = x at *
      have hx1 : (x : Int) ≤ 9223372036854775807 := by omega
      have hlen : (l ++ (highOf n 8).take k).length ≤ 1008 := by rw [List.length_append, List.length_take]; omega
      have HT : Hid (l ++ (highOf n 8).take (k + 1) = (l ++ (highOf n 8).take k) ++ [x % 256]) := by unfold Hid; rw [htk, List.append_assoc]
      generalize hm : l ++ (highOf n 8).take k = m at *
      have HO := Lib.hid hown; have HB := Lib.hid hbel
      have hlm : (m.length : Int) ≤ 1008 := by omega
      have hbs : base ≤ wr.heap.size := by omega
      have hjl : (j : Int) ≤ 7 := by omega
      clear hown hbel htk hxn hx hm hj hlen
      go_wp2_with (at_builtin; go_loud (refine wpList_append_bytes rfl (.tmp 9) (.tmp 16) byT rfl base (.slice p m.length cap) m.length (cellsOf m) rfl (HO.out.alloc _) (.slice (some ⟨wr.heap.size, 0, none⟩) 1 1) [x % 256] rfl (Bytes.one (by omega) (by omega)) (by simp; omega) (by simp; omega) ?_); intro v2 w2 hown2 hgrow2 hnil2)
      have hb2 : Below base w w2 := (HB.out.alloc hbs _).grown hgrow2 (by simp; omega) (fun j hj => (HO.out.lt j hj).1)
      have ho2 : w2.ownsRow base 5 1 v2 (m ++ [x % 256]).length (cellsOf (m ++ [x % 256])) := by
        rw [List.length_append, cellsOf_append]; exact hown2
      rw [← HT.out] at ho2
      have hrel2 : NumAt w base n l v2 (.int .i64 (k + 1 : Nat)) w2 := ⟨k + 1, by omega, rfl, ho2, hb2⟩
      have HR := Lib.hid hrel2
      clear hown2 hgrow2 hnil2 hb2 ho2 hrel2
      go_wp2
      go_roundw
      case rel => exact HR.out
      case measure => simp [intOf]; omega
    · obtain rfl : k = 8 := by omega
      rw [List.take_of_length_le (by rw [highOf_length]; omega)] at hown
      have HO := Lib.hid hown; have HB := Lib.hid hbel
      clear hown hbel
      go_wp2
      go_ret
      exact ⟨_, rfl, by simpa [List.length_take, highOf_length] using HO.out, HB.out⟩

set_option maxRecDepth 100000 in
theorem putTextS_any (v : Value) (l : List Nat) (s : ByteArray) (base : Nat) (w : World) (hv : w.ownsRow base 5 1 v l.length (cellsOf l)) (hl : l.length ≤ 1000000) (hb : base ≤ w.heap.size) (hs : s.size ≤ 255) :
    Calls Try.prog 29 #[v, .string s] w fun e w' => ∃ v', e = .returned v' ∧ w'.ownsRow base 5 1 v' (l ++ txt (natsOf s)).length (cellsOf (l ++ txt (natsOf s))) ∧ Below base w w' := by
  obtain ⟨p, cap, rfl⟩ := shape_of hv
  have HV := Lib.hid hv; clear hv
  have hs' : (s.size : Int) ≤ 255 := by omega
  have hw8 : IntKind.u8.wrap (s.size : Int) = s.size := by rw [IntKind.wrap_u8]; omega
  obtain ⟨v1, w1, hrun, hown1, hgrow1⟩ := run_append_bytes (P := Try.prog) 22 byT base (.slice p l.length cap) l.length (cellsOf l) (HV.out.alloc (.cells #[.int .u8 (s.size : Nat)] 5)) (.slice (some ⟨w.heap.size, 0, none⟩) 1 1) [s.size] (Bytes.one rfl (by omega)) (by simp; omega) (by simp; omega)
  have hb1 : Below base w w1 := ((Below.refl _ _).alloc hb _).grown hgrow1 (by simp; omega) (fun j hj => (HV.out.lt j hj).1)
  have ho1 : w1.ownsRow base 5 1 v1 (l ++ [s.size]).length (cellsOf (l ++ [s.size])) := by
    rw [List.length_append, cellsOf_append]; exact hown1
  obtain ⟨i, hi, hz, hz1, hz2⟩ := info_parts (byT).info
  have hz := hb1.size
  obtain ⟨v2, w2, hrun2, ho2, hg2, _⟩ := Lib.run_append_own_string (P := Try.prog) w1 base 22 9 22 5 i byT.slice (by kernel_rfl) hi (by assumption) hz1 hz2 v1 _ _ ho1 s (by rw [List.length_append]; simp; unfold maxLen; omega) (by rw [List.length_append]; simp; omega) (by omega)
  have ho3 : w2.ownsRow base 5 1 v2 (l ++ txt (natsOf s)).length (cellsOf (l ++ txt (natsOf s))) := by
    have e : l ++ txt (natsOf s) = (l ++ [s.size]) ++ natsOf s := by unfold txt; rw [natsOf_length]; simp
    rw [e, List.length_append, cellsOf_append, natsOf_length, ← strCells_nats]
    exact ho2
  have hb2 : Below base w w2 := hb1.grown hg2 (by omega) (fun j hj => (ho1.lt j hj).1)
  have HR1 := Lib.hid hrun; have HR2 := Lib.hid hrun2; have HO := Lib.hid ho3; have HB := Lib.hid hb2
  clear hrun hrun2 ho3 hb2 ho2 hg2 ho1 hb1 hown1 hgrow1 hi hz hz1 hz2 HV
  go_enter Try.func29, Try.ntmps29
  go_wp2_with first
    | (at_builtin; refine Lib.wpList_append_run _ rfl (.tmp 5) (.tmp 9) 22 22 rfl _ _ rfl rfl v1 w1 HR1.out ?_)
    | (at_builtin; refine Lib.wpList_append_run _ rfl (.tmp 10) (.tmp 11) 22 9 rfl _ _ rfl rfl v2 w2 HR2.out ?_)
  go_ret
  exact ⟨_, rfl, HO.out, HB.out⟩


set_option maxRecDepth 100000 in
theorem putTextB_any (v xv : Value) (l m : List Nat) (base : Nat) (w0 w : World) (hv : w.ownsRow base 5 1 v l.length (cellsOf l)) (hl : l.length ≤ 1000000) (hb : base ≤ w.heap.size) (h0 : w0.heap.size ≤ base) (hb0 : Below base w0 w) (hx : Bytes w0 xv m) (hm : m.length ≤ 255) :
    Calls Try.prog 30 #[v, xv] w (Rows w base (l ++ txt m)) := by
  obtain ⟨p, cap, rfl⟩ := shape_of hv
  obtain ⟨q, cq, rfl, _⟩ := hx.any
  have HV := Lib.hid hv; clear hv
  have hm' : (m.length : Int) ≤ 255 := by omega
  have hw8 : IntKind.u8.wrap (m.length : Int) = m.length := by rw [IntKind.wrap_u8]; omega
  obtain ⟨v1, w1, hrun, hown1, hgrow1⟩ := run_append_bytes (P := Try.prog) 22 byT base (.slice p l.length cap) l.length (cellsOf l) (HV.out.alloc (.cells #[.int .u8 (m.length : Nat)] 5)) (.slice (some ⟨w.heap.size, 0, none⟩) 1 1) [m.length] (Bytes.one rfl (by omega)) (by simp; omega) (by simp; omega)
  have hb1 : Below base w w1 := ((Below.refl _ _).alloc hb _).grown hgrow1 (by simp; omega) (fun j hj => (HV.out.lt j hj).1)
  have ho1 : w1.ownsRow base 5 1 v1 (l ++ [m.length]).length (cellsOf (l ++ [m.length])) := by
    rw [List.length_append, cellsOf_append]; exact hown1
  have hz := hb1.size
  obtain ⟨v2, w2, hrun2, ho2, hg2⟩ := run_append_bytes (P := Try.prog) 22 byT base v1 (l ++ [m.length]).length (cellsOf (l ++ [m.length])) ho1 (.slice q m.length cq) m (hx.below ((hb0.trans hb1).mono h0)) (by rw [List.length_append]; simp; omega) (by omega)
  have ho3 : w2.ownsRow base 5 1 v2 (l ++ txt m).length (cellsOf (l ++ txt m)) := by
    have e : l ++ txt m = (l ++ [m.length]) ++ m := by unfold txt; simp
    rw [e, List.length_append, cellsOf_append]
    exact ho2
  have hb2 : Below base w w2 := hb1.grown hg2 (by omega) (fun j hj => (ho1.lt j hj).1)
  have HR1 := Lib.hid hrun; have HR2 := Lib.hid hrun2; have HO := Lib.hid ho3; have HB := Lib.hid hb2
  clear hrun hrun2 ho3 hb2 ho2 hg2 ho1 hb1 hown1 hgrow1 hz HV hb0 hx
  go_enter Try.func30, Try.ntmps30
  go_wp2_with first
    | (at_builtin; refine Lib.wpList_append_run _ rfl (.tmp 5) (.tmp 9) 22 22 rfl _ _ rfl rfl v1 w1 HR1.out ?_)
    | (at_builtin; refine Lib.wpList_append_run _ rfl (.tmp 10) (.tmp 11) 22 22 rfl _ _ rfl rfl v2 w2 HR2.out ?_)
  go_ret
  exact ⟨_, rfl, HO.out, HB.out⟩

/-- What the parts of an event come to, laid one behind the other. -/
theorem evOf_parts (a b : Nat) (s t : ByteArray) (da : List Nat) : highOf a 8 ++ highOf b 8 ++ txt (natsOf s) ++ txt (natsOf t) ++ txt da = evOf ⟨a, b, natsOf s, natsOf t, da⟩ := by
  unfold evOf
  simp

set_option maxRecDepth 100000 in
set_option maxHeartbeats 1600000 in
theorem put_any {w : World} {x : Value} {e : Ev} {q r : Int} {s t : ByteArray} {v : Value} (h : IsEv w x e q r s t v) :
    Calls Try.prog 12 #[x] w fun z w' => ∃ v', z = .returned v' ∧ OwnM w' w.heap.size v' (putEv e) ∧ Below w.heap.size w w' := by
  have hx := h.val
  have HH := Lib.hid h
  obtain ⟨p, cap, rfl, _⟩ := h.da.any
  unfold evVal at hx
  subst hx
  obtain ⟨W, hW⟩ : ∃ W, W = w.alloc (.cells #[.int .i64 q, .string s, .int .i64 r, .string t, .slice p e.da.length cap] 24) := ⟨_, rfl⟩
  have hb : Below w.heap.size w W := by rw [hW]; exact (Below.refl w.heap.size w).alloc (Nat.le_refl _) _
  have hWs : W.heap.size = w.heap.size + 1 := by rw [hW]; exact World.size_alloc ..
  have hWb : W.heap[w.heap.size]? = some (.cells #[.int .i64 q, .string s, .int .i64 r, .string t, .slice p e.da.length cap] 24 (0, 0)) := by rw [hW]; exact heap_alloc_new w _
  have HB := Lib.hid hb; have HWS := Lib.hid hWs; have HWB := Lib.hid hWb; have HW := Lib.hid hW
  have HMAY := Lib.hid (may_any (h.below hb))
  clear hb hWs hWb hW h
  go_enter Try.func12, Try.ntmps12
  go_wp2_with fail
  rw [← HW.out]
  refine HMAY.out.mono ?_
  rintro z w1 ⟨rfl, hb1⟩
  have hbw : Below w.heap.size w w1 := HB.out.trans (hb1.mono HB.out.size)
  have hbx : w1.heap[w.heap.size]? = some (.cells #[.int .i64 q, .string s, .int .i64 r, .string t, .slice p e.da.length cap] 24 (0, 0)) := (hb1.block _ (by rw [HWS.out]; omega)).trans HWB.out
  have hsz1 : w.heap.size + 1 ≤ w1.heap.size := by have := hb1.size; rw [HWS.out] at this; exact this
  cases hm : mayEv e with
  | false =>
    have E : Hid (putEv e = []) := by unfold Hid putEv; rw [hm]; rfl
    have HBW := Lib.hid hbw
    clear hbx hb1 hbw
    go_wp2
    go_ret
    exact ⟨_, rfl, by rw [E.out]; exact .inl ⟨rfl, rfl⟩, HBW.out⟩
  | true =>
    obtain ⟨h0, h1, hms, hmt, hda⟩ := (mayEv_iff e).1 hm
    have he := HH.out.ev
    rw [he] at h0 h1 hms hmt
    dsimp only at h0 h1 hms hmt
    have hq := HH.out.q63
    have hr := HH.out.r63
    obtain ⟨a, rfl⟩ : ∃ a : Nat, q = a := ⟨q.toNat, by omega⟩
    obtain ⟨b, rfl⟩ : ∃ b : Nat, r = b := ⟨r.toNat, by omega⟩
    have E : Hid (putEv e = highOf a 8 ++ highOf b 8 ++ txt (natsOf s) ++ txt (natsOf t) ++ txt e.da) := by
      unfold Hid putEv
      rw [if_pos hm, evOf_parts, ← he]
    have hls := mayNm_length hms
    have hlt := mayNm_length hmt
    rw [natsOf_length] at hls hlt
    have HX := Lib.hid hbx
    have HBW := Lib.hid hbw
    have HDA : Hid (Bytes w1 (.slice p e.da.length cap) e.da) := HH.out.da.below (hbw.mono (Nat.le_refl _))
    have HA : Hid (a < 9223372036854775808) := by unfold Hid; omega
    have HBn : Hid (b < 9223372036854775808) := by unfold Hid; omega
    have HS : Hid (s.size ≤ 16) := by unfold Hid; omega
    have HT : Hid (t.size ≤ 16) := by unfold Hid; omega
    have HD := Lib.hid hda
    generalize hLd : e.da.length = L at *
    have HLD := Lib.hid hLd
    have hS1 : (s.size : Int) ≤ 16 := by omega
    have hT1 : (t.size : Int) ≤ 16 := by omega
    have hL1 : (L : Int) ≤ 100 := by omega
    obtain ⟨wm, hwm⟩ : ∃ W, W = w1.alloc (.cells (zeros (19 + s.size + t.size + L)) 5) := ⟨_, rfl⟩
    have hmk := made_run 0 (19 + s.size + t.size + L) 0 (19 + (s.size : Int) + (t.size : Int) + (L : Int)) rfl (by omega) (by omega) (by omega) w1
    rw [← hwm] at hmk
    have hkm : Below w1.heap.size w1 wm := by rw [hwm]; exact (Below.refl _ _).alloc (Nat.le_refl _) _
    have hown : wm.ownsRow w1.heap.size 5 1 (.slice (some ⟨w1.heap.size, 0, none⟩) 0 (19 + s.size + t.size + L)) 0 [] := by rw [hwm]; exact World.ownsRow_made w1 (zeros (19 + s.size + t.size + L)) (19 + s.size + t.size + L) (Nat.le_refl _) (by unfold maxLen; omega) (by rw [zeros_size, Nat.mul_one])
    have HOM := Lib.hid hown; have HKM := Lib.hid hkm
    have hcl : ∀ (w' : World), Below w1.heap.size w1 w' → w'.cell? ⟨w.heap.size, 0, none⟩ = some (.int .i64 a) ∧ w'.cell? ⟨w.heap.size, 1, none⟩ = some (.string s) ∧ w'.cell? ⟨w.heap.size, 2, none⟩ = some (.int .i64 b) ∧ w'.cell? ⟨w.heap.size, 3, none⟩ = some (.string t) ∧ w'.cell? ⟨w.heap.size, 4, none⟩ = some (.slice p L cap) := fun w' hk => by
      have hg : w'.heap[w.heap.size]? = _ := (hk.block _ (Array.getElem?_eq_some_iff.1 HX.out).1).trans HX.out
      exact ⟨cells_of hg 0, cells_of hg 1, cells_of hg 2, cells_of hg 3, cells_of hg 4⟩
    have HC := Lib.hid hcl
    obtain ⟨c0, c1, c2, c3, c4⟩ := hcl w1 (Below.refl _ w1)
    obtain ⟨d0, d1, d2, d3, d4⟩ := hcl wm hkm
    clear hwm hown hkm hcl hbx hbw hb1 HMAY HWB HW HWS HB he hls hlt h0 h1 hms hmt hq hr hda hLd
    go_wp2_with fail
    clear hmk
    refine (putNumber_any a HA.out _ [] w1.heap.size _ HOM.out (by simp) HKM.out.size).mono ?_
    rintro z w2 ⟨v2, rfl, ho2, hb2⟩
    rw [List.nil_append] at ho2
    have hk2 : Below w1.heap.size w1 w2 := HKM.out.trans hb2
    clear hb2 d0 d1 d2 d3 d4 c0 c1 c2 c3 c4
    obtain ⟨c0, c1, c2, c3, c4⟩ := HC.out _ hk2
    have HO2 := Lib.hid ho2; have HK2 := Lib.hid hk2; clear ho2 hk2
    go_wp2_with fail
    refine (putNumber_any b HBn.out v2 (highOf a 8) w1.heap.size _ HO2.out (by rw [highOf_length]; omega) HK2.out.size).mono ?_
    rintro z w3 ⟨v3, rfl, ho3, hb3⟩
    have hk3 := HK2.out.trans hb3
    clear hb3 c0 c1 c2 c3 c4
    obtain ⟨c0, c1, c2, c3, c4⟩ := HC.out _ hk3
    have HO3 := Lib.hid ho3; have HK3 := Lib.hid hk3; clear ho3 hk3
    go_wp2_with fail
    refine (putTextS_any v3 (highOf a 8 ++ highOf b 8) s w1.heap.size _ HO3.out (by rw [List.length_append, highOf_length, highOf_length]; omega) HK3.out.size (by have := HS.out; omega)).mono ?_
    rintro z w4 ⟨v4, rfl, ho4, hb4⟩
    have hk4 := HK3.out.trans hb4
    clear hb4 c0 c1 c2 c3 c4
    obtain ⟨c0, c1, c2, c3, c4⟩ := HC.out _ hk4
    have HO4 := Lib.hid ho4; have HK4 := Lib.hid hk4; clear ho4 hk4
    go_wp2_with fail
    refine (putTextS_any v4 (highOf a 8 ++ highOf b 8 ++ txt (natsOf s)) t w1.heap.size _ HO4.out (by have := HS.out; rw [List.length_append, List.length_append, highOf_length, highOf_length, txt_length, natsOf_length]; omega) HK4.out.size (by have := HT.out; omega)).mono ?_
    rintro z w5 ⟨v5, rfl, ho5, hb5⟩
    have hk5 := HK4.out.trans hb5
    clear hb5 c0 c1 c2 c3 c4
    obtain ⟨c0, c1, c2, c3, c4⟩ := HC.out _ hk5
    have HO5 := Lib.hid ho5; have HK5 := Lib.hid hk5; clear ho5 hk5
    go_wp2_with fail
    refine (putTextB_any v5 (.slice p L cap) (highOf a 8 ++ highOf b 8 ++ txt (natsOf s) ++ txt (natsOf t)) e.da w1.heap.size w1 _ HO5.out (by have := HS.out; have := HT.out; rw [List.length_append, List.length_append, List.length_append, highOf_length, highOf_length, txt_length, txt_length, natsOf_length, natsOf_length]; omega) HK5.out.size (Nat.le_refl _) HK5.out HDA.out (by have := HD.out; have := HLD.out; omega)).mono ?_
    rintro z w6 ⟨v6, rfl, ho6, hb6⟩
    have HK6 := Lib.hid (HK5.out.trans hb6)
    have HO6 := Lib.hid ho6
    clear hb6 ho6 c0 c1 c2 c3 c4
    go_wp2
    go_ret
    exact ⟨_, rfl, by rw [E.out]; exact OwnM.of_owns (owns_base HO6.out HBW.out.size), HBW.out.trans (HK6.out.mono HBW.out.size)⟩
end Go.Proofs.Ytjjcfflgndclkaa

