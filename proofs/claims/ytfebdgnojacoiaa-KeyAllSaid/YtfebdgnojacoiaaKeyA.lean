/- Keys: the parts, one behind the other. -/
import Derived.Test.YtfebdgnojacoiaaRefL
namespace Go.Proofs.Ytfebdgnojacoiaa
open Go Go.RowKit Go.By

/-- A part is laid behind what is there. -/
def Lays (w : World) (base : Nat) (m : List Nat) (e : Ending) (w' : World) : Prop :=
  ∃ v', e = .returned (.tuple #[v', .bool true]) ∧ w'.ownsRow base 5 1 v' m.length (cellsOf m) ∧ Below base w w'

set_option maxRecDepth 100000 in
theorem putLetter_any (c : Nat) (hc : c < 256) (s : ByteArray) (n : Int) (v : Value) (l : List Nat) (base : Nat) (w : World) (hv : w.ownsRow base 5 1 v l.length (cellsOf l)) (hl : l.length ≤ 1000) (hb : base ≤ w.heap.size) :
    Calls Try.prog 40 #[.agg #[.int .u8 c, .string s, .int .i64 n], v] w (Lays w base (l ++ [c])) := by
  have HC := Lib.hid hc; clear hc
  obtain ⟨p, cap, rfl⟩ := shape_of hv
  have HV := Lib.hid hv; clear hv
  go_enter Try.func40, Try.ntmps40
  go_wp2_with (at_builtin; go_loud (refine wpList_append_bytes rfl (.tmp 6) (.tmp 9) byT rfl base (.slice p l.length cap) l.length (cellsOf l) rfl ((HV.out.alloc _).alloc _) (.slice (some ⟨w.heap.size + 1, 0, none⟩) 1 1) [c] rfl (by have := Bytes.one (e := 5) (n := ((c : Nat) : Int)) (w := w.alloc (.cells #[.int .u8 (c : Nat), .string s, .int .i64 n] 40)) rfl HC.out; rw [World.size_alloc] at this; exact this) (by simp; omega) (by simp; omega) ?_); intro v2 w2 hown2 hgrow2 hnil2)
  have hb2 : Below base w w2 := (((Below.refl _ _).alloc hb _).alloc (by simp; omega) _).grown hgrow2 (by simp; omega) (fun j hj => (HV.out.lt j hj).1)
  have ho2 : w2.ownsRow base 5 1 v2 (l ++ [c]).length (cellsOf (l ++ [c])) := by
    rw [List.length_append, cellsOf_append]; exact hown2
  have HO := Lib.hid ho2; have HB := Lib.hid hb2
  clear hown2 hgrow2 hnil2 hb2 ho2
  go_wp2
  go_ret2
  exact ⟨_, rfl, HO.out, HB.out⟩

set_option maxRecDepth 100000 in
theorem putNought_any (c : Nat) (s : ByteArray) (n : Int) (v : Value) (l : List Nat) (base : Nat) (w : World) (hv : w.ownsRow base 5 1 v l.length (cellsOf l)) (hl : l.length ≤ 1000) (hb : base ≤ w.heap.size) :
    Calls Try.prog 39 #[.agg #[.int .u8 c, .string s, .int .i64 n], v] w (Lays w base (l ++ [0])) := by
  obtain ⟨p, cap, rfl⟩ := shape_of hv
  have HV := Lib.hid hv; clear hv
  go_enter Try.func39, Try.ntmps39
  go_wp2_with (at_builtin; go_loud (refine wpList_append_bytes rfl (.tmp 6) (.tmp 7) byT rfl base (.slice p l.length cap) l.length (cellsOf l) rfl ((HV.out.alloc _).alloc _) (.slice (some ⟨w.heap.size + 1, 0, none⟩) 1 1) [0] rfl (by have := Bytes.one (e := 5) (n := ((0 : Nat) : Int)) (w := w.alloc (.cells #[.int .u8 (c : Nat), .string s, .int .i64 n] 40)) rfl (by omega); rw [World.size_alloc] at this; exact this) (by simp; omega) (by simp; omega) ?_); intro v2 w2 hown2 hgrow2 hnil2)
  have hb2 : Below base w w2 := (((Below.refl _ _).alloc hb _).alloc (by simp; omega) _).grown hgrow2 (by simp; omega) (fun j hj => (HV.out.lt j hj).1)
  have ho2 : w2.ownsRow base 5 1 v2 (l ++ [0]).length (cellsOf (l ++ [0])) := by
    rw [List.length_append, cellsOf_append]; exact hown2
  have HO := Lib.hid ho2; have HB := Lib.hid hb2
  clear hown2 hgrow2 hnil2 hb2 ho2
  go_wp2
  go_ret2
  exact ⟨_, rfl, HO.out, HB.out⟩

set_option maxRecDepth 100000 in
theorem mayName_any (s : ByteArray) (w : World) (hs : s.size ≤ maxLen) : Calls Try.prog 12 #[.string s] w fun e w' => e = .returned (.bool (mayNm (natsOf s))) ∧ w = w' := by
  unfold maxLen at hs
  have hl : (natsOf s).length = s.size := natsOf_length s
  by_cases h1 : 1 ≤ (s.size : Int)
  · by_cases h2 : (s.size : Int) ≤ 16
    · have hsz : s.size ≤ 16 := by omega
      have E := Lib.hid (fun h => mayNm_of_good (l := natsOf s) h)
      have HLL := Lib.hid hl; clear hl
      go_enter Try.func12, Try.ntmps12
      go_wp2
      go_loop [14] (fun i => ∃ k : Nat, k ≤ s.size ∧ i = .int .i64 k ∧ goodTo (natsOf s) k) (fun i => s.size - (intOf i).toNat)
      case atStart => exact ⟨0, by omega, rfl, fun i hi => absurd hi (by omega)⟩
      case round =>
        obtain ⟨k, hk, rfl, hg⟩ := hrel
        have HG := Lib.hid hg; clear hg
        by_cases hlt : k < s.size
        · have hat := nats_at hlt
          have hln : k < (natsOf s).length := by rw [natsOf_length]; exact hlt
          by_cases h3 : 33 ≤ ((atB (natsOf s) k : Nat) : Int)
          · by_cases h4 : ((atB (natsOf s) k : Nat) : Int) ≤ 126
            · go_wp2
              go_round
              case rel =>
                refine ⟨k + 1, by omega, by go_num, fun i hi => ?_⟩
                by_cases he : i = k
                · subst he; omega
                · exact HG.out i (by omega)
              case measure => simp [intOf]; omega
            · have E := Lib.hid (mayNm_of_bad hln (.inr (by omega)))
              go_wp2
              go_ret
              exact ⟨by rw [E.out]; rfl, rfl⟩
          · have E := Lib.hid (mayNm_of_bad hln (.inl (by omega)))
            go_wp2
            go_ret
            exact ⟨by rw [E.out]; rfl, rfl⟩
        · have hk2 : k = s.size := by omega
          have E2 : Hid (mayNm (natsOf s) = true) := by
            unfold Hid
            rw [E.out (by rw [HLL.out, ← hk2]; exact HG.out), HLL.out]
            simp; omega
          go_wp2
          go_ret
          exact ⟨by rw [E2.out]; rfl, rfl⟩
    · have E : Hid (mayNm (natsOf s) = false) := by
        unfold Hid
        rw [Bool.eq_false_iff]
        intro h
        have := mayNm_length h
        omega
      clear hl
      go_enter Try.func12, Try.ntmps12
      go_wp2
      go_ret
      exact ⟨by rw [E.out]; rfl, rfl⟩
  · have E : Hid (mayNm (natsOf s) = false) := by
      unfold Hid
      rw [Bool.eq_false_iff]
      intro h
      have := mayNm_length h
      omega
    clear hl
    go_enter Try.func12, Try.ntmps12
    go_wp2
    go_ret
    exact ⟨by rw [E.out]; rfl, rfl⟩

/-- A part that may not be. -/
def Lacks (w : World) (base : Nat) (e : Ending) (w' : World) : Prop := e = .returned (.tuple #[.slice none 0 0, .bool false]) ∧ Below base w w'

set_option maxRecDepth 100000 in
theorem putName_any (c : Nat) (s : ByteArray) (n : Int) (v : Value) (l : List Nat) (base : Nat) (w : World) (hv : w.ownsRow base 5 1 v l.length (cellsOf l)) (hl : l.length ≤ 1000) (hb : base ≤ w.heap.size) (hs : s.size ≤ maxLen) :
    Calls Try.prog 38 #[.agg #[.int .u8 c, .string s, .int .i64 n], v] w fun e w' => if mayNm (natsOf s) = true then Lays w base (l ++ natsOf s) e w' else Lacks w base e w' := by
  obtain ⟨p, cap, rfl⟩ := shape_of hv
  have HV := Lib.hid hv; clear hv
  have hbl : Below base w (w.alloc (.cells #[.int .u8 (c : Nat), .string s, .int .i64 n] 40)) := (Below.refl _ _).alloc hb _
  have HBL := Lib.hid hbl; clear hbl
  cases hm : mayNm (natsOf s) with
  | false =>
    simp only [Bool.false_eq_true, if_false]
    go_enter Try.func38, Try.ntmps38
    go_wp2_with fail
    refine (mayName_any s _ hs).mono ?_
    rintro e w' ⟨rfl, rfl⟩
    rw [hm]
    go_wp2
    go_ret2
    exact ⟨rfl, HBL.out⟩
  | true =>
    simp only [if_true]
    have hn := mayNm_length hm
    rw [natsOf_length] at hn
    obtain ⟨i, hi, hz, hz1, hz2⟩ := info_parts (byT).info
    obtain ⟨v1, w1, hrun, ho1, hg1, _⟩ := Lib.run_append_own_string (P := Try.prog) _ base 22 9 22 5 i byT.slice (by kernel_rfl) hi hz hz1 hz2 _ l.length (cellsOf l) (HV.out.alloc (.cells #[.int .u8 (c : Nat), .string s, .int .i64 n] 40)) s (by unfold maxLen; omega) (by omega) (by simp; omega)
    have ho2 : w1.ownsRow base 5 1 v1 (l ++ natsOf s).length (cellsOf (l ++ natsOf s)) := by
      rw [cellsOf_append, ← strCells_nats, List.length_append, natsOf_length]; exact ho1
    have hb2 : Below base w w1 := HBL.out.grown hg1 (by simp; omega) (fun j hj => (HV.out.lt j hj).1)
    have HR := Lib.hid hrun; have HO := Lib.hid ho2; have HB := Lib.hid hb2
    clear hrun ho1 hg1 ho2 hb2 hi hz hz1 hz2
    go_enter Try.func38, Try.ntmps38
    go_wp2_with fail
    refine (mayName_any s _ hs).mono ?_
    rintro e w' ⟨rfl, rfl⟩
    rw [hm]
    go_wp2_with (at_builtin; refine Lib.wpList_append_run _ rfl (.tmp 10) (.tmp 12) 22 9 rfl _ _ rfl rfl v1 w1 HR.out ?_)
    go_ret2
    exact ⟨_, rfl, HO.out, HB.out⟩
end Go.Proofs.Ytfebdgnojacoiaa

