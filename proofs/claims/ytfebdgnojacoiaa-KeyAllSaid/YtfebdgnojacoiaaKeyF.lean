/- Keys: what a key was made of; what is after one. -/
import Derived.Test.YtfebdgnojacoiaaKeyE
import Derived.Test.YtfebdgnojacoiaaCloneG
import Derived.Test.YtfebdgnojacoiaaRefP
namespace Go.By
open Go Go.RowKit
theorem OwnM.set {w : World} {base : Nat} {g n cap : Nat} {l : List Nat} (h : OwnM w base (.slice (some ⟨g, 0, none⟩) n cap) l) (i x : Nat) (hi : i < l.length) : OwnM (w.setCell ⟨g, i, none⟩ (.int .u8 x)) base (.slice (some ⟨g, 0, none⟩) n cap) (l.set i x) := by
  rcases h with ⟨h, _⟩ | ⟨g', cap', he, hb, hg, hnc, hcm, hf, hv⟩
  · cases h
  · simp only [Value.slice.injEq, Option.some.injEq, Addr.mk.injEq, and_true] at he
    obtain ⟨rfl, rfl, rfl⟩ := he
    have e1 : w.setCell ⟨g, i, none⟩ (.int .u8 x) = w.setCells g i [.int .u8 x] := rfl
    refine .inr ⟨g, cap, by rw [List.length_set], hb, by rw [e1, setCells_size]; exact hg, by rw [List.length_set]; exact hnc, hcm, fun j hj => ⟨?_, ?_⟩, fun j hj => ?_⟩
    · rw [e1]; exact World.isSome_setCells _ _ _ _ _ (hf j hj).1
    · rw [e1, World.frozen?_setCells]; exact (hf j hj).2
    · rw [List.length_set] at hj
      rw [e1]
      by_cases hji : j = i
      · subst hji
        have := World.cell?_setCells_in g [.int .u8 (x : Int)] j w (fun k hk => by
          simp only [List.length_cons, List.length_nil, Nat.zero_add, Nat.lt_one_iff] at hk
          subst hk
          exact (hf _ (by omega)).1) 0 (by simp)
        rw [Nat.add_zero] at this
        rw [this]
        simp [atB_of (l := l.set j x) (i := j) (by rw [List.length_set]; exact hj)]
      · rw [World.cell?_setCells_out g _ i w ⟨g, j, none⟩ (fun _ _ => by show j < i ∨ i + 1 ≤ j; omega)]
        rw [hv j hj]
        unfold atB
        rw [List.getD_eq_getElem?_getD, List.getD_eq_getElem?_getD, List.getElem?_set_ne (Ne.symm hji)]
end Go.By
namespace Go.Proofs.Ytfebdgnojacoiaa
open Go Go.RowKit Go.By

set_option maxRecDepth 100000 in
theorem takeStream_any (v : Value) (l : List Nat) (w : World) (hv : Bytes w v l) :
    Calls Try.prog 9 #[v] w fun e w' => e = .returned (pkV l) ∧ Below w.heap.size w w' := by
  have H := Lib.hid (takeNumbered_any v l w hv)
  have E : Hid (pkV l = .tuple #[.string (pkName l), .int .i64 (pkNum l : Nat), .bool (isPair l)]) := rfl
  clear hv
  go_enter Try.func9, Try.ntmps9
  go_wp2_with fail
  refine H.out.mono ?_
  rintro e w' ⟨rfl, hb⟩
  rw [E.out]
  go_wp2
  go_ret3
  exact ⟨by rw [E.out]; rfl, hb⟩
set_option maxRecDepth 100000 in
theorem takeType_any (v : Value) (l : List Nat) (w : World) (hv : Bytes w v l) :
    Calls Try.prog 11 #[v] w fun e w' => e = .returned (pkV l) ∧ Below w.heap.size w w' := by
  have H := Lib.hid (takeNumbered_any v l w hv)
  have E : Hid (pkV l = .tuple #[.string (pkName l), .int .i64 (pkNum l : Nat), .bool (isPair l)]) := rfl
  clear hv
  go_enter Try.func11, Try.ntmps11
  go_wp2_with fail
  refine H.out.mono ?_
  rintro e w' ⟨rfl, hb⟩
  rw [E.out]
  go_wp2
  go_ret3
  exact ⟨by rw [E.out]; rfl, hb⟩

set_option maxRecDepth 100000 in
theorem after_any (v : Value) (l : List Nat) (w : World) (hv : Bytes w v l) (hl : l.length ≤ 1000000) : Calls Try.prog 25 #[v] w (Tells w (afterL l)) := by
  obtain ⟨p, cap, rfl, _⟩ := hv.any
  have hm := hv.short
  unfold maxLen at hm
  have HV := Lib.hid hv; clear hv
  go_enter Try.func25, Try.ntmps25
  go_wp2
  go_loop [3] (fun i => ∃ k : Nat, k ≤ l.length ∧ i = .int .i64 k ∧ ∀ j, k ≤ j → j < l.length → atB l j = 255) (fun i => (intOf i).toNat)
  case atStart => exact ⟨l.length, by omega, rfl, fun j h1 h2 => absurd h2 (by omega)⟩
  case round =>
    obtain ⟨k, hk, rfl, hall⟩ := hrel
    have HA := Lib.hid hall; clear hall
    cases k with
    | zero =>
      have E := Lib.hid (afterL_all (l := l) (fun c hc => by
        obtain ⟨j, hj, rfl⟩ := List.getElem_of_mem hc
        have := HA.out j (by omega) hj
        rwa [atB_of hj] at this))
      go_wp2
      go_ret
      exact ⟨_, rfl, by rw [E.out]; exact .inl ⟨rfl, rfl⟩, Below.refl _ _⟩
    | succ m =>
      have hml : m < l.length := by omega
      obtain ⟨b1, o1, rfl, hcell⟩ := HV.out.spot m hml
      have hlt := HV.out.at_lt hml
      have hx : ((m + 1 : Nat) : Int) - 1 = (m : Int) := by omega
      have hm2 : (m : Int) < l.length := by omega
      by_cases hc : atB l m = 255
      · have HA2 : Hid (∀ j, m ≤ j → j < l.length → atB l j = 255) := fun j h1 h2 => by
          by_cases he : j = m
          · rw [he]; exact hc
          · exact HA.out j (by omega) h2
        rw [hc] at hcell
        clear hlt
        go_wp2
        go_round
        case rel => exact ⟨m, by omega, by go_num, HA2.out⟩
        case measure => simp [intOf]
      · have E := Lib.hid (afterL_at m hml (fun j h1 h2 => HA.out j (by omega) h2) (by omega))
        have hup := fun w => upto_runI (some ⟨b1, o1, none⟩) l.length cap (m + 1) ((m : Int) + 1) (by omega) (by have := HV.out.room.2; omega) w
        have hcl := clone_any (.slice (some ⟨b1, o1, none⟩) (m + 1) cap) (l.take (m + 1)) w (HV.out.upto (n := m + 1) (by omega)) (by rw [List.length_take]; omega)
        have htl : (l.take (m + 1)).length = m + 1 := by rw [List.length_take]; omega
        rw [htl] at hcl
        have HCL := Lib.hid hcl
        have hat : atB (l.take (m + 1)) m = atB l m := atB_take (by omega)
        have HAT := Lib.hid hat; have HTL := Lib.hid htl
        have hset : Hid ((l.take (m + 1)).set m (atB l m + 1) = afterL l) := by
          unfold Hid
          rw [E.out, List.take_succ_eq_append_getElem hml, List.set_append_right _ _ (by rw [List.length_take]; omega), List.length_take, Nat.min_eq_left (by omega), Nat.sub_self]
          rfl
        have hxne : (((atB l m : Nat) : Int) == 255) = false := by rw [beq_eq_false_iff_ne]; omega
        clear hcl hat htl E
        generalize hxx : atB l m = x at *
        have hx1 : (x : Int) < 255 := by omega
        clear hxx hlt hc
        go_wp2_with fail

        refine HCL.out.mono ?_
        rintro e w2 ⟨v2, rfl, ho2, hb2⟩
        obtain ⟨g, c2, rfl, h1, h2, h3, hcs, hfr⟩ := own_open ho2 (by omega)
        have hcm := hcs m (by rw [HTL.out]; omega)
        rw [HAT.out] at hcm
        have hfm := hfr m
        have hM := (OwnM.of_owns (by rw [HTL.out]; exact ho2)).set m (x + 1) (by rw [HTL.out]; omega)
        rw [hset.out] at hM
        have hbb : Below w.heap.size w (w2.setCell ⟨g, m, none⟩ (.int .u8 (x + 1 : Nat))) := hb2.setCell h3 _
        have HM := Lib.hid hM; have HB := Lib.hid hbb
        clear ho2 hb2 hcs hfr hM hbb HCL HAT HTL hset hup
        go_wp2
        go_ret
        exact ⟨_, rfl, HM.out, HB.out⟩
end Go.Proofs.Ytfebdgnojacoiaa

