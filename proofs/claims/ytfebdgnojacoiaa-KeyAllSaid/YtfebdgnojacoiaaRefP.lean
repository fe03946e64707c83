/- The document's keys: what is after. -/
import Derived.Test.YtfebdgnojacoiaaRefO
namespace Go.Proofs.Ytfebdgnojacoiaa
open Go Go.RowKit Go.By

theorem afterL_all : ∀ {l : List Nat}, (∀ c ∈ l, c = 255) → afterL l = []
  | [], _ => rfl
  | c :: k, h => by
    unfold afterL
    rw [if_pos (afterL_all fun x hx => h x (List.mem_cons_of_mem _ hx)), if_neg (by rw [h c (List.mem_cons_self ..)]; omega)]
theorem afterL_at : ∀ {l : List Nat} (i : Nat), i < l.length → (∀ j, i < j → j < l.length → atB l j = 255) → atB l i < 255 → afterL l = l.take i ++ [atB l i + 1]
  | [], _, hi, _, _ => by simp at hi
  | c :: k, 0, _, h, hc => by
    have h2 : afterL k = [] := afterL_all fun x hx => by
      obtain ⟨j, hj, rfl⟩ := List.getElem_of_mem hx
      have := h (j + 1) (by omega) (by simp; omega)
      rw [atB_of (by simp; omega)] at this
      simpa using this
    have hc' : c < 255 := hc
    unfold afterL
    rw [if_pos h2, if_pos hc']
    rfl
  | c :: k, i + 1, hi, h, hc => by
    have hi' : i < k.length := by simpa using hi
    have hk : ∀ j, atB (c :: k) (j + 1) = atB k j := fun j => rfl
    have ih := afterL_at (l := k) i hi' (fun j h1 h2 => by rw [← hk]; exact h (j + 1) (by omega) (by simp; omega)) (by rw [← hk]; exact hc)
    unfold afterL
    rw [if_neg (by rw [ih]; simp), ih, hk]
    rfl

set_option maxRecDepth 100000 in
theorem refAfter_any (v : Value) (l : List Nat) (w : World) (hv : Bytes w v l) (hl : l.length ≤ 1000000) :
    Calls Try.prog 26 #[v] w fun e w' => ∃ v', e = .returned v' ∧ OwnM w' w.heap.size v' (afterL l) ∧ Below w.heap.size w w' := by
  obtain ⟨p, cap, rfl, _⟩ := hv.any
  have hm := hv.short
  unfold maxLen at hm
  have HV := Lib.hid hv; clear hv
  go_enter Try.func26, Try.ntmps26
  go_wp2
  go_loop [3] (fun i => ∃ k : Nat, k ≤ l.length ∧ i = .int .i64 ((k : Int) - 1) ∧ ∀ j, k ≤ j → j < l.length → atB l j = 255) (fun i => (intOf i + 1).toNat)
  case atStart => exact ⟨l.length, by omega, rfl, fun j h1 h2 => absurd h2 (by omega)⟩
  case round =>
    obtain ⟨k, hk, rfl, hall⟩ := hrel
    have HA := Lib.hid hall; clear hall
    cases k with
    | zero =>
      have E := Lib.hid (afterL_all (l := l) (fun c hc => by
        obtain ⟨j, hj, rfl⟩ := List.getElem_of_mem hc
        have := HA.out j (by omega) hj
        rwa [atB_of hj] at this))
      go_wp2
      go_ret
      exact ⟨_, rfl, by rw [E.out]; exact .inl ⟨rfl, rfl⟩, Below.refl _ _⟩
    | succ m =>
      have hml : m < l.length := by omega
      obtain ⟨b1, o1, rfl, hcell⟩ := HV.out.spot m hml
      have hlt := HV.out.at_lt hml
      have hx : ((m + 1 : Nat) : Int) - 1 = (m : Int) := by omega
      rw [hx]
      have hm2 : (m : Int) < l.length := by omega
      by_cases hc : ((atB l m : Nat) : Int) < 255
      · have E := Lib.hid (afterL_at m hml (fun j h1 h2 => HA.out j (by omega) h2) (by omega))
        have hu := fun w => upto_runI (some ⟨b1, o1, none⟩) l.length cap m m rfl (by have := HV.out.room.2; omega) w
        have HU := Lib.hid (HV.out.upto (n := m) (by omega))
        have hne := World.new_ne w _ hcell
        have hx1 : ((atB l m : Nat) : Int) + 1 < 256 := by omega
        clear hx
        generalize atB l m = x at *
        have HX : Hid (∀ w0 : World, ∀ {g : Nat}, w0.heap.size = g → Bytes (w0.alloc (.cells #[.int .u8 (IntKind.u8.wrap ((x : Int) + 1))] 5)) (.slice (some ⟨g, 0, none⟩) 1 1) [x + 1]) := fun w0 g hg => by
          subst hg
          exact Bytes.one (w := w0) (by rw [IntKind.wrap_u8]; omega) (by omega)
        go_wp2_with fail
        go_region_held3 (fun w' => w'.cell? ⟨b1, o1 + m, none⟩ = some (.int .u8 (x : Nat))) (go_keep)
          (first
            | (refine step_append_bytes rfl (.tmp 16) (.tmp 19) byT rfl w.heap.size (.slice (some ⟨w.heap.size, 0, none⟩) 0 0) 0 [] rfl (World.ownsRow_made w #[] 0 (Nat.le_refl _) (by decide) rfl) (.slice (some ⟨b1, o1, none⟩) m cap) (l.take m) rfl (HU.out.below (((Below.refl _ _).alloc (Nat.le_refl _) _).drew)) (by rw [List.length_take]; omega) (by simp <;> omega) ?_
               intro v1 w1 hown1 hgrow1
               have hb1 : Below w.heap.size w w1 := ((Below.refl _ _).alloc (Nat.le_refl _) _).drew.grown hgrow1 (by simp) (by simp [Value.ownBlock])
               have hc1 : w1.cell? ⟨b1, o1 + m, none⟩ = some (.int .u8 (x : Nat)) := (hb1.cell (block_lt_of_cell hcell)).trans hcell
               have HB1 := Lib.hid hb1; have HO1 := Lib.hid hown1; clear hb1 hown1 hgrow1)
            | (refine step_append_bytes rfl (.tmp 16) (.tmp 19) byT rfl w.heap.size (.slice (some ⟨w.heap.size, 0, none⟩) 0 0) 0 [] rfl ((World.ownsRow_made w #[] 0 (Nat.le_refl _) (by decide) rfl).alloc _) (.slice (some ⟨b1, o1, none⟩) m cap) (l.take m) rfl (by first | exact (HU.out.below (((Below.refl _ _).alloc (Nat.le_refl _) _).alloc (by simp <;> omega) _)) | exact (HU.out.below (((Below.refl _ _).alloc (Nat.le_refl _) _).alloc (by simp <;> omega) _).drew)) (by rw [List.length_take]; omega) (by simp <;> omega) ?_
               intro v1 w1 hown1 hgrow1
               have hb1 : Below w.heap.size w w1 := (by first | exact (((Below.refl _ _).alloc (Nat.le_refl _) _).alloc (by simp <;> omega) _).grown hgrow1 (by simp; omega) (by simp [Value.ownBlock]) | exact (((Below.refl _ _).alloc (Nat.le_refl _) _).alloc (by simp <;> omega) _).drew.grown hgrow1 (by simp; omega) (by simp [Value.ownBlock]))
               have hc1 : w1.cell? ⟨b1, o1 + m, none⟩ = some (.int .u8 (x : Nat)) := (hb1.cell (block_lt_of_cell hcell)).trans hcell
               have hx1 : Bytes w1 (.slice (some ⟨w.heap.size + 1, 0, none⟩) 1 1) [x + 1] := (by first | exact Bytes.kept (HX.out (w.alloc (.cells #[] 5)) (by simp)) hgrow1 (by simp [Value.ownBlock]) | exact Bytes.kept (bytes_drewN (HX.out (w.alloc (.cells #[] 5)) (by simp)) 1) hgrow1 (by simp [Value.ownBlock]))
               have HB1 := Lib.hid hb1; have HO1 := Lib.hid hown1; have HX1 := Lib.hid hx1; clear hb1 hown1 hgrow1 hx1)
            | (refine step_append_bytes rfl (.tmp 16) (.tmp 19) byT rfl w.heap.size (.slice (some ⟨w.heap.size + 1, 0, none⟩) 0 0) 0 [] rfl (by first | exact World.ownsRow_made (w.alloc (.cells #[.int .u8 (IntKind.u8.wrap ((x : Int) + 1))] 5)) #[] 0 (by simp <;> omega) (by decide) rfl | (have := World.ownsRow_made (base := w.heap.size) (size := 1) (e := 5) (w.alloc (.cells #[.int .u8 (IntKind.u8.wrap ((x : Int) + 1))] 5)) #[] 0 (by simp <;> omega) (by decide) rfl; rw [World.size_alloc] at this; exact this)) (.slice (some ⟨b1, o1, none⟩) m cap) (l.take m) rfl (by first | exact (HU.out.below (((Below.refl _ _).alloc (Nat.le_refl _) _).alloc (by simp <;> omega) _)) | exact (HU.out.below (((Below.refl _ _).alloc (Nat.le_refl _) _).alloc (by simp <;> omega) _).drew)) (by rw [List.length_take]; omega) (by simp <;> omega) ?_
               intro v1 w1 hown1 hgrow1
               have hb1 : Below w.heap.size w w1 := (by first | exact (((Below.refl _ _).alloc (Nat.le_refl _) _).alloc (by simp <;> omega) _).grown hgrow1 (by simp; omega) (by simp [Value.ownBlock]) | exact (((Below.refl _ _).alloc (Nat.le_refl _) _).alloc (by simp <;> omega) _).drew.grown hgrow1 (by simp; omega) (by simp [Value.ownBlock]))
               have hc1 : w1.cell? ⟨b1, o1 + m, none⟩ = some (.int .u8 (x : Nat)) := (hb1.cell (block_lt_of_cell hcell)).trans hcell
               have hx1 : Bytes w1 (.slice (some ⟨w.heap.size, 0, none⟩) 1 1) [x + 1] := (by first | exact Bytes.kept ((HX.out w rfl).below ((Below.refl _ _).alloc (Nat.le_refl _) _)) hgrow1 (by simp [Value.ownBlock]) | exact Bytes.kept (bytes_drewN ((HX.out w rfl).below ((Below.refl _ _).alloc (Nat.le_refl _) _)) 1) hgrow1 (by simp [Value.ownBlock]))
               have HB1 := Lib.hid hb1; have HO1 := Lib.hid hown1; have HX1 := Lib.hid hx1; clear hb1 hown1 hgrow1 hx1)
            | (refine step_append_bytes rfl (.tmp 20) (.tmp 26) byT rfl w.heap.size v1 (0 + (l.take m).length) ([] ++ cellsOf (l.take m)) rfl (HO1.out.alloc _) (.slice (some ⟨w1.heap.size, 0, none⟩) 1 1) [x + 1] rfl (HX.out w1 rfl) (by rw [List.length_take]; simp; omega) (by have := HB1.out.size; simp; omega) ?_
               intro v2 w2 hown2 hgrow2
               have hb2 : Below w.heap.size w w2 := (by first | exact (HB1.out.alloc HB1.out.size _).grown hgrow2 (by have := HB1.out.size; simp; omega) (fun j hj => (HO1.out.lt j hj).1) | exact ((HB1.out.alloc HB1.out.size _).drew).grown hgrow2 (by have := HB1.out.size; simp; omega) (fun j hj => (HO1.out.lt j hj).1))
               have hc2 : w2.cell? ⟨b1, o1 + m, none⟩ = some (.int .u8 (x : Nat)) := (hb2.cell (block_lt_of_cell hcell)).trans hcell
               have HB2 := Lib.hid hb2; have HO2 := Lib.hid hown2; clear hb2 hown2 hgrow2)
            | (refine step_append_bytes rfl (.tmp 20) (.tmp 26) byT rfl w.heap.size v1 (0 + (l.take m).length) ([] ++ cellsOf (l.take m)) rfl HO1.out (.slice (some ⟨w.heap.size + 1, 0, none⟩) 1 1) [x + 1] rfl (by first | exact HX1.out | exact bytes_drewN HX1.out 1) (by rw [List.length_take]; simp; omega) HB1.out.size ?_
               intro v2 w2 hown2 hgrow2
               have hb2 : Below w.heap.size w w2 := (by first | exact HB1.out.grown hgrow2 HB1.out.size (fun j hj => (HO1.out.lt j hj).1) | exact HB1.out.drew.grown hgrow2 HB1.out.size (fun j hj => (HO1.out.lt j hj).1))
               have hc2 : w2.cell? ⟨b1, o1 + m, none⟩ = some (.int .u8 (x : Nat)) := (hb2.cell (block_lt_of_cell hcell)).trans hcell
               have HB2 := Lib.hid hb2; have HO2 := Lib.hid hown2; clear hb2 hown2 hgrow2)
            | (refine step_append_bytes rfl (.tmp 20) (.tmp 26) byT rfl w.heap.size v1 (0 + (l.take m).length) ([] ++ cellsOf (l.take m)) rfl HO1.out (.slice (some ⟨w.heap.size, 0, none⟩) 1 1) [x + 1] rfl (by first | exact HX1.out | exact bytes_drewN HX1.out 1) (by rw [List.length_take]; simp; omega) HB1.out.size ?_
               intro v2 w2 hown2 hgrow2
               have hb2 : Below w.heap.size w w2 := (by first | exact HB1.out.grown hgrow2 HB1.out.size (fun j hj => (HO1.out.lt j hj).1) | exact HB1.out.drew.grown hgrow2 HB1.out.size (fun j hj => (HO1.out.lt j hj).1))
               have hc2 : w2.cell? ⟨b1, o1 + m, none⟩ = some (.int .u8 (x : Nat)) := (hb2.cell (block_lt_of_cell hcell)).trans hcell
               have HB2 := Lib.hid hb2; have HO2 := Lib.hid hown2; clear hb2 hown2 hgrow2))
        all_goals
          have ho : OwnM w2 w.heap.size v2 (afterL l) := OwnM.of_owns (by
            rw [E.out, cellsOf_append, List.length_append]
            have := HO2.out
            rw [Nat.zero_add, List.nil_append] at this
            exact this)
          have HO := Lib.hid ho
          clear ho HO2
          go_wp2
          go_ret
          exact ⟨_, rfl, HO.out, HB2.out⟩
      · have h255 : atB l m = 255 := by omega
        have HA2 : Hid (∀ j, m ≤ j → j < l.length → atB l j = 255) := fun j h1 h2 => by
          by_cases he : j = m
          · rw [he]; exact h255
          · exact HA.out j (by omega) h2
        clear hx
        go_wp2
        go_round
        case rel => exact ⟨m, by omega, by go_num, HA2.out⟩
        case measure => simp [intOf]
end Go.Proofs.Ytfebdgnojacoiaa

