/- []byte(s) of a string that is no constant, and append behind it. Over whatever program. -/
import Derived.Test.YtoegkdfeonkgkaaGenZ
import Derived.Test.YtoegkdfeonkgkaaKeyP
import Derived.Lib.ConvBytes
import Derived.Lib.AppendStr
import Derived.Deep.Upon
import Derived.Deep.MidRow
namespace Go.By
open Go Go.RowKit

/-- A row of one's own, whatever is marked behind its end. -/
def OwnM (w : World) (base : Nat) (v : Value) (l : List Nat) : Prop :=
  (v = .slice none 0 0 ∧ l = []) ∨ ∃ g cap, v = .slice (some ⟨g, 0, none⟩) l.length cap ∧ base ≤ g ∧ g < w.heap.size ∧ l.length ≤ cap ∧ cap ≤ maxLen ∧
    (∀ j, j < cap → (w.cell? ⟨g, j, none⟩).isSome = true ∧ w.frozen? ⟨g, j, none⟩ = false) ∧ (∀ j, j < l.length → w.cell? ⟨g, j, none⟩ = some (.int .u8 (atB l j : Nat)))

theorem OwnM.of_owns {w : World} {base : Nat} {e : TypeId} {v : Value} {l : List Nat} (h : w.ownsRow base e 1 v l.length (cellsOf l)) : OwnM w base v l := by
  have hc := fun g hg => h.cells (g := g) hg
  rcases h.2 with ⟨h1, h2⟩ | ⟨g, cap, cur, rfl, hb, hg, hnc, hcm, hcs, _⟩
  · exact .inl ⟨h1, List.eq_nil_of_length_eq_zero h2⟩
  · refine .inr ⟨g, cap, rfl, hb, (Array.getElem?_eq_some_iff.1 hg).1, hnc, hcm, fun j hj => ⟨?_, frozen_of_row w g j cur e hg⟩, fun j hj => ?_⟩
    · rw [cell_of_row w g j cur e _ hg]
      have : j < cur.size := by omega
      simp [this]
    · have := hc g rfl j _ (cellsOf_get hj)
      rw [Addr.add_lit] at this
      simpa using this

theorem OwnM.bytes {w : World} {base : Nat} {v : Value} {l : List Nat} (h : OwnM w base v l) (hs : ∀ c ∈ l, c < 256) : Bytes w v l := by
  rcases h with ⟨rfl, rfl⟩ | ⟨g, cap, rfl, _, _, hnc, hcm, _, hv⟩
  · exact Bytes.nil w
  · refine ⟨.inr (.inr ⟨g, 0, cap, rfl, hnc, fun i hi => ?_⟩), hs, by omega⟩
    rw [Nat.zero_add]; exact hv i hi

theorem OwnM.lt {w : World} {base : Nat} {v : Value} {l : List Nat} (h : OwnM w base v l) : ∀ k, v.ownBlock = some k → base ≤ k ∧ k < w.heap.size := by
  intro k hk
  rcases h with ⟨rfl, _⟩ | ⟨g, cap, rfl, hb, hg, _⟩
  · simp [Value.ownBlock] at hk
  · simp only [Value.ownBlock, Option.some.injEq] at hk
    subst hk
    exact ⟨hb, hg⟩

theorem OwnM.below {w w' : World} {base : Nat} {v : Value} {l : List Nat} (h : OwnM w base v l) (hb : Below w.heap.size w w') : OwnM w' base v l := by
  rcases h with h | ⟨g, cap, rfl, h1, hg, hnc, hcm, hf, hv⟩
  · exact .inl h
  · have he := hb.block g hg
    have hfr : ∀ j, w'.frozen? ⟨g, j, none⟩ = w.frozen? ⟨g, j, none⟩ := by intro j; unfold World.frozen?; rw [he]
    have hce : ∀ j, w'.cell? ⟨g, j, none⟩ = w.cell? ⟨g, j, none⟩ := fun j => hb.cell (p := ⟨g, j, none⟩) hg
    exact .inr ⟨g, cap, rfl, h1, Nat.lt_of_lt_of_le hg hb.size, hnc, hcm, fun j hj => by rw [hfr, hce]; exact hf j hj, fun j hj => by rw [hce]; exact hv j hj⟩

theorem Bytes.kept {w w' : World} {v : Value} {l : List Nat} {row : Option Nat} (h : Bytes w v l) (hg : w.grownBy w' row) (hne : v.ownBlock = none ∨ v.ownBlock ≠ row) : Bytes w' v l where
  out := by
    rcases h.out with h1 | h1 | ⟨b, off, cap, rfl, h2, hc⟩
    · exact .inl h1
    · exact .inr (.inl h1)
    · refine .inr <| .inr ⟨b, off, cap, rfl, h2, fun i hi => ?_⟩
      have hlt := block_lt_of_cell (hc i hi)
      have := hg.block b hlt (by simpa [Value.ownBlock] using hne)
      rw [World.cell?_of_block (w := w) this]
      exact hc i hi
  small := h.small
  short := h.short

theorem OwnM.shape {w : World} {base : Nat} {v : Value} {l : List Nat} (h : OwnM w base v l) : ∃ p c, v = .slice p l.length c := by
  rcases h with ⟨rfl, rfl⟩ | ⟨g, cap, rfl, _⟩
  · exact ⟨none, 0, rfl⟩
  · exact ⟨_, _, rfl⟩

/-- What the conversion makes. -/
theorem OwnM.conv (w : World) (e : TypeId) (s : ByteArray) (hs : s.size ≤ maxLen) :
    OwnM (Lib.bytesWorld w e s) w.heap.size (.slice (some ⟨w.heap.size, 0, none⟩) s.size (grownCap w s.size 0 e)) (natsOf s) ∧ Below w.heap.size w (Lib.bytesWorld w e s) := by
  have hge := grownCap_ge w s.size 0 e
  have hcm := grownCap_le_maxLen w s.size 0 e hs
  have hsz := Lib.bytesWorld_size w e s
  have hcs : (Lib.bytesCells w e s).size = grownCap w s.size 0 e := by
    unfold Lib.bytesCells
    rw [Array.size_append, Array.size_map, Array.size_replicate]
    have : s.data.size = s.size := rfl
    omega
  have hn := Lib.bytesWorld_at_new w e s
  refine ⟨.inr ⟨w.heap.size, _, by rw [natsOf_length], Nat.le_refl _, by omega, by rw [natsOf_length]; exact hge, hcm, fun j hj => ⟨?_, ?_⟩, fun j hj => ?_⟩, ?_⟩
  · rw [cell_of_row _ _ j _ _ _ hn]
    have : j < (Lib.bytesCells w e s).size := by omega
    simp [this]
  · unfold World.frozen?
    rw [hn]
    simp
    omega
  · rw [natsOf_length] at hj
    rw [Lib.bytesWorld_cell w e s j hj]
    congr 2
    have hj' : j < s.data.toList.length := hj
    unfold atB natsOf
    rw [Lib.toList_data, List.getD_eq_getElem?_getD, List.getD_eq_getElem?_getD, List.getElem?_map, List.getElem?_eq_getElem hj']
    rfl
  · exact ⟨rfl, rfl, rfl, by omega, fun k hk => Lib.bytesWorld_at_old w e s k hk⟩

theorem setCells_size (b : Nat) : ∀ (vs : List Value) (o : Nat) (w : World), (w.setCells b o vs).heap.size = w.heap.size
  | [], _, _ => rfl
  | v :: r, o, w => by rw [World.setCells, setCells_size b r]; simp [World.setCell]
theorem setCells_tape (b : Nat) : ∀ (vs : List Value) (o : Nat) (w : World), (w.setCells b o vs).tape = w.tape
  | [], _, _ => rfl
  | v :: r, o, w => by rw [World.setCells, setCells_tape b r]; rfl
theorem atB_left {l m : List Nat} {j : Nat} (h : j < l.length) : atB (l ++ m) j = atB l j := by
  unfold atB
  rw [List.getD_eq_getElem?_getD, List.getD_eq_getElem?_getD, List.getElem?_append_left h]
theorem atB_right (l m : List Nat) (k : Nat) : atB (l ++ m) (l.length + k) = atB m k := by
  unfold atB
  rw [List.getD_eq_getElem?_getD, List.getD_eq_getElem?_getD, List.getElem?_append_right (by omega), Nat.add_sub_cancel_left]

theorem run_append_M {P : Program} {w : World} (ty : TypeId) {t e : TypeId} (T : ByT P t e) {base : Nat} {v xv : Value} {l m : List Nat} (h : OwnM w base v l) (hx : Bytes w xv m) (h0 : 0 < m.length)
    (hbytes : l.length + m.length ≤ 140737488355328) (hbase : base ≤ w.heap.size) :
    ∃ v' w', (Builtin.append_ #[t, t] ty #[v, xv]).run P w = .ok v' w' ∧ OwnM w' base v' (l ++ m) ∧ w.grownBy w' v.ownBlock := by
  rcases h with ⟨rfl, rfl⟩ | ⟨g, cap, rfl, hb, hg, hnc, hcm, hf, hv⟩
  · obtain ⟨v', w', h1, h2, h3⟩ := run_append_bytes (P := P) (w := w) ty T base (.slice none 0 0) 0 [] (World.ownsRow_nil w base e 1) xv m hx (by simpa using hbytes) hbase
    exact ⟨v', w', h1, OwnM.of_owns (by simpa using h2), h3⟩
  · obtain ⟨i, hi, hz, hz1, hz2⟩ := info_parts T.info
    rcases hx.out with ⟨rfl, rfl⟩ | ⟨ad, rfl, rfl⟩ | ⟨xb, xo, xc, rfl, _, hc⟩
    · simp at h0
    · simp at h0
    · have hnews : ∀ j u, (cellsOf m)[j]? = some u → w.cell? ((⟨xb, xo, none⟩ : Addr).add j) = some u := by
        intro j u hu
        obtain ⟨hj, rfl⟩ := cellsOf_at hu
        rw [Addr.add_lit]; exact hc j hj
      by_cases hroom : l.length + m.length ≤ cap
      · have hr := run_append_room_cells (P := P) w t ty e i T.slice hi g 0 l.length cap ⟨xb, xo, none⟩ m.length xc (cellsOf m) (by rw [cellsOf_length, hz1, Nat.mul_one]) hnews (cellsOf_one m) hroom
          (fun j hj => by rw [cellsOf_length] at hj; rw [hz1]; exact (hf _ (by omega)).1) (fun j hj => by rw [cellsOf_length] at hj; rw [hz1]; exact (hf _ (by omega)).2)
        rw [hz1] at hr
        simp only [Nat.zero_add, Nat.mul_one] at hr
        refine ⟨_, _, hr, .inr ⟨g, cap, by rw [List.length_append], hb, by rw [setCells_size]; exact hg, by rw [List.length_append]; exact hroom, hcm, fun j hj => ⟨World.isSome_setCells _ _ _ _ _ (hf j hj).1, ?_⟩, fun j hj => ?_⟩, ?_⟩
        · rw [World.frozen?_setCells]; exact (hf j hj).2
        · rw [List.length_append] at hj
          by_cases hlt : j < l.length
          · rw [World.cell?_setCells_out g (cellsOf m) l.length w ⟨g, j, none⟩ (fun _ _ => .inl hlt), hv j hlt]
            rw [atB_left hlt]
          · obtain ⟨k, rfl⟩ : ∃ k, j = l.length + k := ⟨j - l.length, by omega⟩
            have hk : k < (cellsOf m).length := by rw [cellsOf_length]; omega
            rw [World.cell?_setCells_in g (cellsOf m) l.length w (fun j hj => (hf _ (by rw [cellsOf_length] at hj; omega)).1) k hk]
            have h5 := cellsOf_get (l := m) (i := k) (by omega)
            rw [List.getElem?_eq_getElem hk] at h5
            rw [h5, atB_right]
        · exact ⟨World.os_setCells .., setCells_tape .., World.output_setCells .., by rw [setCells_size]; exact Nat.le_refl _, fun k hk hne => World.heap_setCells_other _ _ _ _ hk (by simp only [Value.ownBlock] at hne; intro h; exact hne (by rw [h]))⟩
      · obtain ⟨v', w', h1, h2, h3⟩ := run_append_arg_grows (P := P) w t ty e i (.int .u8 0) 1 1 T.slice hi hz hz1 hz2 rfl (by omega) ⟨g, 0, none⟩ l.length cap (cellsOf l) (by rw [cellsOf_length, Nat.mul_one]) (by
          intro j u hu
          obtain ⟨hj, rfl⟩ := cellsOf_at hu
          rw [Addr.add_lit, Nat.zero_add]; exact hv j hj) ⟨xb, xo, none⟩ m.length xc (cellsOf m) (by rw [cellsOf_length, Nat.mul_one]) hnews (by omega) (by unfold maxLen; omega) (by omega)
        rw [← cellsOf_append, ← List.length_append] at h2
        exact ⟨v', w', h1, OwnM.of_owns (owns_base h2 hbase), ⟨h3.os, h3.tape, h3.output, h3.size, fun k hk _ => h3.block k hk (by simp)⟩⟩
end Go.By

