/- The disk: its tables; what is done to names. -/
import Derived.Test.YtajfcnaifegonaaMDskD
import Derived.Maps.AppendAt
import Derived.WalkSpells
namespace Go.Proofs.Ytajfcnaifegonaa
open Go Go.RowKit Go.By
def Own.add (own : Own) (k : Nat) (r : Role) : Own := fun j => if j = k then some r else own j
theorem Own.add_self (own : Own) (k : Nat) (r : Role) : own.add k r k = some r := if_pos rfl
theorem Own.add_old {own : Own} {k : Nat} {r r' : Role} {j n : Nat} (here : ∀ k r, own k = some r → k < n) (hk : n ≤ k) (h : own j = some r') : own.add k r j = some r' := by
  have := here j r' h
  unfold Own.add; rw [if_neg (by omega)]; exact h
theorem Own.add_lt {own : Own} {k : Nat} {r : Role} {j : Nat} (h : j < k) : own.add k r j = own j := by unfold Own.add; rw [if_neg (by omega)]
theorem Own.add_some {own : Own} {k : Nat} {r r' : Role} {j : Nat} (h : own.add k r j = some r') : (j = k ∧ r' = r) ∨ own j = some r' := by
  unfold Own.add at h
  split at h
  · rename_i e; cases h; exact .inl ⟨e, rfl⟩
  · exact .inr h
theorem own_moved {own : Own} {w w' : World} (here : ∀ k r, own k = some r → k < w.heap.size) {v v' : Value} {r : Role} (hr : r ≠ .disk) (hv : ∀ k, v.ownBlock = some k → own k = some r)
    (hat : v'.ownBlock = v.ownBlock ∨ v'.ownBlock = some w.heap.size) (hs : w.heap.size ≤ w'.heap.size) (hlt : ∀ k, v'.ownBlock = some k → k < w'.heap.size) :
    ∃ own' : Own, (∀ k, k < w.heap.size → own' k = own k) ∧ (∀ k r', own k = some r' → own' k = some r') ∧ (∀ k, v'.ownBlock = some k → own' k = some r) ∧ (∀ k r', own' k = some r' → k < w'.heap.size) ∧ (∀ k, own' k = some .disk → own k = some .disk) := by
  rcases hat with h | h
  · exact ⟨own, fun _ _ => rfl, fun _ _ h => h, fun k hk => hv k (h ▸ hk), fun k r' hk => Nat.lt_of_lt_of_le (here k r' hk) hs, fun _ h => h⟩
  · refine ⟨own.add w.heap.size r, fun k hk => Own.add_lt hk, fun k r' hk => Own.add_old here (Nat.le_refl _) hk, fun k hk => ?_, fun k r' hk => ?_, fun k hk => ?_⟩
    · rw [h] at hk; cases hk; exact Own.add_self _ _ _
    · rcases Own.add_some hk with ⟨rfl, _⟩ | h'
      · exact hlt _ h
      · exact Nat.lt_of_lt_of_le (here k r' h') hs
    · rcases Own.add_some hk with ⟨_, h'⟩ | h'
      · exact absurd h'.symm hr
      · exact h'
structure Tabled (w : World) (own : Own) (a bs bf : Nat) (D : DiskA) : Prop where
  disk : DiskIs w own a D
  out : ∃ mk lv, w.heap[a]? = some (.cells (diskCells D (.map (some bs)) mk lv (.map (some bf))) 72 (0, 0)) ∧ Parts w own (.map (some bs)) mk (.map (some bf)) lv D ∧ mk ≠ .map none
theorem tables_made {own : Own} {a : Nat} {D : DiskA} {w : World} (h : DiskIs w own a D) {ms lv mf : Value} (h1 : w.heap[a]? = some (.cells (diskCells D ms (.map none) lv mf) 72 (0, 0))) (h2 : Parts w own ms (.map none) mf lv D) (hk : D.kept = [])
    {w1 w2 w3 : World} (e1 : w1 = w.alloc (.map #[] 0)) (e2 : w2 = w1.alloc (.map #[] 0)) (e3 : w3 = w2.alloc (.map #[] 0)) :
    ∃ own' bs bf, Tabled (((w3.setCell ⟨a, 4, none⟩ (.map (some w.heap.size))).setCell ⟨a, 5, none⟩ (.map (some w1.heap.size))).setCell ⟨a, 8, none⟩ (.map (some w2.heap.size))) own' a bs bf D ∧
      Steps own own' w (((w3.setCell ⟨a, 4, none⟩ (.map (some w.heap.size))).setCell ⟨a, 5, none⟩ (.map (some w1.heap.size))).setCell ⟨a, 8, none⟩ (.map (some w2.heap.size))) := by
  have hlt : a < w.heap.size := h.here a _ h.role
  have z1 : w1.heap.size = w.heap.size + 1 := by rw [e1]; simp
  have z2 : w2.heap.size = w.heap.size + 2 := by rw [e2]; simp [z1]
  have z3 : w3.heap.size = w.heap.size + 3 := by rw [e3]; simp [z2]
  have hb : Below w.heap.size w w3 := by
    rw [e3, e2, e1]; exact (((Below.refl _ _).alloc (Nat.le_refl _) _).alloc (by simp) _).alloc (by simp; omega) _
  have i1 : Mp.Is w3 w.heap.size strV natV ([] : List (ByteArray × Nat)) := by
    have := Mp.Is.made w strV natV
    rw [← e1] at this
    refine this.of_heap ?_
    rw [e3, Below.heap_alloc w2 _ _ (by omega), e2, Below.heap_alloc w1 _ _ (by omega)]
  have i2 : Mp.Is w3 w1.heap.size strV natV ([] : List (ByteArray × Nat)) := by
    have := Mp.Is.made w1 strV natV
    rw [← e2] at this
    refine this.of_heap ?_
    rw [e3, Below.heap_alloc w2 _ _ (by omega)]
  have i3 : Mp.Is w3 w2.heap.size natV ptrV ([] : List (Nat × Nat)) := by
    have := Mp.Is.made w2 natV ptrV
    rw [← e3] at this
    exact this
  have h3 : w3.heap[a]? = some (.cells (diskCells D ms (.map none) lv mf) 72 (0, 0)) := (hb.block a hlt).trans h1
  have s1 := set_heap h3 4 (.map (some w.heap.size))
  have s2 := set_heap s1.1 5 (.map (some w1.heap.size))
  have s3 := set_heap s2.1 8 (.map (some w2.heap.size))
  generalize hW1 : w3.setCell ⟨a, 4, none⟩ (.map (some w.heap.size)) = W1 at *
  generalize hW2 : W1.setCell ⟨a, 5, none⟩ (.map (some w1.heap.size)) = W2 at *
  generalize hW : W2.setCell ⟨a, 8, none⟩ (.map (some w2.heap.size)) = W at *
  have zW : W.heap.size = w3.heap.size := by rw [← hW, ← hW2, ← hW1]; simp
  have osW : W.os = w3.os ∧ W.tape = w3.tape ∧ W.output = w3.output := by rw [← hW, ← hW2, ← hW1]; exact ⟨rfl, rfl, rfl⟩
  have hoth : ∀ k, k ≠ a → W.heap[k]? = w3.heap[k]? := fun k hk => ((s3.2 k hk).trans (s2.2 k hk)).trans (s1.2 k hk)
  have hold : ∀ k, k < w.heap.size → k ≠ a → W.heap[k]? = w.heap[k]? := fun k hk hne => (hoth k hne).trans (hb.block k hk)
  let o1 := own.add w.heap.size .seen
  let o2 := o1.add w1.heap.size .kept
  let o3 := o2.add w2.heap.size .files
  have r0 : ∀ k r, own k = some r → o3 k = some r := fun k r hk => by
    have := h.here k r hk
    show (o2.add _ _) k = _
    rw [Own.add_lt (by omega)]
    show (o1.add _ _) k = _
    rw [Own.add_lt (by omega)]
    show (own.add _ _) k = _
    rw [Own.add_lt this]; exact hk
  have rs : o3 w.heap.size = some .seen := by
    show (o2.add _ _) _ = _
    rw [Own.add_lt (by omega)]
    show (o1.add _ _) _ = _
    rw [Own.add_lt (by omega)]
    exact Own.add_self _ _ _
  have rk : o3 w1.heap.size = some .kept := by
    show (o2.add _ _) _ = _
    rw [Own.add_lt (by omega)]
    exact Own.add_self _ _ _
  have rf : o3 w2.heap.size = some .files := Own.add_self _ _ _
  have inv : ∀ k r, o3 k = some r → own k = some r ∨ (w.heap.size ≤ k ∧ k < w3.heap.size ∧ r ≠ .disk) := fun k r hk => by
    rcases Own.add_some hk with ⟨rfl, rfl⟩ | hk
    · exact .inr ⟨by omega, by omega, by decide⟩
    rcases Own.add_some hk with ⟨rfl, rfl⟩ | hk
    · exact .inr ⟨by omega, by omega, by decide⟩
    rcases Own.add_some hk with ⟨rfl, rfl⟩ | hk
    · exact .inr ⟨by omega, by omega, by decide⟩
    exact .inl hk
  have stay : Stay own o3 (· ≠ .disk) w W := ⟨r0, fun k r hk hr => hold k (h.here k r hk) (by
    rintro rfl
    rw [h.role] at hk; cases hk; exact hr rfl)⟩
  have hbare := h2.bare rfl
  have parts : Parts W o3 (.map (some w.heap.size)) (.map (some w1.heap.size)) (.map (some w2.heap.size)) lv D := by
    refine ⟨.inr ⟨_, rfl, rs, ?_⟩, .inr ⟨_, rfl, rk, ?_⟩, ownsRow_of_heap h2.laid fun k hk => stay.block k _ (h2.laidR k hk) (by decide), fun k hk => r0 k _ (h2.laidR k hk), .inr ⟨_, rfl, rf, ?_⟩, ?_, fun hn => (by cases hn), fun _ => ⟨by simp, by simp⟩, h2.bareL⟩
    · rw [hbare.1]; exact i1.of_heap (hoth _ (by omega))
    · rw [hk]; exact i2.of_heap (hoth _ (by omega))
    · rw [hbare.2.1]; exact i3.of_heap (hoth _ (by omega))
    · intro n fb hn; rw [hbare.2.1] at hn; cases hn
  have hcell : W.heap[a]? = some (.cells (diskCells D (.map (some w.heap.size)) (.map (some w1.heap.size)) lv (.map (some w2.heap.size))) 72 (0, 0)) := s3.1
  refine ⟨o3, w.heap.size, w2.heap.size, ⟨⟨⟨_, _, _, _, hcell, parts⟩, r0 a _ h.role, fun k hk => ?_, fun k r hk => ?_⟩, ⟨_, _, hcell, parts, by simp⟩⟩, ⟨osW.1.trans hb.os, osW.2.1.trans hb.tape, osW.2.2.trans hb.output, by omega, fun k hk hn => hold k hk ?_, fun k hk => ?_⟩⟩
  · rcases inv k _ hk with h' | ⟨_, _, h'⟩
    · exact h.only k h'
    · exact absurd rfl h'
  · rcases inv k _ hk with h' | ⟨_, h', _⟩
    · have := h.here k r h'; omega
    · omega
  · rintro rfl
    rw [h.role] at hn; simp at hn
  · show (o2.add _ _) k = _
    rw [Own.add_lt (by omega)]
    show (o1.add _ _) k = _
    rw [Own.add_lt (by omega)]
    exact Own.add_lt hk
set_option maxRecDepth 100000 in
theorem makeTables_any (own : Own) (a : Nat) (D : DiskA) (w : World) (h : DiskIs w own a D) :
    Calls Try.prog 50 #[.pointer (some ⟨a, 0, none⟩)] w fun e w' => e = .returned (.tuple #[]) ∧ ∃ own' bs bf, Tabled w' own' a bs bf D ∧ Steps own own' w w' := by
  obtain ⟨ms, mk, mf, lv, h1, h2⟩ := h.out
  have g5 : w.cell? ⟨a, 5, none⟩ = some mk := cells_of h1 5
  rcases h2.kept with ⟨rfl, hk0⟩ | ⟨bk, rfl, _⟩
  · have g4 : w.cell? ⟨a, 4, none⟩ = some ms := cells_of h1 4
    have g8 : w.cell? ⟨a, 8, none⟩ = some mf := cells_of h1 8
    have f4 := free_of h1 4
    have f5 := free_of h1 5
    have f8 := free_of h1 8
    have hlt : a < w.heap.size := h.here a _ h.role
    have hne : w.heap.size ≠ a := by omega
    have H := Lib.hid h
    have H1 := Lib.hid h1
    have H2 := Lib.hid h2
    have HK := Lib.hid hk0
    clear h h1 h2 hk0
    have hne' := fun (w : World) (r : Option Nat) => Go.run_eql_map_nil (P := Try.prog) w 67 9 3 r namesT
    obtain ⟨w1, hw1⟩ : ∃ w1, w1 = w.alloc (.map #[] 0) := ⟨_, rfl⟩
    obtain ⟨w2, hw2⟩ : ∃ w2, w2 = w1.alloc (.map #[] 0) := ⟨_, rfl⟩
    obtain ⟨w3, hw3⟩ : ∃ w3, w3 = w2.alloc (.map #[] 0) := ⟨_, rfl⟩
    have m1 : (Instr.makeMap 67 none).run Try.prog w = .ok (.map (some w.heap.size)) w1 := by rw [hw1]; exact run_makeMap _ w
    have m2 : (Instr.makeMap 67 none).run Try.prog w1 = .ok (.map (some w1.heap.size)) w2 := by rw [hw2]; exact run_makeMap _ w1
    have m3 : (Instr.makeMap 70 none).run Try.prog w2 = .ok (.map (some w2.heap.size)) w3 := by rw [hw3]; exact run_makeMap _ w2
    have hb : Below w.heap.size w w3 := by
      rw [hw3, hw2, hw1]; exact (((Below.refl _ _).alloc (Nat.le_refl _) _).alloc (by simp) _).alloc (by simp; omega) _
    have c4 : w3.cell? ⟨a, 4, none⟩ = some ms := (hb.cell (p := ⟨a, 4, none⟩) hlt).trans g4
    have c5 : w3.cell? ⟨a, 5, none⟩ = some (.map none) := (hb.cell (p := ⟨a, 5, none⟩) hlt).trans g5
    have c8 : w3.cell? ⟨a, 8, none⟩ = some mf := (hb.cell (p := ⟨a, 8, none⟩) hlt).trans g8
    have d4 : w3.frozen? ⟨a, 4, none⟩ = false := (hb.frozen (p := ⟨a, 4, none⟩) hlt).trans f4
    have d5 : w3.frozen? ⟨a, 5, none⟩ = false := (hb.frozen (p := ⟨a, 5, none⟩) hlt).trans f5
    have d8 : w3.frozen? ⟨a, 8, none⟩ = false := (hb.frozen (p := ⟨a, 8, none⟩) hlt).trans f8
    have HW1 := Lib.hid hw1; have HW2 := Lib.hid hw2; have HW3 := Lib.hid hw3; have HBL := Lib.hid hb
    clear hw1 hw2 hw3 hb g4 g8 f4 f5 f8 hne
    go_enter Try.func50, Try.ntmps50
    go_wp2
    go_returns
    exact ⟨rfl, tables_made H.out H1.out H2.out HK.out HW1.out HW2.out HW3.out⟩
  · obtain ⟨n1, n2⟩ := h2.full (by simp)
    have e1 : ∃ bs, ms = .map (some bs) := by
      rcases h2.seen with ⟨h, _⟩ | ⟨b, h, _⟩
      · exact absurd h n1
      · exact ⟨b, h⟩
    have e2 : ∃ bf, mf = .map (some bf) := by
      rcases h2.files with ⟨h, _⟩ | ⟨b, h, _⟩
      · exact absurd h n2
      · exact ⟨b, h⟩
    obtain ⟨bs, rfl⟩ := e1
    obtain ⟨bf, rfl⟩ := e2
    have fin : Tabled w own a bs bf D := ⟨h, _, _, h1, h2, by simp⟩
    have FIN := Lib.hid fin
    clear fin h h1 h2 n1 n2
    have hne := fun (w : World) (r : Option Nat) => Go.run_eql_map_nil (P := Try.prog) w 67 9 3 r namesT
    go_enter Try.func50, Try.ntmps50
    go_wp2
    go_returns
    exact ⟨rfl, own, bs, bf, FIN.out, Steps.refl _ _⟩
end Go.Proofs.Ytajfcnaifegonaa
