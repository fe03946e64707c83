/- Rows of items in a program: Groups. -/
import Derived.Test.YtnbnnonjbjbbkaaLfQ
import Derived.Test.YtnbnnonjbjbbkaaItm
namespace Go.By
open Go Go.RowKit
/-- Numbers as cells. -/
def intsC (l : List Nat) : List Value := l.map fun (c : Nat) => .int .i64 c
theorem intsC_length (l : List Nat) : (intsC l).length = l.length := by simp [intsC]
theorem intsC_get {l : List Nat} {i : Nat} (h : i < l.length) : (intsC l)[i]? = some (.int .i64 (atB l i : Nat)) := by
  simp [intsC, atB, List.getElem?_eq_getElem h]
theorem intsC_set (l : List Nat) (i x : Nat) : (intsC l).set i (.int .i64 x) = intsC (l.set i x) := by
  simp [intsC, List.map_set]
/-- The first groups, as they are laid. -/
def gpart (n k : Nat) : List Nat := (groupsOf n).take k ++ List.replicate (gk n - k) 0
theorem gpart_length (n k : Nat) (h : k ≤ gk n) : (gpart n k).length = gk n := by
  unfold gpart
  rw [List.length_append, List.length_take, groupsOf_length, List.length_replicate]
  omega
theorem gpart_all (n : Nat) : gpart n (gk n) = groupsOf n := by
  unfold gpart
  rw [← groupsOf_length, List.take_length, Nat.sub_self]
  simp
theorem gpart_next {n k : Nat} (h : k < gk n) : (gpart n k).set k (grpAt n k) = gpart n (k + 1) := by
  have hl : k < (groupsOf n).length := by rw [groupsOf_length]; exact h
  unfold gpart
  have e : ((groupsOf n).take k).length = k := by rw [List.length_take]; omega
  rw [List.set_append_right _ _ (by omega), e, Nat.sub_self, List.take_succ_eq_append_getElem hl, groupsOf_at hl]
  have : gk n - k = (gk n - (k + 1)) + 1 := by omega
  rw [this, List.replicate_succ]
  simp
end Go.By
namespace Go.Proofs.Ytnbnnonjbjbbkaa
open Go Go.RowKit Go.By

/-- Numbers, new, are told. -/
def IntsTold (w : World) (l : List Nat) (e : Ending) (w' : World) : Prop := ∃ p c, e = .returned (.slice p l.length c) ∧ w'.ownsRow w.heap.size 3 1 (.slice p l.length c) l.length (intsC l) ∧ Below w.heap.size w w'
def GrpRel (w : World) (m : Nat) (i : Value) (W : World) : Prop :=
  ∃ k : Nat, k ≤ gk m ∧ i = .int .i64 k ∧ W.heap[w.heap.size]? = some (.cells (intsC (gpart m k)).toArray 3 (0, 0)) ∧ Below w.heap.size w W

theorem info_int : ∃ i, Try.prog.info? 3 = some i ∧ i.zero = some (.int .i64 0) ∧ i.size = 1 ∧ i.bytes = 8 := ⟨_, rfl, rfl, rfl, rfl⟩
/-- make([]int, c). -/
theorem ints_made (c : Nat) (C : Int) (hC : C = c) (hc : c ≤ 2000000) (w : World) :
    (Instr.makeSlice 23 (.int .i64 C) (.int .i64 C)).run Try.prog w = .ok (.slice (some ⟨w.heap.size, 0, none⟩) c c) (w.alloc (.cells (intsC (List.replicate c 0)).toArray 3)) := by
  subst hC
  obtain ⟨i, hi, hz, hs, hb⟩ := info_int
  have h := run_make (P := Try.prog) w 23 3 i _ (by kernel_rfl) hi hz .i64 .i64 (c : Int) (c : Int) (by omega) (by omega) (by rw [hb]; omega) (by omega)
  simp only [Int.toNat_natCast, hs] at h
  rw [h]
  congr 4
  apply Array.toList_inj.1
  apply List.ext_getElem
  · simp [madeCells, intsC]
  · intro j h1 h2
    simp [madeCells, intsC, Value.cells, Nat.mod_one]

set_option maxRecDepth 100000 in
theorem groups_none (n : Int) (w : World) (h : n < 1 ∨ 1048576 < n) : Calls Try.prog 6 #[.int .i64 n] w fun e w' => e = .returned (.slice none 0 0) ∧ w' = w := by
  rcases h with h | h
  · go_enter Try.func6, Try.ntmps6
    go_wp2
    go_ret
    exact ⟨rfl, rfl⟩
  · have h1 : ¬ n < 1 := by omega
    go_enter Try.func6, Try.ntmps6
    go_wp2
    go_ret
    exact ⟨rfl, rfl⟩

set_option maxRecDepth 100000 in
set_option maxHeartbeats 1000000 in
theorem groups_any (m : Nat) (w : World) (h1 : 1 ≤ m) (h2 : m ≤ 1048576) : Calls Try.prog 6 #[.int .i64 (m : Nat)] w (IntsTold w (groupsOf m)) := by
  have hg1 := gk_pos h1
  have hgl := gk_le h1
  have hc : ((m : Int) + 8 - 1) / 8 = (gk m : Nat) := by unfold gk; omega
  have hmk := ints_made (gk m) (gk m : Nat) rfl (by omega)
  have hq : (m : Int) / ((gk m : Nat) : Int) = ((gq m : Nat) : Int) := by unfold gq; rw [Int.natCast_ediv]
  have hr : (m : Int) % ((gk m : Nat) : Int) = ((gr m : Nat) : Int) := by unfold gr; rw [Int.natCast_emod]
  have hql : gq m ≤ m := Nat.div_le_self _ _
  have hrl := gr_lt h1
  have hm9 : (m : Int) ≤ 1048576 := by omega
  have hm1 : (1 : Int) ≤ m := by omega
  have hG1 : (1 : Int) ≤ (gk m : Nat) := by omega
  have hG9 : ((gk m : Nat) : Int) ≤ 1048576 := by omega
  have hQ9 : ((gq m : Nat) : Int) ≤ 1048576 := by omega
  have hbw := (Below.refl w.heap.size w).alloc (Nat.le_refl _) (.cells (intsC (List.replicate (gk m) 0)).toArray 3)
  have H0 : Hid (GrpRel w m (.int .i64 (0 : Nat)) (w.alloc (.cells (intsC (List.replicate (gk m) 0)).toArray 3))) := ⟨0, Nat.zero_le _, rfl, by
    have e : gpart m 0 = List.replicate (gk m) 0 := by unfold gpart; simp
    rw [e]; exact heap_alloc_new w _, hbw⟩
  have HN1 : Hid (∀ k (W : World), k < gk m → k < gr m → W.heap[w.heap.size]? = some (.cells (intsC (gpart m k)).toArray 3 (0, 0)) → Below w.heap.size w W → GrpRel w m (.int .i64 (k + 1 : Nat)) ((W.setCell ⟨w.heap.size, k, none⟩ (.int .i64 (gq m : Nat))).setCell ⟨w.heap.size, k, none⟩ (.int .i64 ((gq m : Nat) + 1)))) := fun k W hk hkr hW hb => by
    have e : ((gq m : Nat) : Int) + 1 = (grpAt m k : Nat) := by unfold grpAt; rw [if_pos hkr]; omega
    refine ⟨k + 1, hk, rfl, ?_, (hb.setCell (Nat.le_refl _) _).setCell (Nat.le_refl _) _⟩
    rw [set_heap (set_heap hW k _) k, e, ← gpart_next hk, ← intsC_set]
    simp
  have HN2 : Hid (∀ k (W : World), k < gk m → ¬ k < gr m → W.heap[w.heap.size]? = some (.cells (intsC (gpart m k)).toArray 3 (0, 0)) → Below w.heap.size w W → GrpRel w m (.int .i64 (k + 1 : Nat)) (W.setCell ⟨w.heap.size, k, none⟩ (.int .i64 (gq m : Nat)))) := fun k W hk hkr hW hb => by
    have e : ((gq m : Nat) : Int) = (grpAt m k : Nat) := by unfold grpAt; rw [if_neg hkr]; rfl
    refine ⟨k + 1, hk, rfl, ?_, hb.setCell (Nat.le_refl _) _⟩
    rw [e, set_heap hW k, ← gpart_next hk, ← intsC_set]
    simp
  have HREL : Hid (∀ i W, GrpRel w m i W → ∃ k : Nat, k ≤ gk m ∧ i = .int .i64 k ∧ W.heap[w.heap.size]? = some (.cells (intsC (gpart m k)).toArray 3 (0, 0)) ∧ Below w.heap.size w W) := fun _ _ h => h
  have HEND : Hid (∀ W, GrpRel w m (.int .i64 (gk m : Nat)) W → IntsTold w (groupsOf m) (.returned (.slice (some ⟨w.heap.size, 0, none⟩) (gk m) (gk m))) W) := fun W ⟨k, hk, e, hW, hb⟩ => by
    obtain rfl : gk m = k := by
      simp only [Value.int.injEq, true_and] at e
      omega
    rw [gpart_all] at hW
    refine ⟨some ⟨w.heap.size, 0, none⟩, gk m, by rw [groupsOf_length], ?_, hb⟩
    rw [groupsOf_length]
    exact ⟨by rw [intsC_length, groupsOf_length, Nat.mul_one], .inr ⟨w.heap.size, gk m, _, rfl, Nat.le_refl _, hW, Nat.le_refl _, by unfold maxLen; omega, by simp [intsC, groupsOf_length], by simp [intsC, groupsOf_length, List.take_of_length_le]⟩⟩
  have HLEN : Hid (∀ k, k ≤ gk m → (gpart m k).length = gk m) := fun k hk => gpart_length m k hk
  clear hgl hql hrl h1 h2 hbw hg1
  generalize gk m = G at *
  generalize gq m = Q at *
  generalize gr m = R at *
  go_enter Try.func6, Try.ntmps6
  go_wp2
  go_loopw [18] (fun i W => GrpRel w m i W) (fun i _ => G - (intOf i).toNat)
  case atStart => exact H0.out
  case round =>
    clear H0 hmk hc
    have hrel' := hrel
    obtain ⟨k, hk, rfl, hW, hb⟩ := HREL.out _ _ hrel
    by_cases hlt : k < G
    · have hcell : wr.cell? ⟨w.heap.size, k, none⟩ = some (.int .i64 (atB (gpart m k) k : Nat)) := by
        have hkl : k < (gpart m k).length := by rw [HLEN.out k (by omega)]; exact hlt
        rw [cells_of hW, List.getElem?_toArray, intsC_get hkl]
      have hfr := free_of hW k
      have HLT := Lib.hid hlt
      have hL : w.heap.size < wr.heap.size := (Array.getElem?_eq_some_iff.1 hW).1
      by_cases hkr : k < R
      · have HR := Lib.hid (HN1.out k wr hlt hkr hW hb)
        clear hrel' hrel hW hb HREL HN1 HN2 HEND HLEN
        go_wp2
        go_roundw
        case rel => exact HR.out
        case measure => simp [intOf]; have := HLT.out; omega
      · have HR := Lib.hid (HN2.out k wr hlt hkr hW hb)
        clear hrel' hrel hW hb HREL HN1 HN2 HEND HLEN
        go_wp2
        go_roundw
        case rel => exact HR.out
        case measure => simp [intOf]; have := HLT.out; omega
    · obtain rfl : k = G := by omega
      have HF := Lib.hid (HEND.out wr hrel')
      clear hrel' hrel hW hb HREL HN1 HN2 HEND HLEN
      go_wp2
      go_ret
      exact HF.out
end Go.Proofs.Ytnbnnonjbjbbkaa

