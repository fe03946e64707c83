/- append(s, make([]byte, k)...), s one's own; append to what is full. Over whatever program. -/
import Derived.Test.YtnbnnonjbjbbkaaGen
import Derived.ArgAppend
import Derived.Lib.AppendZerosOnto
namespace Go.By
open Go Go.RowKit

theorem zeros_cells (z : Value) (hz : z = .int .u8 0) (k : Nat) : Builtin.zeroCells z.cells k = (cellsOf (List.replicate k 0)).toArray := by
  subst hz
  apply Array.toList_inj.1
  apply List.ext_getElem
  · simp [Builtin.zeroCells, cellsOf, Value.cells]
  · intro j h1 h2
    simp [Builtin.zeroCells, cellsOf, Value.cells, Nat.mod_one]

theorem run_append_zeros {P : Program} {w : World} (ty : TypeId) {t e tn : TypeId} (T : ByT P t e) {kn : IntKind} (htn : P.underlying tn = some (.int kn)) (kq : IntKind) (base : Nat) (v : Value) (n : Nat) (xs : List Value) (hown : w.ownsRow base e 1 v n xs)
    (k : Nat) (hk : n + k ≤ 4294967296) (hbase : base ≤ w.heap.size) :
    ∃ v' w', (Builtin.append_ #[t, tn] ty #[v, .int kq k]).run P w = .ok v' w' ∧ w'.ownsRow base e 1 v' (n + k) (xs ++ cellsOf (List.replicate k 0)) ∧ w.grownBy w' v.ownBlock := by
  obtain ⟨i, hi, hz, hz1, hz2⟩ := info_parts T.info
  have hw : IntKind.i64.wrap (k : Int) = k := by rw [IntKind.wrap_i64]; omega
  have hneg : ¬ ((k : Int) < 0) := by omega
  have h48i : ¬ (281474976710656 < (k : Int)) := by omega
  have hw0 : IntKind.i64.wrap 0 = 0 := by decide
  have hxs := hown.1
  rcases hown.2 with ⟨rfl, rfl⟩ | ⟨g, cap, cur, rfl, hbg, hg, hnc, hcm, hcs, htake⟩
  · by_cases h0 : k = 0
    · subst h0
      refine ⟨.slice none 0 0, w, ?_, by simpa [cellsOf] using hown, World.grownBy.refl _ _⟩
      simp [Builtin.append_, run_underlying T.slice, run_underlying htn, sizeOf, typeInfo, hi, hz2, asInt, asIntOf, hw0]
    · have hge := grownCap_ge w k 0 e
      have hcm : grownCap w k 0 e ≤ maxLen := grownCap_le_maxLen w k 0 e (by unfold maxLen; omega)
      have hr := Lib.run_append_nil_zeros (P := P) w t tn ty e i (.int .u8 0) kq kn T.slice htn hi hz k (by omega) (by omega) (by omega) (by rw [hz2]; omega)
      have hx0 : xs = [] := List.eq_nil_of_length_eq_zero (by rw [hxs])
      subst hx0
      rw [Nat.zero_add]
      refine ⟨_, _, hr, ⟨by simp [cellsOf], .inr ⟨w.heap.size, _, _, rfl, hbase, heap_alloc_new w.drew _, hge, hcm, ?_, ?_⟩⟩, ⟨rfl, rfl, rfl, by simp, fun j hj _ => heap_alloc_old w.drew _ hj⟩⟩
      · rw [zeros_cells _ rfl, zeros_cells _ rfl]; simp [cellsOf]; omega
      · rw [zeros_cells _ rfl, zeros_cells _ rfl]; simp [cellsOf]
  · by_cases hroom : n + k ≤ cap
    · by_cases h0 : k = 0
      · subst h0
        refine ⟨.slice (some ⟨g, 0, none⟩) n cap, w, ?_, by simpa [cellsOf] using hown, World.grownBy.refl _ _⟩
        have hroom' : n ≤ cap := hnc
        simp [Builtin.append_, run_underlying T.slice, run_underlying htn, sizeOf, typeInfo, hi, hz2, asInt, asIntOf, hw0, hroom', storeCells]
      · have hst := run_storeCells_at P g n e (cellsOf (List.replicate k 0)) 0 cur w hg (by rw [cellsOf_length, List.length_replicate, hcs]; omega) (cellsOf_one _)
        have hwr : (Builtin.append_ #[t, tn] ty #[.slice (some ⟨g, 0, none⟩) n cap, .int kq k]).run P w = .ok (.slice (some ⟨g, 0, none⟩) (n + k) cap) (w.setRow g (cur.toList.take (n + 0) ++ cellsOf (List.replicate k 0) ++ cur.toList.drop (n + 0 + (cellsOf (List.replicate k 0)).length)).toArray) := by
          simp [Builtin.append_, run_underlying T.slice, run_underlying htn, sizeOf, typeInfo, zeroValue, hi, hz, hz1, hz2, asInt, asIntOf, hw, hneg, h48i, h0, hroom, Addr.add_lit, zeros_cells (.int .u8 0) rfl]
          rw [hst]
          simp [Result.andThen]
        refine ⟨_, _, hwr, ⟨by simp [cellsOf, hxs], .inr ⟨g, cap, _, rfl, hbg, setRow_heap w g cur _ e _ hg, hroom, hcm, ?_, ?_⟩⟩, ⟨rfl, rfl, rfl, by simp, fun j _ hj => setRow_other w g j _ (fun e => hj (by simp [Value.ownBlock, e]))⟩⟩
        · simp [cellsOf_length]; omega
        · rw [Nat.mul_one] at htake hxs
          simp only [Nat.add_zero, Nat.mul_one]
          rw [htake, List.take_append_of_le_length (by simp [cellsOf_length, hxs])]
          rw [List.take_of_length_le (by simp [cellsOf_length, hxs])]
    · have hk0 : 0 < k := by omega
      have hge := grownCap_ge w (n + k) cap e
      have hcm2 : grownCap w (n + k) cap e ≤ maxLen := grownCap_le_maxLen w (n + k) cap e (by unfold maxLen; omega)
      have hnx := nextslicecap_le (show cap < n + k by omega)
      have hold : (Builtin.firstCells i.size n (.slice (some ⟨g, 0, none⟩) n cap)).run P w.drew = .ok xs.toArray w.drew := by
        refine run_firstCells_some (P := P) w.drew i.size n ⟨g, 0, none⟩ n cap xs (by rw [hz1]; exact hxs) (fun j u hu => ?_)
        exact hown.cells (g := g) rfl j u hu
      have hr := Lib.run_append_grow_zeros (P := P) w t tn ty e i (.int .u8 0) kq kn T.slice htn hi hz (some ⟨g, 0, none⟩) n cap xs hold k hk0 (by omega) (by omega) (by omega) (by rw [hz2]; omega) (by rw [hz2]; omega)
      refine ⟨_, _, hr, ⟨by simp [cellsOf, hxs], .inr ⟨w.heap.size, _, _, rfl, hbase, heap_alloc_new w.drew _, hge, hcm2, ?_, ?_⟩⟩, ⟨rfl, rfl, rfl, by simp, fun j hj _ => heap_alloc_old w.drew _ hj⟩⟩
      · rw [zeros_cells _ rfl, zeros_cells _ rfl]; simp [cellsOf, hxs]; omega
      · rw [zeros_cells _ rfl, zeros_cells _ rfl]
        simp only [Array.toList_append, List.append_assoc]
        rw [← List.append_assoc, List.take_append_of_le_length (by simp [cellsOf, hxs])]
        rw [List.take_of_length_le (by simp [cellsOf, hxs])]

theorem wpList_append_zeros {P : Program} {w : World} {ops : Array Oper} {rest : List Oper} {o : Oper} {a : Act} {Q : Exit → Act → World → Prop} (hgd : o.guard = none) (s x : Operand) {t e tn : TypeId} (T : ByT P t e) {kn : IntKind} (htn : P.underlying tn = some (.int kn))
    (ho : o.op = .call { callee := .builtin .append, args := #[s, x], argTypes := #[t, tn] })
    (base : Nat) (v : Value) (n : Nat) (xs : List Value) (hs : a.eval s = v) (hown : w.ownsRow base e 1 v n xs) (kq : IntKind) (K : Int) (hx : a.eval x = .int kq K) (k : Nat) (hK : K = k)
    (hk : n + k ≤ 4294967296) (hbase : base ≤ w.heap.size)
    (h : ∀ v' w', w'.ownsRow base e 1 v' (n + k) (xs ++ cellsOf (List.replicate k 0)) → w.grownBy w' v.ownBlock → wpList P ops Q rest (a.put o.dst v') w') :
    wpList P ops Q (o :: rest) a w := by
  subst hK
  obtain ⟨v', w', hrun, h1, h2⟩ := run_append_zeros (P := P) o.type T htn kq base v n xs hown k hk hbase
  exact Lib.wpList_append_run w hgd s x t tn ho v _ hs hx v' w' hrun (h v' w' h1 h2)
theorem owns_base {w : World} {B B' : Nat} {e : TypeId} {v : Value} {n : Nat} {xs : List Value} (h : w.ownsRow B e 1 v n xs) (hb : B' ≤ B) : w.ownsRow B' e 1 v n xs := by
  refine ⟨h.1, ?_⟩
  rcases h.2 with h | ⟨g, c, cur, h1, h2, h3⟩
  · exact .inl h
  · exact .inr ⟨g, c, cur, h1, Nat.le_trans hb h2, h3⟩
theorem owns_slice {w : World} {B : Nat} {e : TypeId} {v : Value} {n : Nat} {xs : List Value} (h : w.ownsRow B e 1 v n xs) : ∃ p c, v = .slice p n c := by
  rcases h.2 with ⟨h, h2⟩ | ⟨g, c, _, h, _⟩
  · exact ⟨none, 0, by rw [h, h2]⟩
  · exact ⟨_, c, h⟩

/-- append(s, x...), s full. -/
theorem run_append_full {P : Program} {w : World} (ty : TypeId) {t e : TypeId} (T : ByT P t e) {b off n : Nat} {m l : List Nat} {xv : Value} (hs : Bytes w (.slice (some ⟨b, off, none⟩) n n) m) (hl : Bytes w xv l) (h0 : 0 < l.length) (hbytes : n + l.length ≤ 140737488355328) :
    ∃ v' w', (Builtin.append_ #[t, t] ty #[.slice (some ⟨b, off, none⟩) n n, xv]).run P w = .ok v' w' ∧ w'.ownsRow w.heap.size e 1 v' (n + l.length) (cellsOf (m ++ l)) ∧ w.grownBy w' none := by
  obtain ⟨i, hi, hz, hz1, hz2⟩ := info_parts T.info
  have hmn := hs.room.1
  have hcm : ∀ j u, (cellsOf m)[j]? = some u → w.cell? ((⟨b, off, none⟩ : Addr).add j) = some u := by
    intro j u hu
    obtain ⟨hj, rfl⟩ := cellsOf_at hu
    obtain ⟨b1, o1, h1, h2⟩ := hs.spot j hj
    simp only [Option.some.injEq, Addr.mk.injEq, and_true] at h1
    obtain ⟨rfl, rfl⟩ := h1
    rw [Addr.add_lit]; exact h2
  rcases hl.out with ⟨rfl, rfl⟩ | ⟨ad, rfl, rfl⟩ | ⟨xb, xo, cap, rfl, _, hc⟩
  · simp at h0
  · simp at h0
  · obtain ⟨v', w', h1, h2, h3⟩ := run_append_arg_grows (P := P) w t ty e i (.int .u8 0) 1 1 T.slice hi hz hz1 hz2 rfl (by omega) ⟨b, off, none⟩ n n (cellsOf m) (by rw [cellsOf_length, Nat.mul_one]; exact hmn) hcm ⟨xb, xo, none⟩ l.length cap (cellsOf l) (by rw [cellsOf_length, Nat.mul_one]) (by
      intro j u hu
      obtain ⟨hj, rfl⟩ := cellsOf_at hu
      rw [Addr.add_lit]; exact hc j hj) (by omega) (by unfold maxLen; omega) (by omega)
    exact ⟨v', w', h1, by rw [cellsOf_append]; exact h2, h3⟩
end Go.By

