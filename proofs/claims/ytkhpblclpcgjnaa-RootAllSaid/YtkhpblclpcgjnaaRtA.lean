/- Roots in a program: their values, which are the same. -/
import Derived.Test.YtkhpblclpcgjnaaRtP
import Derived.Test.YtkhpblclpcgjnaaNdO
import Derived.Test.YtkhpblclpcgjnaaGen
import Derived.DeepKeys
import Derived.OpenShut
namespace Go.By
open Go Go.RowKit
/-- The cells of a key as literals, where every number is let by. -/
def litsFree (P : Program) : Nat → TypeId → List Value → Option (List Lit)
  | 0, _, _ => none
  | d + 1, t, cs =>
    match P.underlying t, cs with
    | some .bool, [.bool b] => some [.bool b]
    | some (.int q), [.int q' n] => if q' = q then some [.int q n] else none
    | some (.array n e), cs =>
      if cs.length = P.cellsOf t then ((List.range n).mapM fun i => litsFree P d e ((cs.drop (i * P.cellsOf e)).take (P.cellsOf e))).map List.flatten else none
    | some (.struct fs), cs =>
      if cs.length = P.cellsOf t ∧ fs.all (·.name != "_") = true then (fs.toList.mapM fun f => litsFree P d f.type ((cs.drop f.offset).take (P.cellsOf f.type))).map List.flatten else none
    | _, _ => none
/-- Numbers of their kinds. -/
def FineCells (cs : List Value) : Prop := ∀ v ∈ cs, ∀ k n, v = .int k n → (Lit.int k n).wf = true
theorem FineCells.sub {cs : List Value} (h : FineCells cs) (i n : Nat) : FineCells ((cs.drop i).take n) := fun v hv => h v (List.mem_of_mem_drop (List.mem_of_mem_take hv))
theorem mapM_lits {α : Type} {f g : α → Option (List Lit)} : ∀ {xs : List α} {ys : List (List Lit)}, (∀ x ∈ xs, ∀ l, g x = some l → f x = some l) → xs.mapM g = some ys → xs.mapM f = some ys
  | [], ys, _, h => by simpa using h
  | x :: xs, ys, hfg, h => by
    rw [List.mapM_cons] at h ⊢
    simp only [bind, Option.bind_eq_some_iff, pure, Option.some.injEq] at h ⊢
    obtain ⟨l, h1, ls, h2, h3⟩ := h
    exact ⟨l, hfg x (by simp) l h1, ls, mapM_lits (fun y hy => hfg y (by simp [hy])) h2, h3⟩
theorem keyLits_free {P : Program} : ∀ {d : Nat} {t : TypeId} {cs : List Value} {l : List Lit}, FineCells cs → litsFree P d t cs = some l → P.keyLits d t cs = some l
  | 0, _, _, _, _, h => by cases h
  | d + 1, t, cs, l, hf, h => by
    unfold litsFree at h
    unfold Program.keyLits
    split at h
    · rename_i hu
      rw [hu]
      exact h
    · rename_i q q' n hu
      rw [hu]
      dsimp only
      split at h
      · rename_i hq
        rw [if_pos ⟨hq, by subst hq; exact hf _ (by simp) _ _ rfl⟩]
        exact h
      · cases h
    · rename_i n e _ hu
      rw [hu]
      dsimp only
      split at h
      · rename_i hl
        rw [if_pos hl]
        rw [Option.map_eq_some_iff] at h ⊢
        obtain ⟨ys, h1, h2⟩ := h
        exact ⟨ys, mapM_lits (fun i _ l hl => keyLits_free (hf.sub _ _) hl) h1, h2⟩
      · cases h
    · rename_i fs _ hu
      rw [hu]
      dsimp only
      split at h
      · rename_i hl
        rw [if_pos hl]
        rw [Option.map_eq_some_iff] at h ⊢
        obtain ⟨ys, h1, h2⟩ := h
        exact ⟨ys, mapM_lits (fun f _ l hl => keyLits_free (hf.sub _ _) hl) h1, h2⟩
      · cases h
    · cases h

def rfCells (d : NKd) : List Value := [.int .i64 d.off, .int .u64 (d.ct : Nat)]
/-- The cells of a root. -/
def rtCells (r : Rt) : List Value := .int .u64 (r.gen : Nat) :: .int .i64 r.nx :: r.ts.flatMap rfCells
/-- Roots as they come. -/
structure RtCome (r : Rt) : Prop where
  five : r.ts.length = 5
  cells : FineCells (rtCells r)
theorem wf_i64 {n : Int} : (Lit.int .i64 n).wf = true ↔ -9223372036854775808 ≤ n ∧ n ≤ 9223372036854775807 := by
  simp [Lit.wf, IntKind.min, IntKind.max, IntKind.signed, IntKind.bits]
theorem wf_u64 {n : Nat} : (Lit.int .u64 (n : Nat)).wf = true ↔ n < 18446744073709551616 := by
  simp [Lit.wf, IntKind.min, IntKind.max, IntKind.signed, IntKind.bits]
  omega
theorem RtCome.gen {r : Rt} (h : RtCome r) : r.gen < 18446744073709551616 := wf_u64.1 (h.cells _ (by simp [rtCells]) _ _ rfl)
theorem RtCome.nx {r : Rt} (h : RtCome r) : -9223372036854775808 ≤ r.nx ∧ r.nx ≤ 9223372036854775807 := wf_i64.1 (h.cells _ (by simp [rtCells]) _ _ rfl)
theorem RtCome.ts {r : Rt} (h : RtCome r) : ∀ d ∈ r.ts, -9223372036854775808 ≤ d.off ∧ RfFine d := fun d hd => by
  have hm : ∀ v ∈ rfCells d, v ∈ rtCells r := fun v hv => by
    unfold rtCells
    simp only [List.mem_cons]
    exact .inr (.inr (List.mem_flatMap.2 ⟨d, hd, hv⟩))
  have h1 := wf_i64.1 (h.cells _ (hm (.int .i64 d.off) (by simp [rfCells])) _ _ rfl)
  have h2 := wf_u64.1 (h.cells _ (hm (.int .u64 (d.ct : Nat)) (by simp [rfCells])) _ _ rfl)
  exact ⟨h1.1, h1.2, h2⟩
theorem RtCome.of {r : Rt} (h0 : r.gen < 18446744073709551616) (h1 : -9223372036854775808 ≤ r.nx ∧ r.nx ≤ 9223372036854775807) (h5 : r.ts.length = 5) (h2 : ∀ d ∈ r.ts, -9223372036854775808 ≤ d.off ∧ RfFine d) : RtCome r := by
  refine ⟨h5, fun v hv k n e => ?_⟩
  unfold rtCells at hv
  rcases List.mem_cons.1 hv with hv | hv
  · subst hv; cases e; exact wf_u64.2 h0
  rcases List.mem_cons.1 hv with hv | hv
  · subst hv; cases e; exact wf_i64.2 h1
  obtain ⟨d, hd, hv⟩ := List.mem_flatMap.1 hv
  obtain ⟨a, b, c⟩ := h2 d hd
  simp only [rfCells, List.mem_cons, List.not_mem_nil, or_false] at hv
  rcases hv with hv | hv
  · subst hv; cases e; exact wf_i64.2 ⟨a, b⟩
  · subst hv; cases e; exact wf_u64.2 c
theorem RtCome.fine {r : Rt} (h : RtCome r) : RtFine r := ⟨h.nx.2, h.five, fun d hd => (h.ts d hd).2⟩
theorem five_of {α : Type} {l : List α} (h : l.length = 5) : ∃ a b c d e, l = [a, b, c, d, e] := by
  match l, h with
  | [a, b, c, d, e], _ => exact ⟨a, b, c, d, e, rfl⟩
end Go.By
namespace Go.Proofs.Ytkhpblclpcgjnaa
open Go Go.RowKit Go.By

set_option maxRecDepth 100000 in
theorem rt_equal (w : World) (r s : Rt) (hr : RtCome r) (hs : RtCome s) :
    (Op.equalIn 10000 27 (.agg (rtCells r).toArray) (.agg (rtCells s).toArray)).run Try.prog w = .ok (decide (r = s)) w := by
  have hcr := hr.cells
  have hcs := hs.cells
  obtain ⟨g, n, ts⟩ := r
  obtain ⟨g', n', ts'⟩ := s
  obtain ⟨a, b, c, d, e, rfl⟩ := five_of hr.five
  obtain ⟨a', b', c', d', e', rfl⟩ := five_of hs.five
  obtain ⟨x, h1, h2⟩ := run_equalIn_deep (P := Try.prog) 9995 5 27 (by kernel_rfl) w 5 5 (.agg (rtCells ⟨g, n, [a, b, c, d, e]⟩).toArray) (.agg (rtCells ⟨g', n', [a', b', c', d', e']⟩).toArray)
    [.int .u64 g, .int .i64 n, .int .i64 a.off, .int .u64 a.ct, .int .i64 b.off, .int .u64 b.ct, .int .i64 c.off, .int .u64 c.ct, .int .i64 d.off, .int .u64 d.ct, .int .i64 e.off, .int .u64 e.ct]
    [.int .u64 g', .int .i64 n', .int .i64 a'.off, .int .u64 a'.ct, .int .i64 b'.off, .int .u64 b'.ct, .int .i64 c'.off, .int .u64 c'.ct, .int .i64 d'.off, .int .u64 d'.ct, .int .i64 e'.off, .int .u64 e'.ct]
    (by kernel_rfl) (by kernel_rfl) (keyLits_free hcr (by kernel_rfl)) (keyLits_free hcs (by kernel_rfl))
  have h3 : x = true ↔ (⟨g, n, [a, b, c, d, e]⟩ : Rt) = ⟨g', n', [a', b', c', d', e']⟩ := h2.trans (by
    cases a; cases b; cases c; cases d; cases e
    cases a'; cases b'; cases c'; cases d'; cases e'
    simp [Int.natCast_inj, and_assoc])
  have h4 : x = decide ((⟨g, n, [a, b, c, d, e]⟩ : Rt) = ⟨g', n', [a', b', c', d', e']⟩) := by
    rw [Bool.eq_iff_iff, decide_eq_true_iff]; exact h3
  rw [← h4]
  exact h1
theorem rt_eql (w : World) (r s : Rt) (hr : RtCome r) (hs : RtCome s) : (binOp .eql 27 (.agg (rtCells r).toArray) (.agg (rtCells s).toArray)).run Try.prog w = .ok (.bool (decide (r = s))) w := by
  rw [run_eql_struct, rt_equal w r s hr hs]
  rfl
theorem rt_neq (w : World) (r s : Rt) (hr : RtCome r) (hs : RtCome s) : (binOp .neq 27 (.agg (rtCells r).toArray) (.agg (rtCells s).toArray)).run Try.prog w = .ok (.bool (!decide (r = s))) w := by
  rw [run_neq_struct, rt_equal w r s hr hs]
  rfl
end Go.Proofs.Ytkhpblclpcgjnaa

