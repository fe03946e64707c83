/- Trees in a program: the law's rows of trees. -/
import Derived.Test.YtdbgihpognfhdaaGreatMDcP
import Derived.Test.YtdbgihpognfhdaaGreatMFlM
import Derived.Test.YtdbgihpognfhdaaGreatMRowS
import Derived.Deep.RegionLaw
import Derived.Test.YtdbgihpognfhdaaGreatMTLb
import Derived.Test.YtdbgihpognfhdaaGreatMTrU
import Derived.Test.YtdbgihpognfhdaaGreatMTrS
import Derived.Test.YtdbgihpognfhdaaGreatMRegQ
namespace Go.By
open Go Go.RowKit
def subK (refs : List NKd) (d : NKd) : NKd := if 0 ≤ d.off ∧ d.off < (refs.length : Int) then refs.getD d.off.toNat ⟨0, 0⟩ else d
def kidsTo (refs kids : List NKd) (m : Nat) : List NKd := (kids.take m).map (subK refs) ++ kids.drop m
theorem kidsTo_length (refs kids : List NKd) (m : Nat) : (kidsTo refs kids m).length = kids.length := by
  unfold kidsTo
  rw [List.length_append, List.length_map, List.length_take, List.length_drop]
  omega
theorem kidsTo_at {refs kids : List NKd} {m : Nat} (h : m < kids.length) : (kidsTo refs kids m)[m]'(by rw [kidsTo_length]; exact h) = kids[m] := by
  unfold kidsTo
  rw [List.getElem_append_right (by rw [List.length_map, List.length_take]; omega)]
  simp only [List.length_map, List.length_take, Nat.min_eq_left (Nat.le_of_lt h), Nat.sub_self, List.getElem_drop, Nat.add_zero]
theorem kidsTo_take {refs kids : List NKd} {m : Nat} (h : m ≤ kids.length) : (kidsTo refs kids m).take m = (kids.take m).map (subK refs) := by
  unfold kidsTo
  rw [List.take_append_of_le_length (by rw [List.length_map, List.length_take]; omega), List.take_of_length_le (by rw [List.length_map, List.length_take]; omega)]
theorem kidsTo_drop {refs kids : List NKd} {m : Nat} (h : m < kids.length) : (kidsTo refs kids m).drop (m + 1) = kids.drop (m + 1) := by
  unfold kidsTo
  have e : ((kids.take m).map (subK refs)).length = m := by rw [List.length_map, List.length_take]; omega
  rw [List.drop_append, List.drop_of_length_le (by omega), e, List.nil_append, List.drop_drop]
  congr 1
  omega
theorem kidsTo_succ {refs kids : List NKd} {m : Nat} (h : m < kids.length) : kidsTo refs kids (m + 1) = (kidsTo refs kids m).take m ++ [subK refs kids[m]] ++ (kidsTo refs kids m).drop (m + 1) := by
  rw [kidsTo_take (Nat.le_of_lt h), kidsTo_drop h]
  unfold kidsTo
  rw [List.take_succ_eq_append_getElem h, List.map_append]
  rfl
theorem kidsTo_same {refs kids : List NKd} {m : Nat} (h : m < kids.length) (hs : subK refs kids[m] = kids[m]) : kidsTo refs kids (m + 1) = kidsTo refs kids m := by
  unfold kidsTo
  rw [List.take_succ_eq_append_getElem h, List.map_append, List.drop_eq_getElem_cons h]
  simp [hs]
end Go.By
namespace Go.Proofs.YtdbgihpognfhdaaGreat.Sl.Nd
open Go Go.RowKit Go.By
theorem flat_kd (l : List NKd) : (l.flatMap kdCells).length = l.length * 2 := by
  induction l with
  | nil => rfl
  | cons x r ih => rw [List.flatMap_cons, List.length_append, ih, List.length_cons]; show 2 + _ = _; omega
theorem kd_at {l : List NKd} {j : Nat} {u : Value} (h : (l.flatMap kdCells)[j]? = some u) : ∃ i, ∃ hi : i < l.length, ∃ r, r < 2 ∧ j = i * 2 + r ∧ (kdCells l[i])[r]? = some u := by
  have hj : j < (l.flatMap kdCells).length := (List.getElem?_eq_some_iff.1 h).1
  rw [flat_kd] at hj
  refine ⟨j / 2, by omega, j % 2, Nat.mod_lt _ (by decide), by omega, ?_⟩
  have := flat_two (f := kdCells) (fun _ => rfl) (xs := l) (j := j / 2) (i := j % 2) (by omega) (Nat.mod_lt _ (by decide))
  rw [show j / 2 * 2 + j % 2 = j by omega] at this
  rw [← this]
  exact h
theorem KdRow.app {w : World} {B : Nat} {v : Value} {kids xs : List NKd} {p : Option Addr} {cap : Nat} (h : KdRow w B v kids) (hx : RowAt KRef w p cap xs) (hn : (kids.length + xs.length) * 16 ≤ 140737488355328) (hB : B ≤ w.heap.size) (hp : xs = [] → (p = none ∧ cap = 0) ∨ ∃ b o, p = some ⟨b, o, none⟩) :
    ∃ p' c' w', (Builtin.append_ #[34, 34] 34 #[v, .slice p xs.length cap]).run Tryz.prog w = .ok (.slice p' (kids.length + xs.length) c') w' ∧ KdRow w' B (.slice p' (kids.length + xs.length) c') (kids ++ xs) ∧ Grows w w' v (.slice p' (kids.length + xs.length) c') := by
  obtain ⟨h2, h3⟩ := h
  obtain ⟨i, hi, hz, hs, hby⟩ := info_ref
  by_cases hpn : p = none
  · subst hpn
    have hx0 : xs = [] := by
      cases xs with
      | nil => rfl
      | cons x r => obtain ⟨lb, lo, cs, e, -⟩ := hx.at_ 0 (by simp); cases e
    subst hx0
    obtain rfl : cap = 0 := by
      rcases hp rfl with h | ⟨b, o, h⟩
      · exact h.2
      · cases h
    have hr := run_append_owned_none (P := Tryz.prog) w B 34 34 25 i 2 (by kernel_rfl) hi v kids.length (kids.flatMap kdCells) h2
    obtain ⟨p', c', rfl, -⟩ := owns_at h2 (by decide)
    refine ⟨p', c', w, ?_, ?_, Grows.refl _ _⟩
    · simpa using hr
    · exact ⟨by simpa using h2, by simpa using h3⟩
  · obtain ⟨b, o, rfl⟩ : ∃ b o, p = some ⟨b, o, none⟩ := by
      cases xs with
      | nil => exact (hp rfl).resolve_left (fun h => hpn h.1)
      | cons x r => obtain ⟨lb, lo, cs, e, -⟩ := hx.at_ 0 (by simp); exact ⟨lb, lo, e⟩
    obtain ⟨v', w', hr, ho, hg⟩ := run_append_grows (P := Tryz.prog) (w := w) 34 (t := 34) (e := 25) (by kernel_rfl) hi hz hs hby rfl (by decide) B v kids.length (kids.flatMap kdCells) h2 b o xs.length cap (xs.flatMap kdCells) (flat_kd xs) (fun j u hu => by
      obtain ⟨i, hi, r, hr2, rfl, hu2⟩ := kd_at hu
      obtain ⟨lb, lo, cs, e, hc, rfl, -⟩ := hx.at_ i hi
      cases e
      have hlt : r < (kdCells xs[i]).length := (List.getElem?_eq_some_iff.1 hu2).1
      have := hc r hlt
      simp only [KRef] at this
      rw [show o + (i * 2 + r) = o + i * 2 + r by omega]
      rw [this]
      rw [List.getElem?_eq_getElem hlt] at hu2
      exact hu2) (by
      intro u hu
      obtain ⟨x, hx, hux⟩ := List.mem_flatMap.1 hu
      simp [kdCells] at hux
      rcases hux with rfl | rfl <;> rfl) (by unfold maxLen; omega) hn hB
    obtain ⟨p', c', rfl, -⟩ := owns_at ho (by decide)
    refine ⟨p', c', w', hr, ⟨by rw [List.length_append, List.flatMap_append]; exact ho, fun x hx' => ?_⟩, hg⟩
    rcases List.mem_append.1 hx' with hx' | hx'
    · exact h3 x hx'
    · obtain ⟨j, hj, rfl⟩ := List.getElem_of_mem hx'
      obtain ⟨lb, lo, cs, e, hc, he, h5, h6⟩ := hx.at_ j hj
      exact ⟨h5, h6⟩
theorem refT : RowT Tryz.prog 34 2 := ⟨by kernel_rfl, fun w => by kernel_rfl⟩
end Go.Proofs.YtdbgihpognfhdaaGreat.Sl.Nd
/- Trees in a program: the law's nodes. -/
namespace Go.By
open Go Go.RowKit
def KNd : Kind Nd where
  width := 4
  is w cs n := ∃ (pi : Option Addr) (ci : Nat) (pk : Option Addr) (ck : Nat) (pd : Option Addr) (cd : Nat), cs = [.bool n.leaf, .slice pi n.its.length ci, .slice pk n.ks.length ck, .slice pd n.kids.length cd] ∧ RowAt KItem w pi ci n.its ∧ RowAt KBytes w pk ck n.ks ∧ RowAt KRef w pd cd n.kids
  len h := by obtain ⟨_, _, _, _, _, _, rfl, _⟩ := h; rfl
  stays h hb := by obtain ⟨pi, ci, pk, ck, pd, cd, rfl, h1, h2, h3⟩ := h; exact ⟨pi, ci, pk, ck, pd, cd, rfl, h1.below hb, h2.below hb, h3.below hb⟩
theorem cell_same {w w' : World} {g i : Nat} (h : w'.heap[g]? = w.heap[g]?) : w'.cell? ⟨g, i, none⟩ = w.cell? ⟨g, i, none⟩ := by
  unfold World.cell?
  simp only [h]
theorem rowAt_keep {w w' : World} {p : Option Addr} {cap : Nat} {xs : List NKd} (h : RowAt KRef w p cap xs) (hk : ∀ lb lo, p = some ⟨lb, lo, none⟩ → 0 < xs.length → w'.heap[lb]? = w.heap[lb]?) : RowAt KRef w' p cap xs := by
  refine ⟨h.le, h.most, fun i hi => ?_⟩
  obtain ⟨lb, lo, cs, rfl, h1, h2⟩ := h.at_ i hi
  have e := hk lb lo rfl (by omega)
  exact ⟨lb, lo, cs, rfl, fun j hj => (cell_same e).trans (h1 j hj), h2⟩
theorem rowAt_fromS {α : Type} {K : Kind α} {P : Program} {t : TypeId} (T : RowT P t K.width) {w : World} {lb lo cap : Nat} {xs : List α} (h : RowAt K w (some ⟨lb, lo, none⟩) cap xs) (n : Nat) (N : Int) (hN : N = n) (hn : n ≤ xs.length) :
    ∃ lo' c, (∀ w0 : World, (Instr.slice t (.slice (some ⟨lb, lo, none⟩) xs.length cap) (some (.int .i64 N)) none none).run P w0 = .ok (.slice (some ⟨lb, lo', none⟩) (xs.drop n).length c) w0) ∧ RowAt K w (some ⟨lb, lo', none⟩) c (xs.drop n) := by
  subst hN
  have hr := fun w0 => run_slice_l (P := P) w0 t (some ⟨lb, lo, none⟩) xs.length cap T.slice .i64 (n : Int) (by have := h.le; omega) (by omega)
  have e2 : (n : Int).toNat = n := by omega
  simp only [T.size, Result.andThen, e2, sliced] at hr
  have hle := h.le
  by_cases hc : cap = n
  · refine ⟨lo, cap - n, fun w0 => by rw [hr, if_pos hc, List.length_drop], by rw [List.length_drop]; omega, by have := h.most; omega, fun i hi => ?_⟩
    rw [List.length_drop] at hi; omega
  · refine ⟨lo + n * K.width, cap - n, fun w0 => by rw [hr, if_neg hc, List.length_drop]; simp [Addr.add], by rw [List.length_drop]; omega, by have := h.most; omega, fun i hi => ?_⟩
    rw [List.length_drop] at hi
    obtain ⟨lb', lo', cs, e, h1, h2⟩ := h.at_ (n + i) (by omega)
    cases e
    refine ⟨lb, lo + n * K.width, cs, rfl, ?_, by simpa using h2⟩
    have e : lo + n * K.width + i * K.width = lo + (n + i) * K.width := by rw [Nat.add_mul]; omega
    rw [e]
    exact h1
end Go.By
namespace Go.Proofs.YtdbgihpognfhdaaGreat.Sl.Nd
open Go Go.RowKit Go.By
theorem Only.grown {A : Nat} {w w' : World} (h : Only A w w') : w.grownBy w' (some A) := ⟨h.os, h.tape, h.output, h.size, fun k hk hne => h.block k hk (fun e => hne (by rw [e]))⟩
theorem Tf.grown {F : FS} {W w w' : World} {g a o : Nat} {own : Own} (h : Tf F W g a o own w) {r : Option Nat} (hg : w.grownBy w' r) (hr : ∀ k, r = some k → own k = none ∧ W.heap.size ≤ k ∧ k ≠ g) : Tf F W g a o own w' :=
  ⟨h.disk.grown hg (fun k hk => ⟨(hr k hk).1, (hr k hk).2.1⟩), h.file.grown hg (fun e => (hr g e).2.2 rfl)⟩
def L1 (W : World) (g a N : Nat) (rv i : Value) (wr : World) : Prop :=
  ∃ (k o : Nat) (own : Own) (C : List Nat) (os : List ByteOp) (refs : List NKd), k ≤ N ∧ i = .int .i64 k ∧ Tf (fsT 1048576 C os) W g a o own wr ∧ KdRow wr W.heap.size rv refs ∧ refs.length = k + 2 ∧ C.length ≤ k * 4105 ∧ os.length ≤ k + 1 ∧ o ≤ k + 2 ∧ (∀ b, rv.ownBlock = some b → own b = none ∧ b ≠ g)
def L2 (W W4 : World) (nb : Nat) (lf : Bool) (iv kv : Value) (refs kids : List NKd) (m : Value) (wx : World) : Prop :=
  ∃ (j : Nat) (p : Option Addr) (c : Nat), j ≤ kids.length ∧ j ≤ 12 ∧ m = .int .i64 j ∧ wx.heap[nb]? = some (.cells #[.bool lf, iv, kv, .slice p kids.length c] 38 (0, 0)) ∧ RowAt KRef wx p c (kidsTo refs kids j) ∧ (∀ lb lo, p = some ⟨lb, lo, none⟩ → 0 < kids.length → lb < W.heap.size ∨ (W4.heap.size ≤ lb ∧ lb < wx.heap.size)) ∧ Only nb W4 wx
end Go.Proofs.YtdbgihpognfhdaaGreat.Sl.Nd
/- Rows of trees of one's own, in regions that draw their order. -/
namespace Go.Proofs.YtdbgihpognfhdaaGreat.Sl.Nd
open Go Go.RowKit Go.By
theorem wpOp_go {P : Program} {ops : Array Oper} {Q : Exit → Act → World → Prop} {i : Nat} {o : Oper} {K : Act → World → Prop} {a : Act} {w : World} (ho : ops[i]? = some o) (hg : o.guard = none) (h : o.wp P a w K Q) : wpOp P ops Q i K a w := by
  unfold wpOp
  rw [ho]
  dsimp only
  rw [if_pos (by unfold Region.wanted; rw [hg])]
  exact .inl h
theorem popQ_go {P : Program} {ops : Array Oper} {Q : Exit → Act → World → Prop} {n : Nat} {o : Oper} {a : Act} {w : World} (ho : ops[n]? = some o) (hg : o.guard = none) (h : o.wp P a w (Q .normal) Q) : popQ P ops n Q .normal a w := by
  unfold popQ
  exact wpOp_go ho hg h
theorem kd_zero {w : World} {B : Nat} {v : Value} {l : List NKd} (h : KdRow w B v l) : KdRow w 0 v l := by
  obtain ⟨⟨h1, h2⟩, h3⟩ := h
  refine ⟨⟨h1, ?_⟩, h3⟩
  rcases h2 with h | ⟨g, cap, cur, a, _, c⟩
  · exact .inl h
  · exact .inr ⟨g, cap, cur, a, Nat.zero_le _, c⟩
theorem kd_from {w : World} {B : Nat} {v : Value} {l : List NKd} (h : KdRow w 0 v l) (hB : ∀ k, blkOf v = some k → B ≤ k) : KdRow w B v l := by
  obtain ⟨⟨h1, h2⟩, h3⟩ := h
  refine ⟨⟨h1, ?_⟩, h3⟩
  rcases h2 with h | ⟨g, cap, cur, a, _, c⟩
  · exact .inl h
  · exact .inr ⟨g, cap, cur, a, hB g (by rw [a]; rfl), c⟩
theorem kd_blk {w : World} {B : Nat} {v : Value} {l : List NKd} (h : KdRow w B v l) : blkOf v = v.ownBlock := by
  obtain ⟨p, c, rfl, -⟩ := owns_at h.1 (by decide)
  exact blk_own _ ⟨p, _, c, rfl⟩
theorem kd_rowblk {w : World} {B : Nat} {v : Value} {l : List NKd} (h : KdRow w B v l) : ∀ k, blkOf v = some k → B ≤ k := fun k hk => by rw [kd_blk h] at hk; exact (h.1.lt k hk).1
def kdOwn (l : List NKd) : Go.By.Own := .own (fun v w => KdRow w 0 v l)
  (fun v w k h hk => by rw [kd_blk h] at hk; exact (h.1.lt k hk).2)
  (fun v w w' h hs hb => ⟨owns_stay h.1 (fun k hk => hb k (by rw [kd_blk h]; exact hk)), h.2⟩)
theorem own_append_kd {w : World} {a : Act} {X : Nat → Prop} {d : Tmp} {s x : Operand} {v : Value} {l xs : List NKd} {p : Option Addr} {cap : Nat} (hs : a.eval s = v) (hown : KdRow w 0 v l) (hx : a.eval x = .slice p xs.length cap) (hr : RowAt KRef w p cap xs) (hn : (l.length + xs.length) * 16 ≤ 140737488355328) (hp : xs = [] → (p = none ∧ cap = 0) ∨ ∃ b o, p = some ⟨b, o, none⟩)
    (hX : ∀ k, blkOf v = some k → X k) (hd : Nat.blt d a.tmps.size = true) : OwnRun Tryz.prog (.call { callee := .builtin .append, args := #[s, x], argTypes := #[34, 34] }) 34 (some d) d (kdOwn (l ++ xs)) X a w := by
  obtain ⟨p', c', w', h1, h2, h3⟩ := hown.app hr hn (Nat.zero_le _) hp
  have hbv := kd_blk hown
  have h2' : KdRow w' 0 (.slice p' (l.length + xs.length) c') (l ++ xs) := h2
  have hbv' := kd_blk h2'
  unfold OwnRun wpList
  rw [if_pos (by rfl)]
  refine .inl ?_
  unfold Oper.wp execOp
  simp only [resolve, invoke, builtin, Sem.run_bind, Sem.run_pure, Result.andThen_ok, List.map_toArray, List.map_cons, List.map_nil, hs, hx, h1]
  have hat : (a.put (some d) (.slice p' (l.length + xs.length) c')).eval (.tmp d) = .slice p' (l.length + xs.length) c' := put_at (Nat.le_of_ble_eq_true hd)
  refine ⟨rfl, ?_, put_defers .., Chg.of_grown h3.by_ (fun k hk => hX k (by rw [hbv]; exact hk)), fun _ k hk => ?_⟩
  · rw [hat]; exact h2'
  · rw [hat, hbv'] at hk
    rcases h3.new with h | ⟨g, h, hg⟩
    · exact .inr (hX k (by rw [hbv, ← h]; exact hk))
    · rw [h] at hk
      cases hk
      exact .inl hg
theorem kd_built (w : World) (r : NKd) (hr : r.off ≤ 9223372036854775807 ∧ r.ct < 18446744073709551616) : KdRow (w.alloc (.cells #[.int .i64 r.off, .int .u64 (r.ct : Nat)] 25)) w.heap.size (.slice (some ⟨w.heap.size, 0, none⟩) 1 1) [r] :=
  ⟨⟨rfl, .inr ⟨w.heap.size, 1, _, rfl, Nat.le_refl _, heap_alloc_new w _, Nat.le_refl _, by unfold maxLen; decide, rfl, rfl⟩⟩, fun d hd => by
    obtain rfl : r = d := (by simpa using hd : d = r).symm
    exact hr⟩
theorem kd_empty (w : World) : KdRow (w.alloc (.cells #[] 25)) w.heap.size (.slice (some ⟨w.heap.size, 0, none⟩) 0 0) [] :=
  ⟨⟨rfl, .inr ⟨w.heap.size, 0, #[], rfl, Nat.le_refl _, heap_alloc_new w _, Nat.le_refl _, Nat.zero_le _, rfl, rfl⟩⟩, by simp⟩
end Go.Proofs.YtdbgihpognfhdaaGreat.Sl.Nd
