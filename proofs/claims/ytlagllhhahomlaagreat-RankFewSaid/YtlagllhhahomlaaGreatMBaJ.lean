/- Batches in a program: whatever fresh part is laid. -/
import Derived.Test.YtlagllhhahomlaaGreatMBaI
import Derived.Test.YtlagllhhahomlaaGreatMBaN
import Derived.Deep.RegionHeld3
import Derived.Test.YtlagllhhahomlaaGreatMBaF
namespace Go.Proofs.YtlagllhhahomlaaGreat.Sl.Nd
open Go Go.RowKit Go.By
def LaidPt (R : Int) (C : List Nat) (os : List ByteOp) (W : World) (g a o : Nat) (own : Own) (p : Pt) (w : World) (e : Ending) (w' : World) : Prop :=
  e = .returned (.tuple #[.agg #[.int .i64 (layPt C p).2.off, .int .u64 ((layPt C p).2.ct : Nat)], .int .i64 0]) ∧
    ∃ own' os', os'.length = os.length + nodesPt p ∧ Moves g own own' w w' ∧ Tf (fsT R (layPt C p).1 os') W g a (o + nodesPt p) own' w'
theorem keep_moves {g B : Nat} {own own' : Own} {wB w w' : World} (hg : g < B) (hk : Keep B 0 wB w) (hf : ∀ k, B ≤ k → k < wB.heap.size → own k = none) (hm : Moves g own own' w w') : Keep B 0 wB w' ∧ ∀ k, B ≤ k → k < wB.heap.size → own' k = none :=
  ⟨⟨Nat.le_trans hk.size hm.size, fun k hkw hkB h0 => (hm.block k (Nat.lt_of_lt_of_le hkw hk.size) (by omega) (.inl (hf k hkB hkw))).trans (hk.block k hkw hkB h0)⟩, fun k hkB hkw => (hm.same k (Nat.lt_of_lt_of_le hkw hk.size)).trans (hf k hkB hkw)⟩
theorem laid_of_leaf {R : Int} {W wB : World} {g a uu B : Nat} {lv : Int} (_hB0 : 0 < B) (hgB : g < B) (huB : B ≤ uu) (hu : wB.heap[uu]? = some (.cells #[.pointer (some ⟨g, 0, none⟩), .int .i64 lv] 106 (0, 0))) {M : Nat} (hM : M ≤ 16777216) (hR : (M : Int) ≤ R ∧ R ≤ 1099511627776)
    {C : List Nat} {os : List ByteOp} {own : Own} {o : Nat} {w : World} {cs : List Value} {key : List Nat} {its : List NIt} (h : Tf (fsT R C os) W g a o own w) (hk : Keep B 0 wB w) (hp : PtB B 0 wB cs (.leaf key its)) (hok : okPt C (.leaf key its))
    (hC : 256 + C.length + 1309 + 4105 ≤ M) (ho : o + 1 < 1000000 ∧ os.length + 1 < 1000000) :
    Calls Tryz.prog 48 #[.pointer (some ⟨uu, 0, none⟩), .agg cs.toArray] w (LaidPt R C os W g a o own (.leaf key its) w) := by
  have hpw : PtIs w cs (.leaf key its) := (hp.goes (Goes.of_keep hk)).plain
  simp only [okPt] at hok
  have hul : uu < wB.heap.size := (Array.getElem?_eq_some_iff.1 hu).1
  have huw := (hk.block uu hul huB (by omega)).trans hu
  cases hpw with
  | @leaf kv p c _ _ hkb hi =>
    obtain ⟨qx, cx, rfl, -⟩ := hkb.any
    refine (laid_leaf h ⟨by omega, hR.2⟩ (by omega) ⟨by omega, by omega⟩ huw hi hok.1).mono ?_
    rintro e w' ⟨rfl, own', hm, ht⟩
    refine ⟨by simp [layPt], own', os ++ [.write (256 + C.length) (recOf 2 (putNd (lfOf its)))], by simp [nodesPt], hm, ?_⟩
    simpa only [layPt, nodesPt] using ht
end Go.Proofs.YtlagllhhahomlaaGreat.Sl.Nd
/- Batches in a program: rows of keys and of trees that are appended to, in regions that draw their order. -/
namespace Go.By
open Go Go.RowKit
theorem step_app {P : Program} {w : World} {ops : Array Oper} {o : Oper} {a : Act} {K : Act → World → Prop} {Q : Exit → Act → World → Prop} {E : Prop} {F : Value → World → Prop} (hgd : o.guard = none) (s x : Operand) (t t' : TypeId)
    (ho : o.op = .call { callee := .builtin .append, args := #[s, x], argTypes := #[t, t'] }) (v xv : Value) (hs : a.eval s = v) (hx : a.eval x = xv) (hrun : ∃ v' w', (Builtin.append_ #[t, t'] o.type #[v, xv]).run P w = .ok v' w' ∧ F v' w')
    (h : ∀ v' w', F v' w' → K (a.put o.dst v') w') :
    if Region.wanted o (yielded ops a.tmps) = true then Oper.wp P o a w K Q else E := by
  obtain ⟨v', w', hr, hF⟩ := hrun
  have hw : Region.wanted o (yielded ops a.tmps) = true := by simp [Region.wanted, hgd]
  rw [if_pos hw]
  unfold Oper.wp execOp
  simp only [ho, resolve, invoke, builtin, Sem.run_bind, Sem.run_pure, Result.andThen_ok, List.map_toArray, List.map_cons, List.map_nil, hs, hx, hr]
  exact h v' w' hF
end Go.By
namespace Go.Proofs.YtlagllhhahomlaaGreat.Sl.Nd
open Go Go.RowKit Go.By
def KyB (wB : World) (B L : Nat) (w : World) (v : Value) (ks : List (List Nat)) : Prop :=
  ∃ cs : List Value, cs.length = ks.length ∧ w.ownsRow L 26 1 v ks.length cs ∧ ∀ j (h : j < ks.length) (h' : j < cs.length), ∀ W', Keep B 0 wB W' → Bytes W' cs[j] ks[j]
theorem KyB.nil (wB : World) (B L : Nat) (w : World) : KyB wB B L w (.slice none 0 0) [] := ⟨[], rfl, World.ownsRow_nil _ _ _ _, fun _j h => absurd h (Nat.not_lt_zero _)⟩
theorem KyB.app {wB w : World} {B L b : Nat} {v x : Value} {ks : List (List Nat)} {k : List Nat} (h : KyB wB B L w v ks) (hn : ks.length ≤ 1000000) (hL : L ≤ w.heap.size) (hx : ∀ W', Keep B 0 wB W' → Bytes W' x k) (hx1 : x.oneCell' = true) (hb : w.cell? ⟨b, 0, none⟩ = some x) :
    ∃ v' w', (Builtin.append_ #[36, 36] 36 #[v, .slice (some ⟨b, 0, none⟩) 1 1]).run Tryz.prog w = .ok v' w' ∧ KyB wB B L w' v' (ks ++ [k]) ∧ Grows w w' v v' := by
  obtain ⟨cs, h1, h2, h3⟩ := h
  obtain ⟨i, hi, hz, hs, hby⟩ := info_row
  obtain ⟨v', w', hr, ho, hg⟩ := run_append_grows (P := Tryz.prog) (w := w) 36 (t := 36) (e := 26) (by kernel_rfl) hi hz hs hby rfl (by decide) L v ks.length cs h2 b 0 1 1 [x] rfl (fun j u hu => by
    rw [Nat.zero_add]
    cases j with
    | zero => simp only [List.getElem?_cons_zero, Option.some.injEq] at hu; rw [hb, hu]
    | succ j => simp at hu) (by simpa using hx1) (by unfold maxLen; omega) (by omega) hL
  refine ⟨v', w', hr, ⟨cs ++ [x], by simp [h1], by simpa using ho, fun j hj hj' => ?_⟩, hg⟩
  by_cases hlt : j < ks.length
  · rw [List.getElem_append_left hlt, List.getElem_append_left (by omega)]
    exact h3 j hlt (by omega)
  · obtain rfl : j = ks.length := by simp at hj; omega
    rw [List.getElem_append_right (Nat.le_refl _), List.getElem_append_right (by omega)]
    simp only [h1, Nat.sub_self, List.getElem_singleton]
    exact hx
theorem kd_app {w : World} {L b : Nat} {v : Value} {kids : List NKd} {d : NKd} (h : KdRow w L v kids) (hn : kids.length ≤ 1000000) (hL : L ≤ w.heap.size) (hd : d.off ≤ 9223372036854775807 ∧ d.ct < 18446744073709551616) (h0 : w.cell? ⟨b, 0, none⟩ = some (.int .i64 d.off)) (h1 : w.cell? ⟨b, 1, none⟩ = some (.int .u64 (d.ct : Nat))) :
    ∃ v' w', (Builtin.append_ #[34, 34] 34 #[v, .slice (some ⟨b, 0, none⟩) 1 1]).run Tryz.prog w = .ok v' w' ∧ KdRow w' L v' (kids ++ [d]) ∧ Grows w w' v v' := by
  obtain ⟨h2, h3⟩ := h
  obtain ⟨i, hi, hz, hs, hby⟩ := info_ref
  obtain ⟨v', w', hr, ho, hg⟩ := run_append_grows (P := Tryz.prog) (w := w) 34 (t := 34) (e := 25) (by kernel_rfl) hi hz hs hby rfl (by decide) L v kids.length (kids.flatMap kdCells) h2 b 0 1 1 [.int .i64 d.off, .int .u64 (d.ct : Nat)] rfl (fun j u hu => by
    rw [Nat.zero_add]
    match j, hu with
    | 0, hu => simp only [List.getElem?_cons_zero, Option.some.injEq] at hu; rw [h0, hu]
    | 1, hu => simp only [List.getElem?_cons_succ, List.getElem?_cons_zero, Option.some.injEq] at hu; rw [h1, hu]
    | j + 2, hu => simp at hu) (by intro u hu; simp only [List.mem_cons, List.not_mem_nil, or_false] at hu; rcases hu with rfl | rfl <;> rfl) (by unfold maxLen; omega) (by omega) hL
  refine ⟨v', w', hr, ⟨by simpa [kdCells] using ho, fun x hx => ?_⟩, hg⟩
  rcases List.mem_append.1 hx with hx | hx
  · exact h3 x hx
  · obtain rfl : x = d := by simpa using hx
    exact hd
end Go.Proofs.YtlagllhhahomlaaGreat.Sl.Nd
