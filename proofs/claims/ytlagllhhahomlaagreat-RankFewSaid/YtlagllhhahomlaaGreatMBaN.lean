/- Batches, plain: parts of a tree that is to be, as they lie in memory; rows that are cut into groups. -/
import Derived.Test.YtlagllhhahomlaaGreatMBaC
import Derived.Test.YtlagllhhahomlaaGreatMRkP
import Derived.Test.YtlagllhhahomlaaGreatMBaE
namespace Go.By
open Go Go.RowKit
inductive Pt where
  | old (key : List Nat) (off : Int) (ct : Nat) (deep : Nat) (least bound : List Nat)
  | leaf (key : List Nat) (its : List NIt)
  | node (key : List Nat) (kids : List Pt)
def Pt.key : Pt → List Nat
  | .old k .. => k
  | .leaf k _ => k
  | .node k _ => k
inductive PtIs (w : World) : List Value → Pt → Prop where
  | old {kv lv bv : Value} {key least bound : List Nat} {off : Int} {ct deep : Nat} (hk : Bytes w kv key) (hl : Bytes w lv least) (hb : Bytes w bv bound) (hn : ¬ (off = 0 ∧ ct = 0)) :
      PtIs w [kv, .int .i64 off, .int .u64 (ct : Nat), .int .i64 (deep : Nat), lv, bv, .slice none 0 0, .slice none 0 0] (.old key off ct deep least bound)
  | leaf {kv : Value} {p : Option Addr} {c : Nat} {key : List Nat} {its : List NIt} (hk : Bytes w kv key) (hi : RowAt KItem w p c its) :
      PtIs w [kv, .int .i64 0, .int .u64 0, .int .i64 0, .slice none 0 0, .slice none 0 0, .slice p its.length c, .slice none 0 0] (.leaf key its)
  | node {kv : Value} {p : Option Addr} {c : Nat} {key : List Nat} {kids : List Pt} (css : Nat → List Value) (hk : Bytes w kv key) (hle : kids.length ≤ c) (hc : c ≤ maxLen)
      (hat : ∀ i, i < kids.length → ∃ lb lo, p = some ⟨lb, lo, none⟩ ∧ ∀ j (hj : j < (css i).length), w.cell? ⟨lb, lo + i * 8 + j, none⟩ = some (css i)[j])
      (hp : ∀ i (h : i < kids.length), PtIs w (css i) kids[i]) :
      PtIs w [kv, .int .i64 0, .int .u64 0, .int .i64 0, .slice none 0 0, .slice none 0 0, .slice none 0 0, .slice p kids.length c] (.node key kids)
theorem PtIs.len {w : World} {cs : List Value} {p : Pt} (h : PtIs w cs p) : cs.length = 8 := by cases h <;> rfl
theorem PtIs.stays {w w' : World} {cs : List Value} {p : Pt} (h : PtIs w cs p) (hb : Below w.heap.size w w') : PtIs w' cs p := by
  induction h with
  | old hk hl hb' hn => exact .old (hk.below hb) (hl.below hb) (hb'.below hb) hn
  | leaf hk hi => exact .leaf (hk.below hb) (hi.below hb)
  | node css hk hle hc hat hp ih =>
    refine .node css (hk.below hb) hle hc (fun i hi => ?_) ih
    obtain ⟨lb, lo, e, h⟩ := hat i hi
    exact ⟨lb, lo, e, fun j hj => (hb.cell (p := ⟨lb, lo + i * 8 + j, none⟩) (block_lt_of_cell (h j hj))).trans (h j hj)⟩
def KPt : Kind Pt where
  width := 8
  is w cs p := PtIs w cs p
  len h := h.len
  stays h hb := h.stays hb
theorem PtIs.over {w : World} {kv : Value} {p : Option Addr} {c : Nat} {key : List Nat} {kids : List Pt} (hk : Bytes w kv key) (h : RowAt KPt w p c kids) :
    PtIs w [kv, .int .i64 0, .int .u64 0, .int .i64 0, .slice none 0 0, .slice none 0 0, .slice none 0 0, .slice p kids.length c] (.node key kids) := by
  have hx : ∀ i, ∃ cs : List Value, ∀ hi : i < kids.length, ∃ lb lo, p = some ⟨lb, lo, none⟩ ∧ (∀ j (hj : j < cs.length), w.cell? ⟨lb, lo + i * 8 + j, none⟩ = some cs[j]) ∧ PtIs w cs kids[i] := fun i => by
    by_cases hi : i < kids.length
    · obtain ⟨lb, lo, cs, e, h1, h2⟩ := h.at_ i hi
      exact ⟨cs, fun _ => ⟨lb, lo, e, h1, h2⟩⟩
    · exact ⟨[], fun h => absurd h hi⟩
  refine .node (fun i => (hx i).choose) hk h.le h.most (fun i hi => ?_) (fun i hi => ?_)
  · obtain ⟨lb, lo, e, h1, _⟩ := (hx i).choose_spec hi
    exact ⟨lb, lo, e, h1⟩
  · obtain ⟨_, _, _, _, h2⟩ := (hx i).choose_spec hi
    exact h2
theorem PtIs.kids {w : World} {cs : List Value} {key : List Nat} {kids : List Pt} (h : PtIs w cs (.node key kids)) :
    ∃ kv p c, cs = [kv, .int .i64 0, .int .u64 0, .int .i64 0, .slice none 0 0, .slice none 0 0, .slice none 0 0, .slice p kids.length c] ∧ Bytes w kv key ∧ RowAt KPt w p c kids := by
  cases h with
  | @node kv p c _ _ css hk hle hc hat hp =>
    refine ⟨kv, p, c, rfl, hk, hle, hc, fun i hi => ?_⟩
    obtain ⟨lb, lo, e, h1⟩ := hat i hi
    exact ⟨lb, lo, css i, e, h1, hp i hi⟩
def cutBy {α : Type} : List Nat → List α → List (List α)
  | [], _ => []
  | n :: ns, xs => xs.take n :: cutBy ns (xs.drop n)
theorem cutBy_length {α : Type} : ∀ (ns : List Nat) (xs : List α), (cutBy ns xs).length = ns.length
  | [], _ => rfl
  | n :: ns, xs => by simp [cutBy, cutBy_length ns]
theorem cutBy_snoc {α : Type} : ∀ (ns : List Nat) (n : Nat) (xs : List α), cutBy (ns ++ [n]) xs = cutBy ns xs ++ [(xs.drop ns.sum).take n]
  | [], n, xs => by simp [cutBy]
  | m :: ns, n, xs => by
    simp only [List.cons_append, cutBy, cutBy_snoc ns n, List.sum_cons, List.drop_drop]
theorem cutBy_flatten {α : Type} : ∀ (ns : List Nat) (xs : List α), ns.sum = xs.length → (cutBy ns xs).flatten = xs
  | [], xs, h => by
    simp only [List.sum_nil] at h
    rw [List.eq_nil_of_length_eq_zero h.symm]
    rfl
  | n :: ns, xs, h => by
    simp only [List.sum_cons] at h
    rw [cutBy, List.flatten_cons, cutBy_flatten ns (xs.drop n) (by rw [List.length_drop]; omega), List.take_append_drop]
def headKey (l : List NIt) : List Nat := match l.head? with
  | some i => i.k
  | none => []
def leafOf (g : List NIt) : Pt := .leaf (headKey g) g
def headPt (l : List Pt) : List Nat := match l.head? with
  | some p => p.key
  | none => []
def nodeOver (g : List Pt) : Pt := .node (headPt g) g
end Go.By
/- Batches, plain: parts laid behind all that is there: what is read then is a tree of their items. -/
namespace Go.By
open Go
def overNd (kids : List Pt) (ds : List NKd) : Nd := ⟨false, [], kids.map Pt.key, ds⟩
mutual
def layPt : List Nat → Pt → List Nat × NKd
  | C, .old _ off ct _ _ _ => (C, ⟨off, ct⟩)
  | C, .leaf _ its => (C ++ recOf 2 (putNd (lfOf its)), ⟨(256 + C.length : Nat), its.length⟩)
  | C, .node _ kids => ((layPts C kids).1 ++ recOf 2 (putNd (overNd kids (layPts C kids).2)), ⟨(256 + (layPts C kids).1.length : Nat), sumK (layPts C kids).2⟩)
def layPts : List Nat → List Pt → List Nat × List NKd
  | C, [] => (C, [])
  | C, p :: r => ((layPts (layPt C p).1 r).1, (layPt C p).2 :: (layPts (layPt C p).1 r).2)
end
mutual
def okPt : List Nat → Pt → Prop
  | _, .old .. => False
  | _, .leaf _ its => mayNd (lfOf its) = true ∧ NdFine (lfOf its)
  | C, .node _ kids => okPts C kids ∧ mayNd (overNd kids (layPts C kids).2) = true ∧ NdFine (overNd kids (layPts C kids).2)
def okPts : List Nat → List Pt → Prop
  | _, [] => True
  | C, p :: r => okPt C p ∧ okPts (layPt C p).1 r
end
mutual
def nodesPt : Pt → Nat
  | .old .. => 0
  | .leaf .. => 1
  | .node _ kids => nodesPts kids + 1
def nodesPts : List Pt → Nat
  | [] => 0
  | p :: r => nodesPt p + nodesPts r
end
def Rep : Nat → Bool → Pt → List NIt → Prop
  | 0, _, _, _ => False
  | _ + 1, _, .old .., _ => False
  | h + 1, root, .leaf k its, l => h = 0 ∧ l = its ∧ its ≠ [] ∧ k = headKey its ∧ (root = true ∨ 4 ≤ its.length) ∧ its.length ≤ 8
  | h + 1, root, .node k kids, l => k = headPt kids ∧ (2 ≤ kids.length ∧ kids.length ≤ 8) ∧ (root = true ∨ 4 ≤ kids.length) ∧ ∃ ls : List (List NIt), ls.length = kids.length ∧ l = ls.flatten ∧ ∀ i (hi : i < kids.length) (hi' : i < ls.length), Rep h false kids[i] ls[i]
theorem Rep.head : ∀ {h : Nat} {root : Bool} {p : Pt} {l : List NIt}, Rep h root p l → l ≠ [] ∧ l.head?.map (·.k) = some p.key
  | 0, _, _, _, h => by simp [Rep] at h
  | _ + 1, _, .old .., _, h => by simp [Rep] at h
  | h + 1, root, .leaf k its, l, hr => by
    simp only [Rep] at hr
    obtain ⟨_, rfl, hne, rfl, _, _⟩ := hr
    refine ⟨hne, ?_⟩
    cases l with
    | nil => exact absurd rfl hne
    | cons i r => rfl
  | h + 1, root, .node k kids, l, hr => by
    simp only [Rep] at hr
    obtain ⟨rfl, h28, _, ls, hls, rfl, hk⟩ := hr
    have hne : kids ≠ [] := fun e => by rw [e] at h28; simp at h28
    cases kids with
    | nil => exact absurd rfl hne
    | cons p r =>
      cases ls with
      | nil => simp at hls
      | cons a m =>
        have := (hk 0 (by simp) (by simp)).head
        simp only [List.getElem_cons_zero] at this
        obtain ⟨h1, h2⟩ := this
        cases a with
        | nil => exact absurd rfl h1
        | cons i a => exact ⟨by simp, by simpa [headPt, Pt.key] using h2⟩
theorem layPts_len : ∀ (C : List Nat) (ps : List Pt), (layPts C ps).2.length = ps.length
  | _, [] => by simp [layPts]
  | C, p :: r => by simp [layPts, layPts_len _ r]
mutual
theorem layPt_more : ∀ (C : List Nat) (p : Pt), ∃ m, (layPt C p).1 = C ++ m
  | C, .old .. => ⟨[], by simp [layPt]⟩
  | C, .leaf _ its => ⟨_, by simp only [layPt]; rfl⟩
  | C, .node _ kids => by
    obtain ⟨m, hm⟩ := layPts_more C kids
    exact ⟨m ++ recOf 2 (putNd (overNd kids (layPts C kids).2)), by simp only [layPt, hm, List.append_assoc]⟩
theorem layPts_more : ∀ (C : List Nat) (ps : List Pt), ∃ m, (layPts C ps).1 = C ++ m
  | C, [] => ⟨[], by simp [layPts]⟩
  | C, p :: r => by
    obtain ⟨m, hm⟩ := layPt_more C p
    obtain ⟨n, hn⟩ := layPts_more (layPt C p).1 r
    exact ⟨m ++ n, by simp only [layPts]; rw [hn, hm, List.append_assoc]⟩
end
theorem layPts_snoc : ∀ (C : List Nat) (ps : List Pt) (p : Pt), layPts C (ps ++ [p]) = ((layPt (layPts C ps).1 p).1, (layPts C ps).2 ++ [(layPt (layPts C ps).1 p).2])
  | C, [], p => by simp [layPts]
  | C, q :: r, p => by
    rw [List.cons_append, layPts, layPts_snoc (layPt C q).1 r p]
    simp [layPts]
theorem okPts_at : ∀ {C : List Nat} {ps : List Pt}, okPts C ps → ∀ k (h : k < ps.length), okPt (layPts C (ps.take k)).1 ps[k]
  | C, p :: r, ho, 0, _ => by simp only [okPts] at ho; simpa [layPts] using ho.1
  | C, p :: r, ho, k + 1, h => by
    simp only [okPts] at ho
    have := okPts_at ho.2 k (by simpa using h)
    simpa [layPts] using this
theorem nodesPts_snoc : ∀ (ps : List Pt) (p : Pt), nodesPts (ps ++ [p]) = nodesPts ps + nodesPt p
  | [], p => by simp [nodesPts]
  | q :: r, p => by
    rw [List.cons_append, nodesPts, nodesPts_snoc r p, nodesPts]
    omega
theorem nodesPts_take : ∀ (ps : List Pt) (k : Nat), nodesPts (ps.take k) ≤ nodesPts ps
  | [], k => by simp [nodesPts]
  | p :: r, 0 => by simp [nodesPts]
  | p :: r, k + 1 => by
    simp only [List.take_succ_cons, nodesPts]
    have := nodesPts_take r k
    omega
def Laid (Z : List Nat) (h : Nat) (root : Bool) (C : List Nat) (d : NKd) (l : List NIt) : Prop := docT (Z ++ C) h d.off d.ct root = some (l, h) ∧ d.ct = l.length
theorem lay_kids {Z : List Nat} {h : Nat} (ih : ∀ (p : Pt) (C : List Nat) (l : List NIt), okPt C p → Rep h false p l → l.Pairwise BelowIt → Laid Z h false (layPt C p).1 (layPt C p).2 l) :
    ∀ (ps : List Pt) (C : List Nat) (ls : List (List NIt)), okPts C ps → ls.length = ps.length → (∀ i (hi : i < ps.length) (hi' : i < ls.length), Rep h false ps[i] ls[i]) → (∀ l ∈ ls, l.Pairwise BelowIt) →
      (∀ i (hi : i < (layPts C ps).2.length) (hi' : i < ls.length), Laid Z h false (layPts C ps).1 (layPts C ps).2[i] ls[i]) ∧ sumK (layPts C ps).2 = ls.flatten.length
  | [], C, ls, _, hl, _, _ => by
    obtain rfl : ls = [] := List.eq_nil_of_length_eq_zero (by simpa using hl)
    simp [layPts, sumK]
  | p :: r, C, [], _, hl, _, _ => by simp at hl
  | p :: r, C, a :: ls, ho, hl, hr, hp => by
    simp only [okPts] at ho
    have h1 := ih p C a ho.1 (hr 0 (by simp) (by simp)) (hp a (by simp))
    obtain ⟨h2, h3⟩ := lay_kids ih r (layPt C p).1 ls ho.2 (by simpa using hl) (fun i hi hi' => hr (i + 1) (by simpa using hi) (by simpa using hi')) (fun l hl => hp l (List.mem_cons_of_mem _ hl))
    obtain ⟨m, hm⟩ := layPts_more (layPt C p).1 r
    simp only [layPts]
    refine ⟨fun i hi hi' => ?_, ?_⟩
    · cases i with
      | zero =>
        simp only [List.getElem_cons_zero]
        refine ⟨?_, h1.2⟩
        rw [hm, ← List.append_assoc]
        exact docT_more m h1.1
      | succ i =>
        simp only [List.getElem_cons_succ]
        exact h2 i (by simpa using hi) (by simpa using hi')
    · rw [sumK, h3, h1.2, List.flatten_cons, List.length_append]
theorem lay_doc {Z : List Nat} (hZ : Z.length = 256) : ∀ (h : Nat) (root : Bool) (p : Pt) (C : List Nat) (l : List NIt), okPt C p → Rep h root p l → l.Pairwise BelowIt → Laid Z h root (layPt C p).1 (layPt C p).2 l
  | 0, _, _, _, _, _, hr, _ => by simp [Rep] at hr
  | _ + 1, _, .old .., _, _, _, hr, _ => by simp [Rep] at hr
  | h + 1, root, .leaf k its, C, l, ho, hr, hp => by
    simp only [Rep] at hr
    obtain ⟨rfl, rfl, hne, rfl, h4, _⟩ := hr
    simp only [okPt] at ho
    simp only [layPt]
    have hn := nodeIn_new (K := Z ++ C) (n := lfOf l) [] (by rw [List.length_append]; omega) ho.2 ho.1
    have e : putNd (lfOf l) = ndOf (lfOf l) := by unfold putNd; rw [if_pos ho.1]
    rw [List.append_nil, ← e, List.length_append, hZ, List.append_assoc] at hn
    exact ⟨docT_leaf hn rfl h4, rfl⟩
  | h + 1, root, .node k kids, C, l, ho, hr, hp => by
    simp only [Rep] at hr
    obtain ⟨rfl, h28, h4, ls, hls, rfl, hk⟩ := hr
    have hne : kids ≠ [] := fun e => by rw [e] at h28; simp at h28
    simp only [okPt] at ho
    obtain ⟨h1, h2⟩ := lay_kids (Z := Z) (fun p C l => lay_doc hZ h false p C l) kids C ls ho.1 hls hk (fun a ha => by
      exact hp.sublist (List.sublist_flatten_of_mem ha))
    simp only [layPt]
    have hlen := layPts_len C kids
    have hn := nodeIn_new (K := Z ++ (layPts C kids).1) (n := overNd kids (layPts C kids).2) [] (by rw [List.length_append]; omega) ho.2.2 ho.2.1
    have e : putNd (overNd kids (layPts C kids).2) = ndOf (overNd kids (layPts C kids).2) := by unfold putNd; rw [if_pos ho.2.1]
    rw [List.append_nil, ← e, List.length_append, hZ, List.append_assoc] at hn
    refine ⟨docT_inner (ls := ls) hn rfl (by simpa [overNd] using h4) ⟨by simp [overNd, hlen, hls], fun i hi hi' => ?_⟩ hp (fun e => by rw [e] at hls; exact hne (List.eq_nil_of_length_eq_zero (by simpa using hls.symm))), h2⟩
    have hik : i < kids.length := by omega
    have hid : i < (layPts C kids).2.length := by omega
    simp only [overNd, List.getElem_zip, List.getElem_map]
    refine ⟨?_, (hk i hik hi').head.2⟩
    have := (h1 i hid hi').1
    rw [← List.append_assoc]
    exact docT_more _ this
end Go.By
/- Batches in a program: a row of items is made parts. -/
namespace Go.Proofs.YtlagllhhahomlaaGreat.Sl.Nd
open Go Go.RowKit Go.By Lf
def PtRow (w0 w : World) (v : Value) (ps : List Pt) : Prop :=
  ∃ css : List (List Value), css.length = ps.length ∧ w.ownsRow w0.heap.size 113 8 v ps.length css.flatten ∧ ∀ i (h : i < css.length) (h' : i < ps.length), PtIs w0 css[i] ps[i]
theorem PtRow.nil (w0 w : World) : PtRow w0 w (.slice none 0 0) [] := ⟨[], rfl, World.ownsRow_nil _ _ _ _, fun _i h => absurd h (Nat.not_lt_zero _)⟩
theorem pt_one {w : World} {cs : List Value} {p : Pt} (h : PtIs w cs p) : ∀ u ∈ cs, u.oneCell' = true := by
  have hb : ∀ {v : Value} {l : List Nat}, Bytes w v l → v.oneCell' = true := fun h => by obtain ⟨q, c, rfl, -⟩ := h.any; rfl
  intro u hu
  cases h <;> simp only [List.mem_cons, List.not_mem_nil, or_false] at hu <;> rcases hu with rfl | rfl | rfl | rfl | rfl | rfl | rfl | rfl <;> first | rfl | exact hb (by assumption)
theorem PtRow.at_ {w0 w : World} {v : Value} {ps : List Pt} (h : PtRow w0 w v ps) (hb : Below w0.heap.size w0 w) : ∃ p c, v = .slice p ps.length c ∧ RowAt KPt w p c ps := by
  obtain ⟨css, h1, h2, h3⟩ := h
  obtain ⟨p, c, rfl, q1, q2, q3⟩ := owns_at h2 (by decide)
  refine ⟨p, c, rfl, q1, q2, fun i hi => ?_⟩
  have hi' : i < css.length := by omega
  have h8 : ∀ cs ∈ css, cs.length = 8 := fun cs hcs => by
    obtain ⟨j, hj, rfl⟩ := List.getElem_of_mem hcs
    exact (h3 j hj (by omega)).len
  have hl : css[i].length = 8 := (h3 i hi' hi).len
  have hc := fun j (hj : j < 8) => q3 (i * 8 + j) css[i][j] ((flat_at h8 hi' hj).trans (List.getElem?_eq_getElem (by omega)))
  obtain ⟨g, rfl, -⟩ := hc 0 (by decide)
  refine ⟨g, 0, css[i], rfl, fun j hj => ?_, (h3 i hi' hi).stays hb⟩
  obtain ⟨g', e, h⟩ := hc j (by omega)
  cases e
  simpa [KPt, Nat.add_assoc] using h
theorem PtRow.push {w0 w : World} {v : Value} {ps : List Pt} {cs : List Value} {p : Pt} (h : PtRow w0 w v ps) (hn : ps.length ≤ 1000000) (hp : PtIs w0 cs p) (hB : w0.heap.size ≤ w.heap.size) :
    ∃ v' w', (Builtin.append_ #[107, 107] 107 #[v, .slice (some ⟨w.heap.size, 0, none⟩) 1 1]).run Tryz.prog (w.alloc (.cells cs.toArray 113)) = .ok v' w' ∧ PtRow w0 w' v' (ps ++ [p]) ∧ Grows w w' v v' := by
  obtain ⟨css, h1, h2, h3⟩ := h
  obtain ⟨i, hi, hz, hs, hby⟩ := info_part
  obtain ⟨v', w', hr, ho, hg⟩ := run_append_grows (P := Tryz.prog) (w := w.alloc (.cells cs.toArray 113)) 107 (t := 107) (e := 113) (by kernel_rfl) hi hz hs hby rfl (by decide) w0.heap.size v ps.length css.flatten (h2.alloc _) w.heap.size 0 1 1 cs (by rw [hp.len]) (fun j u hu => by
    rw [Nat.zero_add]
    have := cells_of (heap_alloc_new w (.cells cs.toArray 113)) j
    rw [this]
    simpa using hu) (pt_one hp) (by unfold maxLen; omega) (by omega) (by simp; omega)
  refine ⟨v', w', hr, ⟨css ++ [cs], by simp [h1], by simpa using ho, fun j hj hj' => ?_⟩, (Grows.alloc w v _).trans hg⟩
  by_cases hlt : j < css.length
  · rw [List.getElem_append_left hlt, List.getElem_append_left (by omega)]
    exact h3 j hlt (by omega)
  · obtain rfl : j = css.length := by simp at hj; omega
    rw [List.getElem_append_right (Nat.le_refl _), List.getElem_append_right (by omega)]
    simp only [h1, Nat.sub_self, List.getElem_singleton]
    exact hp
theorem ty_part : 113 ≠ 111 ∧ 3 ≠ 111 ∧ 113 ≠ 3 := by decide
theorem sum_take_lt {gs : List Nat} {k : Nat} (h : k < gs.length) : (gs.take (k + 1)).sum = (gs.take k).sum + gs[k] := by
  rw [List.take_succ_eq_append_getElem h, List.sum_append, List.sum_singleton]
theorem sum_take_le : ∀ (gs : List Nat) (k : Nat), (gs.take k).sum ≤ gs.sum
  | [], k => by simp
  | g :: gs, 0 => by simp
  | g :: gs, k + 1 => by simp [sum_take_le gs k]
end Go.Proofs.YtlagllhhahomlaaGreat.Sl.Nd
/- Batches in a program: a row of parts is made parts. -/
namespace Go.By
open Go Go.RowKit
theorem PtIs.keyB {w : World} {cs : List Value} {p : Pt} (h : PtIs w cs p) : ∃ kv rest, cs = kv :: rest ∧ Bytes w kv p.key := by
  cases h with
  | old hk hl hb hn => exact ⟨_, _, rfl, hk⟩
  | leaf hk hi => exact ⟨_, _, rfl, hk⟩
  | node css hk hle hc hat hp => exact ⟨_, _, rfl, hk⟩
end Go.By
namespace Go.Proofs.YtlagllhhahomlaaGreat.Sl.Nd
open Go Go.RowKit Go.By Lf
theorem ptT : RowT Tryz.prog 107 8 := ⟨by kernel_rfl, fun w => by kernel_rfl⟩
end Go.Proofs.YtlagllhhahomlaaGreat.Sl.Nd
/- Batches in a program: a row of parts is made parts over them; what is told of them stands whatever becomes of blocks below a bound, and of one. -/
namespace Go.By
open Go Go.RowKit
theorem rowAt_fromA {α : Type} {K : Kind α} {P : Program} {t : TypeId} (T : RowT P t K.width) {w : World} {lb lo cap : Nat} {xs : List α} (h : RowAt K w (some ⟨lb, lo, none⟩) cap xs) (n : Nat) (N : Int) (hN : N = n) (hn : n ≤ xs.length) :
    ∃ lo' c, (∀ w0 : World, (Instr.slice t (.slice (some ⟨lb, lo, none⟩) xs.length cap) (some (.int .i64 N)) none none).run P w0 = .ok (.slice (some ⟨lb, lo', none⟩) (xs.drop n).length c) w0) ∧ RowAt K w (some ⟨lb, lo', none⟩) c (xs.drop n) := by
  subst hN
  have hr := fun w0 => run_slice_l (P := P) w0 t (some ⟨lb, lo, none⟩) xs.length cap T.slice .i64 (n : Int) (by have := h.le; omega) (by omega)
  have e2 : (n : Int).toNat = n := by omega
  simp only [T.size, Result.andThen, e2, sliced] at hr
  have hle := h.le
  by_cases hc : cap = n
  · refine ⟨lo, cap - n, fun w0 => by rw [hr, if_pos hc, List.length_drop], by rw [List.length_drop]; omega, by have := h.most; omega, fun i hi => ?_⟩
    rw [List.length_drop] at hi; omega
  · refine ⟨lo + n * K.width, cap - n, fun w0 => by rw [hr, if_neg hc, List.length_drop]; simp [Addr.add], by rw [List.length_drop]; omega, by have := h.most; omega, fun i hi => ?_⟩
    rw [List.length_drop] at hi
    obtain ⟨lb', lo', cs, e, h1, h2⟩ := h.at_ (n + i) (by omega)
    cases e
    refine ⟨lb, lo + n * K.width, cs, rfl, ?_, by simpa using h2⟩
    have e : lo + n * K.width + i * K.width = lo + (n + i) * K.width := by rw [Nat.add_mul]; omega
    rw [e]
    exact h1
structure Keep (B A : Nat) (w w' : World) : Prop where
  size : w.heap.size ≤ w'.heap.size
  block : ∀ k, k < w.heap.size → B ≤ k → k ≠ A → w'.heap[k]? = w.heap[k]?
theorem Keep.refl (B A : Nat) (w : World) : Keep B A w w := ⟨Nat.le_refl _, fun _ _ _ _ => rfl⟩
theorem Keep.of_below {B A : Nat} {w w' : World} (h : Below w.heap.size w w') : Keep B A w w' := ⟨h.size, fun k hk _ _ => h.block k hk⟩
theorem Keep.of_only {B A : Nat} {w w' : World} (h : Only A w w') : Keep B A w w' := ⟨h.size, fun k hk _ hne => h.block k hk hne⟩
theorem Keep.trans {B A : Nat} {w w1 w2 : World} (h : Keep B A w w1) (k : Keep B A w1 w2) : Keep B A w w2 :=
  ⟨Nat.le_trans h.size k.size, fun j hj hB hA => (k.block j (Nat.lt_of_lt_of_le hj h.size) hB hA).trans (h.block j hj hB hA)⟩
theorem cell_heap {w w' : World} {g i : Nat} (h : w'.heap[g]? = w.heap[g]?) : w'.cell? ⟨g, i, none⟩ = w.cell? ⟨g, i, none⟩ := by
  unfold World.cell?
  simp only [h]
def KeepK {α : Type} (K : Kind α) (B A : Nat) : Kind α where
  width := K.width
  is w cs x := ∀ W', Keep B A w W' → K.is W' cs x
  len h := K.len (h _ (Keep.refl ..))
  stays h hb W' ho := h W' ((Keep.of_below hb).trans ho)
theorem rowK_plain {α : Type} {K : Kind α} {B A : Nat} {w : World} {p : Option Addr} {c : Nat} {xs : List α} (h : RowAt (KeepK K B A) w p c xs) : RowAt K w p c xs := by
  refine ⟨h.le, h.most, fun i hi => ?_⟩
  obtain ⟨lb, lo, cs, e, h1, h2⟩ := h.at_ i hi
  exact ⟨lb, lo, cs, e, h1, h2 _ (Keep.refl ..)⟩
theorem rowK_keep {α : Type} {K : Kind α} {B A : Nat} {w w' : World} {lb lo c : Nat} {xs : List α} (h : RowAt (KeepK K B A) w (some ⟨lb, lo, none⟩) c xs) (hl : B ≤ lb ∧ lb ≠ A) (hk : Keep B A w w') : RowAt (KeepK K B A) w' (some ⟨lb, lo, none⟩) c xs := by
  refine ⟨h.le, h.most, fun i hi => ?_⟩
  obtain ⟨lb', lo', cs, e, h1, h2⟩ := h.at_ i hi
  cases e
  exact ⟨lb, lo, cs, rfl, fun j hj => (cell_heap (hk.block lb (block_lt_of_cell (h1 j hj)) hl.1 hl.2)).trans (h1 j hj), fun W' ho => h2 W' (hk.trans ho)⟩
theorem KItem.keyB {w : World} {cs : List Value} {i : NIt} (h : KItem.is w cs i) : ∃ kv rest, cs = kv :: rest ∧ Bytes w kv i.k := by
  obtain ⟨a, b, rfl, h1, _⟩ := h
  exact ⟨_, _, rfl, h1⟩
end Go.By
namespace Go.Proofs.YtlagllhhahomlaaGreat.Sl.Nd
open Go Go.RowKit Go.By Lf
def TookItsK (w0 : World) (g : Nat) (kv : Value) (B A lb lo ci : Nat) (its : List NIt) (n : Nat) (w : World) (z : Ending) (w' : World) : Prop :=
  ∃ x lo' c, z = .returned (partV x 0 (.slice (some ⟨lb, lo, none⟩) (its.take n).length ci) (.slice none 0 0)) ∧ (∀ (h : 0 < its.length) W', Keep B A w0 W' → Bytes W' x its[0].k) ∧ RowAt (KeepK KItem B A) w0 (some ⟨lb, lo, none⟩) ci (its.take n) ∧ RowAt (KeepK KItem B A) w0 (some ⟨lb, lo', none⟩) c (its.drop n) ∧ w'.heap[g]? = some (.cells #[.slice (some ⟨lb, lo', none⟩) (its.drop n).length c, kv] 111 (0, 0)) ∧ Only g w w'
set_option maxRecDepth 100000 in
set_option maxHeartbeats 1000000 in
theorem takeItems_K {w0 w : World} {g n B A lb lo : Nat} {pk : Option Addr} {ci nk ck : Nat} {its : List NIt} (hi : RowAt (KeepK KItem B A) w0 (some ⟨lb, lo, none⟩) ci its) (hb : Below w0.heap.size w0 w) (hg0 : w0.heap.size ≤ g) (hg : w.heap[g]? = some (.cells #[.slice (some ⟨lb, lo, none⟩) its.length ci, .slice pk nk ck] 111 (0, 0))) (h1 : 1 ≤ n) (hn : n ≤ its.length) :
    Calls Tryz.prog 119 #[.pointer (some ⟨g, 0, none⟩), .int .i64 (n : Nat)] w (TookItsK w0 g (.slice pk nk ck) B A lb lo ci its n w) := by
  obtain ⟨hr1, hr2⟩ := hi.upto itT n n rfl hn
  obtain ⟨lo', c, hr3, hr4⟩ := rowAt_fromA itT hi n n rfl hn
  have hl9 : (its.length : Int) ≤ 9223372036854775807 := by have := hi.le; have := hi.most; unfold maxLen at this; omega
  obtain ⟨lb0, lo0, cs, hpi, hc, hpt⟩ := hi.at_ 0 (by omega)
  obtain ⟨rfl, rfl⟩ : lb = lb0 ∧ lo = lo0 := by cases hpi; exact ⟨rfl, rfl⟩
  obtain ⟨va, rest, rfl, ha⟩ := KItem.keyB (hpt _ (Keep.refl ..))
  have haA : ∀ W', Keep B A w0 W' → Bytes W' va its[0].k := fun W' ho => by
    obtain ⟨va', rest', e, h⟩ := KItem.keyB (hpt W' ho)
    cases e
    exact h
  simp only [Nat.zero_mul, Nat.add_zero] at hc
  have e0 : w0.cell? ⟨lb, lo, none⟩ = some va := by have h := hc 0 (by simp); exact h
  have hlb : lb < w0.heap.size := block_lt_of_cell e0
  obtain ⟨W1, hW1⟩ : ∃ W1, W1 = w.alloc (.cells #[.slice none 0 0, .int .i64 0, .int .u64 0, .int .i64 0, .slice none 0 0, .slice none 0 0, .slice none 0 0, .slice none 0 0] 113) := ⟨_, rfl⟩
  have hbW : Below w.heap.size w W1 := by rw [hW1]; exact (Below.refl _ _).alloc (Nat.le_refl _) _
  have hgl : g < w.heap.size := (Array.getElem?_eq_some_iff.1 hg).1
  have hg1 : W1.heap[g]? = some (.cells #[.slice (some ⟨lb, lo, none⟩) its.length ci, .slice pk nk ck] 111 (0, 0)) := (hbW.block _ hgl).trans hg
  have hA1 : W1.heap[w.heap.size]? = some (.cells #[.slice none 0 0, .int .i64 0, .int .u64 0, .int .i64 0, .slice none 0 0, .slice none 0 0, .slice none 0 0, .slice none 0 0] 113 (0, 0)) := by rw [hW1]; exact heap_alloc_new w _
  have c0 : W1.cell? ⟨g, 0, none⟩ = some (.slice (some ⟨lb, lo, none⟩) its.length ci) := cells_of hg1 0
  have q0 := free_of hg1 0
  have hT1 : (its.take n).length = n := by rw [List.length_take]; omega
  rw [hT1] at hr1
  have hT2 : 0 < n := by omega
  obtain ⟨D, hD⟩ : ∃ D, D = (its.drop n).length := ⟨_, rfl⟩
  rw [← hD] at hr3
  obtain ⟨W2, hW2⟩ : ∃ W2, W2 = W1.setCell ⟨g, 0, none⟩ (.slice (some ⟨lb, lo', none⟩) D c) := ⟨_, rfl⟩
  have hbw2 : Below w0.heap.size w0 W2 := by rw [hW2]; exact (hb.trans (hbW.mono hb.size)).setCell (p := ⟨g, 0, none⟩) hg0 _
  have e1 : W2.cell? ⟨lb, lo, none⟩ = some va := (hbw2.cell (p := ⟨lb, lo, none⟩) hlb).trans e0
  have hne : w.heap.size ≠ g := by omega
  have hA2 : W2.heap[w.heap.size]? = some (.cells #[.slice none 0 0, .int .i64 0, .int .u64 0, .int .i64 0, .slice none 0 0, .slice none 0 0, .slice none 0 0, .slice none 0 0] 113 (0, 0)) := by rw [hW2]; exact (Below.heap_setCell _ _ _ _ (by show _ ≠ g; exact hne)).trans hA1
  have hg2 : W2.heap[g]? = some (.cells #[.slice (some ⟨lb, lo', none⟩) D c, .slice pk nk ck] 111 (0, 0)) := by rw [hW2]; exact heap_setCell_same _ g 0 _ _ _ hg1
  have hav := ha.any
  have HX := Lib.hid (fun (_ : Unit) => set8_at (a := va) (b := .int .i64 0) (c := .int .u64 0) (d := .int .i64 0) (e := .slice none 0 0) (f := .slice none 0 0) (g := .slice (some ⟨lb, lo, none⟩) n ci) (h := .slice none 0 0) hA2)
  have HF : Hid (TookItsK w0 g (.slice pk nk ck) B A lb lo ci its n w (.returned (partV va 0 (.slice (some ⟨lb, lo, none⟩) n ci) (.slice none 0 0))) (set8 W2 w.heap.size va (.int .i64 0) (.int .u64 0) (.int .i64 0) (.slice none 0 0) (.slice none 0 0) (.slice (some ⟨lb, lo, none⟩) n ci) (.slice none 0 0))) := by
    have ho := set8_only W2 w.heap.size va (.int .i64 0) (.int .u64 0) (.int .i64 0) (.slice none 0 0) (.slice none 0 0) (.slice (some ⟨lb, lo, none⟩) n ci) (.slice none 0 0)
    have hs2 : W2.heap.size = w.heap.size + 1 := by rw [hW2, hW1]; simp [World.setCell]
    refine ⟨va, lo', c, by rw [hT1], fun _ => haA, hr2, hr4, by rw [ho.block g (by omega) (fun e => hne e.symm), ← hD]; exact hg2, ?_⟩
    have h12 : Only g W1 W2 := by rw [hW2]; exact Only.set g 0 W1 _
    have ho2 : Only g w W2 := (Only.of_below hbW).trans h12
    exact ⟨ho.os.trans ho2.os, ho.tape.trans ho2.tape, ho.output.trans ho2.output, Nat.le_trans ho2.size ho.size, fun k hk hkg => (ho.block k (by omega) (by omega)).trans (ho2.block k hk hkg)⟩
  have c2 : W2.cell? ⟨w.heap.size, 0, none⟩ = some (.slice none 0 0) := cells_of hA2 0
  have c3 : W2.cell? ⟨w.heap.size, 1, none⟩ = some (.int .i64 0) := cells_of hA2 1
  have c4 : W2.cell? ⟨w.heap.size, 2, none⟩ = some (.int .u64 0) := cells_of hA2 2
  have c5 : W2.cell? ⟨w.heap.size, 3, none⟩ = some (.int .i64 0) := cells_of hA2 3
  have c6 : W2.cell? ⟨w.heap.size, 4, none⟩ = some (.slice none 0 0) := cells_of hA2 4
  have c7 : W2.cell? ⟨w.heap.size, 5, none⟩ = some (.slice none 0 0) := cells_of hA2 5
  have c8 : W2.cell? ⟨w.heap.size, 6, none⟩ = some (.slice none 0 0) := cells_of hA2 6
  have c9 : W2.cell? ⟨w.heap.size, 7, none⟩ = some (.slice none 0 0) := cells_of hA2 7
  have f0 := free_of hA2 0; have f1 := free_of hA2 1; have f2 := free_of hA2 2; have f3 := free_of hA2 3; have f4 := free_of hA2 4; have f5 := free_of hA2 5; have f6 := free_of hA2 6; have f7 := free_of hA2 7
  clear hi hb hg0 hg hr2 hr4 hc e0 hlb hbW hgl hg1 hA1 hT1 hD hbw2 hne hA2 hg2 ha hpt
  obtain ⟨qv, cv, rfl, -⟩ := hav
  generalize its[0].k.length = lv at *
  clear hpi haA
  subst hW2
  subst hW1
  generalize its.length = L at *
  go_enter Tryz.func119, Tryz.ntmps119
  go_wp2
  exact bodyPost_ret (cell_ret1 (p := 4) (ty := 113) (n := 8) (by kernel_rfl) (by kernel_rfl) (by kernel_rfl) rfl (HX.out ()) rfl) rfl HF.out
end Go.Proofs.YtlagllhhahomlaaGreat.Sl.Nd
/- Batches in a program: parts whose rows lie from a bound on: what is told of them stands whatever becomes of older blocks, and of one. -/
namespace Go.By
open Go Go.RowKit
inductive PtB (B A : Nat) (w : World) : List Value → Pt → Prop where
  | leaf {kv : Value} {lb lo c : Nat} {key : List Nat} {its : List NIt} (hk : ∀ W', Keep B A w W' → Bytes W' kv key) (hi : RowAt (KeepK KItem B A) w (some ⟨lb, lo, none⟩) c its) (hl : B ≤ lb ∧ lb ≠ A) (h0 : 0 < its.length) :
      PtB B A w [kv, .int .i64 0, .int .u64 0, .int .i64 0, .slice none 0 0, .slice none 0 0, .slice (some ⟨lb, lo, none⟩) its.length c, .slice none 0 0] (.leaf key its)
  | node {kv : Value} {lb lo c : Nat} {key : List Nat} {kids : List Pt} (css : Nat → List Value) (hk : ∀ W', Keep B A w W' → Bytes W' kv key) (hle : kids.length ≤ c) (hc : c ≤ maxLen) (hl : B ≤ lb ∧ lb ≠ A) (h0 : 0 < kids.length)
      (hat : ∀ i, i < kids.length → ∀ j (hj : j < (css i).length), w.cell? ⟨lb, lo + i * 8 + j, none⟩ = some (css i)[j]) (hp : ∀ i (h : i < kids.length), PtB B A w (css i) kids[i]) :
      PtB B A w [kv, .int .i64 0, .int .u64 0, .int .i64 0, .slice none 0 0, .slice none 0 0, .slice none 0 0, .slice (some ⟨lb, lo, none⟩) kids.length c] (.node key kids)
theorem PtB.len {B A : Nat} {w : World} {cs : List Value} {p : Pt} (h : PtB B A w cs p) : cs.length = 8 := by cases h <;> rfl
theorem PtB.plain {B A : Nat} {w : World} {cs : List Value} {p : Pt} (h : PtB B A w cs p) : PtIs w cs p := by
  induction h with
  | leaf hk hi hl h0 => exact .leaf (hk _ (Keep.refl ..)) (rowK_plain hi)
  | node css hk hle hc hl h0 hat hp ih => exact .node css (hk _ (Keep.refl ..)) hle hc (fun i hi => ⟨_, _, rfl, hat i hi⟩) ih
theorem PtB.keyB {B A : Nat} {w : World} {cs : List Value} {p : Pt} (h : PtB B A w cs p) : ∃ kv rest, cs = kv :: rest ∧ ∀ W', Keep B A w W' → Bytes W' kv p.key := by
  cases h with
  | leaf hk hi hl h0 => exact ⟨_, _, rfl, hk⟩
  | node css hk hle hc hl h0 hat hp => exact ⟨_, _, rfl, hk⟩
structure Goes (B A A' : Nat) (w w' : World) : Prop where
  keep : ∀ W, Keep B A' w' W → Keep B A w W
  same : ∀ lb, B ≤ lb → lb ≠ A → lb < w.heap.size → w'.heap[lb]? = w.heap[lb]? ∧ lb ≠ A'
theorem Goes.of_keep {B A : Nat} {w w' : World} (h : Keep B A w w') : Goes B A A w w' := ⟨fun _W hW => h.trans hW, fun lb h1 h2 h3 => ⟨h.block lb h3 h1 h2, h2⟩⟩
theorem Goes.of_new {B A : Nat} (_hB : 0 < B) {w w1 : World} (hb : Below w.heap.size w w1) (hA : w.heap.size ≤ A) : Goes B 0 A w w1 :=
  ⟨fun W ho => ⟨Nat.le_trans hb.size ho.size, fun k hk hkB _ => (ho.block k (Nat.lt_of_lt_of_le hk hb.size) hkB (by omega)).trans (hb.block k hk)⟩, fun lb _ _ h3 => ⟨hb.block lb h3, by omega⟩⟩
theorem Goes.back {B A : Nat} (hB : 0 < B) {w w' : World} (h : Keep B A w w') : Goes B A 0 w w' :=
  ⟨fun W ho => ⟨Nat.le_trans h.size ho.size, fun k hk hkB hkA => (ho.block k (Nat.lt_of_lt_of_le hk h.size) hkB (by omega)).trans (h.block k hk hkB hkA)⟩, fun lb h1 h2 h3 => ⟨h.block lb h3 h1 h2, by omega⟩⟩
theorem rowK_goes {α : Type} {K : Kind α} {B A A' : Nat} {w w' : World} {lb lo c : Nat} {xs : List α} (h : RowAt (KeepK K B A) w (some ⟨lb, lo, none⟩) c xs) (hl : B ≤ lb ∧ lb ≠ A) (hg : Goes B A A' w w') : RowAt (KeepK K B A') w' (some ⟨lb, lo, none⟩) c xs := by
  refine ⟨h.le, h.most, fun i hi => ?_⟩
  obtain ⟨lb', lo', cs, e, h1, h2⟩ := h.at_ i hi
  cases e
  exact ⟨lb, lo, cs, rfl, fun j hj => (cell_heap (hg.same lb hl.1 hl.2 (block_lt_of_cell (h1 j hj))).1).trans (h1 j hj), fun W' ho => h2 W' (hg.keep W' ho)⟩
theorem PtB.goes {B A A' : Nat} {w w' : World} {cs : List Value} {p : Pt} (h : PtB B A w cs p) (hg : Goes B A A' w w') : PtB B A' w' cs p := by
  induction h with
  | @leaf kv lb lo c key its hk hi hl h0 =>
    obtain ⟨lb', lo', cs, e, h1, h2⟩ := hi.at_ 0 h0
    cases e
    have hlt := block_lt_of_cell (h1 0 (by rw [(KeepK KItem B A).len h2]; show 0 < 2; decide))
    exact .leaf (fun W' ho => hk W' (hg.keep W' ho)) (rowK_goes hi hl hg) ⟨hl.1, (hg.same _ hl.1 hl.2 hlt).2⟩ h0
  | @node kv lb lo c key kids css hk hle hc hl h0 hat hp ih =>
    have hlt := block_lt_of_cell (hat 0 h0 0 (by rw [(hp 0 h0).len]; decide))
    exact .node css (fun W' ho => hk W' (hg.keep W' ho)) hle hc ⟨hl.1, (hg.same _ hl.1 hl.2 hlt).2⟩ h0 (fun i hi j hj => (cell_heap (hg.same _ hl.1 hl.2 hlt).1).trans (hat i hi j hj)) ih
def KPtB (B A : Nat) : Kind Pt where
  width := 8
  is w cs p := PtB B A w cs p
  len h := h.len
  stays h hb := h.goes (.of_keep (Keep.of_below hb))
theorem rowB_goes {B A A' : Nat} {w w' : World} {lb lo c : Nat} {xs : List Pt} (h : RowAt (KPtB B A) w (some ⟨lb, lo, none⟩) c xs) (hl : B ≤ lb ∧ lb ≠ A) (hg : Goes B A A' w w') : RowAt (KPtB B A') w' (some ⟨lb, lo, none⟩) c xs := by
  refine ⟨h.le, h.most, fun i hi => ?_⟩
  obtain ⟨lb', lo', cs, e, h1, h2⟩ := h.at_ i hi
  cases e
  exact ⟨lb, lo, cs, rfl, fun j hj => (cell_heap (hg.same lb hl.1 hl.2 (block_lt_of_cell (h1 j hj))).1).trans (h1 j hj), h2.goes hg⟩
theorem PtB.leafB {B A : Nat} {w : World} {kv : Value} {lb lo c : Nat} {key : List Nat} {its : List NIt} (hk : ∀ W', Keep B A w W' → Bytes W' kv key) (h : RowAt (KeepK KItem B A) w (some ⟨lb, lo, none⟩) c its) (hA : B ≤ lb ∧ lb ≠ A) (h0 : 0 < its.length) :
    PtB B A w [kv, .int .i64 0, .int .u64 0, .int .i64 0, .slice none 0 0, .slice none 0 0, .slice (some ⟨lb, lo, none⟩) its.length c, .slice none 0 0] (.leaf key its) := .leaf hk h hA h0
theorem PtB.overB {B A : Nat} {w : World} {kv : Value} {lb lo c : Nat} {key : List Nat} {kids : List Pt} (hk : ∀ W', Keep B A w W' → Bytes W' kv key) (h : RowAt (KPtB B A) w (some ⟨lb, lo, none⟩) c kids) (hA : B ≤ lb ∧ lb ≠ A) (h0 : 0 < kids.length) :
    PtB B A w [kv, .int .i64 0, .int .u64 0, .int .i64 0, .slice none 0 0, .slice none 0 0, .slice none 0 0, .slice (some ⟨lb, lo, none⟩) kids.length c] (.node key kids) := by
  have hx : ∀ i, ∃ cs : List Value, ∀ hi : i < kids.length, (∀ j (hj : j < cs.length), w.cell? ⟨lb, lo + i * 8 + j, none⟩ = some cs[j]) ∧ PtB B A w cs kids[i] := fun i => by
    by_cases hi : i < kids.length
    · obtain ⟨lb', lo', cs, e, h1, h2⟩ := h.at_ i hi
      cases e
      exact ⟨cs, fun _ => ⟨h1, h2⟩⟩
    · exact ⟨[], fun h => absurd h hi⟩
  exact .node (fun i => (hx i).choose) hk h.le h.most hA h0 (fun i hi => ((hx i).choose_spec hi).1) (fun i hi => ((hx i).choose_spec hi).2)
end Go.By
namespace Go.Proofs.YtlagllhhahomlaaGreat.Sl.Nd
open Go Go.RowKit Go.By Lf
def TookKidsB (w0 : World) (g : Nat) (kv : Value) (B A lb lo ci : Nat) (ks : List Pt) (n : Nat) (w : World) (z : Ending) (w' : World) : Prop :=
  ∃ x lo' c, z = .returned (partV x 0 (.slice none 0 0) (.slice (some ⟨lb, lo, none⟩) (ks.take n).length ci)) ∧ (∀ (h : 0 < ks.length) W', Keep B A w0 W' → Bytes W' x ks[0].key) ∧ RowAt (KPtB B A) w0 (some ⟨lb, lo, none⟩) ci (ks.take n) ∧ RowAt (KPtB B A) w0 (some ⟨lb, lo', none⟩) c (ks.drop n) ∧ w'.heap[g]? = some (.cells #[kv, .slice (some ⟨lb, lo', none⟩) (ks.drop n).length c] 111 (0, 0)) ∧ Only g w w'
set_option maxRecDepth 100000 in
set_option maxHeartbeats 1000000 in
theorem takeKids_B {w0 w : World} {g n B A lb lo : Nat} {pk : Option Addr} {ci nk ck : Nat} {ks : List Pt} (hi : RowAt (KPtB B A) w0 (some ⟨lb, lo, none⟩) ci ks) (hb : Below w0.heap.size w0 w) (hg0 : w0.heap.size ≤ g) (hg : w.heap[g]? = some (.cells #[.slice pk nk ck, .slice (some ⟨lb, lo, none⟩) ks.length ci] 111 (0, 0))) (h1 : 1 ≤ n) (hn : n ≤ ks.length) :
    Calls Tryz.prog 120 #[.pointer (some ⟨g, 0, none⟩), .int .i64 (n : Nat)] w (TookKidsB w0 g (.slice pk nk ck) B A lb lo ci ks n w) := by
  obtain ⟨hr1, hr2⟩ := hi.upto ptT n n rfl hn
  obtain ⟨lo', c, hr3, hr4⟩ := rowAt_fromA ptT hi n n rfl hn
  have hl9 : (ks.length : Int) ≤ 9223372036854775807 := by have := hi.le; have := hi.most; unfold maxLen at this; omega
  obtain ⟨lb0, lo0, cs, hpi, hc, hpt⟩ := hi.at_ 0 (by omega)
  obtain ⟨rfl, rfl⟩ : lb = lb0 ∧ lo = lo0 := by cases hpi; exact ⟨rfl, rfl⟩
  obtain ⟨va, rest, rfl, haA⟩ := hpt.keyB
  have ha := haA _ (Keep.refl ..)
  simp only [Nat.zero_mul, Nat.add_zero] at hc
  have e0 : w0.cell? ⟨lb, lo, none⟩ = some va := by have h := hc 0 (by simp); exact h
  have hlb : lb < w0.heap.size := block_lt_of_cell e0
  obtain ⟨W1, hW1⟩ : ∃ W1, W1 = w.alloc (.cells #[.slice none 0 0, .int .i64 0, .int .u64 0, .int .i64 0, .slice none 0 0, .slice none 0 0, .slice none 0 0, .slice none 0 0] 113) := ⟨_, rfl⟩
  have hbW : Below w.heap.size w W1 := by rw [hW1]; exact (Below.refl _ _).alloc (Nat.le_refl _) _
  have hgl : g < w.heap.size := (Array.getElem?_eq_some_iff.1 hg).1
  have hg1 : W1.heap[g]? = some (.cells #[.slice pk nk ck, .slice (some ⟨lb, lo, none⟩) ks.length ci] 111 (0, 0)) := (hbW.block _ hgl).trans hg
  have hA1 : W1.heap[w.heap.size]? = some (.cells #[.slice none 0 0, .int .i64 0, .int .u64 0, .int .i64 0, .slice none 0 0, .slice none 0 0, .slice none 0 0, .slice none 0 0] 113 (0, 0)) := by rw [hW1]; exact heap_alloc_new w _
  have c0 : W1.cell? ⟨g, 1, none⟩ = some (.slice (some ⟨lb, lo, none⟩) ks.length ci) := cells_of hg1 1
  have q0 := free_of hg1 1
  have hT1 : (ks.take n).length = n := by rw [List.length_take]; omega
  rw [hT1] at hr1
  have hT2 : 0 < n := by omega
  obtain ⟨D, hD⟩ : ∃ D, D = (ks.drop n).length := ⟨_, rfl⟩
  rw [← hD] at hr3
  obtain ⟨W2, hW2⟩ : ∃ W2, W2 = W1.setCell ⟨g, 1, none⟩ (.slice (some ⟨lb, lo', none⟩) D c) := ⟨_, rfl⟩
  have hbw2 : Below w0.heap.size w0 W2 := by rw [hW2]; exact (hb.trans (hbW.mono hb.size)).setCell (p := ⟨g, 1, none⟩) hg0 _
  have e1 : W2.cell? ⟨lb, lo, none⟩ = some va := (hbw2.cell (p := ⟨lb, lo, none⟩) hlb).trans e0
  have hne : w.heap.size ≠ g := by omega
  have hA2 : W2.heap[w.heap.size]? = some (.cells #[.slice none 0 0, .int .i64 0, .int .u64 0, .int .i64 0, .slice none 0 0, .slice none 0 0, .slice none 0 0, .slice none 0 0] 113 (0, 0)) := by rw [hW2]; exact (Below.heap_setCell _ _ _ _ (by show _ ≠ g; exact hne)).trans hA1
  have hg2 : W2.heap[g]? = some (.cells #[.slice pk nk ck, .slice (some ⟨lb, lo', none⟩) D c] 111 (0, 0)) := by rw [hW2]; exact heap_setCell_same _ g 1 _ _ _ hg1
  have hav := ha.any
  have HX := Lib.hid (fun (_ : Unit) => set8_at (a := va) (b := .int .i64 0) (c := .int .u64 0) (d := .int .i64 0) (e := .slice none 0 0) (f := .slice none 0 0) (g := .slice none 0 0) (h := .slice (some ⟨lb, lo, none⟩) n ci) hA2)
  have HF : Hid (TookKidsB w0 g (.slice pk nk ck) B A lb lo ci ks n w (.returned (partV va 0 (.slice none 0 0) (.slice (some ⟨lb, lo, none⟩) n ci))) (set8 W2 w.heap.size va (.int .i64 0) (.int .u64 0) (.int .i64 0) (.slice none 0 0) (.slice none 0 0) (.slice none 0 0) (.slice (some ⟨lb, lo, none⟩) n ci))) := by
    have ho := set8_only W2 w.heap.size va (.int .i64 0) (.int .u64 0) (.int .i64 0) (.slice none 0 0) (.slice none 0 0) (.slice none 0 0) (.slice (some ⟨lb, lo, none⟩) n ci)
    have hs2 : W2.heap.size = w.heap.size + 1 := by rw [hW2, hW1]; simp [World.setCell]
    refine ⟨va, lo', c, by rw [hT1], fun _ => haA, hr2, hr4, by rw [ho.block g (by omega) (fun e => hne e.symm), ← hD]; exact hg2, ?_⟩
    have h12 : Only g W1 W2 := by rw [hW2]; exact Only.set g 1 W1 _
    have ho2 : Only g w W2 := (Only.of_below hbW).trans h12
    exact ⟨ho.os.trans ho2.os, ho.tape.trans ho2.tape, ho.output.trans ho2.output, Nat.le_trans ho2.size ho.size, fun k hk hkg => (ho.block k (by omega) (by omega)).trans (ho2.block k hk hkg)⟩
  have c2 : W2.cell? ⟨w.heap.size, 0, none⟩ = some (.slice none 0 0) := cells_of hA2 0
  have c3 : W2.cell? ⟨w.heap.size, 1, none⟩ = some (.int .i64 0) := cells_of hA2 1
  have c4 : W2.cell? ⟨w.heap.size, 2, none⟩ = some (.int .u64 0) := cells_of hA2 2
  have c5 : W2.cell? ⟨w.heap.size, 3, none⟩ = some (.int .i64 0) := cells_of hA2 3
  have c6 : W2.cell? ⟨w.heap.size, 4, none⟩ = some (.slice none 0 0) := cells_of hA2 4
  have c7 : W2.cell? ⟨w.heap.size, 5, none⟩ = some (.slice none 0 0) := cells_of hA2 5
  have c8 : W2.cell? ⟨w.heap.size, 6, none⟩ = some (.slice none 0 0) := cells_of hA2 6
  have c9 : W2.cell? ⟨w.heap.size, 7, none⟩ = some (.slice none 0 0) := cells_of hA2 7
  have f0 := free_of hA2 0; have f1 := free_of hA2 1; have f2 := free_of hA2 2; have f3 := free_of hA2 3; have f4 := free_of hA2 4; have f5 := free_of hA2 5; have f6 := free_of hA2 6; have f7 := free_of hA2 7
  clear hi hb hg0 hg hr2 hr4 hc e0 hlb hbW hgl hg1 hA1 hT1 hD hbw2 hne hA2 hg2 ha hpt
  obtain ⟨qv, cv, rfl, -⟩ := hav
  generalize ks[0].key.length = lv at *
  clear hpi haA
  subst hW2
  subst hW1
  generalize ks.length = L at *
  go_enter Tryz.func120, Tryz.ntmps120
  go_wp2
  exact bodyPost_ret (cell_ret1 (p := 4) (ty := 113) (n := 8) (by kernel_rfl) (by kernel_rfl) (by kernel_rfl) rfl (HX.out ()) rfl) rfl HF.out
end Go.Proofs.YtlagllhhahomlaaGreat.Sl.Nd
/- Batches in a program: a row of parts is made parts over them. -/
namespace Go.Proofs.YtlagllhhahomlaaGreat.Sl.Nd
open Go Go.RowKit Go.By Lf
def partCellsK (x : Value) (pi : Option Addr) (n ci : Nat) : List Value := [x, .int .i64 0, .int .u64 0, .int .i64 0, .slice none 0 0, .slice none 0 0, .slice none 0 0, .slice pi n ci]
end Go.Proofs.YtlagllhhahomlaaGreat.Sl.Nd
/- Batches in a program: a row of parts is made parts over them, whatever becomes of one block: the loop. -/
namespace Go.Proofs.YtlagllhhahomlaaGreat.Sl.Nd
open Go Go.RowKit Go.By Lf
def PtRowK (B A : Nat) (w0 w : World) (v : Value) (ps : List Pt) : Prop :=
  ∃ css : List (List Value), css.length = ps.length ∧ w.ownsRow w0.heap.size 113 8 v ps.length css.flatten ∧ ∀ i (h : i < css.length) (h' : i < ps.length), PtB B A w0 css[i] ps[i]
theorem PtRowK.nil (B A : Nat) (w0 w : World) : PtRowK B A w0 w (.slice none 0 0) [] := ⟨[], rfl, World.ownsRow_nil _ _ _ _, fun _i h => absurd h (Nat.not_lt_zero _)⟩
theorem PtRowK.at_ {B A : Nat} {w0 w : World} {v : Value} {ps : List Pt} (h : PtRowK B A w0 w v ps) (hb : Below w0.heap.size w0 w) : ∃ p c, v = .slice p ps.length c ∧ RowAt (KPtB B A) w p c ps := by
  obtain ⟨css, h1, h2, h3⟩ := h
  obtain ⟨p, c, rfl, q1, q2, q3⟩ := owns_at h2 (by decide)
  refine ⟨p, c, rfl, q1, q2, fun i hi => ?_⟩
  have hi' : i < css.length := by omega
  have h8 : ∀ cs ∈ css, cs.length = 8 := fun cs hcs => by
    obtain ⟨j, hj, rfl⟩ := List.getElem_of_mem hcs
    exact (h3 j hj (by omega)).len
  have hl : css[i].length = 8 := (h3 i hi' hi).len
  have hc := fun j (hj : j < 8) => q3 (i * 8 + j) css[i][j] ((flat_at h8 hi' hj).trans (List.getElem?_eq_getElem (by omega)))
  obtain ⟨g, rfl, -⟩ := hc 0 (by decide)
  refine ⟨g, 0, css[i], rfl, fun j hj => ?_, (KPtB B A).stays (h3 i hi' hi) hb⟩
  obtain ⟨g', e, h⟩ := hc j (by omega)
  cases e
  simpa [KPtB, Nat.add_assoc] using h
theorem PtRowK.push {B A : Nat} {w0 w : World} {v : Value} {ps : List Pt} {cs : List Value} {p : Pt} (h : PtRowK B A w0 w v ps) (hn : ps.length ≤ 1000000) (hp : PtB B A w0 cs p) (hB : w0.heap.size ≤ w.heap.size) :
    ∃ v' w', (Builtin.append_ #[107, 107] 107 #[v, .slice (some ⟨w.heap.size, 0, none⟩) 1 1]).run Tryz.prog (w.alloc (.cells cs.toArray 113)) = .ok v' w' ∧ PtRowK B A w0 w' v' (ps ++ [p]) ∧ Grows w w' v v' := by
  obtain ⟨css, h1, h2, h3⟩ := h
  obtain ⟨i, hi, hz, hs, hby⟩ := info_part
  obtain ⟨v', w', hr, ho, hg⟩ := run_append_grows (P := Tryz.prog) (w := w.alloc (.cells cs.toArray 113)) 107 (t := 107) (e := 113) (by kernel_rfl) hi hz hs hby rfl (by decide) w0.heap.size v ps.length css.flatten (h2.alloc _) w.heap.size 0 1 1 cs (by rw [hp.len]) (fun j u hu => by
    rw [Nat.zero_add]
    have := cells_of (heap_alloc_new w (.cells cs.toArray 113)) j
    rw [this]
    simpa using hu) (pt_one hp.plain) (by unfold maxLen; omega) (by omega) (by simp; omega)
  refine ⟨v', w', hr, ⟨css ++ [cs], by simp [h1], by simpa using ho, fun j hj hj' => ?_⟩, (Grows.alloc w v _).trans hg⟩
  by_cases hlt : j < css.length
  · rw [List.getElem_append_left hlt, List.getElem_append_left (by omega)]
    exact h3 j hlt (by omega)
  · obtain rfl : j = css.length := by simp at hj; omega
    rw [List.getElem_append_right (Nat.le_refl _), List.getElem_append_right (by omega)]
    simp only [h1, Nat.sub_self, List.getElem_singleton]
    exact hp
def PartsToldK (B A : Nat) (w : World) (ps : List Pt) (z : Ending) (w' : World) : Prop := ∃ p c, z = .returned (.slice p ps.length c) ∧ RowAt (KPtB B A) w' p c ps ∧ (∀ g, p = some g → w.heap.size ≤ g.block) ∧ Below w.heap.size w w'
def PkLoopK (B A lb : Nat) (w : World) (gs : List Nat) (gv kv : Value) (ks : List Pt) (x i : Value) (W : World) : Prop :=
  ∃ (k lq c : Nat), k ≤ gs.length ∧ i = .int .i64 k ∧ PtRowK B A w W x ((cutBy (gs.take k) ks).map nodeOver) ∧ W.ownsRow w.heap.size 3 1 gv gs.length (intsC gs) ∧
    RowAt (KPtB B A) w (some ⟨lb, lq, none⟩) c (ks.drop (gs.take k).sum) ∧ W.heap[w.heap.size]? = some (.cells #[kv, .slice (some ⟨lb, lq, none⟩) (ks.drop (gs.take k).sum).length c] 111 (0, 0)) ∧ Below w.heap.size w W
set_option maxRecDepth 100000 in
set_option maxHeartbeats 4000000 in
theorem parted_kidsK {w : World} {B A lb lo ci : Nat} {ks : List Pt} (hlA : B ≤ lb ∧ lb ≠ A) (hi : RowAt (KPtB B A) w (some ⟨lb, lo, none⟩) ci ks) (h1 : 1 ≤ ks.length) (h2 : ks.length ≤ 1000000) (hgs : (groupsOf ks.length).sum = ks.length ∧ ∀ g ∈ groupsOf ks.length, 1 ≤ g) :
    Calls Tryz.prog 88 #[.agg #[.slice none 0 0, .slice (some ⟨lb, lo, none⟩) ks.length ci]] w (PartsToldK B A w ((cutBy (groupsOf ks.length) ks).map nodeOver)) := by
  obtain ⟨W1, hW1⟩ : ∃ W1, W1 = w.alloc (.cells #[.slice none 0 0, .slice (some ⟨lb, lo, none⟩) ks.length ci] 111) := ⟨_, rfl⟩
  have hb1 : Below w.heap.size w W1 := by rw [hW1]; exact (Below.refl _ _).alloc (Nat.le_refl _) _
  have hx1 : W1.heap[w.heap.size]? = some (.cells #[.slice none 0 0, .slice (some ⟨lb, lo, none⟩) ks.length ci] 111 (0, 0)) := by rw [hW1]; exact heap_alloc_new w _
  have HSZ : Hid (∀ W, Calls Tryz.prog 122 #[.agg #[.slice none 0 0, .slice (some ⟨lb, lo, none⟩) ks.length ci]] W fun e w' => e = .returned (.int .i64 (ks.length : Nat)) ∧ Below W.heap.size W w') := fun W => by have := rowSize_any W none (some ⟨lb, lo, none⟩) 0 0 ks.length ci (by omega); rw [Nat.zero_add] at this; exact this
  obtain ⟨gs, hG⟩ : ∃ gs, gs = groupsOf ks.length := ⟨_, rfl⟩
  rw [← hG] at hgs ⊢
  have HSS : Hid (∀ W, Calls Tryz.prog 121 #[.int .i64 (ks.length : Nat)] W (IntsTold W gs)) := fun W => by rw [hG]; exact sizes_any ks.length W h1 h2
  have hgl : gs.length ≤ 1000000 := by rw [hG, groupsOf_length]; have := gk_le h1; omega
  have HGE : Hid (∀ k (h : k < gs.length), 1 ≤ gs[k] ∧ (gs.take (k + 1)).sum ≤ ks.length) := fun k h => ⟨hgs.2 _ (List.getElem_mem h), by rw [← hgs.1]; exact sum_take_le gs _⟩
  have HTK : Hid (∀ W k lq c (h : k < gs.length), RowAt (KPtB B A) w (some ⟨lb, lq, none⟩) c (ks.drop (gs.take k).sum) → Below w.heap.size w W → W.heap[w.heap.size]? = some (.cells #[.slice none 0 0, .slice (some ⟨lb, lq, none⟩) (ks.drop (gs.take k).sum).length c] 111 (0, 0)) → Calls Tryz.prog 120 #[.pointer (some ⟨w.heap.size, 0, none⟩), .int .i64 (gs[k] : Nat)] W (TookKidsB w w.heap.size (.slice none 0 0) B A lb lq c (ks.drop (gs.take k).sum) gs[k] W)) := fun W k lq c h hr hb hg => by
    have hk := HGE.out k h
    have := sum_take_lt h
    exact takeKids_B hr hb (Nat.le_refl _) hg hk.1 (by rw [List.length_drop]; omega)
  have HB1 := Lib.hid hb1; have HX1 := Lib.hid hx1; have HI := Lib.hid hi; have HGL := Lib.hid hgl
  have hWW : Hid (W1 = w.alloc (.cells #[.slice none 0 0, .slice (some ⟨lb, lo, none⟩) ks.length ci] 111)) := hW1
  obtain ⟨L, hL⟩ : ∃ L, L = ks.length := ⟨_, rfl⟩
  have HL := Lib.hid hL
  rw [← hL] at HSZ HSS hWW HX1
  rw [← hL]
  have hG9 : (gs.length : Int) ≤ 1000000 := by omega
  have hL0 : 0 < L := by omega
  have hdc : decide (0 < L) = true := decide_eq_true hL0
  clear hi h1 h2 hgs hb1 hx1 hW1 hL hG hgl
  go_enter Tryz.func88, Tryz.ntmps88
  go_wp2_with fail
  rw [← hWW.out]
  refine (HSZ.out _).mono ?_
  rintro e w2 ⟨rfl, hb2⟩
  go_wp2_with fail
  refine (HSS.out _).mono ?_
  rintro e w3 ⟨p, c, rfl, ho, hb3⟩
  have hb13 : Below W1.heap.size W1 w3 := hb2.trans (hb3.mono hb2.size)
  have hbw3 : Below w.heap.size w w3 := HB1.out.trans (hb13.mono HB1.out.size)
  have hx3 := (hb13.block _ (Array.getElem?_eq_some_iff.1 HX1.out).1).trans HX1.out
  have hbw2 : w.heap.size ≤ w2.heap.size := Nat.le_trans HB1.out.size hb2.size
  have H0 : Hid (PkLoopK B A lb w gs (.slice p gs.length c) (.slice none 0 0) ks (.slice none 0 0) (.int .i64 (0 : Nat)) w3) := ⟨0, lo, ci, Nat.zero_le _, rfl, PtRowK.nil .., owns_weak ho hbw2, by rw [List.take_zero, List.sum_nil, List.drop_zero]; exact HI.out, by rw [List.take_zero, List.sum_nil, List.drop_zero, ← HL.out]; exact hx3, hbw3⟩
  obtain ⟨GN, hGN⟩ : ∃ GN, GN = gs.length := ⟨_, rfl⟩
  have HGN := Lib.hid hGN
  rw [← hGN] at hG9 H0 ⊢
  clear hb2 hb3 hb13 hbw3 hx3 hbw2 ho HSS HSZ HX1 HB1 hWW HI hGN
  go_wp2_with fail
  go_loopw [4, 17] (fun x i W => PkLoopK B A lb w gs (.slice p GN c) (.slice none 0 0) ks x i W) (fun _ i _ => GN - (intOf i).toNat)
  case atStart => exact H0.out
  case round =>
    clear H0
    obtain ⟨k, lq, d, hk, rfl, hrow, hown, hit, hgc, hB⟩ := hrel
    by_cases hlt : k < gs.length
    · obtain ⟨p', cap, he, -, -, hcell⟩ := owns_at hown (by decide)
      simp only [Value.slice.injEq] at he
      obtain ⟨rfl, -, rfl⟩ := he
      obtain ⟨sb, rfl, hc0⟩ := hcell k (.int .i64 (gs[k] : Nat)) (by rw [intsC_get hlt]; unfold atB; rw [List.getD_eq_getElem?_getD, List.getElem?_eq_getElem hlt]; rfl)
      have s0 : wr.cell? ⟨sb, k, none⟩ = some (.int .i64 (gs[k] : Nat)) := by simpa using hc0
      have hki : (k : Int) < GN := by rw [HGN.out]; omega
      have HT := Lib.hid (HTK.out wr k lq d hlt hit hB hgc)
      obtain ⟨p4, c4, rfl, -⟩ := hrow.at_ hB
      have hk6 : ((cutBy (gs.take k) ks).map nodeOver).length ≤ 1000000 := by rw [List.length_map, cutBy_length, List.length_take]; have := HGL.out; omega
      have hlk : ((cutBy (gs.take k) ks).map nodeOver).length = k := by rw [List.length_map, cutBy_length, List.length_take]; omega
      have hwi : IntKind.i64.wrap ((k : Int) + 1) = (k + 1 : Nat) := by rw [IntKind.wrap_i64]; omega
      obtain ⟨GK, hGK⟩ : ∃ x, x = gs[k] := ⟨_, rfl⟩
      have hge := HGE.out k hlt
      have hst := sum_take_lt hlt
      rw [← hGK] at s0 HT hge hst
      have hdl : GK ≤ (ks.drop (gs.take k).sum).length := by rw [List.length_drop]; omega
      have HRW := Lib.hid hrow; have HOW := Lib.hid hown; have HB := Lib.hid hB; have HLT := Lib.hid hlt; have HHH := Lib.hid hgc
      have HGK := Lib.hid hGK
      clear hc0 hcell hrow hown hit hB hgc hGK
      go_wp2_with fail
      refine HT.out.mono ?_
      rintro e w4 ⟨x, lq', d', rfl, hkx, hit4, hrest, hg4, ho4⟩
      have hb4 : Below w.heap.size w w4 := Below.only HB.out (Nat.le_refl _) HB.out.size ho4
      obtain ⟨css, k1, k2, k3⟩ := HRW.out
      have k24 := owns_only k2 HHH.out ty_part.1 ho4
      have hrow4 : PtRowK B A w w4 (.slice p4 ((cutBy (gs.take k) ks).map nodeOver).length c4) ((cutBy (gs.take k) ks).map nodeOver) := ⟨css, k1, k24, k3⟩
      have hown4 := owns_only HOW.out HHH.out ty_part.2.1 ho4
      have hd0 : 0 < (ks.drop (gs.take k).sum).length := by omega
      have hhk : headPt ((ks.drop (gs.take k).sum).take GK) = (ks.drop (gs.take k).sum)[0].key := by
        unfold headPt
        rw [List.head?_take, if_neg (by omega), List.head?_eq_getElem?, List.getElem?_eq_getElem hd0]
      have hbxA := hkx hd0
      rw [← hhk] at hbxA
      have hbx := hbxA _ (Keep.refl ..)
      have hpt : PtB B A w (partCellsK x (some ⟨lb, lq, none⟩) ((ks.drop (gs.take k).sum).take GK).length d) (nodeOver ((ks.drop (gs.take k).sum).take GK)) := PtB.overB hbxA hit4 hlA (by rw [List.length_take]; omega)
      obtain ⟨v5, w5, hr, hrow5, hgr⟩ := hrow4.push hk6 hpt hb4.size
      have hown5 := owns_grows hown4 k24 ty_part.2.2.symm hgr
      have hg5 : w5.heap[w.heap.size]? = some (.cells #[.slice none 0 0, .slice (some ⟨lb, lq', none⟩) ((ks.drop (gs.take k).sum).drop GK).length d'] 111 (0, 0)) := (hgr.block (Array.getElem?_eq_some_iff.1 hg4).1 (fun e => owns_ne k24 hg4 ty_part.1 e)).trans hg4
      have hb5 : Below w.heap.size w w5 := hgr.below hb4 hb4.size (fun j hj => (k24.lt j hj).1)
      obtain ⟨p5, c5, rfl, -⟩ := hrow5.at_ hb5
      have hdd : (ks.drop (gs.take k).sum).drop GK = ks.drop (gs.take (k + 1)).sum := by rw [List.drop_drop, hst]
      have HNX : Hid (PkLoopK B A lb w gs (.slice (some ⟨sb, 0, none⟩) GN c) (.slice none 0 0) ks (.slice p5 (((cutBy (gs.take k) ks).map nodeOver) ++ [nodeOver ((ks.drop (gs.take k).sum).take GK)]).length c5) (.int .i64 (k + 1 : Nat)) w5) := by
        refine ⟨k + 1, lq', d', HLT.out, rfl, ?_, hown5, by rw [← hdd]; exact hrest, by rw [← hdd]; exact hg5, hb5⟩
        have e : (cutBy (gs.take (k + 1)) ks).map nodeOver = (cutBy (gs.take k) ks).map nodeOver ++ [nodeOver ((ks.drop (gs.take k).sum).take GK)] := by
          rw [List.take_succ_eq_append_getElem HLT.out, cutBy_snoc, List.map_append, HGK.out]
          rfl
        rw [e]
        exact hrow5
      obtain ⟨qx, cx, hxe, -⟩ := hbx.any
      subst hxe
      have HRUN := Lib.hid hr
      unfold partV
      have e00 : ((0 : Nat) : Int) = 0 := rfl
      rw [e00]
      unfold partCellsK at HRUN
      clear hb4 k1 k2 k3 k24 hrow4 hown4 hd0 hbx hbxA hpt hr hrow5 hgr hown5 hg5 hb5 hdd hhk hkx hit4 hrest hg4 ho4 css e00 hk6 hlk hge hst hdl HT
      generalize (((cutBy (gs.take k) ks).map nodeOver) ++ [nodeOver ((ks.drop (gs.take k).sum).take GK)]).length = NQ at *
      generalize ((cutBy (gs.take k) ks).map nodeOver).length = NP at *
      generalize ((ks.drop (gs.take k).sum).take GK).length = NG at *
      generalize (headPt ((ks.drop (gs.take k).sum).take GK)).length = NK at *
      go_wp2_with (at_builtin; refine Lib.wpList_append_run _ rfl (.tmp 21) (.tmp 25) 107 107 rfl _ _ rfl rfl _ w5 HRUN.out ?_)
      go_roundw
      case rel => exact HNX.out
      case measure => simp [intOf]; have := HLT.out; have := HGN.out; omega
    · have hkk : k = gs.length := by omega
      subst hkk
      rw [List.take_length] at hrow
      obtain ⟨p4, c4, rfl, hat⟩ := hrow.at_ hB
      have hki : ¬ ((gs.length : Nat) : Int) < GN := by rw [HGN.out]; omega
      have HF : Hid (PartsToldK B A w ((cutBy gs ks).map nodeOver) (.returned (.slice p4 ((cutBy gs ks).map nodeOver).length c4)) wr) := ⟨p4, c4, rfl, hat, fun g hg => by obtain ⟨_, _, k2, _⟩ := hrow; exact (k2.lt g.block (by rw [hg]; rfl)).1, hB⟩
      clear hrow hown hit hgc hB hat hlt hk HGE HTK HGL
      generalize ((cutBy gs ks).map nodeOver).length = NP at *
      generalize gs.length = NL at *
      go_wp2
      go_ret
      exact HF.out
def PdLoopK (B A lb : Nat) (w : World) (gs : List Nat) (gv kv : Value) (its : List NIt) (x i : Value) (W : World) : Prop :=
  ∃ (k lq c : Nat), k ≤ gs.length ∧ i = .int .i64 k ∧ PtRowK B A w W x ((cutBy (gs.take k) its).map leafOf) ∧ W.ownsRow w.heap.size 3 1 gv gs.length (intsC gs) ∧
    RowAt (KeepK KItem B A) w (some ⟨lb, lq, none⟩) c (its.drop (gs.take k).sum) ∧ W.heap[w.heap.size]? = some (.cells #[.slice (some ⟨lb, lq, none⟩) (its.drop (gs.take k).sum).length c, kv] 111 (0, 0)) ∧ Below w.heap.size w W
set_option maxRecDepth 100000 in
set_option maxHeartbeats 4000000 in
theorem parted_itemsK {w : World} {B A lb lo ci : Nat} {its : List NIt} (hlA : B ≤ lb ∧ lb ≠ A) (hi : RowAt (KeepK KItem B A) w (some ⟨lb, lo, none⟩) ci its) (h1 : 1 ≤ its.length) (h2 : its.length ≤ 1000000) (hgs : (groupsOf its.length).sum = its.length ∧ ∀ g ∈ groupsOf its.length, 1 ≤ g) :
    Calls Tryz.prog 88 #[.agg #[.slice (some ⟨lb, lo, none⟩) its.length ci, .slice none 0 0]] w (PartsToldK B A w ((cutBy (groupsOf its.length) its).map leafOf)) := by
  obtain ⟨W1, hW1⟩ : ∃ W1, W1 = w.alloc (.cells #[.slice (some ⟨lb, lo, none⟩) its.length ci, .slice none 0 0] 111) := ⟨_, rfl⟩
  have hb1 : Below w.heap.size w W1 := by rw [hW1]; exact (Below.refl _ _).alloc (Nat.le_refl _) _
  have hx1 : W1.heap[w.heap.size]? = some (.cells #[.slice (some ⟨lb, lo, none⟩) its.length ci, .slice none 0 0] 111 (0, 0)) := by rw [hW1]; exact heap_alloc_new w _
  have HSZ : Hid (∀ W, Calls Tryz.prog 122 #[.agg #[.slice (some ⟨lb, lo, none⟩) its.length ci, .slice none 0 0]] W fun e w' => e = .returned (.int .i64 (its.length : Nat)) ∧ Below W.heap.size W w') := fun W => rowSize_any W (some ⟨lb, lo, none⟩) none its.length ci 0 0 (by omega)
  obtain ⟨gs, hG⟩ : ∃ gs, gs = groupsOf its.length := ⟨_, rfl⟩
  rw [← hG] at hgs ⊢
  have HSS : Hid (∀ W, Calls Tryz.prog 121 #[.int .i64 (its.length : Nat)] W (IntsTold W gs)) := fun W => by rw [hG]; exact sizes_any its.length W h1 h2
  have hgl : gs.length ≤ 1000000 := by rw [hG, groupsOf_length]; have := gk_le h1; omega
  have HGE : Hid (∀ k (h : k < gs.length), 1 ≤ gs[k] ∧ (gs.take (k + 1)).sum ≤ its.length) := fun k h => ⟨hgs.2 _ (List.getElem_mem h), by rw [← hgs.1]; exact sum_take_le gs _⟩
  have HTK : Hid (∀ W k lq c (h : k < gs.length), RowAt (KeepK KItem B A) w (some ⟨lb, lq, none⟩) c (its.drop (gs.take k).sum) → Below w.heap.size w W → W.heap[w.heap.size]? = some (.cells #[.slice (some ⟨lb, lq, none⟩) (its.drop (gs.take k).sum).length c, .slice none 0 0] 111 (0, 0)) → Calls Tryz.prog 119 #[.pointer (some ⟨w.heap.size, 0, none⟩), .int .i64 (gs[k] : Nat)] W (TookItsK w w.heap.size (.slice none 0 0) B A lb lq c (its.drop (gs.take k).sum) gs[k] W)) := fun W k lq c h hr hb hg => by
    have hk := HGE.out k h
    have := sum_take_lt h
    exact takeItems_K hr hb (Nat.le_refl _) hg hk.1 (by rw [List.length_drop]; omega)
  have HB1 := Lib.hid hb1; have HX1 := Lib.hid hx1; have HI := Lib.hid hi; have HGL := Lib.hid hgl
  have hWW : Hid (W1 = w.alloc (.cells #[.slice (some ⟨lb, lo, none⟩) its.length ci, .slice none 0 0] 111)) := hW1
  obtain ⟨L, hL⟩ : ∃ L, L = its.length := ⟨_, rfl⟩
  have HL := Lib.hid hL
  rw [← hL] at HSZ HSS hWW HX1
  rw [← hL]
  have hG9 : (gs.length : Int) ≤ 1000000 := by omega
  clear hi h1 h2 hgs hb1 hx1 hW1 hL hG hgl
  go_enter Tryz.func88, Tryz.ntmps88
  go_wp2_with fail
  rw [← hWW.out]
  refine (HSZ.out _).mono ?_
  rintro e w2 ⟨rfl, hb2⟩
  go_wp2_with fail
  refine (HSS.out _).mono ?_
  rintro e w3 ⟨p, c, rfl, ho, hb3⟩
  have hb13 : Below W1.heap.size W1 w3 := hb2.trans (hb3.mono hb2.size)
  have hbw3 : Below w.heap.size w w3 := HB1.out.trans (hb13.mono HB1.out.size)
  have hx3 := (hb13.block _ (Array.getElem?_eq_some_iff.1 HX1.out).1).trans HX1.out
  have hbw2 : w.heap.size ≤ w2.heap.size := Nat.le_trans HB1.out.size hb2.size
  have H0 : Hid (PdLoopK B A lb w gs (.slice p gs.length c) (.slice none 0 0) its (.slice none 0 0) (.int .i64 (0 : Nat)) w3) := ⟨0, lo, ci, Nat.zero_le _, rfl, PtRowK.nil .., owns_weak ho hbw2, by rw [List.take_zero, List.sum_nil, List.drop_zero]; exact HI.out, by rw [List.take_zero, List.sum_nil, List.drop_zero, ← HL.out]; exact hx3, hbw3⟩
  obtain ⟨GN, hGN⟩ : ∃ GN, GN = gs.length := ⟨_, rfl⟩
  have HGN := Lib.hid hGN
  rw [← hGN] at hG9 H0 ⊢
  clear hb2 hb3 hb13 hbw3 hx3 hbw2 ho HSS HSZ HX1 HB1 hWW HI hGN
  go_wp2_with fail
  go_loopw [4, 17] (fun x i W => PdLoopK B A lb w gs (.slice p GN c) (.slice none 0 0) its x i W) (fun _ i _ => GN - (intOf i).toNat)
  case atStart => exact H0.out
  case round =>
    clear H0
    obtain ⟨k, lq, d, hk, rfl, hrow, hown, hit, hgc, hB⟩ := hrel
    by_cases hlt : k < gs.length
    · obtain ⟨p', cap, he, -, -, hcell⟩ := owns_at hown (by decide)
      simp only [Value.slice.injEq] at he
      obtain ⟨rfl, -, rfl⟩ := he
      obtain ⟨sb, rfl, hc0⟩ := hcell k (.int .i64 (gs[k] : Nat)) (by rw [intsC_get hlt]; unfold atB; rw [List.getD_eq_getElem?_getD, List.getElem?_eq_getElem hlt]; rfl)
      have s0 : wr.cell? ⟨sb, k, none⟩ = some (.int .i64 (gs[k] : Nat)) := by simpa using hc0
      have hki : (k : Int) < GN := by rw [HGN.out]; omega
      have HT := Lib.hid (HTK.out wr k lq d hlt hit hB hgc)
      obtain ⟨p4, c4, rfl, -⟩ := hrow.at_ hB
      have hk6 : ((cutBy (gs.take k) its).map leafOf).length ≤ 1000000 := by rw [List.length_map, cutBy_length, List.length_take]; have := HGL.out; omega
      have hlk : ((cutBy (gs.take k) its).map leafOf).length = k := by rw [List.length_map, cutBy_length, List.length_take]; omega
      have hwi : IntKind.i64.wrap ((k : Int) + 1) = (k + 1 : Nat) := by rw [IntKind.wrap_i64]; omega
      obtain ⟨GK, hGK⟩ : ∃ x, x = gs[k] := ⟨_, rfl⟩
      have hge := HGE.out k hlt
      have hst := sum_take_lt hlt
      rw [← hGK] at s0 HT hge hst
      have hdl : GK ≤ (its.drop (gs.take k).sum).length := by rw [List.length_drop]; omega
      have HRW := Lib.hid hrow; have HOW := Lib.hid hown; have HB := Lib.hid hB; have HLT := Lib.hid hlt; have HHH := Lib.hid hgc
      have HGK := Lib.hid hGK
      clear hc0 hcell hrow hown hit hB hgc hGK
      go_wp2_with fail
      refine HT.out.mono ?_
      rintro e w4 ⟨x, lq', d', rfl, hkx, hit4, hrest, hg4, ho4⟩
      have hb4 : Below w.heap.size w w4 := Below.only HB.out (Nat.le_refl _) HB.out.size ho4
      obtain ⟨css, k1, k2, k3⟩ := HRW.out
      have k24 := owns_only k2 HHH.out ty_part.1 ho4
      have hrow4 : PtRowK B A w w4 (.slice p4 ((cutBy (gs.take k) its).map leafOf).length c4) ((cutBy (gs.take k) its).map leafOf) := ⟨css, k1, k24, k3⟩
      have hown4 := owns_only HOW.out HHH.out ty_part.2.1 ho4
      have hd0 : 0 < (its.drop (gs.take k).sum).length := by omega
      have hhk : headKey ((its.drop (gs.take k).sum).take GK) = (its.drop (gs.take k).sum)[0].k := by
        unfold headKey
        rw [List.head?_take, if_neg (by omega), List.head?_eq_getElem?, List.getElem?_eq_getElem hd0]
      have hbxA := hkx hd0
      rw [← hhk] at hbxA
      have hbx := hbxA _ (Keep.refl ..)
      have hpt : PtB B A w (partCells x (some ⟨lb, lq, none⟩) ((its.drop (gs.take k).sum).take GK).length d) (leafOf ((its.drop (gs.take k).sum).take GK)) := PtB.leafB hbxA hit4 hlA (by rw [List.length_take]; omega)
      obtain ⟨v5, w5, hr, hrow5, hgr⟩ := hrow4.push hk6 hpt hb4.size
      have hown5 := owns_grows hown4 k24 ty_part.2.2.symm hgr
      have hg5 : w5.heap[w.heap.size]? = some (.cells #[.slice (some ⟨lb, lq', none⟩) ((its.drop (gs.take k).sum).drop GK).length d', .slice none 0 0] 111 (0, 0)) := (hgr.block (Array.getElem?_eq_some_iff.1 hg4).1 (fun e => owns_ne k24 hg4 ty_part.1 e)).trans hg4
      have hb5 : Below w.heap.size w w5 := hgr.below hb4 hb4.size (fun j hj => (k24.lt j hj).1)
      obtain ⟨p5, c5, rfl, -⟩ := hrow5.at_ hb5
      have hdd : (its.drop (gs.take k).sum).drop GK = its.drop (gs.take (k + 1)).sum := by rw [List.drop_drop, hst]
      have HNX : Hid (PdLoopK B A lb w gs (.slice (some ⟨sb, 0, none⟩) GN c) (.slice none 0 0) its (.slice p5 (((cutBy (gs.take k) its).map leafOf) ++ [leafOf ((its.drop (gs.take k).sum).take GK)]).length c5) (.int .i64 (k + 1 : Nat)) w5) := by
        refine ⟨k + 1, lq', d', HLT.out, rfl, ?_, hown5, by rw [← hdd]; exact hrest, by rw [← hdd]; exact hg5, hb5⟩
        have e : (cutBy (gs.take (k + 1)) its).map leafOf = (cutBy (gs.take k) its).map leafOf ++ [leafOf ((its.drop (gs.take k).sum).take GK)] := by
          rw [List.take_succ_eq_append_getElem HLT.out, cutBy_snoc, List.map_append, HGK.out]
          rfl
        rw [e]
        exact hrow5
      obtain ⟨qx, cx, hxe, -⟩ := hbx.any
      subst hxe
      have HRUN := Lib.hid hr
      unfold partV
      have e00 : ((0 : Nat) : Int) = 0 := rfl
      rw [e00]
      unfold partCells at HRUN
      clear hb4 k1 k2 k3 k24 hrow4 hown4 hd0 hbx hbxA hpt hr hrow5 hgr hown5 hg5 hb5 hdd hhk hkx hit4 hrest hg4 ho4 css e00 hk6 hlk hge hst hdl HT
      generalize (((cutBy (gs.take k) its).map leafOf) ++ [leafOf ((its.drop (gs.take k).sum).take GK)]).length = NQ at *
      generalize ((cutBy (gs.take k) its).map leafOf).length = NP at *
      generalize ((its.drop (gs.take k).sum).take GK).length = NG at *
      generalize (headKey ((its.drop (gs.take k).sum).take GK)).length = NK at *
      go_wp2_with (at_builtin; refine Lib.wpList_append_run _ rfl (.tmp 21) (.tmp 25) 107 107 rfl _ _ rfl rfl _ w5 HRUN.out ?_)
      go_roundw
      case rel => exact HNX.out
      case measure => simp [intOf]; have := HLT.out; have := HGN.out; omega
    · have hkk : k = gs.length := by omega
      subst hkk
      rw [List.take_length] at hrow
      obtain ⟨p4, c4, rfl, hat⟩ := hrow.at_ hB
      have hki : ¬ ((gs.length : Nat) : Int) < GN := by rw [HGN.out]; omega
      have HF : Hid (PartsToldK B A w ((cutBy gs its).map leafOf) (.returned (.slice p4 ((cutBy gs its).map leafOf).length c4)) wr) := ⟨p4, c4, rfl, hat, fun g hg => by obtain ⟨_, _, k2, _⟩ := hrow; exact (k2.lt g.block (by rw [hg]; rfl)).1, hB⟩
      clear hrow hown hit hgc hB hat hlt hk HGE HTK HGL
      generalize ((cutBy gs its).map leafOf).length = NP at *
      generalize gs.length = NL at *
      go_wp2
      go_ret
      exact HF.out
end Go.Proofs.YtlagllhhahomlaaGreat.Sl.Nd
/- Batches in a program: the root over parts, level by level. -/
namespace Go.By
open Go Go.RowKit
inductive Lv (ps : List Pt) : List Pt → Prop where
  | refl : Lv ps ps
  | step {qs : List Pt} (h : 1 < qs.length) (hs : Lv ps qs) : Lv ps ((cutBy (groupsOf qs.length) qs).map nodeOver)
def Pt.kidsN : Pt → Nat
  | .node _ ks => ks.length
  | _ => 0
theorem PtIs.parts {w : World} {cs : List Value} {p : Pt} (h : PtIs w cs p) : ∃ q0 n0 c0 off ct deep q1 n1 c1 q2 n2 c2 q3 n3 c3 q4 c4, cs = [.slice q0 n0 c0, .int .i64 off, .int .u64 ct, .int .i64 deep, .slice q1 n1 c1, .slice q2 n2 c2, .slice q3 n3 c3, .slice q4 p.kidsN c4] := by
  have hb : ∀ {v : Value} {l : List Nat}, Bytes w v l → ∃ q n c, v = .slice q n c := fun h => by obtain ⟨q, c, rfl, -⟩ := h.any; exact ⟨_, _, _, rfl⟩
  cases h with
  | old hk hl hb' hn =>
    obtain ⟨_, _, _, rfl⟩ := hb hk; obtain ⟨_, _, _, rfl⟩ := hb hl; obtain ⟨_, _, _, rfl⟩ := hb hb'
    exact ⟨_, _, _, _, _, _, _, _, _, _, _, _, _, _, _, _, _, rfl⟩
  | leaf hk hi =>
    obtain ⟨_, _, _, rfl⟩ := hb hk
    exact ⟨_, _, _, _, _, _, _, _, _, _, _, _, _, _, _, _, _, rfl⟩
  | node css hk hle hc hat hp =>
    obtain ⟨_, _, _, rfl⟩ := hb hk
    exact ⟨_, _, _, _, _, _, _, _, _, _, _, _, _, _, _, _, _, rfl⟩
def lenV : Value → Nat
  | .slice _ n _ => n
  | _ => 0
theorem gk_lt {n : Nat} (h : 1 < n) : gk n < n := by unfold gk; omega
end Go.By
namespace Go.Proofs.YtlagllhhahomlaaGreat.Sl.Nd
open Go Go.RowKit Go.By Lf
def TpLoop (B A : Nat) (w0 : World) (ps : List Pt) (x : Value) (W : World) : Prop := ∃ lb lo c qs, x = .slice (some ⟨lb, lo, none⟩) qs.length c ∧ RowAt (KPtB B A) W (some ⟨lb, lo, none⟩) c qs ∧ (B ≤ lb ∧ lb ≠ A) ∧ Lv ps qs ∧ 1 ≤ qs.length ∧ qs.length ≤ 1000000 ∧ Below w0.heap.size w0 W
def TopTold (B : Nat) (w : World) (ps : List Pt) (z : Ending) (w' : World) : Prop := ∃ cs q, z = .returned (.agg cs.toArray) ∧ Lv ps [q] ∧ PtB B 0 w' cs q ∧ Below w.heap.size w w'
set_option maxRecDepth 100000 in
set_option maxHeartbeats 4000000 in
theorem top_any {w : World} {B lb lo c : Nat} {ps : List Pt} (hB0 : 0 < B ∧ B ≤ w.heap.size) (hlb : B ≤ lb) (h : RowAt (KPtB B 0) w (some ⟨lb, lo, none⟩) c ps) (h1 : 1 ≤ ps.length) (h6 : ps.length ≤ 1000000) (hgs : ∀ n, 1 ≤ n → (groupsOf n).sum = n ∧ ∀ g ∈ groupsOf n, 1 ≤ g) (hk : ∀ q, Lv ps [q] → q.kidsN ≠ 1) :
    Calls Tryz.prog 49 #[.slice (some ⟨lb, lo, none⟩) ps.length c] w (TopTold B w ps) := by
  obtain ⟨W1, hW1⟩ : ∃ W1, W1 = w.alloc (.cells #[.slice none 0 0, .int .i64 0, .int .u64 0, .int .i64 0, .slice none 0 0, .slice none 0 0, .slice none 0 0, .slice none 0 0] 113) := ⟨_, rfl⟩
  have hb1 : Below w.heap.size w W1 := by rw [hW1]; exact (Below.refl _ _).alloc (Nat.le_refl _) _
  have hA1 : W1.heap[w.heap.size]? = some (.cells #[.slice none 0 0, .int .i64 0, .int .u64 0, .int .i64 0, .slice none 0 0, .slice none 0 0, .slice none 0 0, .slice none 0 0] 113 (0, 0)) := by rw [hW1]; exact heap_alloc_new w _
  have hlbw : lb < w.heap.size := by
    obtain ⟨lb', lo', cs, e, hc, hp⟩ := h.at_ 0 (by omega)
    cases e
    exact block_lt_of_cell (hc 0 (by rw [hp.len]; decide))
  have H0 : Hid (TpLoop B w.heap.size W1 ps (.slice (some ⟨lb, lo, none⟩) ps.length c) W1) := ⟨lb, lo, c, ps, rfl, rowB_goes h ⟨hlb, by have := hB0.1; omega⟩ (Goes.of_new hB0.1 hb1 (Nat.le_refl _)), ⟨hlb, by omega⟩, .refl, h1, h6, Below.refl _ _⟩
  have hz1 : W1.heap.size = w.heap.size + 1 := by rw [hW1]; simp
  have HGS := Lib.hid hgs; have HK := Lib.hid hk; have HB1 := Lib.hid hb1; have HA1 := Lib.hid hA1; have HZ1 := Lib.hid hz1; have HB0 := Lib.hid hB0
  have HW1 := Lib.hid hW1
  clear h h1 h6 hgs hk hb1 hA1 hW1 hz1 hlbw hB0 hlb
  generalize ps.length = PN at *
  go_enter Tryz.func49, Tryz.ntmps49
  go_wp2
  rw [← HW1.out]
  go_loopw [0] (fun x W => TpLoop B w.heap.size W1 ps x W) (fun x _ => lenV x)
  case atStart => exact H0.out
  case round =>
    clear H0
    obtain ⟨kb, ko, d, qs, rfl, hrow, hkb, hlv, hl1, hl6, hB⟩ := hrel
    by_cases hlt : 1 < qs.length
    · have HPD := Lib.hid (parted_kidsK hkb hrow hl1 hl6 (HGS.out _ hl1))
      have HNX : Hid (∀ w2 p2 c2, RowAt (KPtB B w.heap.size) w2 p2 c2 ((cutBy (groupsOf qs.length) qs).map nodeOver) → (∀ g, p2 = some g → wr.heap.size ≤ g.block) → Below wr.heap.size wr w2 → (∃ b2 o2, p2 = some ⟨b2, o2, none⟩) ∧ TpLoop B w.heap.size W1 ps (.slice p2 ((cutBy (groupsOf qs.length) qs).map nodeOver).length c2) w2 ∧ ((cutBy (groupsOf qs.length) qs).map nodeOver).length < qs.length) := fun w2 p2 c2 hr hg2 hb => by
        have hl : ((cutBy (groupsOf qs.length) qs).map nodeOver).length = gk qs.length := by rw [List.length_map, cutBy_length, groupsOf_length]
        have := gk_lt hlt; have := gk_pos hl1
        obtain ⟨b2, o2, cs, rfl, -⟩ := hr.at_ 0 (by omega)
        refine ⟨⟨b2, o2, rfl⟩, ⟨b2, o2, c2, _, rfl, hr, ?_, .step hlt hlv, by omega, by omega, hB.trans (hb.mono hB.size)⟩, by omega⟩
        have h2 := hg2 _ rfl
        have := hB.size; have := HZ1.out; have := HB0.out.2; have := HB1.out.size
        dsimp only at h2
        omega
      have hi : (qs.length : Int) > 1 := by omega
      clear hrow hlv hl1 hl6 hB hkb
      generalize hQ : ((cutBy (groupsOf qs.length) qs).map nodeOver) = rs at *
      generalize qs.length = QN at *
      go_wp2_with fail
      refine HPD.out.mono ?_
      rintro e w2 ⟨p2, c2, rfl, hr2, hg2, hb2⟩
      obtain ⟨⟨b2, o2, rfl⟩, hn, hm⟩ := HNX.out w2 p2 c2 hr2 hg2 hb2
      have HN := Lib.hid hn; have HM := Lib.hid hm
      clear hn hm hr2 hb2 HNX HPD hg2
      go_wp2
      go_roundw
      case rel => exact HN.out
      case measure => exact HM.out
    · have hq1 : qs.length = 1 := by omega
      obtain ⟨q0, rfl⟩ : ∃ q0, qs = [q0] := by
        cases qs with
        | nil => simp at hq1
        | cons q0 r =>
          cases r with
          | nil => exact ⟨q0, rfl⟩
          | cons _ _ => simp at hq1
      obtain ⟨kb', ko', cs, e, hc, hp⟩ := hrow.at_ 0 (by simp)
      cases e
      simp only [Nat.zero_mul, Nat.add_zero, List.getElem_cons_zero] at hc hp
      obtain ⟨q0', n0, c0, off, ct, deep, q1, n1, c1, q2, n2, c2, q3, n3, c3, q4, c4, rfl⟩ := hp.plain.parts
      have hkn : q0.kidsN ≠ 1 := HK.out q0 hlv
      have hkd : ((q0.kidsN : Int) == 1) = false := by
        have : ¬ (q0.kidsN : Int) = 1 := by omega
        simpa using this
      have k0 : wr.cell? ⟨kb, ko, none⟩ = some (.slice q0' n0 c0) := hc 0 (by simp)
      have k1 : wr.cell? ⟨kb, ko + 1, none⟩ = some (.int .i64 off) := hc 1 (by simp)
      have k2 : wr.cell? ⟨kb, ko + 2, none⟩ = some (.int .u64 ct) := hc 2 (by simp)
      have k3 : wr.cell? ⟨kb, ko + 3, none⟩ = some (.int .i64 deep) := hc 3 (by simp)
      have k4 : wr.cell? ⟨kb, ko + 4, none⟩ = some (.slice q1 n1 c1) := hc 4 (by simp)
      have k5 : wr.cell? ⟨kb, ko + 5, none⟩ = some (.slice q2 n2 c2) := hc 5 (by simp)
      have k6 : wr.cell? ⟨kb, ko + 6, none⟩ = some (.slice q3 n3 c3) := hc 6 (by simp)
      have k7 : wr.cell? ⟨kb, ko + 7, none⟩ = some (.slice q4 q0.kidsN c4) := hc 7 (by simp)
      have hbw : Below w.heap.size w wr := HB1.out.trans (hB.mono HB1.out.size)
      obtain ⟨W2, hW2⟩ : ∃ W2, W2 = wr.alloc (.cells #[.slice q0' n0 c0, .int .i64 off, .int .u64 ct, .int .i64 deep, .slice q1 n1 c1, .slice q2 n2 c2, .slice q3 n3 c3, .slice q4 q0.kidsN c4] 113) := ⟨_, rfl⟩
      have hb2 : Below wr.heap.size wr W2 := by rw [hW2]; exact (Below.refl _ _).alloc (Nat.le_refl _) _
      have hx2 : W2.heap[wr.heap.size]? = some (.cells #[.slice q0' n0 c0, .int .i64 off, .int .u64 ct, .int .i64 deep, .slice q1 n1 c1, .slice q2 n2 c2, .slice q3 n3 c3, .slice q4 q0.kidsN c4] 113 (0, 0)) := by rw [hW2]; exact heap_alloc_new wr _
      have hAr := (hB.block _ (Array.getElem?_eq_some_iff.1 HA1.out).1).trans HA1.out
      have hA2 := (hb2.block _ (Array.getElem?_eq_some_iff.1 hAr).1).trans hAr
      have HX := Lib.hid (fun (_ : Unit) => set8_at (a := .slice q0' n0 c0) (b := .int .i64 off) (c := .int .u64 ct) (d := .int .i64 deep) (e := .slice q1 n1 c1) (f := .slice q2 n2 c2) (g := .slice q3 n3 c3) (h := .slice q4 q0.kidsN c4) hA2)
      have HF : Hid (TopTold B w ps (.returned (.agg #[.slice q0' n0 c0, .int .i64 off, .int .u64 ct, .int .i64 deep, .slice q1 n1 c1, .slice q2 n2 c2, .slice q3 n3 c3, .slice q4 q0.kidsN c4])) (set8 W2 w.heap.size (.slice q0' n0 c0) (.int .i64 off) (.int .u64 ct) (.int .i64 deep) (.slice q1 n1 c1) (.slice q2 n2 c2) (.slice q3 n3 c3) (.slice q4 q0.kidsN c4))) :=
        ⟨_, q0, rfl, hlv, PtB.goes hp (Goes.back HB0.out.1 ((Keep.of_below hb2).trans (Keep.of_only (set8_only W2 w.heap.size _ _ _ _ _ _ _ _)))), set8_below (hbw.trans (hb2.mono hbw.size)) (Nat.le_refl _) _ _ _ _ _ _ _ _⟩
      have m0 : W2.cell? ⟨wr.heap.size, 0, none⟩ = some (.slice q0' n0 c0) := cells_of hx2 0
      have m1 : W2.cell? ⟨wr.heap.size, 1, none⟩ = some (.int .i64 off) := cells_of hx2 1
      have m2 : W2.cell? ⟨wr.heap.size, 2, none⟩ = some (.int .u64 ct) := cells_of hx2 2
      have m3 : W2.cell? ⟨wr.heap.size, 3, none⟩ = some (.int .i64 deep) := cells_of hx2 3
      have m4 : W2.cell? ⟨wr.heap.size, 4, none⟩ = some (.slice q1 n1 c1) := cells_of hx2 4
      have m5 : W2.cell? ⟨wr.heap.size, 5, none⟩ = some (.slice q2 n2 c2) := cells_of hx2 5
      have m6 : W2.cell? ⟨wr.heap.size, 6, none⟩ = some (.slice q3 n3 c3) := cells_of hx2 6
      have m7 : W2.cell? ⟨wr.heap.size, 7, none⟩ = some (.slice q4 q0.kidsN c4) := cells_of hx2 7
      have o0 : W2.cell? ⟨w.heap.size, 0, none⟩ = some (.slice none 0 0) := cells_of hA2 0
      have o1 : W2.cell? ⟨w.heap.size, 1, none⟩ = some (.int .i64 0) := cells_of hA2 1
      have o2 : W2.cell? ⟨w.heap.size, 2, none⟩ = some (.int .u64 0) := cells_of hA2 2
      have o3 : W2.cell? ⟨w.heap.size, 3, none⟩ = some (.int .i64 0) := cells_of hA2 3
      have o4 : W2.cell? ⟨w.heap.size, 4, none⟩ = some (.slice none 0 0) := cells_of hA2 4
      have o5 : W2.cell? ⟨w.heap.size, 5, none⟩ = some (.slice none 0 0) := cells_of hA2 5
      have o6 : W2.cell? ⟨w.heap.size, 6, none⟩ = some (.slice none 0 0) := cells_of hA2 6
      have o7 : W2.cell? ⟨w.heap.size, 7, none⟩ = some (.slice none 0 0) := cells_of hA2 7
      have f0 := free_of hA2 0; have f1 := free_of hA2 1; have f2 := free_of hA2 2; have f3 := free_of hA2 3; have f4 := free_of hA2 4; have f5 := free_of hA2 5; have f6 := free_of hA2 6; have f7 := free_of hA2 7
      have HW2 := Lib.hid hW2
      clear hrow hkb hlv hl1 hl6 hB hc hp hkn hbw hb2 hx2 hAr hA2 hW2 hlt hq1
      generalize q0.kidsN = KN at *
      simp only [List.length_singleton]
      go_wp2
      rw [← HW2.out]
      go_loopw [] (fun W => W = W2) (fun _ => 0)
      case atStart => exact rfl
      case round =>
        subst hrel
        go_wp2
        exact bodyPost_ret (cell_ret1 (p := 2) (ty := 113) (n := 8) (by kernel_rfl) (by kernel_rfl) (by kernel_rfl) rfl (HX.out ()) rfl) rfl HF.out
end Go.Proofs.YtlagllhhahomlaaGreat.Sl.Nd
/- Batches, plain: items cut into leaves, levels over them: parts that stand for the items, and may be laid. -/
namespace Go.By
open Go
theorem groups_take (n : Nat) : ∀ j, j ≤ gk n → ((groupsOf n).take j).sum = gsum n j
  | 0, _ => by simp [gsum]
  | j + 1, h => by
    have hl : j < (groupsOf n).length := by rw [groupsOf_length]; omega
    rw [List.take_succ_eq_append_getElem hl, List.sum_append, groups_take n j (by omega), groupsOf_at hl, gsum_succ]
    simp
theorem groups_sum {n : Nat} (h : 1 ≤ n) : (groupsOf n).sum = n := by
  have := groups_take n (gk n) (Nat.le_refl _)
  rw [List.take_of_length_le (by rw [groupsOf_length]; exact Nat.le_refl _), gsum_all h] at this
  exact this
theorem groups_each {n : Nat} (h : 1 ≤ n) : ∀ g ∈ groupsOf n, (1 ≤ g ∧ g ≤ 8) ∧ (1 < gk n → 4 ≤ g) := fun g hg => by
  obtain ⟨i, hi, rfl⟩ := List.getElem_of_mem hg
  rw [groupsOf_at hi]
  have h1 := gq_pos h
  refine ⟨⟨?_, g_most h i⟩, fun hk => ?_⟩
  · unfold grpAt; omega
  · have := gq_least h hk
    unfold grpAt; omega
theorem cutBy_lens {α : Type} : ∀ (gs : List Nat) (xs : List α), gs.sum = xs.length → (cutBy gs xs).map List.length = gs
  | [], _, _ => rfl
  | g :: gs, xs, h => by
    simp only [List.sum_cons] at h
    rw [cutBy, List.map_cons, cutBy_lens gs (xs.drop g) (by rw [List.length_drop]; omega), List.length_take]
    congr 1
    omega
theorem cutBy_len_at {α : Type} {gs : List Nat} {xs : List α} (h : gs.sum = xs.length) {i : Nat} (hi : i < (cutBy gs xs).length) (hg : i < gs.length) : (cutBy gs xs)[i].length = gs[i] := by
  have := cutBy_lens gs xs h
  have e : ((cutBy gs xs).map List.length)[i]'(by rw [List.length_map]; exact hi) = gs[i] := by simp only [this]
  rwa [List.getElem_map] at e
structure Reps (h : Nat) (ps : List Pt) (its : List NIt) : Prop where
  out : ∃ ls : List (List NIt), ls.length = ps.length ∧ its = ls.flatten ∧ ∀ i (hi : i < ps.length) (hi' : i < ls.length), Rep h false ps[i] ls[i]
def Stands (ps : List Pt) (its : List NIt) : Prop := (∃ h q, ps = [q] ∧ Rep h true q its) ∨ (1 < ps.length ∧ ∃ h, Reps h ps its)
theorem cut_one {α : Type} {n : Nat} {xs : List α} (h1 : 1 ≤ n) (hn : n = xs.length) (hk : gk n = 1) : cutBy (groupsOf n) xs = [xs] := by
  have hl : (cutBy (groupsOf n) xs).length = 1 := by rw [cutBy_length, groupsOf_length, hk]
  have hf := cutBy_flatten (groupsOf n) xs (by rw [groups_sum h1, hn])
  match h : cutBy (groupsOf n) xs, hl, hf with
  | [a], _, hf => simpa using hf
theorem stands_items {its : List NIt} (h1 : 1 ≤ its.length) : Stands ((cutBy (groupsOf its.length) its).map leafOf) its := by
  have hs := groups_sum h1
  have hne : ∀ g : List NIt, 1 ≤ g.length → g ≠ [] := fun g hg e => by rw [e] at hg; simp at hg
  by_cases hk : gk its.length = 1
  · refine .inl ⟨1, leafOf its, by rw [cut_one h1 rfl hk]; rfl, ?_⟩
    unfold leafOf
    simp only [Rep]
    refine ⟨trivial, trivial, hne _ h1, trivial, .inl trivial, ?_⟩
    unfold gk at hk; omega
  · have hk1 : 1 < gk its.length := by have := gk_pos h1; omega
    refine .inr ⟨by rw [List.length_map, cutBy_length, groupsOf_length]; exact hk1, 1, ⟨cutBy (groupsOf its.length) its, by simp, (cutBy_flatten _ _ hs).symm, fun i hi hi' => ?_⟩⟩
    rw [List.getElem_map]
    have hg : i < (groupsOf its.length).length := by rw [cutBy_length] at hi'; exact hi'
    have e := cutBy_len_at hs hi' hg
    obtain ⟨⟨g1, g8⟩, g4⟩ := groups_each h1 _ (List.getElem_mem hg)
    unfold leafOf
    simp only [Rep]
    refine ⟨trivial, trivial, hne _ (by omega), trivial, .inr (by rw [e]; exact g4 hk1), by omega⟩
theorem cutBy_at {α β : Type} : ∀ (gs : List Nat) (xs : List α) (ys : List (List β)), xs.length = ys.length → gs.sum = xs.length → ((cutBy gs ys).map List.flatten).flatten = ys.flatten
  | gs, xs, ys, hl, hs => by
    have := cutBy_flatten gs ys (by omega)
    conv => rhs; rw [← this]
    induction cutBy gs ys with
    | nil => rfl
    | cons a r ih => simp [ih]
theorem cutBy_pair {α β : Type} {R : α → β → Prop} : ∀ (gs : List Nat) (xs : List α) (ys : List β), xs.length = ys.length → (∀ i (hi : i < xs.length) (hi' : i < ys.length), R xs[i] ys[i]) →
    ∀ i (hi : i < (cutBy gs xs).length) (hi' : i < (cutBy gs ys).length), (cutBy gs xs)[i].length = (cutBy gs ys)[i].length ∧ ∀ j (hj : j < (cutBy gs xs)[i].length) (hj' : j < (cutBy gs ys)[i].length), R (cutBy gs xs)[i][j] (cutBy gs ys)[i][j]
  | [], xs, ys, _, _, i, hi, _ => by simp [cutBy] at hi
  | g :: gs, xs, ys, hl, hr, 0, _, _ => by
    simp only [cutBy, List.getElem_cons_zero]
    refine ⟨by simp [hl], fun j hj hj' => ?_⟩
    rw [List.getElem_take, List.getElem_take]
    exact hr j _ _
  | g :: gs, xs, ys, hl, hr, i + 1, hi, hi' => by
    simp only [cutBy, List.getElem_cons_succ]
    simp only [cutBy, List.length_cons] at hi hi'
    exact cutBy_pair gs (xs.drop g) (ys.drop g) (by simp [hl]) (fun j hj hj' => by rw [List.getElem_drop, List.getElem_drop]; exact hr _ _ _) i (by omega) (by omega)
theorem stands_over {ps : List Pt} {its : List NIt} (h : Stands ps its) (h1 : 1 < ps.length) : Stands ((cutBy (groupsOf ps.length) ps).map nodeOver) its := by
  rcases h with ⟨_, q, rfl, _⟩ | ⟨_, h, ⟨ls, hl, rfl, hr⟩⟩
  · simp at h1
  · have hs := groups_sum (n := ps.length) (by omega)
    by_cases hk : gk ps.length = 1
    · refine .inl ⟨h + 1, nodeOver ps, by rw [cut_one (by omega) rfl hk]; rfl, ?_⟩
      unfold nodeOver
      simp only [Rep]
      refine ⟨trivial, ⟨h1, by unfold gk at hk; omega⟩, .inl trivial, ls, hl, rfl, hr⟩
    · have hk1 : 1 < gk ps.length := by have := gk_pos (n := ps.length) (by omega); omega
      refine .inr ⟨by rw [List.length_map, cutBy_length, groupsOf_length]; exact hk1, h + 1, ⟨(cutBy (groupsOf ps.length) ls).map List.flatten, by simp [cutBy_length], (cutBy_at (groupsOf ps.length) ps ls hl.symm hs).symm, fun i hi hi' => ?_⟩⟩
      rw [List.getElem_map, List.getElem_map]
      have hic : i < (cutBy (groupsOf ps.length) ps).length := by simpa using hi
      have hil : i < (cutBy (groupsOf ps.length) ls).length := by simpa using hi'
      have hg : i < (groupsOf ps.length).length := by rw [cutBy_length] at hic; exact hic
      have e := cutBy_len_at hs hic hg
      obtain ⟨⟨g1, g8⟩, g4⟩ := groups_each (n := ps.length) (by omega) _ (List.getElem_mem hg)
      obtain ⟨e2, hp⟩ := cutBy_pair (R := fun p l => Rep h false p l) (groupsOf ps.length) ps ls hl.symm hr i hic hil
      have := g4 hk1
      unfold nodeOver
      simp only [Rep]
      exact ⟨trivial, ⟨by omega, by omega⟩, .inr (by omega), _, e2.symm, rfl, fun j hj hj' => hp j hj hj'⟩
theorem stands_lv {ps qs : List Pt} {its : List NIt} (h : Stands ps its) (hl : Lv ps qs) : Stands qs its := by
  induction hl with
  | refl => exact h
  | step h1 _ ih => exact stands_over ih h1
theorem stands_root {q : Pt} {its : List NIt} (h : Stands [q] its) : (∃ h, Rep h true q its) ∧ q.kidsN ≠ 1 := by
  rcases h with ⟨h, q', e, hr⟩ | ⟨h1, _⟩
  · cases e
    refine ⟨⟨h, hr⟩, ?_⟩
    cases h with
    | zero => simp [Rep] at hr
    | succ h =>
      cases q with
      | old => simp [Rep] at hr
      | leaf => simp [Pt.kidsN]
      | node k kids =>
        simp only [Rep] at hr
        have := hr.2.1.1
        show kids.length ≠ 1
        omega
  · simp at h1
end Go.By
/- Batches, plain: parts that stand for items that may be: each node of theirs may be laid. -/
namespace Go.By
open Go
theorem pw_rises : ∀ {ks : List (List Nat)}, ks.Pairwise (fun a b => lessN a b = true) → risesN ks = true
  | [], _ => rfl
  | [_], _ => rfl
  | a :: b :: r, h => by
    rw [List.pairwise_cons] at h
    show (lessN a b && risesN (b :: r)) = true
    rw [h.1 b (by simp), pw_rises h.2]
    rfl
mutual
theorem lay_len : ∀ (C : List Nat) (p : Pt), (layPt C p).1.length ≤ C.length + 1309 * nodesPt p
  | C, .old .. => by simp [layPt, nodesPt]
  | C, .leaf _ its => by
    simp only [layPt, nodesPt, List.length_append, recOf_length]
    have := putNd_length (lfOf its)
    omega
  | C, .node _ kids => by
    have h := lays_len C kids
    simp only [layPt, nodesPt, List.length_append, recOf_length]
    have := putNd_length (overNd kids (layPts C kids).2)
    omega
theorem lays_len : ∀ (C : List Nat) (ps : List Pt), (layPts C ps).1.length ≤ C.length + 1309 * nodesPts ps
  | C, [] => by simp [layPts, nodesPts]
  | C, p :: r => by
    have h1 := lay_len C p
    have h2 := lays_len (layPt C p).1 r
    simp only [layPts, nodesPts]
    omega
end
theorem lay_off : ∀ {h : Nat} {root : Bool} {p : Pt} {l : List NIt} (C : List Nat), Rep h root p l → ∃ n : Nat, (layPt C p).2.off = n ∧ 1 ≤ n ∧ n ≤ 256 + (layPt C p).1.length
  | 0, _, _, _, _, hr => by simp [Rep] at hr
  | _ + 1, _, .old .., _, _, hr => by simp [Rep] at hr
  | _ + 1, _, .leaf _ its, _, C, _ => ⟨256 + C.length, by simp only [layPt], by omega, by simp only [layPt, List.length_append]; omega⟩
  | _ + 1, _, .node _ kids, _, C, _ => ⟨256 + (layPts C kids).1.length, by simp only [layPt], by omega, by simp only [layPt, List.length_append]; omega⟩
def FineIt (i : NIt) : Prop := mayIt i = true ∧ (∀ c ∈ i.k, c < 256) ∧ ∀ c ∈ i.v, c < 256
theorem ok_kids {h : Nat} (ih : ∀ (p : Pt) (C : List Nat) (l : List NIt), Rep h false p l → l.Pairwise BelowIt → (∀ i ∈ l, FineIt i) → C.length + 1309 * nodesPt p ≤ 1000000000000 → l.length ≤ 1000000 → okPt C p) :
    ∀ (ps : List Pt) (C : List Nat) (ls : List (List NIt)), ls.length = ps.length → (∀ i (hi : i < ps.length) (hi' : i < ls.length), Rep h false ps[i] ls[i]) → (∀ l ∈ ls, l.Pairwise BelowIt ∧ (∀ i ∈ l, FineIt i) ∧ l.length ≤ 1000000) → C.length + 1309 * nodesPts ps ≤ 1000000000000 →
      okPts C ps ∧ ∀ d ∈ (layPts C ps).2, (1 ≤ d.off ∧ d.off ≤ 9223372036854775807)
  | [], C, ls, _, _, _, _ => by simp [okPts, layPts]
  | p :: r, C, [], hl, _, _, _ => by simp at hl
  | p :: r, C, a :: ls, hl, hr, hp, hn => by
    simp only [nodesPts] at hn
    have ha := hp a (by simp)
    have hr0 := hr 0 (by simp) (by simp)
    simp only [List.getElem_cons_zero] at hr0
    have h1 := ih p C a hr0 ha.1 ha.2.1 (by omega) ha.2.2
    have hlen := lay_len C p
    obtain ⟨h2, h3⟩ := ok_kids ih r (layPt C p).1 ls (by simpa using hl) (fun i hi hi' => hr (i + 1) (by simpa using hi) (by simpa using hi')) (fun l hl => hp l (List.mem_cons_of_mem _ hl)) (by omega)
    simp only [okPts, layPts]
    refine ⟨⟨h1, h2⟩, fun d hd => ?_⟩
    rcases List.mem_cons.1 hd with rfl | hd
    · obtain ⟨n, e, n1, n2⟩ := lay_off C hr0
      rw [e]
      omega
    · exact h3 d hd
theorem rep_ok {Z : List Nat} (hZ : Z.length = 256) : ∀ (h : Nat) (root : Bool) (p : Pt) (C : List Nat) (l : List NIt), Rep h root p l → l.Pairwise BelowIt → (∀ i ∈ l, FineIt i) → C.length + 1309 * nodesPt p ≤ 1000000000000 → l.length ≤ 1000000 → okPt C p
  | 0, _, _, _, _, hr, _, _, _, _ => by simp [Rep] at hr
  | _ + 1, _, .old .., _, _, hr, _, _, _, _ => by simp [Rep] at hr
  | h + 1, root, .leaf k its, C, l, hr, hp, hf, _, _ => by
    simp only [Rep] at hr
    obtain ⟨rfl, rfl, hne, rfl, h4, h8⟩ := hr
    simp only [okPt]
    have h1 : 1 ≤ l.length := by
      cases l with
      | nil => exact absurd rfl hne
      | cons _ _ => simp
    refine ⟨?_, ⟨fun i hi => (hf i hi).2, fun k hk => (by cases hk), fun d hd => (by cases hd)⟩⟩
    unfold mayNd
    rw [if_pos (show (lfOf l).leaf = true from rfl), mayLf_iff]
    refine ⟨⟨h1, h8⟩, fun i hi => (hf i hi).1, pw_rises ?_, rfl, rfl⟩
    rw [List.pairwise_map]
    exact hp
  | h + 1, root, .node k kids, C, l, hr, hp, hf, hn, hlm => by
    simp only [Rep] at hr
    obtain ⟨rfl, h28, h4, ls, hls, rfl, hk⟩ := hr
    simp only [nodesPt] at hn
    have hpl : ∀ l ∈ ls, l.Pairwise BelowIt ∧ (∀ i ∈ l, FineIt i) ∧ l.length ≤ 1000000 := fun a ha => ⟨hp.sublist (List.sublist_flatten_of_mem ha), fun i hi => hf i (List.mem_flatten.2 ⟨a, ha, hi⟩), Nat.le_trans (List.sublist_flatten_of_mem ha).length_le hlm⟩
    obtain ⟨h1, h2⟩ := ok_kids (h := h) (fun p C l a b c d e => rep_ok hZ h false p C l a b c d e) kids C ls hls hk hpl (by omega)
    obtain ⟨h3, h5⟩ := lay_kids (Z := Z) (fun p C l => lay_doc hZ h false p C l) kids C ls h1 hls hk (fun a ha => (hpl a ha).1)
    have hlen := layPts_len C kids
    simp only [okPt]
    have hct : ∀ d ∈ (layPts C kids).2, 1 ≤ d.ct ∧ d.ct ≤ 1000000 := fun d hd => by
      obtain ⟨i, hi, rfl⟩ := List.getElem_of_mem hd
      have hi' : i < ls.length := by omega
      have hik : i < kids.length := by omega
      rw [(h3 i hi hi').2]
      refine ⟨?_, (hpl _ (List.getElem_mem hi')).2.2⟩
      have := (hk i hik hi').head.1
      cases he : ls[i] with
      | nil => exact absurd he this
      | cons _ _ => simp
    have hkey : ∀ i (hik : i < kids.length) (hi' : i < ls.length), ∃ j ∈ ls[i], j.k = kids[i].key := fun i hik hi' => by
      obtain ⟨hne, hh⟩ := (hk i hik hi').head
      cases he : ls[i] with
      | nil => exact absurd he hne
      | cons j r =>
        rw [he] at hh
        exact ⟨j, by simp, by simpa using hh⟩
    refine ⟨h1, ?_, ⟨fun i hi => (by cases hi), fun k hkm => ?_, fun d hd => ⟨(h2 d hd).2, by have := (hct d hd).2; omega⟩⟩⟩
    · unfold mayNd
      rw [if_neg (by simp [overNd]), mayIn_iff]
      refine ⟨⟨by simp only [overNd]; omega, by simp only [overNd]; omega⟩, by simp [overNd, hlen], fun k hkm => ?_, pw_rises ?_, fun d hd => ?_, rfl⟩
      · simp only [overNd, List.mem_map] at hkm
        obtain ⟨q, hq, rfl⟩ := hkm
        obtain ⟨i, hi, rfl⟩ := List.getElem_of_mem hq
        obtain ⟨j, hj, e⟩ := hkey i hi (by omega)
        rw [← e]
        exact ((mayIt_iff j).1 ((hpl _ (List.getElem_mem (by omega))).2.1 j hj).1).1
      · simp only [overNd]
        rw [List.pairwise_map, List.pairwise_iff_getElem]
        intro i j hi hj hij
        obtain ⟨a, ha, ea⟩ := hkey i hi (by omega)
        obtain ⟨b, hb, eb⟩ := hkey j hj (by omega)
        rw [← ea, ← eb]
        have hpw := (List.pairwise_flatten.1 hp).2
        exact (List.pairwise_iff_getElem.1 hpw) i j (by omega) (by omega) hij a ha b hb
      · rw [mayKd_iff]
        have := hct d hd
        exact ⟨(h2 d hd).1, this.1, by omega⟩
    · simp only [overNd, List.mem_map] at hkm
      obtain ⟨q, hq, rfl⟩ := hkm
      obtain ⟨i, hi, rfl⟩ := List.getElem_of_mem hq
      obtain ⟨j, hj, e⟩ := hkey i hi (by omega)
      rw [← e]
      exact ((hpl _ (List.getElem_mem (by omega))).2.1 j hj).2.1
end Go.By
