/- Arguments that are heads, answers, marks, opened. -/
import Derived.Test.YtlagllhhahomlaaGreatMBodyR
import Derived.Test.YtlagllhhahomlaaGreatMHdP
namespace Go.By
open Go Go.RowKit Go.ChangeShapes Go.WideShapes Go.ChangeAt Go.Deep
end Go.By
/- Arguments that are nodes, opened. -/
namespace Go.By
open Go Go.RowKit Go.ChangeShapes Go.WideShapes Go.ChangeAt Go.Deep
def KBytes : Kind (List Nat) where
  width := 1
  is w cs l := ∃ v, cs = [v] ∧ Bytes w v l
  len h := by obtain ⟨v, rfl, _⟩ := h; rfl
  stays h hb := by obtain ⟨v, rfl, h⟩ := h; exact ⟨v, rfl, h.below hb⟩
def KItem : Kind NIt where
  width := 2
  is w cs i := ∃ a b, cs = [a, b] ∧ Bytes w a i.k ∧ Bytes w b i.v
  len h := by obtain ⟨a, b, rfl, _⟩ := h; rfl
  stays h hb := by obtain ⟨a, b, rfl, h1, h2⟩ := h; exact ⟨a, b, rfl, h1.below hb, h2.below hb⟩
def KRef : Kind NKd where
  width := 2
  is _ cs d := cs = [.int .i64 d.off, .int .u64 (d.ct : Nat)] ∧ d.off ≤ 9223372036854775807 ∧ d.ct < 18446744073709551616
  len h := by obtain ⟨rfl, _⟩ := h; rfl
  stays h _ := h
structure IsNd (w : World) (v : Value) (n : Nd) (pi : Option Addr) (ci : Nat) (pk : Option Addr) (ck : Nat) (pd : Option Addr) (cd : Nat) : Prop where
  val : v = .agg #[.bool n.leaf, .slice pi n.its.length ci, .slice pk n.ks.length ck, .slice pd n.kids.length cd]
  its : RowAt KItem w pi ci n.its
  ks : RowAt KBytes w pk ck n.ks
  kids : RowAt KRef w pd cd n.kids
theorem IsNd.below {w w' : World} {v : Value} {n : Nd} {pi pk pd : Option Addr} {ci ck cd : Nat} (h : IsNd w v n pi ci pk ck pd cd) (hb : Below w.heap.size w w') : IsNd w' v n pi ci pk ck pd cd :=
  ⟨h.val, h.its.below hb, h.ks.below hb, h.kids.below hb⟩
theorem IsNd.fine {w : World} {v : Value} {n : Nd} {pi pk pd : Option Addr} {ci ck cd : Nat} (h : IsNd w v n pi ci pk ck pd cd) : NdFine n := by
  refine ⟨fun i hi => ?_, fun k hk => ?_, fun d hd => ?_⟩
  · obtain ⟨j, hj, rfl⟩ := List.getElem_of_mem hi
    obtain ⟨_, _, _, _, _, a, b, _, h1, h2⟩ := h.its.at_ j hj
    exact ⟨h1.small, h2.small⟩
  · obtain ⟨j, hj, rfl⟩ := List.getElem_of_mem hk
    obtain ⟨_, _, _, _, _, v, _, h1⟩ := h.ks.at_ j hj
    exact h1.small
  · obtain ⟨j, hj, rfl⟩ := List.getElem_of_mem hd
    obtain ⟨_, _, _, _, _, _, h1⟩ := h.kids.at_ j hj
    exact h1
end Go.By
