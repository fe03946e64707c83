/- bytes.Clone. -/
import Derived.Test.YtajfcnaifegonaaMSumE
import Derived.Lib.SliceRun
import Derived.Deep.RegionWith
namespace Go.Proofs.Ytajfcnaifegonaa.Rc
open Go Go.RowKit Go.By
set_option maxRecDepth 100000 in
theorem clone_any (v : Value) (l : List Nat) (w : World) (hv : Bytes w v l) (hl : l.length ≤ 17592186044416) :
    Calls Try.prog 38 #[v] w fun e w' => ∃ v', e = .returned v' ∧ w'.ownsRow w.heap.size 5 1 v' l.length (cellsOf l) ∧ Below w.heap.size w w' := by
  obtain ⟨p, cap, rfl, _⟩ := hv.any
  have HV := Lib.hid hv
  clear hv
  have hn : ∀ (q : Option Addr) (n c : Nat) (w0 : World), (binOp .eql 31 (.slice q n c) (.slice none 0 0)).run Try.prog w0 = .ok (.bool q.isNone) w0 := fun q n c w0 => Lib.run_eql_slice_nil w0 _ _ q n c 0 0 byT.slice
  cases p with
  | none =>
    have hl0 : l = [] := by
      rcases HV.out.out with ⟨_, h⟩ | ⟨a, h, _⟩ | ⟨b, o, c, h, _⟩
      · exact h
      · cases h
      · cases h
    subst hl0
    go_enter Try.func38, Try.ntmps38
    go_wp2
    go_ret
    exact ⟨_, rfl, World.ownsRow_nil _ _ _ _, Below.refl _ _⟩
  | some ad =>
    go_enter Try.func38, Try.ntmps38
    go_wp2_with (at_builtin; refine wpList_append_bytes rfl (.tmp 5) (.tmp 6) byT rfl w.heap.size (.slice (some ⟨w.heap.size, 0, none⟩) 0 0) 0 [] rfl (World.ownsRow_made w #[] 0 (Nat.le_refl _) (by decide) rfl) (.slice (some ad) l.length cap) l rfl (HV.out.below ((Below.refl _ _).alloc (Nat.le_refl _) _)) (by omega) (by simp) ?_; intro v1 w1 hown hgrow hnil)
    have hb : Below w.heap.size w w1 := ⟨hgrow.os, hgrow.tape, hgrow.output, by have := hgrow.size; simp at this; omega, fun k hk => (hgrow.block k (by simp; omega) (by simp [Value.ownBlock]; omega)).trans (Below.heap_alloc w _ k hk)⟩
    have hown0 : w1.ownsRow w.heap.size 5 1 v1 l.length (cellsOf l) := by
      have h := hown
      rw [Nat.zero_add, List.nil_append] at h
      exact h
    have HOWN := Lib.hid hown0; have HB := Lib.hid hb
    obtain ⟨p1, c1, rfl⟩ : ∃ p c, v1 = .slice p l.length c := by
      rcases hown.2 with ⟨h, h2⟩ | ⟨g, c, _, h, _⟩
      · exact ⟨none, 0, by rw [h]; congr 1; omega⟩
      · exact ⟨_, c, by rw [h]; congr 1; omega⟩
    clear hown hgrow hnil hb hown0
    go_wp2
    go_ret
    exact ⟨_, rfl, HOWN.out, HB.out⟩
end Go.Proofs.Ytajfcnaifegonaa.Rc
/- rec: a record is taken. -/
namespace Go.Proofs.Ytajfcnaifegonaa.Rc
open Go Go.RowKit Go.By
def Took (B : Nat) (w0 : World) (l : List Nat) (e : Ending) (w' : World) : Prop :=
  ∃ v, Below B w0 w' ∧ (if isRec l then e = .returned (.tuple #[.int .u8 (atB l 4 : Nat), v, .int .i64 (9 + bodyLen l : Nat), .int .i64 0]) ∧ w'.ownsRow B 5 1 v (pc l 5 (bodyLen l)).length (cellsOf (pc l 5 (bodyLen l)))
    else e = .returned (.tuple #[.int .u8 0, .slice none 0 0, .int .i64 0, .int .i64 2]))
theorem took_yes {B : Nat} {w0 w' : World} {l : List Nat} {v : Value} (h : isRec l = true) (hb : Below B w0 w') (ho : w'.ownsRow B 5 1 v (pc l 5 (bodyLen l)).length (cellsOf (pc l 5 (bodyLen l)))) : Took B w0 l (.returned (.tuple #[.int .u8 (atB l 4 : Nat), v, .int .i64 (9 + bodyLen l : Nat), .int .i64 0])) w' := ⟨v, hb, by rw [if_pos h]; exact ⟨rfl, ho⟩⟩
theorem took_no {B : Nat} {w0 w' : World} {l : List Nat} (h : isRec l = false) (hb : Below B w0 w') : Took B w0 l (.returned (.tuple #[.int .u8 0, .slice none 0 0, .int .i64 0, .int .i64 2])) w' := ⟨.slice none 0 0, hb, by rw [h]; rfl⟩
end Go.Proofs.Ytajfcnaifegonaa.Rc
