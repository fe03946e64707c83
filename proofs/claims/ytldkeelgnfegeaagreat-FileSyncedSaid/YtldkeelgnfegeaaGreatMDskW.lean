/- The disk: maps.Clone; a name is struck out. -/
import Derived.Test.YtldkeelgnfegeaaGreatMDskS
import Derived.Test.YtldkeelgnfegeaaGreatMapB

namespace Go.Proofs.YtldkeelgnfegeaaGreat
open Go Go.RowKit Go.By

set_option maxRecDepth 100000 in
theorem redoRemove_any (s : ByteArray) (b : Nat) (m : List (ByteArray × Nat)) (w : World) (hm : Mp.Is w b strV natV m) :
    Calls Tryz.prog 53 #[.agg #[.string s], .map (some b)] w fun e w' => e = .returned (.tuple #[]) ∧ Mp.Is w' b strV natV (Mp.del m s) ∧ w.grownBy w' (some b) := by
  have hlt := hm.lt
  have hm1 : Mp.Is (w.alloc (.cells #[.string s] 108)) b strV natV m := hm.of_heap (Below.heap_alloc _ _ _ hlt)
  obtain ⟨es, clock, hh⟩ : ∃ es clock, (w.alloc (.cells #[.string s] 108)).heap[b]? = some (.map es clock) := let ⟨⟨es, clock, h, _⟩, _⟩ := hm1; ⟨es, clock, h⟩
  obtain ⟨o, hrun0, hm2⟩ := hm1.delete strK namesT s 0
  have hrun : ∀ ty, (Builtin.delete_ #[51, 9] ty #[.map (some b), .string s]).run Tryz.prog (w.alloc (.cells #[.string s] 108)) = .ok (.tuple #[]) { (w.alloc (.cells #[.string s] 108)) with heap := (w.alloc (.cells #[.string s] 108)).heap.setIfInBounds b o } := fun _ => hrun0
  have hg := set_grown (o' := o) hh
  generalize ({ (w.alloc (.cells #[.string s] 108)) with heap := (w.alloc (.cells #[.string s] 108)).heap.setIfInBounds b o } : World) = w2 at *
  have fin : Mp.Is w2 b strV natV (Mp.del m s) ∧ w.grownBy w2 (some b) := ⟨hm2, ⟨hg.os, hg.tape, hg.output, Nat.le_trans (by simp) hg.size, fun k hk hn => (hg.block k (by simp; omega) hn).trans (Below.heap_alloc _ _ _ hk)⟩⟩
  have FIN := Lib.hid fin
  clear hm hm1 hm2 hg fin hlt hrun0 hh
  go_enter Tryz.func53, Tryz.ntmps53
  go_wp2
  go_returns
  exact ⟨rfl, FIN.out⟩

theorem assertNames (T : TypeId) (v : Value) (w : World) : (Instr.typeAssert (.iface 51 v) T 51 false).run Tryz.prog w = .ok v w := by kernel_rfl

/-- What maps.Clone makes of a map: one with the same entries, in a block of its own. -/
theorem cloneNil_any (w : World) : Calls Tryz.prog 54 #[.map none] w fun e w' => e = .returned (.map none) ∧ w = w' := by
  have hne := fun (w : World) (r : Option Nat) => Go.run_eql_map_nil (P := Tryz.prog) w 51 9 3 r namesT
  go_enter Tryz.func54, Tryz.ntmps54
  go_wp2
  go_ret
  exact ⟨rfl, rfl⟩

set_option maxRecDepth 100000 in
theorem cloneMap_any (b : Nat) (es : Array MapEntry) (clock : Nat) (w : World) (hb : w.heap[b]? = some (.map es clock)) :
    Calls Tryz.prog 54 #[.map (some b)] w fun e w' => e = .returned (.map (some w.heap.size)) ∧ w' = w.alloc (.map es clock) := by
  have hne := fun (w : World) (r : Option Nat) => Go.run_eql_map_nil (P := Tryz.prog) w 51 9 3 r namesT
  go_enter Tryz.func54, Tryz.ntmps54
  have hcl : (Extern.MapsClone.clone #[.iface 51 (.map (some b))]).run Tryz.prog w = .ok (.iface 51 (.map (some w.heap.size))) (w.alloc (.map es clock)) := by
    have e : Extern.MapsClone.clone #[.iface 51 (.map (some b))] = (do
        let o ← getObj b
        match o with
        | .map entries clock => do let r ← newObj (.map entries clock); pure (.iface 51 (.map (some r)))
        | _ => stuck "maps.clone: a map expected" : Sem Value) := rfl
    rw [e]; simp [Go.MapKept.run_getObj_map hb]
  have hxt := run_callFunc_extern Tryz.func69 (by kernel_rfl) (by kernel_rfl) (by kernel_rfl) (show Extern.find Tryz.f69 = some Extern.MapsClone.clone by kernel_rfl) #[.iface 51 (.map (some b))] w
  rw [hcl] at hxt
  have hta := assertNames
  clear hcl
  go_wp2
  go_ret
  exact ⟨rfl, rfl⟩
end Go.Proofs.YtldkeelgnfegeaaGreat
