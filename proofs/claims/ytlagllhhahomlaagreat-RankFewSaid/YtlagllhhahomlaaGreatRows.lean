/-
  No cell of these rows narrows 'for every input' (looked for: loops, veiled, ifaces, maps, wideKeys, modest, calm, conditions, laid).
  DERIVED. THE GIVEN ROWS OF THIS SEAT. 6 by the template 'for every input the law returns true; each argument reads behind the call as it read before'; 0 by the template 'total and deterministic' (their statements: YtlagllhhahomlaaGreatTotals.lean).
  GIVEN WITH THE SEED: the statements are not yours to turn. If you find one false, say at which input.
  Laid BY PROGRAM, IN A SANDBOX (cutbox-rows.mjs): the forced cells as the released guide's own fill.sh prints them over the translation c09c7026cf57a18e… (all of the seat's roots in one cut). By AI agents, Wed Nov 11 2026. No macro, syntax, notation, axiom, sorry.
-/
import Derived.Test.YtlagllhhahomlaaGreatChecked
import GoSem.Claim
import GoSem.ClaimJoined
import GoSem.ClaimMapViews
import Derived.JoinedTies
import Derived.KernelRfl
namespace Go.Proofs.YtlagllhhahomlaaGreat
/- THE CELL 'sum', in the pinned program and in every row, IS THE sha256 OF THE DUMP (.gsa) THAT YtlagllhhahomlaaGreatProg.lean LOADS. Nothing in Lean hashes anything: it is a label: what it is worth is what the hold of that sum in a sandbox is worth. -/
noncomputable def Tryz.pinned : Pinned := { name := "ytlagllhhahomlaagreat", sum := "c09c7026cf57a18e09f411c96470a00dc0b39aa539a02be85e12c6d546dd2e46", checked := Tryz.checked }
namespace Rows
def none {H : Type} : Left H := { results := [], args := [] }

/-- 'pandectlaw12.TreeAll': WHATEVER THE INPUT: true; the input reads as it did. -/
def treeAllSpec : ChangeSpec := { name := "treeAll", fn := fun _ => fun
  | [d1, d2, d3] => { results := [.lit (.bool true)], args := [d1, d2, d3] }
  | _ => none }
def treeAllRow : OpenClaim := { program := "ytlagllhhahomlaagreat", sum := "c09c7026cf57a18e09f411c96470a00dc0b39aa539a02be85e12c6d546dd2e46", func := "pandect/pandectlaw12.TreeAll", spec := "treeAll", inPlace := ["internal/bytealg.Compare"], unfollowed := true, recurses := true, apart := false }
def TreeAllSaid : Prop := treeAllRow.holds Tryz.pinned (OpenSpec.ofChange treeAllSpec)

/-- ITS FALSE NEIGHBOUR: 'it returns false'. Refute it at one input. -/
def treeAllWrong : ChangeSpec := { name := "treeAll", fn := fun _ => fun
  | [d1, d2, d3] => { results := [.lit (.bool false)], args := [d1, d2, d3] }
  | _ => none }
def TreeAllWrongFalsely : Prop := treeAllRow.holds Tryz.pinned (OpenSpec.ofChange treeAllWrong)

/-- 'pandectlaw13.BatchDeep': WHATEVER THE INPUT: true; the input reads as it did. -/
def batchDeepSpec : ChangeSpec := { name := "batchDeep", fn := fun _ => fun
  | [d1, d2] => { results := [.lit (.bool true)], args := [d1, d2] }
  | _ => none }
def batchDeepRow : OpenClaim := { program := "ytlagllhhahomlaagreat", sum := "c09c7026cf57a18e09f411c96470a00dc0b39aa539a02be85e12c6d546dd2e46", func := "pandect/pandectlaw13.BatchDeep", spec := "batchDeep", inPlace := ["internal/bytealg.Compare"], unfollowed := true, recurses := true, apart := false }
def BatchDeepSaid : Prop := batchDeepRow.holds Tryz.pinned (OpenSpec.ofChange batchDeepSpec)

/-- ITS FALSE NEIGHBOUR: 'it returns false'. Refute it at one input. -/
def batchDeepWrong : ChangeSpec := { name := "batchDeep", fn := fun _ => fun
  | [d1, d2] => { results := [.lit (.bool false)], args := [d1, d2] }
  | _ => none }
def BatchDeepWrongFalsely : Prop := batchDeepRow.holds Tryz.pinned (OpenSpec.ofChange batchDeepWrong)

/-- 'pandectlaw13.BatchMany': WHATEVER THE INPUT: true; the input reads as it did. -/
def batchManySpec : ChangeSpec := { name := "batchMany", fn := fun _ => fun
  | [d1, d2, d3] => { results := [.lit (.bool true)], args := [d1, d2, d3] }
  | _ => none }
def batchManyRow : OpenClaim := { program := "ytlagllhhahomlaagreat", sum := "c09c7026cf57a18e09f411c96470a00dc0b39aa539a02be85e12c6d546dd2e46", func := "pandect/pandectlaw13.BatchMany", spec := "batchMany", inPlace := ["internal/bytealg.Compare"], unfollowed := true, recurses := true, apart := false }
def BatchManySaid : Prop := batchManyRow.holds Tryz.pinned (OpenSpec.ofChange batchManySpec)

/-- ITS FALSE NEIGHBOUR: 'it returns false'. Refute it at one input. -/
def batchManyWrong : ChangeSpec := { name := "batchMany", fn := fun _ => fun
  | [d1, d2, d3] => { results := [.lit (.bool false)], args := [d1, d2, d3] }
  | _ => none }
def BatchManyWrongFalsely : Prop := batchManyRow.holds Tryz.pinned (OpenSpec.ofChange batchManyWrong)

/-- 'pandectlaw13.BatchNone': WHATEVER THE INPUT: true; the input reads as it did. -/
def batchNoneSpec : ChangeSpec := { name := "batchNone", fn := fun _ => fun
  | [d] => { results := [.lit (.bool true)], args := [d] }
  | _ => none }
def batchNoneRow : OpenClaim := { program := "ytlagllhhahomlaagreat", sum := "c09c7026cf57a18e09f411c96470a00dc0b39aa539a02be85e12c6d546dd2e46", func := "pandect/pandectlaw13.BatchNone", spec := "batchNone", inPlace := ["internal/bytealg.Compare"], unfollowed := true, recurses := true, apart := false }
def BatchNoneSaid : Prop := batchNoneRow.holds Tryz.pinned (OpenSpec.ofChange batchNoneSpec)

/-- ITS FALSE NEIGHBOUR: 'it returns false'. Refute it at one input. -/
def batchNoneWrong : ChangeSpec := { name := "batchNone", fn := fun _ => fun
  | [d] => { results := [.lit (.bool false)], args := [d] }
  | _ => none }
def BatchNoneWrongFalsely : Prop := batchNoneRow.holds Tryz.pinned (OpenSpec.ofChange batchNoneWrong)

/-- 'pandectlaw14.TreeFails': WHATEVER THE INPUT: true; the input reads as it did. -/
def treeFailsSpec : ChangeSpec := { name := "treeFails", fn := fun _ => fun
  | [d1, d2] => { results := [.lit (.bool true)], args := [d1, d2] }
  | _ => none }
def treeFailsRow : OpenClaim := { program := "ytlagllhhahomlaagreat", sum := "c09c7026cf57a18e09f411c96470a00dc0b39aa539a02be85e12c6d546dd2e46", func := "pandect/pandectlaw14.TreeFails", spec := "treeFails", inPlace := ["internal/bytealg.Compare"], unfollowed := true, recurses := true, apart := false }
def TreeFailsSaid : Prop := treeFailsRow.holds Tryz.pinned (OpenSpec.ofChange treeFailsSpec)

/-- ITS FALSE NEIGHBOUR: 'it returns false'. Refute it at one input. -/
def treeFailsWrong : ChangeSpec := { name := "treeFails", fn := fun _ => fun
  | [d1, d2] => { results := [.lit (.bool false)], args := [d1, d2] }
  | _ => none }
def TreeFailsWrongFalsely : Prop := treeFailsRow.holds Tryz.pinned (OpenSpec.ofChange treeFailsWrong)

/-- 'pandectlaw15.RankFew': WHATEVER THE INPUT: true; the input reads as it did. -/
def rankFewSpec : ChangeSpec := { name := "rankFew", fn := fun _ => fun
  | [d1, d2] => { results := [.lit (.bool true)], args := [d1, d2] }
  | _ => none }
def rankFewRow : OpenClaim := { program := "ytlagllhhahomlaagreat", sum := "c09c7026cf57a18e09f411c96470a00dc0b39aa539a02be85e12c6d546dd2e46", func := "pandect/pandectlaw15.RankFew", spec := "rankFew", inPlace := ["internal/bytealg.Compare"], unfollowed := true, recurses := true, apart := false }
def RankFewSaid : Prop := rankFewRow.holds Tryz.pinned (OpenSpec.ofChange rankFewSpec)

/-- ITS FALSE NEIGHBOUR: 'it returns false'. Refute it at one input. -/
def rankFewWrong : ChangeSpec := { name := "rankFew", fn := fun _ => fun
  | [d1, d2] => { results := [.lit (.bool false)], args := [d1, d2] }
  | _ => none }
def RankFewWrongFalsely : Prop := rankFewRow.holds Tryz.pinned (OpenSpec.ofChange rankFewWrong)

/- THE SECOND FORM. 'bulk': how many values and letters a reading holds, each counted each time it is reached (what is shared counts as often as it is met; a slice's spare places count too). A statement '..UptoSaid' is the law's where the arguments, and the package variables that the reading takes, are together of bulk at most 1048576: NARROWER than '..Said'. Prove '..Said' where nothing that the law and all that it calls make is longer than what came in: it says more and counts as full. Else prove '..UptoSaid'. A law counts once. -/
mutual
def uptoBulk {H : Type} : DataW H → Nat
  | .lit (.string bytes) => bytes.length + 1
  | .lit _ => 1
  | .nil => 1
  | .ptr d => uptoBulk d + 1
  | .slice elems spare => uptoBulkAll elems + uptoBulkAll spare + 1
  | .agg parts => uptoBulkAll parts + 1
  | .iface _ d => uptoBulk d + 1
  | .map entries => uptoBulkEntries entries + 1
  | .held _ => 1
def uptoBulkAll {H : Type} : List (DataW H) → Nat
  | [] => 0
  | d :: r => uptoBulk d + uptoBulkAll r
def uptoBulkEntries {H : Type} : List (Lit × DataW H) → Nat
  | [] => 0
  | x :: r => uptoBulkEntry x + uptoBulkEntries r
def uptoBulkEntry {H : Type} : Lit × DataW H → Nat
  | (.string bytes, d) => bytes.length + uptoBulk d + 1
  | (_, d) => uptoBulk d + 1
 end
def uptoSmall : (H : Type) → List (DataW H) → Bool := fun _ ds => decide (uptoBulkAll ds ≤ 1048576)
def OpenSpec.upto (s : _root_.Go.ChangeSpec) : _root_.Go.OpenSpec := { _root_.Go.OpenSpec.ofChange s with cond := some uptoSmall }

/-- 'pandectlaw12.TreeAll', WHERE WHAT IT READS IS OF BULK AT MOST 1048576: true; the input reads as it did. -/
def treeAllUptoRow : OpenClaim := { program := "ytlagllhhahomlaagreat", sum := "c09c7026cf57a18e09f411c96470a00dc0b39aa539a02be85e12c6d546dd2e46", func := "pandect/pandectlaw12.TreeAll", spec := "treeAll", inPlace := ["internal/bytealg.Compare"], unfollowed := true, recurses := true, apart := false, narrowed := true }
def TreeAllUptoSaid : Prop := treeAllUptoRow.holds Tryz.pinned (OpenSpec.upto treeAllSpec)

/-- 'pandectlaw13.BatchDeep', WHERE WHAT IT READS IS OF BULK AT MOST 1048576: true; the input reads as it did. -/
def batchDeepUptoRow : OpenClaim := { program := "ytlagllhhahomlaagreat", sum := "c09c7026cf57a18e09f411c96470a00dc0b39aa539a02be85e12c6d546dd2e46", func := "pandect/pandectlaw13.BatchDeep", spec := "batchDeep", inPlace := ["internal/bytealg.Compare"], unfollowed := true, recurses := true, apart := false, narrowed := true }
def BatchDeepUptoSaid : Prop := batchDeepUptoRow.holds Tryz.pinned (OpenSpec.upto batchDeepSpec)

/-- 'pandectlaw13.BatchMany', WHERE WHAT IT READS IS OF BULK AT MOST 1048576: true; the input reads as it did. -/
def batchManyUptoRow : OpenClaim := { program := "ytlagllhhahomlaagreat", sum := "c09c7026cf57a18e09f411c96470a00dc0b39aa539a02be85e12c6d546dd2e46", func := "pandect/pandectlaw13.BatchMany", spec := "batchMany", inPlace := ["internal/bytealg.Compare"], unfollowed := true, recurses := true, apart := false, narrowed := true }
def BatchManyUptoSaid : Prop := batchManyUptoRow.holds Tryz.pinned (OpenSpec.upto batchManySpec)

/-- 'pandectlaw13.BatchNone', WHERE WHAT IT READS IS OF BULK AT MOST 1048576: true; the input reads as it did. -/
def batchNoneUptoRow : OpenClaim := { program := "ytlagllhhahomlaagreat", sum := "c09c7026cf57a18e09f411c96470a00dc0b39aa539a02be85e12c6d546dd2e46", func := "pandect/pandectlaw13.BatchNone", spec := "batchNone", inPlace := ["internal/bytealg.Compare"], unfollowed := true, recurses := true, apart := false, narrowed := true }
def BatchNoneUptoSaid : Prop := batchNoneUptoRow.holds Tryz.pinned (OpenSpec.upto batchNoneSpec)

/-- 'pandectlaw14.TreeFails', WHERE WHAT IT READS IS OF BULK AT MOST 1048576: true; the input reads as it did. -/
def treeFailsUptoRow : OpenClaim := { program := "ytlagllhhahomlaagreat", sum := "c09c7026cf57a18e09f411c96470a00dc0b39aa539a02be85e12c6d546dd2e46", func := "pandect/pandectlaw14.TreeFails", spec := "treeFails", inPlace := ["internal/bytealg.Compare"], unfollowed := true, recurses := true, apart := false, narrowed := true }
def TreeFailsUptoSaid : Prop := treeFailsUptoRow.holds Tryz.pinned (OpenSpec.upto treeFailsSpec)

/-- 'pandectlaw15.RankFew', WHERE WHAT IT READS IS OF BULK AT MOST 1048576: true; the input reads as it did. -/
def rankFewUptoRow : OpenClaim := { program := "ytlagllhhahomlaagreat", sum := "c09c7026cf57a18e09f411c96470a00dc0b39aa539a02be85e12c6d546dd2e46", func := "pandect/pandectlaw15.RankFew", spec := "rankFew", inPlace := ["internal/bytealg.Compare"], unfollowed := true, recurses := true, apart := false, narrowed := true }
def RankFewUptoSaid : Prop := rankFewUptoRow.holds Tryz.pinned (OpenSpec.upto rankFewSpec)

end Rows
end Go.Proofs.YtlagllhhahomlaaGreat
