/-
  No cell of these rows narrows 'for every input' (looked for: loops, veiled, ifaces, maps, wideKeys, modest, calm, conditions, laid).
  DERIVED. THE GIVEN ROWS OF THIS SEAT. 3 by the template 'for every input the law returns true; each argument reads behind the call as it read before'; 0 by the template 'total and deterministic' (their statements: YtldkeelgnfegeaaGreatTotals.lean).
  GIVEN WITH THE SEED: the statements are not yours to turn. If you find one false, say at which input.
  Laid BY PROGRAM, IN A SANDBOX (cutbox-rows.mjs): the forced cells as the released guide's own fill.sh prints them over the translation d5ac0dbb32aca8bc… (all of the seat's roots in one cut). By AI agents, Wed Nov 11 2026. No macro, syntax, notation, axiom, sorry.
-/
import Derived.Test.YtldkeelgnfegeaaGreatChecked
import GoSem.Claim
import GoSem.ClaimJoined
import GoSem.ClaimMapViews
import Derived.JoinedTies
import Derived.KernelRfl
namespace Go.Proofs.YtldkeelgnfegeaaGreat
/- THE CELL 'sum', in the pinned program and in every row, IS THE sha256 OF THE DUMP (.gsa) THAT YtldkeelgnfegeaaGreatProg.lean LOADS. Nothing in Lean hashes anything: it is a label: what it is worth is what the hold of that sum in a sandbox is worth. -/
noncomputable def Tryz.pinned : Pinned := { name := "ytldkeelgnfegeaagreat", sum := "d5ac0dbb32aca8bc89b17061f64c120eb374ef8ff078cbc807d1fe874dd0a032", checked := Tryz.checked }
namespace Rows
def none {H : Type} : Left H := { results := [], args := [] }

/-- 'pandectlaw5.FileSynced': WHATEVER THE INPUT: true; the input reads as it did. -/
def fileSyncedSpec : ChangeSpec := { name := "fileSynced", fn := fun _ => fun
  | [d1, d2, d3] => { results := [.lit (.bool true)], args := [d1, d2, d3] }
  | _ => none }
def fileSyncedRow : OpenClaim := { program := "ytldkeelgnfegeaagreat", sum := "d5ac0dbb32aca8bc89b17061f64c120eb374ef8ff078cbc807d1fe874dd0a032", func := "pandect/pandectlaw5.FileSynced", spec := "fileSynced", inPlace := ["maps.clone"], unfollowed := true, recurses := true, apart := false }
def FileSyncedSaid : Prop := fileSyncedRow.holds Tryz.pinned (OpenSpec.ofChange fileSyncedSpec)

/-- ITS FALSE NEIGHBOUR: 'it returns false'. Refute it at one input. -/
def fileSyncedWrong : ChangeSpec := { name := "fileSynced", fn := fun _ => fun
  | [d1, d2, d3] => { results := [.lit (.bool false)], args := [d1, d2, d3] }
  | _ => none }
def FileSyncedWrongFalsely : Prop := fileSyncedRow.holds Tryz.pinned (OpenSpec.ofChange fileSyncedWrong)

/-- 'pandectlaw5.FileTwo': WHATEVER THE INPUT: true; the input reads as it did. -/
def fileTwoSpec : ChangeSpec := { name := "fileTwo", fn := fun _ => fun
  | [d] => { results := [.lit (.bool true)], args := [d] }
  | _ => none }
def fileTwoRow : OpenClaim := { program := "ytldkeelgnfegeaagreat", sum := "d5ac0dbb32aca8bc89b17061f64c120eb374ef8ff078cbc807d1fe874dd0a032", func := "pandect/pandectlaw5.FileTwo", spec := "fileTwo", unfollowed := true, recurses := true, apart := false }
def FileTwoSaid : Prop := fileTwoRow.holds Tryz.pinned (OpenSpec.ofChange fileTwoSpec)

/-- ITS FALSE NEIGHBOUR: 'it returns false'. Refute it at one input. -/
def fileTwoWrong : ChangeSpec := { name := "fileTwo", fn := fun _ => fun
  | [d] => { results := [.lit (.bool false)], args := [d] }
  | _ => none }
def FileTwoWrongFalsely : Prop := fileTwoRow.holds Tryz.pinned (OpenSpec.ofChange fileTwoWrong)

/-- 'pandectlaw5.FileHolds': WHATEVER THE INPUT: true; the input reads as it did. -/
def fileHoldsSpec : ChangeSpec := { name := "fileHolds", fn := fun _ => fun
  | [d1, d2, d3] => { results := [.lit (.bool true)], args := [d1, d2, d3] }
  | _ => none }
def fileHoldsRow : OpenClaim := { program := "ytldkeelgnfegeaagreat", sum := "d5ac0dbb32aca8bc89b17061f64c120eb374ef8ff078cbc807d1fe874dd0a032", func := "pandect/pandectlaw5.FileHolds", spec := "fileHolds", inPlace := ["maps.clone"], unfollowed := true, recurses := true, apart := false }
def FileHoldsSaid : Prop := fileHoldsRow.holds Tryz.pinned (OpenSpec.ofChange fileHoldsSpec)

/-- ITS FALSE NEIGHBOUR: 'it returns false'. Refute it at one input. -/
def fileHoldsWrong : ChangeSpec := { name := "fileHolds", fn := fun _ => fun
  | [d1, d2, d3] => { results := [.lit (.bool false)], args := [d1, d2, d3] }
  | _ => none }
def FileHoldsWrongFalsely : Prop := fileHoldsRow.holds Tryz.pinned (OpenSpec.ofChange fileHoldsWrong)

/- THE SECOND FORM. 'bulk': how many values and letters a reading holds, each counted each time it is reached (what is shared counts as often as it is met; a slice's spare places count too). A statement '..UptoSaid' is the law's where the arguments, and the package variables that the reading takes, are together of bulk at most 1048576: NARROWER than '..Said'. Prove '..Said' where nothing that the law and all that it calls make is longer than what came in: it says more and counts as full. Else prove '..UptoSaid'. A law counts once. -/
mutual
def uptoBulk {H : Type} : DataW H → Nat
  | .lit (.string bytes) => bytes.length + 1
  | .lit _ => 1
  | .nil => 1
  | .ptr d => uptoBulk d + 1
  | .slice elems spare => uptoBulkAll elems + uptoBulkAll spare + 1
  | .agg parts => uptoBulkAll parts + 1
  | .iface _ d => uptoBulk d + 1
  | .map entries => uptoBulkEntries entries + 1
  | .held _ => 1
def uptoBulkAll {H : Type} : List (DataW H) → Nat
  | [] => 0
  | d :: r => uptoBulk d + uptoBulkAll r
def uptoBulkEntries {H : Type} : List (Lit × DataW H) → Nat
  | [] => 0
  | x :: r => uptoBulkEntry x + uptoBulkEntries r
def uptoBulkEntry {H : Type} : Lit × DataW H → Nat
  | (.string bytes, d) => bytes.length + uptoBulk d + 1
  | (_, d) => uptoBulk d + 1
 end
def uptoSmall : (H : Type) → List (DataW H) → Bool := fun _ ds => decide (uptoBulkAll ds ≤ 1048576)
def OpenSpec.upto (s : _root_.Go.ChangeSpec) : _root_.Go.OpenSpec := { _root_.Go.OpenSpec.ofChange s with cond := some uptoSmall }

/-- 'pandectlaw5.FileSynced', WHERE WHAT IT READS IS OF BULK AT MOST 1048576: true; the input reads as it did. -/
def fileSyncedUptoRow : OpenClaim := { program := "ytldkeelgnfegeaagreat", sum := "d5ac0dbb32aca8bc89b17061f64c120eb374ef8ff078cbc807d1fe874dd0a032", func := "pandect/pandectlaw5.FileSynced", spec := "fileSynced", inPlace := ["maps.clone"], unfollowed := true, recurses := true, apart := false, narrowed := true }
def FileSyncedUptoSaid : Prop := fileSyncedUptoRow.holds Tryz.pinned (OpenSpec.upto fileSyncedSpec)

/-- 'pandectlaw5.FileTwo', WHERE WHAT IT READS IS OF BULK AT MOST 1048576: true; the input reads as it did. -/
def fileTwoUptoRow : OpenClaim := { program := "ytldkeelgnfegeaagreat", sum := "d5ac0dbb32aca8bc89b17061f64c120eb374ef8ff078cbc807d1fe874dd0a032", func := "pandect/pandectlaw5.FileTwo", spec := "fileTwo", unfollowed := true, recurses := true, apart := false, narrowed := true }
def FileTwoUptoSaid : Prop := fileTwoUptoRow.holds Tryz.pinned (OpenSpec.upto fileTwoSpec)

/-- 'pandectlaw5.FileHolds', WHERE WHAT IT READS IS OF BULK AT MOST 1048576: true; the input reads as it did. -/
def fileHoldsUptoRow : OpenClaim := { program := "ytldkeelgnfegeaagreat", sum := "d5ac0dbb32aca8bc89b17061f64c120eb374ef8ff078cbc807d1fe874dd0a032", func := "pandect/pandectlaw5.FileHolds", spec := "fileHolds", inPlace := ["maps.clone"], unfollowed := true, recurses := true, apart := false, narrowed := true }
def FileHoldsUptoSaid : Prop := fileHoldsUptoRow.holds Tryz.pinned (OpenSpec.upto fileHoldsSpec)

end Rows
end Go.Proofs.YtldkeelgnfegeaaGreat
