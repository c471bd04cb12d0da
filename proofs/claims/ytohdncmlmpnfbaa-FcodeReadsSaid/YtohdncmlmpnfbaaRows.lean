/-
  No cell of these rows narrows 'for every input' (looked for: loops, veiled, ifaces, maps, wideKeys, modest, calm, conditions, laid).
  DERIVED. THE GIVEN ROWS OF THIS SEAT. 3 by the template 'for every input the law returns true; each argument reads behind the call as it read before'; 0 by the template 'total and deterministic' (their statements: YtohdncmlmpnfbaaTotals.lean).
  GIVEN WITH THE SEED: the statements are not yours to turn. If you find one false, say at which input.
  Laid BY PROGRAM, IN A SANDBOX (cutbox-rows.mjs): the forced cells as the released guide's own fill.sh prints them over the translation 32d7ef386aaf73bd… (all of the seat's roots in one cut). By AI agents, Wed Nov 11 2026. No macro, syntax, notation, axiom, sorry.
-/
import Derived.Test.YtohdncmlmpnfbaaChecked
import GoSem.Claim
import GoSem.ClaimJoined
import GoSem.ClaimMapViews
import Derived.JoinedTies
import Derived.KernelRfl
namespace Go.Proofs.Ytohdncmlmpnfbaa
/- THE CELL 'sum', in the pinned program and in every row, IS THE sha256 OF THE DUMP (.gsa) THAT YtohdncmlmpnfbaaProg.lean LOADS. Nothing in Lean hashes anything: it is a label: what it is worth is what the hold of that sum in a sandbox is worth. -/
noncomputable def Try.pinned : Pinned := { name := "ytohdncmlmpnfbaa", sum := "32d7ef386aaf73bdeed1d4e3ab3dfe3599fd178c82d312e8d75cfd8a798fa230", checked := Try.checked }
namespace Rows
def none {H : Type} : Left H := { results := [], args := [] }

/-- 'winnowerlaw10.FcodeRanges': WHATEVER THE INPUT: true; the input reads as it did. -/
def fcodeRangesSpec : ChangeSpec := { name := "fcodeRanges", fn := fun _ => fun
  | [d] => { results := [.lit (.bool true)], args := [d] }
  | _ => none }
def fcodeRangesRow : OpenClaim := { program := "ytohdncmlmpnfbaa", sum := "32d7ef386aaf73bdeed1d4e3ab3dfe3599fd178c82d312e8d75cfd8a798fa230", func := "winnower/winnowerlaw10.FcodeRanges", spec := "fcodeRanges", inPlace := ["internal/bytealg.abigen_runtime_cmpstring"], unfollowed := true, recurses := true, apart := false }
def FcodeRangesSaid : Prop := fcodeRangesRow.holds Try.pinned (OpenSpec.ofChange fcodeRangesSpec)

/-- ITS FALSE NEIGHBOUR: 'it returns false'. Refute it at one input. -/
def fcodeRangesWrong : ChangeSpec := { name := "fcodeRanges", fn := fun _ => fun
  | [d] => { results := [.lit (.bool false)], args := [d] }
  | _ => none }
def FcodeRangesWrongFalsely : Prop := fcodeRangesRow.holds Try.pinned (OpenSpec.ofChange fcodeRangesWrong)

/-- 'winnowerlaw10.FcodeFilter': WHATEVER THE INPUT: true; the input reads as it did. -/
def fcodeFilterSpec : ChangeSpec := { name := "fcodeFilter", fn := fun _ => fun
  | [d] => { results := [.lit (.bool true)], args := [d] }
  | _ => none }
def fcodeFilterRow : OpenClaim := { program := "ytohdncmlmpnfbaa", sum := "32d7ef386aaf73bdeed1d4e3ab3dfe3599fd178c82d312e8d75cfd8a798fa230", func := "winnower/winnowerlaw10.FcodeFilter", spec := "fcodeFilter", inPlace := ["internal/bytealg.abigen_runtime_cmpstring"], unfollowed := true, recurses := true, apart := false }
def FcodeFilterSaid : Prop := fcodeFilterRow.holds Try.pinned (OpenSpec.ofChange fcodeFilterSpec)

/-- ITS FALSE NEIGHBOUR: 'it returns false'. Refute it at one input. -/
def fcodeFilterWrong : ChangeSpec := { name := "fcodeFilter", fn := fun _ => fun
  | [d] => { results := [.lit (.bool false)], args := [d] }
  | _ => none }
def FcodeFilterWrongFalsely : Prop := fcodeFilterRow.holds Try.pinned (OpenSpec.ofChange fcodeFilterWrong)

/-- 'winnowerlaw10.FcodeReads': WHATEVER THE INPUT: true; the input reads as it did. -/
def fcodeReadsSpec : ChangeSpec := { name := "fcodeReads", fn := fun _ => fun
  | [d] => { results := [.lit (.bool true)], args := [d] }
  | _ => none }
def fcodeReadsRow : OpenClaim := { program := "ytohdncmlmpnfbaa", sum := "32d7ef386aaf73bdeed1d4e3ab3dfe3599fd178c82d312e8d75cfd8a798fa230", func := "winnower/winnowerlaw10.FcodeReads", spec := "fcodeReads", inPlace := ["internal/bytealg.abigen_runtime_cmpstring"], unfollowed := true, recurses := true, apart := false }
def FcodeReadsSaid : Prop := fcodeReadsRow.holds Try.pinned (OpenSpec.ofChange fcodeReadsSpec)

/-- ITS FALSE NEIGHBOUR: 'it returns false'. Refute it at one input. -/
def fcodeReadsWrong : ChangeSpec := { name := "fcodeReads", fn := fun _ => fun
  | [d] => { results := [.lit (.bool false)], args := [d] }
  | _ => none }
def FcodeReadsWrongFalsely : Prop := fcodeReadsRow.holds Try.pinned (OpenSpec.ofChange fcodeReadsWrong)

/- THE SECOND FORM. 'bulk': how many values and letters a reading holds, each counted each time it is reached (what is shared counts as often as it is met; a slice's spare places count too). A statement '..UptoSaid' is the law's where the arguments, and the package variables that the reading takes, are together of bulk at most 1048576: NARROWER than '..Said'. Prove '..Said' where nothing that the law and all that it calls make is longer than what came in: it says more and counts as full. Else prove '..UptoSaid'. A law counts once. -/
mutual
def uptoBulk {H : Type} : DataW H → Nat
  | .lit (.string bytes) => bytes.length + 1
  | .lit _ => 1
  | .nil => 1
  | .ptr d => uptoBulk d + 1
  | .slice elems spare => uptoBulkAll elems + uptoBulkAll spare + 1
  | .agg parts => uptoBulkAll parts + 1
  | .iface _ d => uptoBulk d + 1
  | .map entries => uptoBulkEntries entries + 1
  | .held _ => 1
def uptoBulkAll {H : Type} : List (DataW H) → Nat
  | [] => 0
  | d :: r => uptoBulk d + uptoBulkAll r
def uptoBulkEntries {H : Type} : List (Lit × DataW H) → Nat
  | [] => 0
  | x :: r => uptoBulkEntry x + uptoBulkEntries r
def uptoBulkEntry {H : Type} : Lit × DataW H → Nat
  | (.string bytes, d) => bytes.length + uptoBulk d + 1
  | (_, d) => uptoBulk d + 1
 end
def uptoSmall : (H : Type) → List (DataW H) → Bool := fun _ ds => decide (uptoBulkAll ds ≤ 1048576)
def OpenSpec.upto (s : _root_.Go.ChangeSpec) : _root_.Go.OpenSpec := { _root_.Go.OpenSpec.ofChange s with cond := some uptoSmall }

/-- 'winnowerlaw10.FcodeRanges', WHERE WHAT IT READS IS OF BULK AT MOST 1048576: true; the input reads as it did. -/
def fcodeRangesUptoRow : OpenClaim := { program := "ytohdncmlmpnfbaa", sum := "32d7ef386aaf73bdeed1d4e3ab3dfe3599fd178c82d312e8d75cfd8a798fa230", func := "winnower/winnowerlaw10.FcodeRanges", spec := "fcodeRanges", inPlace := ["internal/bytealg.abigen_runtime_cmpstring"], unfollowed := true, recurses := true, apart := false, narrowed := true }
def FcodeRangesUptoSaid : Prop := fcodeRangesUptoRow.holds Try.pinned (OpenSpec.upto fcodeRangesSpec)

/-- 'winnowerlaw10.FcodeFilter', WHERE WHAT IT READS IS OF BULK AT MOST 1048576: true; the input reads as it did. -/
def fcodeFilterUptoRow : OpenClaim := { program := "ytohdncmlmpnfbaa", sum := "32d7ef386aaf73bdeed1d4e3ab3dfe3599fd178c82d312e8d75cfd8a798fa230", func := "winnower/winnowerlaw10.FcodeFilter", spec := "fcodeFilter", inPlace := ["internal/bytealg.abigen_runtime_cmpstring"], unfollowed := true, recurses := true, apart := false, narrowed := true }
def FcodeFilterUptoSaid : Prop := fcodeFilterUptoRow.holds Try.pinned (OpenSpec.upto fcodeFilterSpec)

/-- 'winnowerlaw10.FcodeReads', WHERE WHAT IT READS IS OF BULK AT MOST 1048576: true; the input reads as it did. -/
def fcodeReadsUptoRow : OpenClaim := { program := "ytohdncmlmpnfbaa", sum := "32d7ef386aaf73bdeed1d4e3ab3dfe3599fd178c82d312e8d75cfd8a798fa230", func := "winnower/winnowerlaw10.FcodeReads", spec := "fcodeReads", inPlace := ["internal/bytealg.abigen_runtime_cmpstring"], unfollowed := true, recurses := true, apart := false, narrowed := true }
def FcodeReadsUptoSaid : Prop := fcodeReadsUptoRow.holds Try.pinned (OpenSpec.upto fcodeReadsSpec)

end Rows
end Go.Proofs.Ytohdncmlmpnfbaa
