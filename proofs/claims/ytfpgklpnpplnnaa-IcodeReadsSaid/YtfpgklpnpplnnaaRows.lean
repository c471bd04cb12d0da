/-
  No cell of these rows narrows 'for every input' (looked for: loops, veiled, ifaces, maps, wideKeys, modest, calm, conditions, laid).
  DERIVED. THE GIVEN ROWS OF THIS SEAT. 3 by the template 'for every input the law returns true; each argument reads behind the call as it read before'; 0 by the template 'total and deterministic' (their statements: YtfpgklpnpplnnaaTotals.lean).
  GIVEN WITH THE SEED: the statements are not yours to turn. If you find one false, say at which input.
  Laid BY PROGRAM, IN A SANDBOX (cutbox-rows.mjs): the forced cells as the released guide's own fill.sh prints them over the translation b2ac6ab389e7d33c… (all of the seat's roots in one cut). By AI agents, Wed Nov 11 2026. No macro, syntax, notation, axiom, sorry.
-/
import Derived.Test.YtfpgklpnpplnnaaChecked
import GoSem.Claim
import GoSem.ClaimJoined
import GoSem.ClaimMapViews
import Derived.JoinedTies
import Derived.KernelRfl
namespace Go.Proofs.Ytfpgklpnpplnnaa
/- THE CELL 'sum', in the pinned program and in every row, IS THE sha256 OF THE DUMP (.gsa) THAT YtfpgklpnpplnnaaProg.lean LOADS. Nothing in Lean hashes anything: it is a label: what it is worth is what the hold of that sum in a sandbox is worth. -/
noncomputable def Try.pinned : Pinned := { name := "ytfpgklpnpplnnaa", sum := "b2ac6ab389e7d33c4c1afefed369d099b5844b31c160798b1fb8973da86f68d0", checked := Try.checked }
namespace Rows
def none {H : Type} : Left H := { results := [], args := [] }

/-- 'winnowerlaw19.IcodeItems': WHATEVER THE INPUT: true; the input reads as it did. -/
def icodeItemsSpec : ChangeSpec := { name := "icodeItems", fn := fun _ => fun
  | [d] => { results := [.lit (.bool true)], args := [d] }
  | _ => none }
def icodeItemsRow : OpenClaim := { program := "ytfpgklpnpplnnaa", sum := "b2ac6ab389e7d33c4c1afefed369d099b5844b31c160798b1fb8973da86f68d0", func := "winnower/winnowerlaw19.IcodeItems", spec := "icodeItems", recurses := true, apart := false }
def IcodeItemsSaid : Prop := icodeItemsRow.holds Try.pinned (OpenSpec.ofChange icodeItemsSpec)

/-- ITS FALSE NEIGHBOUR: 'it returns false'. Refute it at one input. -/
def icodeItemsWrong : ChangeSpec := { name := "icodeItems", fn := fun _ => fun
  | [d] => { results := [.lit (.bool false)], args := [d] }
  | _ => none }
def IcodeItemsWrongFalsely : Prop := icodeItemsRow.holds Try.pinned (OpenSpec.ofChange icodeItemsWrong)

/-- 'winnowerlaw19.IcodeLists': WHATEVER THE INPUT: true; the input reads as it did. -/
def icodeListsSpec : ChangeSpec := { name := "icodeLists", fn := fun _ => fun
  | [d] => { results := [.lit (.bool true)], args := [d] }
  | _ => none }
def icodeListsRow : OpenClaim := { program := "ytfpgklpnpplnnaa", sum := "b2ac6ab389e7d33c4c1afefed369d099b5844b31c160798b1fb8973da86f68d0", func := "winnower/winnowerlaw19.IcodeLists", spec := "icodeLists", recurses := true, apart := false }
def IcodeListsSaid : Prop := icodeListsRow.holds Try.pinned (OpenSpec.ofChange icodeListsSpec)

/-- ITS FALSE NEIGHBOUR: 'it returns false'. Refute it at one input. -/
def icodeListsWrong : ChangeSpec := { name := "icodeLists", fn := fun _ => fun
  | [d] => { results := [.lit (.bool false)], args := [d] }
  | _ => none }
def IcodeListsWrongFalsely : Prop := icodeListsRow.holds Try.pinned (OpenSpec.ofChange icodeListsWrong)

/-- 'winnowerlaw19.IcodeReads': WHATEVER THE INPUT: true; the input reads as it did. -/
def icodeReadsSpec : ChangeSpec := { name := "icodeReads", fn := fun _ => fun
  | [d] => { results := [.lit (.bool true)], args := [d] }
  | _ => none }
def icodeReadsRow : OpenClaim := { program := "ytfpgklpnpplnnaa", sum := "b2ac6ab389e7d33c4c1afefed369d099b5844b31c160798b1fb8973da86f68d0", func := "winnower/winnowerlaw19.IcodeReads", spec := "icodeReads", recurses := true, apart := false }
def IcodeReadsSaid : Prop := icodeReadsRow.holds Try.pinned (OpenSpec.ofChange icodeReadsSpec)

/-- ITS FALSE NEIGHBOUR: 'it returns false'. Refute it at one input. -/
def icodeReadsWrong : ChangeSpec := { name := "icodeReads", fn := fun _ => fun
  | [d] => { results := [.lit (.bool false)], args := [d] }
  | _ => none }
def IcodeReadsWrongFalsely : Prop := icodeReadsRow.holds Try.pinned (OpenSpec.ofChange icodeReadsWrong)

/- THE SECOND FORM. 'bulk': how many values and letters a reading holds, each counted each time it is reached (what is shared counts as often as it is met; a slice's spare places count too). A statement '..UptoSaid' is the law's where the arguments, and the package variables that the reading takes, are together of bulk at most 1048576: NARROWER than '..Said'. Prove '..Said' where nothing that the law and all that it calls make is longer than what came in: it says more and counts as full. Else prove '..UptoSaid'. A law counts once. -/
mutual
def uptoBulk {H : Type} : DataW H → Nat
  | .lit (.string bytes) => bytes.length + 1
  | .lit _ => 1
  | .nil => 1
  | .ptr d => uptoBulk d + 1
  | .slice elems spare => uptoBulkAll elems + uptoBulkAll spare + 1
  | .agg parts => uptoBulkAll parts + 1
  | .iface _ d => uptoBulk d + 1
  | .map entries => uptoBulkEntries entries + 1
  | .held _ => 1
def uptoBulkAll {H : Type} : List (DataW H) → Nat
  | [] => 0
  | d :: r => uptoBulk d + uptoBulkAll r
def uptoBulkEntries {H : Type} : List (Lit × DataW H) → Nat
  | [] => 0
  | x :: r => uptoBulkEntry x + uptoBulkEntries r
def uptoBulkEntry {H : Type} : Lit × DataW H → Nat
  | (.string bytes, d) => bytes.length + uptoBulk d + 1
  | (_, d) => uptoBulk d + 1
 end
def uptoSmall : (H : Type) → List (DataW H) → Bool := fun _ ds => decide (uptoBulkAll ds ≤ 1048576)
def OpenSpec.upto (s : _root_.Go.ChangeSpec) : _root_.Go.OpenSpec := { _root_.Go.OpenSpec.ofChange s with cond := some uptoSmall }

/-- 'winnowerlaw19.IcodeItems', WHERE WHAT IT READS IS OF BULK AT MOST 1048576: true; the input reads as it did. -/
def icodeItemsUptoRow : OpenClaim := { program := "ytfpgklpnpplnnaa", sum := "b2ac6ab389e7d33c4c1afefed369d099b5844b31c160798b1fb8973da86f68d0", func := "winnower/winnowerlaw19.IcodeItems", spec := "icodeItems", recurses := true, apart := false, narrowed := true }
def IcodeItemsUptoSaid : Prop := icodeItemsUptoRow.holds Try.pinned (OpenSpec.upto icodeItemsSpec)

/-- 'winnowerlaw19.IcodeLists', WHERE WHAT IT READS IS OF BULK AT MOST 1048576: true; the input reads as it did. -/
def icodeListsUptoRow : OpenClaim := { program := "ytfpgklpnpplnnaa", sum := "b2ac6ab389e7d33c4c1afefed369d099b5844b31c160798b1fb8973da86f68d0", func := "winnower/winnowerlaw19.IcodeLists", spec := "icodeLists", recurses := true, apart := false, narrowed := true }
def IcodeListsUptoSaid : Prop := icodeListsUptoRow.holds Try.pinned (OpenSpec.upto icodeListsSpec)

/-- 'winnowerlaw19.IcodeReads', WHERE WHAT IT READS IS OF BULK AT MOST 1048576: true; the input reads as it did. -/
def icodeReadsUptoRow : OpenClaim := { program := "ytfpgklpnpplnnaa", sum := "b2ac6ab389e7d33c4c1afefed369d099b5844b31c160798b1fb8973da86f68d0", func := "winnower/winnowerlaw19.IcodeReads", spec := "icodeReads", recurses := true, apart := false, narrowed := true }
def IcodeReadsUptoSaid : Prop := icodeReadsUptoRow.holds Try.pinned (OpenSpec.upto icodeReadsSpec)

end Rows
end Go.Proofs.Ytfpgklpnpplnnaa
