/-
  NARROWER THAN 'FOR EVERY INPUT', by the rows' own cells (each row's printed sentence says how): FtextTells: laid · FtextParses: laid.
  DERIVED. THE GIVEN ROWS OF THIS SEAT. 2 by the template 'for every input the law returns true; each argument reads behind the call as it read before'; 0 by the template 'total and deterministic' (their statements: YthgcbomidamcfaaDoorTotals.lean).
  GIVEN WITH THE SEED: the statements are not yours to turn. If you find one false, say at which input.
  Laid BY PROGRAM, IN A SANDBOX (cutbox-rows.mjs): the forced cells as the released guide's own fill.sh prints them over the translation 560f311b47833b9f… (all of the seat's roots in one cut). By AI agents, Wed Nov 11 2026. No macro, syntax, notation, axiom, sorry.
-/
import Derived.Test.YthgcbomidamcfaaDoorChecked
import GoSem.Claim
import GoSem.ClaimJoined
import GoSem.ClaimMapViews
import Derived.JoinedTies
import Derived.KernelRfl
namespace Go.Proofs.YthgcbomidamcfaaDoor
/- THE CELL 'sum', in the pinned program and in every row, IS THE sha256 OF THE DUMP (.gsa) THAT YthgcbomidamcfaaDoorProg.lean LOADS. Nothing in Lean hashes anything: it is a label: what it is worth is what the hold of that sum in a sandbox is worth. -/
noncomputable def Tryd.pinned : Pinned := { name := "ythgcbomidamcfaadoor", sum := "560f311b47833b9fce7f8762b30a63b0167b05b62e3eff061e5a5d9db2945fb7", checked := Tryd.checked }
namespace Rows
def none {H : Type} : Left H := { results := [], args := [] }

/- WHAT THE LISTED PACKAGE-LEVEL VARIABLES READ AS WHEN THE CALL BEGINS. Each datum BY PROGRAM (the guide's laid-datum.mjs) off the statement by which the dump's own 'gosem.cut.vars' lays the variable. In a bare row this is a premise. The card (YthgcbomidamcfaaDoorCards.lean) ties it to the program's text. -/
def laid_winnower_ftext_names {H : Type} : DataW H := .agg [.lit (.string []), .lit (.string [97, 108, 108]), .lit (.string [110, 111, 110, 101]), .lit (.string [112, 114, 101, 102, 105, 120]), .lit (.string [114, 97, 110, 103, 101]), .lit (.string [102, 114, 111, 109]), .lit (.string [110, 111, 116]), .lit (.string [97, 110, 100]), .lit (.string [111, 114])]

/-- 'winnowerlaw11.FtextTells': WHATEVER THE INPUT: true; the input reads as it did. -/
def ftextTellsSpec : ChangeSpec := { name := "ftextTells", fn := fun _ => fun
  | [d] => { results := [.lit (.bool true)], args := [d] }
  | _ => none }
def ftextTellsRow : OpenClaim := { program := "ythgcbomidamcfaadoor", sum := "560f311b47833b9fce7f8762b30a63b0167b05b62e3eff061e5a5d9db2945fb7", func := "winnower/winnowerlaw11.FtextTells", spec := "ftextTells", inPlace := ["internal/bytealg.IndexByteString", "internal/bytealg.IndexString", "internal/abi.NoEscape", "internal/bytealg.abigen_runtime_cmpstring", "internal/bytealg.MakeNoZero"], recurses := true, named := ["winnower/ftext.names", "internal/bytealg.MaxLen"], apart := false, laid := [("winnower/ftext.names", laid_winnower_ftext_names)] }
def FtextTellsSaid : Prop := ftextTellsRow.holds Tryd.pinned (OpenSpec.ofChange ftextTellsSpec)

/-- ITS FALSE NEIGHBOUR: 'it returns false'. Refute it at one input. -/
def ftextTellsWrong : ChangeSpec := { name := "ftextTells", fn := fun _ => fun
  | [d] => { results := [.lit (.bool false)], args := [d] }
  | _ => none }
def FtextTellsWrongFalsely : Prop := ftextTellsRow.holds Tryd.pinned (OpenSpec.ofChange ftextTellsWrong)

/-- 'winnowerlaw11.FtextParses': WHATEVER THE INPUT: true; the input reads as it did. -/
def ftextParsesSpec : ChangeSpec := { name := "ftextParses", fn := fun _ => fun
  | [d] => { results := [.lit (.bool true)], args := [d] }
  | _ => none }
def ftextParsesRow : OpenClaim := { program := "ythgcbomidamcfaadoor", sum := "560f311b47833b9fce7f8762b30a63b0167b05b62e3eff061e5a5d9db2945fb7", func := "winnower/winnowerlaw11.FtextParses", spec := "ftextParses", inPlace := ["internal/bytealg.IndexByteString", "internal/bytealg.IndexString", "internal/abi.NoEscape", "internal/bytealg.abigen_runtime_cmpstring", "internal/bytealg.MakeNoZero"], recurses := true, named := ["winnower/ftext.names", "internal/bytealg.MaxLen"], apart := false, laid := [("winnower/ftext.names", laid_winnower_ftext_names)] }
def FtextParsesSaid : Prop := ftextParsesRow.holds Tryd.pinned (OpenSpec.ofChange ftextParsesSpec)

/-- ITS FALSE NEIGHBOUR: 'it returns false'. Refute it at one input. -/
def ftextParsesWrong : ChangeSpec := { name := "ftextParses", fn := fun _ => fun
  | [d] => { results := [.lit (.bool false)], args := [d] }
  | _ => none }
def FtextParsesWrongFalsely : Prop := ftextParsesRow.holds Tryd.pinned (OpenSpec.ofChange ftextParsesWrong)

/- THE SECOND FORM. 'bulk': how many values and letters a reading holds, each counted each time it is reached (what is shared counts as often as it is met; a slice's spare places count too). A statement '..UptoSaid' is the law's where the arguments, and the package variables that the reading takes, are together of bulk at most 1048576: NARROWER than '..Said'. Prove '..Said' where nothing that the law and all that it calls make is longer than what came in: it says more and counts as full. Else prove '..UptoSaid'. A law counts once. -/
mutual
def uptoBulk {H : Type} : DataW H → Nat
  | .lit (.string bytes) => bytes.length + 1
  | .lit _ => 1
  | .nil => 1
  | .ptr d => uptoBulk d + 1
  | .slice elems spare => uptoBulkAll elems + uptoBulkAll spare + 1
  | .agg parts => uptoBulkAll parts + 1
  | .iface _ d => uptoBulk d + 1
  | .map entries => uptoBulkEntries entries + 1
  | .held _ => 1
def uptoBulkAll {H : Type} : List (DataW H) → Nat
  | [] => 0
  | d :: r => uptoBulk d + uptoBulkAll r
def uptoBulkEntries {H : Type} : List (Lit × DataW H) → Nat
  | [] => 0
  | x :: r => uptoBulkEntry x + uptoBulkEntries r
def uptoBulkEntry {H : Type} : Lit × DataW H → Nat
  | (.string bytes, d) => bytes.length + uptoBulk d + 1
  | (_, d) => uptoBulk d + 1
 end
def uptoSmall : (H : Type) → List (DataW H) → Bool := fun _ ds => decide (uptoBulkAll ds ≤ 1048576)
def OpenSpec.upto (s : _root_.Go.ChangeSpec) : _root_.Go.OpenSpec := { _root_.Go.OpenSpec.ofChange s with cond := some uptoSmall }

/-- 'winnowerlaw11.FtextTells', WHERE WHAT IT READS IS OF BULK AT MOST 1048576: true; the input reads as it did. -/
def ftextTellsUptoRow : OpenClaim := { program := "ythgcbomidamcfaadoor", sum := "560f311b47833b9fce7f8762b30a63b0167b05b62e3eff061e5a5d9db2945fb7", func := "winnower/winnowerlaw11.FtextTells", spec := "ftextTells", inPlace := ["internal/bytealg.IndexByteString", "internal/bytealg.IndexString", "internal/abi.NoEscape", "internal/bytealg.abigen_runtime_cmpstring", "internal/bytealg.MakeNoZero"], recurses := true, named := ["winnower/ftext.names", "internal/bytealg.MaxLen"], apart := false, laid := [("winnower/ftext.names", laid_winnower_ftext_names)], narrowed := true }
def FtextTellsUptoSaid : Prop := ftextTellsUptoRow.holds Tryd.pinned (OpenSpec.upto ftextTellsSpec)

/-- 'winnowerlaw11.FtextParses', WHERE WHAT IT READS IS OF BULK AT MOST 1048576: true; the input reads as it did. -/
def ftextParsesUptoRow : OpenClaim := { program := "ythgcbomidamcfaadoor", sum := "560f311b47833b9fce7f8762b30a63b0167b05b62e3eff061e5a5d9db2945fb7", func := "winnower/winnowerlaw11.FtextParses", spec := "ftextParses", inPlace := ["internal/bytealg.IndexByteString", "internal/bytealg.IndexString", "internal/abi.NoEscape", "internal/bytealg.abigen_runtime_cmpstring", "internal/bytealg.MakeNoZero"], recurses := true, named := ["winnower/ftext.names", "internal/bytealg.MaxLen"], apart := false, laid := [("winnower/ftext.names", laid_winnower_ftext_names)], narrowed := true }
def FtextParsesUptoSaid : Prop := ftextParsesUptoRow.holds Tryd.pinned (OpenSpec.upto ftextParsesSpec)

end Rows
end Go.Proofs.YthgcbomidamcfaaDoor
