/-
  No cell of these rows narrows 'for every input' (looked for: loops, veiled, ifaces, maps, wideKeys, modest, calm, conditions, laid).
  DERIVED. THE GIVEN ROWS OF THIS SEAT. 4 by the template 'for every input the law returns true; each argument reads behind the call as it read before'; 0 by the template 'total and deterministic' (their statements: YtfjaklpddcafdaaTotals.lean).
  GIVEN WITH THE SEED: the statements are not yours to turn. If you find one false, say at which input.
  Laid BY PROGRAM, IN A SANDBOX (cutbox-rows.mjs): the forced cells as the released guide's own fill.sh prints them over the translation 303c38222bf01306… (all of the seat's roots in one cut). By AI agents, Wed Nov 11 2026. No macro, syntax, notation, axiom, sorry.
-/
import Derived.Test.YtfjaklpddcafdaaChecked
import GoSem.Claim
import GoSem.ClaimJoined
import GoSem.ClaimMapViews
import Derived.JoinedTies
import Derived.KernelRfl
namespace Go.Proofs.Ytfjaklpddcafdaa
/- THE CELL 'sum', in the pinned program and in every row, IS THE sha256 OF THE DUMP (.gsa) THAT YtfjaklpddcafdaaProg.lean LOADS. Nothing in Lean hashes anything: it is a label: what it is worth is what the hold of that sum in a sandbox is worth. -/
noncomputable def Try.pinned : Pinned := { name := "ytfjaklpddcafdaa", sum := "303c38222bf01306ca33cec50debb0e36c96a6b15bc56e7496d128b819a765df", checked := Try.checked }
namespace Rows
def none {H : Type} : Left H := { results := [], args := [] }

/-- 'winnowerlaw18.ItemWins': WHATEVER THE INPUT: true; the input reads as it did. -/
def itemWinsSpec : ChangeSpec := { name := "itemWins", fn := fun _ => fun
  | [d1, d2, d3] => { results := [.lit (.bool true)], args := [d1, d2, d3] }
  | _ => none }
def itemWinsRow : OpenClaim := { program := "ytfjaklpddcafdaa", sum := "303c38222bf01306ca33cec50debb0e36c96a6b15bc56e7496d128b819a765df", func := "winnower/winnowerlaw18.ItemWins", spec := "itemWins", inPlace := ["internal/bytealg.abigen_runtime_cmpstring"], unfollowed := true, recurses := true, apart := false }
def ItemWinsSaid : Prop := itemWinsRow.holds Try.pinned (OpenSpec.ofChange itemWinsSpec)

/-- ITS FALSE NEIGHBOUR: 'it returns false'. Refute it at one input. -/
def itemWinsWrong : ChangeSpec := { name := "itemWins", fn := fun _ => fun
  | [d1, d2, d3] => { results := [.lit (.bool false)], args := [d1, d2, d3] }
  | _ => none }
def ItemWinsWrongFalsely : Prop := itemWinsRow.holds Try.pinned (OpenSpec.ofChange itemWinsWrong)

/-- 'winnowerlaw18.ItemFinds': WHATEVER THE INPUT: true; the input reads as it did. -/
def itemFindsSpec : ChangeSpec := { name := "itemFinds", fn := fun _ => fun
  | [d1, d2] => { results := [.lit (.bool true)], args := [d1, d2] }
  | _ => none }
def itemFindsRow : OpenClaim := { program := "ytfjaklpddcafdaa", sum := "303c38222bf01306ca33cec50debb0e36c96a6b15bc56e7496d128b819a765df", func := "winnower/winnowerlaw18.ItemFinds", spec := "itemFinds", inPlace := ["internal/bytealg.abigen_runtime_cmpstring"], unfollowed := true, recurses := true, apart := false }
def ItemFindsSaid : Prop := itemFindsRow.holds Try.pinned (OpenSpec.ofChange itemFindsSpec)

/-- ITS FALSE NEIGHBOUR: 'it returns false'. Refute it at one input. -/
def itemFindsWrong : ChangeSpec := { name := "itemFinds", fn := fun _ => fun
  | [d1, d2] => { results := [.lit (.bool false)], args := [d1, d2] }
  | _ => none }
def ItemFindsWrongFalsely : Prop := itemFindsRow.holds Try.pinned (OpenSpec.ofChange itemFindsWrong)

/-- 'winnowerlaw18.ItemMerges': WHATEVER THE INPUT: true; the input reads as it did. -/
def itemMergesSpec : ChangeSpec := { name := "itemMerges", fn := fun _ => fun
  | [d1, d2, d3] => { results := [.lit (.bool true)], args := [d1, d2, d3] }
  | _ => none }
def itemMergesRow : OpenClaim := { program := "ytfjaklpddcafdaa", sum := "303c38222bf01306ca33cec50debb0e36c96a6b15bc56e7496d128b819a765df", func := "winnower/winnowerlaw18.ItemMerges", spec := "itemMerges", inPlace := ["internal/bytealg.abigen_runtime_cmpstring"], unfollowed := true, recurses := true, apart := false }
def ItemMergesSaid : Prop := itemMergesRow.holds Try.pinned (OpenSpec.ofChange itemMergesSpec)

/-- ITS FALSE NEIGHBOUR: 'it returns false'. Refute it at one input. -/
def itemMergesWrong : ChangeSpec := { name := "itemMerges", fn := fun _ => fun
  | [d1, d2, d3] => { results := [.lit (.bool false)], args := [d1, d2, d3] }
  | _ => none }
def ItemMergesWrongFalsely : Prop := itemMergesRow.holds Try.pinned (OpenSpec.ofChange itemMergesWrong)

/-- 'winnowerlaw18.ItemChain': WHATEVER THE INPUT: true; the input reads as it did. -/
def itemChainSpec : ChangeSpec := { name := "itemChain", fn := fun _ => fun
  | [d1, d2, d3] => { results := [.lit (.bool true)], args := [d1, d2, d3] }
  | _ => none }
def itemChainRow : OpenClaim := { program := "ytfjaklpddcafdaa", sum := "303c38222bf01306ca33cec50debb0e36c96a6b15bc56e7496d128b819a765df", func := "winnower/winnowerlaw18.ItemChain", spec := "itemChain", inPlace := ["internal/bytealg.abigen_runtime_cmpstring"], unfollowed := true, recurses := true, apart := false }
def ItemChainSaid : Prop := itemChainRow.holds Try.pinned (OpenSpec.ofChange itemChainSpec)

/-- ITS FALSE NEIGHBOUR: 'it returns false'. Refute it at one input. -/
def itemChainWrong : ChangeSpec := { name := "itemChain", fn := fun _ => fun
  | [d1, d2, d3] => { results := [.lit (.bool false)], args := [d1, d2, d3] }
  | _ => none }
def ItemChainWrongFalsely : Prop := itemChainRow.holds Try.pinned (OpenSpec.ofChange itemChainWrong)

/- THE SECOND FORM. 'bulk': how many values and letters a reading holds, each counted each time it is reached (what is shared counts as often as it is met; a slice's spare places count too). A statement '..UptoSaid' is the law's where the arguments, and the package variables that the reading takes, are together of bulk at most 1048576: NARROWER than '..Said'. Prove '..Said' where nothing that the law and all that it calls make is longer than what came in: it says more and counts as full. Else prove '..UptoSaid'. A law counts once. -/
mutual
def uptoBulk {H : Type} : DataW H → Nat
  | .lit (.string bytes) => bytes.length + 1
  | .lit _ => 1
  | .nil => 1
  | .ptr d => uptoBulk d + 1
  | .slice elems spare => uptoBulkAll elems + uptoBulkAll spare + 1
  | .agg parts => uptoBulkAll parts + 1
  | .iface _ d => uptoBulk d + 1
  | .map entries => uptoBulkEntries entries + 1
  | .held _ => 1
def uptoBulkAll {H : Type} : List (DataW H) → Nat
  | [] => 0
  | d :: r => uptoBulk d + uptoBulkAll r
def uptoBulkEntries {H : Type} : List (Lit × DataW H) → Nat
  | [] => 0
  | x :: r => uptoBulkEntry x + uptoBulkEntries r
def uptoBulkEntry {H : Type} : Lit × DataW H → Nat
  | (.string bytes, d) => bytes.length + uptoBulk d + 1
  | (_, d) => uptoBulk d + 1
 end
def uptoSmall : (H : Type) → List (DataW H) → Bool := fun _ ds => decide (uptoBulkAll ds ≤ 1048576)
def OpenSpec.upto (s : _root_.Go.ChangeSpec) : _root_.Go.OpenSpec := { _root_.Go.OpenSpec.ofChange s with cond := some uptoSmall }

/-- 'winnowerlaw18.ItemWins', WHERE WHAT IT READS IS OF BULK AT MOST 1048576: true; the input reads as it did. -/
def itemWinsUptoRow : OpenClaim := { program := "ytfjaklpddcafdaa", sum := "303c38222bf01306ca33cec50debb0e36c96a6b15bc56e7496d128b819a765df", func := "winnower/winnowerlaw18.ItemWins", spec := "itemWins", inPlace := ["internal/bytealg.abigen_runtime_cmpstring"], unfollowed := true, recurses := true, apart := false, narrowed := true }
def ItemWinsUptoSaid : Prop := itemWinsUptoRow.holds Try.pinned (OpenSpec.upto itemWinsSpec)

/-- 'winnowerlaw18.ItemFinds', WHERE WHAT IT READS IS OF BULK AT MOST 1048576: true; the input reads as it did. -/
def itemFindsUptoRow : OpenClaim := { program := "ytfjaklpddcafdaa", sum := "303c38222bf01306ca33cec50debb0e36c96a6b15bc56e7496d128b819a765df", func := "winnower/winnowerlaw18.ItemFinds", spec := "itemFinds", inPlace := ["internal/bytealg.abigen_runtime_cmpstring"], unfollowed := true, recurses := true, apart := false, narrowed := true }
def ItemFindsUptoSaid : Prop := itemFindsUptoRow.holds Try.pinned (OpenSpec.upto itemFindsSpec)

/-- 'winnowerlaw18.ItemMerges', WHERE WHAT IT READS IS OF BULK AT MOST 1048576: true; the input reads as it did. -/
def itemMergesUptoRow : OpenClaim := { program := "ytfjaklpddcafdaa", sum := "303c38222bf01306ca33cec50debb0e36c96a6b15bc56e7496d128b819a765df", func := "winnower/winnowerlaw18.ItemMerges", spec := "itemMerges", inPlace := ["internal/bytealg.abigen_runtime_cmpstring"], unfollowed := true, recurses := true, apart := false, narrowed := true }
def ItemMergesUptoSaid : Prop := itemMergesUptoRow.holds Try.pinned (OpenSpec.upto itemMergesSpec)

/-- 'winnowerlaw18.ItemChain', WHERE WHAT IT READS IS OF BULK AT MOST 1048576: true; the input reads as it did. -/
def itemChainUptoRow : OpenClaim := { program := "ytfjaklpddcafdaa", sum := "303c38222bf01306ca33cec50debb0e36c96a6b15bc56e7496d128b819a765df", func := "winnower/winnowerlaw18.ItemChain", spec := "itemChain", inPlace := ["internal/bytealg.abigen_runtime_cmpstring"], unfollowed := true, recurses := true, apart := false, narrowed := true }
def ItemChainUptoSaid : Prop := itemChainUptoRow.holds Try.pinned (OpenSpec.upto itemChainSpec)

end Rows
end Go.Proofs.Ytfjaklpddcafdaa
