/-
  What the statement's row lists of the library's variables, and the world's shape, as what a walk asks of them.
-/
import Derived.Test.YtddamcmbgbefpaaDoorSys
import Derived.Test.YtddamcmbgbefpaaDoorRows
import Derived.Lib.LaidTab
import Derived.Stop.LaidErr
import Derived.Stop.Joined
import Derived.MakeChecks
import Derived.Shelf.LaysM
namespace Go.Proofs.YtddamcmbgbefpaaDoor
open Go.RowKit

theorem sysMax {W : World} (hsh : W.ShapedOpen Tryd.prog) : MaxAt W :=
  Go.Proofs.cell_of_shapedOpen_int (zero := #[.int .i64 0]) (t := 3) hsh (of_decide_eq_true (by kernel_rfl)) (by kernel_rfl) rfl (by kernel_rfl) (by kernel_rfl) Tryd.underlying3
theorem sysTab {H : Type} : (Rows.laid_internal_strconv_uint64pow10 : DataW H) = Lib.tabData .u64 Lib.pow10Tab := rfl
theorem sysStar : "*" ++ "errors.errorString" = "*errors.errorString" := by decide
theorem sysRow : ∀ u, Tryd.prog.typeName? 3 u = some "*errors.errorString" → u = 105 := fun u h =>
  typeName_ptr_named (nm := "errors.errorString") (by rw [sysStar]; kernel_rfl) (by kernel_rfl) (by decide) u (by rw [sysStar]; exact h)
theorem sysAt_laid {W : World} {x y : String × DataW Unit} {r : List (String × DataW Unit)} (hsh : W.ShapedOpen Tryd.prog)
    (h : laidMetH Tryd.prog (x :: y :: ("internal/strconv.uint64pow10", Rows.laid_internal_strconv_uint64pow10) :: ("strconv.ErrRange", Rows.laid_strconv_ErrRange) :: ("strconv.ErrSyntax", Rows.laid_strconv_ErrSyntax) :: r) W)
    (hp : ((x :: y :: ("internal/strconv.uint64pow10", Rows.laid_internal_strconv_uint64pow10) :: ("strconv.ErrRange", Rows.laid_strconv_ErrRange) :: ("strconv.ErrSyntax", Rows.laid_strconv_ErrSyntax) :: r).all fun x => x.2.handleName?.isNone) = true) : SysAt W := by
  rw [MakeChecks.laidMetH_plain _ _ _ hp] at h
  have h1 := h.tail.tail
  rw [sysTab] at h1
  have h2 := h1.tail
  have h3 := h2.tail
  have hgR : Tryd.prog.globalNamed "strconv.ErrRange" = some 3 := by kernel_rfl
  have htR : (Tryd.prog.globals[3]?).map (·.type) = some 47 := by kernel_rfl
  have hgS : Tryd.prog.globalNamed "strconv.ErrSyntax" = some 2 := by kernel_rfl
  have htS : (Tryd.prog.globals[2]?).map (·.type) = some 47 := by kernel_rfl
  have hgT : Tryd.prog.globalNamed "internal/strconv.uint64pow10" = some 1 := by kernel_rfl
  have htT : (Tryd.prog.globals[1]?).map (·.type) = some 88 := by kernel_rfl
  obtain ⟨aR, _, hR, -⟩ := laid_sentinel h2 hgR htR Tryd.underlying47 sysRow Tryd.underlying105 Tryd.underlying107 rfl rfl Tryd.underlying9 (by kernel_rfl) (by kernel_rfl)
  obtain ⟨aS, _, hS, -⟩ := laid_sentinel h3 hgS htS Tryd.underlying47 sysRow Tryd.underlying105 Tryd.underlying107 rfl rfl Tryd.underlying9 (by kernel_rfl) (by kernel_rfl)
  exact ⟨sysMax hsh, ⟨_, _, hS⟩, ⟨_, _, hR⟩, Lib.tabIs_of_head hgT htT Tryd.underlying88 Tryd.underlying68 (by kernel_rfl) (by kernel_rfl) h1⟩
end Go.Proofs.YtddamcmbgbefpaaDoor
