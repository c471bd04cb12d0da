/-
  The laws of layer 6: the chapter's examples; KeyOrder, KeyTotal.
-/
import Derived.Test.YtgoenmgkhdibnaaKeyE
namespace Go.Proofs.Ytgoenmgkhdibnaa
open Go.RowKit

/-! The callees over letters: the texts are named ahead of a walk. -/
theorem less_is (a b : List UInt8) (S T : ByteArray) (hS : str a = S) (hT : str b = T) (ha : a.length ≤ 1000000) (v : Bool) (hv : ltB a b = v) (w : World) : Calls Try.prog 28 #[.string S, .string T] w fun e w' => e = .returned (.bool v) ∧ Below w.heap.size w w' := by
  subst hS hT hv
  exact (ref_less a b (by omega) w).mono fun e w' ⟨h1, n, h2⟩ => ⟨h1, below_quiet h2⟩
theorem cmp_is (a b : List UInt8) (S T : ByteArray) (hS : str a = S) (hT : str b = T) (v : Int) (hv : Lib.compareBytes a b = v) (w : World) : Calls Try.prog 41 #[.string S, .string T] w fun e w' => e = .returned (.int .i64 v) ∧ w = w' := by
  subst hS hT hv
  exact key_cmp a b w
theorem edge_is (a : List UInt8) (S : ByteArray) (hS : str a = S) (v : Bool) (hv : edgeB a = v) (w : World) : Calls Try.prog 43 #[.string S] w fun e w' => e = .returned (.bool v) ∧ w = w' := by
  subst hS hv
  exact key_edge a w
theorem txt_ne {a b : List UInt8} {S T : ByteArray} (hS : str a = S) (hT : str b = T) (h : a ≠ b) : (S.toList == T.toList) = false := by
  subst hS hT
  rw [str_toList, str_toList]
  simpa using h
theorem edge_int (a : List UInt8) (S : ByteArray) (hS : str a = S) : edgeB a = decide ((S.size : Int) ≤ 17) := by
  subst hS
  unfold edgeB
  rw [str_size]
  exact decide_eq_decide.2 (by omega)
/-- What three texts' places have to do with one another. -/
theorem cmp_three (a b c : List UInt8) : ∃ x y z : Int, Lib.compareBytes a b = x ∧ Lib.compareBytes b c = y ∧ Lib.compareBytes a c = z ∧
    ((x = 0 ∧ y = z ∧ (y = -1 ∨ y = 0 ∨ y = 1)) ∨ (x = -1 ∧ (y = -1 ∨ y = 0) ∧ z = -1) ∨ (x = 1 ∧ (y = 1 ∨ y = 0) ∧ z = 1) ∨ (x = -1 ∧ y = 1 ∧ (z = -1 ∨ z = 0 ∨ z = 1)) ∨ (x = 1 ∧ y = -1 ∧ (z = -1 ∨ z = 0 ∨ z = 1))) := by
  have any : ∀ a b : List UInt8, Lib.compareBytes a b = -1 ∨ Lib.compareBytes a b = 0 ∨ Lib.compareBytes a b = 1 := fun a b => by
    rcases ltB_three a b with ⟨h, _, _⟩ | ⟨_, h, _⟩ | ⟨_, _, rfl⟩
    · exact .inl (cmp_lt h)
    · exact .inr (.inr (cmp_gt h))
    · exact .inr (.inl (cmp_self a))
  refine ⟨_, _, _, rfl, rfl, rfl, ?_⟩
  rcases ltB_three a b with ⟨h1, _, _⟩ | ⟨_, h1, _⟩ | ⟨_, _, rfl⟩
  · rcases ltB_three b c with ⟨h2, _, _⟩ | ⟨_, h2, _⟩ | ⟨_, _, rfl⟩
    · exact .inr (.inl ⟨cmp_lt h1, .inl (cmp_lt h2), cmp_lt (ltB_trans h1 h2)⟩)
    · exact .inr (.inr (.inr (.inl ⟨cmp_lt h1, cmp_gt h2, any a c⟩)))
    · exact .inr (.inl ⟨cmp_lt h1, .inr (cmp_self b), cmp_lt h1⟩)
  · rcases ltB_three b c with ⟨h2, _, _⟩ | ⟨_, h2, _⟩ | ⟨_, _, rfl⟩
    · exact .inr (.inr (.inr (.inr ⟨cmp_gt h1, cmp_lt h2, any a c⟩)))
    · exact .inr (.inr (.inl ⟨cmp_gt h1, .inl (cmp_gt h2), cmp_gt (ltB_trans h2 h1)⟩))
    · exact .inr (.inr (.inl ⟨cmp_gt h1, .inr (cmp_self b), cmp_gt h1⟩))
  · exact .inl ⟨cmp_self a, rfl, any a c⟩
end Go.Proofs.Ytgoenmgkhdibnaa
