/-
  Layer 7 (span): which texts a range has; the ranges of all texts, of one, of those that begin with one.
-/
import Derived.Test.YtgoenmgkhdibnaaSpanA
namespace Go.Proofs.Ytgoenmgkhdibnaa
open Go.RowKit

theorem span_has (r : Rng) (s : List UInt8) (S T U : ByteArray) (o v : Bool) (h : IsR r S T o) (hU : str s = U) (hv : hasR r s = v) (w : World) :
    Calls Try.prog 29 #[.agg #[.string S, .string T, .bool o], .string U] w fun e w' => e = .returned (.bool v) ∧ Below w.heap.size w w' := by
  obtain ⟨v1, e1⟩ : ∃ v1, rightR r = v1 := ⟨_, rfl⟩
  have R1 := fun w => Lib.hid (span_right r S T o v1 h e1 w)
  obtain ⟨h1, h2, h3⟩ := h
  obtain ⟨x, hx, -, hx1⟩ := cmp_test s r.lo
  obtain ⟨y, hy, hy1, -⟩ := cmp_test s r.hi
  have C1 := fun w => Lib.hid (cmp_is s r.lo U S hU h1 x hx w)
  have C2 := fun w => Lib.hid (cmp_is s r.hi U T hU h2 y hy w)
  unfold hasR aheadR at hv
  rw [e1, ← hx1, ← hy1, h3] at hv
  clear e1 hx hy hx1 hy1 h1 h2 h3 hU
  obtain ⟨d1, g1⟩ : ∃ d1, decide (0 ≤ x) = d1 := ⟨_, rfl⟩
  obtain ⟨d2, g2⟩ : ∃ d2, decide (y < 0) = d2 := ⟨_, rfl⟩
  rw [g1, g2] at hv
  subst hv
  cases v1 <;> cases d1 <;> cases o <;> cases d2
  all_goals
    go_enter Try.func29, Try.ntmps29
    go_wp2_with (first | ((with_reducible refine (R1 _).out.mono ?_); rintro e w' ⟨rfl, hb⟩; obtain ⟨hc, -⟩ := bcell hb) | ((with_reducible refine (C1 _).out.mono ?_); rintro e w' ⟨rfl, rfl⟩) | ((with_reducible refine (C2 _).out.mono ?_); rintro e w' ⟨rfl, rfl⟩))
    go_ret
    exact ⟨rfl, ((Below.refl _ _).alloc (Nat.le_refl _) _).trans (hb.mono (by simp))⟩
theorem ref_has (r : Rng) (s : List UInt8) (S T U : ByteArray) (o v : Bool) (h : IsR r S T o) (hU : str s = U) (hs : s.length ≤ 1000000) (hv : hasR r s = v) (w : World) :
    Calls Try.prog 30 #[.agg #[.string S, .string T, .bool o], .string U] w fun e w' => e = .returned (.bool v) ∧ Below w.heap.size w w' := by
  obtain ⟨v1, e1⟩ : ∃ v1, rightR r = v1 := ⟨_, rfl⟩
  have R1 := fun w => Lib.hid (ref_rright r S T o v1 h e1 w)
  obtain ⟨h1, h2, h3⟩ := h
  obtain ⟨d1, g1⟩ : ∃ d1, ltB s r.lo = d1 := ⟨_, rfl⟩
  obtain ⟨d2, g2⟩ : ∃ d2, ltB s r.hi = d2 := ⟨_, rfl⟩
  have L1 := fun w => Lib.hid (less_is s r.lo U S hU h1 hs d1 g1 w)
  have L2 := fun w => Lib.hid (less_is s r.hi U T hU h2 hs d2 g2 w)
  unfold hasR aheadR at hv
  rw [e1, g1, g2, h3] at hv
  clear e1 g1 g2 h1 h2 h3 hU
  subst hv
  cases v1 <;> cases d1 <;> cases o <;> cases d2
  all_goals
    go_enter Try.func30, Try.ntmps30
    go_wp2_with (first | ((with_reducible refine (R1 _).out.mono ?_); rintro e w' ⟨rfl, hq⟩; obtain ⟨hc, -⟩ := bcell hq) | ((with_reducible refine (L1 _).out.mono ?_); rintro e w2 ⟨rfl, hq2⟩; replace hc := fun b o h => ((bcell hq2).1 b o (Nat.lt_of_lt_of_le h hq.size)).trans (hc b o h); replace hq := hq.trans (hq2.mono hq.size); clear hq2) | ((with_reducible refine (L2 _).out.mono ?_); rintro e w3 ⟨rfl, hq3⟩; replace hq := hq.trans (hq3.mono hq.size); clear hq3))
    go_ret
    exact ⟨rfl, ((Below.refl _ _).alloc (Nat.le_refl _) _).trans (hq.mono (by simp))⟩

end Go.Proofs.Ytgoenmgkhdibnaa
