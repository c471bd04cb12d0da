/-
  Layer 7 (span): which ranges are right, in the program's words and in the document's.
-/
import Derived.Test.YtgoenmgkhdibnaaLaw06B
import Derived.Test.YtgoenmgkhdibnaaRng
namespace Go.Proofs.Ytgoenmgkhdibnaa
open Go.RowKit

theorem edgeB_le {l : List UInt8} : edgeB l = decide (l.length ≤ 17) := rfl
theorem txt_empty {l : List UInt8} {S : ByteArray} (h : str l = S) : (S.toList == []) = l.isEmpty := by
  subst h; rw [str_toList]; cases l <;> rfl
/-- Of two texts which stands ahead, as a number and as a test. -/
theorem cmp_test (a b : List UInt8) : ∃ x : Int, Lib.compareBytes a b = x ∧ decide (x < 0) = ltB a b ∧ decide (0 ≤ x) = !ltB a b := by
  refine ⟨_, rfl, ?_, ?_⟩
  · rw [cmp_ltB]; cases ltB a b with
    | true => rfl
    | false => cases ltB b a <;> rfl
  · rw [cmp_ltB]; cases ltB a b with
    | true => rfl
    | false => cases ltB b a <;> rfl

theorem span_right (r : Rng) (S T : ByteArray) (o v : Bool) (h : IsR r S T o) (hv : rightR r = v) (w : World) :
    Calls Try.prog 26 #[.agg #[.string S, .string T, .bool o]] w fun e w' => e = .returned (.bool v) ∧ Below w.heap.size w w' := by
  obtain ⟨h1, h2, h3⟩ := h
  cases ho : o with
  | true =>
    subst ho
    rw [rightR_open h3] at hv
    obtain ⟨v1, e1⟩ : ∃ v1, edgeB r.lo = v1 := ⟨_, rfl⟩
    obtain ⟨v2, e2⟩ : ∃ v2, r.hi.isEmpty = v2 := ⟨_, rfl⟩
    have hT := (txt_empty h2).trans e2
    have E1 := fun w => Lib.hid (edge_is r.lo S h1 v1 e1 w)
    rw [← edgeB_le, e1, e2] at hv
    clear e1 e2 h1 h2 h3
    subst hv
    cases v1 <;> cases v2
    all_goals
      go_enter Try.func26, Try.ntmps26
      go_wp2_with ((with_reducible refine (E1 _).out.mono ?_); rintro e w' ⟨rfl, rfl⟩)
      go_ret
      exact ⟨rfl, (Below.refl _ _).alloc (Nat.le_refl _) _⟩
  | false =>
    subst ho
    rw [rightR_shut h3] at hv
    obtain ⟨v1, e1⟩ : ∃ v1, edgeB r.lo = v1 := ⟨_, rfl⟩
    obtain ⟨v2, e2⟩ : ∃ v2, edgeB r.hi = v2 := ⟨_, rfl⟩
    have E1 := fun w => Lib.hid (edge_is r.lo S h1 v1 e1 w)
    have E2 := fun w => Lib.hid (edge_is r.hi T h2 v2 e2 w)
    rw [← edgeB_le, ← edgeB_le, e1, e2] at hv
    clear e1 e2
    obtain ⟨x, hx, hx1, -⟩ := cmp_test r.lo r.hi
    have C := fun w => Lib.hid (cmp_is r.lo r.hi S T h1 h2 x hx w)
    rw [← hx1] at hv
    clear hx1 hx h1 h2 h3
    subst hv
    cases v1 <;> cases v2
    all_goals
      go_enter Try.func26, Try.ntmps26
      go_wp2_with (first | ((with_reducible refine (E1 _).out.mono ?_); rintro e w' ⟨rfl, rfl⟩) | ((with_reducible refine (E2 _).out.mono ?_); rintro e w' ⟨rfl, rfl⟩) | ((with_reducible refine (C _).out.mono ?_); rintro e w' ⟨rfl, rfl⟩))
      go_ret
      exact ⟨rfl, (Below.refl _ _).alloc (Nat.le_refl _) _⟩
theorem refR_open {r : Rng} (h : r.op = true) : rightR r = (decide (r.lo.length ≤ 17) && (decide (r.hi.length ≤ 17) && r.hi.isEmpty)) := by
  rw [rightR_open h]
  cases hh : r.hi with
  | nil => rfl
  | cons x l => simp
theorem size_le17 {l : List UInt8} {S : ByteArray} (h : str l = S) : decide (17 < S.size) = !decide (l.length ≤ 17) := by
  subst h; rw [str_size]; by_cases h : l.length ≤ 17 <;> simp [h] <;> omega
theorem ref_rright (r : Rng) (S T : ByteArray) (o v : Bool) (h : IsR r S T o) (hv : rightR r = v) (w : World) :
    Calls Try.prog 27 #[.agg #[.string S, .string T, .bool o]] w fun e w' => e = .returned (.bool v) ∧ Below w.heap.size w w' := by
  obtain ⟨h1, h2, h3⟩ := h
  have hz1 : S.size = r.lo.length := by subst h1; exact str_size _
  have hz2 : T.size = r.hi.length := by subst h2; exact str_size _
  by_cases g1 : r.lo.length ≤ 17
  · by_cases g2 : r.hi.length ≤ 17
    · have k1 : S.size ≤ 17 := by omega
      have k2 : T.size ≤ 17 := by omega
      cases ho : o with
      | true =>
        subst ho
        obtain ⟨v2, e2⟩ : ∃ v2, r.hi.isEmpty = v2 := ⟨_, rfl⟩
        have hT := (txt_empty h2).trans e2
        rw [rightR_open h3, decide_eq_true g1, e2, Bool.true_and] at hv
        clear e2 h1 h2 h3 hz1 hz2
        subst hv
        go_enter Try.func27, Try.ntmps27
        go_wp2_with fail
        go_ret
        exact ⟨rfl, (Below.refl _ _).alloc (Nat.le_refl _) _⟩
      | false =>
        subst ho
        rw [rightR_shut h3, decide_eq_true g1, decide_eq_true g2, Bool.true_and, Bool.true_and] at hv
        have L := fun w => Lib.hid (less_is r.lo r.hi S T h1 h2 (by omega) v hv w)
        clear h1 h2 h3 hz1 hz2 hv
        go_enter Try.func27, Try.ntmps27
        go_wp2_with ((with_reducible refine (L _).out.mono ?_); rintro e w' ⟨rfl, hb⟩)
        go_ret
        exact ⟨rfl, ((Below.refl _ _).alloc (Nat.le_refl _) _).trans (hb.mono (by simp))⟩
    · have k1 : S.size ≤ 17 := by omega
      have k2 : 17 < T.size := by omega
      have hv' : v = false := by
        rw [← hv, Bool.eq_false_iff]; intro e; exact g2 (rightR_hi e)
      subst hv'
      clear h1 h2 h3 hz1 hz2 hv
      go_enter Try.func27, Try.ntmps27
      go_wp2_with fail
      go_ret
      exact ⟨rfl, (Below.refl _ _).alloc (Nat.le_refl _) _⟩
  · have k1 : 17 < S.size := by omega
    have hv' : v = false := by
      rw [← hv, Bool.eq_false_iff]; intro e; exact g1 (rightR_lo e)
    subst hv'
    clear h1 h2 h3 hz1 hz2 hv
    go_enter Try.func27, Try.ntmps27
    go_wp2_with fail
    go_ret
    exact ⟨rfl, (Below.refl _ _).alloc (Nat.le_refl _) _⟩
end Go.Proofs.Ytgoenmgkhdibnaa
