/-
  Layer 5 (word): what begins a word.
-/
import Derived.Test.YtkdepcfnipihhaaDoorWordA
import Derived.Test.YtkdepcfnipihhaaDoorShelfWB
import Derived.BigQuiet
import Derived.Deep.QuietTactic
namespace Go.Proofs.YtkdepcfnipihhaaDoor
open Go.RowKit

/-- What comes back of the head of what is left of a word. -/
def FirstV (r : List UInt8) (e : Ending) : Prop :=
  (∃ c a, r = spell c ++ a ∧ e = .returned (.tuple #[.int .u8 (c.toNat : Int), .int .i64 ((spell c).length : Int)])) ∨ (noFirst r ∧ e = .returned (.tuple #[.int .u8 0, .int .i64 0]))
theorem str_at (l : List UInt8) (k : Nat) (h : k < (str l).size) : (str l)[k] = l.getD k 0 := str_get l k (by rwa [str_size] at h)

theorem first_one (c : UInt8) (a : List UInt8) (hp : plainB c = true) (w : World) : Calls Tryd.prog 13 #[.string (str (c :: a))] w fun e w' => e = .returned (.tuple #[.int .u8 (c.toNat : Int), .int .i64 1]) ∧ ∃ n, w' = w.drewN n := by
  have H0 : ∀ h : 0 < (str (c :: a)).size, (str (c :: a))[0] = c := fun h => str_at _ 0 h
  have hz : 0 < (str (c :: a)).size := by rw [str_size]; simp
  generalize str (c :: a) = S at H0 hz ⊢
  have h0 := H0 hz
  clear H0
  go_enter Tryd.func13, Tryd.ntmps13
  go_wp2_with (go_at_call 17; refine (wrd_plain _ _).mono ?_; rintro e w' ⟨rfl, rfl⟩)
  go_ret2
  exact ⟨rfl, 0, rfl⟩
theorem first_head (c : UInt8) (a : List UInt8) (hp : plainB c = false) (hc : ((c.toNat : Int) == 45) = false) (w : World) : Calls Tryd.prog 13 #[.string (str (c :: a))] w fun e w' => e = .returned (.tuple #[.int .u8 0, .int .i64 0]) ∧ ∃ n, w' = w.drewN n := by
  have H0 : ∀ h : 0 < (str (c :: a)).size, (str (c :: a))[0] = c := fun h => str_at _ 0 h
  have hz : 0 < (str (c :: a)).size := by rw [str_size]; simp
  generalize str (c :: a) = S at H0 hz ⊢
  have h0 := H0 hz
  clear H0
  have hc' : ((c.toNat : Int) != 45) = true := by simpa using hc
  go_enter Tryd.func13, Tryd.ntmps13
  go_wp2_with (go_at_call 17; refine (wrd_plain _ _).mono ?_; rintro e w' ⟨rfl, rfl⟩)
  go_ret2
  exact ⟨rfl, 0, rfl⟩
theorem first_short (a : List UInt8) (hl : a.length < 2) (w : World) : Calls Tryd.prog 13 #[.string (str (45 :: a))] w fun e w' => e = .returned (.tuple #[.int .u8 0, .int .i64 0]) ∧ ∃ n, w' = w.drewN n := by
  have H0 : ∀ h : 0 < (str (45 :: a)).size, (str (45 :: a))[0] = 45 := fun h => str_at _ 0 h
  have hz : 0 < (str (45 :: a)).size := by rw [str_size]; simp
  have hz2 : (str (45 :: a)).size < 3 := by rw [str_size]; simp; omega
  generalize str (45 :: a) = S at H0 hz hz2 ⊢
  have h0 := H0 hz
  clear H0
  have hp := stroke_not_plain
  go_enter Tryd.func13, Tryd.ntmps13
  go_wp2_with (go_at_call 17; refine (wrd_plain 45 _).mono ?_; rintro e w' ⟨rfl, rfl⟩)
  go_ret2
  exact ⟨rfl, 0, rfl⟩
theorem wrd_idx (x : UInt8) (w : World) : Calls Tryd.prog 25 #[.string ⟨#[48, 49, 50, 51, 52, 53, 54, 55, 56, 57, 97, 98, 99, 100, 101, 102]⟩, .int .u8 (x.toNat : Int)] w fun e w' => e = .returned (.int .i64 (digI x)) ∧ w' = w := by
  refine (Tryd.strings_IndexByte _ _ w).mono ?_
  rintro e w' ⟨rfl, rfl⟩
  refine ⟨ret_int ?_, rfl⟩
  unfold digI
  congr 1
  simp
theorem three_open (x y : UInt8) (a : List UInt8) : ∃ (S : ByteArray) (_ : 2 < S.size), S = str (45 :: x :: y :: a) ∧ S[0] = 45 ∧ S[1] = x ∧ S[2] = y :=
  ⟨str (45 :: x :: y :: a), by rw [str_size]; simp, rfl, str_at _ 0 _, str_at _ 1 _, str_at _ 2 _⟩
theorem or_all : ∀ i, i < 16 → ∀ j, j < 16 → bits .or .i64 ((i : Nat) * 16 : Int) ((j : Nat) : Int) % 256 = (i : Int) * 16 + j := by decide +kernel
theorem or_byte {x y : UInt8} (hx : 0 ≤ digI x) (hy : 0 ≤ digI y) : bits .or .i64 (digI x * 16) (digI y) % 256 = ((byteOf x y).toNat : Int) := by
  have h1 := digI_bound x
  have h2 := digI_bound y
  have := or_all (digI x).toNat (by omega) (digI y).toNat (by omega)
  rw [Int.toNat_of_nonneg hx, Int.toNat_of_nonneg hy] at this
  rw [this, byteOf_nat hx hy]
  omega
theorem first_spelt_ (x y : UInt8) (a : List UInt8) (hx : 0 ≤ digI x) (hy : 0 ≤ digI y) (hp : plainB (byteOf x y) = false) (w : World) : Calls Tryd.prog 13 #[.string (str (45 :: x :: y :: a))] w fun e w' => e = .returned (.tuple #[.int .u8 ((byteOf x y).toNat : Int), .int .i64 3]) ∧ ∃ n, w' = w.drewN n := by
  obtain ⟨S, hz, hS, h0, h1, h2⟩ := three_open x y a
  rw [← hS]
  clear hS
  have hp0 := stroke_not_plain
  obtain ⟨bx1, bx2⟩ := digI_bound x
  obtain ⟨by1, by2⟩ := digI_bound y
  have hor := or_byte hx hy
  go_enter Tryd.func13, Tryd.ntmps13
  go_wp2_with (go_at_call 17; refine (wrd_plain 45 _).mono ?_; rintro e w' ⟨rfl, rfl⟩)
  go_quiet ((go_at_call 25; exact Calls.quiet_of_same (wrd_idx _ _)))
  go_wp2_with (go_at_call 17; refine (wrd_plain (byteOf x y) _).mono ?_; rintro e w' ⟨rfl, rfl⟩)
  go_ret2
  exact ⟨rfl, _, rfl⟩
theorem first_same (x y : UInt8) (a : List UInt8) (hx : 0 ≤ digI x) (hy : 0 ≤ digI y) (hp : plainB (byteOf x y) = true) (w : World) : Calls Tryd.prog 13 #[.string (str (45 :: x :: y :: a))] w fun e w' => e = .returned (.tuple #[.int .u8 0, .int .i64 0]) ∧ ∃ n, w' = w.drewN n := by
  obtain ⟨S, hz, hS, h0, h1, h2⟩ := three_open x y a
  rw [← hS]
  clear hS
  have hp0 := stroke_not_plain
  obtain ⟨bx1, bx2⟩ := digI_bound x
  obtain ⟨by1, by2⟩ := digI_bound y
  have hor := or_byte hx hy
  go_enter Tryd.func13, Tryd.ntmps13
  go_wp2_with (go_at_call 17; refine (wrd_plain 45 _).mono ?_; rintro e w' ⟨rfl, rfl⟩)
  go_quiet ((go_at_call 25; exact Calls.quiet_of_same (wrd_idx _ _)))
  go_wp2_with (go_at_call 17; refine (wrd_plain (byteOf x y) _).mono ?_; rintro e w' ⟨rfl, rfl⟩)
  go_ret2
  exact ⟨rfl, _, rfl⟩
theorem first_digits (x y : UInt8) (a : List UInt8) (h : digI x < 0 ∨ digI y < 0) (w : World) : Calls Tryd.prog 13 #[.string (str (45 :: x :: y :: a))] w fun e w' => e = .returned (.tuple #[.int .u8 0, .int .i64 0]) ∧ ∃ n, w' = w.drewN n := by
  obtain ⟨S, hz, hS, h0, h1, h2⟩ := three_open x y a
  rw [← hS]
  clear hS
  have hp0 := stroke_not_plain
  rcases Int.lt_or_le (digI x) 0 with hx | hx
  · go_enter Tryd.func13, Tryd.ntmps13
    go_wp2_with (go_at_call 17; refine (wrd_plain 45 _).mono ?_; rintro e w' ⟨rfl, rfl⟩)
    go_quiet ((go_at_call 25; exact Calls.quiet_of_same (wrd_idx _ _)))
    go_wp2_with fail
    go_ret2
    exact ⟨rfl, _, rfl⟩
  · have hy : digI y < 0 := by omega
    go_enter Tryd.func13, Tryd.ntmps13
    go_wp2_with (go_at_call 17; refine (wrd_plain 45 _).mono ?_; rintro e w' ⟨rfl, rfl⟩)
    go_quiet ((go_at_call 25; exact Calls.quiet_of_same (wrd_idx _ _)))
    go_wp2_with fail
    go_ret2
    exact ⟨rfl, _, rfl⟩
/-- What begins a word, whatever is left of it. -/
theorem wrd_first (r : List UInt8) (hr : r ≠ []) (w : World) : Calls Tryd.prog 13 #[.string (str r)] w fun e w' => FirstV r e ∧ ∃ n, w' = w.drewN n := by
  cases r with
  | nil => exact absurd rfl hr
  | cons c a =>
    cases hp : plainB c with
    | true => exact (first_one c a hp w).mono fun e w' h => ⟨.inl ⟨c, a, first_plain hp, by rw [spell_plain hp]; exact h.1⟩, h.2⟩
    | false =>
      by_cases hc : c = 45
      · subst hc
        by_cases hl : a.length < 2
        · exact (first_short a hl w).mono fun e w' h => ⟨.inr ⟨noFirst_short hp (by simp; omega), h.1⟩, h.2⟩
        · obtain ⟨x, y, b, rfl⟩ : ∃ x y b, a = x :: y :: b := by
            match a, hl with
            | [], hl => simp at hl
            | [_], hl => simp at hl
            | x :: y :: b, _ => exact ⟨x, y, b, rfl⟩
          rcases Int.lt_or_le (digI x) 0 with hx | hx
          · exact (first_digits x y b (.inl hx) w).mono fun e w' h => ⟨.inr ⟨noFirst_digits (.inl hx), h.1⟩, h.2⟩
          · rcases Int.lt_or_le (digI y) 0 with hy | hy
            · exact (first_digits x y b (.inr hy) w).mono fun e w' h => ⟨.inr ⟨noFirst_digits (.inr hy), h.1⟩, h.2⟩
            · cases hb : plainB (byteOf x y) with
              | true => exact (first_same x y b hx hy hb w).mono fun e w' h => ⟨.inr ⟨noFirst_spelt hb, h.1⟩, h.2⟩
              | false => exact (first_spelt_ x y b hx hy hb w).mono fun e w' h => ⟨.inl ⟨byteOf x y, b, first_three hx hy hb, by rw [spell_byteOf hx hy hb]; exact h.1⟩, h.2⟩
      · have hc' : ((c.toNat : Int) == 45) = false := by
          rw [beq_eq_false_iff_ne]
          intro e
          exact hc (UInt8.toNat_inj.1 (by show c.toNat = 45; omega))
        exact (first_head c a hp hc' w).mono fun e w' h => ⟨.inr ⟨noFirst_head hp hc, h.1⟩, h.2⟩
end Go.Proofs.YtkdepcfnipihhaaDoor
