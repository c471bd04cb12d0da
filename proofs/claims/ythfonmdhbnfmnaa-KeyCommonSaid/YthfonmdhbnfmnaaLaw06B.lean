/-
  The laws of layer 6: KeyNext.
-/
import Derived.Test.YthfonmdhbnfmnaaLaw06A
namespace Go.Proofs.Ythfonmdhbnfmnaa
open Go.RowKit

theorem begins_is (a b : List UInt8) (S T : ByteArray) (hS : str a = S) (hT : str b = T) (v : Bool) (hv : b.isPrefixOf a = v) (w : World) : Calls Try.prog 16 #[.string S, .string T] w fun e w' => e = .returned (.bool v) ∧ w = w' := by
  subst hS hT hv
  exact ref_begins a b w
/-- What an end's two results are. -/
theorem endO (a : List UInt8) : ∃ (x : List UInt8) (v : Bool), (endV a = some x ∧ v = true) ∨ (endV a = none ∧ x = [] ∧ v = false) := by
  cases h : endV a with
  | some x => exact ⟨x, true, .inl ⟨rfl, rfl⟩⟩
  | none => exact ⟨[], false, .inr ⟨rfl, rfl, rfl⟩⟩
theorem endO_len {a x : List UInt8} {v : Bool} (h : (endV a = some x ∧ v = true) ∨ (endV a = none ∧ x = [] ∧ v = false)) : x.length ≤ a.length := by
  rcases h with ⟨h, _⟩ | ⟨_, rfl, _⟩
  · exact (endV_len h).2
  · simp
theorem endO_is (a x : List UInt8) (v : Bool) (S X : ByteArray) (hS : str a = S) (hX : str x = X) (ha : a.length ≤ 1000000) (h : (endV a = some x ∧ v = true) ∨ (endV a = none ∧ x = [] ∧ v = false)) (w : World) :
    Calls Try.prog 14 #[.string S] w fun e w' => e = .returned (.tuple #[.string X, .bool v]) ∧ Below w.heap.size w w' := by
  subst hS hX
  refine (key_end a ha w).mono ?_
  rintro e w' ⟨h', hb⟩
  rcases h with ⟨h, rfl⟩ | ⟨h, rfl, rfl⟩ <;> rcases h' with ⟨y, hy, rfl⟩ | ⟨hy, rfl⟩ <;> rw [h] at hy
  · injection hy with hy; subst hy; exact ⟨rfl, hb⟩
  · cases hy
  · cases hy
  · exact ⟨rfl, hb⟩
theorem rendO_is (a x : List UInt8) (v : Bool) (S X : ByteArray) (hS : str a = S) (hX : str x = X) (ha : a.length ≤ 1000000) (h : (endV a = some x ∧ v = true) ∨ (endV a = none ∧ x = [] ∧ v = false)) (w : World) :
    Calls Try.prog 15 #[.string S] w fun e w' => e = .returned (.tuple #[.string X, .bool v]) ∧ Below w.heap.size w w' := by
  subst hS hX
  refine (ref_end a ha w).mono ?_
  rintro e w' ⟨h', hb⟩
  rcases h with ⟨h, rfl⟩ | ⟨h, rfl, rfl⟩ <;> rcases h' with ⟨y, hy, rfl⟩ | ⟨hy, rfl⟩ <;> rw [h] at hy
  · injection hy with hy; subst hy; exact ⟨rfl, hb⟩
  · cases hy
  · cases hy
  · exact ⟨rfl, hb⟩
theorem end_betweenO {a x : List UInt8} {v : Bool} (h : (endV a = some x ∧ v = true) ∨ (endV a = none ∧ x = [] ∧ v = false)) (t : List UInt8) : a.isPrefixOf t = (!ltB t a && (!v || ltB t x)) := by
  rw [← end_between a t]
  rcases h with ⟨h, rfl⟩ | ⟨h, rfl, rfl⟩ <;> rw [h] <;> simp [aheadO]
theorem next_noneB {s t : List UInt8} {v : Bool} (h : ltB s t = v) : v = true → ltB t (s ++ [0]) = false := fun e => next_none (h.trans e)

theorem keyNext_long (a b : List UInt8) (h : 300 < a.length ∨ 300 < b.length) (w : World) : Calls Try.prog 4 #[.string (str a), .string (str b)] w fun e w' => e = .returned (.bool true) ∧ Below w.heap.size w w' := by
  have hza := str_size a
  have hzb := str_size b
  have A0 := Lib.hid (awake06 w)
  generalize str a = S at hza ⊢
  generalize str b = T at hzb ⊢
  by_cases h1 : 300 < a.length
  · have g1 : 300 < S.size := by omega
    clear hza hzb h h1
    go_enter Try.func4, Try.ntmps4
    go_wp2_with ((with_reducible refine A0.out.mono ?_); rintro e w1 ⟨rfl, hb1⟩)
    go_wp2_with fail
    go_ret
    exact ⟨rfl, hb1⟩
  · have g1 : S.size ≤ 300 := by omega
    have g2 : 300 < T.size := by omega
    clear hza hzb h h1
    go_enter Try.func4, Try.ntmps4
    go_wp2_with ((with_reducible refine A0.out.mono ?_); rintro e w1 ⟨rfl, hb1⟩)
    go_wp2_with fail
    go_ret
    exact ⟨rfl, hb1⟩
set_option maxHeartbeats 1000000 in
theorem keyNext_short (s t : List UInt8) (hs : s.length ≤ 300) (ht : t.length ≤ 300) (w : World) : Calls Try.prog 4 #[.string (str s), .string (str t)] w fun e w' => e = .returned (.bool true) ∧ Below w.heap.size w w' := by
  have hza := str_size s
  have hzb := str_size t
  have A0 := Lib.hid (awake06 w)
  obtain ⟨x, v, hv⟩ := endO s
  have hx := endO_len hv
  obtain ⟨S, hS⟩ : ∃ S, str s = S := ⟨_, rfl⟩
  obtain ⟨T, hT⟩ : ∃ T, str t = T := ⟨_, rfl⟩
  obtain ⟨N, hN⟩ : ∃ N, str (s ++ [0]) = N := ⟨_, rfl⟩
  obtain ⟨X, hX⟩ : ∃ X, str x = X := ⟨_, rfl⟩
  rw [hS] at hza ⊢
  rw [hT] at hzb ⊢
  have g1 : S.size ≤ 300 := by omega
  have g2 : T.size ≤ 300 := by omega
  obtain ⟨v1, h1⟩ : ∃ v1, ltB s t = v1 := ⟨_, rfl⟩
  obtain ⟨v2, h2⟩ : ∃ v2, ltB t s = v2 := ⟨_, rfl⟩
  obtain ⟨v3, h3⟩ : ∃ v3, ltB t x = v3 := ⟨_, rfl⟩
  have hp := end_betweenO hv t
  rw [h2, h3] at hp
  have HN0 := fun e => Lib.hid (next_noneB h1 e)
  have N1 := fun w => Lib.hid (next_is s S N hS hN (by omega) w)
  have L1 := fun w => Lib.hid (less_is s (s ++ [0]) S N hS hN (by omega) true (ltB_next s) w)
  have L2 := fun w => Lib.hid (less_is s t S T hS hT (by omega) v1 h1 w)
  have L3 := fun hv w => Lib.hid (less_is t (s ++ [0]) T N hT hN (by omega) false hv w)
  have L4 := fun w => Lib.hid (less_is t s T S hT hS (by omega) v2 h2 w)
  have L5 := fun w => Lib.hid (less_is t x T X hT hX (by omega) v3 h3 w)
  have E1 := fun w => Lib.hid (endO_is s x v S X hS hX (by omega) hv w)
  have E2 := fun w => Lib.hid (rendO_is s x v S X hS hX (by omega) hv w)
  have B1 := fun w => Lib.hid (begins_is t s T S hT hS _ hp w)
  clear hza hzb h1 h2 h3 hv hp hS hT hN hX hx hs ht
  cases v1
  case' true => replace L3 := L3 (HN0 rfl).out
  all_goals
    clear HN0
    cases v2 <;> cases v <;> cases v3
  all_goals
    go_enter Try.func4, Try.ntmps4
    go_wp2_with ((with_reducible refine A0.out.mono ?_); rintro e w1 ⟨rfl, hb⟩)
    go_wp2_with (first
      | ((with_reducible refine (N1 _).out.mono ?_); rintro e w' ⟨rfl, hq⟩; replace hb := hb.trans (hq.mono hb.size); clear hq)
      | ((with_reducible refine (L1 _).out.mono ?_); rintro e w' ⟨rfl, hq⟩; replace hb := hb.trans (hq.mono hb.size); clear hq)
      | ((with_reducible refine (L2 _).out.mono ?_); rintro e w' ⟨rfl, hq⟩; replace hb := hb.trans (hq.mono hb.size); clear hq)
      | ((with_reducible refine (L3 _).out.mono ?_); rintro e w' ⟨rfl, hq⟩; replace hb := hb.trans (hq.mono hb.size); clear hq)
      | ((with_reducible refine (L4 _).out.mono ?_); rintro e w' ⟨rfl, hq⟩; replace hb := hb.trans (hq.mono hb.size); clear hq)
      | ((with_reducible refine (L5 _).out.mono ?_); rintro e w' ⟨rfl, hq⟩; replace hb := hb.trans (hq.mono hb.size); clear hq)
      | ((with_reducible refine (E1 _).out.mono ?_); rintro e w' ⟨rfl, hq⟩; replace hb := hb.trans (hq.mono hb.size); clear hq)
      | ((with_reducible refine (E2 _).out.mono ?_); rintro e w' ⟨rfl, hq⟩; replace hb := hb.trans (hq.mono hb.size); clear hq)
      | ((with_reducible refine (B1 _).out.mono ?_); rintro e w' ⟨rfl, rfl⟩))
    go_ret
    exact ⟨rfl, hb⟩
theorem keyNext_walk (a b : List UInt8) (w : World) : Calls Try.prog 4 #[.string (str a), .string (str b)] w fun e w' => e = .returned (.bool true) ∧ Below w.heap.size w w' := by
  by_cases h : a.length ≤ 300 ∧ b.length ≤ 300
  · exact keyNext_short a b h.1 h.2 w
  · exact keyNext_long a b (by omega) w
end Go.Proofs.Ythfonmdhbnfmnaa
