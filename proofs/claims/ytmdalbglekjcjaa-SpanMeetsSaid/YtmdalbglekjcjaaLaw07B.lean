/-
  The laws of layer 7: SpanEnds.
-/
import Derived.Test.YtmdalbglekjcjaaLaw07A
namespace Go.Proofs.Ytmdalbglekjcjaa
open Go.RowKit

/-- A range as a value. -/
abbrev rngV (r : Rng) : Value := .agg #[.string (str r.lo), .string (str r.hi), .bool r.op]
theorem longT4 {S T U V : ByteArray} (h : ¬ (S.size ≤ 300 ∧ T.size ≤ 300 ∧ U.size ≤ 300 ∧ V.size ≤ 300)) : longT [S, T, U, V] = true := by
  simp only [longT, List.any_cons, List.any_nil, Bool.or_false, Bool.or_eq_true, decide_eq_true_eq]; omega
theorem shortT4 {S T U V : ByteArray} (h1 : S.size ≤ 300) (h2 : T.size ≤ 300) (h3 : U.size ≤ 300) (h4 : V.size ≤ 300) : longT [S, T, U, V] = false := by
  simp only [longT, List.any_cons, List.any_nil, Bool.or_false, Bool.or_eq_false_iff, decide_eq_false_iff_not]; omega
set_option maxHeartbeats 1000000 in
theorem spanEnds_walk (a b : Rng) (w : World) : Calls Try.prog 5 #[rngV a, rngV b] w fun e w' => e = .returned (.bool true) ∧ Below w.heap.size w w' := by
  have A0 := fun w => Lib.hid (awake07 w)
  obtain ⟨S, hS⟩ : ∃ S, str a.lo = S := ⟨_, rfl⟩
  obtain ⟨T, hT⟩ : ∃ T, str a.hi = T := ⟨_, rfl⟩
  obtain ⟨U, hU⟩ : ∃ U, str b.lo = U := ⟨_, rfl⟩
  obtain ⟨V, hV⟩ : ∃ V, str b.hi = V := ⟨_, rfl⟩
  obtain ⟨o, ho⟩ : ∃ o, a.op = o := ⟨_, rfl⟩
  obtain ⟨p, hp⟩ : ∃ p, b.op = p := ⟨_, rfl⟩
  unfold rngV
  rw [hS, hT, hU, hV, ho, hp]
  have LG := fun w v hv => Lib.hid (long_new w [S, T, U, V] #[.string S, .string T, .string U, .string V] 9 4 v rfl rfl (by omega) hv)
  have H0 := Lib.hid (heldL_two w S T U V o p 23)
  by_cases hs : S.size ≤ 300 ∧ T.size ≤ 300 ∧ U.size ≤ 300 ∧ V.size ≤ 300
  · replace LG := fun w => LG w false (shortT4 hs.1 hs.2.1 hs.2.2.1 hs.2.2.2)
    have hz1 : a.hi.length ≤ 1000000 := by have := str_size a.hi; rw [hT] at this; omega
    have hz2 : b.hi.length ≤ 1000000 := by have := str_size b.hi; rw [hV] at this; omega
    have ia : IsR a S T o := ⟨hS, hT, ho⟩
    have ib : IsR b U V p := ⟨hU, hV, hp⟩
    have key : ∃ (v1 v2 l1 l2 : Bool) (x y : Int), rightR a = v1 ∧ rightR b = v2 ∧ ltB a.hi b.hi = l1 ∧ ltB b.hi a.hi = l2 ∧ endsR a b = x ∧ endsR b a = y ∧
        ((v1 = false ∧ x = 0 ∧ y = 0) ∨ (v1 = true ∧ v2 = false ∧ x = 0 ∧ y = 0) ∨ (v1 = true ∧ v2 = true ∧ o = true ∧ p = true ∧ x = 0 ∧ y = 0) ∨ (v1 = true ∧ v2 = true ∧ o = true ∧ p = false ∧ x = 1 ∧ y = -1) ∨ (v1 = true ∧ v2 = true ∧ o = false ∧ p = true ∧ x = -1 ∧ y = 1) ∨
          (v1 = true ∧ v2 = true ∧ o = false ∧ p = false ∧ l1 = true ∧ l2 = false ∧ x = -1 ∧ y = 1) ∨ (v1 = true ∧ v2 = true ∧ o = false ∧ p = false ∧ l1 = false ∧ l2 = true ∧ x = 1 ∧ y = -1) ∨ (v1 = true ∧ v2 = true ∧ o = false ∧ p = false ∧ l1 = false ∧ l2 = false ∧ x = 0 ∧ y = 0)) := by
      refine ⟨_, _, _, _, _, _, rfl, rfl, rfl, rfl, rfl, rfl, ?_⟩
      unfold endsR endLt
      rw [ho, hp]
      cases rightR a <;> cases rightR b <;> try (simp; done)
      cases o <;> cases p <;> try (simp; done)
      rcases ltB_three a.hi b.hi with ⟨g1, g2, _⟩ | ⟨g1, g2, _⟩ | ⟨g1, g2, _⟩ <;> rw [g1, g2] <;> simp
    obtain ⟨v1, v2, l1, l2, x, y, e1, e2, e3, e4, e5, e6, key⟩ := key
    have RA := fun w => Lib.hid (ref_rright a S T o v1 ia e1 w)
    have RB := fun w => Lib.hid (ref_rright b U V p v2 ib e2 w)
    have LA := fun w => Lib.hid (less_is a.hi b.hi T V hT hV hz1 l1 e3 w)
    have LB := fun w => Lib.hid (less_is b.hi a.hi V T hV hT hz2 l2 e4 w)
    have EA := fun w => Lib.hid (span_ends a b S T U V o p ia ib x e5 w)
    have EB := fun w => Lib.hid (span_ends b a U V S T p o ib ia y e6 w)
    clear hS hT hU hV ho hp e1 e2 e3 e4 e5 e6 ia ib hs hz1 hz2
    rcases key with ⟨rfl, rfl, rfl⟩ | ⟨rfl, rfl, rfl, rfl⟩ | ⟨rfl, rfl, rfl, rfl, rfl, rfl⟩ | ⟨rfl, rfl, rfl, rfl, rfl, rfl⟩ | ⟨rfl, rfl, rfl, rfl, rfl, rfl⟩ | ⟨rfl, rfl, rfl, rfl, rfl, rfl, rfl, rfl⟩ | ⟨rfl, rfl, rfl, rfl, rfl, rfl, rfl, rfl⟩ | ⟨rfl, rfl, rfl, rfl, rfl, rfl, rfl, rfl⟩
    all_goals
      go_enter Try.func5, Try.ntmps5
      go_wp2_with (first
        | ((with_reducible refine (A0 _).out.mono ?_); rintro e w1 ⟨rfl, hb⟩; replace H0 := Lib.hid (heldL_call hb H0.out); obtain ⟨⟨a0, a1, a2, a3⟩, ⟨b0, b1, b2, b3⟩, hbb⟩ := H0.out; have l0 := RgAt.lt H0.out.1; have l1 := RgAt.lt H0.out.2.1; clear hb)
        | ((with_reducible refine (LG _).out.mono ?_); rintro e w' ⟨rfl, rfl⟩; replace H0 := Lib.hid (heldL_alloc (.cells #[.string S, .string T, .string U, .string V] 9) H0.out))
        | ((with_reducible refine (RA _).out.mono ?_); rintro e w1 ⟨rfl, hb⟩; clear a0 a1 a2 a3 b0 b1 b2 b3 hbb; replace H0 := Lib.hid (heldL_call hb H0.out); obtain ⟨⟨a0, a1, a2, a3⟩, ⟨b0, b1, b2, b3⟩, hbb⟩ := H0.out; clear hb)
        | ((with_reducible refine (RB _).out.mono ?_); rintro e w1 ⟨rfl, hb⟩; clear a0 a1 a2 a3 b0 b1 b2 b3 hbb; replace H0 := Lib.hid (heldL_call hb H0.out); obtain ⟨⟨a0, a1, a2, a3⟩, ⟨b0, b1, b2, b3⟩, hbb⟩ := H0.out; clear hb)
        | ((with_reducible refine (LA _).out.mono ?_); rintro e w1 ⟨rfl, hb⟩; clear a0 a1 a2 a3 b0 b1 b2 b3 hbb; replace H0 := Lib.hid (heldL_call hb H0.out); obtain ⟨⟨a0, a1, a2, a3⟩, ⟨b0, b1, b2, b3⟩, hbb⟩ := H0.out; clear hb)
        | ((with_reducible refine (LB _).out.mono ?_); rintro e w1 ⟨rfl, hb⟩; clear a0 a1 a2 a3 b0 b1 b2 b3 hbb; replace H0 := Lib.hid (heldL_call hb H0.out); obtain ⟨⟨a0, a1, a2, a3⟩, ⟨b0, b1, b2, b3⟩, hbb⟩ := H0.out; clear hb)
        | ((with_reducible refine (EA _).out.mono ?_); rintro e w1 ⟨rfl, hb⟩; clear a0 a1 a2 a3 b0 b1 b2 b3 hbb; replace H0 := Lib.hid (heldL_call hb H0.out); obtain ⟨⟨a0, a1, a2, a3⟩, ⟨b0, b1, b2, b3⟩, hbb⟩ := H0.out; clear hb)
        | ((with_reducible refine (EB _).out.mono ?_); rintro e w1 ⟨rfl, hb⟩; clear a0 a1 a2 a3 b0 b1 b2 b3 hbb; replace H0 := Lib.hid (heldL_call hb H0.out); obtain ⟨⟨a0, a1, a2, a3⟩, ⟨b0, b1, b2, b3⟩, hbb⟩ := H0.out; clear hb))
      go_ret
      exact ⟨rfl, heldL_size H0.out⟩
  · replace LG := fun w => LG w true (longT4 hs)
    clear hS hT hU hV ho hp hs
    go_enter Try.func5, Try.ntmps5
    go_wp2_with (first
      | ((with_reducible refine (A0 _).out.mono ?_); rintro e w1 ⟨rfl, hb⟩; replace H0 := Lib.hid (heldL_call hb H0.out); obtain ⟨⟨a0, a1, a2, a3⟩, ⟨b0, b1, b2, b3⟩, hbb⟩ := H0.out; have l0 := RgAt.lt H0.out.1; have l1 := RgAt.lt H0.out.2.1; clear hb)
      | ((with_reducible refine (LG _).out.mono ?_); rintro e w' ⟨rfl, rfl⟩; replace H0 := Lib.hid (heldL_alloc (.cells #[.string S, .string T, .string U, .string V] 9) H0.out)))
    go_ret
    exact ⟨rfl, heldL_size H0.out⟩
end Go.Proofs.Ytmdalbglekjcjaa
