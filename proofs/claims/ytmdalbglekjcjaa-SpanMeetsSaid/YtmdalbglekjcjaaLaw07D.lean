/-
  The laws of layer 7: SpanMeets.
-/
import Derived.Test.YtmdalbglekjcjaaLaw07C
namespace Go.Proofs.Ytmdalbglekjcjaa
open Go.RowKit

theorem longT5 {S T U V W : ByteArray} (h : ¬ (S.size ≤ 300 ∧ T.size ≤ 300 ∧ U.size ≤ 300 ∧ V.size ≤ 300 ∧ W.size ≤ 300)) : longT [S, T, U, V, W] = true := by
  simp only [longT, List.any_cons, List.any_nil, Bool.or_false, Bool.or_eq_true, decide_eq_true_eq]; omega
theorem shortT5 {S T U V W : ByteArray} (h : S.size ≤ 300 ∧ T.size ≤ 300 ∧ U.size ≤ 300 ∧ V.size ≤ 300 ∧ W.size ≤ 300) : longT [S, T, U, V, W] = false := by
  simp only [longT, List.any_cons, List.any_nil, Bool.or_false, Bool.or_eq_false_iff, decide_eq_false_iff_not]; omega
set_option maxHeartbeats 1000000 in
theorem spanMeets_long (S T U V W : ByteArray) (o p : Bool) (hs : ¬ (S.size ≤ 300 ∧ T.size ≤ 300 ∧ U.size ≤ 300 ∧ V.size ≤ 300 ∧ W.size ≤ 300)) (w : World) :
    Calls Try.prog 4 #[.agg #[.string S, .string T, .bool o], .agg #[.string U, .string V, .bool p], .string W] w fun e w' => e = .returned (.bool true) ∧ Below w.heap.size w w' := by
  have A0 := fun w => Lib.hid (awake07 w)
  have LG := fun w => Lib.hid (long_new w [S, T, U, V, W] #[.string S, .string T, .string U, .string V, .string W] 9 5 true rfl rfl (by omega) (longT5 hs))
  have H0 := Lib.hid (heldL_two w S T U V o p 23)
  clear hs
  go_enter Try.func4, Try.ntmps4
  go_wp2_with (first
    | ((with_reducible refine (A0 _).out.mono ?_); rintro e w0 ⟨rfl, hb⟩; (try clear a0 a1 a2 a3 b0 b1 b2 b3 hbb); replace H0 := Lib.hid (heldL_call hb H0.out); obtain ⟨⟨a0, a1, a2, a3⟩, ⟨b0, b1, b2, b3⟩, hbb⟩ := H0.out; have l0 := RgAt.lt H0.out.1; have l1 := RgAt.lt H0.out.2.1; clear hb)
    | ((with_reducible refine (LG _).out.mono ?_); rintro e w' ⟨rfl, rfl⟩; replace H0 := Lib.hid (heldL_alloc (.cells #[.string S, .string T, .string U, .string V, .string W] 9) H0.out)))
  go_ret
  exact ⟨rfl, heldL_size H0.out⟩
theorem meetIs_comm {a b m : Rng} {v : Bool} (h : MeetIs a b m v) : MeetIs b a m v := by
  unfold MeetIs at h ⊢
  rw [meetR_comm a b]; exact h
theorem txt_eqB {a b : List UInt8} {S T : ByteArray} (hS : str a = S) (hT : str b = T) (h : a = b) : (S.toList == T.toList) = true := by
  subst hS hT h; simp
set_option maxHeartbeats 2000000 in
theorem spanMeets_none (a b : Rng) (S T U V W : ByteArray) (o p : Bool) (ia : IsR a S T o) (ib : IsR b U V p) (hm : meetR a b = none)
    (hs : S.size ≤ 300 ∧ T.size ≤ 300 ∧ U.size ≤ 300 ∧ V.size ≤ 300 ∧ W.size ≤ 300) (w : World) :
    Calls Try.prog 4 #[.agg #[.string S, .string T, .bool o], .agg #[.string U, .string V, .bool p], .string W] w fun e w' => e = .returned (.bool true) ∧ Below w.heap.size w w' := by
  have A0 := fun w => Lib.hid (awake07 w)
  have LG := fun w => Lib.hid (long_new w [S, T, U, V, W] #[.string S, .string T, .string U, .string V, .string W] 9 5 false rfl rfl (by omega) (shortT5 hs))
  have H0 := Lib.hid (heldL_two w S T U V o p 23)
  have M1 := fun w => Lib.hid (span_meet a b zeroR S T U V ⟨#[]⟩ ⟨#[]⟩ o p false false ia ib ⟨rfl, rfl, rfl⟩ (.inr ⟨hm, rfl, rfl⟩) w)
  have hza : a.lo.length ≤ 1000000 := by have := str_size a.lo; rw [ia.lo] at this; omega
  have hzb : b.lo.length ≤ 1000000 := by have := str_size b.lo; rw [ib.lo] at this; omega
  obtain ⟨c1, e1⟩ : ∃ c, hasR a b.lo = c := ⟨_, rfl⟩
  obtain ⟨c2, e2⟩ : ∃ c, hasR b b.lo = c := ⟨_, rfl⟩
  obtain ⟨c3, e3⟩ : ∃ c, hasR b a.lo = c := ⟨_, rfl⟩
  obtain ⟨c4, e4⟩ : ∃ c, hasR a a.lo = c := ⟨_, rfl⟩
  have k1 := meetR_no hm
  have k2 := meetR_no' hm
  rw [e1, e2] at k1
  rw [e3, e4] at k2
  have C1 := fun w => Lib.hid (ref_has a b.lo S T U o c1 ia ib.lo hzb e1 w)
  have C2 := fun w => Lib.hid (ref_has b b.lo U V U p c2 ib ib.lo hzb e2 w)
  have C3 := fun w => Lib.hid (ref_has b a.lo U V S p c3 ib ia.lo hza e3 w)
  have C4 := fun w => Lib.hid (ref_has a a.lo S T S o c4 ia ia.lo hza e4 w)
  have EQ := fun w => eq_rng_is ⟨#[]⟩ ⟨#[]⟩ ⟨#[]⟩ ⟨#[]⟩ false false true (by simp) w
  clear ia ib hm hs hza hzb e1 e2 e3 e4
  have key : ((c1 = false) ∨ (c1 = true ∧ c2 = false)) ∧ ((c3 = false) ∨ (c3 = true ∧ c4 = false)) := by
    revert k1 k2; cases c1 <;> cases c2 <;> cases c3 <;> cases c4 <;> simp
  clear k1 k2
  rcases key with ⟨rfl | ⟨rfl, rfl⟩, rfl | ⟨rfl, rfl⟩⟩
  all_goals
    go_enter Try.func4, Try.ntmps4
    go_wp2_with (first
      | ((with_reducible refine (A0 _).out.mono ?_); rintro e w0 ⟨rfl, hb⟩; (try clear a0 a1 a2 a3 b0 b1 b2 b3 hbb); replace H0 := Lib.hid (heldL_call hb H0.out); obtain ⟨⟨a0, a1, a2, a3⟩, ⟨b0, b1, b2, b3⟩, hbb⟩ := H0.out; have l0 := RgAt.lt H0.out.1; have l1 := RgAt.lt H0.out.2.1; clear hb)
      | ((with_reducible refine (LG _).out.mono ?_); rintro e w' ⟨rfl, rfl⟩; replace H0 := Lib.hid (heldL_alloc (.cells #[.string S, .string T, .string U, .string V, .string W] 9) H0.out))
      | ((with_reducible refine (M1 _).out.mono ?_); rintro e w2 ⟨rfl, hb⟩; (try clear a0 a1 a2 a3 b0 b1 b2 b3 hbb); replace H0 := Lib.hid (heldL_call hb H0.out); obtain ⟨⟨a0, a1, a2, a3⟩, ⟨b0, b1, b2, b3⟩, hbb⟩ := H0.out; have l0 := RgAt.lt H0.out.1; have l1 := RgAt.lt H0.out.2.1; clear hb; replace H0 := Lib.hid (heldL_alloc (.cells #[.string ⟨#[]⟩, .string ⟨#[]⟩, .bool false] 23) H0.out))
      | ((with_reducible refine (C1 _).out.mono ?_); rintro e w3 ⟨rfl, hb⟩; (try clear a0 a1 a2 a3 b0 b1 b2 b3 hbb); replace H0 := Lib.hid (heldL_call hb H0.out); obtain ⟨⟨a0, a1, a2, a3⟩, ⟨b0, b1, b2, b3⟩, hbb⟩ := H0.out; have l0 := RgAt.lt H0.out.1; have l1 := RgAt.lt H0.out.2.1; clear hb)
      | ((with_reducible refine (C2 _).out.mono ?_); rintro e w3 ⟨rfl, hb⟩; (try clear a0 a1 a2 a3 b0 b1 b2 b3 hbb); replace H0 := Lib.hid (heldL_call hb H0.out); obtain ⟨⟨a0, a1, a2, a3⟩, ⟨b0, b1, b2, b3⟩, hbb⟩ := H0.out; have l0 := RgAt.lt H0.out.1; have l1 := RgAt.lt H0.out.2.1; clear hb)
      | ((with_reducible refine (C3 _).out.mono ?_); rintro e w3 ⟨rfl, hb⟩; (try clear a0 a1 a2 a3 b0 b1 b2 b3 hbb); replace H0 := Lib.hid (heldL_call hb H0.out); obtain ⟨⟨a0, a1, a2, a3⟩, ⟨b0, b1, b2, b3⟩, hbb⟩ := H0.out; have l0 := RgAt.lt H0.out.1; have l1 := RgAt.lt H0.out.2.1; clear hb)
      | ((with_reducible refine (C4 _).out.mono ?_); rintro e w3 ⟨rfl, hb⟩; (try clear a0 a1 a2 a3 b0 b1 b2 b3 hbb); replace H0 := Lib.hid (heldL_call hb H0.out); obtain ⟨⟨a0, a1, a2, a3⟩, ⟨b0, b1, b2, b3⟩, hbb⟩ := H0.out; have l0 := RgAt.lt H0.out.1; have l1 := RgAt.lt H0.out.2.1; clear hb))
    go_ret
    exact ⟨rfl, heldL_size H0.out⟩
end Go.Proofs.Ytmdalbglekjcjaa
