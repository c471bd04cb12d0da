/-
  The laws of layer 6: the chapter's examples; KeyOrder, KeyTotal.
-/
import Derived.Test.YthfonmdhbnfmnaaKeyE
namespace Go.Proofs.Ythfonmdhbnfmnaa
open Go.RowKit

/-! The callees over letters: the texts are named ahead of a walk. -/
theorem less_is (a b : List UInt8) (S T : ByteArray) (hS : str a = S) (hT : str b = T) (ha : a.length ≤ 1000000) (v : Bool) (hv : ltB a b = v) (w : World) : Calls Try.prog 8 #[.string S, .string T] w fun e w' => e = .returned (.bool v) ∧ Below w.heap.size w w' := by
  subst hS hT hv
  exact (ref_less a b (by omega) w).mono fun e w' ⟨h1, n, h2⟩ => ⟨h1, below_quiet h2⟩
theorem cmp_is (a b : List UInt8) (S T : ByteArray) (hS : str a = S) (hT : str b = T) (v : Int) (hv : Lib.compareBytes a b = v) (w : World) : Calls Try.prog 9 #[.string S, .string T] w fun e w' => e = .returned (.int .i64 v) ∧ w = w' := by
  subst hS hT hv
  exact key_cmp a b w
theorem right_is (a : List UInt8) (S : ByteArray) (hS : str a = S) (v : Bool) (hv : rightB a = v) (w : World) : Calls Try.prog 10 #[.string S] w fun e w' => e = .returned (.bool v) ∧ w = w' := by
  subst hS hv
  exact key_right a w
theorem rright_is (a : List UInt8) (S : ByteArray) (hS : str a = S) (v : Bool) (hv : rightB a = v) (w : World) : Calls Try.prog 11 #[.string S] w fun e w' => e = .returned (.bool v) ∧ w = w' := by
  subst hS hv
  exact ref_right a w
theorem edge_is (a : List UInt8) (S : ByteArray) (hS : str a = S) (v : Bool) (hv : edgeB a = v) (w : World) : Calls Try.prog 12 #[.string S] w fun e w' => e = .returned (.bool v) ∧ w = w' := by
  subst hS hv
  exact key_edge a w
theorem next_is (a : List UInt8) (S T : ByteArray) (hS : str a = S) (hT : str (a ++ [0]) = T) (ha : a.length ≤ 1000000) (w : World) : Calls Try.prog 13 #[.string S] w fun e w' => e = .returned (.string T) ∧ Below w.heap.size w w' := by
  subst hS hT
  exact key_next a ha w
theorem end_is (a x : List UInt8) (S T : ByteArray) (hS : str a = S) (hT : str x = T) (ha : a.length ≤ 1000000) (hx : endV a = some x) (w : World) : Calls Try.prog 14 #[.string S] w fun e w' => e = .returned (.tuple #[.string T, .bool true]) ∧ Below w.heap.size w w' := by
  subst hS hT
  refine (key_end a ha w).mono ?_
  rintro e w' ⟨⟨y, hy, rfl⟩ | ⟨hn, -⟩, hb⟩
  · rw [hx] at hy
    injection hy with hy
    subst hy
    exact ⟨rfl, hb⟩
  · rw [hx] at hn; cases hn

theorem awake06 (w : World) : Calls Try.prog 7 #[] w fun e w' => e = .returned (.bool true) ∧ Below w.heap.size w w' := by
  have E := fun w => Lib.hid (end_is [97, 255] [98] ⟨#[97, 255]⟩ ⟨#[98]⟩ rfl rfl (by simp) rfl w)
  have N := fun w => Lib.hid (next_is [97] ⟨#[97]⟩ ⟨#[97, 0]⟩ rfl rfl (by simp) w)
  have R1 := fun w => Lib.hid (right_is [107] ⟨#[107]⟩ rfl true rfl w)
  have R2 := fun w => Lib.hid (right_is [] ⟨#[]⟩ rfl false rfl w)
  have C := fun w => Lib.hid (cmp_is [97] [97, 98] ⟨#[97]⟩ ⟨#[97, 98]⟩ rfl rfl (-1) rfl w)
  go_enter Try.func7, Try.ntmps7
  go_wp2_with ((with_reducible refine (E _).out.mono ?_); rintro e w1 ⟨rfl, hb1⟩)
  go_wp2_with ((with_reducible refine (N _).out.mono ?_); rintro e w2 ⟨rfl, hb2⟩)
  go_wp2_with (first | ((with_reducible refine (R1 _).out.mono ?_); rintro e w' ⟨rfl, rfl⟩) | ((with_reducible refine (R2 _).out.mono ?_); rintro e w' ⟨rfl, rfl⟩) | ((with_reducible refine (C _).out.mono ?_); rintro e w' ⟨rfl, rfl⟩))
  go_ret
  exact ⟨rfl, hb1.trans (hb2.mono hb1.size)⟩

theorem keyOrder_long (a b : List UInt8) (h : 300 < a.length ∨ 300 < b.length) (w : World) : Calls Try.prog 3 #[.string (str a), .string (str b)] w fun e w' => e = .returned (.bool true) ∧ Below w.heap.size w w' := by
  have hza := str_size a
  have hzb := str_size b
  have A0 := Lib.hid (awake06 w)
  generalize str a = S at hza ⊢
  generalize str b = T at hzb ⊢
  by_cases h1 : 300 < a.length
  · have g1 : 300 < S.size := by omega
    clear hza hzb h h1
    go_enter Try.func3, Try.ntmps3
    go_wp2_with ((with_reducible refine A0.out.mono ?_); rintro e w1 ⟨rfl, hb1⟩)
    go_wp2_with fail
    go_ret
    exact ⟨rfl, hb1⟩
  · have g1 : S.size ≤ 300 := by omega
    have g2 : 300 < T.size := by omega
    clear hza hzb h h1
    go_enter Try.func3, Try.ntmps3
    go_wp2_with ((with_reducible refine A0.out.mono ?_); rintro e w1 ⟨rfl, hb1⟩)
    go_wp2_with fail
    go_ret
    exact ⟨rfl, hb1⟩
theorem txt_ne {a b : List UInt8} {S T : ByteArray} (hS : str a = S) (hT : str b = T) (h : a ≠ b) : (S.toList == T.toList) = false := by
  subst hS hT
  rw [str_toList, str_toList]
  simpa using h
theorem edge_int (a : List UInt8) (S : ByteArray) (hS : str a = S) : edgeB a = decide ((S.size : Int) ≤ 17) := by
  subst hS
  unfold edgeB
  rw [str_size]
  exact decide_eq_decide.2 (by omega)
set_option maxHeartbeats 1000000 in
theorem keyOrder_short (a b : List UInt8) (ha : a.length ≤ 300) (hb : b.length ≤ 300) (w : World) : Calls Try.prog 3 #[.string (str a), .string (str b)] w fun e w' => e = .returned (.bool true) ∧ Below w.heap.size w w' := by
  have hza := str_size a
  have hzb := str_size b
  have A0 := Lib.hid (awake06 w)
  have H3 := Lib.hid (ltB_three a b)
  obtain ⟨S, hS⟩ : ∃ S, str a = S := ⟨_, rfl⟩
  obtain ⟨T, hT⟩ : ∃ T, str b = T := ⟨_, rfl⟩
  rw [hS] at hza ⊢
  rw [hT] at hzb ⊢
  have g1 : S.size ≤ 300 := by omega
  have g2 : T.size ≤ 300 := by omega
  have L1 := fun v hv w => Lib.hid (less_is a b S T hS hT (by omega) v hv w)
  have L2 := fun v hv w => Lib.hid (less_is b a T S hT hS (by omega) v hv w)
  have C1 := fun v hv w => Lib.hid (cmp_is a b S T hS hT v hv w)
  have C2 := fun v hv w => Lib.hid (cmp_is b a T S hT hS v hv w)
  obtain ⟨r, hr⟩ : ∃ r, rightB a = r := ⟨_, rfl⟩
  have R1 := fun w => Lib.hid (right_is a S hS r hr w)
  have R2 := fun w => Lib.hid (rright_is a S hS r hr w)
  have G1 := fun w => Lib.hid (edge_is a S hS _ (edge_int a S hS) w)
  have HNE := fun h => Lib.hid (txt_ne hS hT h)
  clear hza hzb hr
  rcases H3.out with ⟨e1, e2, e3⟩ | ⟨e1, e2, e3⟩ | ⟨e1, e2, e3⟩
  · replace L1 := L1 _ e1
    replace L2 := L2 _ e2
    replace C1 := C1 _ (cmp_lt e1)
    replace C2 := C2 _ (cmp_gt e1)
    have hne := (HNE e3).out
    clear e1 e2 e3 HNE hS hT
    go_enter Try.func3, Try.ntmps3
    go_wp2_with ((with_reducible refine A0.out.mono ?_); rintro e w1 ⟨rfl, hb1⟩)
    go_wp2_with ((with_reducible refine (L1 _).out.mono ?_); rintro e w2 ⟨rfl, hb2⟩)
    replace hb2 := hb1.trans (hb2.mono hb1.size)
    clear hb1
    go_wp2_with ((with_reducible refine (L2 _).out.mono ?_); rintro e w3 ⟨rfl, hb3⟩)
    replace hb3 := hb2.trans (hb3.mono hb2.size)
    clear hb2
    go_wp2_with (first | ((with_reducible refine (C1 _).out.mono ?_); rintro e w' ⟨rfl, rfl⟩) | ((with_reducible refine (C2 _).out.mono ?_); rintro e w' ⟨rfl, rfl⟩) | ((with_reducible refine (R1 _).out.mono ?_); rintro e w' ⟨rfl, rfl⟩) | ((with_reducible refine (R2 _).out.mono ?_); rintro e w' ⟨rfl, rfl⟩) | ((with_reducible refine (G1 _).out.mono ?_); rintro e w' ⟨rfl, rfl⟩))
    go_ret
    exact ⟨rfl, hb3⟩
  · replace L1 := L1 _ e1
    replace L2 := L2 _ e2
    replace C1 := C1 _ (cmp_gt e2)
    replace C2 := C2 _ (cmp_lt e2)
    have hne := (HNE e3).out
    clear e1 e2 e3 HNE hS hT
    go_enter Try.func3, Try.ntmps3
    go_wp2_with ((with_reducible refine A0.out.mono ?_); rintro e w1 ⟨rfl, hb1⟩)
    go_wp2_with ((with_reducible refine (L1 _).out.mono ?_); rintro e w2 ⟨rfl, hb2⟩)
    replace hb2 := hb1.trans (hb2.mono hb1.size)
    clear hb1
    go_wp2_with ((with_reducible refine (L2 _).out.mono ?_); rintro e w3 ⟨rfl, hb3⟩)
    replace hb3 := hb2.trans (hb3.mono hb2.size)
    clear hb2
    go_wp2_with (first | ((with_reducible refine (C1 _).out.mono ?_); rintro e w' ⟨rfl, rfl⟩) | ((with_reducible refine (C2 _).out.mono ?_); rintro e w' ⟨rfl, rfl⟩) | ((with_reducible refine (R1 _).out.mono ?_); rintro e w' ⟨rfl, rfl⟩) | ((with_reducible refine (R2 _).out.mono ?_); rintro e w' ⟨rfl, rfl⟩) | ((with_reducible refine (G1 _).out.mono ?_); rintro e w' ⟨rfl, rfl⟩))
    go_ret
    exact ⟨rfl, hb3⟩
  · replace L1 := L1 _ e1
    replace L2 := L2 _ e2
    have C0 := cmp_self a
    subst e3
    replace C1 := C1 _ C0
    obtain rfl : S = T := hS.symm.trans hT
    clear e1 e2 HNE hS hT C0 C2 H3 L2
    go_enter Try.func3, Try.ntmps3
    go_wp2_with ((with_reducible refine A0.out.mono ?_); rintro e w1 ⟨rfl, hb1⟩)
    go_wp2_with fail
    refine (L1 _).out.mono ?_
    rintro e w2 ⟨rfl, hb2⟩
    replace hb2 := hb1.trans (hb2.mono hb1.size)
    clear hb1
    go_wp2_with fail
    refine (L1 _).out.mono ?_
    rintro e w3 ⟨rfl, hb3⟩
    replace hb3 := hb2.trans (hb3.mono hb2.size)
    clear hb2
    go_wp2_with (first | ((with_reducible refine (C1 _).out.mono ?_); rintro e w' ⟨rfl, rfl⟩) | ((with_reducible refine (R1 _).out.mono ?_); rintro e w' ⟨rfl, rfl⟩) | ((with_reducible refine (R2 _).out.mono ?_); rintro e w' ⟨rfl, rfl⟩) | ((with_reducible refine (G1 _).out.mono ?_); rintro e w' ⟨rfl, rfl⟩))
    go_ret
    exact ⟨rfl, hb3⟩
theorem keyOrder_walk (a b : List UInt8) (w : World) : Calls Try.prog 3 #[.string (str a), .string (str b)] w fun e w' => e = .returned (.bool true) ∧ Below w.heap.size w w' := by
  by_cases h : a.length ≤ 300 ∧ b.length ≤ 300
  · exact keyOrder_short a b h.1 h.2 w
  · exact keyOrder_long a b (by omega) w

/-- What three texts' places have to do with one another. -/
theorem cmp_three (a b c : List UInt8) : ∃ x y z : Int, Lib.compareBytes a b = x ∧ Lib.compareBytes b c = y ∧ Lib.compareBytes a c = z ∧
    ((x = 0 ∧ y = z ∧ (y = -1 ∨ y = 0 ∨ y = 1)) ∨ (x = -1 ∧ (y = -1 ∨ y = 0) ∧ z = -1) ∨ (x = 1 ∧ (y = 1 ∨ y = 0) ∧ z = 1) ∨ (x = -1 ∧ y = 1 ∧ (z = -1 ∨ z = 0 ∨ z = 1)) ∨ (x = 1 ∧ y = -1 ∧ (z = -1 ∨ z = 0 ∨ z = 1))) := by
  have any : ∀ a b : List UInt8, Lib.compareBytes a b = -1 ∨ Lib.compareBytes a b = 0 ∨ Lib.compareBytes a b = 1 := fun a b => by
    rcases ltB_three a b with ⟨h, _, _⟩ | ⟨_, h, _⟩ | ⟨_, _, rfl⟩
    · exact .inl (cmp_lt h)
    · exact .inr (.inr (cmp_gt h))
    · exact .inr (.inl (cmp_self a))
  refine ⟨_, _, _, rfl, rfl, rfl, ?_⟩
  rcases ltB_three a b with ⟨h1, _, _⟩ | ⟨_, h1, _⟩ | ⟨_, _, rfl⟩
  · rcases ltB_three b c with ⟨h2, _, _⟩ | ⟨_, h2, _⟩ | ⟨_, _, rfl⟩
    · exact .inr (.inl ⟨cmp_lt h1, .inl (cmp_lt h2), cmp_lt (ltB_trans h1 h2)⟩)
    · exact .inr (.inr (.inr (.inl ⟨cmp_lt h1, cmp_gt h2, any a c⟩)))
    · exact .inr (.inl ⟨cmp_lt h1, .inr (cmp_self b), cmp_lt h1⟩)
  · rcases ltB_three b c with ⟨h2, _, _⟩ | ⟨_, h2, _⟩ | ⟨_, _, rfl⟩
    · exact .inr (.inr (.inr (.inr ⟨cmp_gt h1, cmp_lt h2, any a c⟩)))
    · exact .inr (.inr (.inl ⟨cmp_gt h1, .inl (cmp_gt h2), cmp_gt (ltB_trans h2 h1)⟩))
    · exact .inr (.inr (.inl ⟨cmp_gt h1, .inr (cmp_self b), cmp_gt h1⟩))
  · exact .inl ⟨cmp_self a, rfl, any a c⟩
theorem keyTotal_long (a b c : List UInt8) (h : 300 < a.length ∨ 300 < b.length ∨ 300 < c.length) (w : World) : Calls Try.prog 6 #[.string (str a), .string (str b), .string (str c)] w fun e w' => e = .returned (.bool true) ∧ Below w.heap.size w w' := by
  have hza := str_size a
  have hzb := str_size b
  have hzc := str_size c
  have A0 := Lib.hid (awake06 w)
  generalize str a = S at hza ⊢
  generalize str b = T at hzb ⊢
  generalize str c = U at hzc ⊢
  by_cases h1 : 300 < a.length
  · have g1 : 300 < S.size := by omega
    clear hza hzb hzc h h1
    go_enter Try.func6, Try.ntmps6
    go_wp2_with ((with_reducible refine A0.out.mono ?_); rintro e w1 ⟨rfl, hb1⟩)
    go_wp2_with fail
    go_ret
    exact ⟨rfl, hb1⟩
  · by_cases h2 : 300 < b.length
    · have g1 : S.size ≤ 300 := by omega
      have g2 : 300 < T.size := by omega
      clear hza hzb hzc h h1 h2
      go_enter Try.func6, Try.ntmps6
      go_wp2_with ((with_reducible refine A0.out.mono ?_); rintro e w1 ⟨rfl, hb1⟩)
      go_wp2_with fail
      go_ret
      exact ⟨rfl, hb1⟩
    · have g1 : S.size ≤ 300 := by omega
      have g2 : T.size ≤ 300 := by omega
      have g3 : 300 < U.size := by omega
      clear hza hzb hzc h h1 h2
      go_enter Try.func6, Try.ntmps6
      go_wp2_with ((with_reducible refine A0.out.mono ?_); rintro e w1 ⟨rfl, hb1⟩)
      go_wp2_with fail
      go_ret
      exact ⟨rfl, hb1⟩
set_option maxHeartbeats 1000000 in
theorem keyTotal_short (a b c : List UInt8) (ha : a.length ≤ 300) (hb : b.length ≤ 300) (hc : c.length ≤ 300) (w : World) : Calls Try.prog 6 #[.string (str a), .string (str b), .string (str c)] w fun e w' => e = .returned (.bool true) ∧ Below w.heap.size w w' := by
  have hza := str_size a
  have hzb := str_size b
  have hzc := str_size c
  have A0 := Lib.hid (awake06 w)
  obtain ⟨x, y, z, hx, hy, hz, h⟩ := cmp_three a b c
  obtain ⟨S, hS⟩ : ∃ S, str a = S := ⟨_, rfl⟩
  obtain ⟨T, hT⟩ : ∃ T, str b = T := ⟨_, rfl⟩
  obtain ⟨U, hU⟩ : ∃ U, str c = U := ⟨_, rfl⟩
  rw [hS] at hza ⊢
  rw [hT] at hzb ⊢
  rw [hU] at hzc ⊢
  have g1 : S.size ≤ 300 := by omega
  have g2 : T.size ≤ 300 := by omega
  have g3 : U.size ≤ 300 := by omega
  have C1 := fun w => Lib.hid (cmp_is a b S T hS hT x hx w)
  have C2 := fun w => Lib.hid (cmp_is b c T U hT hU y hy w)
  have C3 := fun w => Lib.hid (cmp_is a c S U hS hU z hz w)
  clear hza hzb hzc hx hy hz hS hT hU
  rcases h with ⟨rfl, rfl, rfl | rfl | rfl⟩ | ⟨rfl, rfl | rfl, rfl⟩ | ⟨rfl, rfl | rfl, rfl⟩ | ⟨rfl, rfl, rfl | rfl | rfl⟩ | ⟨rfl, rfl, rfl | rfl | rfl⟩
  all_goals
    go_enter Try.func6, Try.ntmps6
    go_wp2_with ((with_reducible refine A0.out.mono ?_); rintro e w1 ⟨rfl, hb1⟩)
    go_wp2_with (first | ((with_reducible refine (C1 _).out.mono ?_); rintro e w' ⟨rfl, rfl⟩) | ((with_reducible refine (C2 _).out.mono ?_); rintro e w' ⟨rfl, rfl⟩) | ((with_reducible refine (C3 _).out.mono ?_); rintro e w' ⟨rfl, rfl⟩))
    go_ret
    exact ⟨rfl, hb1⟩
theorem keyTotal_walk (a b c : List UInt8) (w : World) : Calls Try.prog 6 #[.string (str a), .string (str b), .string (str c)] w fun e w' => e = .returned (.bool true) ∧ Below w.heap.size w w' := by
  by_cases h : a.length ≤ 300 ∧ b.length ≤ 300 ∧ c.length ≤ 300
  · exact keyTotal_short a b c h.1 h.2.1 h.2.2 w
  · exact keyTotal_long a b c (by omega) w
end Go.Proofs.Ythfonmdhbnfmnaa
