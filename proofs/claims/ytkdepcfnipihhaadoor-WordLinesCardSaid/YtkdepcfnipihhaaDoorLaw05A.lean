/-
  The laws of layer 5: the chapter's examples; WordReads.
-/
import Derived.Test.YtkdepcfnipihhaaDoorWordF
namespace Go.Proofs.YtkdepcfnipihhaaDoor
open Go.RowKit

theorem len_of_ofV (t : List UInt8) : t.length ≤ (ofV t).length := by
  unfold ofV
  split
  · rename_i h; subst h; simp
  · exact (spells_len t).1
theorem read_of (t : List UInt8) (S : ByteArray) (hS : str (ofV t) = S) (ht : t.length ≤ 300000) (w : World) : Calls Tryd.prog 6 #[.string S] w fun e w' => e = .returned (.tuple #[.string (str t), .bool true]) ∧ Below w.heap.size w w' := by
  subst hS
  refine (wrd_read (ofV t) (by have := (ofV_len t).2; omega) w).mono ?_
  rintro e w' ⟨h | h, hb⟩
  · obtain ⟨t', h1, rfl⟩ := h
    rw [ofV_inj h1]
    exact ⟨rfl, hb⟩
  · exact absurd rfl (h.1 t)
theorem of_is (s : List UInt8) (S R : ByteArray) (hS : str s = S) (hR : str (ofV s) = R) (hs : s.length ≤ 1000000) (w : World) : Calls Tryd.prog 7 #[.string S] w fun e w' => e = .returned (.string R) ∧ Below w.heap.size w w' := by
  subst hS hR
  exact wrd_of s hs w
theorem rof_is (s : List UInt8) (S R : ByteArray) (hS : str s = S) (hR : str (ofV s) = R) (hs : s.length ≤ 1000000) (w : World) : Calls Tryd.prog 8 #[.string S] w fun e w' => e = .returned (.string R) ∧ Below w.heap.size w w' := by
  subst hS hR
  exact rwd_of s hs w
theorem split_bad (s : List UInt8) (S : ByteArray) (hS : str s = S) (hn : s ≠ []) (hb : badB s = true) (hs : s.length ≤ 1000000) (w : World) (hm : MaxAt w) : Calls Tryd.prog 12 #[.string S] w fun e w' => e = .returned (.tuple #[.slice none 0 0, .bool false]) ∧ w = w' := by
  subst hS
  refine (wrd_split s hs w hm).mono ?_
  rintro e w' (h | h | h)
  · exact absurd h.1 hn
  · exact h.2.2
  · have := h.2.1; rw [hb] at this; cases this

set_option maxHeartbeats 1000000 in
theorem awake05 (w : World) (hm : MaxAt w) : Calls Tryd.prog 5 #[] w fun e w' => e = .returned (.bool true) ∧ Below w.heap.size w w' := by
  have R1 := read_of [97, 32, 66] ⟨#[97, 45, 50, 48, 45, 52, 50]⟩ (by decide +kernel) (by simp) w
  have S1 := fun w hm => split_bad [97, 32, 32, 98] ⟨#[97, 32, 32, 98]⟩ rfl (by simp) (by decide +kernel) (by simp) w hm
  have O1 := fun w => of_is [97, 32, 66] ⟨#[97, 32, 66]⟩ ⟨#[97, 45, 50, 48, 45, 52, 50]⟩ rfl (by decide +kernel) (by simp) w
  have O2 := fun w => of_is [] ⟨#[]⟩ ⟨#[95]⟩ rfl rfl (by simp) w
  have e1 : str [97, 32, 66] = ⟨#[97, 32, 66]⟩ := rfl
  rw [e1] at R1
  have S1 := Lib.hid S1
  have O1 := Lib.hid O1
  have O2 := Lib.hid O2
  have R1 := Lib.hid R1
  clear e1
  go_enter Tryd.func5, Tryd.ntmps5
  go_wp2_with ((with_reducible refine R1.out.mono ?_); rintro e w1 ⟨rfl, hb1⟩)
  have hm1 := hm.below hb1 (Nat.le_refl _)
  have HS := Lib.hid (S1.out w1 hm1)
  go_wp2_with ((with_reducible refine HS.out.mono ?_); rintro e w2 ⟨rfl, rfl⟩)
  go_wp2_with (fail)
  refine (O1.out _).mono ?_
  rintro e w3 ⟨rfl, hb3⟩
  go_wp2_with (fail)
  refine (O2.out _).mono ?_
  rintro e w4 ⟨rfl, hb4⟩
  go_wp2_with (fail)
  go_ret
  exact ⟨rfl, (hb1.trans (hb3.mono hb1.size)).trans (hb4.mono (hb1.trans (hb3.mono hb1.size)).size)⟩

set_option maxHeartbeats 1000000 in
theorem wordReads_walk (s x : List UInt8) (w : World) (hm : MaxAt w) : Calls Tryd.prog 3 #[.string (str s), .string (str x)] w fun e w' => e = .returned (.bool true) ∧ Below w.heap.size w w' := by
  have hzs := str_size s
  have hzx := str_size x
  have A0 := Lib.hid (awake05 w hm)
  clear hm
  by_cases hg : s.length ≤ 300 ∧ x.length ≤ 300
  · obtain ⟨g1, g2⟩ := hg
    have g1' : (str s).size ≤ 300 := by omega
    have g2' : (str x).size ≤ 300 := by omega
    have OF := fun S hS R hR w => Lib.hid (of_is s S R hS hR (by omega) w)
    have RF := fun S hS R hR w => Lib.hid (rof_is s S R hS hR (by omega) w)
    have RD := fun R hR w => Lib.hid (read_of s R hR (by omega) w)
    have RX := fun w => Lib.hid (wrd_read x (by omega) w)
    have RT := fun (t : List UInt8) (ht : t.length ≤ 300) (T : ByteArray) (hT : str t = T) (X : ByteArray) (hX : str (ofV t) = X) w => Lib.hid (rof_is t T X hT hX (by omega) w)
    obtain ⟨S, hS⟩ : ∃ S, str s = S := ⟨_, rfl⟩
    obtain ⟨R, hR⟩ : ∃ R, str (ofV s) = R := ⟨_, rfl⟩
    obtain ⟨X, hX⟩ : ∃ X, str x = X := ⟨_, rfl⟩
    replace OF := OF S hS R hR
    replace RF := RF S hS R hR
    replace RD := RD R hR
    rw [hS] at RD g1' ⊢
    rw [hX] at RX g2' ⊢
    have HX := Lib.hid hX
    clear hS hR hX hzs hzx
    go_enter Tryd.func3, Tryd.ntmps3
    go_wp2_with (fail)
    refine A0.out.mono ?_
    rintro e w1 ⟨rfl, hb1⟩
    go_wp2_with (fail)
    refine (OF _).out.mono ?_
    rintro e w2 ⟨rfl, hb2⟩
    replace hb2 := hb1.trans (hb2.mono hb1.size)
    clear hb1
    go_wp2_with (fail)
    refine (RD _).out.mono ?_
    rintro e w3 ⟨rfl, hb3⟩
    replace hb3 := hb2.trans (hb3.mono hb2.size)
    clear hb2
    go_wp2_with (fail)
    refine (OF _).out.mono ?_
    rintro e w4 ⟨rfl, hb4⟩
    replace hb4 := hb3.trans (hb4.mono hb3.size)
    clear hb3
    go_wp2_with (fail)
    refine (RF _).out.mono ?_
    rintro e w5 ⟨rfl, hb5⟩
    replace hb5 := hb4.trans (hb5.mono hb4.size)
    clear hb4
    go_wp2_with (fail)
    refine (RX _).out.mono ?_
    rintro e w6 ⟨h | h, hb6⟩
    · obtain ⟨t, ht, rfl⟩ := h
      replace hb6 := hb5.trans (hb6.mono hb5.size)
      have htl : t.length ≤ 300 := by
        have := len_of_ofV t
        rw [ht] at this
        omega
      have RT1 := RT t htl _ rfl X (by rw [ht]; exact HX.out)
      clear hb5 ht RT
      go_wp2_with (fail)
      refine (RT1 _).out.mono ?_
      rintro e w7 ⟨rfl, hb7⟩
      replace hb7 := hb6.trans (hb7.mono hb6.size)
      clear hb6
      go_wp2_with (fail)
      go_ret
      exact ⟨rfl, hb7⟩
    · obtain ⟨-, rfl⟩ := h
      replace hb6 := hb5.trans (hb6.mono hb5.size)
      have h1 : (str []).toList = [] := str_toList []
      generalize str [] = E at h1 ⊢
      clear hb5 RT
      go_wp2_with (fail)
      go_ret
      exact ⟨rfl, hb6⟩
  · by_cases g1 : s.length ≤ 300
    · have g1' : (str s).size ≤ 300 := by omega
      have g2' : 300 < (str x).size := by omega
      clear hzs hzx hg
      go_enter Tryd.func3, Tryd.ntmps3
      go_wp2_with (fail)
      refine A0.out.mono ?_
      rintro e w1 ⟨rfl, hb1⟩
      go_wp2_with (fail)
      go_ret
      exact ⟨rfl, hb1⟩
    · have g1' : 300 < (str s).size := by omega
      clear hzs hzx hg
      go_enter Tryd.func3, Tryd.ntmps3
      go_wp2_with (fail)
      refine A0.out.mono ?_
      rintro e w1 ⟨rfl, hb1⟩
      go_wp2_with (fail)
      go_ret
      exact ⟨rfl, hb1⟩
end Go.Proofs.YtkdepcfnipihhaaDoor
