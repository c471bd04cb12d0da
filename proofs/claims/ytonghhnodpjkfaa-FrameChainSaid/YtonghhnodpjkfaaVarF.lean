/-
  The walks of the document's own reader.
-/
import Derived.Test.YtonghhnodpjkfaaVarE
namespace Go.Proofs.Ytonghhnodpjkfaa
open Go.RowKit

theorem right_no (n : Int) (w : World) (h : okN n = false) : Calls Try.prog 35 #[.int .i64 n] w fun e w' => e = .returned (.bool false) ∧ w = w' := by rw [← h]; exact ref_right n w
theorem right_yes (n : Int) (w : World) (h : okN n = true) : Calls Try.prog 35 #[.int .i64 n] w fun e w' => e = .returned (.bool true) ∧ w = w' := by rw [← h]; exact ref_right n w

def CutPost (l : List UInt8) (w : World) (e : Ending) (w' : World) : Prop := e = .returned (.tuple #[.int .i64 (cutV l).1, .int .i64 (cutV l).2.1, .int .i64 (cutV l).2.2]) ∧ w = w'
theorem CutPost.mk {l : List UInt8} {w : World} {a b c : Nat} (h : cutV l = (a, b, c)) : CutPost l w (.returned (.tuple #[.int .i64 a, .int .i64 b, .int .i64 c])) w := by unfold CutPost; rw [h]; exact ⟨rfl, rfl⟩

set_option maxHeartbeats 1000000 in
set_option maxRecDepth 100000 in
theorem ref_number (A : Option Addr) (n c B : Nat) (l : List UInt8) (w : World) (hn : n = l.length) (hr : RowAt w B A (bytes l)) (hl : l.length ≤ 9223372036854775807) :
    Calls Try.prog 24 #[.slice A n c] w (CutPost l w) := by
  subst hn
  go_enter Try.func24, Try.ntmps24
  go_wp2
  go_loop [5] (fun i => ∃ k : Nat, k ≤ l.length ∧ k ≤ 8 ∧ Lead l k ∧ i = .int .i64 k) (fun i => 8 - (intOf i).toNat)
  case atStart => exact ⟨0, by omega, by omega, Lead.zero l, rfl⟩
  case round =>
    obtain ⟨k, hk, hk8, hlead, rfl⟩ := hrel
    have HL := Lib.hid hlead
    clear hlead
    by_cases h8 : k = 8
    · subst h8
      have fin := Lib.hid (cut_eight HL.out)
      by_cases h9 : l.length = 8
      · have h9' : l.length ≤ 8 := by omega
        clear h9
        go_wp2
        go_ret3
        exact CutPost.mk (a := 0) (b := 0) (c := 11) fin.out
      · have h9' : 8 < l.length := by omega
        clear h9
        go_wp2
        go_ret3
        exact CutPost.mk (a := 0) (b := 0) (c := 11) fin.out
    · by_cases hlt : k < l.length
      · have hk7 : k < 8 := by omega
        obtain ⟨b0, o0, rfl, _, hc⟩ := hr.bytes_at (by omega)
        have hcell := hc k hlt
        have NX := fun h => Lib.hid (HL.out.next hlt h)
        have FB := fun h1 h2 => Lib.hid (cut_bad HL.out hlt hk7 h1 h2)
        have FG := fun h1 h2 => Lib.hid (cut_good HL.out hlt hk7 h1 h2)
        have HC := Lib.hid hc
        obtain ⟨x, hx⟩ : ∃ x, l.getD k 0 = x := ⟨_, rfl⟩
        rw [hx] at hcell NX FB FG
        clear hc hx h8
        by_cases h1 : 128 ≤ x.toNat
        · have nx := NX h1
          clear NX FB FG
          go_wp2
          go_round
          case rel => exact ⟨k + 1, by omega, by omega, nx.out, by go_num⟩
          case measure => simp [intOf]; omega
        · have HLEN : (l.take (k + 1)).length = k + 1 := by rw [List.length_take]; omega
          have HLEN := Lib.hid HLEN
          have hkl : ((k : Int) == l.length) = false := by simp; omega
          have hk8' : ((k : Int) == 8) = false := by simp; omega
          clear NX
          go_wp2
          go_loop [6, 7] (fun n i => ∃ j : Nat, j ≤ k + 1 ∧ i = .int .i64 ((j : Int) - 1) ∧ n = .int .i64 (valV ((l.take (k + 1)).drop j) : Nat)) (fun _ i => (intOf i + 1).toNat)
          case atStart =>
            refine ⟨k + 1, by omega, by go_num, ?_⟩
            rw [List.drop_of_length_le (by rw [HLEN.out]; omega)]
            rfl
          case round =>
            obtain ⟨j, hj, rfl, rfl⟩ := hrel
            cases j with
            | zero =>
              have hv0 := valV_take_lt l (k + 1) (by omega)
              rw [List.drop_zero]
              generalize valV (l.take (k + 1)) = v at *
              by_cases h2 : 0 < k
              · by_cases h3 : x.toNat = 0
                · have fin := FB (by omega) (.inl ⟨h2, h3⟩)
                  obtain rfl : x = 0 := UInt8.toNat_inj.1 h3
                  clear FB FG h3
                  by_cases h4 : okN (v : Int) = true
                  · go_wp2_with (go_at_call 35; refine (right_yes _ _ h4).mono ?_; rintro e w' ⟨rfl, rfl⟩)
                    go_ret3
                    exact CutPost.mk (a := 0) (b := 0) (c := 11) fin.out
                  · have h4 : okN (v : Int) = false := by simpa using h4
                    go_wp2_with (go_at_call 35; refine (right_no _ _ h4).mono ?_; rintro e w' ⟨rfl, rfl⟩)
                    go_ret3
                    exact CutPost.mk (a := 0) (b := 0) (c := 11) fin.out
                · have h3' : ((x.toNat : Int) == 0) = false := by simpa using h3
                  by_cases h4 : v ≤ 281474976710656
                  · have fin := FG (by omega) (by omega)
                    have h5 : okN (v : Int) = true := by simp [okN]; omega
                    clear FB FG h3
                    go_wp2_with (go_at_call 35; refine (right_yes _ _ h5).mono ?_; rintro e w' ⟨rfl, rfl⟩)
                    go_ret3
                    exact CutPost.mk (a := v) (b := k + 1) (c := 0) fin.out
                  · have fin := FB (by omega) (.inr (by omega))
                    have h5 : okN (v : Int) = false := by simp [okN]; omega
                    clear FB FG h3
                    go_wp2_with (go_at_call 35; refine (right_no _ _ h5).mono ?_; rintro e w' ⟨rfl, rfl⟩)
                    go_ret3
                    exact CutPost.mk (a := 0) (b := 0) (c := 11) fin.out
              · by_cases h4 : v ≤ 281474976710656
                · have fin := FG (by omega) (by omega)
                  have h5 : okN (v : Int) = true := by simp [okN]; omega
                  clear FB FG
                  go_wp2_with (go_at_call 35; refine (right_yes _ _ h5).mono ?_; rintro e w' ⟨rfl, rfl⟩)
                  go_ret3
                  exact CutPost.mk (a := v) (b := k + 1) (c := 0) fin.out
                · have fin := FB (by omega) (.inr (by omega))
                  have h5 : okN (v : Int) = false := by simp [okN]; omega
                  clear FB FG
                  go_wp2_with (go_at_call 35; refine (right_no _ _ h5).mono ?_; rintro e w' ⟨rfl, rfl⟩)
                  go_ret3
                  exact CutPost.mk (a := 0) (b := 0) (c := 11) fin.out
            | succ j =>
              have hcj := HC.out j (by omega)
              have hvd := valV_drop (l.take (k + 1)) j (by rw [HLEN.out]; omega)
              have hg : (l.take (k + 1)).getD j 0 = l.getD j 0 := by
                rw [List.getD, List.getD, List.getElem?_take, if_pos (by omega)]
              have hlt2 : valV ((l.take (k + 1)).drop j) < 72057594037927936 := by
                have h1 := valV_lt ((l.take (k + 1)).drop j)
                have h2 : 128 ^ ((l.take (k + 1)).drop j).length ≤ 128 ^ 8 := Nat.pow_le_pow_right (by decide) (by rw [List.length_drop, HLEN.out]; omega)
                have h3 : 128 ^ 8 = 72057594037927936 := by decide
                omega
              rw [hg] at hvd
              have ej : (((j + 1 : Nat) : Int) - 1) = (j : Int) := by omega
              rw [ej]
              obtain ⟨y, hy⟩ : ∃ y, l.getD j 0 = y := ⟨_, rfl⟩
              obtain ⟨u, hu⟩ : ∃ u, valV ((l.take (k + 1)).drop (j + 1)) = u := ⟨_, rfl⟩
              obtain ⟨v, hv⟩ : ∃ v, valV ((l.take (k + 1)).drop j) = v := ⟨_, rfl⟩
              rw [hu]
              rw [hy] at hcj hvd
              rw [hu, hv] at hvd
              rw [hv] at hlt2
              have HV := Lib.hid hv
              have e2 : 128 * (u : Int) + (y.toNat : Int) % 128 = (v : Int) := by omega
              have hb1 : 128 * (u : Int) ≤ 72057594037927936 := by omega
              have hy0 : (0 : Int) ≤ y.toNat := by omega
              have hy1 : (y.toNat : Int) < 256 := by have := y.toNat_lt; omega
              clear hu hv hy hg hvd FB FG ej
              go_wp2
              go_round
              case rel => exact ⟨j, by omega, by go_num, by rw [HV.out]⟩
              case measure => simp [intOf]
      · obtain rfl : k = l.length := by omega
        have fin := Lib.hid (cut_short HL.out (by omega))
        have h8' : ((l.length : Int) == 8) = false := by simp; omega
        clear h8
        go_wp2
        go_ret3
        exact CutPost.mk (a := 0) (b := 0) (c := 10) fin.out
end Go.Proofs.Ytonghhnodpjkfaa
