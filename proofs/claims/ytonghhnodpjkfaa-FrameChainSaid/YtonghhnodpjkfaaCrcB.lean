/-
  The walks of the document's own answers for the sum, and of Whole.
-/
import Derived.Test.YtonghhnodpjkfaaCrcA
namespace Go.Proofs.Ytonghhnodpjkfaa
open Go.RowKit

theorem ref_step_odd {y : Nat} (h : y < 4294967296) (ho : y % 2 = 1) : bits .xor .u32 ((y : Int) / 2) 3988292384 = ((stepN y : Nat) : Int) := by
  have e1 : (y : Int) / 2 = ((y / 2 : Nat) : Int) := by omega
  rw [e1]
  have := u32_xor_nat (y / 2) 3988292384 (by omega) (by decide)
  rw [stepN, ho]
  exact this
theorem ref_step_even {y : Nat} (he : y % 2 = 0) : (y : Int) / 2 = ((stepN y : Nat) : Int) := by
  rw [stepN, he, Nat.zero_mul, Nat.xor_zero]
  omega

set_option maxHeartbeats 1000000 in
set_option maxRecDepth 100000 in
theorem ref_sum (A : Option Addr) (c n B : Nat) (l : List UInt8) (w : World) (hn : n = l.length) (hm : n ≤ 9223372036854775806) (h : RdB w B A c l) :
    Calls Try.prog 21 #[.slice A n c] w fun e w' => e = .returned (.int .u32 ((sumC l : Nat) : Int)) ∧ w = w' := by
  have HN := Lib.hid hn
  go_enter Try.func21, Try.ntmps21
  go_wp2
  go_loop [3, 4] (fun v i => ∃ k : Nat, k ≤ n ∧ i = .int .i64 (k : Int) ∧ v = .int .u32 ((foldC 4294967295 (l.take k) : Nat) : Int)) (fun _ i => n - (intOf i).toNat)
  case atStart => exact ⟨0, by omega, rfl, rfl⟩
  case round =>
    obtain ⟨k, hk, rfl, rfl⟩ := hrel
    by_cases hlt : k < n
    · have hkl : k < l.length := by omega
      obtain ⟨b0, o0, rfl, hb0, hc⟩ := h.row.bytes_at (by omega)
      have hcell := hc k hkl
      have HT := Lib.hid (take_snoc_getD l k hkl)
      obtain ⟨x, hx⟩ : ∃ x, l.getD k 0 = x := ⟨_, rfl⟩
      rw [hx] at hcell HT
      have HF := Lib.hid (foldC_snoc 4294967295 (l.take k) x)
      have hs := foldC_lt (l.take k) (s := 4294967295) (by decide)
      obtain ⟨s, hse⟩ : ∃ s, foldC 4294967295 (l.take k) = s := ⟨_, rfl⟩
      rw [hse] at HF hs
      rw [hse]
      have hxb := byte_lt x
      have hxor := u32_xor_nat s x.toNat hs (by omega)
      have hyl := xor_byte_lt hs x
      obtain ⟨y, hy⟩ : ∃ y, s ^^^ x.toNat = y := ⟨_, rfl⟩
      rw [hy] at hxor hyl HF
      clear hc hx hse hy
      go_wp2
      go_loop [3, 5] (fun v i => ∃ j : Nat, j ≤ 8 ∧ i = .int .i64 (j : Int) ∧ v = .int .u32 ((stepsN j y : Nat) : Int)) (fun _ i => 8 - (intOf i).toNat)
      case atStart => exact ⟨0, by omega, rfl, rfl⟩
      case round =>
        obtain ⟨j, hj, rfl, rfl⟩ := hrel
        by_cases hjl : j < 8
        · have hl := stepsN_lt j hyl
          have HZ := Lib.hid (stepsN_succ j y)
          obtain ⟨z, hz⟩ : ∃ z, stepsN j y = z := ⟨_, rfl⟩
          rw [hz] at hl HZ
          rw [hz]
          clear hz
          by_cases ho : z % 2 = 1
          · have h1 := ref_step_odd hl ho
            have ho' : (z : Int) % 2 = 1 := by omega
            have ho2 : ((z : Int) % 2 == 1) = true := by simpa using ho'
            go_wp2
            go_round
            case rel => exact ⟨j + 1, by omega, by go_num, by rw [HZ.out]⟩
            case measure => simp [intOf]; omega
          · have h1 := ref_step_even (y := z) (by omega)
            have ho2 : ((z : Int) % 2 == 1) = false := by simp; omega
            go_wp2
            go_round
            case rel => exact ⟨j + 1, by omega, by go_num, by rw [HZ.out]⟩
            case measure => simp [intOf]; omega
        · obtain rfl : j = 8 := by omega
          go_wp2
          go_round
          case rel => exact ⟨k + 1, by omega, by omega, by rw [HT.out, HF.out]⟩
          case measure => simp [intOf]; omega
    · obtain rfl : k = n := by omega
      rw [show l.take k = l by rw [HN.out, List.take_length]]
      have fin : Hid (bits .xor .u32 ((foldC 4294967295 l : Nat) : Int) 4294967295 = ((sumC l : Nat) : Int)) := by
        have := u32_xor_nat (foldC 4294967295 l) 4294967295 (foldC_lt l (by decide)) (by decide)
        rw [Nat.xor_comm] at this
        exact this
      go_wp2
      go_ret
      exact ⟨congrArg (fun x => Ending.returned (.int .u32 x)) fin.out, rfl⟩
end Go.Proofs.Ytonghhnodpjkfaa
