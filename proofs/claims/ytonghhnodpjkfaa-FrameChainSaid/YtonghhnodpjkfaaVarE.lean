/-
  The walks of the document's own answers for numbers as bytes.
-/
import Derived.Test.YtonghhnodpjkfaaVarD
import Derived.Test.YtonghhnodpjkfaaEq
namespace Go.Proofs.Ytonghhnodpjkfaa
open Go.RowKit

theorem ref_right (n : Int) (w : World) : Calls Try.prog 35 #[.int .i64 n] w fun e w' => e = .returned (.bool (okN n)) ∧ w = w' := by
  have hd : okN n = decide (0 ≤ n ∧ n ≤ 281474976710656) := rfl
  generalize okN n = r at *
  by_cases h1 : 0 ≤ n
  · by_cases h2 : n ≤ 281474976710656
    · obtain rfl : r = true := by rw [hd]; simp [h1, h2]
      clear hd
      go_enter Try.func35, Try.ntmps35
      go_wp2
      go_ret
      exact ⟨rfl, rfl⟩
    · obtain rfl : r = false := by rw [hd]; simp [h2]
      clear hd
      go_enter Try.func35, Try.ntmps35
      go_wp2
      go_ret
      exact ⟨rfl, rfl⟩
  · obtain rfl : r = false := by rw [hd]; simp [h1]
    clear hd
    go_enter Try.func35, Try.ntmps35
    go_wp2
    go_ret
    exact ⟨rfl, rfl⟩

set_option maxHeartbeats 400000 in
set_option maxRecDepth 100000 in
theorem ref_bytes (k : Nat) : ∀ (n : Nat) (w : World), n ≤ k → n ≤ 9223372036854775807 → Calls Try.prog 19 #[.int .i64 (n : Int)] w (RetB w.heap.size w (putV n)) := by
  induction k with
  | zero =>
    intro n w hk hn
    obtain rfl : n = 0 := by omega
    have ho := own_one w 0 0 rfl
    have HO := Lib.hid ho
    have HP := Lib.hid (putV_small (n := 0) (by omega))
    clear ho
    go_enter Try.func19, Try.ntmps19
    go_wp2_with fail
    go_ret
    exact ⟨_, rfl, by rw [HP.out]; exact HO.out, (Below.refl _ _).alloc (Nat.le_refl _) _⟩
  | succ k ih =>
    intro n w hk hn
    by_cases hlt : n < 128
    · have HO := Lib.hid (own_one w (n : Int) (UInt8.ofNat n) (by simp; omega))
      have HP := Lib.hid (putV_small hlt)
      go_enter Try.func19, Try.ntmps19
      go_wp2_with fail
      go_ret
      exact ⟨_, rfl, by rw [HP.out]; exact HO.out, (Below.refl _ _).alloc (Nat.le_refl _) _⟩
    · have HO := Lib.hid (own_one w (128 + (n : Int) % 128) (UInt8.ofNat (n % 128 + 128)) (by simp; omega))
      have HP := Lib.hid (putV_big hlt)
      have hlen := putV_len10 (n / 128) (by omega)
      have hih := fun w1 => ih (n / 128) w1 (by omega) (by omega)
      have e1 : ((n / 128 : Nat) : Int) = (n : Int) / 128 := by omega
      rw [e1] at hih
      clear e1 hk
      go_enter Try.func19, Try.ntmps19
      go_wp2_with fail
      refine (hih _).mono ?_; rintro e w1 ⟨v1, rfl, hown1, hb1⟩
      clear hih
      have ho1 := HO.out.below hb1
      obtain ⟨A1, c1, rfl, hr1⟩ := hown1.read
      have hl1 : [UInt8.ofNat (n % 128 + 128)].length + (putV (n / 128)).length ≤ 140737488355328 := by simp; omega
      have hbb := ((Below.refl w.heap.size w).alloc (Nat.le_refl _) (.cells #[.int .u8 (128 + (n : Int) % 128)] 5)).trans (hb1.mono (by simp))
      have hs1 := hbb.size
      have HB := Lib.hid hbb
      clear hown1 hbb hb1 HO
      go_wp2_with (at_builtin; refine wpList_app_row rfl (.tmp 12) (.tmp 15) rfl w.heap.size _ [UInt8.ofNat (n % 128 + 128)] rfl ho1 _ A1 c1 _ (putV (n / 128)) rfl rfl hr1.row hl1 hs1 ?_; intro v2 w2 hown2 _ hb2 _)
      go_ret
      exact ⟨v2, rfl, by rw [HP.out]; exact hown2, HB.out.trans hb2⟩

end Go.Proofs.Ytonghhnodpjkfaa
