/-
  Layer 6 (key): the longest text with which all begin.
-/
import Derived.Test.YthfonmdhbnfmnaaKeyD
import Derived.Test.YthfonmdhbnfmnaaCut
namespace Go.Proofs.Ythfonmdhbnfmnaa
open Go.RowKit

theorem commonF_len (s : List UInt8) (r : List (List UInt8)) : (commonF s r).length ≤ s.length := ((commonF_pre r s).1).length_le
theorem strs_take_step {r : List (List UInt8)} {k : Nat} (s : List UInt8) (h : k < r.length) : commonF s (r.take (k + 1)) = (commonF s (r.take k)).take (alikeN (commonF s (r.take k)) (r.getD k [])) := by
  have e : r.take (k + 1) = r.take k ++ [r.getD k []] := by
    rw [List.take_succ_eq_append_getElem h]; simp [List.getD, List.getElem?_eq_getElem h]
  rw [e, commonF_snoc]
theorem string_size (w : World) : (sizeOf 9).run Try.prog w = .ok 1 w := by kernel_rfl
set_option maxHeartbeats 400000 in
theorem key_common (A : Option Addr) (c n B : Nat) (l : List (List UInt8)) (hn : n = l.length) (hc : n ≤ c) (hcm : c ≤ maxLen) (hl : ∀ x ∈ l, x.length ≤ maxLen) (w : World) (hr : RowAt w B A (strs l)) :
    Calls Try.prog 17 #[.slice A n c] w fun e w' => e = .returned (.string (str (commonV l))) ∧ ∃ n, w' = w.drewN n := by
  unfold maxLen at hcm hl
  cases l with
  | nil =>
    simp at hn
    subst hn
    go_enter Try.func17, Try.ntmps17
    go_wp2_with fail
    go_ret
    exact ⟨rfl, 0, rfl⟩
  | cons s r =>
    obtain ⟨m, hm⟩ : ∃ m, r.length = m := ⟨_, rfl⟩
    rw [List.length_cons, hm] at hn
    subst hn
    have hr2 : RowAt w B (cutA A 1 c) (strs r) := by
      have := RowAt.cut (k := 1) (c := c) hr (by simp) (by simp [hm]; omega)
      simpa using this
    have K1 : ∀ w : World, (Instr.slice 29 (.slice A (m + 1) c) (some (.int .i64 1)) none none).run Try.prog w = .ok (.slice (cutA A 1 c) m (c - 1)) w :=
      fun w : World => run_cut (T := 29) (E := 9) Try.underlying29 string_size w A (m + 1) c 1 (by omega)
    obtain ⟨b0, o0, rfl, hb0, hcell⟩ := hr.strs_at (by simp)
    have h0 : w.cell? ⟨b0, o0, none⟩ = some (.string (str s)) := by simpa using hcell 0 (by simp)
    have hs : s.length ≤ 9223372036854775807 := by have := hl s (List.mem_cons_self ..); omega
    have HM := Lib.hid hm
    have HS : Hid (∀ k, (commonF s (r.take k)).length ≤ s.length) := fun k => commonF_len _ _
    have HR2 := Lib.hid hr2
    clear hl hr hm hcell hr2
    obtain ⟨A2, hA2⟩ : ∃ A2, cutA (some ⟨b0, o0, none⟩) 1 c = A2 := ⟨_, rfl⟩
    rw [hA2] at HR2 K1
    clear hA2
    have hm0 : ((m : Int) + 1 == 0) = false := by rw [beq_eq_false_iff_ne]; omega
    go_enter Try.func17, Try.ntmps17
    go_wp2_with fail
    go_loopw [3, 15] (fun v i wr => ∃ k q : Nat, k ≤ m ∧ v = .string (str (commonF s (r.take k))) ∧ i = .int .i64 k ∧ wr = w.drewN q) (fun _ i _ => m - (intOf i).toNat)
    case atStart => exact ⟨0, 0, by omega, rfl, rfl, rfl⟩
    case round =>
      obtain ⟨k, q, hk, rfl, rfl, rfl⟩ := hrel
      have hlen := HS.out k
      by_cases hlt : k < m
      · obtain ⟨b1, o1, rfl, hb1, hcell⟩ := HR2.out.strs_at (by have := HM.out; omega)
        have hx := hcell k (by have := HM.out; omega)
        have HN := Lib.hid (strs_take_step (r := r) s (by have := HM.out; omega : k < r.length))
        clear hcell
        obtain ⟨t, ht⟩ : ∃ t, commonF s (r.take k) = t := ⟨_, rfl⟩
        obtain ⟨x, hx'⟩ : ∃ x, r.getD k [] = x := ⟨_, rfl⟩
        rw [ht] at HN hlen
        rw [hx'] at hx HN
        rw [ht]
        clear ht hx'
        obtain ⟨a, ha⟩ : ∃ a, alikeN t x = a := ⟨_, rfl⟩
        have hat : a ≤ t.length := by rw [← ha]; exact (alikeN_le t x).1
        have HK := Lib.hid fun w => key_alike t x (by omega) w
        rw [ha] at HK HN
        clear ha
        have hsz : (str t).size = t.length := str_size t
        have HX : Hid ((str t).extract 0 a = str (t.take a)) := str_take t a
        generalize str t = T at HK hsz HX ⊢
        go_wp2_with ((with_reducible refine (HK.out _).mono ?_); rintro e w' ⟨rfl, q2, rfl⟩)
        go_roundw
        case rel => exact ⟨k + 1, _, by omega, by rw [HN.out, HX.out], by go_num, rfl⟩
        case measure => simp [intOf]; omega
      · have HF : Hid (r.take k = r) := List.take_of_length_le (by have := HM.out; omega)
        rw [HF.out]
        clear hlen
        go_wp2_with fail
        go_ret
        exact ⟨rfl, _, rfl⟩
end Go.Proofs.Ythfonmdhbnfmnaa
