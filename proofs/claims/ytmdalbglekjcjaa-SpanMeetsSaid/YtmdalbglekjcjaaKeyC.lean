/-
  Layer 6 (key): with what texts begin; the first of all texts behind all that begin with one.
-/
import Derived.Test.YtmdalbglekjcjaaKeyB
import Derived.Deep.RegionHeld3
namespace Go.Proofs.Ytmdalbglekjcjaa
open Go.RowKit

theorem run_str_to {P : Program} {t : TypeId} (ht : P.underlying t = some .string) (w : World) (S : ByteArray) (k : Nat) (i : Int) (hi : i = (k : Int)) (hk : k ≤ S.size) :
    (Instr.slice t (.string S) none (some (.int .i64 i)) none).run P w = .ok (.string (S.extract 0 k)) w := by
  subst hi
  rw [run_slice_string_to_if w t S .i64 _ ht, if_pos (by omega)]
  rfl
theorem ref_begins (s p : List UInt8) (w : World) : Calls Try.prog 17 #[.string (str s), .string (str p)] w fun e w' => e = .returned (.bool (p.isPrefixOf s)) ∧ w = w' := by
  have hzs : (str s).size = s.length := str_size s
  have hzp : (str p).size = p.length := str_size p
  by_cases h : p.length ≤ s.length
  · have hx : (str s).extract 0 p.length = str (s.take p.length) := str_take s p.length
    have hle : (str p).size ≤ (str s).size := by omega
    generalize str s = S at hzs hle hx ⊢
    obtain ⟨T, hT⟩ : ∃ T, str p = T := ⟨_, rfl⟩
    rw [hT] at hzp hle ⊢
    have HT := Lib.hid hT
    have HX := Lib.hid hx
    clear hT hx
    go_enter Try.func17, Try.ntmps17
    go_wp2_with fail
    go_ret
    refine ⟨ret_bool ?_, rfl⟩
    rw [show (min (p.length : Int) (s.length : Int)).toNat = p.length by omega, HX.out, str_toList, ← HT.out, str_toList]
    rw [Bool.eq_iff_iff, beq_iff_eq, List.isPrefixOf_iff_prefix, List.prefix_iff_eq_take, eq_comm]
  · have hlt : (str s).size < (str p).size := by omega
    have HN : Hid (false = p.isPrefixOf s) := by
      rw [eq_comm, Bool.eq_false_iff]
      intro e
      exact h ((List.isPrefixOf_iff_prefix.1 e).length_le)
    generalize str s = S at hzs hlt ⊢
    generalize str p = T at hzp hlt ⊢
    go_enter Try.func17, Try.ntmps17
    go_wp2_with fail
    go_ret
    exact ⟨ret_bool HN.out, rfl⟩

set_option maxHeartbeats 400000 in
theorem key_end (p : List UInt8) (hp : p.length ≤ 1000000) (w : World) : Calls Try.prog 21 #[.string (str p)] w fun e w' =>
    ((∃ x, endV p = some x ∧ e = .returned (.tuple #[.string (str x), .bool true])) ∨ (endV p = none ∧ e = .returned (.tuple #[.string (str []), .bool false]))) ∧ Below w.heap.size w w' := by
  have hz : (str p).size = p.length := str_size p
  have hA : ∀ k, (h : k < (str p).size) → (str p)[k] = p.getD k 0 := fun k h => txt_at p k h
  have hT : ∀ k, (str p).extract 0 k = str (p.take k) := fun k => str_take p k
  generalize str p = S at hz hA hT ⊢
  have HA := Lib.hid hA
  have HT := Lib.hid hT
  have HZ := Lib.hid hz
  have hmx : S.size ≤ 1000000 := by omega
  clear hA hT hz
  go_enter Try.func21, Try.ntmps21
  go_wp2_with fail
  go_loop [4] (fun i => ∃ n : Nat, n ≤ S.size ∧ Hid (endV p = endV (p.take n)) ∧ i = .int .i64 n) (fun i => (intOf i).toNat)
  case atStart => exact ⟨S.size, by omega, by rw [HZ.out, List.take_length]; exact rfl, rfl⟩
  case round =>
    obtain ⟨n, hn, HE, rfl⟩ := hrel
    cases n with
    | zero =>
      have HN := Lib.hid (HE.out.trans (show endV (p.take 0) = none from rfl))
      go_wp2_with fail
      go_ret2
      exact ⟨.inr ⟨HN.out, rfl⟩, Below.refl _ _⟩
    | succ k =>
      have hk : k < S.size := by omega
      have c1 := HA.out k hk
      have HS := Lib.hid (take_succ_getD (t := p) (k := k) (by have := HZ.out; omega))
      obtain ⟨c, hc⟩ : ∃ c, p.getD k 0 = c := ⟨_, rfl⟩
      rw [hc] at c1 HS
      clear hc
      by_cases h : c = 255
      · subst h
        have HN := Lib.hid (HE.out.trans (by rw [HS.out, endV_last]))
        go_wp2_with fail
        go_round
        case rel => exact ⟨k, by omega, HN, by go_num⟩
        case measure => simp [intOf]
      · have HN := Lib.hid (HE.out.trans (by rw [HS.out, endV_some h]))
        have hc255 : ((c.toNat : Int) == 255) = false := int_eq_false h
        have HK : Hid (∀ w, Calls Try.prog 28 #[.string (S.extract 0 k), .int .u8 (IntKind.u8.wrap ((c.toNat : Int) + 1))] w fun e w' => e = .returned (.string (str (p.take k ++ [c + 1]))) ∧ Below w.heap.size w w') := by
          have e1 : IntKind.u8.wrap ((c.toNat : Int) + 1) = ((c + 1).toNat : Int) := by
            have h2 := add_one_nat h
            have h3 := (c + 1).toNat_lt
            rw [IntWalk.u8_in _ (by omega)]; omega
          rw [e1, HT.out]
          exact fun w => key_with (p.take k) (c + 1) (by rw [List.length_take]; omega) w
        go_wp2_with fail
        have hi1 : (k : Int) ≤ (S.size : Int) := by omega
        have hi2 : (k : Int) < (S.size : Int) := by omega
        have hi3 : (0 : Int) ≤ (k : Int) := by omega
        have hw : IntKind.i64.wrap (k : Int) = (k : Int) := IntWalk.i64_in _ (by omega)
        go_region_held3 (fun w' => Below w.heap.size w w') (first | (exact (Below.refl _ _).drew) | assumption | go_keep) (first | (go_at_call 28; refine (HK.out _).mono ?_; rintro e w' ⟨rfl, hb⟩; have hbb := (Below.refl _ _).drew.trans hb))
        go_wp2_with fail
        go_ret2
        exact ⟨.inl ⟨_, HN.out, rfl⟩, by assumption⟩
end Go.Proofs.Ytmdalbglekjcjaa
