/-
  Layer 6 (key): the document's end of a text; with what all texts begin.
-/
import Derived.Test.YtmdalbglekjcjaaKeyC
import Derived.BigRegion
namespace Go.Proofs.Ytmdalbglekjcjaa
open Go.RowKit

theorem run_txt_add {P : Program} (a b : List UInt8) (h : a.length + b.length ≤ 9223372036854775807) (w : World) : (Op.stringOp .add (str a) (str b)).run P w = .ok (.string (str (a ++ b))) w := by
  rw [run_string_add_sum _ _ _ (by rw [str_size, str_size]; exact h), txt_app]
/-- What an end hands back. -/
def EndV (p : List UInt8) (e : Ending) : Prop :=
  (∃ x, endV p = some x ∧ e = .returned (.tuple #[.string (str x), .bool true])) ∨ (endV p = none ∧ e = .returned (.tuple #[.string (str []), .bool false]))
set_option maxHeartbeats 400000 in
theorem ref_end (p : List UInt8) (hp : p.length ≤ 1000000) (w : World) : Calls Try.prog 25 #[.string (str p)] w fun e w' => EndV p e ∧ Below w.heap.size w w' := by
  have hz : (str p).size = p.length := str_size p
  have hA : ∀ k, (h : k < (str p).size) → (str p)[k] = p.getD k 0 := fun k h => txt_at p k h
  have hT : ∀ k, (str p).extract 0 k = str (p.take k) := fun k => str_take p k
  generalize str p = S at hz hA hT ⊢
  have HA := Lib.hid hA
  have HT := Lib.hid hT
  have HZ := Lib.hid hz
  have hmx : S.size ≤ 1000000 := by omega
  clear hA hT hz
  go_enter Try.func25, Try.ntmps25
  go_wp2_with fail
  go_loop [4] (fun i => ∃ n : Nat, n ≤ S.size ∧ Hid (endV p = endV (p.take n)) ∧ i = .int .i64 n) (fun i => (intOf i).toNat)
  case atStart => exact ⟨S.size, by omega, by rw [HZ.out, List.take_length]; exact rfl, rfl⟩
  case round =>
    obtain ⟨n, hn, HE, rfl⟩ := hrel
    cases n with
    | zero =>
      have HN := Lib.hid (HE.out.trans (show endV (p.take 0) = none from rfl))
      go_wp2_with fail
      go_ret2
      exact ⟨.inr ⟨HN.out, rfl⟩, Below.refl _ _⟩
    | succ k =>
      have hk : k < S.size := by omega
      have c1 := HA.out k hk
      have HS := Lib.hid (take_succ_getD (t := p) (k := k) (by have := HZ.out; omega))
      obtain ⟨c, hc⟩ : ∃ c, p.getD k 0 = c := ⟨_, rfl⟩
      rw [hc] at c1 HS
      clear hc
      by_cases h : c = 255
      · subst h
        have HN := Lib.hid (HE.out.trans (by rw [HS.out, endV_last]))
        go_wp2_with fail
        go_round
        case rel => exact ⟨k, by omega, HN, by go_num⟩
        case measure => simp [intOf]
      · have HN := Lib.hid (HE.out.trans (by rw [HS.out, endV_some h]))
        have hc255 : (c.toNat : Int) < 255 := by
          have := u8_ne h
          have : (255 : UInt8).toNat = 255 := rfl
          have := c.toNat_lt
          omega
        have e1 : IntKind.u8.wrap ((c.toNat : Int) + 1) = ((c + 1).toNat : Int) := by
          have h2 := add_one_nat h
          have h3 := (c + 1).toNat_lt
          rw [IntWalk.u8_in _ (by omega)]; omega
        have e2 : (c.toNat : Int) + 1 = ((c + 1).toNat : Int) := by
          have h2 := add_one_nat h
          omega
        obtain ⟨d, hd⟩ : ∃ d, c + 1 = d := ⟨_, rfl⟩
        rw [hd] at e1 e2 HN
        clear hd
        have KC : Hid (∀ w : World, (convert 43 9 (.slice (some ⟨w.heap.size, 0, none⟩) 1 1)).run Try.prog (w.alloc (.cells #[.int .u8 (d.toNat : Int)] 5)).drew = .ok (.string (str [d])) (w.alloc (.cells #[.int .u8 (d.toNat : Int)] 5)).drew) :=
          fun w : World => conv_str (w := (w.alloc (.cells #[.int .u8 (d.toNat : Int)] 5)).drew) (P := Try.prog) 1 43 5 9 Try.underlying43 Try.underlying5 Try.underlying9 (byte_row w _ d rfl)
        have hz1 : (str [d]).size ≤ 1 := by rw [str_size]; simp
        have E1 := Lib.hid e1
        have E2 := Lib.hid e2
        clear e1 e2
        go_wp2_with fail
        have hi1 : (k : Int) ≤ (S.size : Int) := by omega
        have hi2 : (k : Int) < (S.size : Int) := by omega
        have hi3 : (0 : Int) ≤ (k : Int) := by omega
        have hw : IntKind.i64.wrap (k : Int) = (k : Int) := IntWalk.i64_in _ (by omega)
        have e1 := E1.out
        have hT := HT.out k
        have KC := KC.out
        have KA := fun w : World => run_txt_add (P := Try.prog) (p.take k) [d] (by rw [List.length_take, List.length_singleton]; have := HZ.out; omega) w
        go_region
        go_wp2_with fail
        go_ret2
        exact ⟨.inl ⟨_, HN.out, rfl⟩, ((Below.refl _ _).alloc (Nat.le_refl _) _).drew⟩

theorem drewN2 (w : World) (a b : Nat) : ∃ n, (w.drewN a).drewN b = w.drewN n := ⟨_, World.drewN_drewN _ _ _⟩
theorem alike_post {a b : List UInt8} {k na nb : Nat} (ha : na = a.length) (hb : nb = b.length) (h1 : k ≤ na) (h2 : k ≤ nb) (h3 : a.take k = b.take k) (h4 : k < na → k < nb → a.getD k 0 ≠ b.getD k 0) : (k : Int) = (alikeN a b : Nat) := by
  rw [alikeN_at (by omega) (by omega) h3 (fun u v => h4 (by omega) (by omega))]
end Go.Proofs.Ytmdalbglekjcjaa
