/-
  Layer 7 (span): which of two ranges ends ahead.
-/
import Derived.Test.YtgoenmgkhdibnaaSpanC
import Derived.Deep.RegionHeld3
import Derived.Deep.RegionWith
namespace Go.Proofs.Ytgoenmgkhdibnaa
open Go.RowKit

theorem span_upTo (S T : ByteArray) (o : Bool) (w : World) :
    Calls Try.prog 42 #[.agg #[.string S, .string T, .bool o]] w fun e w' => e = .returned (.agg #[.string ⟨#[]⟩, .string T, .bool o]) ∧ Below w.heap.size w w' := by
  go_enter Try.func42, Try.ntmps42
  go_wp2_with fail
  exact bodyPost_ret (v := .agg #[.string ⟨#[]⟩, .string T, .bool o]) (by simp [results, Try.results42, go_sem]) rfl ⟨rfl, ((Below.refl _ _).alloc (Nat.le_refl _) _).alloc (by simp) _⟩
set_option maxHeartbeats 1600000 in
/-- What Ends does with right ranges: the way is told by six cases. -/
theorem span_ends (r t : Rng) (S T U V : ByteArray) (o p : Bool) (hr : IsR r S T o) (ht : IsR t U V p) (v : Int) (hv : endsR r t = v) (w : World) :
    Calls Try.prog 25 #[.agg #[.string S, .string T, .bool o], .agg #[.string U, .string V, .bool p]] w fun e w' => e = .returned (.int .i64 v) ∧ Below w.heap.size w w' := by
  obtain ⟨v1, e1⟩ : ∃ v1, rightR r = v1 := ⟨_, rfl⟩
  obtain ⟨v2, e2⟩ : ∃ v2, rightR t = v2 := ⟨_, rfl⟩
  have R1 := fun w => Lib.hid (span_right r S T o v1 hr e1 w)
  have R2 := fun w => Lib.hid (span_right t U V p v2 ht e2 w)
  cases v1
  case true =>
    cases v2
    case true =>
      have T1 := fun w => Lib.hid (span_upTo S T o w)
      have T2 := fun w => Lib.hid (span_upTo U V p w)
      have HO1 := fun e => Lib.hid (rightR_op e1 e)
      have HO2 := fun e => Lib.hid (rightR_op e2 e)
      obtain ⟨-, h2, h3⟩ := hr
      obtain ⟨-, h5, h6⟩ := ht
      have EQ := fun q hq w => Lib.hid (eq_rng_is ⟨#[]⟩ T ⟨#[]⟩ V o p q hq w)
      unfold endsR endLt at hv
      rw [e1, e2, h3, h6] at hv
      rw [h3] at HO1
      rw [h6] at HO2
      have key : (o = true ∧ p = true ∧ v = 0 ∧ T = V) ∨ (o = true ∧ p = false ∧ v = 1) ∨ (o = false ∧ p = true ∧ v = -1) ∨ (o = false ∧ p = false ∧ v = 0 ∧ T = V) ∨ (o = false ∧ p = false ∧ (T.toList == V.toList) = false ∧ Lib.compareBytes r.hi t.hi = v) := by
        cases o <;> cases p
        · rcases ltB_three r.hi t.hi with ⟨g1, g2, g3⟩ | ⟨g1, g2, g3⟩ | ⟨g1, g2, g3⟩
          · rw [g1, g2] at hv; exact .inr (.inr (.inr (.inr ⟨rfl, rfl, txt_ne h2 h5 g3, (cmp_lt g1).trans hv⟩)))
          · rw [g1, g2] at hv; exact .inr (.inr (.inr (.inr ⟨rfl, rfl, txt_ne h2 h5 g3, (cmp_gt g2).trans hv⟩)))
          · rw [g1, g2] at hv; exact .inr (.inr (.inr (.inl ⟨rfl, rfl, hv.symm, (h2.symm.trans (congrArg str g3)).trans h5⟩)))
        · exact .inr (.inr (.inl ⟨rfl, rfl, hv.symm⟩))
        · exact .inr (.inl ⟨rfl, rfl, hv.symm⟩)
        · exact .inl ⟨rfl, rfl, hv.symm, (h2.symm.trans (congrArg str ((HO1 rfl).out.trans (HO2 rfl).out.symm))).trans h5⟩
      have C := fun x hx w => Lib.hid (cmp_is r.hi t.hi T V h2 h5 x hx w)
      have KEY := Lib.hid key
      clear hv HO1 HO2 h2 h3 h5 h6 e1 e2 key
      go_enter Try.func25, Try.ntmps25
      go_wp2_with (first | ((with_reducible refine (R1 _).out.mono ?_); rintro e w1 ⟨rfl, hb1⟩; obtain ⟨hc1, hf1⟩ := bcell hb1) | ((with_reducible refine (R2 _).out.mono ?_); rintro e w2 ⟨rfl, hb2⟩; obtain ⟨hc2, hf2⟩ := bcell hb2))
      have hA := (((rgAt_new w S _ _ _).keep _).below hb1).below hb2
      have hB := ((rgAt_new (w.alloc _) U _ _ _).below hb1).below hb2
      rw [size1] at hB
      replace hb2 := (((Below.refl w.heap.size w).alloc (Nat.le_refl _) _).alloc (by simp) _).trans ((hb1.trans (hb2.mono hb1.size)).mono (by simp; omega))
      have HA := Lib.hid hA
      have HB := Lib.hid hB
      obtain ⟨a0, a1, a2, a3⟩ := hA
      obtain ⟨b0, b1, b2, b3⟩ := hB
      clear hb1 hc1 hf1 hc2 hf2 R1 R2
      have HW := Lib.hid hb2.size
      go_region_with (first
        | ((with_reducible refine (T1 _).out.mono ?_); rintro e w3 ⟨rfl, hb3⟩; clear a0 a1 a2 a3 b0 b1 b2 b3; (first | have HA := Lib.hid (HA.out.below hb3) | have HA := Lib.hid (HA.out.drew.below hb3)); (first | have HB := Lib.hid (HB.out.below hb3) | have HB := Lib.hid (HB.out.drew.below hb3)); obtain ⟨a0, a1, a2, a3⟩ := HA.out; obtain ⟨b0, b1, b2, b3⟩ := HB.out; (first | replace hb2 := hb2.trans (hb3.mono HW.out) | replace hb2 := hb2.drew.trans (hb3.mono HW.out)); replace HW := Lib.hid (Nat.le_trans HW.out hb3.size); clear hb3)
        | ((with_reducible refine (T2 _).out.mono ?_); rintro e w4 ⟨rfl, hb4⟩; clear a0 a1 a2 a3 b0 b1 b2 b3; (first | have HA := Lib.hid (HA.out.below hb4) | have HA := Lib.hid (HA.out.drew.below hb4)); (first | have HB := Lib.hid (HB.out.below hb4) | have HB := Lib.hid (HB.out.drew.below hb4)); obtain ⟨a0, a1, a2, a3⟩ := HA.out; obtain ⟨b0, b1, b2, b3⟩ := HB.out; (first | replace hb2 := hb2.trans (hb4.mono HW.out) | replace hb2 := hb2.drew.trans (hb4.mono HW.out)); replace HW := Lib.hid (Nat.le_trans HW.out hb4.size); clear hb4))
      all_goals
        rcases KEY.out with ⟨rfl, rfl, rfl, rfl⟩ | ⟨rfl, rfl, rfl⟩ | ⟨rfl, rfl, rfl⟩ | ⟨rfl, rfl, rfl, rfl⟩ | ⟨rfl, rfl, hne, hx⟩
        case' inr.inr.inr.inr =>
          replace EQ := EQ false (by rw [hne, Bool.and_false]; rfl)
          replace C := C v hx
        case' inl => replace EQ := EQ true (by simp)
        case' inr.inl => replace EQ := EQ false (by simp)
        case' inr.inr.inl => replace EQ := EQ false (by simp)
        case' inr.inr.inr.inl => replace EQ := EQ true (by simp)
        all_goals
          have EQ := fun w => (EQ w).out
          go_wp2_with ((with_reducible refine (C _).out.mono ?_); rintro e w' ⟨rfl, rfl⟩)
          go_ret
          exact ⟨rfl, below_set3 (below_set3 hb2 (Nat.le_refl _) _ _ _) (Nat.le_succ _) _ _ _⟩
    case false =>
      obtain rfl : v = 0 := by rw [← hv, endsR_wrong (by rw [e2, Bool.and_false])]
      clear hv e1 e2 hr ht
      go_enter Try.func25, Try.ntmps25
      go_wp2_with (first | ((with_reducible refine (R1 _).out.mono ?_); rintro e w1 ⟨rfl, hb1⟩; obtain ⟨hc1, hf1⟩ := bcell hb1) | ((with_reducible refine (R2 _).out.mono ?_); rintro e w2 ⟨rfl, hb2⟩; obtain ⟨hc2, hf2⟩ := bcell hb2))
      go_ret
      exact ⟨rfl, (((Below.refl w.heap.size w).alloc (Nat.le_refl _) _).alloc (by simp) _).trans ((hb1.trans (hb2.mono hb1.size)).mono (by simp; omega))⟩
  case false =>
    obtain rfl : v = 0 := by rw [← hv, endsR_wrong (by rw [e1]; rfl)]
    clear hv e1 e2 hr ht R2
    go_enter Try.func25, Try.ntmps25
    go_wp2_with ((with_reducible refine (R1 _).out.mono ?_); rintro e w1 ⟨rfl, hb1⟩; obtain ⟨hc1, hf1⟩ := bcell hb1)
    go_ret
    exact ⟨rfl, (((Below.refl w.heap.size w).alloc (Nat.le_refl _) _).alloc (by simp) _).trans (hb1.mono (by simp; omega))⟩
end Go.Proofs.Ytgoenmgkhdibnaa
