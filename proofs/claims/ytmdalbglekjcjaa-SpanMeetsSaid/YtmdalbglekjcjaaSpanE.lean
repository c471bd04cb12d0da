/-
  Layer 7 (span): what two ranges have together.
-/
import Derived.Test.YtmdalbglekjcjaaSpanD
namespace Go.Proofs.Ytmdalbglekjcjaa
open Go.RowKit

/-- What Meet hands back. -/
def MeetIs (a b m : Rng) (v : Bool) : Prop := (meetR a b = some m ∧ v = true) ∨ (meetR a b = none ∧ m = zeroR ∧ v = false)
theorem meetIs (a b : Rng) : ∃ m v, MeetIs a b m v := by
  cases h : meetR a b with
  | some m => exact ⟨m, true, .inl ⟨h, rfl⟩⟩
  | none => exact ⟨zeroR, false, .inr ⟨h, rfl, rfl⟩⟩
theorem meet_fin {r t m : Rng} {L V X Y : ByteArray} {p q v v3 : Bool} (e1 : rightR r = true) (e2 : rightR t = true) (e3 : rightR (joinR r t) = v3) (hJ : IsR (joinR r t) L V p) (hm : IsR m X Y q) (hv : MeetIs r t m v) :
    (v3 = true ∧ v = true ∧ L = X ∧ V = Y ∧ p = q) ∨ (v3 = false ∧ v = false ∧ X = ⟨#[]⟩ ∧ Y = ⟨#[]⟩ ∧ q = false) := by
  rcases hv with ⟨h, rfl⟩ | ⟨h, rfl, rfl⟩
  · obtain ⟨_, _, h3, rfl⟩ := meetR_some h
    exact .inl ⟨e3.symm.trans h3, rfl, hJ.lo.symm.trans hm.lo, hJ.hi.symm.trans hm.hi, hJ.op.symm.trans hm.op⟩
  · cases v3 with
    | true => rw [meetR_of e1 e2 e3] at h; cases h
    | false => exact .inr ⟨rfl, rfl, hm.lo.symm, hm.hi.symm, hm.op.symm⟩
set_option maxHeartbeats 1000000 in
theorem span_meet (r t m : Rng) (S T U V X Y : ByteArray) (o p q v : Bool) (hr : IsR r S T o) (ht : IsR t U V p) (hm : IsR m X Y q) (hv : MeetIs r t m v) (w : World) :
    Calls Try.prog 18 #[.agg #[.string S, .string T, .bool o], .agg #[.string U, .string V, .bool p]] w fun e w' => e = .returned (.tuple #[.agg #[.string X, .string Y, .bool q], .bool v]) ∧ Below w.heap.size w w' := by
  obtain ⟨v1, e1⟩ : ∃ v1, rightR r = v1 := ⟨_, rfl⟩
  obtain ⟨v2, e2⟩ : ∃ v2, rightR t = v2 := ⟨_, rfl⟩
  have R1 := fun w => Lib.hid (span_right r S T o v1 hr e1 w)
  have R2 := fun w => Lib.hid (span_right t U V p v2 ht e2 w)
  have wrong : (v1 && v2) = false → v = false ∧ X = ⟨#[]⟩ ∧ Y = ⟨#[]⟩ ∧ q = false := fun e => by
    rcases hv with ⟨h, _⟩ | ⟨_, rfl, rfl⟩
    · rw [meetR_wrong (by rw [e1, e2]; exact e)] at h; cases h
    · exact ⟨rfl, hm.lo.symm, hm.hi.symm, hm.op.symm⟩
  cases v1
  case true =>
    cases v2
    case true =>
      clear wrong
      obtain ⟨L, hL⟩ : ∃ L, str (match ltB r.lo t.lo with | true => t.lo | false => r.lo) = L := ⟨_, rfl⟩
      have LA := fun w => Lib.hid (span_later r.lo t.lo S U L hr.lo ht.lo hL w)
      cases hE : endLt t r with
      | true =>
        have E := fun w => Lib.hid (span_ends t r U V S T p o ht hr (-1) (endsR_lt e2 e1 hE) w)
        have hJ : IsR (joinR r t) L V p := by
          refine ⟨by rw [joinR_lo]; exact hL, ?_, ?_⟩
          · unfold joinR; rw [hE]; exact ht.hi
          · unfold joinR; rw [hE]; exact ht.op
        obtain ⟨v3, e3⟩ : ∃ v3, rightR (joinR r t) = v3 := ⟨_, rfl⟩
        have R3 := fun w => Lib.hid (span_right _ L V p v3 hJ e3 w)
        have fin : (v3 = true ∧ v = true ∧ L = X ∧ V = Y ∧ p = q) ∨ (v3 = false ∧ v = false ∧ X = ⟨#[]⟩ ∧ Y = ⟨#[]⟩ ∧ q = false) := meet_fin e1 e2 e3 hJ hm hv
        clear hE e1 e2 e3 hJ hm hv hr ht hL
        go_enter Try.func18, Try.ntmps18
        go_wp2_with (first | ((with_reducible refine (R1 _).out.mono ?_); rintro e w1 ⟨rfl, hb1⟩; have HA := Lib.hid (((((rgAt_new w S T o _).keep _).keep _).below hb1)); have HB := Lib.hid (((rgAt_new1 w _ U V _ _).keep _).below hb1); have HZ := Lib.hid ((rgAt_new2 w _ _ ⟨#[]⟩ ⟨#[]⟩ false _).below hb1); obtain ⟨a0, a1, a2, a3⟩ := HA.out; obtain ⟨b0, b1, b2, b3⟩ := HB.out; obtain ⟨z0, z1, z2, z3⟩ := HZ.out; replace hb1 := ((((Below.refl w.heap.size w).alloc (Nat.le_refl _) _).alloc (by simp) _).alloc (by simp; omega) _).trans (hb1.mono (by simp; omega))) | ((with_reducible refine (R2 _).out.mono ?_); rintro e w2 ⟨rfl, hb2⟩; clear a0 a1 a2 a3 b0 b1 b2 b3 z0 z1 z2 z3; replace HA := Lib.hid (HA.out.below hb2); replace HB := Lib.hid (HB.out.below hb2); replace HZ := Lib.hid (HZ.out.below hb2); obtain ⟨a0, a1, a2, a3⟩ := HA.out; obtain ⟨b0, b1, b2, b3⟩ := HB.out; obtain ⟨z0, z1, z2, z3⟩ := HZ.out; replace hb2 := hb1.trans (hb2.mono hb1.size); clear hb1; have l0 := HA.out.lt; have l1 := HB.out.lt; have l2 := HZ.out.lt))
        refine (E _).out.mono ?_
        rintro e w3 ⟨rfl, hb3⟩
        clear a0 a1 a2 a3 b0 b1 b2 b3 z0 z1 z2 z3
        replace HA := Lib.hid ((HA.out.keep _).below hb3)
        replace HB := Lib.hid ((HB.out.keep _).below hb3)
        replace HZ := Lib.hid ((HZ.out.keep _).below hb3)
        have HM := Lib.hid ((rgAt_new w2 _ _ _ _).below hb3)
        obtain ⟨a0, a1, a2, a3⟩ := HA.out; obtain ⟨b0, b1, b2, b3⟩ := HB.out; obtain ⟨z0, z1, z2, z3⟩ := HZ.out; obtain ⟨m0, m1, m2, m3⟩ := HM.out
        have l3 := HM.out.lt
        replace hb2 := (hb2.alloc (by omega) _).trans (hb3.mono (by simp; omega))
        clear hb3
        go_wp2_with ((with_reducible refine (LA _).out.mono ?_); rintro e w' ⟨rfl, rfl⟩)
        refine (R3 _).out.mono ?_
        rintro e w4 ⟨rfl, hb4⟩
        clear a0 a1 a2 a3 b0 b1 b2 b3 z0 z1 z2 z3 m0 m1 m2 m3
        replace HZ := Lib.hid (RgAt.below ((HZ.out.other3 (by omega) _ _ _).other (by omega) _) hb4)
        replace HM := Lib.hid (RgAt.below ((HM.out.set3 U V p).set0 L) hb4)
        obtain ⟨z0, z1, z2, z3⟩ := HZ.out; obtain ⟨m0, m1, m2, m3⟩ := HM.out
        have l4 := HM.out.lt
        have l5 := HZ.out.lt
        replace hb2 := Below.trans ((below_set3 hb2 (by omega) _ _ _).setCell (p := ⟨_, 0, none⟩) (by simp only; omega) _) (hb4.mono (by simp; omega))
        clear hb4 LA R1 R2 R3 E HA HB HZ HM
        rcases fin with ⟨rfl, rfl, rfl, rfl, rfl⟩ | ⟨rfl, rfl, rfl, rfl, rfl⟩
        all_goals
          go_wp2_with fail
          exact bodyPost_ret (v := .tuple #[.agg #[.string _, .string _, .bool _], .bool _]) (by simp [results, Try.results18, go_sem, z0, z1, z2]) rfl ⟨rfl, below_set3 hb2 (by omega) _ _ _⟩
      | false =>
        obtain ⟨x, hx, hx0⟩ : ∃ x, endsR t r = x ∧ decide (x < 0) = false := by
          rcases endsR_three t r with ⟨h, _⟩ | ⟨h, _⟩ | ⟨h, _⟩
          · exact absurd h (by
              cases hE' : endLt r t with
              | true => rw [endsR_gt e2 e1 hE']; decide
              | false => rw [endsR_eq hE hE']; decide)
          · exact ⟨_, h, rfl⟩
          · exact ⟨_, h, rfl⟩
        have E := fun w => Lib.hid (span_ends t r U V S T p o ht hr x hx w)
        have hJ : IsR (joinR r t) L T o := by
          refine ⟨by rw [joinR_lo]; exact hL, ?_, ?_⟩
          · unfold joinR; rw [hE]; exact hr.hi
          · unfold joinR; rw [hE]; exact hr.op
        obtain ⟨v3, e3⟩ : ∃ v3, rightR (joinR r t) = v3 := ⟨_, rfl⟩
        have R3 := fun w => Lib.hid (span_right _ L T o v3 hJ e3 w)
        have fin : (v3 = true ∧ v = true ∧ L = X ∧ T = Y ∧ o = q) ∨ (v3 = false ∧ v = false ∧ X = ⟨#[]⟩ ∧ Y = ⟨#[]⟩ ∧ q = false) := meet_fin e1 e2 e3 hJ hm hv
        clear hE e1 e2 e3 hJ hm hv hr ht hL hx
        go_enter Try.func18, Try.ntmps18
        go_wp2_with (first | ((with_reducible refine (R1 _).out.mono ?_); rintro e w1 ⟨rfl, hb1⟩; have HA := Lib.hid (((((rgAt_new w S T o _).keep _).keep _).below hb1)); have HB := Lib.hid (((rgAt_new1 w _ U V _ _).keep _).below hb1); have HZ := Lib.hid ((rgAt_new2 w _ _ ⟨#[]⟩ ⟨#[]⟩ false _).below hb1); obtain ⟨a0, a1, a2, a3⟩ := HA.out; obtain ⟨b0, b1, b2, b3⟩ := HB.out; obtain ⟨z0, z1, z2, z3⟩ := HZ.out; replace hb1 := ((((Below.refl w.heap.size w).alloc (Nat.le_refl _) _).alloc (by simp) _).alloc (by simp; omega) _).trans (hb1.mono (by simp; omega))) | ((with_reducible refine (R2 _).out.mono ?_); rintro e w2 ⟨rfl, hb2⟩; clear a0 a1 a2 a3 b0 b1 b2 b3 z0 z1 z2 z3; replace HA := Lib.hid (HA.out.below hb2); replace HB := Lib.hid (HB.out.below hb2); replace HZ := Lib.hid (HZ.out.below hb2); obtain ⟨a0, a1, a2, a3⟩ := HA.out; obtain ⟨b0, b1, b2, b3⟩ := HB.out; obtain ⟨z0, z1, z2, z3⟩ := HZ.out; replace hb2 := hb1.trans (hb2.mono hb1.size); clear hb1; have l0 := HA.out.lt; have l1 := HB.out.lt; have l2 := HZ.out.lt))
        refine (E _).out.mono ?_
        rintro e w3 ⟨rfl, hb3⟩
        clear a0 a1 a2 a3 b0 b1 b2 b3 z0 z1 z2 z3
        replace HA := Lib.hid ((HA.out.keep _).below hb3)
        replace HB := Lib.hid ((HB.out.keep _).below hb3)
        replace HZ := Lib.hid ((HZ.out.keep _).below hb3)
        have HM := Lib.hid ((rgAt_new w2 _ _ _ _).below hb3)
        obtain ⟨a0, a1, a2, a3⟩ := HA.out; obtain ⟨b0, b1, b2, b3⟩ := HB.out; obtain ⟨z0, z1, z2, z3⟩ := HZ.out; obtain ⟨m0, m1, m2, m3⟩ := HM.out
        have l3 := HM.out.lt
        replace hb2 := (hb2.alloc (by omega) _).trans (hb3.mono (by simp; omega))
        clear hb3
        go_wp2_with ((with_reducible refine (LA _).out.mono ?_); rintro e w' ⟨rfl, rfl⟩)
        refine (R3 _).out.mono ?_
        rintro e w4 ⟨rfl, hb4⟩
        clear a0 a1 a2 a3 b0 b1 b2 b3 z0 z1 z2 z3 m0 m1 m2 m3
        replace HZ := Lib.hid (RgAt.below (HZ.out.other (by omega) _) hb4)
        replace HM := Lib.hid (RgAt.below (HM.out.set0 L) hb4)
        obtain ⟨z0, z1, z2, z3⟩ := HZ.out; obtain ⟨m0, m1, m2, m3⟩ := HM.out
        have l4 := HM.out.lt
        have l5 := HZ.out.lt
        replace hb2 := Below.trans (hb2.setCell (p := ⟨_, 0, none⟩) (by simp only; omega) _) (hb4.mono (by simp; omega))
        clear hb4 LA R1 R2 R3 E HA HB HZ HM
        rcases fin with ⟨rfl, rfl, rfl, rfl, rfl⟩ | ⟨rfl, rfl, rfl, rfl, rfl⟩
        all_goals
          go_wp2_with fail
          exact bodyPost_ret (v := .tuple #[.agg #[.string _, .string _, .bool _], .bool _]) (by simp [results, Try.results18, go_sem, z0, z1, z2]) rfl ⟨rfl, below_set3 hb2 (by omega) _ _ _⟩
    case false =>
      obtain ⟨rfl, rfl, rfl, rfl⟩ := wrong rfl
      clear hv e1 e2 hr ht hm
      go_enter Try.func18, Try.ntmps18
      go_wp2_with (first | ((with_reducible refine (R1 _).out.mono ?_); rintro e w1 ⟨rfl, hb1⟩; have HA := Lib.hid (((((rgAt_new w S T o _).keep _).keep _).below hb1)); have HB := Lib.hid (((rgAt_new1 w _ U V _ _).keep _).below hb1); have HZ := Lib.hid ((rgAt_new2 w _ _ ⟨#[]⟩ ⟨#[]⟩ false _).below hb1); obtain ⟨a0, a1, a2, a3⟩ := HA.out; obtain ⟨b0, b1, b2, b3⟩ := HB.out; obtain ⟨z0, z1, z2, z3⟩ := HZ.out; replace hb1 := ((((Below.refl w.heap.size w).alloc (Nat.le_refl _) _).alloc (by simp) _).alloc (by simp; omega) _).trans (hb1.mono (by simp; omega))) | ((with_reducible refine (R2 _).out.mono ?_); rintro e w2 ⟨rfl, hb2⟩; clear a0 a1 a2 a3 b0 b1 b2 b3 z0 z1 z2 z3; replace HA := Lib.hid (HA.out.below hb2); replace HB := Lib.hid (HB.out.below hb2); replace HZ := Lib.hid (HZ.out.below hb2); obtain ⟨a0, a1, a2, a3⟩ := HA.out; obtain ⟨b0, b1, b2, b3⟩ := HB.out; obtain ⟨z0, z1, z2, z3⟩ := HZ.out; replace hb2 := hb1.trans (hb2.mono hb1.size); clear hb1; have l0 := HA.out.lt; have l1 := HB.out.lt; have l2 := HZ.out.lt))
      exact bodyPost_ret (v := .tuple #[.agg #[.string ⟨#[]⟩, .string ⟨#[]⟩, .bool false], .bool false]) (by simp [results, Try.results18, go_sem, z0, z1, z2]) rfl ⟨rfl, below_set3 hb2 (by omega) _ _ _⟩
  case false =>
    obtain ⟨rfl, rfl, rfl, rfl⟩ := wrong rfl
    clear hv e1 e2 hr ht hm R2
    go_enter Try.func18, Try.ntmps18
    go_wp2_with ((with_reducible refine (R1 _).out.mono ?_); rintro e w1 ⟨rfl, hb1⟩; have HA := Lib.hid (((((rgAt_new w S T o _).keep _).keep _).below hb1)); have HB := Lib.hid (((rgAt_new1 w _ U V _ _).keep _).below hb1); have HZ := Lib.hid ((rgAt_new2 w _ _ ⟨#[]⟩ ⟨#[]⟩ false _).below hb1); obtain ⟨a0, a1, a2, a3⟩ := HA.out; obtain ⟨b0, b1, b2, b3⟩ := HB.out; obtain ⟨z0, z1, z2, z3⟩ := HZ.out; replace hb1 := ((((Below.refl w.heap.size w).alloc (Nat.le_refl _) _).alloc (by simp) _).alloc (by simp; omega) _).trans (hb1.mono (by simp; omega)))
    exact bodyPost_ret (v := .tuple #[.agg #[.string ⟨#[]⟩, .string ⟨#[]⟩, .bool false], .bool false]) (by simp [results, Try.results18, go_sem, z0, z1, z2]) rfl ⟨rfl, below_set3 hb1 (by omega) _ _ _⟩
end Go.Proofs.Ytmdalbglekjcjaa
