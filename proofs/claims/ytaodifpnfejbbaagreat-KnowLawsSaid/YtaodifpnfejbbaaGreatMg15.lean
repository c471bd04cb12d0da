/-
  Several texts in one: SpanE, KnwW, Law15H, OpenAdds.
-/
import Derived.Deep.RegionHeld3
import Derived.Deep.RegionLaw
import Derived.Lib.SmallJoins
import Derived.Test.YtaodifpnfejbbaaGreatMg14
/-
  Layer 7 (span): what two ranges have together.
-/
namespace Go.Proofs.YtaodifpnfejbbaaGreat
open Go.RowKit

/-- What Meet hands back. -/
def MeetIs (a b m : Rng) (v : Bool) : Prop := (meetR a b = some m ∧ v = true) ∨ (meetR a b = none ∧ m = zeroR ∧ v = false)
theorem meetIs (a b : Rng) : ∃ m v, MeetIs a b m v := by
  cases h : meetR a b with
  | some m => exact ⟨m, true, .inl ⟨h, rfl⟩⟩
  | none => exact ⟨zeroR, false, .inr ⟨h, rfl, rfl⟩⟩
theorem meet_fin {r t m : Rng} {L V X Y : ByteArray} {p q v v3 : Bool} (e1 : rightR r = true) (e2 : rightR t = true) (e3 : rightR (joinR r t) = v3) (hJ : IsR (joinR r t) L V p) (hm : IsR m X Y q) (hv : MeetIs r t m v) :
    (v3 = true ∧ v = true ∧ L = X ∧ V = Y ∧ p = q) ∨ (v3 = false ∧ v = false ∧ X = ⟨#[]⟩ ∧ Y = ⟨#[]⟩ ∧ q = false) := by
  rcases hv with ⟨h, rfl⟩ | ⟨h, rfl, rfl⟩
  · obtain ⟨_, _, h3, rfl⟩ := meetR_some h
    exact .inl ⟨e3.symm.trans h3, rfl, hJ.lo.symm.trans hm.lo, hJ.hi.symm.trans hm.hi, hJ.op.symm.trans hm.op⟩
  · cases v3 with
    | true => rw [meetR_of e1 e2 e3] at h; cases h
    | false => exact .inr ⟨rfl, rfl, hm.lo.symm, hm.hi.symm, hm.op.symm⟩
set_option maxHeartbeats 1000000 in
theorem span_meet (r t m : Rng) (S T U V X Y : ByteArray) (o p q v : Bool) (hr : IsR r S T o) (ht : IsR t U V p) (hm : IsR m X Y q) (hv : MeetIs r t m v) (w : World) :
    Calls Tryz.prog 63 #[.agg #[.string S, .string T, .bool o], .agg #[.string U, .string V, .bool p]] w fun e w' => e = .returned (.tuple #[.agg #[.string X, .string Y, .bool q], .bool v]) ∧ Below w.heap.size w w' := by
  obtain ⟨v1, e1⟩ : ∃ v1, rightR r = v1 := ⟨_, rfl⟩
  obtain ⟨v2, e2⟩ : ∃ v2, rightR t = v2 := ⟨_, rfl⟩
  have R1 := fun w => Lib.hid (span_right r S T o v1 hr e1 w)
  have R2 := fun w => Lib.hid (span_right t U V p v2 ht e2 w)
  have wrong : (v1 && v2) = false → v = false ∧ X = ⟨#[]⟩ ∧ Y = ⟨#[]⟩ ∧ q = false := fun e => by
    rcases hv with ⟨h, _⟩ | ⟨_, rfl, rfl⟩
    · rw [meetR_wrong (by rw [e1, e2]; exact e)] at h; cases h
    · exact ⟨rfl, hm.lo.symm, hm.hi.symm, hm.op.symm⟩
  cases v1
  case true =>
    cases v2
    case true =>
      clear wrong
      obtain ⟨L, hL⟩ : ∃ L, str (match ltB r.lo t.lo with | true => t.lo | false => r.lo) = L := ⟨_, rfl⟩
      have LA := fun w => Lib.hid (span_later r.lo t.lo S U L hr.lo ht.lo hL w)
      cases hE : endLt t r with
      | true =>
        have E := fun w => Lib.hid (span_ends t r U V S T p o ht hr (-1) (endsR_lt e2 e1 hE) w)
        have hJ : IsR (joinR r t) L V p := by
          refine ⟨by rw [joinR_lo]; exact hL, ?_, ?_⟩
          · unfold joinR; rw [hE]; exact ht.hi
          · unfold joinR; rw [hE]; exact ht.op
        obtain ⟨v3, e3⟩ : ∃ v3, rightR (joinR r t) = v3 := ⟨_, rfl⟩
        have R3 := fun w => Lib.hid (span_right _ L V p v3 hJ e3 w)
        have fin : (v3 = true ∧ v = true ∧ L = X ∧ V = Y ∧ p = q) ∨ (v3 = false ∧ v = false ∧ X = ⟨#[]⟩ ∧ Y = ⟨#[]⟩ ∧ q = false) := meet_fin e1 e2 e3 hJ hm hv
        clear hE e1 e2 e3 hJ hm hv hr ht hL
        go_enter Tryz.func63, Tryz.ntmps63
        go_wp2_with (first | ((with_reducible refine (R1 _).out.mono ?_); rintro e w1 ⟨rfl, hb1⟩; have HA := Lib.hid (((((rgAt_new w S T o _).keep _).keep _).below hb1)); have HB := Lib.hid (((rgAt_new1 w _ U V _ _).keep _).below hb1); have HZ := Lib.hid ((rgAt_new2 w _ _ ⟨#[]⟩ ⟨#[]⟩ false _).below hb1); obtain ⟨a0, a1, a2, a3⟩ := HA.out; obtain ⟨b0, b1, b2, b3⟩ := HB.out; obtain ⟨z0, z1, z2, z3⟩ := HZ.out; replace hb1 := ((((Below.refl w.heap.size w).alloc (Nat.le_refl _) _).alloc (by simp) _).alloc (by simp; omega) _).trans (hb1.mono (by simp; omega))) | ((with_reducible refine (R2 _).out.mono ?_); rintro e w2 ⟨rfl, hb2⟩; clear a0 a1 a2 a3 b0 b1 b2 b3 z0 z1 z2 z3; replace HA := Lib.hid (HA.out.below hb2); replace HB := Lib.hid (HB.out.below hb2); replace HZ := Lib.hid (HZ.out.below hb2); obtain ⟨a0, a1, a2, a3⟩ := HA.out; obtain ⟨b0, b1, b2, b3⟩ := HB.out; obtain ⟨z0, z1, z2, z3⟩ := HZ.out; replace hb2 := hb1.trans (hb2.mono hb1.size); clear hb1; have l0 := HA.out.lt; have l1 := HB.out.lt; have l2 := HZ.out.lt))
        refine (E _).out.mono ?_
        rintro e w3 ⟨rfl, hb3⟩
        clear a0 a1 a2 a3 b0 b1 b2 b3 z0 z1 z2 z3
        replace HA := Lib.hid ((HA.out.keep _).below hb3)
        replace HB := Lib.hid ((HB.out.keep _).below hb3)
        replace HZ := Lib.hid ((HZ.out.keep _).below hb3)
        have HM := Lib.hid ((rgAt_new w2 _ _ _ _).below hb3)
        obtain ⟨a0, a1, a2, a3⟩ := HA.out; obtain ⟨b0, b1, b2, b3⟩ := HB.out; obtain ⟨z0, z1, z2, z3⟩ := HZ.out; obtain ⟨m0, m1, m2, m3⟩ := HM.out
        have l3 := HM.out.lt
        replace hb2 := (hb2.alloc (by omega) _).trans (hb3.mono (by simp; omega))
        clear hb3
        go_wp2_with ((with_reducible refine (LA _).out.mono ?_); rintro e w' ⟨rfl, rfl⟩)
        refine (R3 _).out.mono ?_
        rintro e w4 ⟨rfl, hb4⟩
        clear a0 a1 a2 a3 b0 b1 b2 b3 z0 z1 z2 z3 m0 m1 m2 m3
        replace HZ := Lib.hid (RgAt.below ((HZ.out.other3 (by omega) _ _ _).other (by omega) _) hb4)
        replace HM := Lib.hid (RgAt.below ((HM.out.set3 U V p).set0 L) hb4)
        obtain ⟨z0, z1, z2, z3⟩ := HZ.out; obtain ⟨m0, m1, m2, m3⟩ := HM.out
        have l4 := HM.out.lt
        have l5 := HZ.out.lt
        replace hb2 := Below.trans ((below_set3 hb2 (by omega) _ _ _).setCell (p := ⟨_, 0, none⟩) (by simp only; omega) _) (hb4.mono (by simp; omega))
        clear hb4 LA R1 R2 R3 E HA HB HZ HM
        rcases fin with ⟨rfl, rfl, rfl, rfl, rfl⟩ | ⟨rfl, rfl, rfl, rfl, rfl⟩
        all_goals
          go_wp2_with fail
          exact bodyPost_ret (v := .tuple #[.agg #[.string _, .string _, .bool _], .bool _]) (by simp [results, Tryz.results63, go_sem, z0, z1, z2]) rfl ⟨rfl, below_set3 hb2 (by omega) _ _ _⟩
      | false =>
        obtain ⟨x, hx, hx0⟩ : ∃ x, endsR t r = x ∧ decide (x < 0) = false := by
          rcases endsR_three t r with ⟨h, _⟩ | ⟨h, _⟩ | ⟨h, _⟩
          · exact absurd h (by
              cases hE' : endLt r t with
              | true => rw [endsR_gt e2 e1 hE']; decide
              | false => rw [endsR_eq hE hE']; decide)
          · exact ⟨_, h, rfl⟩
          · exact ⟨_, h, rfl⟩
        have E := fun w => Lib.hid (span_ends t r U V S T p o ht hr x hx w)
        have hJ : IsR (joinR r t) L T o := by
          refine ⟨by rw [joinR_lo]; exact hL, ?_, ?_⟩
          · unfold joinR; rw [hE]; exact hr.hi
          · unfold joinR; rw [hE]; exact hr.op
        obtain ⟨v3, e3⟩ : ∃ v3, rightR (joinR r t) = v3 := ⟨_, rfl⟩
        have R3 := fun w => Lib.hid (span_right _ L T o v3 hJ e3 w)
        have fin : (v3 = true ∧ v = true ∧ L = X ∧ T = Y ∧ o = q) ∨ (v3 = false ∧ v = false ∧ X = ⟨#[]⟩ ∧ Y = ⟨#[]⟩ ∧ q = false) := meet_fin e1 e2 e3 hJ hm hv
        clear hE e1 e2 e3 hJ hm hv hr ht hL hx
        go_enter Tryz.func63, Tryz.ntmps63
        go_wp2_with (first | ((with_reducible refine (R1 _).out.mono ?_); rintro e w1 ⟨rfl, hb1⟩; have HA := Lib.hid (((((rgAt_new w S T o _).keep _).keep _).below hb1)); have HB := Lib.hid (((rgAt_new1 w _ U V _ _).keep _).below hb1); have HZ := Lib.hid ((rgAt_new2 w _ _ ⟨#[]⟩ ⟨#[]⟩ false _).below hb1); obtain ⟨a0, a1, a2, a3⟩ := HA.out; obtain ⟨b0, b1, b2, b3⟩ := HB.out; obtain ⟨z0, z1, z2, z3⟩ := HZ.out; replace hb1 := ((((Below.refl w.heap.size w).alloc (Nat.le_refl _) _).alloc (by simp) _).alloc (by simp; omega) _).trans (hb1.mono (by simp; omega))) | ((with_reducible refine (R2 _).out.mono ?_); rintro e w2 ⟨rfl, hb2⟩; clear a0 a1 a2 a3 b0 b1 b2 b3 z0 z1 z2 z3; replace HA := Lib.hid (HA.out.below hb2); replace HB := Lib.hid (HB.out.below hb2); replace HZ := Lib.hid (HZ.out.below hb2); obtain ⟨a0, a1, a2, a3⟩ := HA.out; obtain ⟨b0, b1, b2, b3⟩ := HB.out; obtain ⟨z0, z1, z2, z3⟩ := HZ.out; replace hb2 := hb1.trans (hb2.mono hb1.size); clear hb1; have l0 := HA.out.lt; have l1 := HB.out.lt; have l2 := HZ.out.lt))
        refine (E _).out.mono ?_
        rintro e w3 ⟨rfl, hb3⟩
        clear a0 a1 a2 a3 b0 b1 b2 b3 z0 z1 z2 z3
        replace HA := Lib.hid ((HA.out.keep _).below hb3)
        replace HB := Lib.hid ((HB.out.keep _).below hb3)
        replace HZ := Lib.hid ((HZ.out.keep _).below hb3)
        have HM := Lib.hid ((rgAt_new w2 _ _ _ _).below hb3)
        obtain ⟨a0, a1, a2, a3⟩ := HA.out; obtain ⟨b0, b1, b2, b3⟩ := HB.out; obtain ⟨z0, z1, z2, z3⟩ := HZ.out; obtain ⟨m0, m1, m2, m3⟩ := HM.out
        have l3 := HM.out.lt
        replace hb2 := (hb2.alloc (by omega) _).trans (hb3.mono (by simp; omega))
        clear hb3
        go_wp2_with ((with_reducible refine (LA _).out.mono ?_); rintro e w' ⟨rfl, rfl⟩)
        refine (R3 _).out.mono ?_
        rintro e w4 ⟨rfl, hb4⟩
        clear a0 a1 a2 a3 b0 b1 b2 b3 z0 z1 z2 z3 m0 m1 m2 m3
        replace HZ := Lib.hid (RgAt.below (HZ.out.other (by omega) _) hb4)
        replace HM := Lib.hid (RgAt.below (HM.out.set0 L) hb4)
        obtain ⟨z0, z1, z2, z3⟩ := HZ.out; obtain ⟨m0, m1, m2, m3⟩ := HM.out
        have l4 := HM.out.lt
        have l5 := HZ.out.lt
        replace hb2 := Below.trans (hb2.setCell (p := ⟨_, 0, none⟩) (by simp only; omega) _) (hb4.mono (by simp; omega))
        clear hb4 LA R1 R2 R3 E HA HB HZ HM
        rcases fin with ⟨rfl, rfl, rfl, rfl, rfl⟩ | ⟨rfl, rfl, rfl, rfl, rfl⟩
        all_goals
          go_wp2_with fail
          exact bodyPost_ret (v := .tuple #[.agg #[.string _, .string _, .bool _], .bool _]) (by simp [results, Tryz.results63, go_sem, z0, z1, z2]) rfl ⟨rfl, below_set3 hb2 (by omega) _ _ _⟩
    case false =>
      obtain ⟨rfl, rfl, rfl, rfl⟩ := wrong rfl
      clear hv e1 e2 hr ht hm
      go_enter Tryz.func63, Tryz.ntmps63
      go_wp2_with (first | ((with_reducible refine (R1 _).out.mono ?_); rintro e w1 ⟨rfl, hb1⟩; have HA := Lib.hid (((((rgAt_new w S T o _).keep _).keep _).below hb1)); have HB := Lib.hid (((rgAt_new1 w _ U V _ _).keep _).below hb1); have HZ := Lib.hid ((rgAt_new2 w _ _ ⟨#[]⟩ ⟨#[]⟩ false _).below hb1); obtain ⟨a0, a1, a2, a3⟩ := HA.out; obtain ⟨b0, b1, b2, b3⟩ := HB.out; obtain ⟨z0, z1, z2, z3⟩ := HZ.out; replace hb1 := ((((Below.refl w.heap.size w).alloc (Nat.le_refl _) _).alloc (by simp) _).alloc (by simp; omega) _).trans (hb1.mono (by simp; omega))) | ((with_reducible refine (R2 _).out.mono ?_); rintro e w2 ⟨rfl, hb2⟩; clear a0 a1 a2 a3 b0 b1 b2 b3 z0 z1 z2 z3; replace HA := Lib.hid (HA.out.below hb2); replace HB := Lib.hid (HB.out.below hb2); replace HZ := Lib.hid (HZ.out.below hb2); obtain ⟨a0, a1, a2, a3⟩ := HA.out; obtain ⟨b0, b1, b2, b3⟩ := HB.out; obtain ⟨z0, z1, z2, z3⟩ := HZ.out; replace hb2 := hb1.trans (hb2.mono hb1.size); clear hb1; have l0 := HA.out.lt; have l1 := HB.out.lt; have l2 := HZ.out.lt))
      exact bodyPost_ret (v := .tuple #[.agg #[.string ⟨#[]⟩, .string ⟨#[]⟩, .bool false], .bool false]) (by simp [results, Tryz.results63, go_sem, z0, z1, z2]) rfl ⟨rfl, below_set3 hb2 (by omega) _ _ _⟩
  case false =>
    obtain ⟨rfl, rfl, rfl, rfl⟩ := wrong rfl
    clear hv e1 e2 hr ht hm R2
    go_enter Tryz.func63, Tryz.ntmps63
    go_wp2_with ((with_reducible refine (R1 _).out.mono ?_); rintro e w1 ⟨rfl, hb1⟩; have HA := Lib.hid (((((rgAt_new w S T o _).keep _).keep _).below hb1)); have HB := Lib.hid (((rgAt_new1 w _ U V _ _).keep _).below hb1); have HZ := Lib.hid ((rgAt_new2 w _ _ ⟨#[]⟩ ⟨#[]⟩ false _).below hb1); obtain ⟨a0, a1, a2, a3⟩ := HA.out; obtain ⟨b0, b1, b2, b3⟩ := HB.out; obtain ⟨z0, z1, z2, z3⟩ := HZ.out; replace hb1 := ((((Below.refl w.heap.size w).alloc (Nat.le_refl _) _).alloc (by simp) _).alloc (by simp; omega) _).trans (hb1.mono (by simp; omega)))
    exact bodyPost_ret (v := .tuple #[.agg #[.string ⟨#[]⟩, .string ⟨#[]⟩, .bool false], .bool false]) (by simp [results, Tryz.results63, go_sem, z0, z1, z2]) rfl ⟨rfl, below_set3 hb1 (by omega) _ _ _⟩
end Go.Proofs.YtaodifpnfejbbaaGreat

/-
  Layer 15 (know), the program: what knowledge has of the texts of a list.
-/
namespace Go.Proofs.YtaodifpnfejbbaaGreat
open Go.RowKit

theorem rg_sizeOf : ∀ w, (sizeOf kRng.el).run Tryz.prog w = .ok kRng.size w := fun w => by kernel_rfl
theorem meetD_some {dn : List Pc} {p : Pc} {r m : Rng} (h : meetR p.rng r = some m) : meetD dn p r = putP dn m p.set := by unfold meetD; rw [h]
theorem meetD_none {dn : List Pc} {p : Pc} {r : Rng} (h : meetR p.rng r = none) : meetD dn p r = dn := by unfold meetD; rw [h]
set_option maxRecDepth 100000 in
set_option maxHeartbeats 16000000 in
theorem kw_restrict (A D : Option Addr) (c e n q : Nat) (a : List Pc) (l : List Rng) (hn : n = a.length) (hq : q = l.length) (hc : CapN 8000 20000 a) (hql : q ≤ 1000) (U : List Pc) (hU : restP a l = U) (N : Nat) (hN : N = U.length) (w : World) (ha : RdPc w A c a) (hl : kRng.Rd w w.heap.size D e l) :
    Calls Tryz.prog 29 #[.slice A n c, .slice D q e] w (RetP w N U) := by
  have hcU : CapN 18003 20000 U := hU ▸ (hc.rest (l := l) (q := 1000) (by omega)).mono (by omega) (by omega)
  obtain ⟨K, hK⟩ : ∃ K, ofP a = K := ⟨_, rfl⟩
  obtain ⟨NK, hNK⟩ : ∃ N, N = K.length := ⟨_, rfl⟩
  obtain ⟨L, hL⟩ : ∃ L, normV l = L := ⟨_, rfl⟩
  obtain ⟨Q, hQ⟩ : ∃ Q, L.length = Q := ⟨_, rfl⟩
  have hQl : Q ≤ 2002 := by have h := makeV_len1 l; rw [hL, hQ] at h; omega
  have hKl : NK ≤ 16001 := by have h := ofP_len a; have h2 := hc.len; rw [hK] at h; omega
  have C1 := Lib.hid (kw_tidy (fun _ => True) A c n a hn hc K hK NK hNK w ha)
  have C2 := fun w h => Lib.hid ((rgs_of D e q l hq hql w h).mono fun (e' : Ending) (w' : World) (h : RetR w (normV l) e' w') => show ∃ A c, e' = .returned (.slice A Q c) ∧ kRng.Rd w' w'.heap.size A c L ∧ Below w.heap.size w w' from by rw [hL] at h; obtain ⟨A, c, h1, h2, h3⟩ := h; exact ⟨A, c, by rw [h1, hQ], h2, h3⟩)
  have C3 := fun A c w h => Lib.hid (own_is A c N U hN hcU (by omega) (by omega) w h)
  have HU := Lib.hid (show rstP (NK + Q) [] K L = U by rw [← hK, ← hL, ← hU]; exact rstP_all (by rw [hK, hL, hQ, hNK]; exact Nat.le_refl _))
  have HL := Lib.hid hl
  have HNN := Lib.hid hN
  have HQ := Lib.hid hQ
  have HNK := Lib.hid hNK
  have HRL := Lib.hid (show rightP K = true ∧ rightL L = true from ⟨hK ▸ ofP_right a, hL ▸ makeV_right ..⟩)
  clear hn hq hql hc hU hN ha hl hK hNK hL hQ hcU
  go_enter Tryz.func29, Tryz.ntmps29
  go_upto_region 2 with (first
    | ((with_reducible refine C1.out.mono ?_); rintro e w1 ⟨A1, c1, rfl, hrd, hq⟩; have HK := Lib.hid (Deep.Rd.all hrd); replace HL := Lib.hid (HL.out.call hq); have HW := Lib.hid hq; clear hrd hq)
    | ((with_reducible refine (C2 _ HL.out).out.mono ?_); rintro e w2 ⟨D2, e2, rfl, hrd, hq⟩; have HR := Lib.hid hrd; replace HK := Lib.hid ((Deep.Rd.lives (Deep.Rd.call HK.out hq)).mono (T := fun g => g < w2.heap.size) fun g h => h.2); replace HW := Lib.hid (HW.out.trans (hq.mono HW.out.size)); clear hrd hq))
  clear C1 C2 HL
  go_wp2_with fail
  go_loopg [0, 1, 5] (NK + Q) (fun gg vk vl vo wr => ∃ (kk : List Pc) (ll : List Rng) (dn : List Pc) (A7 A8 : Option Addr) (n7 c7 n8 c8 : Nat), vk = .slice A7 n7 c7 ∧ vl = .slice A8 n8 c8 ∧ Hid (n7 = kk.length ∧ dPc.Rd wr (fun g => g < w2.heap.size) A7 c7 kk) ∧ Hid (n8 = ll.length ∧ kRng.Rd wr w2.heap.size A8 c8 ll) ∧ Hid (rightP kk = true ∧ rightL ll = true) ∧ Hid (dPc.Own wr w2.heap.size (fun _ => True) vo dn) ∧ Hid (rstP (n7 + n8) dn kk ll = U) ∧ dn.length + (n7 + n8) ≤ NK + Q ∧ Hid (Below w2.heap.size w2 wr) ∧ n7 + n8 ≤ gg)
  case atStart => exact ⟨K, L, [], A1, D2, NK, c1, Q, e2, rfl, rfl, ⟨HNK.out, HK.out⟩, ⟨HQ.out.symm, HR.out⟩, HRL.out, Deep.Own.nil _ _ _, HU.out, by simp, Below.refl _ _, Nat.le_refl _⟩
  case round =>
    clear HK HR HU HQ HNK HRL
    obtain ⟨kk, ll, dn, A7, A8, n7, c7, n8, c8, rfl, rfl, H7, H8, HRL, HO, HS, hdn, HW2, hgg⟩ := hrel
    have hc7 : n7 ≤ c7 := by rw [H7.out.1]; exact H7.out.2.room
    have hc8 : n8 ≤ c8 := by rw [H8.out.1]; exact H8.out.2.room
    by_cases hstop : n7 = 0 ∨ n8 = 0
    · have HE := Lib.hid (show dn = U from by
        have h := HS.out
        rcases hstop with h0 | h0
        · rw [show kk = [] from List.eq_nil_of_length_eq_zero (by rw [← H7.out.1, h0]), rstP_end1] at h; exact h
        · rw [show ll = [] from List.eq_nil_of_length_eq_zero (by rw [← H8.out.1, h0]), rstP_end2] at h; exact h)
      have ho := HO.out
      rw [HE.out] at ho
      obtain ⟨A9, c9, rfl, hrd⟩ := ho.rd HNN.out (fun _ _ => trivial)
      have C4 := C3 A9 c9 wr hrd
      clear ho hrd HO HS HE H7 H8 C3
      by_cases h70 : n7 = 0
      · have t1 : decide ((n7 : Int) > 0) = false := decide_eq_false (by omega)
        have t2 : decide ((0 : Int) < (n7 : Int)) = false := t1
        have t3 : decide (0 < n7) = false := decide_eq_false (by omega)
        go_wp2_with ((with_reducible refine C4.out.mono ?_); rintro e w4 ⟨A4, c4, rfl, hrd, hq⟩; have H4 := Lib.hid hrd; have HQ4 := Lib.hid (HW2.out.trans (hq.mono HW2.out.size)); clear hrd hq)
        go_ret
        exact ⟨A4, c4, rfl, H4.out, HW.out.trans (HQ4.out.mono HW.out.size)⟩
      · obtain rfl : n8 = 0 := by rcases hstop with h | h; exact absurd h h70; exact h
        have t1 : decide ((n7 : Int) > 0) = true := decide_eq_true (by omega)
        have t2 : decide ((0 : Int) < (n7 : Int)) = true := t1
        have t3 : decide (0 < n7) = true := decide_eq_true (by omega)
        clear hstop
        go_wp2_with ((with_reducible refine C4.out.mono ?_); rintro e w4 ⟨A4, c4, rfl, hrd, hq⟩; have H4 := Lib.hid hrd; have HQ4 := Lib.hid (HW2.out.trans (hq.mono HW2.out.size)); clear hrd hq)
        go_ret
        exact ⟨A4, c4, rfl, H4.out, HW.out.trans (HQ4.out.mono HW.out.size)⟩
    · have h70 : 0 < n7 := by omega
      have h80 : 0 < n8 := by omega
      clear hstop
      obtain ⟨p, k9, rfl⟩ : ∃ p k9, kk = p :: k9 := by
        cases kk with
        | nil => have := H7.out.1; simp at this; omega
        | cons p k9 => exact ⟨p, k9, rfl⟩
      obtain ⟨r, l9, rfl⟩ : ∃ r l9, ll = r :: l9 := by
        cases ll with
        | nil => have := H8.out.1; simp at this; omega
        | cons r l9 => exact ⟨r, l9, rfl⟩
      have t1 : decide ((n7 : Int) > 0) = true := decide_eq_true (by omega)
      have t2 : decide ((0 : Int) < (n7 : Int)) = true := t1
      have t3 : decide (0 < n7) = true := decide_eq_true h70
      have t4 : decide ((n8 : Int) > 0) = true := decide_eq_true (by omega)
      have t5 : decide ((0 : Int) < (n8 : Int)) = true := t4
      have t6 : decide (0 < n8) = true := decide_eq_true h80
      obtain ⟨n3, hn3⟩ : ∃ x, n7 - 1 = x := ⟨_, rfl⟩
      obtain ⟨n4, hn4⟩ : ∃ x, n8 - 1 = x := ⟨_, rfl⟩
      have hk9 : n3 = k9.length := by have := H7.out.1; rw [List.length_cons] at this; omega
      have hl9 : n4 = l9.length := by have := H8.out.1; rw [List.length_cons] at this; omega
      obtain ⟨b, o, rfl, hb1, hcell⟩ := pieces_of H7.out.2 (by simp)
      obtain ⟨A', n', c', hn', hrdS, p0, p1, p2, p3⟩ := hcell 0 p rfl
      have hbS : b < w2.heap.size := by
        obtain ⟨b', o', hA, hS, -⟩ := Deep.Rd.at_ H7.out.2 (by simp)
        injection hA with hA
        injection hA with hA
        rw [hA]; exact hS
      rw [Nat.zero_mul, Nat.add_zero] at p0 p1 p2 p3
      obtain ⟨b2, o2, rfl, hb2, hcell2⟩ := rngs_at H8.out.2 (by simp)
      obtain ⟨q0, q1, q2⟩ := hcell2 0 r rfl
      rw [Nat.zero_mul, Nat.add_zero] at q0 q1 q2
      obtain ⟨S1, hS1⟩ : ∃ S, str p.rng.lo = S := ⟨_, rfl⟩
      obtain ⟨S2, hS2⟩ : ∃ S, str p.rng.hi = S := ⟨_, rfl⟩
      obtain ⟨z1, hz1⟩ : ∃ q, p.rng.op = q := ⟨_, rfl⟩
      obtain ⟨T1, hT1⟩ : ∃ S, str r.lo = S := ⟨_, rfl⟩
      obtain ⟨T2, hT2⟩ : ∃ S, str r.hi = S := ⟨_, rfl⟩
      obtain ⟨z2, hz2⟩ : ∃ q, r.op = q := ⟨_, rfl⟩
      rw [hS1] at p0
      rw [hS2] at p1
      rw [hz1] at p2
      rw [hT1] at q0
      rw [hT2] at q1
      rw [hz2] at q2
      have hI1 : IsR p.rng S1 S2 z1 := ⟨hS1, hS2, hz1⟩
      have hI2 : IsR r T1 T2 z2 := ⟨hT1, hT2, hz2⟩
      obtain ⟨n9, hn9⟩ : ∃ N, N = dn.length := ⟨_, rfl⟩
      obtain ⟨A9, c9, rfl, -⟩ := HO.out.rd hn9 (fun _ _ => trivial)
      have hb1w : b < w2.heap.size ∨ True := .inr trivial
      obtain ⟨y, hy⟩ : ∃ y, decide (endsR p.rng r < 0) = y := ⟨_, rfl⟩
      obtain ⟨zz, hzz⟩ : ∃ z, endsR p.rng r = z := ⟨_, rfl⟩
      have CE := Lib.hid (fun (a : World) (L : List (Addr × Value)) => cellL_of (a := a) (l := L) (fun w => span_ends p.rng r S1 S2 T1 T2 z1 z2 hI1 hI2 zz hzz w))
      rw [hzz] at hy
      obtain ⟨A5, hA5⟩ : ∃ A5, cutK (some ⟨b, o, none⟩) 1 4 c7 = A5 := ⟨_, rfl⟩
      obtain ⟨c5, hc5⟩ : ∃ c5, c7 - 1 = c5 := ⟨_, rfl⟩
      obtain ⟨A6, hA6⟩ : ∃ A6, cutK (some ⟨b2, o2, none⟩) 1 3 c8 = A6 := ⟨_, rfl⟩
      obtain ⟨c6, hc6⟩ : ∃ c6, c8 - 1 = c6 := ⟨_, rfl⟩
      have K7 : ∀ W : World, (Instr.slice 22 (.slice (some ⟨b, o, none⟩) n7 c7) (some (.int .i64 1)) none none).run Tryz.prog W = .ok (.slice A5 n3 c5) W := fun W => by rw [← hA5, ← hc5, ← hn3]; exact kPs.run_cutK pc_sizeOf W (some ⟨b, o, none⟩) n7 c7 1 (by omega)
      have K8 : ∀ W : World, (Instr.slice 36 (.slice (some ⟨b2, o2, none⟩) n8 c8) (some (.int .i64 1)) none none).run Tryz.prog W = .ok (.slice A6 n4 c6) W := fun W => by rw [← hA6, ← hc6, ← hn4]; exact kRng.run_cutK rg_sizeOf W (some ⟨b2, o2, none⟩) n8 c8 1 (by omega)
      have HDP := Lib.hid (show ∀ W, dPc.Rd W (fun g => g < w2.heap.size) (some ⟨b, o, none⟩) c7 (p :: k9) → dPc.Rd W (fun g => g < w2.heap.size) A5 c5 k9 from fun W h => by rw [← hA5, ← hc5]; exact h.drop (j := 1))
      have HDL := Lib.hid (show ∀ W, kRng.Rd W w2.heap.size (some ⟨b2, o2, none⟩) c8 (r :: l9) → kRng.Rd W w2.heap.size A6 c6 l9 from fun W h => by rw [← hA6, ← hc6]; exact h.drop (j := 1))
      have HNX := Lib.hid (And.intro hk9 hl9)
      have HSN := Lib.hid (show rstP (n3 + n4 + 1 + 1) dn (p :: k9) (r :: l9) = U by have h := HS.out; rw [show n7 + n8 = n3 + n4 + 1 + 1 by omega] at h; exact h)
      have HSY := Lib.hid (fun (h : decide (endsR p.rng r < 0) = true) => show rstP (n3 + n8) (meetD dn p r) k9 (r :: l9) = U by have h2 := HSN.out; rw [rstP_left h, show n3 + n4 + 1 = n3 + n8 by omega] at h2; exact h2)
      have HSZ := Lib.hid (fun (h : decide (endsR p.rng r < 0) = false) => show rstP (n7 + n4) (meetD dn p r) (p :: k9) l9 = U by have h2 := HSN.out; rw [rstP_right h, show n3 + n4 + 1 = n7 + n4 by omega] at h2; exact h2)
      rw [hzz, hy] at HSY HSZ
      have HN9 := Lib.hid hn9
      have HRD := Lib.hid hrdS
      have HNP := Lib.hid hn'
      have hnl : dn.length ≤ 18003 := by omega
      have hx1 : n3 + n8 + 1 = n7 + n8 := by omega
      have hx2 : n7 + n4 + 1 = n7 + n8 := by omega
      clear hcell hcell2 hn' hrdS hS1 hS2 hz1 hT1 hT2 hz2 hn3 hn4 hk9 hl9 hA5 hc5 hA6 hc6 HSN HS hb1w hzz hn9
      cases hm : meetR p.rng r with
      | some m =>
        obtain ⟨X1, hX1⟩ : ∃ S, str m.lo = S := ⟨_, rfl⟩
        obtain ⟨X2, hX2⟩ : ∃ S, str m.hi = S := ⟨_, rfl⟩
        obtain ⟨zm, hzm⟩ : ∃ q, m.op = q := ⟨_, rfl⟩
        have hIm : IsR m X1 X2 zm := ⟨hX1, hX2, hzm⟩
        have CM := fun w => Lib.hid (span_meet p.rng r m S1 S2 T1 T2 X1 X2 z1 z2 zm true hI1 hI2 hIm (.inl ⟨hm, rfl⟩) w)
        obtain ⟨U2, hU2⟩ : ∃ U2, putP dn m p.set = U2 := ⟨_, rfl⟩
        rw [meetD_some hm, hU2] at HSY HSZ
        have hl2 : U2.length ≤ dn.length + 1 := by have := putP_len dn m p.set; rw [hU2] at this; omega
        have PP := fun w hb ho hX => Lib.hid (kw_put (fun _ => True) A9 n9 c9 dn w2.heap.size HN9.out m X1 X2 zm hIm A' c' n' p.set HNP.out (by have := HN9.out; omega) U2 hU2 w hb ho hX)
        clear hm hU2 hX1 hX2 hzm hIm hI1 hI2
        go_upto_region 4 with fail
        go_cut [6, 7] from 12 to 51 (fun s6 s7 wx => ∃ g : Nat, s6 = .pointer (some ⟨g, 0, none⟩) ∧ s7 = .bool true ∧ Hid (RgAt wx g X1 X2 zm ∧ Below wr.heap.size wr wx ∧ wr.heap.size ≤ g))
        case first =>
          have hb2r := Nat.lt_of_lt_of_le hb2 HW2.out.size
          have tr := (bcell (below_new wr (.cells #[.string ⟨#[]⟩, .string ⟨#[]⟩, .bool false] 42))).1
          have np0 := (tr b _ hb1).trans p0
          have np1 := (tr b _ hb1).trans p1
          have np2 := (tr b _ hb1).trans p2
          have nq0 := (tr b2 _ hb2r).trans q0
          have nq1 := (tr b2 _ hb2r).trans q1
          have nq2 := (tr b2 _ hb2r).trans q2
          clear tr
          go_region_law (first
            | ((try go_simp); (with_reducible refine (CM _).out.mono ?_); rintro e9 w3 ⟨rfl, hq⟩; (try replace hq := below_of_drew hq); (first | (have HNB := Lib.hid (RgAt.below (rgAt_new wr ⟨#[]⟩ ⟨#[]⟩ false 42) hq); have HQ3 := Lib.hid (show Below wr.heap.size wr w3 from (below_new wr _).trans (hq.mono (by simp)))) | (have HNB := Lib.hid (rgAt_new w3 ⟨#[]⟩ ⟨#[]⟩ false 42); have HQ3 := Lib.hid (show Below wr.heap.size wr w3 from hq))); obtain ⟨n0, n1, n2, n3f⟩ := HNB.out; clear hq))
          all_goals
            (try simp only [Act.put, List.getElem_toArray, List.getElem_cons_zero, List.getElem_cons_succ, List.setIfInBounds_toArray, List.set_cons_zero, List.set_cons_succ])
            go_wp2_with fail
            go_meet
            first
              | exact ⟨_, rfl, rfl, Lib.hid ⟨rgAt_new w3 X1 X2 zm _, HQ3.out.alloc HQ3.out.size _, HQ3.out.size⟩⟩
              | exact ⟨_, rfl, rfl, Lib.hid ⟨HNB.out.set3 _ _ _, below_set3 HQ3.out (Nat.le_refl _) _ _ _, Nat.le_refl _⟩⟩
        case rest =>
          obtain ⟨g, rfl, rfl, HG⟩ := hcut
          obtain ⟨w9, hw9⟩ : ∃ w9, w9 = wc := ⟨_, rfl⟩
          subst hw9
          have hgb := HG.out.2.1
          have hg0 := HG.out.2.2
          have HO9 := Lib.hid (HO.out.below hgb)
          have HB9 := Lib.hid (hgb.mono HW2.out.size)
          have HWX := Lib.hid (HW2.out.trans HB9.out)
          obtain ⟨g0, g1, g2, -⟩ := HG.out.1
          have hlg := HG.out.1.lt
          have p3c := ((bcell HB9.out).1 _ _ hbS).trans p3
          have hbl : b < w9.heap.size := Nat.lt_of_lt_of_le hbS HWX.out.size
          have hne1 : (Value.slice A9 n9 c9).ownBlock ≠ some g := fun e9 => by have := (HO.out.lt _ e9).2; omega
          have hne2 : (Value.slice A9 n9 c9).ownBlock ≠ some b := fun e9 => by have := (HO.out.lt _ e9).1; omega
          have HXc := Lib.hid ((Deep.Rd.keep HRD.out (keptS_under HB9.out fun g h => h)).mono (T := fun g => True ∧ (Value.slice A9 n9 c9).ownBlock ≠ some g) fun g hg => ⟨trivial, fun e => by have := (HO.out.lt g e).1; omega⟩)
          clear hgb hg0
          go_upto_region 6 with fail
          go_region_held3 (fun w' => w'.cell? ⟨g, 0, none⟩ = some (.string X1) ∧ w'.cell? ⟨g, 1, none⟩ = some (.string X2) ∧ w'.cell? ⟨g, 2, none⟩ = some (.bool zm) ∧ w'.cell? ⟨b, o + 3, none⟩ = some (.slice A' n' c')) (first | (exact ⟨by assumption, by assumption, by assumption, by assumption⟩) | go_keep)
            (first
              | (go_at_call 59; (with_reducible refine (PP _ (by first | exact HWX.out.size | exact HWX.out.drew.size) (by first | exact HO9.out | exact HO9.out.below (Below.refl _ _).drew) (by first | exact HXc.out | exact Deep.Rd.call HXc.out (Below.refl _ _).drew)).out.mono ?_); rintro e9 w10 ⟨v10, rfl, hop, hq, hkp⟩; replace g0 := (hkp ⟨g, 0, none⟩ hne1 hlg).trans g0; replace g1 := (hkp ⟨g, 1, none⟩ hne1 hlg).trans g1; replace g2 := (hkp ⟨g, 2, none⟩ hne1 hlg).trans g2; replace p3c := (hkp ⟨b, o + 3, none⟩ hne2 hbl).trans p3c; have HOP := Lib.hid hop; have HWP := Lib.hid (HWX.out.drew.trans hq); have HBP := Lib.hid (HB9.out.drew.trans hq); clear hop hq hkp))
          replace HWX := HWP
          replace HB9 := HBP
          clear HO9 HO HXc g0 g1 g2 p3c hne1 hne2 hlg hbl HWP HBP PP
          have HO9 := HOP
          obtain ⟨w9, hw9⟩ : ∃ w9, w9 = w10 := ⟨_, rfl⟩
          subst hw9
          have HLN := Lib.hid (show U2.length + (n7 + n8) ≤ NK + Q + 1 by omega)
          have HOX := Lib.hid (HO9.out)
          have HB79 := HB9.out
          have tr9 := (bcell HB79).1
          have k0 := (tr9 _ _ hbS).trans p0
          have k1 := (tr9 _ _ hbS).trans p1
          have k2 := (tr9 _ _ hbS).trans p2
          have k3 := (tr9 _ _ hb2).trans q0
          have k4 := (tr9 _ _ hb2).trans q1
          have k5 := (tr9 _ _ hb2).trans q2
          have HK9 := Lib.hid (Deep.Rd.keep H7.out.2 (keptS_under HB79 fun g h => h))
          have HL9 := Lib.hid (H8.out.2.below HB79)
          have HC9 := Lib.hid (show CellL w9 [(⟨b, o, none⟩, .string S1), (⟨b, o + 1, none⟩, .string S2), (⟨b, o + 2, none⟩, .bool z1), (⟨b2, o2, none⟩, .string T1), (⟨b2, o2 + 1, none⟩, .string T2), (⟨b2, o2 + 2, none⟩, .bool z2)] w9 from ⟨k0, k1, k2, k3, k4, k5, Below.refl _ _⟩)
          have CE9 := Lib.hid (fun L => CE.out w9 L)
          clear tr9 HB79 k0 k1 k2 k3 k4 k5 p0 p1 p2 p3 q0 q1 q2 CE
          go_upto_region 7 with fail
          refine q_region (CellL w9 [(⟨b, o, none⟩, .string S1), (⟨b, o + 1, none⟩, .string S2), (⟨b, o + 2, none⟩, .bool z1), (⟨b2, o2, none⟩, .string T1), (⟨b2, o2 + 1, none⟩, .string T2), (⟨b2, o2 + 2, none⟩, .bool z2)]) (by kernel_rfl) (by kernel_rfl) (cellL_drew HC9.out) ?_
          repeat (first
            | go_big_quiet_skip
            | (go_big_quiet_want; (first
              | (refine q_take (v := ?_) ?_ ?_; rotate_left; (focus (intro w hSw; (try simp only [CellL] at hSw); go_split_ands; go_simp; (try (rw [if_neg (by omega)])); (try with_reducible rfl); done)))
              | (refine q_call (CE9.out _) ?_ ?_; (focus (intro w hSw; (try simp only [CellL] at hSw); go_split_ands; go_simp; (try (rw [if_neg (by omega)])); done)))); (try simp only [Act.put, List.setIfInBounds_toArray, List.set_cons_zero, List.set_cons_succ]); go_big_quiet_on))
          refine wpQuiet_nil ?_
          intro w10 hw10
          have hb10 := cellL_size hw10
          have HO10 := Lib.hid (HOX.out.below hb10)
          have HK10 := Lib.hid (Deep.Rd.call HK9.out hb10)
          have HL10 := Lib.hid (HL9.out.below (hb10.mono HWX.out.size))
          have HW10 := Lib.hid (HWX.out.trans (hb10.mono HWX.out.size))
          clear hw10 hb10 HOX HK9 HL9
          cases y
          · go_wp2_with fail
            go_roundg (n7 + n4)
            case measure => omega
            case rel => exact ⟨p :: k9, l9, U2, some ⟨b, o, none⟩, A6, n7, c7, n4, c6, rfl, rfl, ⟨H7.out.1, HK10.out⟩, ⟨HNX.out.2, HDL.out _ HL10.out⟩, ⟨HRL.out.1, rightL_tail HRL.out.2⟩, HO10, HSZ.out trivial, by have := HLN.out; omega, HW10, Nat.le_refl _⟩
          · go_wp2_with fail
            go_roundg (n3 + n8)
            case measure => omega
            case rel => exact ⟨k9, r :: l9, U2, A5, some ⟨b2, o2, none⟩, n3, c5, n8, c8, rfl, rfl, ⟨HNX.out.1, HDP.out _ HK10.out⟩, ⟨H8.out.1, HL10.out⟩, ⟨rightP_tail HRL.out.1, HRL.out.2⟩, HO10, HSY.out trivial, by have := HLN.out; omega, HW10, Nat.le_refl _⟩
      | none =>
        have CM := fun w => Lib.hid (span_meet p.rng r zeroR S1 S2 T1 T2 ⟨#[]⟩ ⟨#[]⟩ z1 z2 false false hI1 hI2 ⟨rfl, rfl, rfl⟩ (.inr ⟨hm, rfl, rfl⟩) w)
        rw [meetD_none hm] at HSY HSZ
        clear hm hI1 hI2
        go_upto_region 4 with fail
        go_cut [6, 7] from 12 to 51 (fun s6 s7 wx => ∃ g : Nat, s6 = .pointer (some ⟨g, 0, none⟩) ∧ s7 = .bool false ∧ Hid (RgAt wx g ⟨#[]⟩ ⟨#[]⟩ false ∧ Below wr.heap.size wr wx ∧ wr.heap.size ≤ g))
        case first =>
          have hb2r := Nat.lt_of_lt_of_le hb2 HW2.out.size
          have tr := (bcell (below_new wr (.cells #[.string ⟨#[]⟩, .string ⟨#[]⟩, .bool false] 42))).1
          have np0 := (tr b _ hb1).trans p0
          have np1 := (tr b _ hb1).trans p1
          have np2 := (tr b _ hb1).trans p2
          have nq0 := (tr b2 _ hb2r).trans q0
          have nq1 := (tr b2 _ hb2r).trans q1
          have nq2 := (tr b2 _ hb2r).trans q2
          clear tr
          go_region_law (first
            | ((try go_simp); (with_reducible refine (CM _).out.mono ?_); rintro e9 w3 ⟨rfl, hq⟩; (try replace hq := below_of_drew hq); (first | (have HNB := Lib.hid (RgAt.below (rgAt_new wr ⟨#[]⟩ ⟨#[]⟩ false 42) hq); have HQ3 := Lib.hid (show Below wr.heap.size wr w3 from (below_new wr _).trans (hq.mono (by simp)))) | (have HNB := Lib.hid (rgAt_new w3 ⟨#[]⟩ ⟨#[]⟩ false 42); have HQ3 := Lib.hid (show Below wr.heap.size wr w3 from hq))); obtain ⟨n0, n1, n2, n3f⟩ := HNB.out; clear hq))
          all_goals
            (try simp only [Act.put, List.getElem_toArray, List.getElem_cons_zero, List.getElem_cons_succ, List.setIfInBounds_toArray, List.set_cons_zero, List.set_cons_succ])
            go_wp2_with fail
            go_meet
            first
              | exact ⟨_, rfl, rfl, Lib.hid ⟨rgAt_new w3 ⟨#[]⟩ ⟨#[]⟩ false _, HQ3.out.alloc HQ3.out.size _, HQ3.out.size⟩⟩
              | exact ⟨_, rfl, rfl, Lib.hid ⟨HNB.out.set3 _ _ _, below_set3 HQ3.out (Nat.le_refl _) _ _ _, Nat.le_refl _⟩⟩
        case rest =>
          obtain ⟨g, rfl, rfl, HG⟩ := hcut
          obtain ⟨w9, hw9⟩ : ∃ w9, w9 = wc := ⟨_, rfl⟩
          subst hw9
          have hgb := HG.out.2.1
          have hg0 := HG.out.2.2
          have HO9 := Lib.hid (HO.out.below hgb)
          have HB9 := Lib.hid (hgb.mono HW2.out.size)
          have HWX := Lib.hid (HW2.out.trans HB9.out)
          have HLN := Lib.hid (show dn.length + (n7 + n8) ≤ NK + Q + 1 by omega)
          clear hgb hg0
          have HOX := Lib.hid (HO9.out)
          have HB79 := HB9.out
          have tr9 := (bcell HB79).1
          have k0 := (tr9 _ _ hbS).trans p0
          have k1 := (tr9 _ _ hbS).trans p1
          have k2 := (tr9 _ _ hbS).trans p2
          have k3 := (tr9 _ _ hb2).trans q0
          have k4 := (tr9 _ _ hb2).trans q1
          have k5 := (tr9 _ _ hb2).trans q2
          have HK9 := Lib.hid (Deep.Rd.keep H7.out.2 (keptS_under HB79 fun g h => h))
          have HL9 := Lib.hid (H8.out.2.below HB79)
          have HC9 := Lib.hid (show CellL w9 [(⟨b, o, none⟩, .string S1), (⟨b, o + 1, none⟩, .string S2), (⟨b, o + 2, none⟩, .bool z1), (⟨b2, o2, none⟩, .string T1), (⟨b2, o2 + 1, none⟩, .string T2), (⟨b2, o2 + 2, none⟩, .bool z2)] w9 from ⟨k0, k1, k2, k3, k4, k5, Below.refl _ _⟩)
          have CE9 := Lib.hid (fun L => CE.out w9 L)
          clear tr9 HB79 k0 k1 k2 k3 k4 k5 p0 p1 p2 p3 q0 q1 q2 CE
          go_upto_region 7 with fail
          refine q_region (CellL w9 [(⟨b, o, none⟩, .string S1), (⟨b, o + 1, none⟩, .string S2), (⟨b, o + 2, none⟩, .bool z1), (⟨b2, o2, none⟩, .string T1), (⟨b2, o2 + 1, none⟩, .string T2), (⟨b2, o2 + 2, none⟩, .bool z2)]) (by kernel_rfl) (by kernel_rfl) (cellL_drew HC9.out) ?_
          repeat (first
            | go_big_quiet_skip
            | (go_big_quiet_want; (first
              | (refine q_take (v := ?_) ?_ ?_; rotate_left; (focus (intro w hSw; (try simp only [CellL] at hSw); go_split_ands; go_simp; (try (rw [if_neg (by omega)])); (try with_reducible rfl); done)))
              | (refine q_call (CE9.out _) ?_ ?_; (focus (intro w hSw; (try simp only [CellL] at hSw); go_split_ands; go_simp; (try (rw [if_neg (by omega)])); done)))); (try simp only [Act.put, List.setIfInBounds_toArray, List.set_cons_zero, List.set_cons_succ]); go_big_quiet_on))
          refine wpQuiet_nil ?_
          intro w10 hw10
          have hb10 := cellL_size hw10
          have HO10 := Lib.hid (HOX.out.below hb10)
          have HK10 := Lib.hid (Deep.Rd.call HK9.out hb10)
          have HL10 := Lib.hid (HL9.out.below (hb10.mono HWX.out.size))
          have HW10 := Lib.hid (HWX.out.trans (hb10.mono HWX.out.size))
          clear hw10 hb10 HOX HK9 HL9
          cases y
          · go_wp2_with fail
            go_roundg (n7 + n4)
            case measure => omega
            case rel => exact ⟨p :: k9, l9, dn, some ⟨b, o, none⟩, A6, n7, c7, n4, c6, rfl, rfl, ⟨H7.out.1, HK10.out⟩, ⟨HNX.out.2, HDL.out _ HL10.out⟩, ⟨HRL.out.1, rightL_tail HRL.out.2⟩, HO10, HSZ.out trivial, by have := HLN.out; omega, HW10, Nat.le_refl _⟩
          · go_wp2_with fail
            go_roundg (n3 + n8)
            case measure => omega
            case rel => exact ⟨k9, r :: l9, dn, A5, some ⟨b2, o2, none⟩, n3, c5, n8, c8, rfl, rfl, ⟨HNX.out.1, HDP.out _ HK10.out⟩, ⟨H8.out.1, HL10.out⟩, ⟨rightP_tail HRL.out.1, HRL.out.2⟩, HO10, HSY.out trivial, by have := HLN.out; omega, HW10, Nat.le_refl _⟩
end Go.Proofs.YtaodifpnfejbbaaGreat

/-
  The laws of layer 15: what the program's functions do, as they ask it.
-/
namespace Go.Proofs.YtaodifpnfejbbaaGreat
open Go.RowKit

theorem capK_up {L B : Nat} {k : List Pc} (h : CapK k) (hL : 100 ≤ L) (hB : 12000 ≤ B) : CapN L B k := CapN.mono h hL hB
theorem k_kright : KRightC 11 := fun A c n k hn _ v hv w hr => kw_right A c n k hn v hv w hr
theorem k_khas : KHasC 13 := fun A c n k s U v x y hn hU _ hx hy _ z hz w hr => kw_has A c n k s U v x y hn hU hx hy z hz w hr
theorem k_kat : KAtC 16 := fun A c n k s U hn hU _ hc K hK N hN w hr => (kw_at A c n k s U hn hU
    (by have h1 := catK_len (k := k) s fun p hp => (CapN.each hc p hp).2.2
        have h2 := CapN.len hc
        omega)
    (fun r => by have := CapN.runs hc s r; omega) K hK N hN w hr).mono fun _ _ h => RetKF.to h
theorem k_kof : KOfC 10 := fun A c n k hn hc U hU N hN w hr => kw_of A c n k hn (capK_up hc (by omega) (by omega)) U hU N hN w hr
theorem k_kadd : KAddC 22 := fun A B c d n m k s X l hn hX _ hm hml hc U hU N hN w ha hb => kw_add A B c d n m k s X l hn hX hm (by omega) (capK_up hc (by omega) (by omega)) U hU N hN w ha hb
theorem k_kall : KAllC 25 := fun D A e c q n l S hq hn hl hc _ hr U hU N hN w h1 h2 => kw_all D A e c q n l S hq hn (by have := hl.1; omega) (capK_up hc (by omega) (by omega)) (fun r => by have := hr r; omega) U hU N hN w h1 h2
theorem k_kjoin : KJoinC 26 := fun A c n ks hn h4 hc U hU N hN w hr => kw_joins A c n ks hn (by omega) (capK_up hc (by omega) (by omega)) U hU N hN w hr
theorem k_kless : KLessC 27 := fun A B c d n m a b hn hm ha hb U hU N hN w h1 h2 => kw_lessP A B c d n m a b hn hm (capK_up ha (by omega) (by omega)) (capK_up hb (by omega) (by omega)) U hU N hN w h1 h2
theorem k_krest : KRestC 29 := fun A D c e n q a l hn hq hc hl U hU N hN w h1 h2 => kw_restrict A D c e n q a l hn hq (capK_up hc (by omega) (by omega)) (by have := hl.1; omega) U hU N hN w h1 h2
theorem k_ksame : KBoolC 31 sameKQ := fun A B c d n m a b hn hm ha hb v hv w h1 h2 => kw_same A B c d n m a b hn hm (capK_up ha (by omega) (by omega)) (capK_up hb (by omega) (by omega)) v hv w h1 h2
theorem k_kwithin : KBoolC 32 withinKQ := fun A B c d n m a b hn hm ha hb v hv w h1 h2 => kw_within A B c d n m a b hn hm (capK_up ha (by omega) (by omega)) (capK_up hb (by omega) (by omega)) v hv w h1 h2
end Go.Proofs.YtaodifpnfejbbaaGreat

/-
  Layer 15's statements: the struct of what is added, and two lists of ranges, as they came in.
-/
namespace Go.Proofs.YtaodifpnfejbbaaGreat
open Go.ChangeShapes Go.WideShapes Go.ChangeAt Go.RowKit Go.Joins

theorem rd_of_cells {W : World} {A : Option Addr} {c : Nat} {α : Type} {k : Kind Tryz.prog α} {l : List α} (h : RowAt W W.heap.size A (l.flatMap k.cells)) (h2 : l.length ≤ c) (h3 : c ≤ maxLen) : k.Rd W W.heap.size A c l := ⟨h, h2, h3⟩
set_option maxRecDepth 100000 in
theorem in_rng2 {H : Type} {enc : TypeId × Value → H} {W : World} {base : Nat} {v : Value} {d : DataW H} {p : List MemPlace}
    (hok : Value.okWide Tryz.prog W .any base 53 v) (h : DataW.Trod enc Tryz.prog W 0 (fun _ => true) true 53 v d p) :
    ∃ (A B : Option Addr) (c d : Nat) (l k : List Rng), v = .agg #[.slice A l.length c, .slice B k.length d] ∧ kRng.Rd W W.heap.size A c l ∧ kRng.Rd W W.heap.size B d k := by
  have ht := Tryz.underlying53
  have hc : Tryz.prog.cellsOf 53 = 2 := by kernel_rfl
  have hce : Tryz.prog.cellsOf 36 = 1 := by kernel_rfl
  simp only [Value.okWide, ht] at hok
  obtain ⟨cs, rfl, hs, -⟩ := hok
  rw [hc] at hs
  obtain ⟨fuel, hf⟩ := h
  obtain ⟨xs, m, -, -, -, hx, hel⟩ := DataW.trod_array ht hf
  obtain ⟨a, b, rfl⟩ : ∃ a b, cs = #[a, b] := by
    match cs, hs with
    | ⟨[a, b]⟩, _ => exact ⟨a, b, rfl⟩
  have h0 := hel 0 (by omega)
  have h1 := hel 1 (by omega)
  rw [hce] at h0 h1
  rw [List.getElem?_eq_getElem (by omega)] at h0 h1
  simp [Value.cells] at h0 h1
  obtain ⟨A, c, l, e0, r0, -, k0, m0⟩ := cells_slice rngCells (fun _ => True) Tryz.underlying36 (k := 3) (by kernel_rfl) (by omega) (fun n cs y hl hy => by obtain ⟨r, hr⟩ := rng_of (W := W) n cs y hl hy; exact ⟨r, hr, trivial⟩) h0
  obtain ⟨B, c', k, e1, r1, -, k1, m1⟩ := cells_slice rngCells (fun _ => True) Tryz.underlying36 (k := 3) (by kernel_rfl) (by omega) (fun n cs y hl hy => by obtain ⟨r, hr⟩ := rng_of (W := W) n cs y hl hy; exact ⟨r, hr, trivial⟩) h1
  simp only [List.cons.injEq, and_true] at e0 e1
  subst e0 e1
  exact ⟨A, B, c, c', l, k, rfl, rd_of_cells (k := kRng) r0 k0 m0, rd_of_cells (k := kRng) r1 k1 m1⟩
set_option maxRecDepth 100000 in
theorem in_adds {H : Type} {enc : TypeId × Value → H} {W : World} {base : Nat} {v : Value} {d : DataW H} {p : List MemPlace}
    (hok : Value.okWide Tryz.prog W .any base 38 v) (h : DataW.Trod enc Tryz.prog W 0 (fun _ => true) true 38 v d p) :
    ∃ (s : List UInt8) (B D F : Option Addr) (d e f : Nat) (vs : List Vr) (l : List Rng) (S : List Kn), v = .agg #[.string (str s), .slice B vs.length d, .slice D l.length e, .slice F S.length f] ∧ kVr.Rd W W.heap.size B d vs ∧ kRng.Rd W W.heap.size D e l ∧ RdK W W.heap.size F f S := by
  obtain ⟨v0, v1, v2, v3, y0, y1, y2, y3, n, rfl, -, -, h0, h1, h2, h3⟩ := open_agg4 Tryz.underlying38 (by kernel_rfl) (by kernel_rfl) hok h
  obtain ⟨s, e0, -, w0⟩ := DataW.trod_string Tryz.underlying9 h0
  obtain ⟨B, d1, vs, e1, r1, -, k1, m1⟩ := cells_slice vrCells (fun _ => True) Tryz.underlying35 (k := 2) (by kernel_rfl) (by omega) (vr_of (W := W)) h1
  obtain ⟨D, d2, l, e2, r2, -, k2, m2⟩ := cells_slice rngCells (fun _ => True) Tryz.underlying36 (k := 3) (by kernel_rfl) (by omega) (fun n cs y hl hy => by obtain ⟨r, hr⟩ := rng_of (W := W) n cs y hl hy; exact ⟨r, hr, trivial⟩) h2
  obtain ⟨F, d3, sl, e3, g1, hg, g2, g3⟩ := cells_slice (fun x : Ks × Kn => ksCells x.1) (KnIn W) Tryz.underlying31 (k := 2) (by kernel_rfl) (by omega) kn_of h3
  simp only [List.cons.injEq, and_true] at e0 e1 e2 e3
  subst e0 e1 e2 e3
  exact ⟨s.data.toList, B, D, F, d1, d2, d3, vs, l, sl.map (·.2), by rw [str_of, List.length_map], rd_of_cells (k := kVr) r1 k1 m1, rd_of_cells (k := kRng) r2 k2 m2, rdk_pairs g1 g2 g3 hg⟩
end Go.Proofs.YtaodifpnfejbbaaGreat
