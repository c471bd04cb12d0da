/-
  Layer 13 (counts), the program: two lists swept together.
-/
import Derived.Test.YtnfhkmlggajhaaaCntJ
import Derived.Deep.CutRange
namespace Go.Proofs.Ytnfhkmlggajhaaa
open Go.RowKit

theorem cn_begin_is (A : Option Addr) (c n : Nat) (l : List Rn) (hn : n = l.length) (hnl : n ≤ 100000) (w0 : World) (hr : kRn.Rd w0 w0.heap.size A c l) (E : List Int) (hE : edgesI (ofC l) = E) (N : Nat) (hN : E.length = N) (w : World) (hb : Below w0.heap.size w0 w) :
    Calls Try.prog 36 #[.slice A n c] w fun e w' => ∃ A' c', e = .returned (.agg #[.bool false, .slice A' N c']) ∧ kIt.Rd w' w'.heap.size A' c' E ∧ Below w.heap.size w w' := by
  subst hE hN
  exact cn_begin A c n l hn hnl w (hr.call hb)
theorem cn_pass_is (A : Option Addr) (c n : Nat) (l : List Int) (x : Int) (v : Bool) (w0 : World) (hn : l.length = n) (hr : kIt.Rd w0 w0.heap.size A c l) (v' : Bool) (hv : passI x v l = v') (l' : List Int) (hl : dropI x l = l') :
    ∃ A' n' c', l'.length = n' ∧ kIt.Rd w0 w0.heap.size A' c' l' ∧ ∀ w, Below w0.heap.size w0 w → Hid (Calls Try.prog 38 #[.agg #[.bool v, .slice A n c], .int .i64 x] w fun e w' => e = .returned (.agg #[.bool v', .slice A' n' c']) ∧ Below w.heap.size w w') := by
  subst hn hl
  obtain ⟨A', c', h1, h2⟩ := passN_reads (x := x) hr
  exact ⟨A', _, c', rfl, h2, fun w hb => cn_pass A c l.length l x v rfl v' hv _ h1 w (hr.call hb)⟩
/-- What stands open in the list that is made. -/
def pendC : Option Int → List Rn
  | none => []
  | some lo => [⟨lo, 0⟩]
set_option maxRecDepth 100000 in
set_option maxHeartbeats 8000000 in
theorem cn_sweep (g : FuncId) (kf : Bool → Bool → Bool) (K : ∀ x y w, Calls Try.prog g #[.bool x, .bool y] w fun e w' => e = .returned (.bool (kf x y)) ∧ w = w') (eg : ∀ args w, (callFunc g args).run Try.prog w = .ok (.enter g args) w)
    (op : Int) (hk0 : kf false false = false) (A B : Option Addr) (c d n m : Nat) (a b : List Rn) (hk : ∀ s, kf (hasC a s) (hasC b s) = isC op a b s) (hn : n = a.length) (hm : m = b.length) (hnl : n ≤ 100000) (hml : m ≤ 100000) (U : List Rn) (hU : makeC op a b = U) (NU : Nat) (hNU : U.length = NU) (w : World) (ha : kRn.Rd w w.heap.size A c a) (hb : kRn.Rd w w.heap.size B d b) :
    Calls Try.prog 28 #[.slice A n c, .slice B m d, .func (.func g) #[] #[]] w (RetOC w NU U) := by
  obtain ⟨ea, hea⟩ : ∃ ea, edgesI (ofC a) = ea := ⟨_, rfl⟩
  obtain ⟨eb, heb⟩ : ∃ eb, edgesI (ofC b) = eb := ⟨_, rfl⟩
  obtain ⟨N, hN⟩ : ∃ N, ea.length = N := ⟨_, rfl⟩
  obtain ⟨M, hM⟩ : ∃ M, eb.length = M := ⟨_, rfl⟩
  have hN9 : N ≤ 400002 := by rw [← hN, ← hea, edgesI_len]; have := ofC_len a; omega
  have hM9 : M ≤ 400002 := by rw [← hM, ← heb, edgesI_len]; have := ofC_len b; omega
  have C1 := fun W h => Lib.hid (cn_begin_is A c n a hn hnl w ha ea hea N hN W h)
  have C2 := fun W h => Lib.hid (cn_begin_is B d m b hm hml w hb eb heb M hM W h)
  have HS := Lib.hid (SwC.start (kf := kf) hk0 a b)
  have HN := Lib.hid hN
  have HM := Lib.hid hM
  have HK0 := Lib.hid hk0
  have HK := Lib.hid hk
  rw [hea, heb] at HS
  have HUU := Lib.hid hU
  have HNN := Lib.hid hNU
  have hb0 := Lib.hid (Below.refl w.heap.size w)
  clear hn hm ha hb hea heb hN hM hnl hml hk hU hNU hk0
  go_enter Try.func28, Try.ntmps28
  obtain ⟨z0, hz0⟩ : ∃ z0, curI (nearI ea eb) = z0 := ⟨_, rfl⟩
  obtain ⟨v0, hv0⟩ : ∃ v0, (nearI ea eb).isSome = v0 := ⟨_, rfl⟩
  go_wp2_with (first
    | ((with_reducible refine (C1 _ hb0.out).out.mono ?_); rintro e w1 ⟨A1, c1, rfl, hrd, hq⟩; have H1 := Lib.hid hrd; replace hb0 := Lib.hid hq; clear hrd hq)
    | ((with_reducible refine (C2 _ hb0.out).out.mono ?_); rintro e w2 ⟨A2, c2, rfl, hrd, hq⟩; have H2 := Lib.hid hrd; have H1 := Lib.hid (H1.out.call hq); have hb1 := Lib.hid (hb0.out.trans (hq.mono hb0.out.size)); have H7 := Lib.hid ((sdAt_new w2 false (.slice A1 N c1) 47).below (below_new _ (.cells #[.bool false, .slice A2 M c2] 47))); have H8 := Lib.hid (sdAt_new1 w2 (.cells #[.bool false, .slice A1 N c1] 47) false (.slice A2 M c2) 47); have HBW := Lib.hid ((below_new w2 (.cells #[.bool false, .slice A1 N c1] 47)).alloc (by simp) (.cells #[.bool false, .slice A2 M c2] 47)); clear hrd hq)
    | ((with_reducible refine (Lib.hid (cn_nearest A1 A2 c1 c2 N M ea eb false false HN.out.symm HM.out.symm z0 hz0 v0 hv0 _ (H1.out.call HBW.out) (H2.out.call HBW.out))).out.mono ?_); rintro e w3 ⟨rfl, hq⟩; replace H7 := Lib.hid (H7.out.below hq); replace H8 := Lib.hid (H8.out.below hq); replace HBW := Lib.hid (HBW.out.trans (hq.mono HBW.out.size)); clear hq))
  clear C1 C2 hb0
  go_loopg [9, 10, 11, 12] (N + M) (fun gg s9 s10 s11 s12 wr => ∃ (cc : Int) (x y : Bool) (fa fb : List Int) (A7 A8 : Option Addr) (n7 c7 n8 c8 : Nat) (dn : List Rn) (o : Option Int),
    Hid (SwC kf a b cc x fa y fb dn o) ∧ Hid (kRn.Own wr (w2.heap.size + 2) s9 (dn ++ pendC o)) ∧ s10 = .bool o.isSome ∧ s11 = .int .i64 (curI (nearI fa fb)) ∧ s12 = .bool (nearI fa fb).isSome ∧
    Hid (SdAt wr w2.heap.size x (.slice A7 n7 c7)) ∧ Hid (SdAt wr (w2.heap.size + 1) y (.slice A8 n8 c8)) ∧ Hid (fa.length = n7 ∧ kIt.Rd w2 w2.heap.size A7 c7 fa) ∧ Hid (fb.length = n8 ∧ kIt.Rd w2 w2.heap.size A8 c8 fb) ∧ Hid (Below w2.heap.size w2 wr) ∧ (dn ++ pendC o).length + (n7 + n8) ≤ N + M ∧ n7 + n8 ≤ gg)
  case atStart => exact ⟨0, false, false, ea, eb, A1, A2, N, c1, M, c2, [], none, HS.out, Kind.Own.nil _ _, rfl, by rw [hz0], by rw [hv0], H7, H8, ⟨HN.out, H1.out⟩, ⟨HM.out, H2.out⟩, HBW, by simp [pendC], Nat.le_refl _⟩
  case round =>
    clear H7 H8 HBW hz0 hv0
    obtain ⟨cc, x, y, fa, fb, A7, A8, n7, c7, n8, c8, dn, o, HOK, HO, rfl, rfl, rfl, H7, H8, HR7, HR8, HBW, hlen, hgg⟩ := hrel
    obtain ⟨n9, hn9⟩ : ∃ n9, (dn ++ pendC o).length = n9 := ⟨_, rfl⟩
    obtain ⟨A9, c9, rfl, -⟩ := HO.out.read_n hn9.symm
    have HN9 := Lib.hid hn9
    rw [hn9] at hlen
    clear hn9
    cases hcur : nearI fa fb with
    | none =>
      obtain ⟨rfl, hdn⟩ := HOK.out.fin HK0.out hcur op HK.out
      have HD := Lib.hid hdn
      clear hcur hdn
      go_wp2_with fail
      go_ret
      have e1 : dn ++ pendC none = U := by rw [pendC, List.append_nil, HD.out, HUU.out]
      obtain rfl : n9 = NU := by rw [← HN9.out, e1, HNN.out]
      have ho := HO.out
      rw [e1] at ho
      exact ⟨A9, c9, rfl, ho.mono (by have := hb1.out.size; omega), hb1.out.trans (HBW.out.mono hb1.out.size)⟩
    | some e =>
      obtain ⟨hok, hwt, he1, he2⟩ := HOK.out.step hcur
      obtain ⟨x', hx'⟩ : ∃ x', passI e x fa = x' := ⟨_, rfl⟩
      obtain ⟨y', hy'⟩ : ∃ y', passI e y fb = y' := ⟨_, rfl⟩
      obtain ⟨ga, hga⟩ : ∃ ga, dropI e fa = ga := ⟨_, rfl⟩
      obtain ⟨gb, hgb⟩ : ∃ gb, dropI e fb = gb := ⟨_, rfl⟩
      obtain ⟨A3, n3, c3, hn3, hr3, P1⟩ := cn_pass_is A7 c7 n7 fa e x w2 HR7.out.1 HR7.out.2 x' hx' ga hga
      obtain ⟨A4, n4, c4, hn4, hr4, P2⟩ := cn_pass_is A8 c8 n8 fb e y w2 HR8.out.1 HR8.out.2 y' hy' gb hgb
      rw [hx', hy', hga, hgb] at hok
      rw [hga, hgb, hn3, hn4, HR7.out.1, HR8.out.1] at hwt
      have HR3 := Lib.hid (And.intro hn3 hr3)
      have HR4 := Lib.hid (And.intro hn4 hr4)
      have HOK2 := Lib.hid hok
      have hew : IntKind.i64.wrap (e - 1) = e - 1 := IntWalk.i64_in _ (by omega)
      clear hn3 hr3 hn4 hr4 hok hx' hy' hga hgb HR7 HR8 HOK hcur
      have hcu : curI (some e) = e := rfl
      rw [hcu]
      go_upto_region 7 with fail
      go_cut [] from 23 to 59 (fun wx => Hid (kRn.Own wx (w2.heap.size + 2) (.slice A9 n9 c9) (dn ++ pendC o)) ∧ Hid (SdAt wx w2.heap.size x' (.slice A3 n3 c3)) ∧ Hid (SdAt wx (w2.heap.size + 1) y' (.slice A4 n4 c4)) ∧ Hid (Below w2.heap.size w2 wx))
      case first =>
        obtain ⟨a0, a1, a3⟩ := H7.out
        obtain ⟨b0, b1, b3⟩ := H8.out
        have P1 := fun w h => (P1 w h)
        clear HS HK HK0 HUU HNN HOK2 HR3 HR4 HN HM H1 H2 HN9
        go_region_with (first
          | ((with_reducible refine (P1 _ (by first | exact HBW.out | exact HBW.out.drew)).out.mono ?_); rintro e w3 ⟨rfl, hq⟩; (try replace hq := below_of_drew hq); clear a0 a1 a3 b0 b1 b3; replace H7 := Lib.hid (H7.out.below hq); replace H8 := Lib.hid (H8.out.below hq); replace HO := Lib.hid (HO.out.below hq); replace HBW := Lib.hid (HBW.out.trans (hq.mono HBW.out.size)); obtain ⟨a0, a1, a3⟩ := H7.out; obtain ⟨b0, b1, b3⟩ := H8.out; clear hq)
          | ((with_reducible refine (P2 _ (by first | exact HBW.out | exact HBW.out.drew)).out.mono ?_); rintro e w4 ⟨rfl, hq⟩; (try replace hq := below_of_drew hq); clear a0 a1 a3 b0 b1 b3; replace H7 := Lib.hid (H7.out.below hq); replace H8 := Lib.hid (H8.out.below hq); replace HO := Lib.hid (HO.out.below hq); replace HBW := Lib.hid (HBW.out.trans (hq.mono HBW.out.size)); obtain ⟨a0, a1, a3⟩ := H7.out; obtain ⟨b0, b1, b3⟩ := H8.out; clear hq))
        all_goals
          go_wp2_with fail
          go_meet
          exact ⟨Lib.hid ((((HO.out.other (grownBy_set _ _ _ _) (by omega)).other (grownBy_set _ _ _ _) (by omega)).other (grownBy_set _ _ _ _) (by omega)).other (grownBy_set _ _ _ _) (by omega)), Lib.hid ((H7.out.set.other (by omega)).other (by omega)), Lib.hid ((H8.out.other (by omega)).other (by omega)).set,
            Lib.hid ((((HBW.out.setCell (p := ⟨w2.heap.size, 0, none⟩) (Nat.le_refl _) _).setCell (p := ⟨w2.heap.size, 1, none⟩) (Nat.le_refl _) _).setCell (p := ⟨w2.heap.size + 1, 0, none⟩) (Nat.le_succ _) _).setCell (p := ⟨w2.heap.size + 1, 1, none⟩) (Nat.le_succ _) _)⟩
      case rest =>
        clear HO H7 H8 HBW P1 P2
        obtain ⟨HO, H7, H8, HBW⟩ := hcut
        obtain ⟨a0, a1, a3⟩ := H7.out
        obtain ⟨b0, b1, b3⟩ := H8.out
        obtain ⟨v, hv⟩ : ∃ v, kf x' y' = v := ⟨_, rfl⟩
        have KC := fun w => Lib.hid (K x' y' w)
        rw [hv] at KC HOK2
        obtain ⟨U2, hU2⟩ : ∃ U2, curI (nearI ga gb) = U2 := ⟨_, rfl⟩
        obtain ⟨v2, hv2⟩ : ∃ v2, (nearI ga gb).isSome = v2 := ⟨_, rfl⟩
        have NE := fun w (h : Below w2.heap.size w2 w) => Lib.hid (cn_nearest A3 A4 c3 c4 n3 n4 ga gb x' y' HR3.out.1.symm HR4.out.1.symm U2 hU2 v2 hv2 w (HR3.out.2.call h) (HR4.out.2.call h))
        have HU2 := Lib.hid hU2
        have HV2 := Lib.hid hv2
        clear hv hU2 hv2 hcu
        cases o with
        | none =>
          cases v
          · go_wp2_with (first
              | ((with_reducible refine (KC _).out.mono ?_); rintro e5 w5 ⟨rfl, rfl⟩)
              | ((with_reducible refine (NE _ HBW.out).out.mono ?_); rintro e6 w6 ⟨rfl, hq⟩; have HO6 := Lib.hid (HO.out.below hq); have H76 := Lib.hid (H7.out.below hq); have H86 := Lib.hid (H8.out.below hq); have HB6 := Lib.hid (HBW.out.trans (hq.mono HBW.out.size)); clear hq))
            go_roundg (n3 + n4)
            case measure => omega
            case rel => exact ⟨e, x', y', ga, gb, A3, A4, n3, c3, n4, c4, dn, none, HOK2, HO6, rfl, by rw [HU2.out], by rw [HV2.out], H76, H86, HR3, HR4, HB6, by rw [HN9.out]; omega, Nat.le_refl _⟩
          · have HRW := fun w : World => Lib.hid (rn_row w e 0)
            have HLE := Lib.hid (show (dn ++ pendC none).length + [(⟨e, 0⟩ : Rn)].length ≤ 1000000 by rw [HN9.out, List.length_singleton]; omega)
            go_wp2_with (first
              | ((with_reducible refine (KC _).out.mono ?_); rintro e5 w5 ⟨rfl, rfl⟩)
              | (at_builtin; refine wpList_app_k kRn rfl (.tmp 47) (.tmp 50) rfl (w2.heap.size + 2) _ _ rfl (Kind.Own.alloc HO.out _) _ (some ⟨wc.heap.size, 0, none⟩) 1 1 [⟨e, 0⟩] rfl rfl (HRW wc).out HLE.out (by decide) (cle_alloc (H8.out.lt) _) ?_; intro v3 w3 hown3 hg3 hb3 _; have HO3 := Lib.hid hown3; have HB3 := Lib.hid ((HBW.out.alloc HBW.out.size _).trans (hb3.mono (by omega))); have H73 := Lib.hid (SdAt.low H7.out (w' := w3) hb3 (by omega)); have H83 := Lib.hid (SdAt.low H8.out (w' := w3) hb3 (by omega)); clear a0 a1 a3 b0 b1 b3; obtain ⟨a0, a1, a3⟩ := H73.out; obtain ⟨b0, b1, b3⟩ := H83.out; clear hown3 hg3 hb3)
              | ((with_reducible refine (NE _ HB3.out).out.mono ?_); rintro e6 w6 ⟨rfl, hq⟩; have HO6 := Lib.hid (HO3.out.below hq); have H76 := Lib.hid (H73.out.below hq); have H86 := Lib.hid (H83.out.below hq); have HB6 := Lib.hid (HB3.out.trans (hq.mono HB3.out.size)); clear hq))
            go_roundg (n3 + n4)
            case measure => omega
            case rel => exact ⟨e, x', y', ga, gb, A3, A4, n3, c3, n4, c4, dn, some e, HOK2, by have h := HO6.out; rw [pendC, List.append_nil] at h; exact h, rfl, by rw [HU2.out], by rw [HV2.out], H76, H86, HR3, HR4, HB6, by have h1 := HN9.out; simp [pendC] at h1 ⊢; omega, Nat.le_refl _⟩
        | some lo =>
          cases v
          · obtain ⟨D, hD⟩ : ∃ D, dn.length = D := ⟨_, rfl⟩
            obtain rfl : n9 = D + 1 := by rw [← HN9.out, List.length_append, hD]; rfl
            have hga : (dn ++ pendC (some lo))[D]? = some ⟨lo, 0⟩ := by rw [← hD, List.getElem?_append_right (Nat.le_refl _), Nat.sub_self]; rfl
            obtain ⟨g5, cp5, hv5, hcp, hgb, -, -, -⟩ := HO.out.some_ HN9.out.symm (by omega)
            injection hv5 with hA9 _ hc9
            subst hA9 hc9
            obtain ⟨hg1, hg2, hfz, hcs⟩ := HO.out.at_g HN9.out.symm (by omega)
            have e1 := hcs D _ hga 1 _ rfl
            change wc.cell? ⟨g5, D * 2 + 1, none⟩ = _ at e1
            have hD8 : D ≤ 1000000 := by omega
            have HOF := Lib.hid (own_to HO.out HN9.out.symm hD (e - 1))
            have HBF := Lib.hid (HBW.out.setCell (p := ⟨g5, D * 2 + 1, none⟩) (by show w2.heap.size ≤ g5; omega) (.int .i64 (e - 1)))
            have H7F := Lib.hid (H7.out.other (g' := g5) (k := D * 2 + 1) (u := .int .i64 (e - 1)) (by omega))
            have H8F := Lib.hid (H8.out.other (g' := g5) (k := D * 2 + 1) (u := .int .i64 (e - 1)) (by omega))
            have HDD := Lib.hid hD
            clear hcs hga hD
            obtain ⟨f0, f1, -⟩ := H7F.out
            obtain ⟨f2, f3, -⟩ := H8F.out
            go_wp2_with (first
              | ((with_reducible refine (KC _).out.mono ?_); rintro e5 w5 ⟨rfl, rfl⟩)
              | ((with_reducible refine (NE _ HBF.out).out.mono ?_); rintro e6 w6 ⟨rfl, hq⟩; have HO6 := Lib.hid (HOF.out.below hq); have H76 := Lib.hid (H7F.out.below hq); have H86 := Lib.hid (H8F.out.below hq); have HB6 := Lib.hid (HBF.out.trans (hq.mono HBF.out.size)); clear hq))
            go_roundg (n3 + n4)
            case measure => omega
            case rel => exact ⟨e, x', y', ga, gb, A3, A4, n3, c3, n4, c4, dn ++ [⟨lo, e - 1⟩], none, HOK2, by rw [pendC, List.append_nil]; exact HO6.out, rfl, by rw [HU2.out], by rw [HV2.out], H76, H86, HR3, HR4, HB6, by have h1 := HDD.out; simp [pendC]; omega, Nat.le_refl _⟩
          · go_wp2_with (first
              | ((with_reducible refine (KC _).out.mono ?_); rintro e5 w5 ⟨rfl, rfl⟩)
              | ((with_reducible refine (NE _ HBW.out).out.mono ?_); rintro e6 w6 ⟨rfl, hq⟩; have HO6 := Lib.hid (HO.out.below hq); have H76 := Lib.hid (H7.out.below hq); have H86 := Lib.hid (H8.out.below hq); have HB6 := Lib.hid (HBW.out.trans (hq.mono HBW.out.size)); clear hq))
            go_roundg (n3 + n4)
            case measure => omega
            case rel => exact ⟨e, x', y', ga, gb, A3, A4, n3, c3, n4, c4, dn, some lo, HOK2, HO6, rfl, by rw [HU2.out], by rw [HV2.out], H76, H86, HR3, HR4, HB6, by rw [HN9.out]; omega, Nat.le_refl _⟩
end Go.Proofs.Ytnfhkmlggajhaaa
