/-
  Layer 8 (ranges), the document's words: all edges of two lists.
-/
import Derived.Test.YtgoenmgkhdibnaaRgsD
namespace Go.Proofs.Ytgoenmgkhdibnaa
open Go.RowKit

theorem EdgesOk.all {E : List (List UInt8)} (h : EdgesOk E) : ∀ x ∈ E, x.length ≤ 17 := fun x hx => by
  obtain ⟨m, rfl, _, h2⟩ := h
  rcases List.mem_cons.1 hx with rfl | hx
  · simp
  · exact h2 x hx
theorem edges_next {l : List Rng} {k : Nat} {r : Rng} (h : l[k]? = some r) : edgesL (l.take (k + 1)) = addE (edgesL (l.take k)) r := by
  rw [List.take_add_one, h]; exact edgesL_snoc _ _
theorem addE_wrong {E : List (List UInt8)} {r : Rng} (h : rightR r = false) : addE E r = E := by unfold addE; rw [h]
theorem addE_open {E : List (List UInt8)} {r : Rng} (h : rightR r = true) (h' : r.op = true) : addE E r = putL E r.lo := by unfold addE; rw [h, h']
theorem addE_shut {E : List (List UInt8)} {r : Rng} (h : rightR r = true) (h' : r.op = false) : addE E r = putL (putL E r.lo) r.hi := by unfold addE; rw [h, h']
/-- A row of texts that reads, with its length named. -/
theorem ref_put_n (A : Option Addr) (c n : Nat) (l : List (List UInt8)) (s : List UInt8) (m : List (List UInt8)) (hn : n = l.length) (hnl : n ≤ 100000) (hl : ∀ x ∈ l, x.length ≤ 17) (hm : putL l s = m) (w : World) (hr : kStr.Rd w w.heap.size A c l) :
    Calls Try.prog 47 #[.slice A n c, .string (str s)] w (RetS w m) := by
  subst hm
  exact ref_put A c n l s hn hnl (fun x hx => Nat.le_trans (hl x hx) (by decide)) w hr
set_option maxHeartbeats 2000000 in
theorem ref_edges (A B : Option Addr) (c d n m : Nat) (a b : List Rng) (hn : n = a.length) (hm : m = b.length) (hnl : n ≤ 1000) (hml : m ≤ 1000) (w : World) (ha : kRng.Rd w w.heap.size A c a) (hb : kRng.Rd w w.heap.size B d b) :
    Calls Try.prog 36 #[.slice A n c, .slice B m d] w (RetS w (edgesL (a ++ b))) := by
  have HN := Lib.hid hn
  have HM := Lib.hid hm
  have HA := Lib.hid ha
  have HB := Lib.hid hb
  have hcx : n ≤ c := by rw [hn]; exact ha.room
  have hdx : m ≤ d := by rw [hm]; exact hb.room
  clear hn hm ha hb
  go_enter Try.func36, Try.ntmps36
  go_wp2_with fail
  go_loopw [5, 6] (fun v i wr => ∃ (k ne c0 : Nat) (A0 : Option Addr) (E : List (List UInt8)), k ≤ n + m ∧ Hid (edgesL ((a ++ b).take k) = E) ∧ v = .slice A0 ne c0 ∧ Hid (ne = E.length) ∧ Hid (kStr.Rd wr wr.heap.size A0 c0 E) ∧ i = .int .i64 k ∧ Below w.heap.size w wr) (fun _ i _ => n + m - (intOf i).toNat)
  case atStart => exact ⟨0, 1, 1, some ⟨w.heap.size, 0, none⟩, [[]], by omega, rfl, rfl, rfl, (Kind.rd_new (k := kStr) (l := [[]]) rfl rfl (by simp)).more (by simp), rfl, (Below.refl _ _).alloc (Nat.le_refl _) _⟩
  case round =>
    obtain ⟨k, ne, c0, A0, E, hk, HE, rfl, HV, HD, rfl, hbw⟩ := hrel
    by_cases hlt : k < n + m
    · have hx : ∃ r, (a ++ b)[k]? = some r := ⟨_, List.getElem?_eq_getElem (by rw [List.length_append]; have := HN.out; have := HM.out; omega)⟩
      obtain ⟨r, hr⟩ := hx
      have HX := Lib.hid ((edges_next hr).trans (by rw [HE.out]))
      have HK := Lib.hid (show E.length ≤ 5000 by rw [← HE.out]; have := edgesL_len ((a ++ b).take k); rw [List.length_take, List.length_append] at this; have := HN.out; have := HM.out; omega)
      have H17 := Lib.hid (show ∀ x ∈ E, x.length ≤ 17 by rw [← HE.out]; exact (edgesL_ok _).all)
      obtain ⟨x, hxr⟩ : ∃ x, rightR r = x := ⟨_, rfl⟩
      have C := fun w => Lib.hid (ref_rright r _ _ _ x (IsR.mk' r) hxr w)
      obtain ⟨E1, hE1⟩ : ∃ E1, putL E r.lo = E1 := ⟨_, rfl⟩
      have P1 := fun w hr => Lib.hid (ref_put_n A0 c0 ne E r.lo E1 HV.out (by have := HV.out; have := HK.out; omega) H17.out hE1 w hr)
      have hR := rightR_lo (r := r)
      have hR2 := rightR_hi (r := r)
      have HX1 := Lib.hid (show x = false → edgesL ((a ++ b).take (k + 1)) = E from fun e => HX.out.trans (addE_wrong (hxr.trans e)))
      have HX2 := Lib.hid (show x = true → r.op = true → edgesL ((a ++ b).take (k + 1)) = E1 from fun e e' => (HX.out.trans (addE_open (hxr.trans e) e')).trans hE1)
      have HX3 := Lib.hid (show x = true → r.op = false → edgesL ((a ++ b).take (k + 1)) = putL E1 r.hi from fun e e' => (HX.out.trans (addE_shut (hxr.trans e) e')).trans (by rw [hE1]))
      have HK1 := Lib.hid (show E1.length ≤ 5001 by rw [← hE1]; have := putL_len E r.lo; have := HK.out; omega)
      have H171 := Lib.hid (show x = true → ∀ y ∈ E1, y.length ≤ 17 from fun e y hy => by
        rw [← hE1] at hy
        rcases putL_mem.1 hy with rfl | hy
        · exact hR (hxr.trans e)
        · exact H17.out y hy)
      have P2 := fun hx A1 c1 w hr => Lib.hid (ref_put_n A1 c1 E1.length E1 r.hi _ rfl (Nat.le_trans HK1.out (by decide)) (H171.out hx) rfl w hr)
      clear HX hE1 hR hR2
      obtain ⟨S, hS⟩ : ∃ S, str r.lo = S := ⟨_, rfl⟩
      obtain ⟨T, hT⟩ : ∃ T, str r.hi = T := ⟨_, rfl⟩
      obtain ⟨q, hq⟩ : ∃ q, r.op = q := ⟨_, rfl⟩
      rw [hS, hT, hq] at C
      rw [hS] at P1
      rw [hT] at P2
      rw [hq] at HX2 HX3
      have HRG := Lib.hid (rgAt_new wr S T q 35)
      by_cases hkn : k < n
      · have hra : a[k]? = some r := by rw [← hr, List.getElem?_append_left (by have := HN.out; omega)]
        obtain ⟨b1, o1, rfl, hb1, hcell⟩ := rngs_at (HA.out.below hbw) (by have := HN.out; omega)
        obtain ⟨k0, k1, k2⟩ := hcell k r hra
        rw [hS] at k0
        rw [hT] at k1
        rw [hq] at k2
        have hb2 := Nat.lt_of_lt_of_le hb1 hbw.size
        clear hcell hra hr hxr hS hT hq
        cases x
        · replace HX1 := Lib.hid (HX1.out rfl)
          clear HX2 HX3 H171 P2 P1
          go_wp2_with ((with_reducible refine (C _).out.mono ?_); rintro e w2 ⟨rfl, hq⟩; have HB2 := Lib.hid ((hbw.alloc hbw.size _).trans (hq.mono (le_alloc hbw.size _))); have HD2 := Lib.hid ((HD.out.call ((Below.refl _ _).alloc (Nat.le_refl _) _)).call hq))
          go_roundw
          case rel => exact ⟨k + 1, ne, c0, A0, E, by omega, HX1.out, rfl, HV, HD2, by go_num, HB2.out⟩
          case measure => simp [intOf]; omega
        · replace P2 := P2 rfl
          replace HX2 := fun e => Lib.hid (HX2.out rfl e)
          replace HX3 := fun e => Lib.hid (HX3.out rfl e)
          clear HX1 H171
          cases q
          · replace HX3 := HX3 rfl
            clear HX2
            go_wp2_with (first
              | ((with_reducible refine (C _).out.mono ?_); rintro e w2 ⟨rfl, hq⟩; have HB2 := Lib.hid ((hbw.alloc hbw.size _).trans (hq.mono (le_alloc hbw.size _))); have HD2 := Lib.hid ((HD.out.call ((Below.refl _ _).alloc (Nat.le_refl _) _)).call hq); have HG2 := Lib.hid (HRG.out.below hq); obtain ⟨g0, g1, g2, g3⟩ := HG2.out)
              | ((with_reducible refine (P1 _ HD2.out).out.mono ?_); rintro e w3 ⟨A3, c3, rfl, hrd, hq3⟩; clear g0 g1 g2 g3; have HB3 := Lib.hid (HB2.out.trans (hq3.mono HB2.out.size)); have HD3 := Lib.hid hrd; have HG3 := Lib.hid (HG2.out.below hq3); obtain ⟨g0, g1, g2, g3⟩ := HG3.out; clear hrd)
              | ((with_reducible refine (P2 _ _ _ HD3.out).out.mono ?_); rintro e w4 ⟨A4, c4, rfl, hrd, hq4⟩; clear g0 g1 g2 g3; have HB4 := Lib.hid (HB3.out.trans (hq4.mono HB3.out.size)); have HD4 := Lib.hid hrd; clear hrd))
            go_roundw
            case rel => exact ⟨k + 1, _, c4, A4, putL E1 r.hi, by omega, HX3.out, rfl, rfl, HD4, by go_num, HB4.out⟩
            case measure => simp [intOf]; omega
          · replace HX2 := HX2 rfl
            clear HX3 P2
            go_wp2_with (first
              | ((with_reducible refine (C _).out.mono ?_); rintro e w2 ⟨rfl, hq⟩; have HB2 := Lib.hid ((hbw.alloc hbw.size _).trans (hq.mono (le_alloc hbw.size _))); have HD2 := Lib.hid ((HD.out.call ((Below.refl _ _).alloc (Nat.le_refl _) _)).call hq); have HG2 := Lib.hid (HRG.out.below hq); obtain ⟨g0, g1, g2, g3⟩ := HG2.out)
              | ((with_reducible refine (P1 _ HD2.out).out.mono ?_); rintro e w3 ⟨A3, c3, rfl, hrd, hq3⟩; clear g0 g1 g2 g3; have HB3 := Lib.hid (HB2.out.trans (hq3.mono HB2.out.size)); have HD3 := Lib.hid hrd; have HG3 := Lib.hid (HG2.out.below hq3); obtain ⟨g0, g1, g2, g3⟩ := HG3.out; clear hrd))
            go_roundw
            case rel => exact ⟨k + 1, _, c3, A3, E1, by omega, HX2.out, rfl, rfl, HD3, by go_num, HB3.out⟩
            case measure => simp [intOf]; omega
      · have hrb : b[k - n]? = some r := by rw [← hr, List.getElem?_append_right (by have := HN.out; omega)]; rw [HN.out]
        obtain ⟨b1, o1, rfl, hb1, hcell⟩ := rngs_at (HB.out.below hbw) (by have := HM.out; omega)
        obtain ⟨k0, k1, k2⟩ := hcell (k - n) r hrb
        rw [hS] at k0
        rw [hT] at k1
        rw [hq] at k2
        have hb2 := Nat.lt_of_lt_of_le hb1 hbw.size
        obtain ⟨j, hj⟩ : ∃ j, k = n + j := ⟨k - n, by omega⟩
        subst hj
        rw [Nat.add_sub_cancel_left] at k0 k1 k2
        clear hcell hrb hr hxr hS hT hq hkn
        cases x
        · replace HX1 := Lib.hid (HX1.out rfl)
          clear HX2 HX3 H171 P2 P1
          go_wp2_with ((with_reducible refine (C _).out.mono ?_); rintro e w2 ⟨rfl, hq⟩; have HB2 := Lib.hid ((hbw.alloc hbw.size _).trans (hq.mono (le_alloc hbw.size _))); have HD2 := Lib.hid ((HD.out.call ((Below.refl _ _).alloc (Nat.le_refl _) _)).call hq))
          go_roundw
          case rel => exact ⟨n + j + 1, ne, c0, A0, E, by omega, HX1.out, rfl, HV, HD2, by go_num, HB2.out⟩
          case measure => simp [intOf]; omega
        · replace P2 := P2 rfl
          replace HX2 := fun e => Lib.hid (HX2.out rfl e)
          replace HX3 := fun e => Lib.hid (HX3.out rfl e)
          clear HX1 H171
          cases q
          · replace HX3 := HX3 rfl
            clear HX2
            go_wp2_with (first
              | ((with_reducible refine (C _).out.mono ?_); rintro e w2 ⟨rfl, hq⟩; have HB2 := Lib.hid ((hbw.alloc hbw.size _).trans (hq.mono (le_alloc hbw.size _))); have HD2 := Lib.hid ((HD.out.call ((Below.refl _ _).alloc (Nat.le_refl _) _)).call hq); have HG2 := Lib.hid (HRG.out.below hq); obtain ⟨g0, g1, g2, g3⟩ := HG2.out)
              | ((with_reducible refine (P1 _ HD2.out).out.mono ?_); rintro e w3 ⟨A3, c3, rfl, hrd, hq3⟩; clear g0 g1 g2 g3; have HB3 := Lib.hid (HB2.out.trans (hq3.mono HB2.out.size)); have HD3 := Lib.hid hrd; have HG3 := Lib.hid (HG2.out.below hq3); obtain ⟨g0, g1, g2, g3⟩ := HG3.out; clear hrd)
              | ((with_reducible refine (P2 _ _ _ HD3.out).out.mono ?_); rintro e w4 ⟨A4, c4, rfl, hrd, hq4⟩; clear g0 g1 g2 g3; have HB4 := Lib.hid (HB3.out.trans (hq4.mono HB3.out.size)); have HD4 := Lib.hid hrd; clear hrd))
            go_roundw
            case rel => exact ⟨n + j + 1, _, c4, A4, putL E1 r.hi, by omega, HX3.out, rfl, rfl, HD4, by go_num, HB4.out⟩
            case measure => simp [intOf]; omega
          · replace HX2 := HX2 rfl
            clear HX3 P2
            go_wp2_with (first
              | ((with_reducible refine (C _).out.mono ?_); rintro e w2 ⟨rfl, hq⟩; have HB2 := Lib.hid ((hbw.alloc hbw.size _).trans (hq.mono (le_alloc hbw.size _))); have HD2 := Lib.hid ((HD.out.call ((Below.refl _ _).alloc (Nat.le_refl _) _)).call hq); have HG2 := Lib.hid (HRG.out.below hq); obtain ⟨g0, g1, g2, g3⟩ := HG2.out)
              | ((with_reducible refine (P1 _ HD2.out).out.mono ?_); rintro e w3 ⟨A3, c3, rfl, hrd, hq3⟩; clear g0 g1 g2 g3; have HB3 := Lib.hid (HB2.out.trans (hq3.mono HB2.out.size)); have HD3 := Lib.hid hrd; have HG3 := Lib.hid (HG2.out.below hq3); obtain ⟨g0, g1, g2, g3⟩ := HG3.out; clear hrd))
            go_roundw
            case rel => exact ⟨n + j + 1, _, c3, A3, E1, by omega, HX2.out, rfl, rfl, HD3, by go_num, HB3.out⟩
            case measure => simp [intOf]; omega
    · have HFIN := Lib.hid (show E = edgesL (a ++ b) by rw [← HE.out, List.take_of_length_le (by rw [List.length_append]; have := HN.out; have := HM.out; omega)])
      go_wp2_with fail
      go_ret
      exact ⟨A0, c0, by rw [← HFIN.out, ← HV.out]; rfl, by rw [← HFIN.out]; exact HD.out, hbw⟩
end Go.Proofs.Ytgoenmgkhdibnaa
