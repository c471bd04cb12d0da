/-
  Several texts in one: RgsE, RgsF, KnwB, OpenPcs, KnwC, KnwD, KnwE, KnwMk, KnwF.
-/
import Derived.Deep.RegionHeld3
import Derived.Deep.CutRange
import Derived.Test.YtaodifpnfejbbaaGreatMg5
/-
  Layer 8 (ranges), the document's words: all edges of two lists.
-/
namespace Go.Proofs.YtaodifpnfejbbaaGreat
open Go.RowKit

theorem EdgesOk.all {E : List (List UInt8)} (h : EdgesOk E) : ∀ x ∈ E, x.length ≤ 17 := fun x hx => by
  obtain ⟨m, rfl, _, h2⟩ := h
  rcases List.mem_cons.1 hx with rfl | hx
  · simp
  · exact h2 x hx
theorem edges_next {l : List Rng} {k : Nat} {r : Rng} (h : l[k]? = some r) : edgesL (l.take (k + 1)) = addE (edgesL (l.take k)) r := by
  rw [List.take_add_one, h]; exact edgesL_snoc _ _
theorem addE_wrong {E : List (List UInt8)} {r : Rng} (h : rightR r = false) : addE E r = E := by unfold addE; rw [h]
theorem addE_open {E : List (List UInt8)} {r : Rng} (h : rightR r = true) (h' : r.op = true) : addE E r = putL E r.lo := by unfold addE; rw [h, h']
theorem addE_shut {E : List (List UInt8)} {r : Rng} (h : rightR r = true) (h' : r.op = false) : addE E r = putL (putL E r.lo) r.hi := by unfold addE; rw [h, h']
/-- A row of texts that reads, with its length named. -/
theorem ref_put_n (A : Option Addr) (c n : Nat) (l : List (List UInt8)) (s : List UInt8) (m : List (List UInt8)) (hn : n = l.length) (hnl : n ≤ 100000) (hl : ∀ x ∈ l, x.length ≤ 17) (hm : putL l s = m) (w : World) (hr : kStr.Rd w w.heap.size A c l) :
    Calls Tryz.prog 117 #[.slice A n c, .string (str s)] w (RetS w m) := by
  subst hm
  exact ref_put A c n l s hn hnl (fun x hx => Nat.le_trans (hl x hx) (by decide)) w hr
set_option maxHeartbeats 2000000 in
theorem ref_edges (A B : Option Addr) (c d n m : Nat) (a b : List Rng) (hn : n = a.length) (hm : m = b.length) (hnl : n ≤ 10000) (hml : m ≤ 10000) (w : World) (ha : kRng.Rd w w.heap.size A c a) (hb : kRng.Rd w w.heap.size B d b) :
    Calls Tryz.prog 88 #[.slice A n c, .slice B m d] w (RetS w (edgesL (a ++ b))) := by
  have HN := Lib.hid hn
  have HM := Lib.hid hm
  have HA := Lib.hid ha
  have HB := Lib.hid hb
  have hcx : n ≤ c := by rw [hn]; exact ha.room
  have hdx : m ≤ d := by rw [hm]; exact hb.room
  clear hn hm ha hb
  go_enter Tryz.func88, Tryz.ntmps88
  go_wp2_with fail
  go_loopw [5, 6] (fun v i wr => ∃ (k ne c0 : Nat) (A0 : Option Addr) (E : List (List UInt8)), k ≤ n + m ∧ Hid (edgesL ((a ++ b).take k) = E) ∧ v = .slice A0 ne c0 ∧ Hid (ne = E.length) ∧ Hid (kStr.Rd wr wr.heap.size A0 c0 E) ∧ i = .int .i64 k ∧ Below w.heap.size w wr) (fun _ i _ => n + m - (intOf i).toNat)
  case atStart => exact ⟨0, 1, 1, some ⟨w.heap.size, 0, none⟩, [[]], by omega, rfl, rfl, rfl, (Kind.rd_new (k := kStr) (l := [[]]) rfl rfl (by simp)).more (by simp), rfl, (Below.refl _ _).alloc (Nat.le_refl _) _⟩
  case round =>
    obtain ⟨k, ne, c0, A0, E, hk, HE, rfl, HV, HD, rfl, hbw⟩ := hrel
    by_cases hlt : k < n + m
    · have hx : ∃ r, (a ++ b)[k]? = some r := ⟨_, List.getElem?_eq_getElem (by rw [List.length_append]; have := HN.out; have := HM.out; omega)⟩
      obtain ⟨r, hr⟩ := hx
      have HX := Lib.hid ((edges_next hr).trans (by rw [HE.out]))
      have HK := Lib.hid (show E.length ≤ 50000 by rw [← HE.out]; have := edgesL_len ((a ++ b).take k); rw [List.length_take, List.length_append] at this; have := HN.out; have := HM.out; omega)
      have H17 := Lib.hid (show ∀ x ∈ E, x.length ≤ 17 by rw [← HE.out]; exact (edgesL_ok _).all)
      obtain ⟨x, hxr⟩ : ∃ x, rightR r = x := ⟨_, rfl⟩
      have C := fun w => Lib.hid (ref_rright r _ _ _ x (IsR.mk' r) hxr w)
      obtain ⟨E1, hE1⟩ : ∃ E1, putL E r.lo = E1 := ⟨_, rfl⟩
      have P1 := fun w hr => Lib.hid (ref_put_n A0 c0 ne E r.lo E1 HV.out (by have := HV.out; have := HK.out; omega) H17.out hE1 w hr)
      have hR := rightR_lo (r := r)
      have hR2 := rightR_hi (r := r)
      have HX1 := Lib.hid (show x = false → edgesL ((a ++ b).take (k + 1)) = E from fun e => HX.out.trans (addE_wrong (hxr.trans e)))
      have HX2 := Lib.hid (show x = true → r.op = true → edgesL ((a ++ b).take (k + 1)) = E1 from fun e e' => (HX.out.trans (addE_open (hxr.trans e) e')).trans hE1)
      have HX3 := Lib.hid (show x = true → r.op = false → edgesL ((a ++ b).take (k + 1)) = putL E1 r.hi from fun e e' => (HX.out.trans (addE_shut (hxr.trans e) e')).trans (by rw [hE1]))
      have HK1 := Lib.hid (show E1.length ≤ 50001 by rw [← hE1]; have := putL_len E r.lo; have := HK.out; omega)
      have H171 := Lib.hid (show x = true → ∀ y ∈ E1, y.length ≤ 17 from fun e y hy => by
        rw [← hE1] at hy
        rcases putL_mem.1 hy with rfl | hy
        · exact hR (hxr.trans e)
        · exact H17.out y hy)
      have P2 := fun hx A1 c1 w hr => Lib.hid (ref_put_n A1 c1 E1.length E1 r.hi _ rfl (Nat.le_trans HK1.out (by decide)) (H171.out hx) rfl w hr)
      clear HX hE1 hR hR2
      obtain ⟨S, hS⟩ : ∃ S, str r.lo = S := ⟨_, rfl⟩
      obtain ⟨T, hT⟩ : ∃ T, str r.hi = T := ⟨_, rfl⟩
      obtain ⟨q, hq⟩ : ∃ q, r.op = q := ⟨_, rfl⟩
      rw [hS, hT, hq] at C
      rw [hS] at P1
      rw [hT] at P2
      rw [hq] at HX2 HX3
      have HRG := Lib.hid (rgAt_new wr S T q 42)
      by_cases hkn : k < n
      · have hra : a[k]? = some r := by rw [← hr, List.getElem?_append_left (by have := HN.out; omega)]
        obtain ⟨b1, o1, rfl, hb1, hcell⟩ := rngs_at (HA.out.below hbw) (by have := HN.out; omega)
        obtain ⟨k0, k1, k2⟩ := hcell k r hra
        rw [hS] at k0
        rw [hT] at k1
        rw [hq] at k2
        have hb2 := Nat.lt_of_lt_of_le hb1 hbw.size
        clear hcell hra hr hxr hS hT hq
        cases x
        · replace HX1 := Lib.hid (HX1.out rfl)
          clear HX2 HX3 H171 P2 P1
          go_wp2_with ((with_reducible refine (C _).out.mono ?_); rintro e w2 ⟨rfl, hq⟩; have HB2 := Lib.hid ((hbw.alloc hbw.size _).trans (hq.mono (le_alloc hbw.size _))); have HD2 := Lib.hid ((HD.out.call ((Below.refl _ _).alloc (Nat.le_refl _) _)).call hq))
          go_roundw
          case rel => exact ⟨k + 1, ne, c0, A0, E, by omega, HX1.out, rfl, HV, HD2, by go_num, HB2.out⟩
          case measure => simp [intOf]; omega
        · replace P2 := P2 rfl
          replace HX2 := fun e => Lib.hid (HX2.out rfl e)
          replace HX3 := fun e => Lib.hid (HX3.out rfl e)
          clear HX1 H171
          cases q
          · replace HX3 := HX3 rfl
            clear HX2
            go_wp2_with (first
              | ((with_reducible refine (C _).out.mono ?_); rintro e w2 ⟨rfl, hq⟩; have HB2 := Lib.hid ((hbw.alloc hbw.size _).trans (hq.mono (le_alloc hbw.size _))); have HD2 := Lib.hid ((HD.out.call ((Below.refl _ _).alloc (Nat.le_refl _) _)).call hq); have HG2 := Lib.hid (HRG.out.below hq); obtain ⟨g0, g1, g2, g3⟩ := HG2.out)
              | ((with_reducible refine (P1 _ HD2.out).out.mono ?_); rintro e w3 ⟨A3, c3, rfl, hrd, hq3⟩; clear g0 g1 g2 g3; have HB3 := Lib.hid (HB2.out.trans (hq3.mono HB2.out.size)); have HD3 := Lib.hid hrd; have HG3 := Lib.hid (HG2.out.below hq3); obtain ⟨g0, g1, g2, g3⟩ := HG3.out; clear hrd)
              | ((with_reducible refine (P2 _ _ _ HD3.out).out.mono ?_); rintro e w4 ⟨A4, c4, rfl, hrd, hq4⟩; clear g0 g1 g2 g3; have HB4 := Lib.hid (HB3.out.trans (hq4.mono HB3.out.size)); have HD4 := Lib.hid hrd; clear hrd))
            go_roundw
            case rel => exact ⟨k + 1, _, c4, A4, putL E1 r.hi, by omega, HX3.out, rfl, rfl, HD4, by go_num, HB4.out⟩
            case measure => simp [intOf]; omega
          · replace HX2 := HX2 rfl
            clear HX3 P2
            go_wp2_with (first
              | ((with_reducible refine (C _).out.mono ?_); rintro e w2 ⟨rfl, hq⟩; have HB2 := Lib.hid ((hbw.alloc hbw.size _).trans (hq.mono (le_alloc hbw.size _))); have HD2 := Lib.hid ((HD.out.call ((Below.refl _ _).alloc (Nat.le_refl _) _)).call hq); have HG2 := Lib.hid (HRG.out.below hq); obtain ⟨g0, g1, g2, g3⟩ := HG2.out)
              | ((with_reducible refine (P1 _ HD2.out).out.mono ?_); rintro e w3 ⟨A3, c3, rfl, hrd, hq3⟩; clear g0 g1 g2 g3; have HB3 := Lib.hid (HB2.out.trans (hq3.mono HB2.out.size)); have HD3 := Lib.hid hrd; have HG3 := Lib.hid (HG2.out.below hq3); obtain ⟨g0, g1, g2, g3⟩ := HG3.out; clear hrd))
            go_roundw
            case rel => exact ⟨k + 1, _, c3, A3, E1, by omega, HX2.out, rfl, rfl, HD3, by go_num, HB3.out⟩
            case measure => simp [intOf]; omega
      · have hrb : b[k - n]? = some r := by rw [← hr, List.getElem?_append_right (by have := HN.out; omega)]; rw [HN.out]
        obtain ⟨b1, o1, rfl, hb1, hcell⟩ := rngs_at (HB.out.below hbw) (by have := HM.out; omega)
        obtain ⟨k0, k1, k2⟩ := hcell (k - n) r hrb
        rw [hS] at k0
        rw [hT] at k1
        rw [hq] at k2
        have hb2 := Nat.lt_of_lt_of_le hb1 hbw.size
        obtain ⟨j, hj⟩ : ∃ j, k = n + j := ⟨k - n, by omega⟩
        subst hj
        rw [Nat.add_sub_cancel_left] at k0 k1 k2
        clear hcell hrb hr hxr hS hT hq hkn
        cases x
        · replace HX1 := Lib.hid (HX1.out rfl)
          clear HX2 HX3 H171 P2 P1
          go_wp2_with ((with_reducible refine (C _).out.mono ?_); rintro e w2 ⟨rfl, hq⟩; have HB2 := Lib.hid ((hbw.alloc hbw.size _).trans (hq.mono (le_alloc hbw.size _))); have HD2 := Lib.hid ((HD.out.call ((Below.refl _ _).alloc (Nat.le_refl _) _)).call hq))
          go_roundw
          case rel => exact ⟨n + j + 1, ne, c0, A0, E, by omega, HX1.out, rfl, HV, HD2, by go_num, HB2.out⟩
          case measure => simp [intOf]; omega
        · replace P2 := P2 rfl
          replace HX2 := fun e => Lib.hid (HX2.out rfl e)
          replace HX3 := fun e => Lib.hid (HX3.out rfl e)
          clear HX1 H171
          cases q
          · replace HX3 := HX3 rfl
            clear HX2
            go_wp2_with (first
              | ((with_reducible refine (C _).out.mono ?_); rintro e w2 ⟨rfl, hq⟩; have HB2 := Lib.hid ((hbw.alloc hbw.size _).trans (hq.mono (le_alloc hbw.size _))); have HD2 := Lib.hid ((HD.out.call ((Below.refl _ _).alloc (Nat.le_refl _) _)).call hq); have HG2 := Lib.hid (HRG.out.below hq); obtain ⟨g0, g1, g2, g3⟩ := HG2.out)
              | ((with_reducible refine (P1 _ HD2.out).out.mono ?_); rintro e w3 ⟨A3, c3, rfl, hrd, hq3⟩; clear g0 g1 g2 g3; have HB3 := Lib.hid (HB2.out.trans (hq3.mono HB2.out.size)); have HD3 := Lib.hid hrd; have HG3 := Lib.hid (HG2.out.below hq3); obtain ⟨g0, g1, g2, g3⟩ := HG3.out; clear hrd)
              | ((with_reducible refine (P2 _ _ _ HD3.out).out.mono ?_); rintro e w4 ⟨A4, c4, rfl, hrd, hq4⟩; clear g0 g1 g2 g3; have HB4 := Lib.hid (HB3.out.trans (hq4.mono HB3.out.size)); have HD4 := Lib.hid hrd; clear hrd))
            go_roundw
            case rel => exact ⟨n + j + 1, _, c4, A4, putL E1 r.hi, by omega, HX3.out, rfl, rfl, HD4, by go_num, HB4.out⟩
            case measure => simp [intOf]; omega
          · replace HX2 := HX2 rfl
            clear HX3 P2
            go_wp2_with (first
              | ((with_reducible refine (C _).out.mono ?_); rintro e w2 ⟨rfl, hq⟩; have HB2 := Lib.hid ((hbw.alloc hbw.size _).trans (hq.mono (le_alloc hbw.size _))); have HD2 := Lib.hid ((HD.out.call ((Below.refl _ _).alloc (Nat.le_refl _) _)).call hq); have HG2 := Lib.hid (HRG.out.below hq); obtain ⟨g0, g1, g2, g3⟩ := HG2.out)
              | ((with_reducible refine (P1 _ HD2.out).out.mono ?_); rintro e w3 ⟨A3, c3, rfl, hrd, hq3⟩; clear g0 g1 g2 g3; have HB3 := Lib.hid (HB2.out.trans (hq3.mono HB2.out.size)); have HD3 := Lib.hid hrd; have HG3 := Lib.hid (HG2.out.below hq3); obtain ⟨g0, g1, g2, g3⟩ := HG3.out; clear hrd))
            go_roundw
            case rel => exact ⟨n + j + 1, _, c3, A3, E1, by omega, HX2.out, rfl, rfl, HD3, by go_num, HB3.out⟩
            case measure => simp [intOf]; omega
    · have HFIN := Lib.hid (show E = edgesL (a ++ b) by rw [← HE.out, List.take_of_length_le (by rw [List.length_append]; have := HN.out; have := HM.out; omega)])
      go_wp2_with fail
      go_ret
      exact ⟨A0, c0, by rw [← HFIN.out, ← HV.out]; rfl, by rw [← HFIN.out]; exact HD.out, hbw⟩
end Go.Proofs.YtaodifpnfejbbaaGreat

/-
  Layer 8 (ranges), the document's words: the right list of what is meant.
-/
namespace Go.Proofs.YtaodifpnfejbbaaGreat
open Go.RowKit

theorem Kind.Rd.call2 {P : Program} {α : Type} {k : Kind P α} {w w1 w2 : World} {A : Option Addr} {c : Nat} {l : List α} (h : k.Rd w w.heap.size A c l) (h1 : Below w.heap.size w w1) (h2 : Below w1.heap.size w1 w2) : k.Rd w2 w2.heap.size A c l := (h.call h1).call h2
/-- The range that has begun. -/
def pendR : Option (List UInt8) → List Rng
  | none => []
  | some lo => [⟨lo, [], true⟩]
/-- What is handed back: a row of ranges that reads. -/
def RetR (w : World) (l : List Rng) (e : Ending) (w' : World) : Prop := ∃ A c, e = .returned (.slice A l.length c) ∧ kRng.Rd w' w'.heap.size A c l ∧ Below w.heap.size w w'
theorem mkR_on {f : List UInt8 → Bool} {x : List UInt8} {es : List (List UInt8)} (h : f x = true) : mkR f (x :: es) none = mkR f es (some x) := by rw [mkR, h]
theorem mkR_stay {f : List UInt8 → Bool} {x lo : List UInt8} {es : List (List UInt8)} (h : f x = true) : mkR f (x :: es) (some lo) = mkR f es (some lo) := by rw [mkR, h]
theorem mkR_out {f : List UInt8 → Bool} {x : List UInt8} {es : List (List UInt8)} (h : f x = false) : mkR f (x :: es) none = mkR f es none := by rw [mkR, h]
theorem mkR_off {f : List UInt8 → Bool} {x lo : List UInt8} {es : List (List UInt8)} (h : f x = false) : mkR f (x :: es) (some lo) = ⟨lo, x, false⟩ :: mkR f es none := by rw [mkR, h]
theorem rng_row (w : World) (r : Rng) (n : Nat) (hn : n = 1) : kRng.Rd (w.alloc (.cells #[.string (str r.lo), .string (str r.hi), .bool r.op] 42)) (w.heap.size + 1) (some ⟨w.heap.size, 0, none⟩) n [r] := Kind.rd_new (by rw [kRng.row_one]; rfl) hn (by simp)
theorem own_end {w : World} {base g n c D : Nat} {dn : List Rng} {lo : List UInt8} (h : kRng.Own w base (.slice (some ⟨g, 0, none⟩) n c) (dn ++ pendR (some lo))) (hn : n = (dn ++ pendR (some lo)).length) (hD : dn.length = D) (x : List UInt8) :
    kRng.Own ((w.setCell ⟨g, D * 3 + 1, none⟩ (.string (str x))).setCell ⟨g, D * 3 + 2, none⟩ (.bool false)) base (.slice (some ⟨g, 0, none⟩) n c) ((dn ++ [⟨lo, x, false⟩]) ++ pendR none) := by
  subst hD
  have g1 : (dn ++ pendR (some lo))[dn.length]? = some ⟨lo, [], true⟩ := by rw [List.getElem?_append_right (Nat.le_refl _), Nat.sub_self]; rfl
  have h1 := h.stored (j := 1) (y := ⟨lo, x, true⟩) (v := .string (str x)) hn g1 (by decide) rfl
  rw [show (dn ++ pendR (some lo)).set dn.length ⟨lo, x, true⟩ = dn ++ [⟨lo, x, true⟩] from by simp [pendR]] at h1
  have g2 : (dn ++ [(⟨lo, x, true⟩ : Rng)])[dn.length]? = some ⟨lo, x, true⟩ := by simp
  have h2 := h1.stored (j := 2) (y := ⟨lo, x, false⟩) (v := .bool false) (by rw [hn]; simp [pendR]) g2 (by decide) rfl
  rw [show (dn ++ [(⟨lo, x, true⟩ : Rng)]).set dn.length ⟨lo, x, false⟩ = (dn ++ [⟨lo, x, false⟩]) ++ pendR none from by simp [pendR]] at h2
  exact h2
theorem set_last {α : Type} (l : List α) (x y : α) : (l ++ [x]).set l.length y = l ++ [y] := by simp
end Go.Proofs.YtaodifpnfejbbaaGreat

/-
  Layer 15 (know), the document's words: the ranges of knowledge; has it a version of a text; is it too long to be looked at; are two lists the same.
-/
namespace Go.Proofs.YtaodifpnfejbbaaGreat
open Go.RowKit

/-- Knowledge that reads. -/
def RdPc (w : World) (A : Option Addr) (c : Nat) (k : List Pc) : Prop := dPc.Rd w (fun _ => True) A c k
theorem RdPc.call {w w' : World} {A : Option Addr} {c : Nat} {k : List Pc} (h : RdPc w A c k) (hb : Below w.heap.size w w') : RdPc w' A c k := Deep.Rd.call h hb
theorem RdPc.room {w : World} {A : Option Addr} {c : Nat} {k : List Pc} (h : RdPc w A c k) : k.length ≤ c := Deep.Rd.room h
theorem RdPc.max {w : World} {A : Option Addr} {c n : Nat} {k : List Pc} (h : RdPc w A c k) (hn : n = k.length) : n ≤ 9223372036854775807 := Deep.Rd.max h hn
theorem RdPc.at_ {w : World} {A : Option Addr} {c : Nat} {k : List Pc} (h : RdPc w A c k) {i : Nat} {x : Pc} (hx : k[i]? = some x) :
    ∃ (b o : Nat) (A' : Option Addr) (n' c' : Nat) (S T : ByteArray) (q : Bool), A = some ⟨b, o, none⟩ ∧ b < w.heap.size ∧ IsR x.rng S T q ∧ n' = x.set.length ∧ RdK w w.heap.size A' c' x.set ∧
      w.cell? ⟨b, o + i * 4, none⟩ = some (.string S) ∧ w.cell? ⟨b, o + i * 4 + 1, none⟩ = some (.string T) ∧ w.cell? ⟨b, o + i * 4 + 2, none⟩ = some (.bool q) ∧ w.cell? ⟨b, o + i * 4 + 3, none⟩ = some (.slice A' n' c') := by
  obtain ⟨b, o, e1, e2, e3⟩ := pieces_of h (by have := (List.getElem?_eq_some_iff.1 hx).1; omega)
  obtain ⟨A', n', c', h1, h2, h3, h4, h5, h6⟩ := e3 i x hx
  exact ⟨b, o, A', n', c', _, _, _, e1, e2, IsR.mk' x.rng, h1, rdk_of h2, h3, h4, h5, h6⟩
theorem spansP_take {k : List Pc} {j : Nat} {x : Pc} (h : k[j]? = some x) : spansP (k.take (j + 1)) = spansP (k.take j) ++ [x.rng] := by
  unfold spansP
  rw [List.take_add_one, h, List.map_append]; rfl
set_option maxRecDepth 100000 in
set_option maxHeartbeats 1000000 in
theorem ref_spans (A : Option Addr) (c n : Nat) (k : List Pc) (hn : n = k.length) (hnl : n ≤ 100000) (w : World) (hr : RdPc w A c k) :
    Calls Tryz.prog 87 #[.slice A n c] w fun e w' => ∃ A' c', e = .returned (.slice A' n c') ∧ kRng.Own w' w.heap.size (.slice A' n c') (spansP k) ∧ Below w.heap.size w w' := by
  have HN := Lib.hid hn
  have HR := Lib.hid hr
  have hmx := hr.max hn
  have hcx : n ≤ c := by rw [hn]; exact hr.room
  clear hn hr
  go_enter Tryz.func87, Tryz.ntmps87
  go_wp2_with fail
  go_loopw [3, 4] (fun v i wr => ∃ j : Nat, j ≤ n ∧ Hid (kRng.Own wr w.heap.size v (spansP (k.take j))) ∧ i = .int .i64 j ∧ Hid (Below w.heap.size w wr)) (fun _ i _ => n - (intOf i).toNat)
  case atStart => exact ⟨0, by omega, Kind.Own.nil _ _, rfl, Below.refl _ _⟩
  case round =>
    obtain ⟨j, hj, HO, rfl, HB⟩ := hrel
    by_cases hlt : j < n
    · obtain ⟨x, hg⟩ : ∃ x, k[j]? = some x := ⟨_, List.getElem?_eq_getElem (by have := HN.out; omega)⟩
      obtain ⟨b, o, A', n', c', S, T, q, rfl, hb1, ⟨rfl, rfl, rfl⟩, hn', -, c0, c1, c2, c3⟩ := (HR.out.call HB.out).at_ hg
      have HS := Lib.hid (spansP_take hg)
      have HLE := Lib.hid (show (spansP (k.take j)).length + [x.rng].length ≤ 1000000 by rw [spansP, List.length_map, List.length_take, List.length_singleton]; omega)
      have HRW := fun w => Lib.hid (rng_row w x.rng 1 rfl).row
      obtain ⟨S, hS⟩ : ∃ S, str x.rng.lo = S := ⟨_, rfl⟩
      obtain ⟨T, hT⟩ : ∃ T, str x.rng.hi = T := ⟨_, rfl⟩
      obtain ⟨q, hq⟩ : ∃ q, x.rng.op = q := ⟨_, rfl⟩
      rw [hS, hT, hq] at HRW
      rw [hS] at c0
      rw [hT] at c1
      rw [hq] at c2
      clear hg hn' hS hT hq c3
      go_wp2_with (at_builtin; refine wpList_app_k kRng rfl (.tmp 11) (.tmp 17) rfl w.heap.size _ _ rfl (Kind.Own.alloc HO.out _) _ (some ⟨wr.heap.size, 0, none⟩) 1 1 [x.rng] rfl rfl (HRW wr).out HLE.out (by decide) (le_alloc HB.out.size _) ?_; intro v3 w3 hown3 hg3 hb3 _; have HO3 := Lib.hid hown3; have HB3 := Lib.hid ((HB.out.alloc HB.out.size _).trans hb3); clear hown3 hb3 hg3)
      go_roundw
      case rel => exact ⟨j + 1, by omega, show kRng.Own _ _ _ _ from by rw [HS.out]; exact HO3.out, by go_num, HB3⟩
      case measure => simp [intOf]; omega
    · have HT := Lib.hid (show spansP (k.take j) = spansP k by rw [List.take_of_length_le (by have := HN.out; omega)])
      obtain ⟨A5, c5, rfl, -⟩ := HO.out.read_n (show n = (spansP (k.take j)).length by rw [HT.out, spansP, List.length_map]; exact HN.out)
      go_wp2_with fail
      go_ret
      exact ⟨A5, c5, rfl, by rw [← HT.out]; exact HO.out, HB.out⟩
theorem hasP_cons (p : Pc) (k : List Pc) (s : List UInt8) (v : Vr) : hasP (p :: k) s v = (hasR p.rng s && hasS p.set v || hasP k s v) := rfl
set_option maxRecDepth 100000 in
set_option maxHeartbeats 4000000 in
theorem ref_phas (A : Option Addr) (c n : Nat) (k : List Pc) (s : List UInt8) (U : ByteArray) (v : Vr) (x y : Int) (hn : n = k.length) (hU : str s = U) (hs : s.length ≤ 1000000) (hx : v.rep = x) (hy : v.cnt = y) (hl : ∀ p ∈ k, (runsV p.set x).length ≤ 100000)
    (z : Bool) (hz : hasP k s v = z) (w : World) (hr : RdPc w A c k) :
    Calls Tryz.prog 14 #[.slice A n c, .string U, .agg #[.int .i64 x, .int .i64 y]] w fun e w' => e = .returned (.bool z) ∧ Below w.heap.size w w' := by
  have HN := Lib.hid hn
  have HR := Lib.hid hr
  have hmx := hr.max hn
  have hcx : n ≤ c := by rw [hn]; exact hr.room
  have HZ := Lib.hid hz
  have HL := Lib.hid hl
  have HB := Lib.hid (below_new w (.cells #[.int .i64 x, .int .i64 y] 24))
  have HRR := fun r S T q h d hd w => Lib.hid (ref_has r s S T U q d h hU hs hd w)
  have HVV := fun A' c' n' set hn' hl d hd w h => Lib.hid (ref_vhas A' c' n' set v x y hx hy hn' hl d hd w h)
  obtain ⟨WB, hWB⟩ : ∃ WB, w.alloc (.cells #[.int .i64 x, .int .i64 y] 24) = WB := ⟨_, rfl⟩
  have HBX := Lib.hid (show WB.cell? ⟨w.heap.size, 0, none⟩ = some (.int .i64 x) ∧ WB.cell? ⟨w.heap.size, 1, none⟩ = some (.int .i64 y) ∧ w.heap.size < WB.heap.size from by subst hWB; exact ⟨(vbox_new w x y).1, (vbox_new w x y).2, by simp⟩)
  rw [hWB] at HB
  clear hn hr hz hl hU hs hx hy
  go_enter Tryz.func14, Tryz.ntmps14
  go_wp2_with fail
  go_loopw [7] (fun i wr => ∃ j : Nat, j ≤ n ∧ Hid (hasP (k.drop j) s v = z) ∧ i = .int .i64 j ∧ Hid (Below WB.heap.size WB wr)) (fun i _ => n - (intOf i).toNat)
  case atStart => exact ⟨0, by omega, HZ, rfl, Below.refl _ _⟩
  case round =>
    clear hWB
    obtain ⟨j, hj, HH, rfl, HBr⟩ := hrel
    by_cases hlt : j < n
    · obtain ⟨p, hg, hd, hm⟩ := get_some (l := k) (k := j) (by have := HN.out; omega)
      obtain ⟨b, o, A', n', c', S, T, q, rfl, hb1, hIs, hn', hrd, c0, c1, c2, c3⟩ := ((HR.out.call HB.out).call HBr.out).at_ hg
      have HD := Lib.hid (show (hasR p.rng s && hasS p.set v || hasP (k.drop (j + 1)) s v) = z from by rw [← hasP_cons, ← hd]; exact HH.out)
      obtain ⟨d1, hd1⟩ : ∃ d, hasR p.rng s = d := ⟨_, rfl⟩
      obtain ⟨d2, hd2⟩ : ∃ d, hasS p.set v = d := ⟨_, rfl⟩
      rw [hd1, hd2] at HD
      have C1 := fun w => (HRR p.rng S T q hIs d1 hd1 w).out
      have C1 := Lib.hid (fun L => cellL_of (a := wr) (l := L) C1)
      have HRD := Lib.hid hrd
      have C2 := Lib.hid (fun (L : List (Addr × Value)) => fun (W : World) (hC : CellL wr L W) => ((HVV A' c' n' p.set hn' (HL.out p hm) d2 hd2 W (HRD.out.call (cellL_size hC))).out).mono fun (e : Ending) (W' : World) ⟨h1, h2⟩ => (⟨h1, cellL_call h2 hC⟩ : e = Ending.returned (.bool d2) ∧ CellL wr L W'))
      have hmx' : n' ≤ c' := by rw [hn']; exact hrd.room
      obtain ⟨e0, e1⟩ : wr.cell? ⟨w.heap.size, 0, none⟩ = some (.int .i64 x) ∧ wr.cell? ⟨w.heap.size, 1, none⟩ = some (.int .i64 y) := ⟨((bcell HBr.out).1 _ _ HBX.out.2.2).trans HBX.out.1, ((bcell HBr.out).1 _ _ HBX.out.2.2).trans HBX.out.2.1⟩
      have HC := Lib.hid (show CellL wr [(⟨b, o + j * 4, none⟩, .string S), (⟨b, o + j * 4 + 1, none⟩, .string T), (⟨b, o + j * 4 + 2, none⟩, .bool q), (⟨b, o + j * 4 + 3, none⟩, .slice A' n' c'), (⟨w.heap.size, 0, none⟩, .int .i64 x), (⟨w.heap.size, 1, none⟩, .int .i64 y)] wr from ⟨c0, c1, c2, c3, e0, e1, Below.refl _ _⟩)
      have hj0 : (0 : Int) ≤ (j : Int) := by omega
      have hjn : (j : Int) < (n : Int) := by omega
      have hjd : decide ((j : Int) < 0) = false := decide_eq_false (by omega)
      clear hg hd hm hd1 hd2 hn' hrd c0 c1 c2 c3 e0 e1 hIs HRR HVV
      go_wp2_with fail
      cases d1
      · have HD2 := Lib.hid (show hasP (k.drop (j + 1)) s v = z from HD.out)
        refine q_region (CellL wr [(⟨b, o + j * 4, none⟩, .string S), (⟨b, o + j * 4 + 1, none⟩, .string T), (⟨b, o + j * 4 + 2, none⟩, .bool q), (⟨b, o + j * 4 + 3, none⟩, .slice A' n' c'), (⟨w.heap.size, 0, none⟩, .int .i64 x), (⟨w.heap.size, 1, none⟩, .int .i64 y)]) (by kernel_rfl) (by kernel_rfl) (cellL_drew HC.out) ?_
        repeat (first
          | go_big_quiet_skip
          | (go_big_quiet_want; (first
            | (refine q_take (v := ?_) ?_ ?_; rotate_left; (focus (intro w hSw; (try simp only [CellL] at hSw); go_split_ands; go_simp; (try (rw [if_neg (by omega)])); (try with_reducible rfl); done)))
            | (refine q_call (C1.out _) ?_ ?_; (focus (intro w hSw; (try simp only [CellL] at hSw); go_split_ands; go_simp; (try (rw [if_neg (by omega)])); done)))
            | (refine q_call (C2.out _) ?_ ?_; (focus (intro w hSw; (try simp only [CellL] at hSw); go_split_ands; go_simp; (try (rw [if_neg (by omega)])); done)))); (try simp only [Act.put, List.setIfInBounds_toArray, List.set_cons_zero, List.set_cons_succ]); go_big_quiet_on))
        refine wpQuiet_nil ?_
        intro w2 hw2
        have HB2 := Lib.hid (HBr.out.trans ((cellL_size hw2).mono HBr.out.size))
        clear hw2
        go_wp2_with fail
        go_roundw
        case rel => exact ⟨j + 1, by omega, HD2, by go_num, HB2⟩
        case measure => simp [intOf]; omega
      · refine q_region (CellL wr [(⟨b, o + j * 4, none⟩, .string S), (⟨b, o + j * 4 + 1, none⟩, .string T), (⟨b, o + j * 4 + 2, none⟩, .bool q), (⟨b, o + j * 4 + 3, none⟩, .slice A' n' c'), (⟨w.heap.size, 0, none⟩, .int .i64 x), (⟨w.heap.size, 1, none⟩, .int .i64 y)]) (by kernel_rfl) (by kernel_rfl) (cellL_drew HC.out) ?_
        repeat (first
          | go_big_quiet_skip
          | (go_big_quiet_want; (first
            | (refine q_take (v := ?_) ?_ ?_; rotate_left; (focus (intro w hSw; (try simp only [CellL] at hSw); go_split_ands; go_simp; (try (rw [if_neg (by omega)])); (try with_reducible rfl); done)))
            | (refine q_call (C1.out _) ?_ ?_; (focus (intro w hSw; (try simp only [CellL] at hSw); go_split_ands; go_simp; (try (rw [if_neg (by omega)])); done)))
            | (refine q_call (C2.out _) ?_ ?_; (focus (intro w hSw; (try simp only [CellL] at hSw); go_split_ands; go_simp; (try (rw [if_neg (by omega)])); done)))); (try simp only [Act.put, List.setIfInBounds_toArray, List.set_cons_zero, List.set_cons_succ]); go_big_quiet_on))
        refine wpQuiet_nil ?_
        intro w2 hw2
        have HB2 := Lib.hid (HBr.out.trans ((cellL_size hw2).mono HBr.out.size))
        clear hw2
        cases d2
        · have HD2 := Lib.hid (show hasP (k.drop (j + 1)) s v = z from HD.out)
          go_wp2_with fail
          go_roundw
          case rel => exact ⟨j + 1, by omega, HD2, by go_num, HB2⟩
          case measure => simp [intOf]; omega
        · have HD2 := Lib.hid (show true = z from HD.out)
          go_wp2_with fail
          go_ret
          exact ⟨ret_bool HD2.out, HB.out.trans (HB2.out.mono HB.out.size)⟩
    · have HD2 := Lib.hid (show false = z from by rw [← HH.out, List.drop_eq_nil_of_le (by have := HN.out; omega)]; rfl)
      go_wp2_with fail
      go_ret
      exact ⟨ret_bool HD2.out, HB.out.trans (HBr.out.mono HB.out.size)⟩
end Go.Proofs.YtaodifpnfejbbaaGreat

/-
  Pieces that came in as a slice: each with its range and its set.
-/
namespace Go.Proofs.YtaodifpnfejbbaaGreat
open Go.ChangeShapes Go.WideShapes Go.ChangeAt Go.RowKit

theorem pcells_rng : Tryz.prog.cellsOf 42 = 3 := by kernel_rfl
theorem pcells_set : Tryz.prog.cellsOf 31 = 1 := by kernel_rfl
/-- What a piece that lies and one that is meant have in common. -/
def PcIn (W : World) (x : Ps × Pc) : Prop := x.1.rng = x.2.rng ∧ x.1.n = x.2.set.length ∧ RdK W W.heap.size x.1.A x.1.c x.2.set
theorem rdk_pairs {W : World} {A : Option Addr} {c : Nat} {sl : List (Ks × Kn)} (h1 : RowAt W W.heap.size A (sl.flatMap fun x => ksCells x.1)) (h2 : sl.length ≤ c) (h3 : c ≤ maxLen) (hg : ∀ x ∈ sl, KnIn W x) : RdK W W.heap.size A c (sl.map (·.2)) := by
  refine ⟨sl.map (·.1), ⟨?_, by rw [List.length_map]; exact h2, h3⟩, by rw [List.length_map, List.length_map], fun i s l hs hl => ?_⟩
  · show RowAt W W.heap.size A ((sl.map (·.1)).flatMap ksCells)
    rw [List.flatMap_map]
    exact h1
  · rw [List.getElem?_map] at hs hl
    cases hx : sl[i]? with
    | none => rw [hx] at hs; cases hs
    | some x =>
      rw [hx] at hs hl
      cases hs; cases hl
      exact hg x (List.mem_of_getElem? hx)
set_option maxRecDepth 100000 in
theorem rng_of {H : Type} {enc : TypeId × Value → H} {W : World} (n : Nat) (cs : List Value) (y : DataW H × List MemPlace) (hl : cs.length = 3)
    (hy : DataW.trod enc Tryz.prog W 0 (fun _ => true) true n 42 cs = some y) : ∃ r : Rng, cs = rngCells r := by
  obtain ⟨y0, y1, y2, n', -, -, h0, h1, h2⟩ := Go.Deep.trod_struct3 Tryz.underlying42 hy
  rw [cells_string] at h0 h1
  rw [cells_bool] at h2
  match cs, hl with
  | [a, b, c], _ =>
    obtain ⟨s, e0, -, w0⟩ := DataW.trod_string Tryz.underlying9 h0
    obtain ⟨t, e1, -, w1⟩ := DataW.trod_string Tryz.underlying9 h1
    obtain ⟨q, e2, -⟩ := DataW.trod_bool Tryz.underlying4 h2
    simp at e0 e1 e2
    subst e0 e1 e2
    exact ⟨⟨s.data.toList, t.data.toList, q⟩, by simp only [rngCells, str_of]⟩
set_option maxRecDepth 100000 in
theorem pc_of {H : Type} {enc : TypeId × Value → H} {W : World} (n : Nat) (cs : List Value) (y : DataW H × List MemPlace) (hl : cs.length = 4)
    (hy : DataW.trod enc Tryz.prog W 0 (fun _ => true) true n 44 cs = some y) : ∃ x : Ps × Pc, cs = psCells x.1 ∧ PcIn W x := by
  obtain ⟨xs, n', _, rfl, -, hlen, hf⟩ := DataW.trod_struct Tryz.underlying44 hy
  match xs, hlen with
  | [y0, y1], _ =>
    have h0 := hf 0 _ rfl
    have h1 := hf 1 _ rfl
    match cs, hl with
    | [a, b, c, d], _ =>
      have h0 : DataW.trod enc Tryz.prog W 0 (fun _ => true) true n' 42 (([a, b, c, d].drop 0).take (Tryz.prog.cellsOf 42)) = some y0 := by simpa using h0
      have h1 : DataW.trod enc Tryz.prog W 0 (fun _ => true) true n' 31 (([a, b, c, d].drop 3).take (Tryz.prog.cellsOf 31)) = some y1 := by simpa using h1
      rw [pcells_rng] at h0
      rw [pcells_set] at h1
      obtain ⟨r, e0⟩ := rng_of _ _ _ (by simp) h0
      obtain ⟨A, c', sl, e1, g1, hg, g2, g3⟩ := cells_slice (fun x : Ks × Kn => ksCells x.1) (KnIn W) Tryz.underlying31 (k := 2) (by kernel_rfl) (by omega) kn_of h1
      simp [rngCells] at e0 e1
      obtain ⟨rfl, rfl, rfl⟩ := e0
      subst e1
      exact ⟨(⟨r, A, sl.length, c'⟩, ⟨r, sl.map (·.2)⟩), rfl, rfl, by show sl.length = (sl.map (·.2)).length; rw [List.length_map], rdk_pairs g1 g2 g3 hg⟩
set_option maxRecDepth 100000 in
theorem in_pcs {H : Type} {enc : TypeId × Value → H} {W : World} {base : Nat} {v : Value} {d : DataW H} {p : List MemPlace}
    (hok : Value.okWide Tryz.prog W .any base 22 v) (h : DataW.Trod enc Tryz.prog W 0 (fun _ => true) true 22 v d p) :
    ∃ (A : Option Addr) (c : Nat) (l : List Pc), v = .slice A l.length c ∧ RdPc W A c l := by
  obtain ⟨A, c, sl, rfl, h1, hg, h2, h3⟩ := in_slice (fun x : Ps × Pc => psCells x.1) (PcIn W) Tryz.underlying22 (k := 4) (by kernel_rfl) (by omega) pc_of hok h
  have hr : kPs.Rd W W.heap.size A c (sl.map (·.1)) := by
    refine ⟨?_, by rw [List.length_map]; exact h2, h3⟩
    show RowAt W W.heap.size A ((sl.map (·.1)).flatMap psCells)
    rw [List.flatMap_map]
    exact h1
  refine ⟨A, c, sl.map (·.2), (by rw [List.length_map]), (show RdPc W A c (sl.map (·.2)) from ⟨(sl.map (fun x : Ps × Pc => x.1) : List Ps), (show kPs.RdS W (fun _ => True) A c (sl.map (fun x : Ps × Pc => x.1)) from hr.inS.mono (fun _ _ => trivial)), by rw [List.length_map, List.length_map], fun i s l hs hl => ?_⟩)⟩
  rw [List.getElem?_map] at hs hl
  cases hx : sl[i]? with
  | none => rw [hx] at hs; cases hs
  | some x =>
    rw [hx] at hs hl
    cases hs; cases hl
    obtain ⟨e1, e2, e3⟩ := hg x (List.mem_of_getElem? hx)
    exact ⟨e1, e2, (rdk_in e3).all⟩
end Go.Proofs.YtaodifpnfejbbaaGreat

/-
  Layer 15 (know), the document's words: is knowledge too long to be looked at; are two lists the same.
-/
namespace Go.Proofs.YtaodifpnfejbbaaGreat
open Go.RowKit

/-- Is a piece too long? -/
def longPc (p : Pc) : Bool := decide (40 < p.rng.lo.length) || decide (40 < p.rng.hi.length) || longV 16 p.set
/-- Is knowledge too long? -/
def longP (m : Nat) (k : List Pc) : Bool := decide (m < k.length) || k.any longPc
set_option maxRecDepth 100000 in
set_option maxHeartbeats 2000000 in
theorem ref_plong (m : Nat) (y : Int) (hy : (m : Int) = y) (hml : m ≤ 1000) (A : Option Addr) (c n : Nat) (k : List Pc) (hn : n = k.length) (v : Bool) (hv : longP m k = v) (w : World) (hr : RdPc w A c k) :
    Calls Tryz.prog 9 #[.slice A n c, .int .i64 y] w fun e w' => e = .returned (.bool v) ∧ Below w.heap.size w w' := by
  subst hy
  have HN := Lib.hid hn
  have HR := Lib.hid hr
  have hmx := hr.max hn
  have hcx : n ≤ c := by rw [hn]; exact hr.room
  by_cases h1 : m < n
  · have HE : Hid (true = v) := by rw [← hv]; unfold longP; rw [decide_eq_true (by omega)]; rfl
    clear hn hr hv
    go_enter Tryz.func9, Tryz.ntmps9
    go_wp2_with fail
    go_ret
    exact ⟨ret_bool HE.out, Below.refl _ _⟩
  · have hdm : decide (m < n) = false := decide_eq_false h1
    have HE : Hid (k.any longPc = v) := by rw [← hv]; unfold longP; rw [decide_eq_false (by omega), Bool.false_or]; rfl
    clear hn hr hv
    go_enter Tryz.func9, Tryz.ntmps9
    go_wp2_with fail
    go_loopw [5] (fun i wr => ∃ j : Nat, j ≤ n ∧ Hid ((k.drop j).any longPc = v) ∧ i = .int .i64 j ∧ Hid (Below w.heap.size w wr)) (fun i _ => n - (intOf i).toNat)
    case atStart => exact ⟨0, by omega, HE, rfl, Below.refl _ _⟩
    case round =>
      obtain ⟨j, hj, HL, rfl, HB⟩ := hrel
      by_cases hlt : j < n
      · obtain ⟨p, hg, hd, -⟩ := get_some (l := k) (k := j) (by have := HN.out; omega)
        obtain ⟨b, o, A', n', c', S, T, q, rfl, hb1, ⟨hS, hT, -⟩, hn', hrd, c0, c1, c2, c3⟩ := (HR.out.call HB.out).at_ hg
        have HL2 := Lib.hid (show (longPc p || (k.drop (j + 1)).any longPc) = v from by rw [← List.any_cons, ← hd]; exact HL.out)
        have hz1 : S.size = p.rng.lo.length := by rw [← hS]; exact str_size _
        have hz2 : T.size = p.rng.hi.length := by rw [← hT]; exact str_size _
        have hmx' : n' ≤ c' := by rw [hn']; exact hrd.room
        obtain ⟨d, hd2⟩ : ∃ d, longV 16 p.set = d := ⟨_, rfl⟩
        have C1 := Lib.hid (ref_vlong 16 16 rfl (by omega) A' c' n' p.set hn' d hd2 wr hrd)
        clear hg hd hn' hrd HE hS hT
        by_cases g1 : p.rng.lo.length ≤ 40
        · by_cases g2 : p.rng.hi.length ≤ 40
          · have k1 : S.size ≤ 40 := by omega
            have k2 : T.size ≤ 40 := by omega
            have HE := Lib.hid (show (d || (k.drop (j + 1)).any longPc) = v from by
              rw [← HL2.out]
              unfold longPc
              rw [decide_eq_false (show ¬ 40 < p.rng.lo.length by omega), decide_eq_false (show ¬ 40 < p.rng.hi.length by omega), hd2]; rfl)
            clear hz1 hz2 g1 g2 HL2 hd2
            cases d
            · go_wp2_with ((with_reducible refine C1.out.mono ?_); rintro e w2 ⟨rfl, hq⟩; have HB2 := Lib.hid (HB.out.trans (hq.mono HB.out.size)); clear hq)
              go_roundw
              case rel => exact ⟨j + 1, by omega, HE, by go_num, HB2⟩
              case measure => simp [intOf]; omega
            · go_wp2_with ((with_reducible refine C1.out.mono ?_); rintro e w2 ⟨rfl, hq⟩; have HB2 := Lib.hid (HB.out.trans (hq.mono HB.out.size)); clear hq)
              go_ret
              exact ⟨ret_bool HE.out, HB2.out⟩
          · have k1 : S.size ≤ 40 := by omega
            have k2 : 40 < T.size := by omega
            have HE := Lib.hid (show true = v from by
              rw [← HL2.out]
              unfold longPc
              rw [decide_eq_true (show 40 < p.rng.hi.length by omega), Bool.or_true]; rfl)
            clear hz1 hz2 g1 g2 HL2 hd2 C1
            go_wp2_with fail
            go_ret
            exact ⟨ret_bool HE.out, HB.out⟩
        · have k1 : 40 < S.size := by omega
          have HE := Lib.hid (show true = v from by
            rw [← HL2.out]
            unfold longPc
            rw [decide_eq_true (show 40 < p.rng.lo.length by omega)]; rfl)
          clear hz1 hz2 g1 HL2 hd2 C1
          go_wp2_with fail
          go_ret
          exact ⟨ret_bool HE.out, HB.out⟩
      · have HE2 := Lib.hid (show false = v from by rw [← HL.out, List.drop_eq_nil_of_le (by have := HN.out; omega)]; rfl)
        go_wp2_with fail
        go_ret
        exact ⟨ret_bool HE2.out, HB.out⟩
/-- Are two lists the same, in all their parts? -/
def sameP : List Pc → List Pc → Bool
  | [], [] => true
  | p :: a, q :: b => eqR p.rng q.rng && sameS p.set q.set && sameP a b
  | _, _ => false
theorem sameP_iff : ∀ {a b : List Pc}, sameP a b = true ↔ a = b
  | [], [] => by simp [sameP]
  | [], _ :: _ => by simp [sameP]
  | _ :: _, [] => by simp [sameP]
  | p :: a, q :: b => by
    rw [sameP, Bool.and_eq_true, Bool.and_eq_true, eqR_iff, sameS_iff, sameP_iff (a := a)]
    constructor
    · rintro ⟨⟨h1, h2⟩, h3⟩; rw [pc_ext h1 h2, h3]
    · intro h; injection h with h1 h2; subst h1 h2; exact ⟨⟨rfl, rfl⟩, rfl⟩
theorem sameP_len {a b : List Pc} (h : a.length ≠ b.length) : sameP a b = false := by
  cases hs : sameP a b with
  | false => rfl
  | true => rw [sameP_iff] at hs; subst hs; exact absurd rfl h
set_option maxRecDepth 100000 in
set_option maxHeartbeats 4000000 in
theorem ref_psame (A B : Option Addr) (c d n m : Nat) (a b : List Pc) (hn : n = a.length) (hm : m = b.length) (v : Bool) (hv : sameP a b = v) (w : World) (ha : RdPc w A c a) (hb : RdPc w B d b) :
    Calls Tryz.prog 18 #[.slice A n c, .slice B m d] w fun e w' => e = .returned (.bool v) ∧ Below w.heap.size w w' := by
  by_cases hnm : n = m
  · subst hnm
    have HN := Lib.hid hn
    have HM := Lib.hid hm
    have HA := Lib.hid ha
    have HB := Lib.hid hb
    have HV := Lib.hid hv
    have hmx := ha.max hn
    have hcx : n ≤ c := by rw [hn]; exact ha.room
    have hcy : n ≤ d := by rw [hm]; exact hb.room
    clear hn hm ha hb hv
    go_enter Tryz.func18, Tryz.ntmps18
    go_wp2_with fail
    go_loopw [5] (fun i wr => ∃ k : Nat, k ≤ n ∧ i = .int .i64 k ∧ Hid (sameP (a.drop k) (b.drop k) = v) ∧ Hid (Below w.heap.size w wr)) (fun i _ => n - (intOf i).toNat)
    case atStart => exact ⟨0, by omega, rfl, HV, Below.refl _ _⟩
    case round =>
      obtain ⟨k, hk, rfl, HL, HW⟩ := hrel
      by_cases hlt : k < n
      · obtain ⟨r, hg, hd, -⟩ := get_some (l := a) (k := k) (by have := HN.out; omega)
        obtain ⟨t, hgt, hdt, -⟩ := get_some (l := b) (k := k) (by have := HM.out; omega)
        obtain ⟨b1, o1, A1, n1, c1, S1, T1, q1, rfl, hb1, ⟨hS1, hT1, hq1⟩, hn1, hr1, p0, p1, p2, p3⟩ := (HA.out.call HW.out).at_ hg
        obtain ⟨b2, o2, A2, n2, c2, S2, T2, q2, rfl, hb2, ⟨hS2, hT2, hq2⟩, hn2, hr2, r0, r1, r2, r3⟩ := (HB.out.call HW.out).at_ hgt
        obtain ⟨e, he⟩ : ∃ e, eqR r.rng t.rng = e := ⟨_, rfl⟩
        obtain ⟨f, hf⟩ : ∃ f, sameS r.set t.set = f := ⟨_, rfl⟩
        have hL := HL.out
        rw [hd, hdt, sameP, he, hf] at hL
        have EQ := fun w => eq_rngs r.rng t.rng e he w
        rw [hS1, hT1, hq1, hS2, hT2, hq2] at EQ
        have HR1 := Lib.hid hr1
        have HR2 := Lib.hid hr2
        have CS := Lib.hid (fun (L : List (Addr × Value)) => fun (W : World) (hC : CellL wr L W) => (ref_vsame A1 A2 c1 c2 n1 n2 r.set t.set hn1 hn2 f hf W (HR1.out.call (cellL_size hC)) (HR2.out.call (cellL_size hC))).mono fun (e : Ending) (W' : World) ⟨h1, h2⟩ => (⟨h1, cellL_call h2 hC⟩ : e = Ending.returned (.bool f) ∧ CellL wr L W'))
        have hx1 : n1 ≤ c1 := by rw [hn1]; exact hr1.room
        have hx2 : n2 ≤ c2 := by rw [hn2]; exact hr2.room
        have HC := Lib.hid (show CellL wr [(⟨b1, o1 + k * 4, none⟩, .string S1), (⟨b1, o1 + k * 4 + 1, none⟩, .string T1), (⟨b1, o1 + k * 4 + 2, none⟩, .bool q1), (⟨b1, o1 + k * 4 + 3, none⟩, .slice A1 n1 c1), (⟨b2, o2 + k * 4, none⟩, .string S2), (⟨b2, o2 + k * 4 + 1, none⟩, .string T2), (⟨b2, o2 + k * 4 + 2, none⟩, .bool q2), (⟨b2, o2 + k * 4 + 3, none⟩, .slice A2 n2 c2)] wr from ⟨p0, p1, p2, p3, r0, r1, r2, r3, Below.refl _ _⟩)
        have hk0 : (0 : Int) ≤ (k : Int) := by omega
        have hkn : (k : Int) < (n : Int) := by omega
        have hkd : decide ((k : Int) < 0) = false := decide_eq_false (by omega)
        have HLL := Lib.hid hL
        clear hg hd hgt hdt hS1 hT1 hq1 hS2 hT2 hq2 hn1 hn2 hr1 hr2 p0 p1 p2 p3 r0 r1 r2 r3 he hf hL
        go_wp2_with fail
        cases e
        · have HE := Lib.hid (show false = v from HLL.out)
          refine q_region (CellL wr [(⟨b1, o1 + k * 4, none⟩, .string S1), (⟨b1, o1 + k * 4 + 1, none⟩, .string T1), (⟨b1, o1 + k * 4 + 2, none⟩, .bool q1), (⟨b1, o1 + k * 4 + 3, none⟩, .slice A1 n1 c1), (⟨b2, o2 + k * 4, none⟩, .string S2), (⟨b2, o2 + k * 4 + 1, none⟩, .string T2), (⟨b2, o2 + k * 4 + 2, none⟩, .bool q2), (⟨b2, o2 + k * 4 + 3, none⟩, .slice A2 n2 c2)]) (by kernel_rfl) (by kernel_rfl) (cellL_drew HC.out) ?_
          repeat (first
            | go_big_quiet_skip
            | (go_big_quiet_want; (first
              | (refine q_take (v := ?_) ?_ ?_; rotate_left; (focus (intro w hSw; (try simp only [CellL] at hSw); go_split_ands; go_simp; (try (rw [if_neg (by omega)])); (try with_reducible rfl); done)))
              | (refine q_call (CS.out _) ?_ ?_; (focus (intro w hSw; (try simp only [CellL] at hSw); go_split_ands; go_simp; (try (rw [if_neg (by omega)])); done)))); (try simp only [Act.put, List.setIfInBounds_toArray, List.set_cons_zero, List.set_cons_succ]); go_big_quiet_on))
          refine wpQuiet_nil ?_
          intro w2 hw2
          have HB2 := Lib.hid (HW.out.trans ((cellL_size hw2).mono HW.out.size))
          clear hw2
          go_wp2_with fail
          go_ret
          exact ⟨ret_bool HE.out, HB2.out⟩
        · have HE := Lib.hid (show (f && sameP (a.drop (k + 1)) (b.drop (k + 1))) = v from HLL.out)
          refine q_region (CellL wr [(⟨b1, o1 + k * 4, none⟩, .string S1), (⟨b1, o1 + k * 4 + 1, none⟩, .string T1), (⟨b1, o1 + k * 4 + 2, none⟩, .bool q1), (⟨b1, o1 + k * 4 + 3, none⟩, .slice A1 n1 c1), (⟨b2, o2 + k * 4, none⟩, .string S2), (⟨b2, o2 + k * 4 + 1, none⟩, .string T2), (⟨b2, o2 + k * 4 + 2, none⟩, .bool q2), (⟨b2, o2 + k * 4 + 3, none⟩, .slice A2 n2 c2)]) (by kernel_rfl) (by kernel_rfl) (cellL_drew HC.out) ?_
          repeat (first
            | go_big_quiet_skip
            | (go_big_quiet_want; (first
              | (refine q_take (v := ?_) ?_ ?_; rotate_left; (focus (intro w hSw; (try simp only [CellL] at hSw); go_split_ands; go_simp; (try (rw [if_neg (by omega)])); (try with_reducible rfl); done)))
              | (refine q_call (CS.out _) ?_ ?_; (focus (intro w hSw; (try simp only [CellL] at hSw); go_split_ands; go_simp; (try (rw [if_neg (by omega)])); done)))); (try simp only [Act.put, List.setIfInBounds_toArray, List.set_cons_zero, List.set_cons_succ]); go_big_quiet_on))
          refine wpQuiet_nil ?_
          intro w2 hw2
          have HB2 := Lib.hid (HW.out.trans ((cellL_size hw2).mono HW.out.size))
          clear hw2
          cases f
          · have HE2 := Lib.hid (show false = v from HE.out)
            go_wp2_with fail
            go_ret
            exact ⟨ret_bool HE2.out, HB2.out⟩
          · have HE2 := Lib.hid (show sameP (a.drop (k + 1)) (b.drop (k + 1)) = v from HE.out)
            go_wp2_with fail
            go_roundw
            case rel => exact ⟨k + 1, by omega, by go_num, HE2, HB2⟩
            case measure => simp [intOf]; omega
      · have HE2 := Lib.hid (show true = v from by rw [← HL.out, List.drop_eq_nil_of_le (by have := HN.out; omega), List.drop_eq_nil_of_le (by have := HM.out; omega)]; rfl)
        go_wp2_with fail
        go_ret
        exact ⟨ret_bool HE2.out, HW.out⟩
  · have HE := Lib.hid (show false = v from by rw [← hv, sameP_len (a := a) (b := b) (by omega)])
    have hne : ((n : Int) == (m : Int)) = false := beq_eq_false_iff_ne.2 (by omega)
    have hne2 : ((n : Int) != (m : Int)) = true := by rw [bne, hne]; rfl
    clear hn hm ha hb hnm hv
    go_enter Tryz.func18, Tryz.ntmps18
    go_wp2_with fail
    go_ret
    exact ⟨ret_bool HE.out, Below.refl _ _⟩
end Go.Proofs.YtaodifpnfejbbaaGreat

/-
  Layer 15 (know), the document's words: is knowledge right?
-/
namespace Go.Proofs.YtaodifpnfejbbaaGreat
open Go.RowKit

/-- Is what comes behind a piece right? -/
def rightFP : Option Pc → List Pc → Bool
  | _, [] => true
  | none, r :: l => onePc r && rightFP (some r) l
  | some p, r :: l => onePc r && (gapP p r && rightFP (some r) l)
theorem rightFP_some : ∀ (r : Pc) (l : List Pc), (onePc r && rightFP (some r) l) = rightP (r :: l)
  | r, [] => by simp [rightFP, rightP]
  | r, t :: l => by
    have := rightFP_some t l
    unfold rightFP rightP
    rw [← this]
    cases onePc r <;> cases gapP r t <;> cases onePc t <;> simp
theorem rightFP_none (l : List Pc) : rightFP none l = rightP l := by
  cases l with
  | nil => rfl
  | cons r l => rw [← rightFP_some]; rfl
/-- The piece ahead of place k. -/
def prevPc (l : List Pc) : Nat → Option Pc
  | 0 => none
  | k + 1 => l[k]?
theorem rightFP_no {o : Option Pc} {r : Pc} {l : List Pc} (h : onePc r = false) : rightFP o (r :: l) = false := by cases o <;> simp [rightFP, h]
theorem boxA (w : World) (S T S' T' : ByteArray) (q q' : Bool) : (((w.alloc (.cells #[.string S, .string T, .bool q] 42)).alloc (.cells #[.string S', .string T', .bool q'] 42)).drew).cell? ⟨w.heap.size, 0, none⟩ = some (.string S) ∧ (((w.alloc (.cells #[.string S, .string T, .bool q] 42)).alloc (.cells #[.string S', .string T', .bool q'] 42)).drew).cell? ⟨w.heap.size, 1, none⟩ = some (.string T) ∧ (((w.alloc (.cells #[.string S, .string T, .bool q] 42)).alloc (.cells #[.string S', .string T', .bool q'] 42)).drew).cell? ⟨w.heap.size, 2, none⟩ = some (.bool q) := by
  obtain ⟨a0, a1, a2, -⟩ := rgAt_new w S T q 42
  have K := fun j => (bcell (below_new (w.alloc (.cells #[.string S, .string T, .bool q] 42)) (.cells #[.string S', .string T', .bool q'] 42)).drew).1 w.heap.size j (by simp)
  exact ⟨(K 0).trans a0, (K 1).trans a1, (K 2).trans a2⟩
theorem boxB (w : World) (S T S' T' : ByteArray) (q q' : Bool) : (((w.alloc (.cells #[.string S, .string T, .bool q] 42)).alloc (.cells #[.string S', .string T', .bool q'] 42)).drew).cell? ⟨w.heap.size + 1, 0, none⟩ = some (.string S') ∧ (((w.alloc (.cells #[.string S, .string T, .bool q] 42)).alloc (.cells #[.string S', .string T', .bool q'] 42)).drew).cell? ⟨w.heap.size + 1, 1, none⟩ = some (.string T') ∧ (((w.alloc (.cells #[.string S, .string T, .bool q] 42)).alloc (.cells #[.string S', .string T', .bool q'] 42)).drew).cell? ⟨w.heap.size + 1, 2, none⟩ = some (.bool q') := by
  obtain ⟨a0, a1, a2, -⟩ := rgAt_new (w.alloc (.cells #[.string S, .string T, .bool q] 42)) S' T' q' 42
  rw [size1] at a0 a1 a2
  exact ⟨a0, a1, a2⟩
set_option maxRecDepth 100000 in
set_option maxHeartbeats 16000000 in
theorem ref_pright (A : Option Addr) (c n : Nat) (k : List Pc) (hn : n = k.length) (hl : ∀ p ∈ k, p.rng.lo.length ≤ 1000000 ∧ p.rng.hi.length ≤ 1000000) (v : Bool) (hv : rightP k = v) (w : World) (hr : RdPc w A c k) :
    Calls Tryz.prog 12 #[.slice A n c] w fun e w' => e = .returned (.bool v) ∧ Below w.heap.size w w' := by
  have HN := Lib.hid hn
  have HR := Lib.hid hr
  have HLN := Lib.hid hl
  have hmx := hr.max hn
  have hcx : n ≤ c := by rw [hn]; exact hr.room
  have HV := Lib.hid (show rightFP (prevPc k 0) (k.drop 0) = v from (rightFP_none k).trans hv)
  clear hn hr hl hv
  go_enter Tryz.func12, Tryz.ntmps12
  go_wp2_with fail
  go_loopw [3] (fun i wr => ∃ j : Nat, j ≤ n ∧ Hid (rightFP (prevPc k j) (k.drop j) = v) ∧ i = .int .i64 j ∧ Hid (Below w.heap.size w wr)) (fun i _ => n - (intOf i).toNat)
  case atStart => exact ⟨0, by omega, HV, rfl, Below.refl _ _⟩
  case round =>
    obtain ⟨j, hj, HL, rfl, hb⟩ := hrel
    by_cases hlt : j < n
    · obtain ⟨r, hg, hd, hm⟩ := get_some (l := k) (k := j) (by have := HN.out; omega)
      have HR1 := Lib.hid (HR.out.call hb.out)
      obtain ⟨b, o, A2, n2, c2, S2, T2, q2, rfl, hb1, hIs, hn2, hrd2, r0, r1, r2, r3⟩ := HR1.out.at_ hg
      obtain ⟨d1, hd1⟩ : ∃ d, rightR r.rng = d := ⟨_, rfl⟩
      obtain ⟨d3, hd3⟩ : ∃ d, rightS r.set = d := ⟨_, rfl⟩
      have C1 := fun w => Lib.hid (ref_rright r.rng S2 T2 q2 d1 hIs hd1 w)
      have C3 := fun w h => Lib.hid (ref_vsright A2 c2 n2 r.set hn2 d3 hd3 w h)
      have HRD2 := Lib.hid hrd2
      have hx2 : n2 ≤ c2 := by rw [hn2]; exact hrd2.room
      by_cases hone : onePc r = true
      · obtain rfl : d1 = true := hd1.symm.trans (onePc_iff.1 hone).1
        obtain rfl : d3 = true := hd3.symm.trans (onePc_iff.1 hone).2.2
        have hz : n2 ≠ 0 := fun e => (onePc_iff.1 hone).2.1 (List.eq_nil_of_length_eq_zero (by rw [← hn2]; exact e))
        have hz0 : ((n2 : Int) == 0) = false := beq_eq_false_iff_ne.2 (by omega)
        cases j with
        | zero =>
          have HE := Lib.hid (show rightFP (prevPc k 1) (k.drop 1) = v from by
            rw [← HL.out, hd]
            show rightFP k[0]? _ = rightFP none _
            rw [hg, rightFP, hone]; rfl)
          rw [Nat.zero_mul, Nat.add_zero] at r0 r1 r2 r3
          clear hg hd hm hd1 hd3 hn2 hrd2 hIs hone
          go_wp2_with (first
            | ((with_reducible refine (C1 _).out.mono ?_); rintro e w2 ⟨rfl, hq⟩; replace hb := Lib.hid (hb.out.trans (hq.mono hb.out.size)); replace r3 := ((bcell hq).1 _ _ hb1).trans r3; replace HRD2 := Lib.hid (HRD2.out.call hq); clear hq)
            | ((with_reducible refine (C3 _ HRD2.out).out.mono ?_); rintro e w3 ⟨rfl, hq⟩; replace hb := Lib.hid (hb.out.trans (hq.mono hb.out.size)); clear hq))
          go_roundw
          case rel => exact ⟨1, by omega, HE, rfl, hb⟩
          case measure => simp [intOf]; omega
        | succ i =>
          obtain ⟨p, hp, -, hpm⟩ := get_some (l := k) (k := i) (by have := HN.out; omega)
          obtain ⟨b', o', A1, n1, c1, S1, T1, q1, hbb, hb1', hIs1, hn1, hrd1, p0, p1, p2, p3⟩ := HR1.out.at_ hp
          injection hbb with hbb
          injection hbb with e1 e2
          subst e1 e2
          have HRD1 := Lib.hid hrd1
          have hx1 : n1 ≤ c1 := by rw [hn1]; exact hrd1.room
          have HL2 := Lib.hid (show (gapP p r && rightFP (prevPc k (i + 2)) (k.drop (i + 2))) = v from by
            rw [← HL.out, hd]
            show (_ && rightFP k[i + 1]? _) = rightFP k[i]? _
            rw [hp, hg, rightFP, hone]; rfl)
          obtain ⟨x, hx⟩ : ∃ x, ltB r.rng.lo p.rng.hi = x := ⟨_, rfl⟩
          obtain ⟨y, hy⟩ : ∃ y, (T1.toList == S2.toList) = y := ⟨_, rfl⟩
          obtain ⟨f, hf⟩ : ∃ f, sameS p.set r.set = f := ⟨_, rfl⟩
          have CL := fun w => Lib.hid (less_q r.rng.lo p.rng.hi S2 T1 hIs.1 hIs1.2 (by have := (HLN.out r hm).1; omega) x hx w)
          have CF := fun w h1 h2 => Lib.hid (ref_vsame A1 A2 c1 c2 n1 n2 p.set r.set hn1 hn2 f hf w h1 h2)
          have HGP := Lib.hid (show gapP p r = (!q1 && (!x && !(y && f))) from by
            have e1 : decide (p.rng.hi = r.rng.lo) = y := by
              rw [← hy, ← hIs1.2, ← hIs.1, str_toList, str_toList]
              by_cases h : p.rng.hi = r.rng.lo <;> simp [h]
            have e2 : decide (p.set = r.set) = f := by
              rw [← hf]
              by_cases h : p.set = r.set
              · rw [decide_eq_true h, sameS_iff.2 h]
              · rw [decide_eq_false h]
                cases hs : sameS p.set r.set with
                | false => rfl
                | true => exact absurd (sameS_iff.1 hs) h
            unfold gapP
            rw [hIs1.3, hx, e1, e2])
          have hw1 : IntKind.i64.wrap ((i : Int) + 1 - 1) = (i : Int) := by rw [Int.add_sub_cancel]; exact IntWalk.i64_in _ (by omega)
          have HWR := Lib.hid hw1
          clear hg hd hm hd1 hd3 hn2 hrd2 hIs hone hp hpm hIs1 hn1 hrd1 hx hf hw1
          go_wp2_with (first
            | ((with_reducible refine (C1 _).out.mono ?_); rintro e w2 ⟨rfl, hq⟩; replace hb := Lib.hid (hb.out.trans (hq.mono hb.out.size)); replace r3 := ((bcell hq).1 _ _ hb1).trans r3; replace r0 := ((bcell hq).1 _ _ hb1).trans r0; replace r1 := ((bcell hq).1 _ _ hb1).trans r1; replace r2 := ((bcell hq).1 _ _ hb1).trans r2; replace p3 := ((bcell hq).1 _ _ hb1).trans p3; replace p0 := ((bcell hq).1 _ _ hb1).trans p0; replace p1 := ((bcell hq).1 _ _ hb1).trans p1; replace p2 := ((bcell hq).1 _ _ hb1).trans p2; replace hb1 := Nat.lt_of_lt_of_le hb1 hq.size; replace HRD2 := Lib.hid (HRD2.out.call hq); replace HRD1 := Lib.hid (HRD1.out.call hq); clear hq)
            | ((with_reducible refine (C3 _ HRD2.out).out.mono ?_); rintro e w3 ⟨rfl, hq⟩; replace hb := Lib.hid (hb.out.trans (hq.mono hb.out.size)); replace r3 := ((bcell hq).1 _ _ hb1).trans r3; replace r0 := ((bcell hq).1 _ _ hb1).trans r0; replace r1 := ((bcell hq).1 _ _ hb1).trans r1; replace r2 := ((bcell hq).1 _ _ hb1).trans r2; replace p3 := ((bcell hq).1 _ _ hb1).trans p3; replace p0 := ((bcell hq).1 _ _ hb1).trans p0; replace p1 := ((bcell hq).1 _ _ hb1).trans p1; replace p2 := ((bcell hq).1 _ _ hb1).trans p2; replace hb1 := Nat.lt_of_lt_of_le hb1 hq.size; replace HRD2 := Lib.hid (HRD2.out.call hq); replace HRD1 := Lib.hid (HRD1.out.call hq); clear hq))
          have hw1 := HWR.out
          have hi0 : (0 : Int) ≤ (i : Int) := by omega
          have hin : (i : Int) < (n : Int) := by omega
          have hin1 : (i : Int) + 1 < (n : Int) := by omega
          have hit : ((i : Int) + 1).toNat = i + 1 := by omega
          have hw2 : IntKind.i64.wrap ((i : Int) + 1) = (i : Int) + 1 := IntWalk.i64_in _ (by omega)
          go_region
          · obtain ⟨WX, hWX⟩ : ∃ WX, ((w3.alloc (.cells #[.string S1, .string T1, .bool q1] 42)).alloc (.cells #[.string S2, .string T2, .bool q2] 42)).drew = WX := ⟨_, rfl⟩
            have hbX : Below w3.heap.size w3 WX := hWX ▸ (((below_new w3 (.cells #[.string S1, .string T1, .bool q1] 42)).alloc (by simp) (.cells #[.string S2, .string T2, .bool q2] 42)).drew)
            obtain ⟨g0, g1, g2⟩ : WX.cell? ⟨w3.heap.size, 0, none⟩ = some (.string S1) ∧ WX.cell? ⟨w3.heap.size, 1, none⟩ = some (.string T1) ∧ WX.cell? ⟨w3.heap.size, 2, none⟩ = some (.bool q1) := hWX ▸ boxA w3 _ _ _ _ _ _
            obtain ⟨h0, h1, h2⟩ : WX.cell? ⟨w3.heap.size + 1, 0, none⟩ = some (.string S2) ∧ WX.cell? ⟨w3.heap.size + 1, 1, none⟩ = some (.string T2) ∧ WX.cell? ⟨w3.heap.size + 1, 2, none⟩ = some (.bool q2) := hWX ▸ boxB w3 _ _ _ _ _ _
            rw [hWX]
            replace r3 := ((bcell hbX).1 _ _ hb1).trans r3
            replace p3 := ((bcell hbX).1 _ _ hb1).trans p3
            replace hb := Lib.hid (hb.out.trans (hbX.mono hb.out.size))
            replace HRD1 := Lib.hid (HRD1.out.call hbX)
            replace HRD2 := Lib.hid (HRD2.out.call hbX)
            have HC := Lib.hid (show CellL WX [(⟨w3.heap.size, 0, none⟩, .string S1), (⟨w3.heap.size, 1, none⟩, .string T1), (⟨w3.heap.size, 2, none⟩, .bool q1), (⟨w3.heap.size + 1, 0, none⟩, .string S2), (⟨w3.heap.size + 1, 1, none⟩, .string T2), (⟨w3.heap.size + 1, 2, none⟩, .bool q2), (⟨b, o + i * 4 + 3, none⟩, .slice A1 n1 c1), (⟨b, o + (i + 1) * 4 + 3, none⟩, .slice A2 n2 c2)] WX from ⟨g0, g1, g2, h0, h1, h2, p3, r3, Below.refl _ _⟩)
            have CLX := Lib.hid (fun (L : List (Addr × Value)) => fun (W : World) (hC : CellL WX L W) => ((CL W).out).mono fun (e : Ending) (W' : World) ⟨h1, n, h2⟩ => (⟨h1, cellL_call (h2 ▸ below_drewN (Below.refl _ _) n) hC⟩ : e = Ending.returned (.bool x) ∧ CellL WX L W'))
            have CFX := Lib.hid (fun (L : List (Addr × Value)) => fun (W : World) (hC : CellL WX L W) => ((CF W (HRD1.out.call (cellL_size hC)) (HRD2.out.call (cellL_size hC))).out).mono fun (e : Ending) (W' : World) ⟨h1, h2⟩ => (⟨h1, cellL_call h2 hC⟩ : e = Ending.returned (.bool f) ∧ CellL WX L W'))
            clear hWX hbX g0 g1 g2 h0 h1 h2 p0 p1 p2 p3 r0 r1 r2 r3 hw2 C1 C3 CL CF
            have hid : decide ((i : Int) < 0) = false := decide_eq_false (by omega)
            have hid1 : decide ((i : Int) + 1 < 0) = false := decide_eq_false (by omega)
            have hi10 : (0 : Int) ≤ (i : Int) + 1 := by omega
            have hwi : IntKind.i64.wrap (i : Int) = (i : Int) := IntWalk.i64_in _ (by omega)
            go_wp2_with fail
            cases q1
            case' false =>
              cases x
              case' false =>
                cases y
                case' true =>
                  cases f
            all_goals
              refine q_region (CellL WX _) (by kernel_rfl) (by kernel_rfl) (cellL_drew HC.out) ?_
              repeat (first
                | go_big_quiet_skip
                | (go_big_quiet_want; (first
                  | (refine q_take (v := ?_) ?_ ?_; rotate_left; (focus (intro w hSw; (try simp only [CellL] at hSw); go_split_ands; go_simp; (try (rw [if_neg (by omega)])); (try with_reducible rfl); done)))
                  | (refine q_call (CLX.out _) ?_ ?_; (focus (intro w hSw; (try simp only [CellL] at hSw); go_split_ands; go_simp; (try (rw [if_neg (by omega)])); done)))
                  | (refine q_call (CFX.out _) ?_ ?_; (focus (intro w hSw; (try simp only [CellL] at hSw); go_split_ands; go_simp; (try (rw [if_neg (by omega)])); done)))); (try simp only [Act.put, List.setIfInBounds_toArray, List.set_cons_zero, List.set_cons_succ]); go_big_quiet_on))
              refine wpQuiet_nil ?_
              intro w4 hw4
              have HB4 := Lib.hid (hb.out.trans ((cellL_size hw4).mono hb.out.size))
              clear hw4
              go_wp2_with fail
            all_goals first
              | (have HE := Lib.hid (show rightFP (prevPc k (i + 2)) (k.drop (i + 2)) = v from by rw [← HL2.out, HGP.out]; rfl)
                 go_roundw
                 case rel => exact ⟨i + 2, by omega, HE, by go_num, HB4⟩
                 case measure => simp [intOf]; omega)
              | (have HE := Lib.hid (show false = v from by rw [← HL2.out, HGP.out]; rfl)
                 go_ret
                 exact ⟨ret_bool HE.out, HB4.out⟩)
          · obtain ⟨WX, hWX⟩ : ∃ WX, ((w3.alloc (.cells #[.string S2, .string T2, .bool q2] 42)).alloc (.cells #[.string S1, .string T1, .bool q1] 42)).drew = WX := ⟨_, rfl⟩
            have hbX : Below w3.heap.size w3 WX := hWX ▸ (((below_new w3 (.cells #[.string S2, .string T2, .bool q2] 42)).alloc (by simp) (.cells #[.string S1, .string T1, .bool q1] 42)).drew)
            obtain ⟨g0, g1, g2⟩ : WX.cell? ⟨w3.heap.size + 1, 0, none⟩ = some (.string S1) ∧ WX.cell? ⟨w3.heap.size + 1, 1, none⟩ = some (.string T1) ∧ WX.cell? ⟨w3.heap.size + 1, 2, none⟩ = some (.bool q1) := hWX ▸ boxB w3 _ _ _ _ _ _
            obtain ⟨h0, h1, h2⟩ : WX.cell? ⟨w3.heap.size, 0, none⟩ = some (.string S2) ∧ WX.cell? ⟨w3.heap.size, 1, none⟩ = some (.string T2) ∧ WX.cell? ⟨w3.heap.size, 2, none⟩ = some (.bool q2) := hWX ▸ boxA w3 _ _ _ _ _ _
            rw [hWX]
            replace r3 := ((bcell hbX).1 _ _ hb1).trans r3
            replace p3 := ((bcell hbX).1 _ _ hb1).trans p3
            replace hb := Lib.hid (hb.out.trans (hbX.mono hb.out.size))
            replace HRD1 := Lib.hid (HRD1.out.call hbX)
            replace HRD2 := Lib.hid (HRD2.out.call hbX)
            have HC := Lib.hid (show CellL WX [(⟨w3.heap.size + 1, 0, none⟩, .string S1), (⟨w3.heap.size + 1, 1, none⟩, .string T1), (⟨w3.heap.size + 1, 2, none⟩, .bool q1), (⟨w3.heap.size, 0, none⟩, .string S2), (⟨w3.heap.size, 1, none⟩, .string T2), (⟨w3.heap.size, 2, none⟩, .bool q2), (⟨b, o + i * 4 + 3, none⟩, .slice A1 n1 c1), (⟨b, o + (i + 1) * 4 + 3, none⟩, .slice A2 n2 c2)] WX from ⟨g0, g1, g2, h0, h1, h2, p3, r3, Below.refl _ _⟩)
            have CLX := Lib.hid (fun (L : List (Addr × Value)) => fun (W : World) (hC : CellL WX L W) => ((CL W).out).mono fun (e : Ending) (W' : World) ⟨h1, n, h2⟩ => (⟨h1, cellL_call (h2 ▸ below_drewN (Below.refl _ _) n) hC⟩ : e = Ending.returned (.bool x) ∧ CellL WX L W'))
            have CFX := Lib.hid (fun (L : List (Addr × Value)) => fun (W : World) (hC : CellL WX L W) => ((CF W (HRD1.out.call (cellL_size hC)) (HRD2.out.call (cellL_size hC))).out).mono fun (e : Ending) (W' : World) ⟨h1, h2⟩ => (⟨h1, cellL_call h2 hC⟩ : e = Ending.returned (.bool f) ∧ CellL WX L W'))
            clear hWX hbX g0 g1 g2 h0 h1 h2 p0 p1 p2 p3 r0 r1 r2 r3 hw2 C1 C3 CL CF
            have hid : decide ((i : Int) < 0) = false := decide_eq_false (by omega)
            have hid1 : decide ((i : Int) + 1 < 0) = false := decide_eq_false (by omega)
            have hi10 : (0 : Int) ≤ (i : Int) + 1 := by omega
            have hwi : IntKind.i64.wrap (i : Int) = (i : Int) := IntWalk.i64_in _ (by omega)
            go_wp2_with fail
            cases q1
            case' false =>
              cases x
              case' false =>
                cases y
                case' true =>
                  cases f
            all_goals
              refine q_region (CellL WX _) (by kernel_rfl) (by kernel_rfl) (cellL_drew HC.out) ?_
              repeat (first
                | go_big_quiet_skip
                | (go_big_quiet_want; (first
                  | (refine q_take (v := ?_) ?_ ?_; rotate_left; (focus (intro w hSw; (try simp only [CellL] at hSw); go_split_ands; go_simp; (try (rw [if_neg (by omega)])); (try with_reducible rfl); done)))
                  | (refine q_call (CLX.out _) ?_ ?_; (focus (intro w hSw; (try simp only [CellL] at hSw); go_split_ands; go_simp; (try (rw [if_neg (by omega)])); done)))
                  | (refine q_call (CFX.out _) ?_ ?_; (focus (intro w hSw; (try simp only [CellL] at hSw); go_split_ands; go_simp; (try (rw [if_neg (by omega)])); done)))); (try simp only [Act.put, List.setIfInBounds_toArray, List.set_cons_zero, List.set_cons_succ]); go_big_quiet_on))
              refine wpQuiet_nil ?_
              intro w4 hw4
              have HB4 := Lib.hid (hb.out.trans ((cellL_size hw4).mono hb.out.size))
              clear hw4
              go_wp2_with fail
            all_goals first
              | (have HE := Lib.hid (show rightFP (prevPc k (i + 2)) (k.drop (i + 2)) = v from by rw [← HL2.out, HGP.out]; rfl)
                 go_roundw
                 case rel => exact ⟨i + 2, by omega, HE, by go_num, HB4⟩
                 case measure => simp [intOf]; omega)
              | (have HE := Lib.hid (show false = v from by rw [← HL2.out, HGP.out]; rfl)
                 go_ret
                 exact ⟨ret_bool HE.out, HB4.out⟩)
      · have HE := Lib.hid (show false = v from by rw [← HL.out, hd, rightFP_no (by simpa using hone)])
        have hno : d1 = false ∨ n2 = 0 ∨ d3 = false := by
          rw [onePc_iff, hd1, hd3] at hone
          cases d1
          · exact .inl rfl
          · cases d3
            · exact .inr (.inr rfl)
            · refine .inr (.inl ?_)
              rw [hn2]
              cases hs : r.set with
              | nil => rfl
              | cons x l => exact absurd ⟨rfl, by rw [hs]; simp, rfl⟩ hone
        have HB := Lib.hid (Below.refl wr.heap.size wr)
        clear hd hm hd1 hd3 hn2 hrd2 hIs hone
        cases d1
        · go_wp2_with ((with_reducible refine (C1 _).out.mono ?_); rintro e w2 ⟨rfl, hq⟩; have hb2 := Lib.hid (hb.out.trans (hq.mono hb.out.size)); clear hq)
          go_ret
          exact ⟨ret_bool HE.out, hb2.out⟩
        · by_cases hz : n2 = 0
          · subst hz
            clear hno
            go_wp2_with ((with_reducible refine (C1 _).out.mono ?_); rintro e w2 ⟨rfl, hq⟩; have hb2 := Lib.hid (hb.out.trans (hq.mono hb.out.size)); replace r3 := ((bcell hq).1 _ _ hb1).trans r3; clear hq)
            go_ret
            exact ⟨ret_bool HE.out, hb2.out⟩
          · obtain rfl : d3 = false := by rcases hno with h | h | h; cases h; exact absurd h hz; exact h
            clear hno
            have hz0 : ((n2 : Int) == 0) = false := beq_eq_false_iff_ne.2 (by omega)
            go_wp2_with (first
              | ((with_reducible refine (C1 _).out.mono ?_); rintro e w2 ⟨rfl, hq⟩; replace hb := Lib.hid (hb.out.trans (hq.mono hb.out.size)); replace r3 := ((bcell hq).1 _ _ hb1).trans r3; replace HRD2 := Lib.hid (HRD2.out.call hq); clear hq)
              | ((with_reducible refine (C3 _ HRD2.out).out.mono ?_); rintro e w3 ⟨rfl, hq⟩; replace hb := Lib.hid (hb.out.trans (hq.mono hb.out.size)); clear hq))
            go_ret
            exact ⟨ret_bool HE.out, hb.out⟩
    · have HE := Lib.hid (show true = v from by rw [← HL.out, List.drop_eq_nil_of_le (by have := HN.out; omega)]; cases prevPc k j <;> rfl)
      go_wp2_with fail
      go_ret
      exact ⟨ret_bool HE.out, hb.out⟩
end Go.Proofs.YtaodifpnfejbbaaGreat

/-
  Layer 15 (know), the document's words: what is meant of a text.
-/
namespace Go.Proofs.YtaodifpnfejbbaaGreat
open Go.RowKit

/-- Knowledge that is short enough. -/
structure CapP (k : List Pc) : Prop where
  len : k.length ≤ 8000
  all : ∀ s, (catK k s).length ≤ 900000
  runs : ∀ s r, (runsV (catK k s) r).length ≤ 20000
theorem CapP.nil : CapP [] := ⟨by simp, fun _ => by simp [catK], fun _ _ => by simp [catK, runsV]⟩
theorem ofS_short (s : List Kn) (r : Int) : (runsV (ofS s) r).length ≤ (runsV s r).length := makeS1_runs s [] r
theorem CapP.at_ {k : List Pc} (h : CapP k) (s : List UInt8) (r : Int) : (runsV (atK k s) r).length ≤ 20000 := Nat.le_trans (ofS_short _ r) (h.runs s r)
theorem RetKF.more {w0 w w' : World} {N : Nat} {s : List Kn} {e : Ending} (h : RetKF w N s e w') (hb : Below w0.heap.size w0 w) : RetKF w0 N s e w' := by
  obtain ⟨A, c, h1, h2, h3⟩ := h
  exact ⟨A, c, h1, h2.mono fun g hg => Nat.le_trans hb.size hg, hb.trans (h3.mono hb.size)⟩
theorem k_at (A : Option Addr) (c n : Nat) (k : List Pc) (s : List UInt8) (U : ByteArray) (hn : n = k.length) (hU : str s = U) (hs : s.length ≤ 1000000) (hc : CapP k) (K : List Kn) (hK : atK k s = K) (N : Nat) (hN : K.length = N) (w : World) (hr : RdPc w A c k) :
    Calls Tryz.prog 17 #[.slice A n c, .string U] w (RetKF w N K) := ref_kat A c n k s U hn hU hs (hc.all s) (hc.runs s) K hK N hN w hr
set_option maxRecDepth 100000 in
set_option maxHeartbeats 4000000 in
theorem ref_what (op x : Int) (hx : op = x) (h123 : op = 1 ∨ op = 2 ∨ op = 3) (A B D : Option Addr) (c d e n m q : Nat) (a b : List Pc) (l : List Rng) (s : List UInt8) (U : ByteArray) (hn : n = a.length) (hm : m = b.length) (hq : q = l.length) (hU : str s = U) (hs : s.length ≤ 1000000)
    (hca : CapP a) (hcb : CapP b) (K : List Kn) (hK : whatP op a b l s = K) (N : Nat) (hN : K.length = N) (w : World) (ha : RdPc w A c a) (hb : RdPc w B d b) (hl : kRng.Rd w w.heap.size D e l) :
    Calls Tryz.prog 89 #[.int .i64 x, .slice A n c, .slice B m d, .slice D q e, .string U] w (RetKF w N K) := by
  subst hx
  have HA := Lib.hid ha
  have HB := Lib.hid hb
  have HL := Lib.hid hl
  obtain ⟨K1, hK1⟩ : ∃ K, atK a s = K := ⟨_, rfl⟩
  obtain ⟨K2, hK2⟩ : ∃ K, atK b s = K := ⟨_, rfl⟩
  obtain ⟨N1, hN1⟩ : ∃ N, K1.length = N := ⟨_, rfl⟩
  obtain ⟨N2, hN2⟩ : ∃ N, K2.length = N := ⟨_, rfl⟩
  have C1 := fun w h => Lib.hid (k_at A c n a s U hn hU hs hca K1 hK1 N1 hN1 w h)
  have C2 := fun w h => Lib.hid (k_at B d m b s U hm hU hs hcb K2 hK2 N2 hN2 w h)
  have hr1 : ∀ r, (runsV K1 r).length ≤ 20000 := fun r => by rw [← hK1]; exact hca.at_ s r
  have hr2 : ∀ r, (runsV K2 r).length ≤ 20000 := fun r => by rw [← hK2]; exact hcb.at_ s r
  have HW := Lib.hid (Below.refl w.heap.size w)
  rcases h123 with rfl | rfl | rfl
  · have C3 := fun A1 A2 c1 c2 w h1 h2 => Lib.hid (ref_vmake_new 1 A1 A2 c1 c2 N1 N2 K1 K2 hN1.symm hN2.symm hr1 hr2 K (by rw [← hK, whatP1, hK1, hK2]) N hN w h1 h2)
    clear ha hb hl hK1 hK2 hN1 hN2 hr1 hr2 hK hN hU hs hca hcb hn hm hq
    go_enter Tryz.func89, Tryz.ntmps89
    go_wp2_with (first
      | ((with_reducible refine (C1 _ HA.out).out.mono ?_); rintro e w1 ⟨A1, c1, rfl, hrd, hq⟩; replace HB := Lib.hid (HB.out.call hq); replace HW := Lib.hid (HW.out.trans (hq.mono HW.out.size)); have HX := Lib.hid (rdk_of hrd); clear hrd hq)
      | ((with_reducible refine (C2 _ HB.out).out.mono ?_); rintro e w2 ⟨A2, c2, rfl, hrd, hq⟩; replace HX := Lib.hid (HX.out.call hq); replace HW := Lib.hid (HW.out.trans (hq.mono HW.out.size)); have HY := Lib.hid (rdk_of hrd); clear hrd hq)
      | ((with_reducible refine (C3 _ _ _ _ _ HX.out HY.out).out.mono ?_); rintro e w3 ⟨A3, c3, rfl, hrd, hq⟩; have HF := Lib.hid (show RetKF w N K (.returned (.slice A3 N c3)) w3 from RetKF.more ⟨A3, c3, rfl, hrd, hq⟩ HW.out); clear hrd hq))
    go_ret
    exact HF.out
  · have C3 := fun A1 A2 c1 c2 w h1 h2 => Lib.hid (ref_vmake_new 3 A1 A2 c1 c2 N1 N2 K1 K2 hN1.symm hN2.symm hr1 hr2 K (by rw [← hK, whatP2, hK1, hK2]) N hN w h1 h2)
    clear ha hb hl hK1 hK2 hN1 hN2 hr1 hr2 hK hN hU hs hca hcb hn hm hq
    go_enter Tryz.func89, Tryz.ntmps89
    go_wp2_with (first
      | ((with_reducible refine (C1 _ HA.out).out.mono ?_); rintro e w1 ⟨A1, c1, rfl, hrd, hq⟩; replace HB := Lib.hid (HB.out.call hq); replace HW := Lib.hid (HW.out.trans (hq.mono HW.out.size)); have HX := Lib.hid (rdk_of hrd); clear hrd hq)
      | ((with_reducible refine (C2 _ HB.out).out.mono ?_); rintro e w2 ⟨A2, c2, rfl, hrd, hq⟩; replace HX := Lib.hid (HX.out.call hq); replace HW := Lib.hid (HW.out.trans (hq.mono HW.out.size)); have HY := Lib.hid (rdk_of hrd); clear hrd hq)
      | ((with_reducible refine (C3 _ _ _ _ _ HX.out HY.out).out.mono ?_); rintro e w3 ⟨A3, c3, rfl, hrd, hq⟩; have HF := Lib.hid (show RetKF w N K (.returned (.slice A3 N c3)) w3 from RetKF.more ⟨A3, c3, rfl, hrd, hq⟩ HW.out); clear hrd hq))
    go_ret
    exact HF.out
  · obtain ⟨z, hz⟩ : ∃ z, hasL l s = z := ⟨_, rfl⟩
    have C4 := fun w h => Lib.hid (ref_lhas D e q l s U hq hU hs z hz w h)
    cases z
    · obtain rfl : [] = K := by rw [← hK, whatP3_out hz]
      obtain rfl : 0 = N := hN
      clear ha hb hl hK1 hK2 hN1 hN2 hr1 hr2 hK hU hs hca hcb hn hm hq hz C1 C2
      go_enter Tryz.func89, Tryz.ntmps89
      go_wp2_with ((with_reducible refine (C4 _ HL.out).out.mono ?_); rintro e w1 ⟨rfl, hq⟩; replace HW := Lib.hid (HW.out.trans (hq.mono HW.out.size)); clear hq)
      go_ret
      exact ⟨_, _, rfl, Deep.Rd.nil _ _ _ _ (Nat.zero_le _), HW.out.alloc HW.out.size _⟩
    · obtain rfl : K1 = K := by rw [← hK, whatP3_in hz, hK1]
      obtain rfl : N1 = N := hN1.symm.trans hN
      clear ha hb hl hK1 hK2 hN1 hN2 hr1 hr2 hK hN hU hs hca hcb hn hm hq hz C2
      go_enter Tryz.func89, Tryz.ntmps89
      go_wp2_with (first
        | ((with_reducible refine (C4 _ HL.out).out.mono ?_); rintro e w1 ⟨rfl, hq⟩; replace HA := Lib.hid (HA.out.call hq); replace HW := Lib.hid (HW.out.trans (hq.mono HW.out.size)); clear hq)
        | ((with_reducible refine (C1 _ HA.out).out.mono ?_); rintro e w3 ⟨A3, c3, rfl, hrd, hq⟩; have HF := Lib.hid (show RetKF w N1 K1 (.returned (.slice A3 N1 c3)) w3 from RetKF.more ⟨A3, c3, rfl, hrd, hq⟩ HW.out); clear hrd hq))
      go_ret
      exact HF.out
end Go.Proofs.YtaodifpnfejbbaaGreat

/-
  Layer 15 (know): a list made at edges, edge by edge, as a program goes: what lies in its list at each edge. No program in this text.
-/
namespace Go.Proofs.YtaodifpnfejbbaaGreat

/-- Where what has begun ends for now: at the edge k, or nowhere. -/
def edgeK (E : List (List UInt8)) (k : Nat) : List UInt8 × Bool := match E[k]? with
  | some e => (e, false)
  | none => ([], true)
theorem edgeK_some {E : List (List UInt8)} {k : Nat} {e : List UInt8} (h : E[k]? = some e) : edgeK E k = (e, false) := by unfold edgeK; rw [h]
theorem edgeK_none {E : List (List UInt8)} {k : Nat} (h : E.length ≤ k) : edgeK E k = ([], true) := by unfold edgeK; rw [List.getElem?_eq_none h]
/-- The piece that has begun, ended for now. -/
def pendP (o : Option (List UInt8 × List Kn)) (h : List UInt8 × Bool) : List Pc := match o with
  | none => []
  | some (lo, S) => [⟨⟨lo, h.1, h.2⟩, S⟩]
/-- What holds from edge to edge. -/
structure MkSt (f : List UInt8 → List Kn) (E : List (List UInt8)) (k : Nat) (dn : List Pc) (o : Option (List UInt8 × List Kn)) : Prop where
  eq : mkP f E none = dn ++ mkP f (E.drop k) o
  past : ∀ p ∈ dn, p.rng.op = false ∧ p.rng.hi ∈ E.take k
  begun : ∀ lo S, o = some (lo, S) → S ≠ []
  len : dn.length + (match o with | none => 0 | some _ => 1) ≤ k
theorem MkSt.start (f : List UInt8 → List Kn) (E : List (List UInt8)) : MkSt f E 0 [] none := ⟨rfl, fun p h => (by cases h), fun lo S h => (by cases h), Nat.le_refl _⟩
theorem take_next {E : List (List UInt8)} {k : Nat} {e : List UInt8} (h : E[k]? = some e) : ∀ x, x ∈ E.take k ∨ x = e → x ∈ E.take (k + 1) := fun x hx => by
  rw [List.take_add_one, h, List.mem_append]
  rcases hx with hx | rfl
  · exact .inl hx
  · exact .inr (by simp)
theorem drop_now {E : List (List UInt8)} {k : Nat} {e : List UInt8} (h : E[k]? = some e) : E.drop k = e :: E.drop (k + 1) := by
  obtain ⟨h1, rfl⟩ := List.getElem?_eq_some_iff.1 h
  exact List.drop_eq_getElem_cons h1
section
variable {f : List UInt8 → List Kn} {E : List (List UInt8)} {k : Nat} {dn : List Pc} {e lo : List UInt8} {S : List Kn}
theorem MkSt.out (h : MkSt f E k dn none) (he : E[k]? = some e) (hf : f e = []) : MkSt f E (k + 1) dn none :=
  ⟨by rw [h.eq, drop_now he, mkP_none_no hf], fun p hp => ⟨(h.past p hp).1, take_next he _ (.inl (h.past p hp).2)⟩, h.begun, by have := h.len; simp at this ⊢; omega⟩
theorem MkSt.off (h : MkSt f E k dn (some (lo, S))) (he : E[k]? = some e) (hf : f e = []) : MkSt f E (k + 1) (dn ++ [⟨⟨lo, e, false⟩, S⟩]) none := by
  have hS := h.begun lo S rfl
  refine ⟨?_, fun p hp => ?_, fun lo S h => (by cases h), by have := h.len; simp at this ⊢; omega⟩
  · rw [h.eq, drop_now he, mkP_end (by rw [hf]; exact fun e => hS e.symm), mkP_none_no hf, List.append_assoc]; rfl
  · rcases List.mem_append.1 hp with hp | hp
    · exact ⟨(h.past p hp).1, take_next he _ (.inl (h.past p hp).2)⟩
    · rw [List.mem_singleton] at hp
      subst hp
      exact ⟨rfl, take_next he _ (.inr rfl)⟩
theorem MkSt.new (h : MkSt f E k dn none) (he : E[k]? = some e) (hf : f e ≠ []) : MkSt f E (k + 1) dn (some (e, f e)) :=
  ⟨by rw [h.eq, drop_now he, mkP_none_yes hf], fun p hp => ⟨(h.past p hp).1, take_next he _ (.inl (h.past p hp).2)⟩, fun lo S h => by
    injection h with h; injection h with h1 h2; subst h2; exact hf, by have := h.len; simp at this ⊢; omega⟩
theorem MkSt.stay (h : MkSt f E k dn (some (lo, S))) (he : E[k]? = some e) (hf : f e = S) : MkSt f E (k + 1) dn (some (lo, S)) :=
  ⟨by rw [h.eq, drop_now he, mkP_on hf], fun p hp => ⟨(h.past p hp).1, take_next he _ (.inl (h.past p hp).2)⟩, h.begun, by have := h.len; simp at this ⊢; omega⟩
theorem MkSt.turn (h : MkSt f E k dn (some (lo, S))) (he : E[k]? = some e) (hf : f e ≠ []) (hne : f e ≠ S) : MkSt f E (k + 1) (dn ++ [⟨⟨lo, e, false⟩, S⟩]) (some (e, f e)) := by
  refine ⟨?_, fun p hp => ?_, fun lo S h => ?_, by have := h.len; simp at this ⊢; omega⟩
  · rw [h.eq, drop_now he, mkP_end hne, mkP_none_yes hf, List.append_assoc]; rfl
  · rcases List.mem_append.1 hp with hp | hp
    · exact ⟨(h.past p hp).1, take_next he _ (.inl (h.past p hp).2)⟩
    · rw [List.mem_singleton] at hp
      subst hp
      exact ⟨rfl, take_next he _ (.inr rfl)⟩
  · injection h with h; injection h with h1 h2; subst h2; exact hf
end
theorem MkSt.done {f : List UInt8 → List Kn} {E : List (List UInt8)} {k : Nat} {dn : List Pc} {o : Option (List UInt8 × List Kn)} (h : MkSt f E k dn o) (hk : E.length ≤ k) : mkP f E none = dn ++ pendP o (edgeK E k) := by
  rw [h.eq, List.drop_eq_nil_of_le hk, edgeK_none hk]
  match o with
  | none => rfl
  | some (lo, S) => rfl
theorem rising_pairs : ∀ {l : List (List UInt8)} {c : List UInt8}, risingB c l = true → l.Pairwise fun a b => ltB a b = true
  | [], _, _ => List.Pairwise.nil
  | x :: l, c, h => by
    obtain ⟨_, h2⟩ := rising_head h
    exact List.pairwise_cons.2 ⟨fun y hy => rising_all h2 y hy, rising_pairs h2⟩
theorem edges_new {E : List (List UInt8)} (h : EdgesOk E) {k : Nat} {e : List UInt8} (he : E[k]? = some e) : e ∉ E.take k := by
  obtain ⟨m, rfl, h1, _⟩ := h
  have hp : ([] :: m).Pairwise fun a b => ltB a b = true := List.pairwise_cons.2 ⟨fun y hy => rising_all h1 y hy, rising_pairs h1⟩
  intro hm
  obtain ⟨i, hi, hie⟩ := List.getElem_of_mem hm
  rw [List.length_take] at hi
  rw [List.getElem_take] at hie
  obtain ⟨hk, rfl⟩ := List.getElem?_eq_some_iff.1 he
  have := List.pairwise_iff_getElem.1 hp i k (by omega) hk (by omega)
  rw [hie, ltB_irrefl] at this
  cases this
/-- The last of what is done ends ahead of this edge. -/
theorem MkSt.last {f : List UInt8 → List Kn} {E : List (List UInt8)} {k : Nat} {dn : List Pc} {o : Option (List UInt8 × List Kn)} (h : MkSt f E k dn o) (hE : EdgesOk E) {e : List UInt8} (he : E[k]? = some e) {p : Pc} (hp : p ∈ dn) : p.rng.op = false ∧ p.rng.hi ≠ e :=
  ⟨(h.past p hp).1, fun h2 => edges_new hE he (h2 ▸ (h.past p hp).2)⟩
section
variable {f : List UInt8 → List Kn} {E : List (List UInt8)} {k : Nat} {dn dq : List Pc} {o : Option (List UInt8 × List Kn)} {e : List UInt8} {K : List Kn} {p : Pc}
/-- What stands last in the list at an edge. -/
theorem MkSt.shape (h : MkSt f E k dn o) (hE : EdgesOk E) (he : E[k]? = some e) (hl : dn ++ pendP o (edgeK E k) = dq ++ [p]) :
    p.rng.op = false ∧ ((o = none ∧ dn = dq ++ [p] ∧ p.rng.hi ≠ e) ∨ ∃ lo S, o = some (lo, S) ∧ dq = dn ∧ p = ⟨⟨lo, e, false⟩, S⟩) := by
  match o with
  | none =>
    have hl : dn ++ [] = dq ++ [p] := hl
    rw [List.append_nil] at hl
    have := h.last hE he (p := p) (by rw [hl]; simp)
    exact ⟨this.1, .inl ⟨rfl, hl, this.2⟩⟩
  | some (lo, S) =>
    rw [edgeK_some he] at hl
    have hl : dn ++ [⟨⟨lo, e, false⟩, S⟩] = dq ++ [p] := hl
    obtain ⟨h1, h2⟩ := List.append_inj' hl rfl
    injection h2 with h2
    subst h1 h2
    exact ⟨rfl, .inr ⟨lo, S, rfl, rfl, rfl⟩⟩
theorem MkSt.app (h : MkSt f E k dn o) (he : E[k]? = some e) (hK : f e = K) (hK0 : K ≠ []) (hno : ∀ dq p, dn ++ pendP o (edgeK E k) = dq ++ [p] → ¬ (p.rng.hi = e ∧ p.set = K)) :
    ∃ dn2, MkSt f E (k + 1) dn2 (some (e, K)) ∧ (dn ++ pendP o (edgeK E k)) ++ [⟨⟨e, (edgeK E (k + 1)).1, (edgeK E (k + 1)).2⟩, K⟩] = dn2 ++ pendP (some (e, K)) (edgeK E (k + 1)) := by
  subst hK
  match o with
  | none => exact ⟨dn, h.new he hK0, by show (dn ++ []) ++ _ = dn ++ _; rw [List.append_nil]; rfl⟩
  | some (lo, S) =>
    rw [edgeK_some he] at hno ⊢
    have hne : f e ≠ S := fun e1 => hno dn ⟨⟨lo, e, false⟩, S⟩ rfl ⟨rfl, e1.symm⟩
    exact ⟨_, h.turn he hK0 hne, rfl⟩
theorem MkSt.ext (h : MkSt f E k dn o) (hE : EdgesOk E) (he : E[k]? = some e) (hK : f e = K) (hl : dn ++ pendP o (edgeK E k) = dq ++ [p]) (h1 : p.rng.hi = e) (h2 : p.set = K) :
    ∃ dn2 q, MkSt f E (k + 1) dn2 q ∧ dq ++ [⟨⟨p.rng.lo, (edgeK E (k + 1)).1, (edgeK E (k + 1)).2⟩, p.set⟩] = dn2 ++ pendP q (edgeK E (k + 1)) := by
  obtain ⟨_, hs⟩ := h.shape hE he hl
  rcases hs with ⟨_, _, hne⟩ | ⟨lo, S, rfl, rfl, rfl⟩
  · exact absurd h1 hne
  · exact ⟨_, _, h.stay he (hK.trans h2.symm), rfl⟩
end
end Go.Proofs.YtaodifpnfejbbaaGreat

/-
  Layer 15 (know), the document's words: the right list of what is meant.
-/
namespace Go.Proofs.YtaodifpnfejbbaaGreat
open Go.RowKit

/-- What a call hands back: knowledge that reads. -/
def RetP (w : World) (N : Nat) (k : List Pc) (e : Ending) (w' : World) : Prop := ∃ A c, e = .returned (.slice A N c) ∧ RdPc w' A c k ∧ Below w.heap.size w w'
/-- .. all of it new. -/
def RetPF (w : World) (N : Nat) (k : List Pc) (e : Ending) (w' : World) : Prop := ∃ A c, e = .returned (.slice A N c) ∧ dPc.Rd w' (fun g => w.heap.size ≤ g) A c k ∧ Below w.heap.size w w'
theorem RetPF.to {w w' : World} {N : Nat} {k : List Pc} {e : Ending} (h : RetPF w N k e w') : RetP w N k e w' := by
  obtain ⟨A, c, h1, h2, h3⟩ := h
  exact ⟨A, c, h1, Deep.Rd.all h2, h3⟩
/-- Knowledge in a row of the call's own. -/
def OwnPF (w : World) (base : Nat) (v : Value) (k : List Pc) : Prop := dPc.Own w base (fun g => base ≤ g) v k
theorem OwnPF.below {w w' : World} {base : Nat} {v : Value} {k : List Pc} (h : OwnPF w base v k) (hb : Below w.heap.size w w') : OwnPF w' base v k := Deep.Own.below h hb
theorem OwnPF.read_n {w : World} {base n : Nat} {v : Value} {k : List Pc} (h : OwnPF w base v k) (hn : n = k.length) : ∃ A c, v = .slice A n c ∧ RdPc w A c k := by
  obtain ⟨A, c, e, hr⟩ := Deep.Own.rd h hn fun _ h => h
  exact ⟨A, c, e, Deep.Rd.all hr⟩
/-- .. all of it new. -/
theorem OwnPF.read_f {w : World} {base n : Nat} {v : Value} {k : List Pc} (h : OwnPF w base v k) (hn : n = k.length) : ∃ A c, v = .slice A n c ∧ dPc.Rd w (fun g => base ≤ g) A c k := Deep.Own.rd h hn fun _ h => h
theorem OwnPF.lt {w : World} {base g n c : Nat} {k : List Pc} (h : OwnPF w base (.slice (some ⟨g, 0, none⟩) n c) k) : base ≤ g ∧ g < w.heap.size := Deep.Own.lt h g rfl
/-- .. which may hold what was there. -/
def OwnP (w : World) (base : Nat) (v : Value) (k : List Pc) : Prop := dPc.Own w base (fun _ => True) v k
theorem OwnP.below {w w' : World} {base : Nat} {v : Value} {k : List Pc} (h : OwnP w base v k) (hb : Below w.heap.size w w') : OwnP w' base v k := Deep.Own.below h hb
theorem OwnP.read_n {w : World} {base n : Nat} {v : Value} {k : List Pc} (h : OwnP w base v k) (hn : n = k.length) : ∃ A c, v = .slice A n c ∧ RdPc w A c k := Deep.Own.rd h hn fun _ _ => trivial
theorem OwnP.lt {w : World} {base g n c : Nat} {k : List Pc} (h : OwnP w base (.slice (some ⟨g, 0, none⟩) n c) k) : base ≤ g ∧ g < w.heap.size := Deep.Own.lt h g rfl
/-- A piece more. -/
theorem piece_row (w : World) (p : Ps) : RowAt (w.alloc (.cells #[.string (str p.rng.lo), .string (str p.rng.hi), .bool p.rng.op, .slice p.A p.n p.c] 44)) (w.heap.size + 1) (some ⟨w.heap.size, 0, none⟩) (kPs.row [p]) := (Kind.rd_new (k := kPs) (l := [p]) rfl rfl (by simp)).row
theorem own_lastP {w : World} {base g n c D : Nat} {dn : List Pc} {p : Pc} (h : OwnPF w base (.slice (some ⟨g, 0, none⟩) n c) (dn ++ [p])) (hn : n = (dn ++ [p]).length) (hD : dn.length = D) (x : List UInt8) (T : ByteArray) (hT : str x = T) (q : Bool) :
    OwnPF ((w.setCell ⟨g, D * 4 + 1, none⟩ (.string T)).setCell ⟨g, D * 4 + 2, none⟩ (.bool q)) base (.slice (some ⟨g, 0, none⟩) n c) (dn ++ [⟨⟨p.rng.lo, x, q⟩, p.set⟩]) := by
  subst hD hT
  obtain ⟨bs, h1, h2⟩ := h
  have hnb : n = bs.length := hn.trans h2.1.symm
  have hDl : dn.length < bs.length := by rw [h2.1, List.length_append, List.length_singleton]; omega
  obtain ⟨b, hb⟩ : ∃ b, bs[dn.length]? = some b := ⟨_, List.getElem?_eq_getElem hDl⟩
  have g1 : (dn ++ [p])[dn.length]? = some p := by rw [List.getElem?_append_right (Nat.le_refl _), Nat.sub_self]; rfl
  have hrel := h2.2 _ _ _ hb g1
  obtain ⟨e1, e2, e3⟩ := hrel
  have k1 := Kind.Own.stored (k := kPs) h1 (j := 1) (y := ⟨⟨b.rng.lo, x, b.rng.op⟩, b.A, b.n, b.c⟩) (v := .string (str x)) hnb hb (by decide) rfl
  have k2 := Kind.Own.stored (k := kPs) k1 (i := dn.length) (j := 2) (x := ⟨⟨b.rng.lo, x, b.rng.op⟩, b.A, b.n, b.c⟩) (y := ⟨⟨b.rng.lo, x, q⟩, b.A, b.n, b.c⟩) (v := .bool q) (by rw [hnb, List.length_set]) (by rw [List.getElem?_set_self hDl]) (by decide) rfl
  rw [List.set_set] at k2
  have hkeep : KeptS (fun g' => (base ≤ g' ∧ (Value.slice (some ⟨g, 0, none⟩) n c).ownBlock ≠ some g')) w ((w.setCell ⟨g, dn.length * 4 + 1, none⟩ (.string (str x))).setCell ⟨g, dn.length * 4 + 2, none⟩ (.bool q)) := fun a ha _ => by
    have hne : g ≠ a.block := fun e => ha.2 (by rw [← e]; rfl)
    rw [World.cell?_setCell_other _ _ _ _ (fun e => hne (by rw [← e])), World.cell?_setCell_other _ _ _ _ (fun e => hne (by rw [← e]))]
  have h3 := Deep.All.keep h2 hkeep
  refine ⟨_, k2, ?_, fun i b' a' hb' ha' => ?_⟩
  · rw [List.length_set, h2.1, List.length_append, List.length_append]; rfl
  · by_cases hi : i = dn.length
    · subst hi
      rw [List.getElem?_set_self hDl] at hb'
      rw [List.getElem?_append_right (Nat.le_refl _), Nat.sub_self] at ha'
      injection hb' with hb'
      injection ha' with ha'
      subst hb' ha'
      obtain ⟨f1, f2, f3⟩ := h3.2 _ _ _ hb g1
      exact ⟨by rw [f1], f2, f3⟩
    · rw [List.getElem?_set_ne (fun e => hi e.symm)] at hb'
      refine h3.2 i b' a' hb' ?_
      by_cases hl : i < dn.length
      · rw [List.getElem?_append_left hl] at ha' ⊢; exact ha'
      · rw [List.getElem?_append_right (by omega)] at ha'
        exfalso
        obtain ⟨m, hm⟩ : ∃ m, i - dn.length = m + 1 := ⟨i - dn.length - 1, by omega⟩
        rw [hm] at ha'
        cases ha'
/-- Where the last piece lies. -/
theorem own_atP {w : World} {base g n c D : Nat} {dq : List Pc} {p : Pc} (h : OwnPF w base (.slice (some ⟨g, 0, none⟩) n c) (dq ++ [p])) (hn : n = (dq ++ [p]).length) (hD : dq.length = D) :
    ∃ (A' : Option Addr) (n' c' : Nat) (T : ByteArray), str p.rng.hi = T ∧ n' = p.set.length ∧ RdK w w.heap.size A' c' p.set ∧ w.cell? ⟨g, D * 4 + 1, none⟩ = some (.string T) ∧ w.cell? ⟨g, D * 4 + 2, none⟩ = some (.bool p.rng.op) ∧ w.cell? ⟨g, D * 4 + 3, none⟩ = some (.slice A' n' c') ∧ ∀ j, w.frozen? ⟨g, j, none⟩ = false := by
  subst hD
  obtain ⟨bs, h1, h2⟩ := h
  have hnb : n = bs.length := hn.trans h2.1.symm
  have hDl : dq.length < bs.length := by rw [h2.1, List.length_append, List.length_singleton]; omega
  obtain ⟨b, hb⟩ : ∃ b, bs[dq.length]? = some b := ⟨_, List.getElem?_eq_getElem hDl⟩
  have g1 : (dq ++ [p])[dq.length]? = some p := by rw [List.getElem?_append_right (Nat.le_refl _), Nat.sub_self]; rfl
  obtain ⟨e1, e2, e3⟩ := h2.2 _ _ _ hb g1
  obtain ⟨-, -, hf, hc⟩ := h1.at_g hnb (by omega)
  refine ⟨b.A, b.n, b.c, str b.rng.hi, by rw [e1], e2, rdk_of e3, hc _ b hb 1 _ rfl, ?_, hc _ b hb 3 _ rfl, hf⟩
  rw [← e1]
  exact hc _ b hb 2 _ rfl
theorem piece_row_n (w : World) (x h : List UInt8) (X T : ByteArray) (hX : str x = X) (hT : str h = T) (q : Bool) (A : Option Addr) (n c : Nat) :
    RowAt (w.alloc (.cells #[.string X, .string T, .bool q, .slice A n c] 44)) (w.heap.size + 1) (some ⟨w.heap.size, 0, none⟩) (kPs.row [⟨⟨x, h, q⟩, A, n, c⟩]) := by
  subst hX hT
  exact piece_row w ⟨⟨x, h, q⟩, A, n, c⟩
end Go.Proofs.YtaodifpnfejbbaaGreat
