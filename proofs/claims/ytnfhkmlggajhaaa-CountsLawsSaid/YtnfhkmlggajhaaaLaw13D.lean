/-
  The laws of layer 13: CountsTell.
-/
import Derived.Test.YtnfhkmlggajhaaaLaw13C
namespace Go.Proofs.Ytnfhkmlggajhaaa
open Go.RowKit

theorem ofC_idem (l : List Rn) : ofC (ofC l) = ofC l := (ofC_unique (ofC_right l) fun _ => rfl).symm
theorem manyC_of (l : List Rn) : manyC (ofC l) = manyC l := by unfold manyC; rw [ofC_idem]
theorem it_new (w : World) (x : Int) : kIt.Rd (w.alloc (.cells #[.int .i64 x] 3)) (w.alloc (.cells #[.int .i64 x] 3)).heap.size (some ⟨w.heap.size, 0, none⟩) 1 [x] := by
  rw [size13]
  exact Kind.rd_new (k := kIt) (l := [x]) rfl rfl (by simp)
set_option maxRecDepth 100000 in
set_option maxHeartbeats 16000000 in
theorem countsTell_walk (HAD : CAddC 15) (HBA : CNumC 20 baseC) (HMO : CNumC 21 mostC) (HMA : CNumC 22 manyC)
    (A : Option Addr) (c n : Nat) (l : List Rn) (x : Int) (hn : n = l.length) (w : World) (ha : kRn.Rd w w.heap.size A c l) :
    Calls Try.prog 5 #[.slice A n c, .int .i64 x] w fun e w' => e = .returned (.bool true) ∧ Below w.heap.size w w' := by
  have A0 := fun w => Lib.hid (awake13 HAD HBA HMO HMA w)
  have HA := Lib.hid ha
  have HW := Lib.hid (Below.refl w.heap.size w)
  have hn9 := rd_maxC ha hn
  by_cases h1 : n ≤ 40
  · have hnd : decide ((40 : Int) < (n : Int)) = false := decide_eq_false (by omega)
    obtain ⟨b, hb⟩ : ∃ b, baseC l = b := ⟨_, rfl⟩
    obtain ⟨m, hm⟩ : ∃ b, mostC l = b := ⟨_, rfl⟩
    obtain ⟨k, hk⟩ : ∃ b, manyC l = b := ⟨_, rfl⟩
    obtain ⟨v, hv⟩ : ∃ v, hasC l x = v := ⟨_, rfl⟩
    obtain ⟨v3, hv3⟩ : ∃ v, hasC l m = v := ⟨_, rfl⟩
    obtain ⟨O, hO⟩ : ∃ O, ofC (l ++ [x].map runC) = O := ⟨_, rfl⟩
    obtain ⟨NO, hNO⟩ : ∃ N, O.length = N := ⟨_, rfl⟩
    obtain ⟨z, hz⟩ : ∃ z, manyC O = z := ⟨_, rfl⟩
    have LO : NO ≤ 200 := by
      have h := makeC_len 1 (l ++ [x].map runC) []
      rw [show makeC 1 (l ++ [x].map runC) [] = O from hO, hNO, List.length_append, List.length_map] at h
      simp only [List.length_nil, List.length_cons] at h
      omega
    have T : z = k + (match decide (1 ≤ x) && (decide (x ≤ 1099511627776) && !v) with | true => 1 | false => 0) := by
      rw [← hz, ← hO, manyC_of, show [x].map runC = [runC x] from rfl, many_add, hk, hv]
      rfl
    have F1 := base_ok l
    have F2 := most_ok l
    have F3 := many_ok l
    rw [hb, hm] at F1
    rw [hm] at F2
    rw [hb, hm, hk] at F3
    have B1 := fun w hr => Lib.hid (HBA A c n l hn (by omega) b hb w hr)
    have M1 := fun w hr => Lib.hid (HMO A c n l hn (by omega) m hm w hr)
    have K1 := fun w hr => Lib.hid (HMA A c n l hn (by omega) k hk w hr)
    have X1 := fun w hr => Lib.hid (ref_chas A c n l x hn v hv w hr)
    have X2 := fun w hr => Lib.hid (ref_chas A c n l (b + 1) hn false F1.2.1 w hr)
    have X3 := fun w hr => Lib.hid (ref_chas A c n l m hn v3 hv3 w hr)
    have D1 := fun (W : World) hr => Lib.hid ((HAD A (some ⟨W.heap.size, 0, none⟩) c 1 n 1 l [x] hn rfl (by omega) (by omega) O hO NO hNO (W.alloc (.cells #[.int .i64 x] 3)) (Kind.Rd.call hr (below_new _ _)) (it_new W x)).mono fun e w' ⟨A, c, h1, h2, h3⟩ => (⟨A, c, h1, h2, (below_new _ _).trans (h3.mono (by simp))⟩ : RetC W NO O e w'))
    have Z1 := fun A c w hr => Lib.hid (HMA A c NO O hNO.symm (by omega) z hz w hr)
    have W1 : IntKind.i64.wrap (b + 1) = b + 1 := IntWalk.i64_in _ (by omega)
    have W2 : IntKind.i64.wrap (k + 1) = k + 1 := IntWalk.i64_in _ (by omega)
    have E1 : decide (b < 0) = false := decide_eq_false (by omega)
    have E2 : decide (m < b) = false := decide_eq_false (by omega)
    have E3 : decide ((1099511627776 : Int) < m) = false := decide_eq_false (by omega)
    have E4 : decide (k < b) = false := decide_eq_false (by omega)
    have E5 : decide (m < k) = false := decide_eq_false (by omega)
    obtain ⟨q, hq1⟩ : ∃ q, (k == b) = q := ⟨_, rfl⟩
    have hq2 : (b == m) = q := by
      rw [← hq1, Bool.eq_iff_iff]
      simp only [beq_iff_eq]
      exact F3.2.2.symm
    obtain ⟨p1, P1⟩ : ∃ p, decide (1 ≤ x) = p := ⟨_, rfl⟩
    obtain ⟨p2, P2⟩ : ∃ p, decide (x ≤ b) = p := ⟨_, rfl⟩
    obtain ⟨p3, P3⟩ : ∃ p, decide (0 < m) = p := ⟨_, rfl⟩
    obtain ⟨p4, P4⟩ : ∃ p, decide (m < x) = p := ⟨_, rfl⟩
    obtain ⟨p5, P5⟩ : ∃ p, decide (x ≤ 1099511627776) = p := ⟨_, rfl⟩
    have G1 : p1 = true → p2 = true → v = true := fun h1 h2 => by
      rw [← hv]
      exact F1.1 x (by rw [h1] at P1; exact of_decide_eq_true P1) (by rw [h2] at P2; exact of_decide_eq_true P2)
    have G2 : p3 = true → v3 = true := fun h1 => by
      rw [← hv3]
      exact F2.2.1 (by rw [h1] at P3; exact of_decide_eq_true P3)
    have G3 : p4 = true → v = false := fun h1 => by
      have h2 : m < x := by rw [h1] at P4; exact of_decide_eq_true P4
      cases v
      · rfl
      · have := F2.1 x hv; omega
    have G4 : p1 = false → p4 = false := fun h1 => by
      have h2 : ¬ 1 ≤ x := by rw [h1] at P1; exact of_decide_eq_false P1
      rw [← P4]
      exact decide_eq_false (by omega)
    rw [P1, P5] at T
    have HV := Lib.hid (And.intro hn (And.intro hv hv3))
    clear HAD HBA HMO HMA hb hm hk hv hv3 hO hNO hz LO F1 F2 F3 ha hn h1
    cases p1
    · obtain rfl := G4 rfl
      replace T : z = k := T.trans (Int.add_zero k)
      subst T
      clear G1 G3 G4
      cases p3
      all_goals (try (obtain rfl := G2 rfl))
      all_goals clear G2
      all_goals cases q
      all_goals
        go_enter Try.func5, Try.ntmps5
        go_wp2_with (first
    | ((with_reducible refine (A0 _).out.mono ?_); rintro e w9 ⟨rfl, hq⟩; (try replace HA := Lib.hid (HA.out.call hq)); (try replace HR := Lib.hid (HR.out.call hq)); replace HW := Lib.hid (HW.out.trans (hq.mono HW.out.size));  clear hq)
    | ((with_reducible refine (B1 _ HA.out).out.mono ?_); rintro e w9 ⟨rfl, hq⟩; (try replace HA := Lib.hid (HA.out.call hq)); (try replace HR := Lib.hid (HR.out.call hq)); replace HW := Lib.hid (HW.out.trans (hq.mono HW.out.size));  clear hq)
    | ((with_reducible refine (M1 _ HA.out).out.mono ?_); rintro e w9 ⟨rfl, hq⟩; (try replace HA := Lib.hid (HA.out.call hq)); (try replace HR := Lib.hid (HR.out.call hq)); replace HW := Lib.hid (HW.out.trans (hq.mono HW.out.size));  clear hq)
    | ((with_reducible refine (K1 _ HA.out).out.mono ?_); rintro e w9 ⟨rfl, hq⟩; (try replace HA := Lib.hid (HA.out.call hq)); (try replace HR := Lib.hid (HR.out.call hq)); replace HW := Lib.hid (HW.out.trans (hq.mono HW.out.size));  clear hq)
    | ((with_reducible refine (X1 _ HA.out).out.mono ?_); rintro e w9 ⟨rfl, hq⟩; (try replace HA := Lib.hid (HA.out.call hq)); (try replace HR := Lib.hid (HR.out.call hq)); replace HW := Lib.hid (HW.out.trans (hq.mono HW.out.size));  clear hq)
    | ((with_reducible refine (X2 _ HA.out).out.mono ?_); rintro e w9 ⟨rfl, hq⟩; (try replace HA := Lib.hid (HA.out.call hq)); (try replace HR := Lib.hid (HR.out.call hq)); replace HW := Lib.hid (HW.out.trans (hq.mono HW.out.size));  clear hq)
    | ((with_reducible refine (X3 _ HA.out).out.mono ?_); rintro e w9 ⟨rfl, hq⟩; (try replace HA := Lib.hid (HA.out.call hq)); (try replace HR := Lib.hid (HR.out.call hq)); replace HW := Lib.hid (HW.out.trans (hq.mono HW.out.size));  clear hq)
    | ((with_reducible refine (D1 _ HA.out).out.mono ?_); rintro e w9 ⟨AR, cR, rfl, hrd, hq⟩; (try replace HA := Lib.hid (HA.out.call hq)); (try replace HR := Lib.hid (HR.out.call hq)); replace HW := Lib.hid (HW.out.trans (hq.mono HW.out.size)); have HR := Lib.hid hrd; clear hrd hq)
    | ((with_reducible refine (Z1 _ _ _ HR.out).out.mono ?_); rintro e w9 ⟨rfl, hq⟩; (try replace HA := Lib.hid (HA.out.call hq)); (try replace HR := Lib.hid (HR.out.call hq)); replace HW := Lib.hid (HW.out.trans (hq.mono HW.out.size));  clear hq))
        go_ret
        exact ⟨rfl, HW.out⟩
    · clear G4
      cases p4
      all_goals (try (obtain rfl := G3 rfl))
      all_goals clear G3
      all_goals cases p2
      all_goals (try (first | (obtain rfl := G1 rfl rfl) | (exact absurd (G1 rfl rfl) (by decide))))
      all_goals clear G1
      all_goals cases p3
      all_goals (try (obtain rfl := G2 rfl))
      all_goals clear G2
      all_goals cases q
      all_goals (try cases v)
      all_goals cases p5
      all_goals (first | (replace T : z = k := T.trans (Int.add_zero k)) | (replace T : z = k + 1 := T))
      all_goals subst T
      all_goals
        go_enter Try.func5, Try.ntmps5
        go_wp2_with (first
    | ((with_reducible refine (A0 _).out.mono ?_); rintro e w9 ⟨rfl, hq⟩; (try replace HA := Lib.hid (HA.out.call hq)); (try replace HR := Lib.hid (HR.out.call hq)); replace HW := Lib.hid (HW.out.trans (hq.mono HW.out.size));  clear hq)
    | ((with_reducible refine (B1 _ HA.out).out.mono ?_); rintro e w9 ⟨rfl, hq⟩; (try replace HA := Lib.hid (HA.out.call hq)); (try replace HR := Lib.hid (HR.out.call hq)); replace HW := Lib.hid (HW.out.trans (hq.mono HW.out.size));  clear hq)
    | ((with_reducible refine (M1 _ HA.out).out.mono ?_); rintro e w9 ⟨rfl, hq⟩; (try replace HA := Lib.hid (HA.out.call hq)); (try replace HR := Lib.hid (HR.out.call hq)); replace HW := Lib.hid (HW.out.trans (hq.mono HW.out.size));  clear hq)
    | ((with_reducible refine (K1 _ HA.out).out.mono ?_); rintro e w9 ⟨rfl, hq⟩; (try replace HA := Lib.hid (HA.out.call hq)); (try replace HR := Lib.hid (HR.out.call hq)); replace HW := Lib.hid (HW.out.trans (hq.mono HW.out.size));  clear hq)
    | ((with_reducible refine (X1 _ HA.out).out.mono ?_); rintro e w9 ⟨rfl, hq⟩; (try replace HA := Lib.hid (HA.out.call hq)); (try replace HR := Lib.hid (HR.out.call hq)); replace HW := Lib.hid (HW.out.trans (hq.mono HW.out.size));  clear hq)
    | ((with_reducible refine (X2 _ HA.out).out.mono ?_); rintro e w9 ⟨rfl, hq⟩; (try replace HA := Lib.hid (HA.out.call hq)); (try replace HR := Lib.hid (HR.out.call hq)); replace HW := Lib.hid (HW.out.trans (hq.mono HW.out.size));  clear hq)
    | ((with_reducible refine (X3 _ HA.out).out.mono ?_); rintro e w9 ⟨rfl, hq⟩; (try replace HA := Lib.hid (HA.out.call hq)); (try replace HR := Lib.hid (HR.out.call hq)); replace HW := Lib.hid (HW.out.trans (hq.mono HW.out.size));  clear hq)
    | ((with_reducible refine (D1 _ HA.out).out.mono ?_); rintro e w9 ⟨AR, cR, rfl, hrd, hq⟩; (try replace HA := Lib.hid (HA.out.call hq)); (try replace HR := Lib.hid (HR.out.call hq)); replace HW := Lib.hid (HW.out.trans (hq.mono HW.out.size)); have HR := Lib.hid hrd; clear hrd hq)
    | ((with_reducible refine (Z1 _ _ _ HR.out).out.mono ?_); rintro e w9 ⟨rfl, hq⟩; (try replace HA := Lib.hid (HA.out.call hq)); (try replace HR := Lib.hid (HR.out.call hq)); replace HW := Lib.hid (HW.out.trans (hq.mono HW.out.size));  clear hq))
        go_ret
        exact ⟨rfl, HW.out⟩
  · have hnd : decide ((40 : Int) < (n : Int)) = true := decide_eq_true (by omega)
    clear HAD HBA HMO HMA ha hn
    go_enter Try.func5, Try.ntmps5
    go_wp2_with (first
    | ((with_reducible refine (A0 _).out.mono ?_); rintro e w9 ⟨rfl, hq⟩; (try replace HA := Lib.hid (HA.out.call hq)); (try replace HR := Lib.hid (HR.out.call hq)); replace HW := Lib.hid (HW.out.trans (hq.mono HW.out.size));  clear hq))
    go_ret
    exact ⟨rfl, HW.out⟩
end Go.Proofs.Ytnfhkmlggajhaaa
