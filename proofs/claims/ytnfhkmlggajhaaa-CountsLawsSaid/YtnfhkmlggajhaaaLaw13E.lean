/-
  The laws of layer 13: CountsOf.
-/
import Derived.Test.YtnfhkmlggajhaaaLaw13D
namespace Go.Proofs.Ytnfhkmlggajhaaa
open Go.RowKit

theorem cown_new (w : World) : kRn.Own (w.alloc (.cells #[] 26)) w.heap.size (.slice (some ⟨w.heap.size, 0, none⟩) 0 0) [] := own_none w _ _
set_option maxRecDepth 100000 in
set_option maxHeartbeats 8000000 in
theorem countsOf_walk (HRI : CRightC 8) (HHA : CHasC 10) (HOF : COfC 13) (HAD : CAddC 15) (HBA : CNumC 20 baseC) (HMO : CNumC 21 mostC) (HMA : CNumC 22 manyC)
    (A B : Option Addr) (c d n m : Nat) (l : List Rn) (cs : List Int) (s : Int) (hn : n = l.length) (hm : m = cs.length) (w : World) (ha : kRn.Rd w w.heap.size A c l) (hb : kIt.Rd w w.heap.size B d cs) :
    Calls Try.prog 3 #[.slice A n c, .slice B m d, .int .i64 s] w fun e w' => e = .returned (.bool true) ∧ Below w.heap.size w w' := by
  have A0 := fun w => Lib.hid (awake13 HAD HBA HMO HMA w)
  have HA := Lib.hid ha
  have HB := Lib.hid hb
  have HW := Lib.hid (Below.refl w.heap.size w)
  have hn9 := rd_maxC ha hn
  have hm9 := rd_maxC hb hm
  by_cases h1 : n ≤ 40
  · have hnd : decide ((40 : Int) < (n : Int)) = false := decide_eq_false (by omega)
    by_cases h2 : m ≤ 40
    · have hmd : decide ((40 : Int) < (m : Int)) = false := decide_eq_false (by omega)
      have hdx : m ≤ d := by rw [hm]; exact hb.room
      obtain ⟨v1, hv1⟩ : ∃ v, rightC l = v := ⟨_, rfl⟩
      obtain ⟨v2, hv2⟩ : ∃ v, hasC l s = v := ⟨_, rfl⟩
      obtain ⟨U, hU⟩ : ∃ U, ofC l = U := ⟨_, rfl⟩
      obtain ⟨V, hV⟩ : ∃ U, ofC (l ++ cs.map runC) = U := ⟨_, rfl⟩
      obtain ⟨NU, hNU⟩ : ∃ N, U.length = N := ⟨_, rfl⟩
      obtain ⟨NV, hNV⟩ : ∃ N, V.length = N := ⟨_, rfl⟩
      obtain ⟨na, hna⟩ : ∃ N, (l ++ cs.map runC).length = N := ⟨_, rfl⟩
      have la : na ≤ 80 := by rw [← hna, List.length_append, List.length_map]; omega
      have R1 := fun w hr => Lib.hid (HRI A c n l hn (by omega) v1 hv1 w hr)
      have R2 := fun w hr => Lib.hid (ref_cright A c n l hn v1 hv1 w hr)
      have X1 := fun w hr => Lib.hid (HHA A c n l s hn (by omega) v2 hv2 w hr)
      have X2 := fun w hr => Lib.hid (ref_chas A c n l s hn v2 hv2 w hr)
      have O1 := fun w hr => Lib.hid (HOF A c n l hn (by omega) U hU NU hNU w hr)
      have O2 := fun w hr => Lib.hid (ref_cof A c n l hn (by omega) U hU NU hNU w hr)
      have D1 := fun w ha hb => Lib.hid (HAD A B c d n m l cs hn hm (by omega) (by omega) V hV NV hNV w ha hb)
      have D2 := fun A c w hr => Lib.hid (ref_cof A c na (l ++ cs.map runC) hna.symm (by omega) V hV NV hNV w hr)
      have S1 := fun A B c d w ha hb => Lib.hid (csame_is A B c d NU NU U hNU.symm hNU.symm w ha hb)
      have S2 := fun A B c d w ha hb => Lib.hid (csame_is A B c d NV NV V hNV.symm hNV.symm w ha hb)
      have HN := Lib.hid hn
      have HM := Lib.hid hm
      have HNA := Lib.hid hna
      have HL1 := Lib.hid (show ([] : List Rn).length + l.length ≤ 1000000 by rw [← hn]; simp; omega)
      have HLT := Lib.hid (fun k : Nat => show (l ++ (cs.take k).map runC).length ≤ 80 by rw [List.length_append, List.length_map, List.length_take]; omega)
      clear HRI HHA HOF HAD HBA HMO HMA hv1 hv2 hU hV hNU hNV hna ha hb hn hm h1 h2
      go_enter Try.func3, Try.ntmps3
      go_wp2_with (first
    | ((with_reducible refine (A0 _).out.mono ?_); rintro e w9 ⟨rfl, hq⟩; (try replace HA := Lib.hid (HA.out.call hq)); (try replace HB := Lib.hid (HB.out.call hq)); replace HW := Lib.hid (HW.out.trans (hq.mono HW.out.size)); clear hq)
    | (at_builtin; refine wpList_app_k kRn rfl (.tmp 20) (.tmp 21) rfl w9.heap.size (.slice (some ⟨w9.heap.size, 0, none⟩) 0 0) [] rfl (cown_new w9) _ A c n l HN.out rfl (HA.out.call (below_new w9 _)).row HL1.out (by decide) (cle_alloc (Nat.le_refl _) _) ?_; intro v3 w3 hown3 _ hb3 _; have HB3 := Lib.hid ((below_new w9 _).trans hb3); have HO3 := Lib.hid hown3; clear hb3 hown3))
      clear A0
      go_loopw [7, 25] (fun v i wr => ∃ k : Nat, k ≤ m ∧ Hid (kRn.Own wr w9.heap.size v (l ++ (cs.take k).map runC)) ∧ i = .int .i64 k ∧ Hid (Below w9.heap.size w9 wr)) (fun _ i _ => m - (intOf i).toNat)
      case atStart => exact ⟨0, by omega, show kRn.Own _ _ _ _ from by have h := HO3.out; simpa using h, rfl, HB3.out⟩
      case round =>
        obtain ⟨k, hk, HO, rfl, HBW⟩ := hrel
        by_cases hlt : k < m
        · obtain ⟨x, hg, -, -⟩ := cnt_get (l := cs) (k := k) (by have := HM.out; omega)
          obtain ⟨b1, o1, rfl, hb1, hcell⟩ := its_at (HB.out.below HBW.out) (by have := HM.out; omega)
          have e0 := hcell k x hg
          have HX := Lib.hid (show l ++ (cs.take (k + 1)).map runC = (l ++ (cs.take k).map runC) ++ [runC x] by rw [List.take_add_one, hg, Option.toList_some, List.map_append, List.append_assoc]; rfl)
          have HLE := Lib.hid (show (l ++ (cs.take k).map runC).length + [runC x].length ≤ 1000000 by have := HLT.out k; rw [List.length_singleton]; omega)
          have HRW := fun W : World => Lib.hid (rn_row W x x)
          clear hcell hg
          go_wp2_with (at_builtin; refine wpList_app_k kRn rfl (.tmp 29) (.tmp 33) rfl w9.heap.size _ _ rfl (Kind.Own.alloc HO.out _) _ (some ⟨wr.heap.size, 0, none⟩) 1 1 [runC x] rfl rfl (HRW wr).out HLE.out (by decide) (cle_alloc HBW.out.size _) ?_; intro v4 w4 hown4 _ hb4 _; have HB4 := Lib.hid ((HBW.out.alloc HBW.out.size _).trans hb4); have HO4 := Lib.hid hown4; clear hb4 hown4)
          go_roundw
          case rel => exact ⟨k + 1, by omega, show kRn.Own _ _ _ _ from by rw [HX.out]; exact HO4.out, by go_num, HB4⟩
          case measure => simp [intOf]; omega
        · have HTK := Lib.hid (show l ++ (cs.take k).map runC = l ++ cs.map runC by rw [List.take_of_length_le (by have := HM.out; omega)])
          obtain ⟨AT, cT, rfl, hrd⟩ := HO.out.read_n (show na = (l ++ (cs.take k).map runC).length by rw [HTK.out]; exact HNA.out.symm)
          have HT := Lib.hid (show kRn.Rd wr wr.heap.size AT cT (l ++ cs.map runC) from HTK.out ▸ hrd)
          replace HA := Lib.hid (HA.out.call HBW.out)
          replace HB := Lib.hid (HB.out.call HBW.out)
          replace HW := Lib.hid (HW.out.trans (HBW.out.mono HW.out.size))
          replace D2 := D2 AT cT
          clear hrd HTK HO HBW HB3 HO3
          go_wp2_with (first
    | ((with_reducible refine (R1 _ HA.out).out.mono ?_); rintro e w8 ⟨rfl, hq⟩; (try replace HA := Lib.hid (HA.out.call hq)); (try replace HB := Lib.hid (HB.out.call hq)); (try replace HT := Lib.hid (HT.out.call hq)); (try replace HP := Lib.hid (HP.out.call hq)); (try replace HQ := Lib.hid (HQ.out.call hq)); replace HW := Lib.hid (HW.out.trans (hq.mono HW.out.size)); clear hq)
    | ((with_reducible refine (R2 _ HA.out).out.mono ?_); rintro e w8 ⟨rfl, hq⟩; (try replace HA := Lib.hid (HA.out.call hq)); (try replace HB := Lib.hid (HB.out.call hq)); (try replace HT := Lib.hid (HT.out.call hq)); (try replace HP := Lib.hid (HP.out.call hq)); (try replace HQ := Lib.hid (HQ.out.call hq)); replace HW := Lib.hid (HW.out.trans (hq.mono HW.out.size)); clear hq)
    | ((with_reducible refine (X1 _ HA.out).out.mono ?_); rintro e w8 ⟨rfl, hq⟩; (try replace HA := Lib.hid (HA.out.call hq)); (try replace HB := Lib.hid (HB.out.call hq)); (try replace HT := Lib.hid (HT.out.call hq)); (try replace HP := Lib.hid (HP.out.call hq)); (try replace HQ := Lib.hid (HQ.out.call hq)); replace HW := Lib.hid (HW.out.trans (hq.mono HW.out.size)); clear hq)
    | ((with_reducible refine (X2 _ HA.out).out.mono ?_); rintro e w8 ⟨rfl, hq⟩; (try replace HA := Lib.hid (HA.out.call hq)); (try replace HB := Lib.hid (HB.out.call hq)); (try replace HT := Lib.hid (HT.out.call hq)); (try replace HP := Lib.hid (HP.out.call hq)); (try replace HQ := Lib.hid (HQ.out.call hq)); replace HW := Lib.hid (HW.out.trans (hq.mono HW.out.size)); clear hq)
    | ((with_reducible refine (O1 _ HA.out).out.mono ?_); rintro e w8 ⟨AP, cP, rfl, hrd, hq⟩; (try replace HA := Lib.hid (HA.out.call hq)); (try replace HB := Lib.hid (HB.out.call hq)); (try replace HT := Lib.hid (HT.out.call hq)); (try replace HP := Lib.hid (HP.out.call hq)); (try replace HQ := Lib.hid (HQ.out.call hq)); replace HW := Lib.hid (HW.out.trans (hq.mono HW.out.size)); have HP := Lib.hid hrd; clear hrd hq)
    | ((with_reducible refine (O2 _ HA.out).out.mono ?_); rintro e w8 ⟨AQ, cQ, rfl, hrd, hq⟩; (try replace HA := Lib.hid (HA.out.call hq)); (try replace HB := Lib.hid (HB.out.call hq)); (try replace HT := Lib.hid (HT.out.call hq)); (try replace HP := Lib.hid (HP.out.call hq)); (try replace HQ := Lib.hid (HQ.out.call hq)); replace HW := Lib.hid (HW.out.trans (hq.mono HW.out.size)); have HQ := Lib.hid hrd; clear hrd hq)
    | ((with_reducible refine (S1 _ _ _ _ _ HP.out HQ.out).out.mono ?_); rintro e w8 ⟨rfl, hq⟩; (try replace HA := Lib.hid (HA.out.call hq)); (try replace HB := Lib.hid (HB.out.call hq)); (try replace HT := Lib.hid (HT.out.call hq)); (try replace HP := Lib.hid (HP.out.call hq)); (try replace HQ := Lib.hid (HQ.out.call hq)); replace HW := Lib.hid (HW.out.trans (hq.mono HW.out.size)); clear hq)
    | ((with_reducible refine (D1 _ HA.out HB.out).out.mono ?_); rintro e w8 ⟨AP, cP, rfl, hrd, hq⟩; (try replace HA := Lib.hid (HA.out.call hq)); (try replace HB := Lib.hid (HB.out.call hq)); (try replace HT := Lib.hid (HT.out.call hq)); (try replace HP := Lib.hid (HP.out.call hq)); (try replace HQ := Lib.hid (HQ.out.call hq)); replace HW := Lib.hid (HW.out.trans (hq.mono HW.out.size)); have HP := Lib.hid hrd; clear hrd hq)
    | ((with_reducible refine (D2 _ HT.out).out.mono ?_); rintro e w8 ⟨AQ, cQ, rfl, hrd, hq⟩; (try replace HA := Lib.hid (HA.out.call hq)); (try replace HB := Lib.hid (HB.out.call hq)); (try replace HT := Lib.hid (HT.out.call hq)); (try replace HP := Lib.hid (HP.out.call hq)); (try replace HQ := Lib.hid (HQ.out.call hq)); replace HW := Lib.hid (HW.out.trans (hq.mono HW.out.size)); have HQ := Lib.hid hrd; clear hrd hq)
    | ((with_reducible refine (S2 _ _ _ _ _ HP.out HQ.out).out.mono ?_); rintro e w8 ⟨rfl, hq⟩; (try replace HA := Lib.hid (HA.out.call hq)); (try replace HB := Lib.hid (HB.out.call hq)); (try replace HT := Lib.hid (HT.out.call hq)); (try replace HP := Lib.hid (HP.out.call hq)); (try replace HQ := Lib.hid (HQ.out.call hq)); replace HW := Lib.hid (HW.out.trans (hq.mono HW.out.size)); clear hq))
          go_ret
          exact ⟨rfl, HW.out⟩
    · have hmd : decide ((40 : Int) < (m : Int)) = true := decide_eq_true (by omega)
      clear HRI HHA HOF HAD HBA HMO HMA ha hb hn hm
      go_enter Try.func3, Try.ntmps3
      go_wp2_with (first
    | ((with_reducible refine (A0 _).out.mono ?_); rintro e w9 ⟨rfl, hq⟩; (try replace HA := Lib.hid (HA.out.call hq)); (try replace HB := Lib.hid (HB.out.call hq)); (try replace HT := Lib.hid (HT.out.call hq)); (try replace HP := Lib.hid (HP.out.call hq)); (try replace HQ := Lib.hid (HQ.out.call hq)); replace HW := Lib.hid (HW.out.trans (hq.mono HW.out.size));  clear hq))
      go_ret
      exact ⟨rfl, HW.out⟩
  · have hnd : decide ((40 : Int) < (n : Int)) = true := decide_eq_true (by omega)
    clear HRI HHA HOF HAD HBA HMO HMA ha hb hn hm
    go_enter Try.func3, Try.ntmps3
    go_wp2_with (first
    | ((with_reducible refine (A0 _).out.mono ?_); rintro e w9 ⟨rfl, hq⟩; (try replace HA := Lib.hid (HA.out.call hq)); (try replace HB := Lib.hid (HB.out.call hq)); (try replace HT := Lib.hid (HT.out.call hq)); (try replace HP := Lib.hid (HP.out.call hq)); (try replace HQ := Lib.hid (HQ.out.call hq)); replace HW := Lib.hid (HW.out.trans (hq.mono HW.out.size));  clear hq))
    go_ret
    exact ⟨rfl, HW.out⟩
end Go.Proofs.Ytnfhkmlggajhaaa
