/-
  The laws of layer 6: KeyCommon.
-/
import Derived.Test.YthfonmdhbnfmnaaLaw06B
namespace Go.Proofs.Ythfonmdhbnfmnaa
open Go.RowKit

/-- Do the first k texts go on alike behind c bytes? -/
def longB (l : List (List UInt8)) (c k : Nat) : Bool := (l.take k).all fun s => decide (c < s.length) && (decide (c < (l.getD 0 []).length) && decide (s.getD c 0 = (l.getD 0 []).getD c 0))
theorem longB_succ {l : List (List UInt8)} {c k : Nat} (h : k < l.length) : longB l c (k + 1) = (longB l c k && (decide (c < (l.getD k []).length) && (decide (c < (l.getD 0 []).length) && decide ((l.getD k []).getD c 0 = (l.getD 0 []).getD c 0)))) := by
  have e : l.take (k + 1) = l.take k ++ [l.getD k []] := by
    rw [List.take_succ_eq_append_getElem h]; simp [List.getD, List.getElem?_eq_getElem h]
  unfold longB
  rw [e, List.all_append, List.all_cons, List.all_nil, Bool.and_true]
theorem longB_end {l : List (List UInt8)} (h : l ≠ []) : longB l (commonV l).length l.length = false := by
  cases hb : longB l (commonV l).length l.length with
  | false => rfl
  | true =>
    refine absurd (commonV_longest (l := l) ?_ ?_) h
    all_goals
      intro t ht
      unfold longB at hb
      rw [List.take_length, List.all_eq_true] at hb
      have := hb t ht
      simp only [Bool.and_eq_true, decide_eq_true_eq] at this
    · exact this.1
    · exact this.2.2
theorem common_is (A : Option Addr) (c n B : Nat) (l : List (List UInt8)) (C : ByteArray) (hC : str (commonV l) = C) (hn : n = l.length) (hc : n ≤ c) (hcm : c ≤ maxLen) (hl : ∀ x ∈ l, x.length ≤ maxLen) (w : World) (hr : RowAt w B A (strs l)) :
    Calls Try.prog 17 #[.slice A n c] w fun e w' => e = .returned (.string C) ∧ ∃ n, w' = w.drewN n := by
  subst hC
  exact key_common A c n B l hn hc hcm hl w hr
theorem commonV_at {l : List (List UInt8)} {k : Nat} (h : k < l.length) : (commonV l).isPrefixOf (l.getD k []) = true ∧ (commonV l).length ≤ (l.getD k []).length := by
  have hm : l.getD k [] ∈ l := by
    simp only [List.getD, List.getElem?_eq_getElem h, Option.getD_some]
    exact List.getElem_mem h
  have := commonV_pre hm
  exact ⟨List.isPrefixOf_iff_prefix.2 this, this.length_le⟩
set_option maxHeartbeats 1000000 in
theorem keyCommon_walk (A : Option Addr) (c n : Nat) (l : List (List UInt8)) (hn : n = l.length) (hc : n ≤ c) (hcm : c ≤ maxLen) (hl : ∀ x ∈ l, x.length ≤ maxLen) (w : World) (hr : RowAt w w.heap.size A (strs l)) :
    Calls Try.prog 5 #[.slice A n c] w fun e w' => e = .returned (.bool true) ∧ Below w.heap.size w w' := by
  have A0 := Lib.hid (awake06 w)
  by_cases hg : n ≤ 40
  · obtain ⟨C, hC⟩ : ∃ C, str (commonV l) = C := ⟨_, rfl⟩
    have CM := fun w hr => Lib.hid (common_is A c n w.heap.size l C hC hn hc hcm hl w hr)
    by_cases h0 : n = 0
    · subst h0
      have hnil : l = [] := List.eq_nil_of_length_eq_zero hn.symm
      have h1 : C.toList = [] := by rw [← hC, str_toList, hnil]; rfl
      have HR := Lib.hid hr
      clear hr hC hl hn hnil hcm
      go_enter Try.func5, Try.ntmps5
      go_wp2_with ((with_reducible refine A0.out.mono ?_); rintro e w1 ⟨rfl, hb⟩)
      have CM1 := CM _ ((HR.out.below hb).more hb.size)
      go_wp2_with ((with_reducible refine CM1.out.mono ?_); rintro e w2 ⟨rfl, q, rfl⟩)
      go_ret
      exact ⟨rfl, below_drewN hb _⟩
    · have hzc : C.size = (commonV l).length := by rw [← hC]; exact str_size _
      have HEND : Hid (longB l (commonV l).length n = false) := by rw [hn]; exact longB_end (fun e => h0 (by rw [hn, e]; rfl))
      have HAT : Hid (∀ k, k < n → (commonV l).isPrefixOf (l.getD k []) = true ∧ C.size ≤ (l.getD k []).length) := fun k hk => by rw [hzc]; exact commonV_at (by omega)
      have HLEN : Hid (∀ k, (l.getD k []).length ≤ 9223372036854775807) := fun k => by
        unfold maxLen at hl
        rcases Nat.lt_or_ge k l.length with hk | hk
        · have : l.getD k [] ∈ l := by
            simp only [List.getD, List.getElem?_eq_getElem hk, Option.getD_some]
            exact List.getElem_mem hk
          have := hl _ this
          omega
        · simp [List.getD, List.getElem?_eq_none hk]
      have HB := fun k (hk : k < n) S hS w => Lib.hid (begins_is (l.getD k []) (commonV l) S C hS hC true (HAT.out k hk).1 w)
      have HSUC := fun k (hk : k < n) => Lib.hid (longB_succ (l := l) (c := C.size) (k := k) (by omega))
      rw [← hzc] at HEND
      have HR := Lib.hid hr
      have HNL := Lib.hid hn
      clear hr hC hl hn hcm hzc
      have hn0 : ((n : Int) == 0) = false := by rw [beq_eq_false_iff_ne]; omega
      go_enter Try.func5, Try.ntmps5
      go_wp2_with ((with_reducible refine A0.out.mono ?_); rintro e w1 ⟨rfl, hb⟩)
      have HR1 := Lib.hid ((HR.out.below hb).more hb.size)
      have CM1 := CM _ HR1.out
      go_wp2_with ((with_reducible refine CM1.out.mono ?_); rintro e w2 ⟨rfl, q, rfl⟩)
      clear CM CM1
      go_loopw [4, 21] (fun v i wr => ∃ k q : Nat, k ≤ n ∧ v = .bool (longB l C.size k) ∧ i = .int .i64 k ∧ wr = w1.drewN q) (fun _ i _ => n - (intOf i).toNat)
      case atStart => exact ⟨0, q, by omega, rfl, rfl, rfl⟩
      case round =>
        obtain ⟨k, q1, hk, rfl, rfl, rfl⟩ := hrel
        by_cases hlt : k < n
        · obtain ⟨b0, o0, rfl, hb0, hcell⟩ := HR1.out.strs_at (by have := HNL.out; omega)
          have c0 : w1.cell? ⟨b0, o0, none⟩ = some (.string (str (l.getD 0 []))) := by simpa using hcell 0 (by have := HNL.out; omega)
          have ck := hcell k (by have := HNL.out; omega)
          clear hcell
          have HA := HAT.out k hlt
          have hA := HA.2
          clear HA
          have HB1 := HB k hlt _ rfl
          have HS1 := HSUC k hlt
          have hlen := HLEN.out k
          have hlen0 := HLEN.out 0
          obtain ⟨x, hx⟩ : ∃ x, l.getD k [] = x := ⟨_, rfl⟩
          obtain ⟨y, hy⟩ : ∃ y, l.getD 0 [] = y := ⟨_, rfl⟩
          rw [hx] at ck hA HB1 HS1 hlen
          rw [hy] at c0 HS1 hlen0
          clear hx hy
          obtain ⟨v, hv⟩ : ∃ v, longB l C.size k = v := ⟨_, rfl⟩
          rw [hv] at HS1 ⊢
          clear hv
          have hzx := str_size x
          have hzy := str_size y
          have hXA : ∀ j, (h : j < (str x).size) → (str x)[j] = x.getD j 0 := fun j h => txt_at x j h
          have hYA : ∀ j, (h : j < (str y).size) → (str y)[j] = y.getD j 0 := fun j h => txt_at y j h
          generalize str x = X at ck HB1 hzx hXA
          generalize str y = Y at c0 hzy hYA
          have HXA := Lib.hid hXA
          have HYA := Lib.hid hYA
          have HZX := Lib.hid hzx
          have HZY := Lib.hid hzy
          have HLX := Lib.hid hlen
          clear hXA hYA
          by_cases hbig : 300 < X.size
          · clear hzx hzy hlen hlen0 hA
            go_wp2_with fail
            go_ret
            exact ⟨rfl, below_drewN hb _⟩
          · have hsm : X.size ≤ 300 := by omega
            have HSZ : Hid (decide (C.size < x.length) = decide ((C.size : Int) < (X.size : Int))) := decide_eq_decide.2 (by omega)
            have HSY : Hid (decide (C.size < y.length) = decide ((C.size : Int) < (Y.size : Int))) := decide_eq_decide.2 (by omega)
            have HSX : Hid (decide (C.size < X.size) = decide ((C.size : Int) < (X.size : Int))) := decide_eq_decide.2 (by omega)
            have HSV : Hid (decide (C.size < Y.size) = decide ((C.size : Int) < (Y.size : Int))) := decide_eq_decide.2 (by omega)
            rw [HSZ.out, HSY.out] at HS1
            have hcx : C.size ≤ X.size := by omega
            clear hzx hzy hlen hA hbig
            cases v
            · rw [Bool.false_and] at HS1
              go_wp2_with ((with_reducible refine (HB1 _).out.mono ?_); rintro e w' ⟨rfl, rfl⟩)
              go_quiet (fail)
              go_wp2_with fail
              go_roundw
              case rel => exact ⟨k + 1, _, by omega, by rw [HS1.out], by go_num, rfl⟩
              case measure => simp [intOf]; omega
            · rw [Bool.true_and] at HS1
              cases d1 : decide ((C.size : Int) < (X.size : Int))
              · rw [d1, Bool.false_and] at HS1
                have d1n : decide (C.size < X.size) = false := by rw [HSX.out]; exact d1
                go_wp2_with ((with_reducible refine (HB1 _).out.mono ?_); rintro e w' ⟨rfl, rfl⟩)
                go_quiet (fail)
                go_wp2_with fail
                go_roundw
                case rel => exact ⟨k + 1, _, by omega, by rw [HS1.out], by go_num, rfl⟩
                case measure => simp [intOf]; omega
              · rw [d1, Bool.true_and] at HS1
                have d1n : decide (C.size < X.size) = true := by rw [HSX.out]; exact d1
                cases d2 : decide ((C.size : Int) < (Y.size : Int))
                · rw [d2, Bool.false_and] at HS1
                  have d2n : decide (C.size < Y.size) = false := by rw [HSV.out]; exact d2
                  go_wp2_with ((with_reducible refine (HB1 _).out.mono ?_); rintro e w' ⟨rfl, rfl⟩)
                  have hn1 : (0 : Int) < (n : Int) := by omega
                  go_quiet (fail)
                  go_wp2_with fail
                  go_roundw
                  case rel => exact ⟨k + 1, _, by omega, by rw [HS1.out], by go_num, rfl⟩
                  case measure => simp [intOf]; omega
                · rw [d2, Bool.true_and] at HS1
                  have d2n : decide (C.size < Y.size) = true := by rw [HSV.out]; exact d2
                  have i1 : C.size < X.size := by have := of_decide_eq_true d1; omega
                  have i2 : C.size < Y.size := by have := of_decide_eq_true d2; omega
                  have cx := HXA.out C.size i1
                  have cy := HYA.out C.size i2
                  obtain ⟨a, ha⟩ : ∃ a, x.getD C.size 0 = a := ⟨_, rfl⟩
                  obtain ⟨b, hb'⟩ : ∃ b, y.getD C.size 0 = b := ⟨_, rfl⟩
                  rw [ha] at cx HS1
                  rw [hb'] at cy HS1
                  have HE : Hid (decide (a = b) = ((a.toNat : Int) == (b.toNat : Int))) := by
                    by_cases hab : a = b
                    · subst hab; simp [Hid]
                    · rw [int_eq_false hab]; simp [Hid, hab]
                  rw [HE.out] at HS1
                  clear ha hb'
                  go_wp2_with ((with_reducible refine (HB1 _).out.mono ?_); rintro e w' ⟨rfl, rfl⟩)
                  have hn1 : (0 : Int) < (n : Int) := by omega
                  go_quiet (fail)
                  go_wp2_with fail
                  go_roundw
                  case rel => exact ⟨k + 1, _, by omega, by rw [HS1.out], by go_num, rfl⟩
                  case measure => simp [intOf]; omega
        · have hkn : k = n := by omega
          have HF : Hid (longB l C.size k = false) := by rw [hkn]; exact HEND.out
          rw [HF.out]
          go_wp2_with fail
          go_ret
          exact ⟨rfl, below_drewN hb _⟩
  · have hg' : 40 < n := by omega
    clear hg hr hl hn hc hcm
    go_enter Try.func5, Try.ntmps5
    go_wp2_with ((with_reducible refine A0.out.mono ?_); rintro e w1 ⟨rfl, hb⟩)
    go_wp2_with fail
    go_ret
    exact ⟨rfl, hb⟩
end Go.Proofs.Ythfonmdhbnfmnaa
