/-
  The laws of layer 5: WordLines.
-/
import Derived.Test.YtkdepcfnipihhaaDoorLaw05A
namespace Go.Proofs.YtkdepcfnipihhaaDoor
open Go.RowKit

theorem cuts_len (s : List UInt8) : (cutsV s).length ≤ s.length + 1 := by
  induction s with
  | nil => simp [cutsV]
  | cons c l ih =>
    obtain ⟨h, t, e⟩ := List.exists_cons_of_ne_nil (cutsV_ne l)
    by_cases hc : c = 32
    · subst hc; rw [cutsV_blank]; simp; omega
    · rw [cutsV_other hc e]
      rw [e] at ih
      simp at ih ⊢
      omega
theorem cuts_part (s : List UInt8) : ∀ p ∈ cutsV s, p.length ≤ s.length := by
  induction s with
  | nil => simp [cutsV]
  | cons c l ih =>
    obtain ⟨h, t, e⟩ := List.exists_cons_of_ne_nil (cutsV_ne l)
    intro p hp
    by_cases hc : c = 32
    · subst hc
      rw [cutsV_blank] at hp
      rcases List.mem_cons.1 hp with rfl | hp
      · simp
      · have := ih p hp
        simp; omega
    · rw [cutsV_other hc e] at hp
      rw [e] at ih
      rcases List.mem_cons.1 hp with rfl | hp
      · have := ih h (List.mem_cons_self ..)
        simp; omega
      · have := ih p (List.mem_cons_of_mem _ hp)
        simp; omega
/-- What Split hands back, in one form: words, and whether they are the line's. -/
def SplitR (s : List UInt8) (w : World) (e : Ending) (w' : World) : Prop :=
  ∃ (A : Option Addr) (ws : List (List UInt8)) (b : Bool), e = .returned (.tuple #[.slice A ws.length ws.length, .bool b]) ∧ RowAt w' w'.heap.size A (strs ws) ∧ Below w.heap.size w w' ∧
    (b = true → lineV ws = s ∧ allMay ws = true) ∧ (b = false → ws = []) ∧ (∀ p ∈ ws, p.length ≤ s.length) ∧ ws.length ≤ s.length + 1
theorem split_any (s : List UInt8) (hs : s.length ≤ 1000000) (w : World) (hm : MaxAt w) : Calls Tryd.prog 12 #[.string (str s)] w (SplitR s w) := by
  refine (wrd_split s hs w hm).mono ?_
  rintro e w' (h | h | h)
  · obtain ⟨rfl, rfl, rfl⟩ := h
    exact ⟨none, [], true, rfl, RowAt.nil _ _ _, Below.refl _ _, fun _ => ⟨rfl, rfl⟩, fun _ => rfl, by simp, by simp⟩
  · obtain ⟨-, -, rfl, rfl⟩ := h
    exact ⟨none, [], false, rfl, RowAt.nil _ _ _, Below.refl _ _, (fun h => by cases h), fun _ => rfl, by simp, by simp⟩
  · obtain ⟨h1, h2, A, rfl, h3, h4⟩ := h
    exact ⟨A, cutsV s, true, rfl, h3, h4, fun _ => ⟨join_cuts s, by rw [allMay, List.all_eq_true]; exact (badB_iff h1).1 h2⟩, (fun h => by cases h), cuts_part s, cuts_len s⟩
theorem split_line (l : List (List UInt8)) (hl : allMay l = true) (hs : (lineV l).length ≤ 1000000) (w : World) (hm : MaxAt w) : Calls Tryd.prog 12 #[.string (str (lineV l))] w fun e w' =>
    ∃ A, e = .returned (.tuple #[.slice A l.length l.length, .bool true]) ∧ RowAt w' w'.heap.size A (strs l) ∧ Below w.heap.size w w' := by
  refine (wrd_split (lineV l) hs w hm).mono ?_
  intro e w' h
  by_cases hn : l = []
  · subst hn
    rcases h with h | h | h
    · obtain ⟨-, rfl, rfl⟩ := h
      exact ⟨none, rfl, RowAt.nil _ _ _, Below.refl _ _⟩
    · exact absurd rfl h.1
    · exact absurd rfl h.1
  · rw [allMay, List.all_eq_true] at hl
    obtain ⟨h1, h2, h3⟩ := line_good hn hl
    rcases h with h | h | h
    · exact absurd h.1 h1
    · rw [h2] at h; exact absurd h.2.1 (by simp)
    · rw [h3] at h
      exact h.2.2
theorem split_line_n (l : List (List UInt8)) (n : Nat) (hn : n = l.length) (R : ByteArray) (hR : str (lineV l) = R) (hl : allMay l = true) (hs : (lineV l).length ≤ 1000000) (w : World) (hm : MaxAt w) : Calls Tryd.prog 12 #[.string R] w fun e w' =>
    ∃ A, e = .returned (.tuple #[.slice A n n, .bool true]) ∧ RowAt w' w'.heap.size A (strs l) ∧ Below w.heap.size w w' := by
  subst hn hR
  exact split_line l hl hs w hm
theorem allMay_snoc (l : List (List UInt8)) (x : List UInt8) : allMay (l ++ [x]) = (allMay l && mayB x) := by simp [allMay]
theorem join_yes (A : Option Addr) (c n : Nat) (l : List (List UInt8)) (hn : n = l.length) (hc : n ≤ c) (hl : n ≤ 1000) (hm : ∀ x ∈ l, x.length ≤ 100000) (w : World) (hr : RowAt w w.heap.size A (strs l)) (hy : allMay l = true) (R : ByteArray) (hR : str (lineV l) = R) :
    Calls Tryd.prog 10 #[.slice A n c] w fun e w' => e = .returned (.tuple #[.string R, .bool true]) ∧ Below w.heap.size w w' := by
  subst hR
  refine (wrd_join A c n l hn hc hl hm w hr).mono ?_
  rintro e w' ⟨h | h, hb⟩
  · exact ⟨h.2, hb⟩
  · have := h.1; rw [hy] at this; cases this
theorem join_no (A : Option Addr) (c n : Nat) (l : List (List UInt8)) (hn : n = l.length) (hc : n ≤ c) (hl : n ≤ 1000) (hm : ∀ x ∈ l, x.length ≤ 100000) (w : World) (hr : RowAt w w.heap.size A (strs l)) (hy : allMay l = false) (R : ByteArray) (hR : str [] = R) :
    Calls Tryd.prog 10 #[.slice A n c] w fun e w' => e = .returned (.tuple #[.string R, .bool false]) ∧ Below w.heap.size w w' := by
  subst hR
  refine (wrd_join A c n l hn hc hl hm w hr).mono ?_
  rintro e w' ⟨h | h, hb⟩
  · have := h.1; rw [hy] at this; cases this
  · exact ⟨h.2, hb⟩
theorem line_is (A : Option Addr) (c B n m : Nat) (l : List (List UInt8)) (hn : n = l.length) (hl : l.length ≤ 1000) (hm : ∀ x ∈ l, x.length ≤ m) (hmm : m ≤ 100000) (w : World) (hr : RowAt w B A (strs l)) (R : ByteArray) (hR : str (lineV l) = R) :
    Calls Tryd.prog 11 #[.slice A n c] w fun e w' => e = .returned (.string R) ∧ w = w' := by
  subst hR
  exact rwd_line A c B n m l hn hl hm hmm w hr
theorem val_bool {a b : Bool} (h : a = b) : Value.bool a = .bool b := by rw [h]

set_option maxHeartbeats 4000000 in
set_option maxRecDepth 100000 in
theorem wordLines_walk (A : Option Addr) (c n : Nat) (l : List (List UInt8)) (s : List UInt8) (hn : n = l.length) (hnc : n ≤ c) (hlm : ∀ x ∈ l, x.length ≤ maxLen) (w : World) (hr : RowAt w w.heap.size A (strs l)) (hm : MaxAt w) :
    Calls Tryd.prog 4 #[.slice A n c, .string (str s)] w fun e w' => e = .returned (.bool true) ∧ Below w.heap.size w w' := by
  have hzs := str_size s
  have A0 := Lib.hid (awake05 w hm)
  have HN := Lib.hid hn
  have HM := Lib.hid hlm

  clear hn hlm
  by_cases hg : n ≤ 40 ∧ s.length ≤ 400
  · obtain ⟨g1, g2⟩ := hg
    have g2' : (str s).size ≤ 400 := by omega
    have SP := fun w hm => Lib.hid (split_any s (by omega) w hm)
    have HSL := Lib.hid g2
    obtain ⟨S, hS⟩ : ∃ S, str s = S := ⟨_, rfl⟩
    rw [hS] at g2' SP ⊢
    have HS := Lib.hid hS
    clear hS hzs g2
    go_enter Tryd.func4, Tryd.ntmps4
    go_wp2_with (fail)
    refine A0.out.mono ?_
    rintro e w1 ⟨rfl, hb1⟩
    replace hm := hm.below hb1 (Nat.le_refl _)
    have hr1 := (hr.below hb1).more hb1.size
    clear hr A0
    go_wp2_with (fail)
    go_loop [5, 29] (fun v i => ∃ k : Nat, k ≤ n ∧ i = .int .i64 k ∧ v = .bool (allMay (l.take k)) ∧ ∀ j, j < k → (l.getD j []).length ≤ 100) (fun _ i => n - (intOf i).toNat)
    case atStart => exact ⟨0, by omega, rfl, rfl, fun j hj => absurd hj (Nat.not_lt_zero _)⟩
    case round =>
      obtain ⟨k, hk, rfl, rfl, hal⟩ := hrel
      have HA := Lib.hid hal
      clear hal
      by_cases hlt : k < n
      · obtain ⟨b0, o0, rfl, _, hcl⟩ := hr1.strs_at (by have := HN.out; omega)
        have hcell := hcl k (by have := HN.out; omega)
        have hsn := take_snoc_strs l k (by have := HN.out; omega)
        have hxm : (l.getD k []).length ≤ maxLen := by
          have hk' : k < l.length := by have := HN.out; omega
          have := HM.out l[k] (List.getElem_mem hk')
          simpa [List.getD, List.getElem?_eq_getElem hk'] using this
        obtain ⟨x, hx⟩ : ∃ x, l.getD k [] = x := ⟨_, rfl⟩
        rw [hx] at hcell hsn hxm
        have HX := Lib.hid hx
        have HSN := Lib.hid hsn
        have hxz := str_size x
        unfold maxLen at hxm
        clear hcl hx hsn
        by_cases h100 : x.length ≤ 100
        · have h1 : (str x).size ≤ 100 := by omega
          have MY := Lib.hid (rwd_may x (by omega) w1)
          have HXL := Lib.hid h100
          clear hxz h100
          obtain ⟨m, hmm⟩ : ∃ m, allMay (l.take k) = m := ⟨_, rfl⟩
          rw [hmm]
          have HMM := Lib.hid hmm
          clear hmm
          cases m with
          | true =>
            go_wp2_with (fail)
            refine MY.out.mono ?_
            rintro e w2 ⟨rfl, rfl⟩
            go_wp2_with (fail)
            go_round
            case rel =>
              refine ⟨k + 1, by omega, by go_num, val_bool (by rw [HSN.out, allMay_snoc, HMM.out]; rfl), fun j hj => ?_⟩
              by_cases hjk : j < k
              · exact HA.out j hjk
              · obtain rfl : j = k := by omega
                rw [HX.out]
                exact HXL.out
            case measure => simp [intOf]; omega
          | false =>
            go_wp2_with (fail)
            go_round
            case rel =>
              refine ⟨k + 1, by omega, by go_num, val_bool (by rw [HSN.out, allMay_snoc, HMM.out]; rfl), fun j hj => ?_⟩
              by_cases hjk : j < k
              · exact HA.out j hjk
              · obtain rfl : j = k := by omega
                rw [HX.out]
                exact HXL.out
            case measure => simp [intOf]; omega
        · have h1 : 100 < (str x).size := by omega
          clear hxz h100
          go_wp2_with (fail)
          go_ret
          exact ⟨rfl, hb1⟩
      · have hfin : l.take k = l := List.take_of_length_le (by have := HN.out; omega)
        rw [hfin]
        have hall : ∀ x ∈ l, x.length ≤ 100 := by
          intro x hx
          obtain ⟨j, hj, rfl⟩ := List.getElem_of_mem hx
          have := HA.out j (by have := HN.out; omega)
          simpa [List.getD, List.getElem?_eq_getElem hj] using this
        have hll : (lineV l).length ≤ 1000000 := by
          have h1 := lineV_len l 100 hall
          have h3 := Nat.mul_le_mul (show l.length ≤ 40 by have := HN.out; omega) (Nat.le_refl 101)
          omega
        obtain ⟨R, hR⟩ : ∃ R, str (lineV l) = R := ⟨_, rfl⟩
        have LN := fun (W : World) (h : RowAt W W.heap.size A (strs l)) => Lib.hid (line_is A c W.heap.size n 100 l HN.out (by have := HN.out; omega) hall (by omega) W h R hR)
        cases hmay : allMay l with
        | true =>
          have JN := Lib.hid (join_yes A c n l HN.out hnc (by omega) (fun x hx => by have := hall x hx; omega) w1 hr1 hmay R hR)
          have SL := fun W hW => Lib.hid (split_line_n l n HN.out R hR hmay hll W hW)
          clear hall hfin hll HM HA hR hmay
          go_wp2_with (fail)
          refine JN.out.mono ?_
          rintro e w2 ⟨rfl, hb2⟩
          replace hm := hm.below hb2 (Nat.le_refl _)
          replace hr1 := (hr1.below hb2).more hb2.size
          replace hb2 := hb1.trans (hb2.mono hb1.size)
          have LN2 := LN w2 hr1
          clear hb1 JN LN
          go_wp2_with (fail)
          refine LN2.out.mono ?_
          rintro e w' ⟨rfl, rfl⟩
          go_wp2_with (fail)
          refine LN2.out.mono ?_
          rintro e w' ⟨rfl, rfl⟩
          have SL2 := SL w2 hm
          clear SL
          go_wp2_with (fail)
          refine SL2.out.mono ?_
          rintro e w3 ⟨Ab, rfl, hrb, hb3⟩
          replace hm := hm.below hb3 (Nat.le_refl _)
          replace hr1 := (hr1.below hb3).more hb3.size
          replace hb3 := hb2.trans (hb3.mono hb2.size)
          clear hb2 SL2 LN2
          go_wp2_with (fail)
          go_loopw [87] (fun i wr => ∃ k q : Nat, k ≤ n ∧ i = .int .i64 k ∧ wr = w3.drewN q) (fun i _ => n - (intOf i).toNat)
          case atStart => exact ⟨0, 0, by omega, rfl, rfl⟩
          case round =>
            obtain ⟨k, q, hk, rfl, rfl⟩ := hrel
            by_cases hlt : k < n
            · obtain ⟨b0, o0, rfl, _, hcl⟩ := hr1.strs_at (by have := HN.out; omega)
              have hcell := hcl k (by have := HN.out; omega)
              obtain ⟨b2, o2, rfl, _, hcl2⟩ := hrb.strs_at (by have := HN.out; omega)
              have hcell2 := hcl2 k (by have := HN.out; omega)
              obtain ⟨X, hX⟩ : ∃ X, str (l.getD k []) = X := ⟨_, rfl⟩
              rw [hX] at hcell hcell2
              clear hcl hcl2 hX
              go_wp2_with (fail)
              go_quiet (fail)
              go_wp2_with (fail)
              go_roundw
              case rel => exact ⟨k + 1, _, by omega, by go_num, rfl⟩
              case measure => simp [intOf]; omega
            have hmq : MaxAt (w3.drewN q) := hm
            have SP2 := SP _ hmq
            have hb3q := below_drewN hb3 q
            clear SP hm hrb
            go_wp2_with (fail)
            refine SP2.out.mono ?_
            rintro e w4 ⟨Aw, ws, was, rfl, hrw, hb4, hy, hno, hpl, hwl⟩
            replace hb4 := hb3q.trans (hb4.mono hb3q.size)
            obtain ⟨m, hmw⟩ : ∃ m, ws.length = m := ⟨_, rfl⟩
            have hm400 : m ≤ 401 := by have := HSL.out; omega
            rw [hmw]
            have HMW := Lib.hid hmw
            have HY := Lib.hid hy
            have HNO := Lib.hid hno
            have HPL := Lib.hid hpl
            clear hmw hy hno hpl hwl hb3 hb3q hmq SP2 hr1
            go_wp2_with (fail)
            go_loop [110] (fun i => ∃ k : Nat, k ≤ m ∧ i = .int .i64 k) (fun i => m - (intOf i).toNat)
            case atStart => exact ⟨0, by omega, rfl⟩
            case round =>
              obtain ⟨k, hk, rfl⟩ := hrel
              by_cases hlt : k < m
              · obtain ⟨b0, o0, rfl, _, hcl⟩ := hrw.strs_at (by have := HMW.out; omega)
                have hcell := hcl k (by have := HMW.out; omega)
                have hk' : k < ws.length := by have := HMW.out; omega
                have hxm : mayB (ws.getD k []) = true := by
                  cases was with
                  | false => have := HNO.out rfl; rw [this] at hk'; simp at hk'
                  | true =>
                    have := (HY.out rfl).2
                    rw [allMay, List.all_eq_true] at this
                    have := this ws[k] (List.getElem_mem hk')
                    simpa [List.getD, List.getElem?_eq_getElem hk'] using this
                have hxl : (ws.getD k []).length ≤ 400 := by
                  have := HPL.out ws[k] (List.getElem_mem hk')
                  have := HSL.out
                  simp only [List.getD, List.getElem?_eq_getElem hk', Option.getD_some]
                  omega
                have MY := rwd_may (ws.getD k []) (by omega) w4
                rw [hxm] at MY
                have MY := Lib.hid MY
                clear hcl hxm hxl hk'
                go_wp2_with (fail)
                refine MY.out.mono ?_
                rintro e w5 ⟨rfl, rfl⟩
                go_wp2_with (fail)
                go_round
                case rel => exact ⟨k + 1, by omega, by go_num⟩
                case measure => simp [intOf]; omega
              · clear hk
                cases was with
                | true =>
                  have hline : lineV ws = s := (HY.out rfl).1
                  have LW := Lib.hid (line_is Aw m w4.heap.size m 400 ws HMW.out.symm (by have := HMW.out; omega) (fun p hp => by have := HPL.out p hp; have := HSL.out; omega) (by omega) w4 hrw S (by rw [hline]; exact HS.out))
                  clear hline
                  go_wp2_with (fail)
                  refine LW.out.mono ?_
                  rintro e w5 ⟨rfl, rfl⟩
                  go_wp2_with (fail)
                  go_ret
                  exact ⟨rfl, hb4⟩
                | false =>
                  have hz : m = 0 := by rw [← HMW.out, HNO.out rfl]; rfl
                  subst hz
                  go_wp2_with (fail)
                  go_ret
                  exact ⟨rfl, hb4⟩
        | false =>
          obtain ⟨E0, hE0⟩ : ∃ E0, str [] = E0 := ⟨_, rfl⟩
          have he1 : E0.toList = [] := by rw [← hE0]; exact str_toList []
          have JN := Lib.hid (join_no A c n l HN.out hnc (by omega) (fun x hx => by have := hall x hx; omega) w1 hr1 hmay E0 hE0)
          have SL := fun W hW => Lib.hid (split_any (lineV l) hll W hW)
          rw [hR] at SL
          clear hall hfin hll HM HA hR hmay hE0
          go_wp2_with (fail)
          refine JN.out.mono ?_
          rintro e w2 ⟨rfl, hb2⟩
          replace hm := hm.below hb2 (Nat.le_refl _)
          replace hr1 := (hr1.below hb2).more hb2.size
          replace hb2 := hb1.trans (hb2.mono hb1.size)
          have LN2 := LN w2 hr1
          clear hb1 JN LN
          go_wp2_with (fail)
          refine LN2.out.mono ?_
          rintro e w' ⟨rfl, rfl⟩
          have SL2 := SL w2 hm
          clear SL
          go_wp2_with (fail)
          refine SL2.out.mono ?_
          rintro e w3 ⟨Ab, wb, bb, rfl, hrb, hb3, -, -, -, -⟩
          replace hm := hm.below hb3 (Nat.le_refl _)
          replace hr1 := (hr1.below hb3).more hb3.size
          replace hb3 := hb2.trans (hb3.mono hb2.size)
          obtain ⟨nb, hnb⟩ : ∃ nb, wb.length = nb := ⟨_, rfl⟩
          rw [hnb]
          clear hb2 SL2 LN2 hrb hnb
          go_wp2_with (fail)
          go_loopw [87] (fun i wr => ∃ k q : Nat, k ≤ n ∧ i = .int .i64 k ∧ wr = w3.drewN q) (fun i _ => n - (intOf i).toNat)
          case atStart => exact ⟨0, 0, by omega, rfl, rfl⟩
          case round =>
            obtain ⟨k, q, hk, rfl, rfl⟩ := hrel
            by_cases hlt : k < n
            · go_wp2_with (fail)
              go_quiet (fail)
              go_wp2_with (fail)
              go_roundw
              case rel => exact ⟨k + 1, _, by omega, by go_num, rfl⟩
              case measure => simp [intOf]; omega
            have hmq : MaxAt (w3.drewN q) := hm
            have SP2 := SP _ hmq
            have hb3q := below_drewN hb3 q
            clear SP hm
            go_wp2_with (fail)
            refine SP2.out.mono ?_
            rintro e w4 ⟨Aw, ws, was, rfl, hrw, hb4, hy, hno, hpl, hwl⟩
            replace hb4 := hb3q.trans (hb4.mono hb3q.size)
            obtain ⟨m, hmw⟩ : ∃ m, ws.length = m := ⟨_, rfl⟩
            have hm400 : m ≤ 401 := by have := HSL.out; omega
            rw [hmw]
            have HMW := Lib.hid hmw
            have HY := Lib.hid hy
            have HNO := Lib.hid hno
            have HPL := Lib.hid hpl
            clear hmw hy hno hpl hwl hb3 hb3q hmq SP2 hr1
            go_wp2_with (fail)
            go_loop [110] (fun i => ∃ k : Nat, k ≤ m ∧ i = .int .i64 k) (fun i => m - (intOf i).toNat)
            case atStart => exact ⟨0, by omega, rfl⟩
            case round =>
              obtain ⟨k, hk, rfl⟩ := hrel
              by_cases hlt : k < m
              · obtain ⟨b0, o0, rfl, _, hcl⟩ := hrw.strs_at (by have := HMW.out; omega)
                have hcell := hcl k (by have := HMW.out; omega)
                have hk' : k < ws.length := by have := HMW.out; omega
                have hxm : mayB (ws.getD k []) = true := by
                  cases was with
                  | false => have := HNO.out rfl; rw [this] at hk'; simp at hk'
                  | true =>
                    have := (HY.out rfl).2
                    rw [allMay, List.all_eq_true] at this
                    have := this ws[k] (List.getElem_mem hk')
                    simpa [List.getD, List.getElem?_eq_getElem hk'] using this
                have hxl : (ws.getD k []).length ≤ 400 := by
                  have := HPL.out ws[k] (List.getElem_mem hk')
                  have := HSL.out
                  simp only [List.getD, List.getElem?_eq_getElem hk', Option.getD_some]
                  omega
                have MY := rwd_may (ws.getD k []) (by omega) w4
                rw [hxm] at MY
                have MY := Lib.hid MY
                clear hcl hxm hxl hk'
                go_wp2_with (fail)
                refine MY.out.mono ?_
                rintro e w5 ⟨rfl, rfl⟩
                go_wp2_with (fail)
                go_round
                case rel => exact ⟨k + 1, by omega, by go_num⟩
                case measure => simp [intOf]; omega
              · clear hk
                cases was with
                | true =>
                  have hline : lineV ws = s := (HY.out rfl).1
                  have LW := Lib.hid (line_is Aw m w4.heap.size m 400 ws HMW.out.symm (by have := HMW.out; omega) (fun p hp => by have := HPL.out p hp; have := HSL.out; omega) (by omega) w4 hrw S (by rw [hline]; exact HS.out))
                  clear hline
                  go_wp2_with (fail)
                  refine LW.out.mono ?_
                  rintro e w5 ⟨rfl, rfl⟩
                  go_wp2_with (fail)
                  go_ret
                  exact ⟨rfl, hb4⟩
                | false =>
                  have hz : m = 0 := by rw [← HMW.out, HNO.out rfl]; rfl
                  subst hz
                  go_wp2_with (fail)
                  go_ret
                  exact ⟨rfl, hb4⟩
  · by_cases g1 : n ≤ 40
    · have g2' : 400 < (str s).size := by omega
      clear hzs hg
      go_enter Tryd.func4, Tryd.ntmps4
      go_wp2_with (fail)
      refine A0.out.mono ?_
      rintro e w1 ⟨rfl, hb1⟩
      go_wp2_with (fail)
      go_ret
      exact ⟨rfl, hb1⟩
    · have g1' : 40 < n := by omega
      clear hzs hg
      go_enter Tryd.func4, Tryd.ntmps4
      go_wp2_with (fail)
      refine A0.out.mono ?_
      rintro e w1 ⟨rfl, hb1⟩
      go_wp2_with (fail)
      go_ret
      exact ⟨rfl, hb1⟩
end Go.Proofs.YtkdepcfnipihhaaDoor
