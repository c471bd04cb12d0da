/-
  Several texts in one: FtxA, Law11A, FtpPure, ShelfIdx, RgsMrg, SpanD, RgsG, RgsH, Sorted, ShelfSort, RgsI, RgsJ.
-/
import Derived.Shelf.Small.Utf8
import Derived.Shelf.Small.Strs
import Derived.Shelf.Small.Wraps
import Derived.Shelf.Strings.Search1
import Derived.Shelf.Strings.Prefix
import Derived.Shelf.Strings.Runes
import Derived.Shelf.Strings.IndexAny
import Derived.Shelf.Strings.AsciiSet
import Derived.Shelf.Strings.IndexAnyAll
import Derived.Test.YthgcbomidamcfaaDoorProg
import Derived.Deep.RegionHeld3
import Derived.Deep.RegionWith
import Derived.Shelf.SlSortCmp.WholeK
import Derived.Shelf.SlSortCmp.NoneTotal
import Derived.Test.YthgcbomidamcfaaDoorMg5
/-
  Layer 11 (ftext), the document's words: a filter's text.
-/
namespace Go.Proofs.YthgcbomidamcfaaDoor
open Go.RowKit

theorem strs2 (a b : List UInt8) : str a ++ str b = str (a ++ b) := by
  apply ByteArray.ext
  rw [ByteArray.data_append]
  simp [str]
theorem strs3 (a b c : List UInt8) : str a ++ str b ++ str c = str (a ++ (b ++ c)) := by rw [strs2, strs2, List.append_assoc]
theorem text_1 {n : Nd} (h : n.op = 1) (ks : List (List UInt8)) : textG n ks = [97, 108, 108] := by simp [textG, nameV, restV, h]
theorem text_2 {n : Nd} (h : n.op = 2) (ks : List (List UInt8)) : textG n ks = [110, 111, 110, 101] := by simp [textG, nameV, restV, h]
theorem text_3 {n : Nd} (h : n.op = 3) (ks : List (List UInt8)) : textG n ks = [112, 114, 101, 102, 105, 120, 40] ++ (ofV n.lo ++ [41]) := by simp [textG, nameV, restV, h]
theorem text_4 {n : Nd} (h : n.op = 4) (ks : List (List UInt8)) : textG n ks = [114, 97, 110, 103, 101, 40] ++ (ofV n.lo ++ ([44] ++ (ofV n.hi ++ [41]))) := by simp [textG, nameV, restV, h]
theorem text_5 {n : Nd} (h : n.op = 5) (ks : List (List UInt8)) : textG n ks = [102, 114, 111, 109, 40] ++ (ofV n.lo ++ [41]) := by simp [textG, nameV, restV, h]
theorem text_6 {n : Nd} (h : n.op = 6) (ks : List (List UInt8)) : textG n ks = [110, 111, 116, 40] ++ (ks.headD [] ++ [41]) := by simp [textG, nameV, restV, h]
theorem text_7 {n : Nd} (h : n.op = 7) (ks : List (List UInt8)) : textG n ks = [97, 110, 100, 40] ++ (joinC ks ++ [41]) := by simp [textG, nameV, restV, h]
theorem text_8 {n : Nd} (h : n.op = 8) (ks : List (List UInt8)) : textG n ks = [111, 114, 40] ++ (joinC ks ++ [41]) := by simp [textG, nameV, restV, h]
set_option maxRecDepth 100000 in
set_option maxHeartbeats 4000000 in
theorem ref_part (A : Option Addr) (c n : Nat) (l : List Nd) (hn : n = l.length) (hn9 : n ≤ 1000) : ∀ (k p d : Nat), p ≤ k → p ≤ n → depV (l.take p) 0 = some d → 1 ≤ d → ∀ (x : Int), x = (p : Int) - 1 → ∀ (V : ByteArray), str (lastT (l.take p)) = V → ∀ w, kNd.Rd w w.heap.size A c l →
    Calls Tryd.prog 17 #[.slice A n c, .int .i64 x] w fun e w' => e = .returned (.string V) ∧ Below w.heap.size w w' := by
  intro k
  induction k with
  | zero =>
    intro p d hp _ hd h1 x hx V hv w _
    obtain rfl : p = 0 := by omega
    have : some 0 = some d := hd
    injection this with this
    omega
  | succ k ih =>
    intro p d hp hpn hd h1 x hx V hv w hr
    by_cases hpk : p ≤ k
    · exact ih p d hpk hpn hd h1 x hx V hv w hr
    obtain rfl : p = k + 1 := by omega
    obtain rfl : x = (k : Int) := by omega
    obtain ⟨nd, hg, -, -⟩ := get_some (l := l) (k := k) (by omega)
    obtain ⟨e, he, hnv, hke, -⟩ := dep_last hg hd
    rw [last_node hg he] at hv
    obtain ⟨b, o, hA, hb1, hcell⟩ := nds_at hr (by omega)
    obtain ⟨c0, c1, c2, c3⟩ := hcell k nd hg
    have hcx : n ≤ c := by rw [hn]; exact hr.room
    have HR := Lib.hid hr
    have hkid := nodeV_kids hnv
    have hop := nodeV_op hnv
    obtain ⟨hlo, hhi⟩ := nodeV_17 hnv
    obtain ⟨O, hO⟩ : ∃ O, nd.op = O := ⟨_, rfl⟩
    obtain ⟨K, hK⟩ : ∃ K, nd.kids = K := ⟨_, rfl⟩
    obtain ⟨S, hS⟩ : ∃ S, str nd.lo = S := ⟨_, rfl⟩
    obtain ⟨T, hT⟩ : ∃ T, str nd.hi = T := ⟨_, rfl⟩
    have W1 := fun w => rwd_of nd.lo (by omega) w
    have W2 := fun w => rwd_of nd.hi (by omega) w
    obtain ⟨X, hX⟩ : ∃ X, str (ofV nd.lo) = X := ⟨_, rfl⟩
    obtain ⟨Y, hY⟩ : ∃ Y, str (ofV nd.hi) = Y := ⟨_, rfl⟩
    have zX : X.size ≤ 60 := by rw [← hX, str_size]; have := (ofV_len nd.lo).2; omega
    have zY : Y.size ≤ 60 := by rw [← hY, str_size]; have := (ofV_len nd.hi).2; omega
    rw [hS, hX] at W1
    rw [hT, hY] at W2
    rw [hO] at c0
    rw [hK] at c1
    rw [hS] at c2
    rw [hT] at c3
    have hkn2 : (k : Int) < (n : Int) := by omega
    have hk2 : (0 : Int) ≤ (k : Int) := by omega
    have hbw := Lib.hid (below_new w (.cells #[.int .i64 O, .int .i64 K, .string S, .string T] 35))
    have IH := fun q dq hq hdq h1q Vq hvq w' hr' => Lib.hid (ih q dq hq (by omega) hdq h1q ((q : Int) - 1) rfl Vq hvq w' hr')
    clear hcell ih
    subst hA
    by_cases h1 : O = 1
    · obtain rfl : V = ⟨#[97, 108, 108]⟩ := by rw [← hv, text_1 (hO.trans h1)]; rfl
      subst h1
      clear hv hO hK hS hT IH hg hd he hr hx hp hpn hpk hkid hop hnv hke hn hX hY W1 W2
      go_enter Tryd.func17, Tryd.ntmps17
      go_wp2_with fail
      go_ret
      exact ⟨rfl, hbw.out⟩
    · have n1 : (O == 1) = false := beq_eq_false_iff_ne.2 h1
      by_cases h2 : O = 2
      · obtain rfl : V = ⟨#[110, 111, 110, 101]⟩ := by rw [← hv, text_2 (hO.trans h2)]; rfl
        subst h2
        clear hv hO hK hS hT IH hg hd he hr hx hp hpn hpk hkid hop hnv hke hn hX hY W1 W2
        go_enter Tryd.func17, Tryd.ntmps17
        go_wp2_with fail
        go_ret
        exact ⟨rfl, hbw.out⟩
      · have n2 : (O == 2) = false := beq_eq_false_iff_ne.2 h2
        by_cases h3 : O = 3
        · have HV := Lib.hid (show (⟨#[112, 114, 101, 102, 105, 120, 40]⟩ : ByteArray) ++ X ++ ⟨#[41]⟩ = V by rw [← hv, text_3 (hO.trans h3), ← hX]; exact strs3 [112, 114, 101, 102, 105, 120, 40] (ofV nd.lo) [41])
          have W1 := fun w => Lib.hid (W1 w)
          subst h3
          clear hv hO hK hS hT IH hg hd he hr hx hp hpn hpk hkid hop hnv hke hn hX hY W2 h1 h2
          go_enter Tryd.func17, Tryd.ntmps17
          go_wp2_with ((with_reducible refine (W1 _).out.mono ?_); rintro e w1 ⟨rfl, hq⟩; replace hbw := Lib.hid (hbw.out.trans (hq.mono hbw.out.size)); clear hq)
          go_ret
          exact ⟨ret_str HV.out, hbw.out⟩
        · have n3 : (O == 3) = false := beq_eq_false_iff_ne.2 h3
          by_cases h4 : O = 4
          · have HV := Lib.hid (show (⟨#[114, 97, 110, 103, 101, 40]⟩ : ByteArray) ++ X ++ ⟨#[44]⟩ ++ Y ++ ⟨#[41]⟩ = V by
              rw [← hv, text_4 (hO.trans h4), ← hX, ← hY]
              have := strs3 ([114, 97, 110, 103, 101, 40] ++ (ofV nd.lo ++ [44])) (ofV nd.hi) [41]
              rw [← strs3] at this
              exact this.trans (by simp))
            obtain ⟨WB, hWB⟩ : ∃ WB, w.alloc (.cells #[.int .i64 O, .int .i64 K, .string S, .string T] 35) = WB := ⟨_, rfl⟩
            have CX := Lib.hid (fun L => cellL_of (a := WB) (l := L) W1)
            have CY := Lib.hid (fun L => cellL_of (a := WB) (l := L) W2)
            have hgn := heap_new w (.cells #[.int .i64 O, .int .i64 K, .string S, .string T] 35) _ rfl
            rw [hWB] at hgn hbw
            have g0 : WB.cell? ⟨w.heap.size, 0, none⟩ = some (.int .i64 O) := by rw [cell_of_row _ _ _ _ _ _ hgn]; rfl
            have g2 : WB.cell? ⟨w.heap.size, 2, none⟩ = some (.string S) := by rw [cell_of_row _ _ _ _ _ _ hgn]; rfl
            have g3 : WB.cell? ⟨w.heap.size, 3, none⟩ = some (.string T) := by rw [cell_of_row _ _ _ _ _ _ hgn]; rfl
            have HC := Lib.hid (show CellL WB [(⟨w.heap.size, 2, none⟩, .string S), (⟨w.heap.size, 3, none⟩, .string T)] WB from ⟨g2, g3, Below.refl _ _⟩)
            subst h4
            clear hv hO hK hS hT IH hg hd he hr hx hp hpn hpk hkid hop hnv hke hn hX hY W1 W2 h1 h2 h3 hgn
            go_enter Tryd.func17, Tryd.ntmps17
            go_wp2_with fail
            clear hWB g0 g2 g3
            refine q_region (CellL WB [(⟨w.heap.size, 2, none⟩, .string S), (⟨w.heap.size, 3, none⟩, .string T)]) (by kernel_rfl) (by kernel_rfl) (cellL_drew HC.out) ?_
            repeat (first
              | go_big_quiet_skip
              | (go_big_quiet_want; (first
                | (refine q_take (v := ?_) ?_ ?_; rotate_left; (focus (intro w hSw; (try simp only [CellL] at hSw); go_split_ands; go_simp; (try (rw [if_neg (by omega)])); (try with_reducible rfl); done)))
                | (refine q_call (CX.out _) ?_ ?_; (focus (intro w hSw; (try simp only [CellL] at hSw); go_split_ands; go_simp; (try (rw [if_neg (by omega)])); done)))
                | (refine q_call (CY.out _) ?_ ?_; (focus (intro w hSw; (try simp only [CellL] at hSw); go_split_ands; go_simp; (try (rw [if_neg (by omega)])); done)))); (try simp only [Act.put, List.setIfInBounds_toArray, List.set_cons_zero, List.set_cons_succ]); go_big_quiet_on))
            refine wpQuiet_nil ?_
            intro w2 hw2
            have HB2 := Lib.hid (hbw.out.trans ((cellL_size hw2).mono hbw.out.size))
            clear hw2
            go_wp2_with fail
            go_ret
            exact ⟨ret_str HV.out, HB2.out⟩
          · have n4 : (O == 4) = false := beq_eq_false_iff_ne.2 h4
            by_cases h5 : O = 5
            · have HV := Lib.hid (show (⟨#[102, 114, 111, 109, 40]⟩ : ByteArray) ++ X ++ ⟨#[41]⟩ = V by rw [← hv, text_5 (hO.trans h5), ← hX]; exact strs3 [102, 114, 111, 109, 40] (ofV nd.lo) [41])
              have W1 := fun w => Lib.hid (W1 w)
              subst h5
              clear hv hO hK hS hT IH hg hd he hr hx hp hpn hpk hkid hop hnv hke hn hX hY W2 h1 h2 h3 h4
              go_enter Tryd.func17, Tryd.ntmps17
              go_wp2_with ((with_reducible refine (W1 _).out.mono ?_); rintro e w1 ⟨rfl, hq⟩; replace hbw := Lib.hid (hbw.out.trans (hq.mono hbw.out.size)); clear hq)
              go_ret
              exact ⟨ret_str HV.out, hbw.out⟩
            · have n5 : (O == 5) = false := beq_eq_false_iff_ne.2 h5
              by_cases h6 : O = 6
              · have hk1 : kidsN nd = 1 := nodeV_not hnv (hO.trans h6)
                have hz : (foldG textG (l.take k) []).drop (e - kidsN nd) = [lastT (l.take k)] := by
                  rw [hk1]
                  have := kid_more he (i := 0) (q := k) (by omega) (cntV_zero _)
                  have h9 : (foldG textG (l.take k) []).drop (e - 0) = [] := List.drop_of_length_le (by rw [foldG_len textG (l.take k) [] e he, Nat.sub_zero]; exact Nat.le_refl _)
                  rw [h9] at this
                  exact this
                obtain ⟨Z, hZ⟩ : ∃ Z, str (lastT (l.take k)) = Z := ⟨_, rfl⟩
                have C := fun w' hr' => IH k e (Nat.le_refl _) he (by omega) Z hZ w' hr'
                have HV := Lib.hid (show (⟨#[110, 111, 116, 40]⟩ : ByteArray) ++ Z ++ ⟨#[41]⟩ = V by rw [← hv, text_6 (hO.trans h6), hz, ← hZ]; exact strs3 [110, 111, 116, 40] (lastT (l.take k)) [41])
                have zZ : Z.size ≤ 150000 := by
                  rw [← hZ, str_size]
                  have h1 := last_small he
                  have h2 : (l.take k).length ≤ k := by rw [List.length_take]; omega
                  omega
                have hw1 : IntKind.i64.wrap ((k : Int) - 1) = (k : Int) - 1 := IntWalk.i64_in _ (by omega)
                subst h6
                clear hv hO hK hS hT IH hg hd he hr hx hp hpn hpk hkid hop hnv hke hn h1 h2 h3 h4 h5 hz hk1 hX hY W1 W2 hZ
                go_enter Tryd.func17, Tryd.ntmps17
                go_wp2_with ((with_reducible refine (C _ (HR.out.call hbw.out)).out.mono ?_); rintro e w1 ⟨rfl, hq⟩; replace hbw := Lib.hid (hbw.out.trans (hq.mono hbw.out.size)); clear hq)
                go_ret
                exact ⟨ret_str HV.out, hbw.out⟩
              · have n6 : (O == 6) = false := beq_eq_false_iff_ne.2 h6
                have ho : O = 7 ∨ O = 8 := by rw [hO] at hop; omega
                obtain ⟨m, hm⟩ : ∃ m : Nat, kidsN nd = m := ⟨_, rfl⟩
                have hKm : K = (m : Int) := by unfold kidsN at hm; rw [hK] at hkid hm; omega
                have hm9 : m ≤ 32 := by unfold kidsN at hm; omega
                clear hK
                subst hKm
                have hme : m ≤ e := by omega
                rw [hm] at hv
                have HV7 := Lib.hid (fun h : O = 7 => show (⟨#[97, 110, 100, 40]⟩ : ByteArray) ++ str (joinC ((foldG textG (l.take k) []).drop (e - m))) ++ ⟨#[41]⟩ = V by rw [← hv, text_7 (hO.trans h)]; exact strs3 [97, 110, 100, 40] _ [41])
                have HV8 := Lib.hid (fun h : O = 8 => show (⟨#[111, 114, 40]⟩ : ByteArray) ++ str (joinC ((foldG textG (l.take k) []).drop (e - m))) ++ ⟨#[41]⟩ = V by rw [← hv, text_8 (hO.trans h)]; exact strs3 [111, 114, 40] _ [41])
                have HD := Lib.hid he
                have HN := Lib.hid hn
                have HJ := Lib.hid (show ∀ j, (str (joinC ((foldG textG (l.take k) []).drop j))).size ≤ 150000 from fun j => by
                  rw [str_size]
                  have h1 := join_small he j
                  have h2 : (l.take k).length ≤ k := by rw [List.length_take]; omega
                  omega)
                have HZ0 := Lib.hid (show (⟨#[]⟩ : ByteArray) = str (joinC ((foldG textG (l.take k) []).drop (e - 0))) by
                  rw [Nat.sub_zero, List.drop_of_length_le (by rw [foldG_len textG (l.take k) [] e he]; exact Nat.le_refl _)]; rfl)
                obtain ⟨W1', hW1⟩ : ∃ W1, w.alloc (.cells #[.int .i64 O, .int .i64 m, .string S, .string T] 35) = W1 := ⟨_, rfl⟩
                have HB1 := Lib.hid hbw.out
                rw [hW1] at HB1
                have hnb := heap_new w (.cells #[.int .i64 O, .int .i64 m, .string S, .string T] 35) _ rfl
                rw [hW1] at hnb
                have g0 : W1'.cell? ⟨w.heap.size, 0, none⟩ = some (.int .i64 O) := by rw [cell_of_row _ _ _ _ _ _ hnb]; rfl
                have g1 : W1'.cell? ⟨w.heap.size, 1, none⟩ = some (.int .i64 m) := by rw [cell_of_row _ _ _ _ _ _ hnb]; rfl
                have hl1 := lt_of_block hnb
                have HG0 := Lib.hid g0
                have HG1 := Lib.hid g1
                clear hv hO hS hT hg hd he hr hx hp hpn hpk hkid hop hnv hke h1 h2 h3 h4 h5 h6 hm hn hnb hbw W1 W2 hX hY
                go_enter Tryd.func17, Tryd.ntmps17
                go_wp2_with fail
                go_loopw [6, 7, 8] (fun ss sf si wr => ∃ (i q : Nat) (J : ByteArray), i ≤ m ∧ q ≤ k ∧ Hid (cntV i (l.take k).reverse = some (l.take q).reverse) ∧ Hid (depV (l.take q) 0 = some (e - i)) ∧ Hid (J = str (joinC ((foldG textG (l.take k) []).drop (e - i)))) ∧ ss = .string J ∧ sf = .int .i64 q ∧ si = .int .i64 i ∧ Hid (Below W1'.heap.size W1' wr)) (fun _ _ i _ => m - (intOf i).toNat)
                case atStart => exact ⟨0, k, _, by omega, Nat.le_refl _, cntV_zero _, HD.out, HZ0.out, rfl, rfl, rfl, Below.refl _ _⟩
                case round =>
                  obtain ⟨i, q, J, hi, hq, HC, HDQ, HJJ, rfl, rfl, rfl, HB⟩ := hrel
                  clear g0 g1
                  have d0 := ((bcell HB.out).1 _ _ hl1).trans HG0.out
                  have d1 := ((bcell HB.out).1 _ _ hl1).trans HG1.out
                  have zJ : J.size ≤ 150000 := by rw [HJJ.out]; exact HJ.out _
                  by_cases hlt : i < m
                  · have hei : i < e := by omega
                    obtain ⟨Z, hz⟩ : ∃ Z, str (lastT (l.take q)) = Z := ⟨_, rfl⟩
                    have zZ : Z.size ≤ 150000 := by
                      rw [← hz, str_size]
                      have h1 := last_small HDQ.out
                      have h2 : (l.take q).length ≤ q := by rw [List.length_take]; omega
                      omega
                    have C1 := fun w' hr' => IH q (e - i) hq HDQ.out (by omega) Z hz w' hr'
                    obtain ⟨q2, hq2, hc2, hl2, hd2, -⟩ := cnt_place HD.out (show i + 1 ≤ e by omega)
                    have hb2 : begV l q = (q2 : Nat) := beg_place (by
                      have := hc2
                      rw [cntV_add, HC.out] at this
                      exact this) hl2
                    have C2 := fun w' hr' => Lib.hid (ref_begin (some ⟨b, o, none⟩) c n l HN.out (by omega) q q (Nat.le_refl _) (by omega) ((q : Int) - 1) rfl w' hr')
                    rw [hb2] at C2
                    have HC2 := Lib.hid hc2
                    have HD2 := Lib.hid hd2
                    have hkj := kid_join HD.out hei HC.out
                    have hw1 : IntKind.i64.wrap ((q : Int) - 1) = (q : Int) - 1 := IntWalk.i64_in _ (by omega)
                    by_cases hi0 : 0 < i
                    · have HX := Lib.hid (show Z ++ (⟨#[44]⟩ ++ J) = str (joinC ((foldG textG (l.take k) []).drop (e - (i + 1)))) by
                        rw [hkj, decide_eq_true hi0, ← hz, HJJ.out]
                        show _ = str (lastT (l.take q) ++ ([44] ++ _))
                        rw [← strs2, ← strs2]; rfl)
                      have t1 : decide ((0 : Int) < (i : Int)) = true := decide_eq_true (by omega)
                      clear hz hc2 hl2 hd2 hb2 HC HDQ IH HJJ hkj
                      go_wp2_with (first
                        | ((with_reducible refine (C1 _ (HR.out.call (HB1.out.trans (HB.out.mono HB1.out.size)))).out.mono ?_); rintro e1 w2 ⟨rfl, hq1⟩; replace HB := Lib.hid (HB.out.trans (hq1.mono HB.out.size)); clear hq1)
                        | ((with_reducible refine (C2 _ (HR.out.call (HB1.out.trans (HB.out.mono HB1.out.size)))).out.mono ?_); rintro e1 w2 ⟨rfl, hq1⟩; replace HB := Lib.hid (HB.out.trans (hq1.mono HB.out.size)); clear hq1))
                      go_roundw
                      case rel => exact ⟨i + 1, q2, _, by omega, hq2, HC2, HD2, HX.out, rfl, rfl, by go_num, HB⟩
                      case measure => simp [intOf]; omega
                    · obtain rfl : i = 0 := by omega
                      have HX := Lib.hid (show Z ++ J = str (joinC ((foldG textG (l.take k) []).drop (e - (0 + 1)))) by
                        rw [hkj, decide_eq_false hi0, ← hz, HJJ.out, ← HZ0.out]
                        exact (strs2 _ []).trans (by rw [List.append_nil]))
                      clear hz hc2 hl2 hd2 hb2 HC HDQ IH HJJ hkj
                      go_wp2_with (first
                        | ((with_reducible refine (C1 _ (HR.out.call (HB1.out.trans (HB.out.mono HB1.out.size)))).out.mono ?_); rintro e1 w2 ⟨rfl, hq1⟩; replace HB := Lib.hid (HB.out.trans (hq1.mono HB.out.size)); clear hq1)
                        | ((with_reducible refine (C2 _ (HR.out.call (HB1.out.trans (HB.out.mono HB1.out.size)))).out.mono ?_); rintro e1 w2 ⟨rfl, hq1⟩; replace HB := Lib.hid (HB.out.trans (hq1.mono HB.out.size)); clear hq1))
                      go_roundw
                      case rel => exact ⟨0 + 1, q2, _, by omega, hq2, HC2, HD2, HX.out, rfl, rfl, by go_num, HB⟩
                      case measure => simp [intOf]; omega
                  · have him : i = m := by omega
                    subst him
                    rw [← HJJ.out] at HV7 HV8
                    clear IH HC HDQ HJJ
                    rcases ho with rfl | rfl
                    · have HV := Lib.hid (HV7.out rfl)
                      clear HV7 HV8
                      go_wp2_with fail
                      go_ret
                      exact ⟨ret_str HV.out, HB1.out.trans (HB.out.mono HB1.out.size)⟩
                    · have HV := Lib.hid (HV8.out rfl)
                      clear HV7 HV8
                      go_wp2_with fail
                      go_ret
                      exact ⟨ret_str HV.out, HB1.out.trans (HB.out.mono HB1.out.size)⟩
theorem ref_ftext (A : Option Addr) (c n : Nat) (l : List Nd) (hn : n = l.length) (h : rightN l = true) (V : ByteArray) (hV : str (topT l) = V) (w : World) (hr : kNd.Rd w w.heap.size A c l) :
    Calls Tryd.prog 10 #[.slice A n c] w fun e w' => e = .returned (.string V) ∧ Below w.heap.size w w' := by
  obtain ⟨h1, h2, h3⟩ := rightN_iff.1 h
  have C := Lib.hid (ref_part A c n l hn (by omega) n n 1 (Nat.le_refl _) (Nat.le_refl _) (by rw [hn, List.take_length]; exact h3) (by omega) ((n : Int) - 1) rfl V (by rw [hn, List.take_length, last_full (rightN_full h)]; exact hV) w hr)
  have hw1 : IntKind.i64.wrap ((n : Int) - 1) = (n : Int) - 1 := IntWalk.i64_in _ (by omega)
  clear hn h hr h1 h2 h3 hV
  go_enter Tryd.func10, Tryd.ntmps10
  go_wp2_with ((with_reducible refine C.out.mono ?_); rintro e w1 ⟨rfl, hq⟩)
  go_ret
  exact ⟨rfl, hq⟩
end Go.Proofs.YthgcbomidamcfaaDoor

/-
  The laws of layer 11: what they ask of the program's functions; the chapter's example; FtextTells, FtextParses.
-/
namespace Go.Proofs.YthgcbomidamcfaaDoor
open Go.RowKit

/-- Nodes, and what is wrong. -/
def RetNE (w : World) (N : Nat) (x : Int) (l : List Nd) (e : Ending) (w' : World) : Prop := ∃ A c, e = .returned (.tuple #[.slice A N c, .int .i64 x]) ∧ kNd.Rd w' w'.heap.size A c l ∧ Below w.heap.size w w'
def TellT (F : FuncId) : Prop := ∀ (A : Option Addr) (c n : Nat) (a : List Nd), n = a.length → SmallN 64 a →
  (rightN a = true → ∀ V, str (topT a) = V → ∀ w, NmsAt w → kNd.Rd w w.heap.size A c a → Calls Tryd.prog F #[.slice A n c] w fun e w' => e = .returned (.tuple #[.string V, .int .i64 0]) ∧ Below w.heap.size w w') ∧
  (rightN a = false → ∀ w, NmsAt w → kNd.Rd w w.heap.size A c a → Calls Tryd.prog F #[.slice A n c] w fun e w' => e = .returned (.tuple #[.string ⟨#[]⟩, .int .i64 2]) ∧ Below w.heap.size w w')
def ParseT (F : FuncId) : Prop := ∀ (s : List UInt8) (U : ByteArray), str s = U → s.length ≤ 20000 →
  (∀ l, parseV s = some l → ∀ N, l.length = N → ∀ w, NmsAt w → Calls Tryd.prog F #[.string U] w (RetNE w N 0 l)) ∧ (parseV s = none → ∀ w, NmsAt w → Calls Tryd.prog F #[.string U] w (RetNE w 0 11 []))
def awF : List Nd := [⟨3, 0, [97], []⟩, ⟨4, 0, [98], [99]⟩, ⟨6, 1, [], []⟩, ⟨7, 2, [], []⟩]
def awS : List UInt8 := [97, 110, 100, 40, 112, 114, 101, 102, 105, 120, 40, 97, 41, 44, 110, 111, 116, 40, 114, 97, 110, 103, 101, 40, 98, 44, 99, 41, 41, 41]
theorem awF_right : rightN awF = true := by decide +kernel
theorem awF_text : topT awF = awS := by decide +kernel
set_option maxRecDepth 100000 in
set_option maxHeartbeats 4000000 in
theorem awake11 (HT : TellT 7) (HP : ParseT 9) (w : World) (hnm : NmsAt w) :
    Calls Tryd.prog 5 #[] w fun e w' => e = .returned (.bool true) ∧ Below w.heap.size w w' := by
  have P1 := fun w hx => Lib.hid ((HP awS ⟨#[97, 110, 100, 40, 112, 114, 101, 102, 105, 120, 40, 97, 41, 44, 110, 111, 116, 40, 114, 97, 110, 103, 101, 40, 98, 44, 99, 41, 41, 41]⟩ rfl (by decide)).1 awF (parse_some awF_right awF_text) 4 rfl w hx)
  have T1 := fun A c w hn hr => Lib.hid ((HT A c 4 awF rfl (smallN_of (by decide) rfl)).1 awF_right ⟨#[97, 110, 100, 40, 112, 114, 101, 102, 105, 120, 40, 97, 41, 44, 110, 111, 116, 40, 114, 97, 110, 103, 101, 40, 98, 44, 99, 41, 41, 41]⟩ (by rw [awF_text]; rfl) w hn hr)
  have HW := Lib.hid (Below.refl w.heap.size w)
  have hlw := hnm.lt
  have HNM := Lib.hid hnm
  clear hnm
  clear HT HP
  go_enter Tryd.func5, Tryd.ntmps5
  go_wp2_with (first
    | ((with_reducible refine (P1 _ (HNM.out.below HW.out hlw)).out.mono ?_); rintro e w9 ⟨A1, c1, rfl, hr, hq⟩; replace HW := Lib.hid (HW.out.trans (hq.mono HW.out.size)); have H1 := Lib.hid hr; clear hr hq)
    | ((with_reducible refine (T1 _ _ _ (HNM.out.below HW.out hlw) H1.out).out.mono ?_); rintro e w8 ⟨rfl, hq⟩; replace HW := Lib.hid (HW.out.trans (hq.mono HW.out.size)); clear hq))
  go_ret
  exact ⟨rfl, HW.out⟩
theorem nsame11_is (A B : Option Addr) (c d n : Nat) (a : List Nd) (hn : a.length = n) (w : World) (ha : kNd.Rd w w.heap.size A c a) (hb : kNd.Rd w w.heap.size B d a) :
    Calls Tryd.prog 11 #[.slice A n c, .slice B n d] w fun e w' => e = .returned (.bool true) ∧ Below w.heap.size w w' :=
  (ref_nsame A B c d n n a a hn.symm hn.symm true (sameN_iff.2 rfl) w ha hb).mono fun _ _ ⟨h1, _, h2⟩ => ⟨h1, below_quiet h2⟩
set_option maxRecDepth 100000 in
set_option maxHeartbeats 4000000 in
theorem ftextTells_walk (HT : TellT 7) (HP : ParseT 9) (A : Option Addr) (c n : Nat) (l : List Nd) (hn : n = l.length) (w : World) (hnm : NmsAt w) (ha : kNd.Rd w w.heap.size A c l) :
    Calls Tryd.prog 3 #[.slice A n c] w fun e w' => e = .returned (.bool true) ∧ Below w.heap.size w w' := by
  have A0 := fun w hn => Lib.hid (awake11 HT HP w hn)
  obtain ⟨va, hva⟩ : ∃ v, longN 60 l = v := ⟨_, rfl⟩
  have La := fun w hr => Lib.hid (nlong_is 60 A c n 60 rfl l hn (by omega) va hva w hr)
  have HA := Lib.hid ha
  have HW := Lib.hid (Below.refl w.heap.size w)
  have hlw := hnm.lt
  have HNM := Lib.hid hnm
  clear hnm
  cases va
  case true =>
    clear HT HP hva hn ha
    go_enter Tryd.func3, Tryd.ntmps3
    go_wp2_with (first
      | ((with_reducible refine (A0 _ (HNM.out.below HW.out hlw)).out.mono ?_); rintro e w9 ⟨rfl, hq⟩; replace HW := Lib.hid (HW.out.trans (hq.mono HW.out.size)); replace HA := Lib.hid (HA.out.call hq); clear hq)
      | ((with_reducible refine (La _ HA.out).out.mono ?_); rintro e w9 ⟨rfl, rfl⟩))
    go_ret
    exact ⟨rfl, HW.out⟩
  case false =>
    have hsm := (longN_small hva).mono (m := 64) (by omega)
    have n9 : n ≤ 100000 := by have := hsm.1; omega
    obtain ⟨v, hv⟩ : ∃ v, rightN l = v := ⟨_, rfl⟩
    have RT := fun w hr => Lib.hid (ref_nright A c n l hn n9 v hv w hr)
    cases v
    case false =>
      have T1 := fun w hx hr => Lib.hid ((HT A c n l hn hsm).2 hv w hx hr)
      clear HT HP hva hn ha hsm n9 hv
      go_enter Tryd.func3, Tryd.ntmps3
      go_wp2_with (first
        | ((with_reducible refine (A0 _ (HNM.out.below HW.out hlw)).out.mono ?_); rintro e w9 ⟨rfl, hq⟩; replace HW := Lib.hid (HW.out.trans (hq.mono HW.out.size)); replace HA := Lib.hid (HA.out.call hq); clear hq)
        | ((with_reducible refine (La _ HA.out).out.mono ?_); rintro e w9 ⟨rfl, rfl⟩)
        | ((with_reducible refine (T1 _ (HNM.out.below HW.out hlw) HA.out).out.mono ?_); rintro e w9 ⟨rfl, hq⟩; replace HW := Lib.hid (HW.out.trans (hq.mono HW.out.size)); replace HA := Lib.hid (HA.out.call hq); clear hq)
        | ((with_reducible refine (RT _ HA.out).out.mono ?_); rintro e w9 ⟨rfl, hq⟩; replace HW := Lib.hid (HW.out.trans (hq.mono HW.out.size)); replace HA := Lib.hid (HA.out.call hq); clear hq))
      go_ret
      exact ⟨rfl, HW.out⟩
    case true =>
      obtain ⟨V, hV⟩ : ∃ V, str (topT l) = V := ⟨_, rfl⟩
      have T1 := fun w hx hr => Lib.hid ((HT A c n l hn hsm).1 hv V hV w hx hr)
      have X1 := fun w hr => Lib.hid (ref_ftext A c n l hn hv V hV w hr)
      have htl : (topT l).length ≤ 20000 := by
        have h1 := text_len l.length l (Nat.le_refl _) (rightN_full hv) fun m hm => nodeV_17 (dep_valid (rightN_full hv) m hm)
        have := hsm.1
        omega
      have P1 := fun w hx => Lib.hid ((HP (topT l) V hV htl).1 l (parse_some hv rfl) n hn.symm w hx)
      have SM := fun B d w h1 => Lib.hid (fun h2 => nsame11_is B A d c n l hn.symm w h1 h2)
      clear HT HP hva hn ha hsm n9 hv hV htl
      go_enter Tryd.func3, Tryd.ntmps3
      go_wp2_with (first
        | ((with_reducible refine (A0 _ (HNM.out.below HW.out hlw)).out.mono ?_); rintro e w9 ⟨rfl, hq⟩; replace HW := Lib.hid (HW.out.trans (hq.mono HW.out.size)); replace HA := Lib.hid (HA.out.call hq); clear hq)
        | ((with_reducible refine (La _ HA.out).out.mono ?_); rintro e w9 ⟨rfl, rfl⟩)
        | ((with_reducible refine (T1 _ (HNM.out.below HW.out hlw) HA.out).out.mono ?_); rintro e w9 ⟨rfl, hq⟩; replace HW := Lib.hid (HW.out.trans (hq.mono HW.out.size)); replace HA := Lib.hid (HA.out.call hq); clear hq)
        | ((with_reducible refine (RT _ HA.out).out.mono ?_); rintro e w9 ⟨rfl, hq⟩; replace HW := Lib.hid (HW.out.trans (hq.mono HW.out.size)); replace HA := Lib.hid (HA.out.call hq); clear hq)
        | ((with_reducible refine (P1 _ (HNM.out.below HW.out hlw)).out.mono ?_); rintro e w9 ⟨B1, d1, rfl, hrd, hq⟩; replace HW := Lib.hid (HW.out.trans (hq.mono HW.out.size)); replace HA := Lib.hid (HA.out.call hq); have H1 := Lib.hid hrd; clear hrd hq)
        | ((with_reducible refine (X1 _ HA.out).out.mono ?_); rintro e w9 ⟨rfl, hq⟩; replace HW := Lib.hid (HW.out.trans (hq.mono HW.out.size)); replace HA := Lib.hid (HA.out.call hq); replace H1 := Lib.hid (H1.out.call hq); clear hq)
        | ((with_reducible refine ((SM _ _ _ H1.out).out HA.out).mono ?_); rintro e w9 ⟨rfl, hq⟩; replace HW := Lib.hid (HW.out.trans (hq.mono HW.out.size)); clear hq))
      go_ret
      exact ⟨rfl, HW.out⟩
set_option maxRecDepth 100000 in
set_option maxHeartbeats 4000000 in
theorem ftextParses_walk (HT : TellT 7) (HP : ParseT 9) (s : List UInt8) (w : World) (hnm : NmsAt w) :
    Calls Tryd.prog 4 #[.string (str s)] w fun e w' => e = .returned (.bool true) ∧ Below w.heap.size w w' := by
  have A0 := fun w hn => Lib.hid (awake11 HT HP w hn)
  have HW := Lib.hid (Below.refl w.heap.size w)
  have hlw := hnm.lt
  have HNM := Lib.hid hnm
  clear hnm
  have hzU : (str s).size = s.length := str_size s
  obtain ⟨U, hU⟩ : ∃ U, str s = U := ⟨_, rfl⟩
  rw [hU] at hzU ⊢
  by_cases hs : U.size ≤ 600
  · cases hp : parseV s with
    | none =>
      have P1 := fun w hx => Lib.hid ((HP s U hU (by omega)).2 hp w hx)
      clear HT HP hU hzU hp
      go_enter Tryd.func4, Tryd.ntmps4
      go_wp2_with (first
        | ((with_reducible refine (A0 _ (HNM.out.below HW.out hlw)).out.mono ?_); rintro e w9 ⟨rfl, hq⟩; replace HW := Lib.hid (HW.out.trans (hq.mono HW.out.size)); clear hq)
        | ((with_reducible refine (P1 _ (HNM.out.below HW.out hlw)).out.mono ?_); rintro e w9 ⟨B1, d1, rfl, -, hq⟩; replace HW := Lib.hid (HW.out.trans (hq.mono HW.out.size)); clear hq))
      go_ret
      exact ⟨rfl, HW.out⟩
    | some l =>
      obtain ⟨h1, h2⟩ := parse_back hp
      obtain ⟨N, hN⟩ : ∃ N, l.length = N := ⟨_, rfl⟩
      have P1 := fun w hx => Lib.hid ((HP s U hU (by omega)).1 l hp N hN w hx)
      have n9 : N ≤ 32 := by have := (rightN_iff.1 h1).2.1; omega
      have RT := fun A c w hr => Lib.hid (ref_nright A c N l hN.symm (by omega) true h1 w hr)
      have X1 := fun A c w hr => Lib.hid (ref_ftext A c N l hN.symm h1 U (by rw [h2]; exact hU) w hr)
      clear HT HP hU hzU hp h1 h2 hN n9
      go_enter Tryd.func4, Tryd.ntmps4
      go_wp2_with (first
        | ((with_reducible refine (A0 _ (HNM.out.below HW.out hlw)).out.mono ?_); rintro e w9 ⟨rfl, hq⟩; replace HW := Lib.hid (HW.out.trans (hq.mono HW.out.size)); clear hq)
        | ((with_reducible refine (P1 _ (HNM.out.below HW.out hlw)).out.mono ?_); rintro e w9 ⟨B1, d1, rfl, hrd, hq⟩; replace HW := Lib.hid (HW.out.trans (hq.mono HW.out.size)); have H1 := Lib.hid hrd; clear hrd hq)
        | ((with_reducible refine (RT _ _ _ H1.out).out.mono ?_); rintro e w9 ⟨rfl, hq⟩; replace HW := Lib.hid (HW.out.trans (hq.mono HW.out.size)); replace H1 := Lib.hid (H1.out.call hq); clear hq)
        | ((with_reducible refine (X1 _ _ _ H1.out).out.mono ?_); rintro e w9 ⟨rfl, hq⟩; replace HW := Lib.hid (HW.out.trans (hq.mono HW.out.size)); clear hq))
      go_ret
      exact ⟨rfl, HW.out⟩
  · clear HT HP hU hzU
    go_enter Tryd.func4, Tryd.ntmps4
    go_wp2_with (first
      | ((with_reducible refine (A0 _ (HNM.out.below HW.out hlw)).out.mono ?_); rintro e w9 ⟨rfl, hq⟩; replace HW := Lib.hid (HW.out.trans (hq.mono HW.out.size)); clear hq))
    go_ret
    exact ⟨rfl, HW.out⟩
end Go.Proofs.YthgcbomidamcfaaDoor

/-
  Plain facts on reading a filter's text (layer 11): a reader that goes from the left; what it reads of a filter's text, and what stood there if it read something. No program in this text.
-/
namespace Go.Proofs.YthgcbomidamcfaaDoor

/-- What is parsed so far, and how many nodes may still be begun. -/
structure Ps where
  rest : List UInt8
  wrong : Bool
  nodes : List Nd
  left : Nat
def failP (s : Ps) : Ps := ⟨[], true, s.nodes, s.left⟩
def plainP (r : List UInt8) : List UInt8 := r.takeWhile cleanB
def behindP (r : List UInt8) : List UInt8 := r.dropWhile cleanB
def cutP (s : Ps) : Ps := ⟨behindP s.rest, s.wrong, s.nodes, s.left⟩
def mustP (c : UInt8) (s : Ps) : Ps := match s.rest with
  | [] => failP s
  | d :: q => if d = c then ⟨q, s.wrong, s.nodes, s.left⟩ else failP s
noncomputable def wordP (w : List UInt8) : Option (List UInt8) := by
  classical exact if h : ∃ t, ofV t = w then some h.choose else none
theorem wordP_some {w t : List UInt8} (h : ofV t = w) : wordP w = some t := by
  have hx : ∃ t, ofV t = w := ⟨t, h⟩
  unfold wordP
  rw [dif_pos hx, ofV_inj (hx.choose_spec.trans h.symm)]
theorem wordP_back {w t : List UInt8} (h : wordP w = some t) : ofV t = w := by
  unfold wordP at h
  split at h
  · rename_i hx
    injection h with h
    subst h
    exact hx.choose_spec
  · cases h
theorem wordP_none {w : List UInt8} (h : ∀ t, ofV t ≠ w) : wordP w = none := by
  cases e : wordP w with
  | none => rfl
  | some t => exact absurd (wordP_back e) (h t)
/-- The text of a word, and what is behind it. -/
noncomputable def textP (s : Ps) : List UInt8 × Ps := match wordP (plainP s.rest) with
  | some t => (t, cutP s)
  | none => ([], failP s)
def kindV (b : List UInt8) : Int :=
  if b = [97, 108, 108] then 1 else if b = [110, 111, 110, 101] then 2 else if b = [112, 114, 101, 102, 105, 120] then 3 else if b = [114, 97, 110, 103, 101] then 4 else if b = [102, 114, 111, 109] then 5 else if b = [110, 111, 116] then 6 else if b = [97, 110, 100] then 7 else if b = [111, 114] then 8 else 0
def putP (n : Nd) (s : Ps) : Ps := ⟨s.rest, s.wrong, s.nodes ++ [n], s.left⟩
/-- Filters with commas between them. -/
def loopP (g : Ps → Ps) : Nat → Ps → Nat → Nat × Ps
  | 0, s, n => (n, s)
  | m + 1, s, n => match s.rest with
    | [] => (n, s)
    | d :: q => if d = 44 then loopP g m (g ⟨q, s.wrong, s.nodes, s.left⟩) (n + 1) else (n, s)
def kidsP (g : Ps → Ps) (s : Ps) : Nat × Ps := loopP g (g s).rest.length (g s) 1
noncomputable def bodyP (g : Ps → Ps) (op : Int) (s : Ps) : Ps :=
  if op = 1 ∨ op = 2 then putP ⟨op, 0, [], []⟩ s
  else if op = 3 ∨ op = 5 then putP ⟨op, 0, (textP (mustP 40 s)).1, []⟩ (mustP 41 (textP (mustP 40 s)).2)
  else if op = 4 then putP ⟨op, 0, (textP (mustP 40 s)).1, (textP (mustP 44 (textP (mustP 40 s)).2)).1⟩ (mustP 41 (textP (mustP 44 (textP (mustP 40 s)).2)).2)
  else if op = 6 ∨ op = 7 ∨ op = 8 then putP ⟨op, ((kidsP g (mustP 40 s)).1 : Nat), [], []⟩ (mustP 41 (kidsP g (mustP 40 s)).2)
  else putP ⟨op, 0, [], []⟩ (failP s)
def beginP (s : Ps) : Ps := ⟨s.rest, s.wrong, s.nodes, s.left - 1⟩
noncomputable def nextP : Nat → Ps → Ps
  | 0, s => failP s
  | f + 1, s => if s.left = 0 then failP s else bodyP (nextP f) (kindV (plainP s.rest)) (cutP (beginP s))

/-! What stays within bounds. -/
/-- What a step keeps: no more bytes, no more nodes than were begun, texts no longer than the bytes; what is wrong stays so. -/
structure StepP (s t : Ps) : Prop where
  rest : t.rest.length ≤ s.rest.length
  count : t.nodes.length + t.left ≤ s.nodes.length + s.left
  left : t.left ≤ s.left
  wrong : s.wrong = true → t.wrong = true
  empty : (s.wrong = true → s.rest = []) → t.wrong = true → t.rest = []
  texts : ∀ N, s.rest.length ≤ N → (∀ n ∈ s.nodes, n.lo.length ≤ N ∧ n.hi.length ≤ N) → ∀ n ∈ t.nodes, n.lo.length ≤ N ∧ n.hi.length ≤ N
theorem StepP.refl (s : Ps) : StepP s s := ⟨Nat.le_refl _, Nat.le_refl _, Nat.le_refl _, id, fun h => h, fun _ _ h => h⟩
theorem StepP.trans {s t u : Ps} (h : StepP s t) (k : StepP t u) : StepP s u :=
  ⟨Nat.le_trans k.rest h.rest, Nat.le_trans k.count h.count, Nat.le_trans k.left h.left, fun e => k.wrong (h.wrong e), fun e f => k.empty (h.empty e) f, fun N a b => k.texts N (Nat.le_trans h.rest a) (h.texts N a b)⟩
theorem fail_step (s : Ps) : StepP s (failP s) := ⟨Nat.zero_le _, Nat.le_refl _, Nat.le_refl _, fun _ => rfl, fun _ _ => rfl, fun _ _ h => h⟩
theorem drop_len (r : List UInt8) : (behindP r).length ≤ r.length := by
  have := congrArg List.length (List.takeWhile_append_dropWhile (p := cleanB) (l := r))
  rw [List.length_append] at this
  unfold behindP; omega
theorem plain_len (r : List UInt8) : (plainP r).length ≤ r.length := by
  have := congrArg List.length (List.takeWhile_append_dropWhile (p := cleanB) (l := r))
  rw [List.length_append] at this
  unfold plainP; omega
theorem plain_behind (r : List UInt8) : plainP r ++ behindP r = r := List.takeWhile_append_dropWhile
theorem cut_step (s : Ps) : StepP s (cutP s) := by
  refine ⟨drop_len _, Nat.le_refl _, Nat.le_refl _, id, fun h e => ?_, fun _ _ h => h⟩
  have := h e
  unfold cutP; simp only; rw [this]; rfl
theorem rest_step {s : Ps} {q : List UInt8} {c : UInt8} (h : s.rest = c :: q) : StepP s ⟨q, s.wrong, s.nodes, s.left⟩ :=
  ⟨by rw [h]; simp, Nat.le_refl _, Nat.le_refl _, id, fun k e => (by have := k e; rw [h] at this; cases this), fun _ _ h => h⟩
theorem must_step (c : UInt8) (s : Ps) : StepP s (mustP c s) := by
  unfold mustP
  split
  · exact fail_step s
  · rename_i d q h
    split
    · exact rest_step h
    · exact fail_step s
theorem word_len {w t : List UInt8} (h : wordP w = some t) : t.length ≤ w.length := by
  have h1 := wordP_back h
  subst h1
  unfold ofV
  split
  · rename_i e; subst e; simp
  · exact (spells_len t).1
theorem text_step (s : Ps) : StepP s (textP s).2 ∧ (textP s).1.length ≤ s.rest.length := by
  unfold textP
  cases e : wordP (plainP s.rest) with
  | none => exact ⟨fail_step s, Nat.zero_le _⟩
  | some t => exact ⟨cut_step s, Nat.le_trans (word_len e) (plain_len _)⟩
theorem put_step {s t : Ps} (h : StepP s t) {n : Nd} (hl : n.lo.length ≤ s.rest.length ∧ n.hi.length ≤ s.rest.length) (hc : t.nodes.length + t.left + 1 ≤ s.nodes.length + s.left) : StepP s (putP n t) :=
  ⟨h.rest, by unfold putP; simp only [List.length_append, List.length_singleton]; omega, h.left, h.wrong, h.empty, fun N a b m hm => by
    rcases List.mem_append.1 hm with hm | hm
    · exact h.texts N a b m hm
    · rw [List.mem_singleton] at hm; subst hm
      exact ⟨Nat.le_trans hl.1 a, Nat.le_trans hl.2 a⟩⟩
theorem loop_step {g : Ps → Ps} {L : Nat} (hg : ∀ s, s.left ≤ L → StepP s (g s)) : ∀ (m : Nat) (s : Ps) (n : Nat), s.left ≤ L → StepP s (loopP g m s n).2
  | 0, s, n, _ => StepP.refl s
  | m + 1, s, n, hL => by
    unfold loopP
    split
    · exact StepP.refl s
    · rename_i d q h
      split
      · have h1 := hg ⟨q, s.wrong, s.nodes, s.left⟩ hL
        exact ((rest_step h).trans h1).trans (loop_step hg m _ (n + 1) (Nat.le_trans h1.left hL))
      · exact StepP.refl s
theorem kids_step {g : Ps → Ps} {L : Nat} (hg : ∀ s, s.left ≤ L → StepP s (g s)) (s : Ps) (hL : s.left ≤ L) : StepP s (kidsP g s).2 := by
  have h1 := hg s hL
  exact h1.trans (loop_step hg _ _ _ (Nat.le_trans h1.left hL))
theorem body_step {g : Ps → Ps} {s : Ps} (hl : 1 ≤ s.left) (hg : ∀ t, t.left ≤ s.left - 1 → StepP t (g t)) (op : Int) : StepP s (bodyP g op (cutP (beginP s))) := by
  have h0 : StepP s (cutP (beginP s)) := by
    have := cut_step (beginP s)
    exact ⟨this.rest, by have := this.count; simp only [beginP] at this ⊢; omega, by have := this.left; simp only [beginP] at this ⊢; omega, this.wrong, this.empty, this.texts⟩
  have hc0 : (cutP (beginP s)).nodes.length + (cutP (beginP s)).left + 1 ≤ s.nodes.length + s.left := by simp only [cutP, beginP]; omega
  have hl0 : (cutP (beginP s)).left = s.left - 1 := rfl
  unfold bodyP
  split
  · exact put_step h0 ⟨Nat.zero_le _, Nat.zero_le _⟩ hc0
  · have hm := must_step 40 (cutP (beginP s))
    obtain ⟨ht, htl⟩ := text_step (mustP 40 (cutP (beginP s)))
    have h1 := hm.trans ht
    split
    · have h2 := h1.trans (must_step 41 _)
      exact put_step (h0.trans h2) ⟨Nat.le_trans htl (Nat.le_trans hm.rest h0.rest), Nat.zero_le _⟩ (by have := h2.count; omega)
    · split
      · have hm2 := h1.trans (must_step 44 _)
        obtain ⟨ht2, htl2⟩ := text_step (mustP 44 (textP (mustP 40 (cutP (beginP s)))).2)
        have h3 := (hm2.trans ht2).trans (must_step 41 _)
        exact put_step (h0.trans h3) ⟨Nat.le_trans htl (Nat.le_trans hm.rest h0.rest), Nat.le_trans htl2 (Nat.le_trans hm2.rest h0.rest)⟩ (by have := h3.count; omega)
      · split
        · have hk := kids_step hg (mustP 40 (cutP (beginP s))) (by have := hm.left; omega)
          have h3 := (hm.trans hk).trans (must_step 41 _)
          exact put_step (h0.trans h3) ⟨Nat.zero_le _, Nat.zero_le _⟩ (by have := h3.count; omega)
        · have h3 := fail_step (cutP (beginP s))
          exact put_step (h0.trans h3) ⟨Nat.zero_le _, Nat.zero_le _⟩ (by have := h3.count; omega)
theorem next_step : ∀ (f : Nat) (s : Ps), s.left ≤ f → StepP s (nextP f s)
  | 0, s, _ => fail_step s
  | f + 1, s, h => by
    unfold nextP
    split
    · exact fail_step s
    · exact body_step (by omega) (fun t ht => next_step f t (by omega)) _

/-! What stood there, if something was read. -/
def restJ (n : Nd) (ks : List (List UInt8)) : List UInt8 :=
  if n.op = 1 ∨ n.op = 2 then [] else if n.op = 3 ∨ n.op = 5 then 40 :: (ofV n.lo ++ [41]) else if n.op = 4 then 40 :: (ofV n.lo ++ 44 :: (ofV n.hi ++ [41])) else 40 :: (joinC ks ++ [41])
/-- Nodes that were read of a text. -/
inductive PT : List Nd → List UInt8 → Prop
  | mk (K : List (List Nd)) (T : List (List UInt8)) (n : Nd) (hl : K.length = T.length) (hK : ∀ (i : Nat) (k : List Nd) (t : List UInt8), K[i]? = some k → T[i]? = some t → PT k t) (hn : n.kids = (K.length : Nat)) : PT (K.flatten ++ [n]) (nameV n.op ++ restJ n T)
theorem pt_full {l : List Nd} {t : List UInt8} (h : PT l t) : (∀ n ∈ l, nodeV n = true) → FullN l ∧ topT l = t := by
  induction h with
  | mk K T n hl hK hn ih =>
    intro hv
    have hF : ∀ p ∈ K, FullN p := fun p hp => by
      obtain ⟨i, hi⟩ := List.getElem?_of_mem hp
      have hiK : i < K.length := (List.getElem?_eq_some_iff.1 hi).1
      exact (ih i p _ hi (List.getElem?_eq_getElem (by omega)) fun m hm => hv m (List.mem_append_left _ (List.mem_flatten.2 ⟨p, hp, hm⟩))).1
    have hT : K.map topT = T := by
      apply List.ext_getElem?
      intro i
      by_cases hi : i < K.length
      · rw [List.getElem?_map, List.getElem?_eq_getElem hi, List.getElem?_eq_getElem (by omega : i < T.length)]
        exact congrArg some (ih i _ _ (List.getElem?_eq_getElem hi) (List.getElem?_eq_getElem (by omega)) fun m hm => hv m (List.mem_append_left _ (List.mem_flatten.2 ⟨_, List.getElem_mem hi, hm⟩))).2
      · rw [List.getElem?_eq_none (by rw [List.length_map]; omega), List.getElem?_eq_none (by omega)]
    have hkn : kidsN n = K.length := by unfold kidsN; rw [hn]; rfl
    have hnv := hv n (List.mem_append_right _ (List.mem_singleton.2 rfl))
    constructor
    · unfold FullN
      rw [depV_append, dep_flat hF]
      exact depV_one.2 ⟨hnv, by omega, by omega⟩
    · unfold topT
      rw [foldG_append, fold_flat hF, foldG_cons textG n [] (K.map topT) (m := 0) (by rw [List.length_map]; omega), List.drop_zero, hT]
      show nameV n.op ++ restV n T = _
      congr 1
      unfold restV restJ
      split
      · rfl
      · split
        · rfl
        · split
          · rfl
          · split
            · rename_i h6
              have h1 := nodeV_not hnv h6
              have : T.length = 1 := by omega
              match T, this with
              | [x], _ => rfl
            · rfl
theorem kind_name {b : List UInt8} : kindV b = 0 ∨ (1 ≤ kindV b ∧ kindV b ≤ 8 ∧ nameV (kindV b) = b) := by
  unfold kindV
  repeat' split
  all_goals first | (exact .inl rfl) | (right; rename_i h; subst h; decide)
theorem name_kind {op : Int} (h : 1 ≤ op ∧ op ≤ 8) : kindV (nameV op) = op := by
  have e1 : op = 1 ∨ op = 2 ∨ op = 3 ∨ op = 4 ∨ op = 5 ∨ op = 6 ∨ op = 7 ∨ op = 8 := by omega
  rcases e1 with rfl | rfl | rfl | rfl | rfl | rfl | rfl | rfl <;> decide
theorem must_back {c : UInt8} {s : Ps} (h : (mustP c s).wrong = false) : s.wrong = false ∧ s.rest = c :: (mustP c s).rest ∧ (mustP c s).nodes = s.nodes := by
  unfold mustP at h ⊢
  split at h
  · cases h
  · rename_i d q e
    split at h
    · rename_i hd
      subst hd
      rw [if_pos rfl]
      exact ⟨h, e, rfl⟩
    · cases h
theorem text_back {s : Ps} (h : (textP s).2.wrong = false) : s.wrong = false ∧ s.rest = ofV (textP s).1 ++ (textP s).2.rest ∧ (textP s).2.nodes = s.nodes := by
  unfold textP at h ⊢
  cases e : wordP (plainP s.rest) with
  | none => rw [e] at h; cases h
  | some t =>
    rw [e] at h
    exact ⟨h, by simp only; rw [wordP_back e]; exact (plain_behind _).symm, rfl⟩
theorem nil_pt : ∀ (i : Nat) (k : List Nd) (t : List UInt8), ([] : List (List Nd))[i]? = some k → ([] : List (List UInt8))[i]? = some t → PT k t := fun i k t hk => by simp at hk
/-- What a reader of a filter says. -/
def SoundP (g : Ps → Ps) : Prop := ∀ s, (g s).wrong = false → s.wrong = false ∧ ∃ l t, PT l t ∧ s.rest = t ++ (g s).rest ∧ (g s).nodes = s.nodes ++ l
theorem loop_sound {g : Ps → Ps} (hg : SoundP g) : ∀ (m : Nat) (s : Ps) (n : Nat), (loopP g m s n).2.wrong = false → s.wrong = false ∧
    ∃ (K : List (List Nd)) (T : List (List UInt8)), K.length = T.length ∧ (∀ (i : Nat) (k : List Nd) (t : List UInt8), K[i]? = some k → T[i]? = some t → PT k t) ∧ (loopP g m s n).1 = n + K.length ∧ (loopP g m s n).2.nodes = s.nodes ++ K.flatten ∧
      s.rest = (T.map fun t => 44 :: t).flatten ++ (loopP g m s n).2.rest
  | 0, s, n, h => ⟨h, [], [], rfl, nil_pt, rfl, by simp [loopP], rfl⟩
  | m + 1, s, n, h => by
    unfold loopP at h ⊢
    split at h
    · exact ⟨h, [], [], rfl, nil_pt, rfl, by simp, rfl⟩
    · rename_i d q e
      split at h
      · rename_i hd
        subst hd
        obtain ⟨h1, K, T, h2, h3, h4, h5, h6⟩ := loop_sound hg m _ (n + 1) h
        obtain ⟨h7, l, t, h8, h9, h10⟩ := hg _ h1
        rw [if_pos rfl]
        refine ⟨h7, l :: K, t :: T, by simp [h2], fun i k u hk hu => ?_, by rw [h4]; simp; omega, by rw [h5, h10]; simp, ?_⟩
        · cases i with
          | zero => simp at hk hu; subst hk; subst hu; exact h8
          | succ i => exact h3 i k u (by simpa using hk) (by simpa using hu)
        · rw [e]
          exact (congrArg (44 :: ·) (h9.trans (congrArg (t ++ ·) h6))).trans (by simp)
      · rename_i hd
        rw [if_neg hd]
        exact ⟨h, [], [], rfl, nil_pt, rfl, by simp, rfl⟩
theorem join_commas (t : List UInt8) : ∀ (T : List (List UInt8)), joinC (t :: T) = t ++ (T.map fun t => 44 :: t).flatten
  | [] => by simp [joinC]
  | u :: T => by rw [joinC_cons (by simp), join_commas u T]; simp
theorem kids_sound {g : Ps → Ps} (hg : SoundP g) (s : Ps) (h : (kidsP g s).2.wrong = false) : s.wrong = false ∧
    ∃ (K : List (List Nd)) (T : List (List UInt8)), K.length = T.length ∧ (∀ (i : Nat) (k : List Nd) (t : List UInt8), K[i]? = some k → T[i]? = some t → PT k t) ∧ (kidsP g s).1 = K.length ∧ (kidsP g s).2.nodes = s.nodes ++ K.flatten ∧ s.rest = joinC T ++ (kidsP g s).2.rest := by
  unfold kidsP at h ⊢
  obtain ⟨h1, K, T, h2, h3, h4, h5, h6⟩ := loop_sound hg _ _ _ h
  obtain ⟨h7, l, t, h8, h9, h10⟩ := hg _ h1
  refine ⟨h7, l :: K, t :: T, by simp [h2], fun i k u hk hu => ?_, by rw [h4]; simp; omega, by rw [h5, h10]; simp, ?_⟩
  · cases i with
    | zero => simp at hk hu; subst hk; subst hu; exact h8
    | succ i => exact h3 i k u (by simpa using hk) (by simpa using hu)
  · rw [join_commas, List.append_assoc, ← h6]
    exact h9
theorem pt_leaf {n : Nd} (hn : n.kids = 0) : PT [n] (nameV n.op ++ restJ n []) := PT.mk [] [] n rfl nil_pt hn
theorem body_sound {g : Ps → Ps} (hg : SoundP g) (s : Ps) (h : (bodyP g (kindV (plainP s.rest)) (cutP (beginP s))).wrong = false) :
    s.wrong = false ∧ ∃ l t, PT l t ∧ s.rest = t ++ (bodyP g (kindV (plainP s.rest)) (cutP (beginP s))).rest ∧ (bodyP g (kindV (plainP s.rest)) (cutP (beginP s))).nodes = s.nodes ++ l := by
  have hr : s.rest = plainP s.rest ++ (cutP (beginP s)).rest := (plain_behind s.rest).symm
  rcases kind_name (b := plainP s.rest) with hk | ⟨hk1, hk2, hk3⟩
  · rw [hk] at h
    unfold bodyP at h
    simp [putP, failP] at h
  · obtain ⟨op, ho⟩ : ∃ op, kindV (plainP s.rest) = op := ⟨_, rfl⟩
    rw [ho] at h hk1 hk2 hk3 ⊢
    rw [← hk3] at hr
    by_cases h1 : op = 1 ∨ op = 2
    · unfold bodyP at h ⊢
      rw [if_pos h1] at h ⊢
      refine ⟨h, _, _, pt_leaf (n := ⟨op, 0, [], []⟩) rfl, ?_, rfl⟩
      unfold restJ
      rw [if_pos h1, List.append_nil]
      exact hr
    · by_cases h2 : op = 3 ∨ op = 5
      · unfold bodyP at h ⊢
        rw [if_neg h1, if_pos h2] at h ⊢
        obtain ⟨a1, a2, a3⟩ := must_back (show (mustP 41 (textP (mustP 40 (cutP (beginP s)))).2).wrong = false from h)
        obtain ⟨b1, b2, b3⟩ := text_back a1
        obtain ⟨c1, c2, c3⟩ := must_back b1
        refine ⟨c1, _, _, pt_leaf (n := ⟨op, 0, (textP (mustP 40 (cutP (beginP s)))).1, []⟩) rfl, ?_, ?_⟩
        · unfold restJ
          rw [if_neg h1, if_pos h2]
          refine hr.trans ?_
          rw [c2, b2, a2]
          simp [putP]
        · show (mustP 41 _).nodes ++ _ = _
          rw [a3, b3, c3]
          rfl
      · by_cases h3 : op = 4
        · unfold bodyP at h ⊢
          rw [if_neg h1, if_neg h2, if_pos h3] at h ⊢
          obtain ⟨a1, a2, a3⟩ := must_back (show (mustP 41 (textP (mustP 44 (textP (mustP 40 (cutP (beginP s)))).2)).2).wrong = false from h)
          obtain ⟨b1, b2, b3⟩ := text_back a1
          obtain ⟨c1, c2, c3⟩ := must_back b1
          obtain ⟨d1, d2, d3⟩ := text_back c1
          obtain ⟨e1, e2, e3⟩ := must_back d1
          refine ⟨e1, _, _, pt_leaf (n := ⟨op, 0, (textP (mustP 40 (cutP (beginP s)))).1, (textP (mustP 44 (textP (mustP 40 (cutP (beginP s)))).2)).1⟩) rfl, ?_, ?_⟩
          · unfold restJ
            rw [if_neg h1, if_neg h2, if_pos h3]
            refine hr.trans ?_
            rw [e2, d2, c2, b2, a2]
            simp [putP]
          · show (mustP 41 _).nodes ++ _ = _
            rw [a3, b3, c3, d3, e3]
            rfl
        · have h4 : op = 6 ∨ op = 7 ∨ op = 8 := by omega
          unfold bodyP at h ⊢
          rw [if_neg h1, if_neg h2, if_neg h3, if_pos h4] at h ⊢
          obtain ⟨a1, a2, a3⟩ := must_back (show (mustP 41 (kidsP g (mustP 40 (cutP (beginP s)))).2).wrong = false from h)
          obtain ⟨b1, K, T, b2, b3, b4, b5, b6⟩ := kids_sound hg _ a1
          obtain ⟨c1, c2, c3⟩ := must_back b1
          refine ⟨c1, _, _, PT.mk K T ⟨op, ((kidsP g (mustP 40 (cutP (beginP s)))).1 : Nat), [], []⟩ b2 b3 (by simp only; rw [b4]), ?_, ?_⟩
          · unfold restJ
            rw [if_neg h1, if_neg h2, if_neg h3]
            refine hr.trans ?_
            rw [c2, b6, a2]
            simp [putP]
          · show (mustP 41 _).nodes ++ _ = _
            rw [a3, b5, c3]
            simp [cutP, beginP]
theorem next_sound : ∀ f, SoundP (nextP f)
  | 0, s, h => by cases h
  | f + 1, s, h => by
    unfold nextP at h ⊢
    split at h
    · cases h
    · rename_i hl
      rw [if_neg hl]
      exact body_sound (next_sound f) s h

/-! What is read of a filter's text. -/
theorem plain_of {a r : List UInt8} (ha : ∀ c ∈ a, cleanB c = true) (hr : EndB r) : plainP (a ++ r) = a ∧ behindP (a ++ r) = r := by
  refine (clean_cut (fun c hc => ?_) ha (fun c q e => ?_) hr (plain_behind (a ++ r)))
  · exact List.all_eq_true.1 List.all_takeWhile c hc
  · have h1 : (behindP (a ++ r)).head? = some c := by rw [e]; rfl
    unfold behindP at h1
    have := List.head?_dropWhile_not cleanB (a ++ r)
    rw [h1] at this
    simpa using this
theorem must_of {c : UInt8} {s : Ps} {q : List UInt8} (h : s.rest = c :: q) : mustP c s = ⟨q, s.wrong, s.nodes, s.left⟩ := by
  unfold mustP; rw [h]; simp
theorem text_of {s : Ps} {t r : List UInt8} (h : s.rest = ofV t ++ r) (hr : EndB r) : textP s = (t, ⟨r, s.wrong, s.nodes, s.left⟩) := by
  obtain ⟨h1, h2⟩ := plain_of (ofV_clean t) hr
  unfold textP
  rw [h, h1, wordP_some rfl]
  simp only [cutP]
  rw [h, h2]
/-- What a reader of a filter reads. -/
def ReadsP (g : Ps → Ps) (L : Nat) : Prop := ∀ (l : List Nd) (s : Ps) (r : List UInt8), FullN l → l.length ≤ s.left → s.left ≤ L → s.rest = topT l ++ r → EndB r → g s = ⟨r, s.wrong, s.nodes ++ l, s.left - l.length⟩
theorem loop_reads {g : Ps → Ps} {L : Nat} (hg : ReadsP g L) : ∀ (K : List (List Nd)) (m : Nat) (s : Ps) (n : Nat) (r : List UInt8), (∀ k ∈ K, FullN k) → K.flatten.length ≤ s.left → s.left ≤ L → s.rest = (K.map fun k => 44 :: topT k).flatten ++ r → EndB r → r.head? ≠ some 44 → s.rest.length ≤ m →
    loopP g m s n = (n + K.length, ⟨r, s.wrong, s.nodes ++ K.flatten, s.left - K.flatten.length⟩)
  | [], m, s, n, r, _, _, _, hs, _, h44, _ => by
    have hs' : s.rest = r := hs
    have e : (⟨r, s.wrong, s.nodes ++ ([] : List (List Nd)).flatten, s.left - ([] : List (List Nd)).flatten.length⟩ : Ps) = s := by cases s; simp at hs' ⊢; exact hs'.symm
    rw [e]
    cases m with
    | zero => rfl
    | succ m =>
      unfold loopP
      split
      · rfl
      · rename_i d q e2
        rw [if_neg (fun hd => h44 (by rw [← hs', e2, hd]; rfl))]
        rfl
  | k :: K, m, s, n, r, hK, hl, hL, hs, hr, h44, hm => by
    have hs' : s.rest = 44 :: (topT k ++ ((K.map fun k => 44 :: topT k).flatten ++ r)) := by rw [hs]; simp
    cases m with
    | zero => rw [hs'] at hm; simp at hm
    | succ m =>
      rw [List.flatten_cons, List.length_append] at hl
      have hend : EndB ((K.map fun k => 44 :: topT k).flatten ++ r) := by
        cases K with
        | nil => exact hr
        | cons k2 K => exact endB_cons (c := 44) rfl
      have h1 := hg k ⟨topT k ++ ((K.map fun k => 44 :: topT k).flatten ++ r), s.wrong, s.nodes, s.left⟩ _ (hK k (List.mem_cons_self ..)) (by simp only; omega) hL rfl hend
      unfold loopP
      split
      · rename_i e; rw [hs'] at e; cases e
      · rename_i d q e
        rw [hs'] at e
        injection e with e1 e2
        subst e1; subst e2
        rw [if_pos rfl, h1]
        have h2 := loop_reads hg K m ⟨(K.map fun k => 44 :: topT k).flatten ++ r, s.wrong, s.nodes ++ k, s.left - k.length⟩ (n + 1) r (fun x hx => hK x (List.mem_cons_of_mem _ hx)) (by simp only; omega) (by simp only; omega) rfl hr h44 (by rw [hs'] at hm; simp at hm ⊢; omega)
        rw [h2]
        simp only [List.length_cons, List.flatten_cons, List.length_append, List.append_assoc, Prod.mk.injEq, Ps.mk.injEq, true_and]
        omega
theorem join_map (k : List Nd) (K : List (List Nd)) : joinC ((k :: K).map topT) = topT k ++ (K.map fun k => 44 :: topT k).flatten := by
  rw [List.map_cons, join_commas, List.map_map]; rfl
theorem kids_reads {g : Ps → Ps} {L : Nat} (hg : ReadsP g L) (K : List (List Nd)) (s : Ps) (r : List UInt8) (hne : K ≠ []) (hK : ∀ k ∈ K, FullN k) (hl : K.flatten.length ≤ s.left) (hL : s.left ≤ L) (hs : s.rest = joinC (K.map topT) ++ r) (hr : EndB r) (h44 : r.head? ≠ some 44) :
    kidsP g s = (K.length, ⟨r, s.wrong, s.nodes ++ K.flatten, s.left - K.flatten.length⟩) := by
  cases K with
  | nil => exact absurd rfl hne
  | cons k K =>
    rw [join_map, List.append_assoc] at hs
    rw [List.flatten_cons, List.length_append] at hl
    have hend : EndB ((K.map fun k => 44 :: topT k).flatten ++ r) := by
      cases K with
      | nil => exact hr
      | cons k2 K => exact endB_cons (c := 44) rfl
    have h1 := hg k s _ (hK k (List.mem_cons_self ..)) (by omega) hL hs hend
    unfold kidsP
    rw [h1]
    have h2 := loop_reads hg K ((K.map fun k => 44 :: topT k).flatten ++ r).length ⟨(K.map fun k => 44 :: topT k).flatten ++ r, s.wrong, s.nodes ++ k, s.left - k.length⟩ 1 r (fun x hx => hK x (List.mem_cons_of_mem _ hx)) (by simp only; omega) (by simp only; omega) rfl hr h44 (Nat.le_refl _)
    rw [h2]
    simp only [List.length_cons, List.flatten_cons, List.length_append, List.append_assoc, Prod.mk.injEq, Ps.mk.injEq, true_and]
    omega
theorem next_reads : ∀ f, ReadsP (nextP f) f
  | 0, l, s, r, hl, h1, h2, _, _ => by
    have : l = [] := List.length_eq_zero_iff.1 (by omega)
    subst this
    cases hl
  | f + 1, l, s, r, hl, h1, h2, hs, hr => by
    obtain ⟨K, n, rfl, hn, hK, hKf, hT⟩ := full_cases hl
    have hlen : (K.flatten ++ [n]).length = K.flatten.length + 1 := by simp
    rw [hlen] at h1
    obtain ⟨ho1, ho2⟩ := nodeV_op hn
    have hs' : s.rest = nameV n.op ++ (restV n (K.map topT) ++ r) := by rw [hs, hT, textG, List.append_assoc]
    obtain ⟨hp, hb⟩ := plain_of (nameV_clean n.op) (restV_end n (K.map topT) hr)
    rw [← hs'] at hp hb
    unfold nextP
    rw [if_neg (by omega), hp, name_kind ⟨ho1, ho2⟩]
    have hc : cutP (beginP s) = ⟨restV n (K.map topT) ++ r, s.wrong, s.nodes, s.left - 1⟩ := by unfold cutP beginP; simp only; rw [hb]
    rw [hc]
    have hleaf : n.op ≠ 6 → n.op ≠ 7 → n.op ≠ 8 → n.kids = 0 ∧ K = [] := fun h6 h7 h8 => by
      have : n.kids = 0 := by
        unfold nodeV at hn
        split at hn
        · simp only [Bool.and_eq_true, decide_eq_true_eq] at hn; exact hn.1
        · split at hn
          · simp only [Bool.and_eq_true, decide_eq_true_eq] at hn; exact hn.1
          · split at hn
            · simp only [Bool.and_eq_true, decide_eq_true_eq] at hn; exact hn.1
            · split at hn
              · simp only [Bool.and_eq_true, decide_eq_true_eq] at hn; exact hn.1
              · simp only [Bool.and_eq_true, Bool.or_eq_true, decide_eq_true_eq] at hn
                rcases hn.2 with h | h <;> omega
      exact ⟨this, List.length_eq_zero_iff.1 (by rw [hK]; unfold kidsN; rw [this]; rfl)⟩
    by_cases c1 : n.op = 1 ∨ n.op = 2
    · obtain ⟨hk0, rfl⟩ := hleaf (by omega) (by omega) (by omega)
      have he : n.lo = [] ∧ n.hi = [] := by
        unfold nodeV at hn
        rw [if_pos c1] at hn
        simpa [hk0] using hn
      unfold bodyP
      rw [if_pos c1]
      unfold restV putP
      simp only [if_pos c1, List.nil_append, List.flatten_nil, List.length_cons, List.length_nil, Ps.mk.injEq, List.append_cancel_left_eq, List.cons.injEq, and_true, true_and]
      exact nd_ext rfl hk0.symm he.1.symm he.2.symm
    · by_cases c2 : n.op = 3 ∨ n.op = 5
      · obtain ⟨hk0, rfl⟩ := hleaf (by omega) (by omega) (by omega)
        have he : n.hi = [] := by
          unfold nodeV at hn
          rw [if_neg c1] at hn
          rcases c2 with c2 | c2
          · rw [if_pos c2] at hn
            simp [hk0] at hn
            exact hn.2
          · rw [if_neg (by omega), if_neg (by omega), if_pos c2] at hn
            simp [hk0] at hn
            exact hn.2
        unfold bodyP
        rw [if_neg c1, if_pos c2]
        have e1 : restV n (([] : List (List Nd)).map topT) ++ r = 40 :: (ofV n.lo ++ 41 :: r) := by unfold restV; rw [if_neg c1, if_pos c2]; simp
        rw [e1, must_of rfl, text_of rfl (endB_cons (c := 41) rfl), must_of rfl]
        unfold putP
        simp only [List.nil_append, List.flatten_nil, List.length_cons, List.length_nil, Ps.mk.injEq, List.append_cancel_left_eq, List.cons.injEq, and_true, true_and]
        exact nd_ext rfl hk0.symm rfl he.symm
      · by_cases c3 : n.op = 4
        · obtain ⟨hk0, rfl⟩ := hleaf (by omega) (by omega) (by omega)
          unfold bodyP
          rw [if_neg c1, if_neg c2, if_pos c3]
          have e1 : restV n (([] : List (List Nd)).map topT) ++ r = 40 :: (ofV n.lo ++ 44 :: (ofV n.hi ++ 41 :: r)) := by unfold restV; rw [if_neg c1, if_neg c2, if_pos c3]; simp
          rw [e1, must_of rfl, text_of rfl (endB_cons (c := 44) rfl), must_of rfl, text_of rfl (endB_cons (c := 41) rfl), must_of rfl]
          unfold putP
          simp only [List.nil_append, List.flatten_nil, List.length_cons, List.length_nil, Ps.mk.injEq, List.append_cancel_left_eq, List.cons.injEq, and_true, true_and]
          exact nd_ext rfl hk0.symm rfl rfl
        · have c4 : n.op = 6 ∨ n.op = 7 ∨ n.op = 8 := by omega
          have hkn : 1 ≤ kidsN n := by
            rcases c4 with h | h
            · rw [nodeV_not hn h]; exact Nat.le_refl _
            · exact nodeV_some hn h
          have hne : K ≠ [] := fun e => by rw [e] at hK; simp at hK; omega
          have he : n.lo = [] ∧ n.hi = [] := by
            unfold nodeV at hn
            rw [if_neg c1, if_neg (by omega), if_neg c3, if_neg (by omega)] at hn
            simp only [Bool.and_eq_true, List.isEmpty_iff] at hn
            exact hn.1
          have hkk : n.kids = (K.length : Nat) := by
            have := nodeV_kids hn
            rw [hK]; unfold kidsN; omega
          have e1 : restV n (K.map topT) ++ r = 40 :: (joinC (K.map topT) ++ 41 :: r) := by
            unfold restV
            rw [if_neg c1, if_neg c2, if_neg c3]
            split
            · rename_i h6
              have : K.length = 1 := by rw [hK, nodeV_not hn h6]
              match K, this with
              | [k], _ => simp [joinC]
            · simp
          unfold bodyP
          rw [if_neg c1, if_neg c2, if_neg c3, if_pos c4, e1, must_of rfl]
          rw [kids_reads (next_reads f) K _ (41 :: r) hne hKf (by simp only; omega) (by simp only; omega) rfl (endB_cons (c := 41) rfl) (by simp), must_of rfl]
          unfold putP
          have e2 : (⟨n.op, ((K.length : Nat) : Int), [], []⟩ : Nd) = n := nd_ext rfl hkk.symm he.1.symm he.2.symm
          rw [e2]
          simp only [hlen, List.append_assoc, Ps.mk.injEq, true_and]
          omega
/-- What is parsed of a text. -/
theorem parse_yes {s : List UInt8} {l : List Nd} (h : parseV s = some l) : nextP 32 ⟨s, false, [], 32⟩ = ⟨[], false, l, 32 - l.length⟩ := by
  obtain ⟨h1, h2⟩ := parse_back h
  have := next_reads 32 l ⟨s, false, [], 32⟩ [] (rightN_full h1) (rightN_iff.1 h1).2.1 (Nat.le_refl _) (by simp only; rw [h2, List.append_nil]) endB_nil
  simpa using this
theorem parse_no {s : List UInt8} (h : parseV s = none) : (nextP 32 ⟨s, false, [], 32⟩).rest = [] → (nextP 32 ⟨s, false, [], 32⟩).wrong = false → rightN (nextP 32 ⟨s, false, [], 32⟩).nodes = false := fun h1 h2 => by
  obtain ⟨-, l, t, h3, h4, h5⟩ := next_sound 32 _ h2
  rw [h1, List.append_nil] at h4
  rw [List.nil_append] at h5
  cases hr : rightN (nextP 32 ⟨s, false, [], 32⟩).nodes with
  | false => rfl
  | true =>
    rw [h5] at hr
    exact absurd ((pt_full h3 (dep_valid (rightN_full hr))).2.trans h4.symm) (parse_none h l hr)
end Go.Proofs.YthgcbomidamcfaaDoor

/-
  The shelf's contracts at this program, in plain words (made by wip/tools/shelf.py).
-/
namespace Go.Proofs
open Go.Shelf
def Tryd.lays119_ren : Go.Shelf.Ren := ⟨fun | 119 => 60 | n => n, fun | 21 => 21 | 4 => 4 | n => n, fun | n => n⟩
theorem Tryd.lays119 : Go.Proofs.Lays.n119 Tryd.prog Tryd.lays119_ren := {
  mixed := by kernel_rfl
  f119 := Tryd.func60.trans (congrArg some (by kernel_rfl))
  t4 := Tryd.underlying4
  a4 := Tryd.isAgg4
  z4 := Tryd.sizeOf4
  v4 := Tryd.zeroValue4
  t21 := Tryd.underlying21
  a21 := Tryd.isAgg21
  z21 := Tryd.sizeOf21
  v21 := Tryd.zeroValue21 }
theorem Tryd.utf8_ValidRune (r : Int) (w : World) :
    Calls Tryd.prog 60 #[.int .i32 r] w fun e w' => e = .returned (.bool (Lib.validRune r)) ∧ w' = w := Any.utf8_ValidRune Tryd.lays119 r w
def Tryd.lays103_ren : Go.Shelf.Ren := ⟨fun | 103 => 53 | 210 => 63 | 206 => 67 | n => n, fun | 9 => 9 | 4 => 4 | 24 => 71 | 3 => 3 | n => n, fun | n => n⟩
theorem Tryd.lays103 : Go.Proofs.Lays.n103 Tryd.prog Tryd.lays103_ren := {
  mixed := by kernel_rfl
  f103 := Tryd.func53.trans (congrArg some (by kernel_rfl))
  f206 := Tryd.func67.trans (congrArg some (by kernel_rfl))
  f210 := Tryd.func63.trans (congrArg some (by kernel_rfl))
  t3 := Tryd.underlying3
  a3 := Tryd.isAgg3
  z3 := Tryd.sizeOf3
  v3 := Tryd.zeroValue3
  t4 := Tryd.underlying4
  a4 := Tryd.isAgg4
  z4 := Tryd.sizeOf4
  v4 := Tryd.zeroValue4
  t9 := Tryd.underlying9
  a9 := Tryd.isAgg9
  z9 := Tryd.sizeOf9
  v9 := Tryd.zeroValue9
  t24 := Tryd.underlying71
  a24 := Tryd.isAgg71
  z24 := Tryd.sizeOf71
  v24 := Tryd.zeroValue71 }
open Go.RowKit in
theorem Tryd.strings_CutPrefix (s p : ByteArray) (w : World) :
    Calls Tryd.prog 53 #[.string s, .string p] w fun e w' => e = .returned (.tuple #[.string ⟨(Lib.trimPrefix s.data.toList p.data.toList).toArray⟩, .bool (Lib.hasPrefix s.data.toList p.data.toList)]) ∧ w' = w := Any.strings_CutPrefix Tryd.lays103 s p w
def Tryd.lays152_ren : Go.Shelf.Ren := ⟨fun | 152 => 49 | 137 => 59 | 119 => 60 | 224 => 61 | 225 => 62 | 217 => 66 | 266 => 69 | n => n, fun | 9 => 9 | 21 => 21 | 3 => 3 | 4 => 4 | 5 => 5 | 0 => 0 | 46 => 67 | n => n, fun | n => n⟩
theorem Tryd.lays152 : Go.Proofs.Lays.n152 Tryd.prog Tryd.lays152_ren := {
  mixed := by kernel_rfl
  f119 := Tryd.func60.trans (congrArg some (by kernel_rfl))
  f137 := Tryd.func59.trans (congrArg some (by kernel_rfl))
  f152 := Tryd.func49.trans (congrArg some (by kernel_rfl))
  f217 := Tryd.func66.trans (congrArg some (by kernel_rfl))
  f224 := Tryd.func61.trans (congrArg some (by kernel_rfl))
  f225 := Tryd.func62.trans (congrArg some (by kernel_rfl))
  f266 := Tryd.func69.trans (congrArg some (by kernel_rfl))
  t0 := Tryd.underlying0
  a0 := Tryd.isAgg0
  z0 := Tryd.sizeOf0
  v0 := Tryd.zeroValue0
  t3 := Tryd.underlying3
  a3 := Tryd.isAgg3
  z3 := Tryd.sizeOf3
  v3 := Tryd.zeroValue3
  t4 := Tryd.underlying4
  a4 := Tryd.isAgg4
  z4 := Tryd.sizeOf4
  v4 := Tryd.zeroValue4
  t5 := Tryd.underlying5
  a5 := Tryd.isAgg5
  z5 := Tryd.sizeOf5
  v5 := Tryd.zeroValue5
  t9 := Tryd.underlying9
  a9 := Tryd.isAgg9
  z9 := Tryd.sizeOf9
  v9 := Tryd.zeroValue9
  t21 := Tryd.underlying21
  a21 := Tryd.isAgg21
  z21 := Tryd.sizeOf21
  v21 := Tryd.zeroValue21
  t46 := Tryd.underlying67
  a46 := Tryd.isAgg67
  z46 := Tryd.sizeOf67
  v46 := Tryd.zeroValue67 }
open Go.RowKit Go.Lib in
theorem Tryd.strings_IndexRune_ascii (s : ByteArray) (r : Int) (w : World) (h0 : 0 ≤ r) (h1 : r < 128) :
    Calls Tryd.prog 49 #[.string s, .int .i32 r] w fun e w' => e = .returned (.int .i64 (Lib.indexByte s.data.toList r.toNat.toUInt8)) ∧ w' = w := Any.strings_IndexRune_ascii Tryd.lays152 s r w h0 h1
def Tryd.lays153_ren : Go.Shelf.Ren := ⟨fun | 153 => 37 | 152 => 49 | 226 => 50 | 227 => 51 | 228 => 52 | 137 => 59 | 119 => 60 | 224 => 61 | 225 => 62 | 217 => 66 | 266 => 69 | n => n, fun | 9 => 9 | 3 => 3 | 4 => 4 | 5 => 5 | 21 => 21 | 117 => 82 | 116 => 81 | 0 => 0 | 46 => 67 | 124 => 93 | n => n, fun | n => n⟩
theorem Tryd.lays153 : Go.Proofs.Lays.n153 Tryd.prog Tryd.lays153_ren := {
  mixed := by kernel_rfl
  f119 := Tryd.func60.trans (congrArg some (by kernel_rfl))
  f137 := Tryd.func59.trans (congrArg some (by kernel_rfl))
  f152 := Tryd.func49.trans (congrArg some (by kernel_rfl))
  f153 := Tryd.func37.trans (congrArg some (by kernel_rfl))
  f217 := Tryd.func66.trans (congrArg some (by kernel_rfl))
  f224 := Tryd.func61.trans (congrArg some (by kernel_rfl))
  f225 := Tryd.func62.trans (congrArg some (by kernel_rfl))
  f226 := Tryd.func50.trans (congrArg some (by kernel_rfl))
  f227 := Tryd.func51.trans (congrArg some (by kernel_rfl))
  f228 := Tryd.func52.trans (congrArg some (by kernel_rfl))
  f266 := Tryd.func69.trans (congrArg some (by kernel_rfl))
  t0 := Tryd.underlying0
  a0 := Tryd.isAgg0
  z0 := Tryd.sizeOf0
  v0 := Tryd.zeroValue0
  t3 := Tryd.underlying3
  a3 := Tryd.isAgg3
  z3 := Tryd.sizeOf3
  v3 := Tryd.zeroValue3
  t4 := Tryd.underlying4
  a4 := Tryd.isAgg4
  z4 := Tryd.sizeOf4
  v4 := Tryd.zeroValue4
  t5 := Tryd.underlying5
  a5 := Tryd.isAgg5
  z5 := Tryd.sizeOf5
  v5 := Tryd.zeroValue5
  t9 := Tryd.underlying9
  a9 := Tryd.isAgg9
  z9 := Tryd.sizeOf9
  v9 := Tryd.zeroValue9
  t21 := Tryd.underlying21
  a21 := Tryd.isAgg21
  z21 := Tryd.sizeOf21
  v21 := Tryd.zeroValue21
  t46 := Tryd.underlying67
  a46 := Tryd.isAgg67
  z46 := Tryd.sizeOf67
  v46 := Tryd.zeroValue67
  t116 := Tryd.underlying81
  a116 := Tryd.isAgg81
  z116 := Tryd.sizeOf81
  t117 := Tryd.underlying82
  a117 := Tryd.isAgg82
  z117 := Tryd.sizeOf82
  v117 := Tryd.zeroValue82
  t124 := Tryd.underlying93
  a124 := Tryd.isAgg93
  z124 := Tryd.sizeOf93
  v124 := Tryd.zeroValue93 }
def Tryd.lays228_ren : Go.Shelf.Ren := ⟨fun | 228 => 52 | n => n, fun | 124 => 93 | 5 => 5 | 4 => 4 | 0 => 0 | 116 => 81 | n => n, fun | n => n⟩
theorem Tryd.lays228 : Go.Proofs.Lays.n228 Tryd.prog Tryd.lays228_ren := {
  mixed := by kernel_rfl
  f228 := Tryd.func52.trans (congrArg some (by kernel_rfl))
  t0 := Tryd.underlying0
  a0 := Tryd.isAgg0
  z0 := Tryd.sizeOf0
  v0 := Tryd.zeroValue0
  t4 := Tryd.underlying4
  a4 := Tryd.isAgg4
  z4 := Tryd.sizeOf4
  v4 := Tryd.zeroValue4
  t5 := Tryd.underlying5
  a5 := Tryd.isAgg5
  z5 := Tryd.sizeOf5
  v5 := Tryd.zeroValue5
  t116 := Tryd.underlying81
  a116 := Tryd.isAgg81
  z116 := Tryd.sizeOf81
  t124 := Tryd.underlying93
  a124 := Tryd.isAgg93
  z124 := Tryd.sizeOf93
  v124 := Tryd.zeroValue93 }
open Go.RowKit Go.Lib in
theorem Tryd.strings_IndexAny_long (hv116 : ∀ w, (zeroValue 81).run Tryd.prog w = .ok (.agg (Array.replicate 256 (.bool false))) w) (s chars : ByteArray) (w : World) (h2 : 2 ≤ chars.size) (h8 : 8 < s.size) (hs : s.size < 4294967281) (hcs : chars.size < 4294967281) (hascii : ∀ (j : Nat) b, chars.data.toList[j]? = some b → b.toNat < 128) :
    Calls Tryd.prog 37 #[.string s, .string chars] w fun e w' => e = .returned (.int .i64 (Lib.indexAny s.data.toList chars.data.toList)) ∧ w' = ((w.alloc (.cells (Lib.setCells chars.data.toList) 81)).alloc (.cells (Lib.setCells chars.data.toList) 81)) := Any.strings_IndexAny_long Tryd.lays153 hv116 (by kernel_rfl) s chars w h2 h8 hs hcs hascii
end Go.Proofs

/-
  Plain facts on how right lists are made (layer 8): ranges in the order of their beginnings, merged; the edges of two lists, swept together. No program in this text.
-/
namespace Go.Proofs.YthgcbomidamcfaaDoor

/-! Ranges in the order of their beginnings, merged. -/
def mergeL : Option Rng → List Rng → List Rng
  | none, [] => []
  | some p, [] => [p]
  | none, r :: l => mergeL (some r) l
  | some p, r :: l => match gapR p r with
    | true => p :: mergeL (some r) l
    | false => match endLt p r with
      | true => mergeL (some ⟨p.lo, r.hi, r.op⟩) l
      | false => mergeL (some p) l
theorem mergeL_gap {p r : Rng} {l : List Rng} (h : gapR p r = true) : mergeL (some p) (r :: l) = p :: mergeL (some r) l := by rw [mergeL, h]
theorem mergeL_more {p r : Rng} {l : List Rng} (h : gapR p r = false) (h' : endLt p r = true) : mergeL (some p) (r :: l) = mergeL (some ⟨p.lo, r.hi, r.op⟩) l := by rw [mergeL, h, h']
theorem mergeL_in {p r : Rng} {l : List Rng} (h : gapR p r = false) (h' : endLt p r = false) : mergeL (some p) (r :: l) = mergeL (some p) l := by rw [mergeL, h, h']
/-- Ranges, each of which begins not behind those behind it. -/
def SortedL (l : List Rng) : Prop := l.Pairwise fun a b => ltB b.lo a.lo = false
theorem gapR_false {p r : Rng} (h : gapR p r = false) : p.op = true ∨ (p.op = false ∧ ltB p.hi r.lo = false) := by
  unfold gapR at h
  cases ho : p.op with
  | true => exact .inl rfl
  | false => rw [ho] at h; exact .inr ⟨rfl, h⟩
theorem endLt_true {p r : Rng} (h : endLt p r = true) : p.op = false ∧ (r.op = true ∨ (r.op = false ∧ ltB p.hi r.hi = true)) := by
  unfold endLt at h
  cases ho : p.op <;> cases hr : r.op <;> rw [ho, hr] at h
  · exact ⟨rfl, .inr ⟨rfl, h⟩⟩
  · exact ⟨rfl, .inl rfl⟩
  · cases h
  · cases h
theorem endLt_false {p r : Rng} (h : endLt p r = false) : p.op = true ∨ (p.op = false ∧ r.op = false ∧ ltB p.hi r.hi = false) := by
  unfold endLt at h
  cases ho : p.op <;> cases hr : r.op <;> rw [ho, hr] at h
  · exact .inr ⟨rfl, rfl, h⟩
  · cases h
  · exact .inl rfl
  · exact .inl rfl
theorem hasR_eq {r : Rng} (h : rightR r = true) (s : List UInt8) : hasR r s = (!ltB s r.lo && (r.op || ltB s r.hi)) := by unfold hasR aheadR; rw [h, Bool.true_and]
theorem more_right {p r : Rng} (hp : rightR p = true) (hr : rightR r = true) (h : ltB r.lo p.lo = false) : rightR ⟨p.lo, r.hi, r.op⟩ = true :=
  rightR_iff.2 ⟨(show p.lo.length ≤ 17 from rightR_lo hp), (show r.hi.length ≤ 17 from rightR_hi hr), (show r.op = true → r.hi = [] from rightR_op hr), (show r.op = false → ltB p.lo r.hi = true from fun ho => ltB_of_le_of_lt h (rightR_lt hr ho))⟩
theorem more_has {p r : Rng} (hp : rightR p = true) (hr : rightR r = true) (h : ltB r.lo p.lo = false) (hg : gapR p r = false) (he : endLt p r = true) (s : List UInt8) : hasR ⟨p.lo, r.hi, r.op⟩ s = (hasR p s || hasR r s) := by
  rw [hasR_eq (more_right hp hr h), hasR_eq hp, hasR_eq hr]
  obtain ⟨ho, he⟩ := endLt_true he
  rcases gapR_false hg with h1 | ⟨_, h1⟩
  · rw [ho] at h1; cases h1
  rw [ho, Bool.false_or]
  cases hs : ltB s p.hi with
  | true =>
    have h2 : (r.op || ltB s r.hi) = true := by
      rcases he with he | ⟨_, he⟩
      · rw [he]; rfl
      · rw [ltB_trans hs he, Bool.or_true]
    show (!ltB s p.lo && (r.op || ltB s r.hi)) = _
    rw [h2, Bool.and_true, Bool.and_true]
    cases h3 : ltB s p.lo with
    | false => rfl
    | true => rw [ltB_of_lt_of_le h3 h]; rfl
  | false =>
    have h2 : ltB s r.lo = false := leB_trans h1 hs
    have h3 : ltB s p.lo = false := leB_trans h h2
    show (!ltB s p.lo && (r.op || ltB s r.hi)) = _
    rw [h2, h3]; rfl
theorem in_has {p r : Rng} (hp : rightR p = true) (h : ltB r.lo p.lo = false) (he : endLt p r = false) (s : List UInt8) : hasR p s = (hasR p s || hasR r s) := by
  cases hs : hasR r s with
  | false => rw [Bool.or_false]
  | true =>
    rw [Bool.or_true]
    have h1 := hasR_ge hs
    have h2 := hasR_ahead hs
    rw [hasR_eq hp, leB_trans h h1]
    rcases endLt_false he with h3 | ⟨h3, h4, h5⟩
    · rw [h3]; rfl
    · unfold aheadR at h2
      rw [h4, Bool.false_or] at h2
      rw [ltB_of_lt_of_le h2 h5, Bool.or_true]; rfl
theorem mergeL_ok : ∀ (l : List Rng) (p : Rng), rightR p = true → (∀ r ∈ l, rightR r = true ∧ ltB r.lo p.lo = false) → SortedL l →
    rightL (mergeL (some p) l) = true ∧ (∀ s, hasL (mergeL (some p) l) s = (hasR p s || hasL l s)) ∧ ∃ t m, mergeL (some p) l = t :: m ∧ t.lo = p.lo
  | [], p, hp, _, _ => ⟨hp, fun s => by rw [show mergeL (some p) [] = [p] from rfl, hasL_cons], p, [], rfl, rfl⟩
  | r :: l, p, hp, hl, hs => by
    obtain ⟨hr, hlo⟩ := hl r (List.mem_cons_self ..)
    obtain ⟨hs1, hs2⟩ := List.pairwise_cons.1 hs
    have hl' : ∀ t ∈ l, rightR t = true ∧ ltB t.lo r.lo = false := fun t ht => ⟨(hl t (List.mem_cons_of_mem _ ht)).1, hs1 t ht⟩
    cases hg : gapR p r with
    | true =>
      obtain ⟨h1, h2, t, m, h3, h4⟩ := mergeL_ok l r hr hl' hs2
      rw [mergeL_gap hg]
      refine ⟨?_, fun s => by rw [hasL_cons, h2, hasL_cons], p, _, rfl, rfl⟩
      rw [h3] at h1 ⊢
      have h5 : gapR p t = true := by unfold gapR at hg ⊢; rw [h4]; exact hg
      unfold rightL
      rw [hp, h5, h1]; rfl
    | false =>
      cases he : endLt p r with
      | true =>
        obtain ⟨h1, h2, t, m, h3, h4⟩ := mergeL_ok l ⟨p.lo, r.hi, r.op⟩ (more_right hp hr hlo) (fun t ht => ⟨(hl' t ht).1, leB_trans hlo (hl' t ht).2⟩) hs2
        rw [mergeL_more hg he]
        exact ⟨h1, fun s => by rw [h2, more_has hp hr hlo hg he, hasL_cons, Bool.or_assoc], t, m, h3, h4⟩
      | false =>
        obtain ⟨h1, h2, t, m, h3, h4⟩ := mergeL_ok l p hp (fun t ht => hl t (List.mem_cons_of_mem _ ht)) hs2
        rw [mergeL_in hg he]
        exact ⟨h1, fun s => by rw [h2, hasL_cons, ← Bool.or_assoc, ← in_has hp hlo he], t, m, h3, h4⟩
theorem mergeL_all {l : List Rng} (hl : ∀ r ∈ l, rightR r = true) (hs : SortedL l) : rightL (mergeL none l) = true ∧ ∀ s, hasL (mergeL none l) s = hasL l s := by
  cases l with
  | nil => exact ⟨rfl, fun _ => rfl⟩
  | cons r l =>
    obtain ⟨hs1, hs2⟩ := List.pairwise_cons.1 hs
    obtain ⟨h1, h2, _⟩ := mergeL_ok l r (hl r (List.mem_cons_self ..)) (fun t ht => ⟨hl t (List.mem_cons_of_mem _ ht), hs1 t ht⟩) hs2
    exact ⟨h1, fun s => by rw [show mergeL none (r :: l) = mergeL (some r) l from rfl, h2, hasL_cons]⟩
/-- The right ones, in some order of their beginnings, merged: the right list of all. -/
theorem mergeL_norm {l m : List Rng} (hp : m.Perm (l.filter rightR)) (hs : SortedL m) : mergeL none m = normV l := by
  have hm : ∀ r ∈ m, rightR r = true := fun r hr => by have := hp.mem_iff.1 hr; exact (List.mem_filter.1 this).2
  obtain ⟨h1, h2⟩ := mergeL_all hm hs
  refine makeV_unique h1 fun s => ?_
  rw [h2, gV1, hasL_nil, Bool.or_false, Bool.eq_iff_iff]
  unfold hasL
  rw [List.any_eq_true, List.any_eq_true]
  constructor
  · rintro ⟨r, hr, h⟩; exact ⟨r, (List.mem_filter.1 (hp.mem_iff.1 hr)).1, h⟩
  · rintro ⟨r, hr, h⟩; exact ⟨r, hp.mem_iff.2 (List.mem_filter.2 ⟨hr, hasR_right h⟩), h⟩
/-- The last one that is kept, behind a range. -/
def lastR (p r : Rng) : Rng := match endLt p r with | true => ⟨p.lo, r.hi, r.op⟩ | false => p
theorem mergeL_last {p r : Rng} {l : List Rng} (h : gapR p r = false) : mergeL (some p) (r :: l) = mergeL (some (lastR p r)) l := by
  unfold lastR
  cases h' : endLt p r with
  | true => rw [mergeL_more h h']
  | false => rw [mergeL_in h h']

/-! The edges of a right list. -/
def edgesR : List Rng → List (List UInt8)
  | [] => []
  | r :: l => match r.op with
    | true => r.lo :: edgesR l
    | false => r.lo :: r.hi :: edgesR l
theorem edgesR_open {r : Rng} {l : List Rng} (h : r.op = true) : edgesR (r :: l) = r.lo :: edgesR l := by rw [edgesR, h]
theorem edgesR_shut {r : Rng} {l : List Rng} (h : r.op = false) : edgesR (r :: l) = r.lo :: r.hi :: edgesR l := by rw [edgesR, h]
theorem edgesR_append : ∀ (a b : List Rng), edgesR (a ++ b) = edgesR a ++ edgesR b
  | [], _ => rfl
  | r :: a, b => by
    rw [List.cons_append]
    cases ho : r.op with
    | true => rw [edgesR_open ho, edgesR_open ho, edgesR_append a b, List.cons_append]
    | false => rw [edgesR_shut ho, edgesR_shut ho, edgesR_append a b, List.cons_append, List.cons_append]
/-- Are texts rising? -/
def riseB : List (List UInt8) → Bool
  | [] => true
  | x :: l => risingB x l
theorem risingB_of {c x : List UInt8} {l : List (List UInt8)} (h : ltB c x = true) (h' : risingB x l = true) : risingB c (x :: l) = true := by unfold risingB; rw [h, h']; rfl
theorem edgesR_rise : ∀ {l : List Rng}, rightL l = true → (∀ c, (∀ r m, l = r :: m → ltB c r.lo = true) → risingB c (edgesR l) = true)
  | [], _, _, _ => rfl
  | r :: l, h, c, hc => by
    have h1 := hc r l rfl
    cases ho : r.op with
    | true =>
      have hl : l = [] := by
        cases l with
        | nil => rfl
        | cons t m => have := (rightL_gap h).1; rw [ho] at this; cases this
      rw [edgesR_open ho, hl]
      exact risingB_of h1 rfl
    | false =>
      rw [edgesR_shut ho]
      refine risingB_of h1 (risingB_of (rightR_lt (rightL_head h) ho) (edgesR_rise (rightL_tail h) _ fun t m e => ?_))
      subst e
      exact (rightL_gap h).2
theorem edgesR_riseB {l : List Rng} (h : rightL l = true) : riseB (edgesR l) = true := by
  cases l with
  | nil => rfl
  | cons r l =>
    cases ho : r.op with
    | true =>
      have hl : l = [] := by
        cases l with
        | nil => rfl
        | cons t m => have := (rightL_gap h).1; rw [ho] at this; cases this
      rw [edgesR_open ho, hl]; rfl
    | false =>
      rw [edgesR_shut ho]
      refine risingB_of (rightR_lt (rightL_head h) ho) (edgesR_rise (rightL_tail h) _ fun t m e => ?_)
      subst e
      exact (rightL_gap h).2
theorem edgesR_len17 : ∀ {l : List Rng}, (∀ r ∈ l, rightR r = true) → ∀ x ∈ edgesR l, x.length ≤ 17
  | [], _, x, hx => by cases hx
  | r :: l, h, x, hx => by
    have h1 := h r (List.mem_cons_self ..)
    have h2 := edgesR_len17 fun t ht => h t (List.mem_cons_of_mem _ ht)
    cases ho : r.op with
    | true =>
      rw [edgesR_open ho] at hx
      rcases List.mem_cons.1 hx with rfl | hx
      · exact rightR_lo h1
      · exact h2 x hx
    | false =>
      rw [edgesR_shut ho] at hx
      rcases List.mem_cons.1 hx with rfl | hx
      · exact rightR_lo h1
      · rcases List.mem_cons.1 hx with rfl | hx
        · exact rightR_hi h1
        · exact h2 x hx
theorem edgesR_len : ∀ l : List Rng, (edgesR l).length ≤ 2 * l.length
  | [] => by simp [edgesR]
  | r :: l => by
    have := edgesR_len l
    cases ho : r.op with
    | true => rw [edgesR_open ho]; simp only [List.length_cons]; omega
    | false => rw [edgesR_shut ho]; simp only [List.length_cons]; omega
/-- Is a text in, by the edges at which that turns? -/
def togV : Bool → List (List UInt8) → List UInt8 → Bool
  | v, [], _ => v
  | v, x :: l, s => match ltB s x with | true => v | false => togV (!v) l s
theorem togV_low {v : Bool} {x s : List UInt8} {l : List (List UInt8)} (h : ltB s x = true) : togV v (x :: l) s = v := by rw [togV, h]
theorem togV_high {v : Bool} {x s : List UInt8} {l : List (List UInt8)} (h : ltB s x = false) : togV v (x :: l) s = togV (!v) l s := by rw [togV, h]
theorem togV_all {v : Bool} {s : List UInt8} {l : List (List UInt8)} (h : ∀ x ∈ l, ltB s x = true) : togV v l s = v := by
  cases l with
  | nil => rfl
  | cons x l => exact togV_low (h x (List.mem_cons_self ..))
theorem togV_edges : ∀ {l : List Rng}, rightL l = true → ∀ s, togV false (edgesR l) s = hasL l s
  | [], _, _ => rfl
  | r :: l, h, s => by
    have hr := rightL_head h
    cases h1 : ltB s r.lo with
    | true =>
      have h2 : hasL (r :: l) s = false := by
        cases hc : hasL (r :: l) s with
        | false => rfl
        | true => rw [hasL_ge h hc] at h1; cases h1
      rw [h2]
      cases ho : r.op with
      | true => rw [edgesR_open ho, togV_low h1]
      | false => rw [edgesR_shut ho, togV_low h1]
    | false =>
      cases ho : r.op with
      | true =>
        have hl : l = [] := by
          cases l with
          | nil => rfl
          | cons t m => have := (rightL_gap h).1; rw [ho] at this; cases this
        rw [edgesR_open ho, togV_high h1, hl, hasL_cons, hasR_eq hr, h1, ho]; rfl
      | false =>
        rw [edgesR_shut ho, togV_high h1, hasL_cons, hasR_eq hr, h1, ho]
        cases h3 : ltB s r.hi with
        | true => rw [togV_low h3]; rfl
        | false => rw [togV_high h3, show (!!false) = false from rfl, togV_edges (rightL_tail h)]; rfl
theorem togV_det : ∀ (l : List (List UInt8)) (v : Bool) {s c : List UInt8}, (∀ x ∈ l, ltB s x = ltB c x) → togV v l s = togV v l c
  | [], _, _, _, _ => rfl
  | x :: l, v, s, c, h => by
    have h1 := h x (List.mem_cons_self ..)
    have h2 := togV_det l (!v) fun y hy => h y (List.mem_cons_of_mem _ hy)
    unfold togV
    rw [h1, h2]

/-! The edges of two lists, together. -/
/-- What is left of edges behind one that may be the first of them. -/
def dropE (e : List UInt8) : List (List UInt8) → List (List UInt8)
  | [] => []
  | x :: l => match decide (x = e) with | true => l | false => x :: l
/-- .. and whether a text is in from there on. -/
def passB (e : List UInt8) (v : Bool) : List (List UInt8) → Bool
  | [] => v
  | x :: _ => match decide (x = e) with | true => !v | false => v
theorem dropE_same {e : List UInt8} {l : List (List UInt8)} : dropE e (e :: l) = l := by rw [dropE, decide_eq_true rfl]
theorem dropE_other {e x : List UInt8} {l : List (List UInt8)} (h : x ≠ e) : dropE e (x :: l) = x :: l := by rw [dropE, decide_eq_false h]
theorem passB_same {e : List UInt8} {v : Bool} {l : List (List UInt8)} : passB e v (e :: l) = !v := by rw [passB, decide_eq_true rfl]
theorem passB_other {e x : List UInt8} {v : Bool} {l : List (List UInt8)} (h : x ≠ e) : passB e v (x :: l) = v := by rw [passB, decide_eq_false h]
theorem dropE_len (e : List UInt8) (l : List (List UInt8)) : (dropE e l).length ≤ l.length := by
  cases l with
  | nil => exact Nat.le_refl _
  | cons x l =>
    by_cases h : x = e
    · subst h; rw [dropE_same]; simp
    · rw [dropE_other h]; exact Nat.le_refl _
theorem dropE_mem {e x : List UInt8} {l : List (List UInt8)} (h : x ∈ dropE e l) : x ∈ l := by
  cases l with
  | nil => cases h
  | cons y l =>
    by_cases hy : y = e
    · subst hy; rw [dropE_same] at h; exact List.mem_cons_of_mem _ h
    · rw [dropE_other hy] at h; exact h
theorem mem_dropE {e x : List UInt8} {l : List (List UInt8)} (h : x ∈ l) (hne : x ≠ e) : x ∈ dropE e l := by
  cases l with
  | nil => cases h
  | cons y l =>
    by_cases hy : y = e
    · subst hy; rw [dropE_same]
      rcases List.mem_cons.1 h with rfl | h
      · exact absurd rfl hne
      · exact h
    · rw [dropE_other hy]; exact h
/-- Rising texts, none of them ahead of one. -/
def FromE (e : List UInt8) (l : List (List UInt8)) : Prop := riseB l = true ∧ ∀ x ∈ l, ltB x e = false
theorem FromE.drop {e : List UInt8} {l : List (List UInt8)} (h : FromE e l) : risingB e (dropE e l) = true := by
  obtain ⟨h1, h2⟩ := h
  cases l with
  | nil => rfl
  | cons x l =>
    by_cases hx : x = e
    · subst hx; rw [dropE_same]; exact h1
    · rw [dropE_other hx]
      refine risingB_of ?_ h1
      have h3 := h2 x (List.mem_cons_self ..)
      cases hc : ltB e x with
      | true => rfl
      | false => exact absurd (ltB_total h3 hc) hx
theorem riseB_of {c : List UInt8} {l : List (List UInt8)} (h : risingB c l = true) : riseB l = true := by
  cases l with
  | nil => rfl
  | cons x l => exact (rising_head h).2
theorem FromE.pass {e : List UInt8} {l : List (List UInt8)} {v : Bool} (_h : FromE e l) {s : List UInt8} (hs : ltB s e = false) : togV (passB e v l) (dropE e l) s = togV v l s := by
  cases l with
  | nil => rfl
  | cons x l =>
    by_cases hx : x = e
    · subst hx; rw [dropE_same, passB_same, togV_high hs]
    · rw [dropE_other hx, passB_other hx]
theorem FromE.at {e : List UInt8} {l : List (List UInt8)} {v : Bool} (h : FromE e l) : togV v l e = passB e v l := by
  rw [← h.pass (ltB_irrefl e)]
  exact togV_all (rising_all h.drop)
/-- The next edge of both. -/
def nearE : List (List UInt8) → List (List UInt8) → Option (List UInt8)
  | [], [] => none
  | [], y :: _ => some y
  | x :: _, [] => some x
  | x :: _, y :: _ => match ltB x y with | true => some x | false => some y
theorem nearE_lt {x y : List UInt8} {a b : List (List UInt8)} (h : ltB x y = true) : nearE (x :: a) (y :: b) = some x := by rw [nearE, h]
theorem nearE_ge {x y : List UInt8} {a b : List (List UInt8)} (h : ltB x y = false) : nearE (x :: a) (y :: b) = some y := by rw [nearE, h]
/-- What is known of the next edge of two rising lists. -/
theorem nearE_some {c e : List UInt8} {a b : List (List UInt8)} (ha : risingB c a = true) (hb : risingB c b = true) (h : nearE a b = some e) :
    ltB c e = true ∧ FromE e a ∧ FromE e b ∧ (dropE e a).length + (dropE e b).length < a.length + b.length ∧ (e ∈ a ∨ e ∈ b) := by
  have up : ∀ {x : List UInt8} {l : List (List UInt8)}, risingB x l = true → ∀ y ∈ x :: l, ltB y x = false := fun hl y hy => by
    rcases List.mem_cons.1 hy with rfl | hy
    · exact ltB_irrefl _
    · exact ltB_asymm (rising_all hl y hy)
  cases a with
  | nil =>
    cases b with
    | nil => cases h
    | cons y b =>
      obtain rfl : y = e := by rw [nearE] at h; injection h
      obtain ⟨h1, h2⟩ := rising_head hb
      refine ⟨h1, ⟨rfl, by simp⟩, ⟨h2, up h2⟩, ?_, .inr (List.mem_cons_self ..)⟩
      rw [dropE_same]; simp [dropE]
  | cons x a =>
    obtain ⟨h1, h2⟩ := rising_head ha
    cases b with
    | nil =>
      obtain rfl : x = e := by rw [nearE] at h; injection h
      refine ⟨h1, ⟨h2, up h2⟩, ⟨rfl, by simp⟩, ?_, .inl (List.mem_cons_self ..)⟩
      rw [dropE_same]; simp [dropE]
    | cons y b =>
      obtain ⟨h3, h4⟩ := rising_head hb
      cases hxy : ltB x y with
      | true =>
        rw [nearE_lt hxy] at h
        obtain rfl : x = e := by injection h
        refine ⟨h1, ⟨h2, up h2⟩, ⟨h4, fun z hz => leB_trans (ltB_asymm hxy) (up h4 z hz)⟩, ?_, .inl (List.mem_cons_self ..)⟩
        have := dropE_len x (y :: b)
        rw [dropE_same]; simp only [List.length_cons] at this ⊢; omega
      | false =>
        rw [nearE_ge hxy] at h
        obtain rfl : y = e := by injection h
        refine ⟨h3, ⟨h2, fun z hz => leB_trans hxy (up h2 z hz)⟩, ⟨h4, up h4⟩, ?_, .inr (List.mem_cons_self ..)⟩
        have := dropE_len y (x :: a)
        rw [dropE_same]; simp only [List.length_cons] at this ⊢; omega
theorem nearE_none {a b : List (List UInt8)} (h : nearE a b = none) : a = [] ∧ b = [] := by
  cases a with
  | nil => cases b with
    | nil => exact ⟨rfl, rfl⟩
    | cons y b => cases h
  | cons x a => cases b with
    | nil => cases h
    | cons y b => rw [nearE] at h; cases hxy : ltB x y <;> rw [hxy] at h <;> cases h
/-- All edges of both, rising. -/
def mrgE : Nat → List (List UInt8) → List (List UInt8) → List (List UInt8)
  | 0, _, _ => []
  | n + 1, a, b => match nearE a b with
    | none => []
    | some e => e :: mrgE n (dropE e a) (dropE e b)
theorem mrgE_some {n : Nat} {a b : List (List UInt8)} {e : List UInt8} (h : nearE a b = some e) : mrgE (n + 1) a b = e :: mrgE n (dropE e a) (dropE e b) := by rw [mrgE, h]
theorem mrgE_none {n : Nat} {a b : List (List UInt8)} (h : nearE a b = none) : mrgE n a b = [] := by
  cases n with
  | zero => rfl
  | succ n => rw [mrgE, h]
theorem mrgE_rise : ∀ (n : Nat) {c : List UInt8} {a b : List (List UInt8)}, risingB c a = true → risingB c b = true → risingB c (mrgE n a b) = true
  | 0, _, _, _, _, _ => rfl
  | n + 1, c, a, b, ha, hb => by
    cases h : nearE a b with
    | none => rw [mrgE_none h]; rfl
    | some e =>
      obtain ⟨h1, h2, h3, _⟩ := nearE_some ha hb h
      rw [mrgE_some h]
      exact risingB_of h1 (mrgE_rise n h2.drop h3.drop)
theorem mrgE_mem : ∀ (n : Nat) {c : List UInt8} {a b : List (List UInt8)}, risingB c a = true → risingB c b = true → a.length + b.length ≤ n → ∀ x, (x ∈ a ∨ x ∈ b) → x ∈ mrgE n a b
  | 0, _, a, b, _, _, hn, x, hx => by
    have h1 : a = [] := List.length_eq_zero_iff.1 (by omega)
    have h2 : b = [] := List.length_eq_zero_iff.1 (by omega)
    rw [h1, h2] at hx; rcases hx with hx | hx <;> cases hx
  | n + 1, c, a, b, ha, hb, hn, x, hx => by
    cases h : nearE a b with
    | none =>
      obtain ⟨h1, h2⟩ := nearE_none h
      rw [h1, h2] at hx; rcases hx with hx | hx <;> cases hx
    | some e =>
      obtain ⟨_, h2, h3, h4, _⟩ := nearE_some ha hb h
      rw [mrgE_some h]
      by_cases he : x = e
      · subst he; exact List.mem_cons_self ..
      · refine List.mem_cons_of_mem _ (mrgE_mem n h2.drop h3.drop (by omega) x ?_)
        rcases hx with hx | hx
        · exact .inl (mem_dropE hx he)
        · exact .inr (mem_dropE hx he)
theorem mrgE_of : ∀ (n : Nat) {a b : List (List UInt8)} {x : List UInt8}, x ∈ mrgE n a b → x ∈ a ∨ x ∈ b
  | 0, _, _, _, h => by cases h
  | n + 1, a, b, x, h => by
    cases hn : nearE a b with
    | none => rw [mrgE_none hn] at h; cases h
    | some e =>
      rw [mrgE_some hn] at h
      rcases List.mem_cons.1 h with rfl | h
      · cases a with
        | nil => cases b with
          | nil => cases hn
          | cons y b => injection hn with hn; subst hn; exact .inr (List.mem_cons_self ..)
        | cons u a => cases b with
          | nil => injection hn with hn; subst hn; exact .inl (List.mem_cons_self ..)
          | cons y b =>
            cases hu : ltB u y with
            | true => rw [nearE_lt hu] at hn; injection hn with hn; subst hn; exact .inl (List.mem_cons_self ..)
            | false => rw [nearE_ge hu] at hn; injection hn with hn; subst hn; exact .inr (List.mem_cons_self ..)
      · rcases mrgE_of n h with h | h
        · exact .inl (dropE_mem h)
        · exact .inr (dropE_mem h)
/-- What is swept, edge by edge: what is still to come. -/
def restE (n : Nat) (a b : List (List UInt8)) : Option (List UInt8) → List (List UInt8)
  | none => []
  | some e => e :: mrgE n (dropE e a) (dropE e b)
theorem restE_next (n : Nat) (a b : List (List UInt8)) : mrgE (n + 1) a b = restE n a b (nearE a b) := by
  cases hn : nearE a b with
  | none => rw [mrgE_none hn]; rfl
  | some e => rw [mrgE_some hn]; rfl
/-- The swept list is what is meant. -/
theorem sweep_make (op : Int) (a b : List Rng) (f : List UInt8 → Bool) (hf : ∀ s, f s = inV op a b s) (n : Nat) (hn : (edgesR (normV a)).length + (edgesR (normV b)).length ≤ n) :
    mkR f (restE n (edgesR (normV a)) (edgesR (normV b)) (some [])) none = makeV op a b := by
  have ra : rightL (normV a) = true := makeV_right _ _ _
  have rb : rightL (normV b) = true := makeV_right _ _ _
  have fa : FromE [] (edgesR (normV a)) := ⟨edgesR_riseB ra, fun x _ => ltB_nil x⟩
  have fb : FromE [] (edgesR (normV b)) := ⟨edgesR_riseB rb, fun x _ => ltB_nil x⟩
  have hlen : ∀ x ∈ mrgE n (dropE [] (edgesR (normV a))) (dropE [] (edgesR (normV b))), x.length ≤ 17 := fun x hx => by
    rcases mrgE_of n hx with h | h
    · exact edgesR_len17 (rightL_all ra) x (dropE_mem h)
    · exact edgesR_len17 (rightL_all rb) x (dropE_mem h)
  have hmem : ∀ x, (x ∈ edgesR (normV a) ∨ x ∈ edgesR (normV b)) → x ∈ [] :: mrgE n (dropE [] (edgesR (normV a))) (dropE [] (edgesR (normV b))) := fun x hx => by
    by_cases he : x = []
    · rw [he]; exact List.mem_cons_self ..
    · refine List.mem_cons_of_mem _ (mrgE_mem n fa.drop fb.drop ?_ x ?_)
      · have := dropE_len [] (edgesR (normV a)); have := dropE_len [] (edgesR (normV b)); omega
      · rcases hx with hx | hx
        · exact .inl (mem_dropE hx he)
        · exact .inr (mem_dropE hx he)
  have hdet : Det f ([] :: mrgE n (dropE [] (edgesR (normV a))) (dropE [] (edgesR (normV b)))) := fun s c h => by
    rw [hf, hf]
    unfold inV
    rw [← normV_has a s, ← normV_has b s, ← normV_has a c, ← normV_has b c, ← togV_edges ra, ← togV_edges rb, ← togV_edges ra, ← togV_edges rb,
      togV_det (edgesR (normV a)) false fun x hx => h x (hmem x (.inl hx)), togV_det (edgesR (normV b)) false fun x hx => h x (hmem x (.inr hx))]
  obtain ⟨h1, h2⟩ := mkR_all (mrgE_rise n fa.drop fb.drop) hlen hdet
  exact makeV_unique h1 fun s => by
    rw [show restE n (edgesR (normV a)) (edgesR (normV b)) (some []) = [] :: mrgE n (dropE [] (edgesR (normV a))) (dropE [] (edgesR (normV b))) from rfl, h2, hf]; rfl
end Go.Proofs.YthgcbomidamcfaaDoor

/-
  Layer 7 (span): which of two ranges ends ahead.
-/
namespace Go.Proofs.YthgcbomidamcfaaDoor
open Go.RowKit

end Go.Proofs.YthgcbomidamcfaaDoor

/-
  Layer 8 (ranges), the program: is there a text between two; is a list right; which texts it has; are two lists the same, range by range.
-/
namespace Go.Proofs.YthgcbomidamcfaaDoor
open Go.RowKit

end Go.Proofs.YthgcbomidamcfaaDoor

/-
  Layer 8 (ranges), the program: is a list right.
-/
namespace Go.Proofs.YthgcbomidamcfaaDoor
open Go.RowKit

end Go.Proofs.YthgcbomidamcfaaDoor

/-
  A row of the call's own, sorted by the library (slices.SortFunc at elements of several cells): what is asked of it, and what it holds behind.
-/
namespace Go.Proofs.YthgcbomidamcfaaDoor
open Go.RowKit Go.Sort

theorem grown_sortK {α : Type} [Inhabited α] {enc : α → List Value} {k : Nat} {w : World} {g m : Nat} {os : Array Obj} (d : Array α) : w.grownBy (sortWorldK enc k w g 0 m d os) (some g) := by
  unfold sortWorldK putRowK
  refine ⟨rfl, rfl, rfl, by simp, fun j hj hne => ?_⟩
  rw [heap_grow_old _ _ (by simpa using hj)]
  have : g ≠ j := fun e => hne (by rw [e])
  simp [putRow, mapBlock, Sort.ahead, Array.getElem?_modify, this]
theorem heap_sortK {α : Type} [Inhabited α] {enc : α → List Value} {k : Nat} {w : World} {g m : Nat} {os : Array Obj} {cur : Array Value} {e : TypeId} {fr : Nat × Nat} (d : Array α) (hb : w.heap[g]? = some (.cells cur e fr)) :
    (sortWorldK enc k w g 0 m d os).heap[g]? = some (.cells (putCells id 0 (flatK enc k d) cur) e fr) := by
  have hg : g < w.heap.size := (Array.getElem?_eq_some_iff.1 hb).1
  unfold sortWorldK putRowK
  rw [heap_grow_old _ _ (by simpa using hg)]
  simp [putRow, mapBlock, Sort.ahead, Array.getElem?_modify, hb, onCells]
theorem take_putCells_id (cur F : Array Value) (h : F.size ≤ cur.size) : (putCells id 0 F cur).toList.take F.size = F.toList := by
  apply List.ext_getElem?
  intro j
  by_cases hj : j < F.size
  · rw [List.getElem?_take_of_lt hj, Array.getElem?_toList, Array.getElem?_toList]
    simp [putCells, hj, show j < cur.size by omega]
  · rw [List.getElem?_take_eq_none (by omega), List.getElem?_eq_none (by simp; omega)]
namespace Kind
variable {P : Program} {α : Type} [Inhabited α] (K : Kind P α)
theorem flat_row (d : Array α) : (flatK K.cells K.size d).toList = K.row d.toList := by
  apply List.ext_getElem (by rw [K.row_len]; simp)
  intro t h1 h2
  have ht : t < d.size * K.size := by simpa using h1
  have hk : 0 < K.size := K.pos
  have hq : t / K.size < d.size := Nat.div_lt_of_lt_mul (by rw [Nat.mul_comm]; exact ht)
  have hr : t % K.size < K.size := Nat.mod_lt _ hk
  have e : t / K.size * K.size + t % K.size = t := by rw [Nat.mul_comm]; exact Nat.div_add_mod t K.size
  have hx : d.toList[t / K.size]? = some d[t / K.size]! := by rw [Array.getElem?_toList, getElem!_pos d _ hq, Array.getElem?_eq_getElem hq]
  have := K.row_get hx hr
  rw [e, List.getElem?_eq_getElem h2, List.getElem?_eq_getElem (by rw [K.len]; exact hr)] at this
  injection this with this
  rw [this]
  simp only [flatK, Array.toList_map, Array.toList_range, List.getElem_map, List.getElem_range]
  rw [getElem!_pos _ _ (by rw [K.len]; exact hr)]
variable {K}
theorem Own.holdsK {w : World} {base g n c : Nat} {l : List α} (h : K.Own w base (.slice (some ⟨g, 0, none⟩) n c) l) : HoldsK K.cells K.size w g 0 l.toArray ∧ (l ≠ [] → g < w.heap.size) := by
  rcases h.2 with ⟨h0, _⟩ | ⟨g', cap, cur, hv, hg, hb, hc, _, hz, ht⟩
  · cases h0
  · injection hv with hA
    injection hA with hA
    injection hA with hA
    subst hA
    refine ⟨fun j hj => ?_, fun _ => lt_of_block hb⟩
    have hj' : j < l.length * K.size := by simpa using hj
    refine ⟨?_, by simp [World.frozen?, hb]⟩
    rw [cell_of_row _ _ _ cur _ (0, 0) hb, ← Array.getElem?_toList, Nat.zero_add]
    have h1 : (cur.toList.take (l.length * K.size))[j]? = (K.row l)[j]? := by rw [ht]
    rw [List.getElem?_take_of_lt hj'] at h1
    have h2 := K.flat_row l.toArray
    rw [List.toList_toArray] at h2
    rw [h1, ← h2, Array.getElem?_toList, Array.getElem?_eq_getElem hj, getElem!_pos (flatK K.cells K.size l.toArray) j hj]
    rfl
theorem Own.sorted {w : World} {base g n c m : Nat} {l : List α} {os : Array Obj} (h : K.Own w base (.slice (some ⟨g, 0, none⟩) n c) l) (d : Array α) (hd : d.size = l.length) (hn : n = l.length) :
    K.Own (sortWorldK K.cells K.size w g 0 m d os) base (.slice (some ⟨g, 0, none⟩) n c) d.toList := by
  subst hn
  rcases h.2 with ⟨h0, _⟩ | ⟨g', cap, cur, hv, hg, hb, hc, hm, hz, ht⟩
  · cases h0
  · injection hv with hA h5 h6
    injection hA with hA
    injection hA with hA
    subst hA h6
    have e : d.toList.length = l.length := by rw [Array.length_toList, hd]
    refine ⟨by rw [K.row_len], .inr ⟨g, c, _, by rw [e], hg, heap_sortK d hb, by rw [e]; exact hc, hm, by simp [putCells, hz], ?_⟩⟩
    rw [e, ← K.flat_row, ← hd, ← size_flatK K.cells K.size d]
    refine take_putCells_id _ _ ?_
    rw [size_flatK, hz, hd]
    exact Nat.mul_le_mul_right _ hc
end Kind
theorem perm_of_permIn {α : Type} [Inhabited α] {l : List α} {d : Array α} (h : PermIn 0 l.toArray.size l.toArray d) : d.toList.Perm l := by
  obtain ⟨h1, _, h3⟩ := h
  rw [← h1, Array.extract_size, h1, Array.extract_size] at h3
  simpa using h3
theorem pairs_of_sortedIn {α : Type} [Inhabited α] {lt : α → α → Bool} {d : Array α} (h : SortedIn lt 0 d.size d) : d.toList.Pairwise fun a b => lt b a = false := by
  rw [List.pairwise_iff_getElem]
  intro i j hi hj hij
  have hi' : i < d.size := by simpa using hi
  have hj' : j < d.size := by simpa using hj
  have := h i j (Nat.zero_le _) hij hj'
  rw [getElem!_pos d i hi', getElem!_pos d j hj'] at this
  simpa using this
end Go.Proofs.YthgcbomidamcfaaDoor

/-
  The shelf's contracts at this program, in plain words (made by wip/tools/shelf.py).
-/
namespace Go.Proofs
open Go.Shelf
end Go.Proofs

/-
  Layer 8 (ranges), the program: the right ones of some ranges, those that begin ahead first.
-/
namespace Go.Proofs.YthgcbomidamcfaaDoor
open Go.RowKit Go.Sort

instance : Inhabited Rng := ⟨zeroR⟩
def cmpLo (x y : Rng) : Int := Lib.compareBytes x.lo y.lo
theorem lt_cmpLo (x y : Rng) : ltOf cmpLo x y = ltB x.lo y.lo := by
  obtain ⟨v, hv, h1, _⟩ := cmp_test x.lo y.lo
  unfold ltOf cmpLo
  rw [hv]; exact h1
theorem swo_cmpLo : SWO (ltOf cmpLo) where
  irrefl x := by rw [lt_cmpLo]; exact ltB_irrefl _
  trans x y z h1 h2 := by rw [lt_cmpLo] at *; exact ltB_trans h1 h2
  ntrans x y z h1 h2 := by rw [lt_cmpLo] at *; exact leB_trans h2 h1
theorem filter_next {l : List Rng} {k : Nat} {r : Rng} (h : l[k]? = some r) : (l.take (k + 1)).filter rightR = (l.take k).filter rightR ++ (match rightR r with | true => [r] | false => []) := by
  rw [List.take_add_one, h, List.filter_append]
  cases hr : rightR r <;> simp [hr]
end Go.Proofs.YthgcbomidamcfaaDoor

/-
  Layer 8 (ranges), the program: the right list of some ranges' texts.
-/
namespace Go.Proofs.YthgcbomidamcfaaDoor
open Go.RowKit

/-- The one that was begun last is right, and begins not behind those to come. -/
def LastOk (o : Option Rng) (l : List Rng) : Prop := ∀ p, o = some p → rightR p = true ∧ ∀ t ∈ l, ltB t.lo p.lo = false
theorem LastOk.none (l : List Rng) : LastOk .none l := fun p h => by cases h
theorem LastOk.new {r : Rng} {l : List Rng} (hr : rightR r = true) (hs : SortedL (r :: l)) : LastOk (some r) l := fun p h => by
  injection h with h; subst h
  exact ⟨hr, (List.pairwise_cons.1 hs).1⟩
theorem LastOk.stay {p r : Rng} {l : List Rng} (h : LastOk (some p) (r :: l)) : LastOk (some p) l := fun p' h' => by
  obtain ⟨h1, h2⟩ := h p' h'
  exact ⟨h1, fun t ht => h2 t (List.mem_cons_of_mem _ ht)⟩
theorem LastOk.more {p r : Rng} {l : List Rng} (h : LastOk (some p) (r :: l)) (hr : rightR r = true) : LastOk (some ⟨p.lo, r.hi, r.op⟩) l := fun p' h' => by
  injection h' with h'; subst h'
  obtain ⟨h1, h2⟩ := h p rfl
  exact ⟨more_right h1 hr (h2 r (List.mem_cons_self ..)), fun t ht => h2 t (List.mem_cons_of_mem _ ht)⟩
theorem SortedL.from {l : List Rng} (h : SortedL l) (k : Nat) : SortedL (l.drop k) := List.Pairwise.sublist (List.drop_sublist k l) h
theorem ends_test {p r : Rng} (hp : rightR p = true) (hr : rightR r = true) : ∃ v : Int, endsR p r = v ∧ decide (v < 0) = endLt p r := by
  refine ⟨_, rfl, ?_⟩
  cases h : endLt p r with
  | true => rw [endsR_lt hp hr h]; rfl
  | false => cases h' : endLt r p with
    | true => rw [endsR_gt hp hr h']; rfl
    | false => rw [endsR_eq h h']; rfl
theorem makeV_len1 (l : List Rng) : (normV l).length ≤ 2 * l.length + 2 := by
  have h1 := mkR_len (inV 1 l []) (edgesL (l ++ [])) none
  have h2 := edgesL_len (l ++ [])
  rw [List.append_nil] at h1 h2
  unfold normV makeV
  rw [List.append_nil]
  omega
end Go.Proofs.YthgcbomidamcfaaDoor
