/-
  Several texts in one: Eq, VarE, VarF, VarG, RgsB, RgsC, RgsD, RgsE, RgsF, Flt, FltA, FltB.
-/
import Derived.Deep.QuietTactic
import Derived.BigQuiet
import Derived.BigRegion
import Derived.IntWalk
import Derived.Test.YtfpgklpnpplnnaaMg5
namespace Go.Proofs.Ytfpgklpnpplnnaa
open Go.RowKit

def EqPost (a b : List UInt8) (w : World) (e : Ending) (w' : World) : Prop := e = .returned (.bool (decide (a = b))) ∧ ∃ n, w' = w.drewN n
theorem EqPost.no {a b : List UInt8} {w : World} {n : Nat} (h : a ≠ b) : EqPost a b w (.returned (.bool false)) (w.drewN n) := ⟨by simp [h], n, rfl⟩
theorem EqPost.yes {a b : List UInt8} {w : World} {n : Nat} (h : a = b) : EqPost a b w (.returned (.bool true)) (w.drewN n) := ⟨by simp [h], n, rfl⟩
set_option maxHeartbeats 400000 in
theorem ref_eq (A A2 : Option Addr) (c c2 n1 n2 B B2 : Nat) (a b : List UInt8) (w : World) (hn1 : n1 = a.length) (hn2 : n2 = b.length) (ha : RowAt w B A (bytes a)) (hb : RowAt w B2 A2 (bytes b)) (hl : a.length ≤ 9223372036854775807) :
    Calls Try.prog 12 #[.slice A n1 c, .slice A2 n2 c2] w (EqPost a b w) := by
  subst hn1 hn2
  by_cases hne : a.length = b.length
  · have HNE := Lib.hid hne
    have hne2 : b.length = a.length := by omega
    obtain ⟨n, hn⟩ : ∃ n, a.length = n := ⟨_, rfl⟩
    have hbn : b.length = n := by omega
    rw [hbn, hn]
    have HA := Lib.hid hn
    have HB := Lib.hid hbn
    rw [hn] at hl
    clear hne hne2 hn hbn
    go_enter Try.func12, Try.ntmps12
    go_wp2
    go_loopw [5] (fun i wr => ∃ k m : Nat, k ≤ n ∧ a.take k = b.take k ∧ i = .int .i64 k ∧ wr = w.drewN m) (fun i _ => n - (intOf i).toNat)
    case atStart => exact ⟨0, 0, by omega, rfl, rfl, rfl⟩
    case round =>
      obtain ⟨k, m, hk, heq, rfl, rfl⟩ := hrel
      have HEQ := Lib.hid heq
      clear heq
      by_cases hlt : k < n
      · obtain ⟨b1, o1, rfl, _, hc1⟩ := ha.bytes_at (by rw [HA.out]; omega)
        obtain ⟨b2, o2, rfl, _, hc2⟩ := hb.bytes_at (by rw [HB.out]; omega)
        have c1 := hc1 k (by rw [HA.out]; omega)
        have c2 := hc2 k (by rw [HB.out]; omega)
        have HT1 := Lib.hid (take_snoc_getD a k (by rw [HA.out]; omega))
        have HT2 := Lib.hid (take_snoc_getD b k (by rw [HB.out]; omega))
        have HN : Hid (a.getD k 0 ≠ b.getD k 0 → a ≠ b) := take_ne
        clear hc1 hc2
        obtain ⟨x, hx⟩ : ∃ x, a.getD k 0 = x := ⟨_, rfl⟩
        obtain ⟨y, hy⟩ : ∃ y, b.getD k 0 = y := ⟨_, rfl⟩
        rw [hx] at c1 HT1 HN
        rw [hy] at c2 HT2 HN
        clear hx hy
        by_cases hxy : x = y
        · subst hxy
          have nx : Hid (a.take (k + 1) = b.take (k + 1)) := by rw [HT1.out, HT2.out, HEQ.out]; exact rfl
          clear HN
          go_wp2
          go_quiet (fail)
          go_wp2
          go_roundw
          case rel => exact ⟨k + 1, _, by omega, nx.out, by go_num, rfl⟩
          case measure => simp [intOf]; omega
        · have fin := Lib.hid (HN.out hxy)
          have hxy' : ((x.toNat : Int) == y.toNat) = false := by
            simp only [beq_eq_false_iff_ne, ne_eq]
            intro h
            exact hxy (UInt8.toNat_inj.1 (by omega))
          clear HN hxy
          go_wp2
          go_quiet (fail)
          go_wp2
          go_ret
          exact ⟨by rw [decide_eq_false fin.out]; rfl, _, World.drewN_drewN ..⟩
      · obtain rfl : k = n := by omega
        have fin : Hid (a = b) := by
          have h := HEQ.out
          rw [List.take_of_length_le (by rw [HA.out]; omega), List.take_of_length_le (by rw [HB.out]; omega)] at h
          exact h
        go_wp2
        go_ret
        exact .yes fin.out
  · have fin : a ≠ b := fun e => hne (by rw [e])
    have FIN := Lib.hid fin
    have hne' : ((a.length : Int) == b.length) = false := by simp; omega
    clear fin hne
    go_enter Try.func12, Try.ntmps12
    go_wp2
    go_ret
    exact EqPost.no (n := 0) FIN.out
theorem ref_eq_same (A A2 : Option Addr) (c c2 m1 m2 B B2 : Nat) (a : List UInt8) (w : World) (hn1 : m1 = a.length) (hn2 : m2 = a.length) (ha : RowAt w B A (bytes a)) (hb : RowAt w B2 A2 (bytes a)) (hl : a.length ≤ 9223372036854775807) :
    Calls Try.prog 12 #[.slice A m1 c, .slice A2 m2 c2] w fun e w' => e = .returned (.bool true) ∧ w.grownBy w' none :=
  (ref_eq A A2 c c2 m1 m2 B B2 a a w hn1 hn2 ha hb hl).mono fun _ _ ⟨h1, _, h2⟩ => ⟨by rw [h1]; simp, grown_quiet h2⟩
end Go.Proofs.Ytfpgklpnpplnnaa

namespace Go.Proofs.Ytfpgklpnpplnnaa
open Go.RowKit

theorem ref_vright (n : Int) (w : World) : Calls Try.prog 61 #[.int .i64 n] w fun e w' => e = .returned (.bool (okN n)) ∧ w = w' := by
  have hd : okN n = decide (0 ≤ n ∧ n ≤ 281474976710656) := rfl
  generalize okN n = r at *
  by_cases h1 : 0 ≤ n
  · by_cases h2 : n ≤ 281474976710656
    · obtain rfl : r = true := by rw [hd]; simp [h1, h2]
      clear hd
      go_enter Try.func61, Try.ntmps61
      go_wp2
      go_ret
      exact ⟨rfl, rfl⟩
    · obtain rfl : r = false := by rw [hd]; simp [h2]
      clear hd
      go_enter Try.func61, Try.ntmps61
      go_wp2
      go_ret
      exact ⟨rfl, rfl⟩
  · obtain rfl : r = false := by rw [hd]; simp [h1]
    clear hd
    go_enter Try.func61, Try.ntmps61
    go_wp2
    go_ret
    exact ⟨rfl, rfl⟩

set_option maxHeartbeats 400000 in
set_option maxRecDepth 100000 in
theorem ref_bytes (k : Nat) : ∀ (n : Nat) (w : World), n ≤ k → n ≤ 9223372036854775807 → Calls Try.prog 32 #[.int .i64 (n : Int)] w (RetB w.heap.size w (putV n)) := by
  induction k with
  | zero =>
    intro n w hk hn
    obtain rfl : n = 0 := by omega
    have ho := own_one w 0 0 rfl
    have HO := Lib.hid ho
    have HP := Lib.hid (putV_small (n := 0) (by omega))
    clear ho
    go_enter Try.func32, Try.ntmps32
    go_wp2_with fail
    go_ret
    exact ⟨_, rfl, by rw [HP.out]; exact HO.out, (Below.refl _ _).alloc (Nat.le_refl _) _⟩
  | succ k ih =>
    intro n w hk hn
    by_cases hlt : n < 128
    · have HO := Lib.hid (own_one w (n : Int) (UInt8.ofNat n) (by simp; omega))
      have HP := Lib.hid (putV_small hlt)
      go_enter Try.func32, Try.ntmps32
      go_wp2_with fail
      go_ret
      exact ⟨_, rfl, by rw [HP.out]; exact HO.out, (Below.refl _ _).alloc (Nat.le_refl _) _⟩
    · have HO := Lib.hid (own_one w (128 + (n : Int) % 128) (UInt8.ofNat (n % 128 + 128)) (by simp; omega))
      have HP := Lib.hid (putV_big hlt)
      have hlen := putV_len10 (n / 128) (by omega)
      have hih := fun w1 => ih (n / 128) w1 (by omega) (by omega)
      have e1 : ((n / 128 : Nat) : Int) = (n : Int) / 128 := by omega
      rw [e1] at hih
      clear e1 hk
      go_enter Try.func32, Try.ntmps32
      go_wp2_with fail
      refine (hih _).mono ?_; rintro e w1 ⟨v1, rfl, hown1, hb1⟩
      clear hih
      have ho1 := HO.out.below hb1
      obtain ⟨A1, c1, rfl, hr1⟩ := hown1.read
      have hl1 : [UInt8.ofNat (n % 128 + 128)].length + (putV (n / 128)).length ≤ 140737488355328 := by simp; omega
      have hbb := ((Below.refl w.heap.size w).alloc (Nat.le_refl _) (.cells #[.int .u8 (128 + (n : Int) % 128)] 5)).trans (hb1.mono (by simp))
      have hs1 := hbb.size
      have HB := Lib.hid hbb
      clear hown1 hbb hb1 HO
      go_wp2_with (at_builtin; refine wpList_app_row rfl (.tmp 12) (.tmp 15) rfl w.heap.size _ [UInt8.ofNat (n % 128 + 128)] rfl ho1 _ A1 c1 _ (putV (n / 128)) rfl rfl hr1.row hl1 hs1 ?_; intro v2 w2 hown2 _ hb2 _)
      go_ret
      exact ⟨v2, rfl, by rw [HP.out]; exact hown2, HB.out.trans hb2⟩

set_option maxHeartbeats 1000000 in
set_option maxRecDepth 100000 in
theorem ref_vput (A : Option Addr) (n c : Nat) (l : List Int) (w : World) (hn : n = l.length) (hr : RowAt w w.heap.size A (ints l)) (hok : okL l = true) (hlen : l.length ≤ 1000000) :
    Calls Try.prog 46 #[.slice A n c] w (RetB w.heap.size w (putsV l)) := by
  subst hn
  have HK := Lib.hid hok
  have hown0 : OwnB w w.heap.size (.slice none 0 0) [] := World.ownsRow_nil _ _ _ _
  clear hok
  go_enter Try.func46, Try.ntmps46
  go_wp2
  go_loopw [3, 4] (fun v i wr => ∃ k : Nat, k ≤ l.length ∧ i = .int .i64 k ∧ OwnB wr w.heap.size v (putsV (l.take k)) ∧ Below w.heap.size w wr) (fun _ i _ => l.length - (intOf i).toNat)
  case atStart => exact ⟨0, by omega, rfl, hown0, Below.refl _ _⟩
  case round =>
    obtain ⟨k, hk, rfl, hown, hbw⟩ := hrel
    by_cases hlt : k < l.length
    · obtain ⟨b0, o0, rfl, hb0, hc⟩ := hr.ints_at (by omega)
      have hcell := hc k hlt
      rw [← hbw.cell (p := ⟨b0, o0 + k, none⟩) hb0] at hcell
      have hx0 := okL_at HK.out hlt
      obtain ⟨m, hm⟩ := Int.eq_ofNat_of_zero_le hx0.1
      have hts := take_snoc_int l k hlt
      have HN : Hid (putsV (l.take (k + 1)) = putsV (l.take k) ++ putV m) := by
        rw [hts, putsV_snoc, hm]; exact rfl
      have hmax : m ≤ 9223372036854775807 := by omega
      have h9 := putV_len10 m hmax
      have hp := putsV_len (l.take k) (fun x hx => by
        obtain ⟨j, hj, rfl⟩ := List.getElem_of_mem (List.mem_of_mem_take hx)
        have := (okL_at HK.out hj).2
        rw [List.getD, List.getElem?_eq_getElem hj] at this
        simp at this
        omega)
      have hpl : (putsV (l.take k)).length + (putV m).length ≤ 140737488355328 := by
        rw [List.length_take] at hp
        omega
      rw [hm] at hcell
      have hb := fun w1 => ref_bytes m m w1 (Nat.le_refl _) hmax
      clear hc hm hts hx0 hp h9 hown0
      go_wp2_with fail
      refine (hb _).mono ?_; rintro e w2 ⟨v2, rfl, hown2, hb2⟩
      clear hb
      have ho2 := hown.below hb2
      have hbw2 := hbw.trans (hb2.mono hbw.size)
      have hs2 := hbw2.size
      have HB := Lib.hid hbw2
      obtain ⟨A2, c2, rfl, hr2⟩ := hown2.read
      clear hown2 hown hb2 hbw2
      go_wp2_with (at_builtin; refine wpList_app_row rfl (.tmp 11) (.tmp 16) rfl w.heap.size _ _ rfl ho2 _ A2 c2 _ (putV m) rfl rfl hr2.row hpl hs2 ?_; intro v3 w3 hown3 _ hb3 _)
      go_roundw
      case rel => exact ⟨k + 1, by omega, by go_num, by rw [HN.out]; exact hown3, HB.out.trans hb3⟩
      case measure => simp [intOf]; omega
    · obtain rfl : k = l.length := by omega
      rw [List.take_length] at hown
      go_wp2
      go_ret
      exact ⟨_, rfl, hown, hbw⟩
end Go.Proofs.Ytfpgklpnpplnnaa

namespace Go.Proofs.Ytfpgklpnpplnnaa
open Go.RowKit

theorem right_no (n : Int) (w : World) (h : okN n = false) : Calls Try.prog 61 #[.int .i64 n] w fun e w' => e = .returned (.bool false) ∧ w = w' := by rw [← h]; exact ref_vright n w
theorem right_yes (n : Int) (w : World) (h : okN n = true) : Calls Try.prog 61 #[.int .i64 n] w fun e w' => e = .returned (.bool true) ∧ w = w' := by rw [← h]; exact ref_vright n w

def CutPost (l : List UInt8) (w : World) (e : Ending) (w' : World) : Prop := e = .returned (.tuple #[.int .i64 (cutV l).1, .int .i64 (cutV l).2.1, .int .i64 (cutV l).2.2]) ∧ w = w'
theorem CutPost.mk {l : List UInt8} {w : World} {a b c : Nat} (h : cutV l = (a, b, c)) : CutPost l w (.returned (.tuple #[.int .i64 a, .int .i64 b, .int .i64 c])) w := by unfold CutPost; rw [h]; exact ⟨rfl, rfl⟩

set_option maxHeartbeats 1000000 in
set_option maxRecDepth 100000 in
theorem ref_number (A : Option Addr) (n c B : Nat) (l : List UInt8) (w : World) (hn : n = l.length) (hr : RowAt w B A (bytes l)) (hl : l.length ≤ 9223372036854775807) :
    Calls Try.prog 58 #[.slice A n c] w (CutPost l w) := by
  subst hn
  go_enter Try.func58, Try.ntmps58
  go_wp2
  go_loop [5] (fun i => ∃ k : Nat, k ≤ l.length ∧ k ≤ 8 ∧ Lead l k ∧ i = .int .i64 k) (fun i => 8 - (intOf i).toNat)
  case atStart => exact ⟨0, by omega, by omega, Lead.zero l, rfl⟩
  case round =>
    obtain ⟨k, hk, hk8, hlead, rfl⟩ := hrel
    have HL := Lib.hid hlead
    clear hlead
    by_cases h8 : k = 8
    · subst h8
      have fin := Lib.hid (cut_eight HL.out)
      by_cases h9 : l.length = 8
      · have h9' : l.length ≤ 8 := by omega
        clear h9
        go_wp2
        go_ret3
        exact CutPost.mk (a := 0) (b := 0) (c := 11) fin.out
      · have h9' : 8 < l.length := by omega
        clear h9
        go_wp2
        go_ret3
        exact CutPost.mk (a := 0) (b := 0) (c := 11) fin.out
    · by_cases hlt : k < l.length
      · have hk7 : k < 8 := by omega
        obtain ⟨b0, o0, rfl, _, hc⟩ := hr.bytes_at (by omega)
        have hcell := hc k hlt
        have NX := fun h => Lib.hid (HL.out.next hlt h)
        have FB := fun h1 h2 => Lib.hid (cut_bad HL.out hlt hk7 h1 h2)
        have FG := fun h1 h2 => Lib.hid (cut_good HL.out hlt hk7 h1 h2)
        have HC := Lib.hid hc
        obtain ⟨x, hx⟩ : ∃ x, l.getD k 0 = x := ⟨_, rfl⟩
        rw [hx] at hcell NX FB FG
        clear hc hx h8
        by_cases h1 : 128 ≤ x.toNat
        · have nx := NX h1
          clear NX FB FG
          go_wp2
          go_round
          case rel => exact ⟨k + 1, by omega, by omega, nx.out, by go_num⟩
          case measure => simp [intOf]; omega
        · have HLEN : (l.take (k + 1)).length = k + 1 := by rw [List.length_take]; omega
          have HLEN := Lib.hid HLEN
          have hkl : ((k : Int) == l.length) = false := by simp; omega
          have hk8' : ((k : Int) == 8) = false := by simp; omega
          clear NX
          go_wp2
          go_loop [6, 7] (fun n i => ∃ j : Nat, j ≤ k + 1 ∧ i = .int .i64 ((j : Int) - 1) ∧ n = .int .i64 (valV ((l.take (k + 1)).drop j) : Nat)) (fun _ i => (intOf i + 1).toNat)
          case atStart =>
            refine ⟨k + 1, by omega, by go_num, ?_⟩
            rw [List.drop_of_length_le (by rw [HLEN.out]; omega)]
            rfl
          case round =>
            obtain ⟨j, hj, rfl, rfl⟩ := hrel
            cases j with
            | zero =>
              have hv0 := valV_take_lt l (k + 1) (by omega)
              rw [List.drop_zero]
              generalize valV (l.take (k + 1)) = v at *
              by_cases h2 : 0 < k
              · by_cases h3 : x.toNat = 0
                · have fin := FB (by omega) (.inl ⟨h2, h3⟩)
                  obtain rfl : x = 0 := UInt8.toNat_inj.1 h3
                  clear FB FG h3
                  by_cases h4 : okN (v : Int) = true
                  · go_wp2_with (go_at_call 61; refine (right_yes _ _ h4).mono ?_; rintro e w' ⟨rfl, rfl⟩)
                    go_ret3
                    exact CutPost.mk (a := 0) (b := 0) (c := 11) fin.out
                  · have h4 : okN (v : Int) = false := by simpa using h4
                    go_wp2_with (go_at_call 61; refine (right_no _ _ h4).mono ?_; rintro e w' ⟨rfl, rfl⟩)
                    go_ret3
                    exact CutPost.mk (a := 0) (b := 0) (c := 11) fin.out
                · have h3' : ((x.toNat : Int) == 0) = false := by simpa using h3
                  by_cases h4 : v ≤ 281474976710656
                  · have fin := FG (by omega) (by omega)
                    have h5 : okN (v : Int) = true := by simp [okN]; omega
                    clear FB FG h3
                    go_wp2_with (go_at_call 61; refine (right_yes _ _ h5).mono ?_; rintro e w' ⟨rfl, rfl⟩)
                    go_ret3
                    exact CutPost.mk (a := v) (b := k + 1) (c := 0) fin.out
                  · have fin := FB (by omega) (.inr (by omega))
                    have h5 : okN (v : Int) = false := by simp [okN]; omega
                    clear FB FG h3
                    go_wp2_with (go_at_call 61; refine (right_no _ _ h5).mono ?_; rintro e w' ⟨rfl, rfl⟩)
                    go_ret3
                    exact CutPost.mk (a := 0) (b := 0) (c := 11) fin.out
              · by_cases h4 : v ≤ 281474976710656
                · have fin := FG (by omega) (by omega)
                  have h5 : okN (v : Int) = true := by simp [okN]; omega
                  clear FB FG
                  go_wp2_with (go_at_call 61; refine (right_yes _ _ h5).mono ?_; rintro e w' ⟨rfl, rfl⟩)
                  go_ret3
                  exact CutPost.mk (a := v) (b := k + 1) (c := 0) fin.out
                · have fin := FB (by omega) (.inr (by omega))
                  have h5 : okN (v : Int) = false := by simp [okN]; omega
                  clear FB FG
                  go_wp2_with (go_at_call 61; refine (right_no _ _ h5).mono ?_; rintro e w' ⟨rfl, rfl⟩)
                  go_ret3
                  exact CutPost.mk (a := 0) (b := 0) (c := 11) fin.out
            | succ j =>
              have hcj := HC.out j (by omega)
              have hvd := valV_drop (l.take (k + 1)) j (by rw [HLEN.out]; omega)
              have hg : (l.take (k + 1)).getD j 0 = l.getD j 0 := by
                rw [List.getD, List.getD, List.getElem?_take, if_pos (by omega)]
              have hlt2 : valV ((l.take (k + 1)).drop j) < 72057594037927936 := by
                have h1 := valV_lt ((l.take (k + 1)).drop j)
                have h2 : 128 ^ ((l.take (k + 1)).drop j).length ≤ 128 ^ 8 := Nat.pow_le_pow_right (by decide) (by rw [List.length_drop, HLEN.out]; omega)
                have h3 : 128 ^ 8 = 72057594037927936 := by decide
                omega
              rw [hg] at hvd
              have ej : (((j + 1 : Nat) : Int) - 1) = (j : Int) := by omega
              rw [ej]
              obtain ⟨y, hy⟩ : ∃ y, l.getD j 0 = y := ⟨_, rfl⟩
              obtain ⟨u, hu⟩ : ∃ u, valV ((l.take (k + 1)).drop (j + 1)) = u := ⟨_, rfl⟩
              obtain ⟨v, hv⟩ : ∃ v, valV ((l.take (k + 1)).drop j) = v := ⟨_, rfl⟩
              rw [hu]
              rw [hy] at hcj hvd
              rw [hu, hv] at hvd
              rw [hv] at hlt2
              have HV := Lib.hid hv
              have e2 : 128 * (u : Int) + (y.toNat : Int) % 128 = (v : Int) := by omega
              have hb1 : 128 * (u : Int) ≤ 72057594037927936 := by omega
              have hy0 : (0 : Int) ≤ y.toNat := by omega
              have hy1 : (y.toNat : Int) < 256 := by have := y.toNat_lt; omega
              clear hu hv hy hg hvd FB FG ej
              go_wp2
              go_round
              case rel => exact ⟨j, by omega, by go_num, by rw [HV.out]⟩
              case measure => simp [intOf]
      · obtain rfl : k = l.length := by omega
        have fin := Lib.hid (cut_short HL.out (by omega))
        have h8' : ((l.length : Int) == 8) = false := by simp; omega
        clear h8
        go_wp2
        go_ret3
        exact CutPost.mk (a := 0) (b := 0) (c := 10) fin.out
end Go.Proofs.Ytfpgklpnpplnnaa

namespace Go.Proofs.Ytfpgklpnpplnnaa
open Go.RowKit

def RfAt (w : World) (m : Nat) (A : Option Addr) (n c at' : Nat) (e : Int) : Prop := w.heap[m]? = some (.cells #[.slice A n c, .int .i64 (at' : Int), .int .i64 e] 68 (0, 0))
theorem RfAt.lt {w : World} {m n c a : Nat} {A : Option Addr} {e : Int} (h : RfAt w m A n c a e) : m < w.heap.size := lt_of_block h
theorem RfAt.cells {w : World} {m n c a : Nat} {A : Option Addr} {e : Int} (h : RfAt w m A n c a e) :
    w.cell? ⟨m, 0, none⟩ = some (.slice A n c) ∧ w.cell? ⟨m, 1, none⟩ = some (.int .i64 (a : Int)) ∧ w.cell? ⟨m, 2, none⟩ = some (.int .i64 e) ∧ w.frozen? ⟨m, 0, none⟩ = false ∧ w.frozen? ⟨m, 1, none⟩ = false ∧ w.frozen? ⟨m, 2, none⟩ = false := by
  have h : w.heap[m]? = _ := h
  refine ⟨?_, ?_, ?_, ?_, ?_, ?_⟩ <;> simp [World.cell?, World.frozen?, h]
theorem RfAt.kept {w w' : World} {m n c a : Nat} {A : Option Addr} {e : Int} {row : Option Nat} (h : RfAt w m A n c a e) (hg : w.grownBy w' row) (hne : some m ≠ row) : RfAt w' m A n c a e := (hg.block m h.lt hne).trans h
theorem RfAt.setPos {w : World} {m n c a : Nat} {A : Option Addr} {e : Int} (h : RfAt w m A n c a e) (a' : Nat) : RfAt (w.setCell ⟨m, 1, none⟩ (.int .i64 (a' : Int))) m A n c a' e := heap_setCell_self h _
theorem RfAt.setErr {w : World} {m n c a : Nat} {A : Option Addr} {e : Int} (h : RfAt w m A n c a e) (e' : Int) : RfAt (w.setCell ⟨m, 2, none⟩ (.int .i64 e')) m A n c a e' := heap_setCell_self h _
theorem RfAt.drewN {w : World} {m n c a : Nat} {A : Option Addr} {e : Int} (h : RfAt w m A n c a e) (k : Nat) : RfAt (w.drewN k) m A n c a e := h

def RfPost (w : World) (m : Nat) (A : Option Addr) (c : Nat) (b : List UInt8) (v : Value) (l : List UInt8) (e : Int) (x : Ending) (w' : World) : Prop :=
  x = .returned v ∧ ∃ a, a ≤ b.length ∧ l = b.drop a ∧ RfAt w' m A b.length c a e ∧ w.grownBy w' (some m)

set_option maxHeartbeats 1000000 in
set_option maxRecDepth 100000 in
theorem rf_within {w : World} {m B a c : Nat} {A : Option Addr} {b : List UInt8} {e : Int} (h : RfAt w m A b.length c a e) (hr : RdB w B A c b) (ha : a ≤ b.length) (lo hi : Int) (hl : b.length ≤ 1000000) :
    Calls Try.prog 51 #[.pointer (some ⟨m, 0, none⟩), .int .i64 lo, .int .i64 hi] w
      (RfPost w m A c b (.int .i64 (withinR lo hi (b.drop a) e).1) (withinR lo hi (b.drop a) e).2.1 (withinR lo hi (b.drop a) e).2.2) := by
  obtain ⟨c0, c1, c2, z0, z1, z2⟩ := h.cells
  have H := Lib.hid h
  clear h
  by_cases he : e = 0
  · subst he
    have K1 := fun w : World => run_cut (T := 29) (E := 5) Try.underlying29 byte_size w A b.length c a ha
    obtain ⟨n, k, x, hcut⟩ : ∃ n k x, cutV (b.drop a) = (n, k, x) := ⟨_, _, _, rfl⟩
    have hn : ∀ w1 : World, RowAt w1 B (cutA A a c) (bytes (b.drop a)) → Calls Try.prog 58 #[.slice (cutA A a c) (b.length - a) (c - a)] w1 fun e w' => e = .returned (.tuple #[.int .i64 n, .int .i64 k, .int .i64 x]) ∧ w' = w1 := fun w1 hrr =>
      (ref_number (cutA A a c) (b.length - a) (c - a) B (b.drop a) w1 (by simp) hrr (by simp; omega)).mono fun _ _ ⟨h1, h2⟩ => ⟨by rw [h1, hcut], h2.symm⟩
    have hrr := (hr.cut ha).row
    obtain ⟨hk1, hk8, hn48, F1, F2, F3⟩ := withinR_cut (lo := lo) (hi := hi) hcut
    have HK := Lib.hid hk1
    clear hcut hk1
    generalize withinR lo hi (b.drop a) 0 = W at *
    generalize cutA A a c = A' at *
    by_cases hx : x = 0
    · subst hx
      by_cases hlo : (n : Int) < lo
      · have fin := F2 rfl (.inl hlo)
        subst fin
        clear F1 F2 F3
        go_enter Try.func51, Try.ntmps51
        go_wp2
        go_quiet ((go_at_call 58; exact Calls.quiet_of_same (hn _ (hrr.drewN _))))
        clear hn hrr K1
        go_wp2
        go_ret
        exact ⟨rfl, a, ha, rfl, (H.out.drewN _).setErr _, (grownBy_drewN' _ _ _).trans (grownBy_set _ _ _ _)⟩
      · by_cases hhi : hi < (n : Int)
        · have fin := F2 rfl (.inr hhi)
          subst fin
          clear F1 F2 F3
          go_enter Try.func51, Try.ntmps51
          go_wp2
          go_quiet ((go_at_call 58; exact Calls.quiet_of_same (hn _ (hrr.drewN _))))
          clear hn hrr K1
          go_wp2
          go_ret
          exact ⟨rfl, a, ha, rfl, (H.out.drewN _).setErr _, (grownBy_drewN' _ _ _).trans (grownBy_set _ _ _ _)⟩
        · have fin := F3 rfl (by omega)
          subst fin
          have FD : Hid (a + k ≤ b.length ∧ List.drop k (b.drop a) = b.drop (a + k)) := ⟨by have := HK.out; simp at this; omega, by rw [List.drop_drop]⟩
          have EK := Lib.hid (show ((a : Int) + (k : Int)) = ((a + k : Nat) : Int) by omega)
          clear F1 F2 F3
          go_enter Try.func51, Try.ntmps51
          go_wp2
          go_quiet ((go_at_call 58; exact Calls.quiet_of_same (hn _ (hrr.drewN _))))
          clear hn hrr K1
          go_wp2
          go_ret
          exact ⟨rfl, a + k, FD.out.1, FD.out.2, by rw [EK.out]; exact (H.out.drewN _).setPos _, (grownBy_drewN' _ _ _).trans (grownBy_set _ _ _ _)⟩
    · have fin := F1 hx
      have hx' : ((x : Int) == 0) = false := by simpa using hx
      subst fin
      clear F1 F2 F3
      go_enter Try.func51, Try.ntmps51
      go_wp2
      go_quiet ((go_at_call 58; exact Calls.quiet_of_same (hn _ (hrr.drewN _))))
      clear hn hrr K1
      go_wp2
      go_ret
      exact ⟨rfl, a, ha, rfl, (H.out.drewN _).setErr _, (grownBy_drewN' _ _ _).trans (grownBy_set _ _ _ _)⟩
  · rw [withinR_err he]
    go_enter Try.func51, Try.ntmps51
    go_wp2
    go_ret
    exact ⟨rfl, a, ha, rfl, H.out, World.grownBy.refl _ _⟩

set_option maxHeartbeats 400000 in
theorem rf_end {w : World} {m a c : Nat} {A : Option Addr} {b : List UInt8} {e : Int} (h : RfAt w m A b.length c a e) (ha : a ≤ b.length) :
    Calls Try.prog 36 #[.pointer (some ⟨m, 0, none⟩)] w (RfPost w m A c b (.int .i64 (endR (b.drop a) e)) (b.drop a) e) := by
  obtain ⟨c0, c1, c2, z0, z1, z2⟩ := h.cells
  have H := Lib.hid h
  clear h
  by_cases he : e = 0
  · subst he
    by_cases hlt : a < b.length
    · have fin : endR (b.drop a) 0 = 14 := by unfold endR; rw [if_pos ⟨rfl, by simp; omega⟩]
      rw [fin]
      clear fin
      go_enter Try.func36, Try.ntmps36
      go_wp2
      go_quiet (fail)
      go_wp2
      go_ret
      exact ⟨rfl, a, ha, rfl, H.out.drewN _, grownBy_drewN' _ _ _⟩
    · have fin : endR (b.drop a) 0 = 0 := by unfold endR; rw [if_neg (by simp; omega)]
      rw [fin]
      have hlt' : decide (a < b.length) = false := by simp; omega
      clear fin hlt
      go_enter Try.func36, Try.ntmps36
      go_wp2
      go_quiet (fail)
      go_wp2
      go_ret
      exact ⟨rfl, a, ha, rfl, H.out.drewN _, grownBy_drewN' _ _ _⟩
  · have fin : endR (b.drop a) e = e := by unfold endR; rw [if_neg (by simp [he])]
    have he' : (e == 0) = false := by simpa using he
    rw [fin]
    clear fin he
    go_enter Try.func36, Try.ntmps36
    go_wp2
    go_quiet (fail)
    go_wp2
    go_ret
    exact ⟨rfl, a, ha, rfl, H.out.drewN _, grownBy_drewN' _ _ _⟩

theorem RdB.drewN {w : World} {B : Nat} {A : Option Addr} {c : Nat} {l : List UInt8} (h : RdB w B A c l) (k : Nat) : RdB (w.drewN k) B A c l := ⟨h.row.drewN k, h.room, h.cap⟩
theorem RdB.grown {w w' : World} {B m c : Nat} {A : Option Addr} {l : List UInt8} (h : RdB w B A c l) (hg : w.grownBy w' (some m)) (hm : B ≤ m) (hB : B ≤ w.heap.size) : RdB w' B A c l :=
  h.keep fun p hp => World.cell?_of_block (hg.block p.block (by omega) (fun e => by injection e with e; omega))

set_option maxHeartbeats 1000000 in
set_option maxRecDepth 100000 in
theorem rf_text {w : World} {m B a c : Nat} {A : Option Addr} {b : List UInt8} {e : Int} (h : RfAt w m A b.length c a e) (hr : RdB w B A c b) (ha : a ≤ b.length) (hm : B ≤ m) (most : Int) (hl : b.length ≤ 1000000) :
    Calls Try.prog 34 #[.pointer (some ⟨m, 0, none⟩), .int .i64 most] w
      (RfPost w m A c b (.string (str (textR most (b.drop a) e).1)) (textR most (b.drop a) e).2.1 (textR most (b.drop a) e).2.2) := by
  obtain ⟨c0, c1, c2, z0, z1, z2⟩ := h.cells
  have hwi := rf_within h hr ha 0 most hl
  have hBw : B ≤ w.heap.size := by have := h.lt; omega
  have hsame := withinR_same 0 most (b.drop a) e
  obtain ⟨n, hn⟩ : ∃ n, (withinR 0 most (b.drop a) e).1 = n := ⟨_, rfl⟩
  obtain ⟨l1, hl1⟩ : ∃ l1, (withinR 0 most (b.drop a) e).2.1 = l1 := ⟨_, rfl⟩
  obtain ⟨e1, he1⟩ : ∃ e1, (withinR 0 most (b.drop a) e).2.2 = e1 := ⟨_, rfl⟩
  have hdef : textR most (b.drop a) e = if l1.length < n then ([], b.drop a, if e1 = 0 then 10 else e1) else (l1.take n, l1.drop n, e1) := by unfold textR; rw [hn, hl1, he1]
  rw [hn, hl1, he1] at hwi hsame
  generalize textR most (b.drop a) e = T at *
  have H := Lib.hid h
  have HS := Lib.hid hsame
  have HDEF := Lib.hid hdef
  clear hn hl1 he1 h hsame hdef
  go_enter Try.func34, Try.ntmps34
  go_wp2_with fail
  refine hwi.mono ?_; rintro y w1 ⟨rfl, a1, ha1, hla, hf1, hg1⟩
  clear hwi c0 c1 c2 z0 z1 z2
  obtain ⟨c0, c1, c2, z0, z1, z2⟩ := hf1.cells
  have HF := Lib.hid hf1
  have HG := Lib.hid hg1
  have hr1 := hr.grown hg1 hm hBw
  clear hf1 hg1 hr
  by_cases he : e1 = 0
  · subst he
    have hll : l1.length = b.length - a1 := by rw [hla]; simp
    by_cases hlt : l1.length < n
    · have fin : T = ([], b.drop a, 10) := by rw [HDEF.out, if_pos hlt, if_pos rfl]
      subst fin
      have hlt2 : (b.length : Int) - a1 < n := by omega
      clear HDEF hla hll hlt
      go_wp2
      go_quiet (fail)
      go_wp2
      go_ret
      exact ⟨rfl, a, ha, rfl, ((HF.out.drewN _).setPos _).setErr _, ((HG.out.trans (grownBy_drewN' _ _ _)).trans (grownBy_set _ _ _ _)).trans (grownBy_set _ _ _ _)⟩
    · have fin : T = (l1.take n, l1.drop n, 0) := by rw [HDEF.out, if_neg hlt]
      subst fin
      have hlt2 : ¬ (b.length : Int) - a1 < n := by omega
      have hroom := hr1.room
      have hcap := hr1.cap
      have K1 := fun w : World => run_cut2 (T := 29) (E := 5) Try.underlying29 byte_size w A b.length c a1 ((a1 : Int) + (n : Int)) (by omega) (by omega)
      have htn : ((a1 : Int) + (n : Int)).toNat - a1 = (l1.take n).length := by rw [List.length_take]; omega
      rw [htn] at K1
      have hrow2 := (hr1.cut ha1).take n
      rw [← hla] at hrow2
      have K2 := fun j : Nat => conv_str (P := Try.prog) (c - a1) 29 5 9 Try.underlying29 Try.underlying5 Try.underlying9 (hrow2.drewN j).row
      have FD : Hid (a1 + n ≤ b.length ∧ List.drop n l1 = b.drop (a1 + n)) := ⟨by omega, by rw [hla, List.drop_drop]⟩
      have EK := Lib.hid (show ((a1 : Int) + (n : Int)) = ((a1 + n : Nat) : Int) by omega)
      have hb63 : (a1 : Int) + n ≤ 1000000 := by omega
      generalize cutA A a1 c = A' at *
      generalize (l1.take n).length = q at *
      clear HDEF hla hll hlt htn hrow2 hroom hcap
      go_wp2
      go_quiet (fail)
      go_wp2
      go_quiet (fail)
      go_wp2
      go_ret
      exact ⟨rfl, a1 + n, FD.out.1, FD.out.2, by rw [EK.out]; exact (HF.out.drewN _).setPos _, (HG.out.trans (grownBy_drewN' _ _ _)).trans (grownBy_set _ _ _ _)⟩
  · have hs := HS.out he
    have fin : T = ([], b.drop a, e1) := by
      rw [HDEF.out, hs.1, if_neg (by omega), hs.2]; simp
    subst fin
    have he' : (e1 == 0) = false := by simpa using he
    have HL := Lib.hid (hs.2.symm.trans hla)
    clear HDEF hs he hla
    go_wp2
    go_ret
    exact ⟨rfl, a1, ha1, HL.out, HF.out, HG.out⟩
end Go.Proofs.Ytfpgklpnpplnnaa

namespace Go.Proofs.Ytfpgklpnpplnnaa
open Go.RowKit

end Go.Proofs.Ytfpgklpnpplnnaa

namespace Go.Proofs.Ytfpgklpnpplnnaa
open Go.RowKit

end Go.Proofs.Ytfpgklpnpplnnaa

namespace Go.Proofs.Ytfpgklpnpplnnaa
open Go.RowKit

theorem le_alloc {n : Nat} {w : World} (h : n ≤ w.heap.size) (o : Obj) : n ≤ (w.alloc o).heap.size := by simp; omega
end Go.Proofs.Ytfpgklpnpplnnaa

namespace Go.Proofs.Ytfpgklpnpplnnaa
open Go.RowKit

theorem EdgesOk.all {E : List (List UInt8)} (h : EdgesOk E) : ∀ x ∈ E, x.length ≤ 17 := fun x hx => by
  obtain ⟨m, rfl, _, h2⟩ := h
  rcases List.mem_cons.1 hx with rfl | hx
  · simp
  · exact h2 x hx
end Go.Proofs.Ytfpgklpnpplnnaa

namespace Go.Proofs.Ytfpgklpnpplnnaa
open Go.RowKit

end Go.Proofs.Ytfpgklpnpplnnaa

namespace Go.Proofs.Ytfpgklpnpplnnaa
open Go.RowKit

end Go.Proofs.Ytfpgklpnpplnnaa

namespace Go.Proofs.Ytfpgklpnpplnnaa
open Go.RowKit

end Go.Proofs.Ytfpgklpnpplnnaa

namespace Go.Proofs.Ytfpgklpnpplnnaa
open Go.RowKit

end Go.Proofs.Ytfpgklpnpplnnaa
