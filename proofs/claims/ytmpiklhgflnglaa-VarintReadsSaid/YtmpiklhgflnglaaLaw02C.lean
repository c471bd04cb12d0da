/-
  The walk of the second layer's law on what is put.
-/
import Derived.Test.YtmpiklhgflnglaaLaw02B
namespace Go.Proofs.Ytmpiklhgflnglaa
open Go.RowKit

theorem okL_take (l : List Int) (k : Nat) (h : k < l.length) : okL (l.take (k + 1)) = (okL (l.take k) && okN (l.getD k 0)) := by
  rw [take_snoc_int l k h, okL, okL, List.all_append]; simp
theorem drop_cons_int (l : List Int) (k : Nat) (h : k < l.length) : l.drop k = l.getD k 0 :: l.drop (k + 1) := by
  rw [List.drop_eq_getElem_cons h]; simp [List.getD, List.getElem?_eq_getElem h]
theorem drop_cons_list (l : List (List UInt8)) (k : Nat) (h : k < l.length) : l.drop k = l.getD k [] :: l.drop (k + 1) := by
  rw [List.drop_eq_getElem_cons h]; simp [List.getD, List.getElem?_eq_getElem h]
theorem textsV_len (l : List (List UInt8)) (h : ∀ j, j < l.length → (l.getD j []).length ≤ 300) : (textsV l).length ≤ 309 * l.length := by
  induction l with
  | nil => simp [textsV]
  | cons x r ih =>
    rw [textsV_cons, List.length_append, List.length_append, List.length_cons]
    have h1 : x.length ≤ 300 := h 0 (by simp)
    have h2 := putV_len10 x.length (by omega)
    have h3 := ih fun j hj => h (j + 1) (by simpa using hj)
    omega
theorem okL_le {l : List Int} (h : okL l = true) : ∀ n ∈ l, n ≤ 9223372036854775807 := fun n hn => (okL_i64 h n hn).2

set_option maxHeartbeats 1000000 in
theorem varintPuts_out (A A2 A3 : Option Addr) (n c n2 c2 n3 c3 : Nat) (w : World) (hn : n ≤ maxLen) (hn2 : n2 ≤ maxLen) (hn3 : n3 ≤ maxLen) (h : 300 < n ∨ 60 < n2 ∨ 30 < n3) :
    Calls Try.prog 3 #[.slice A n c, .slice A2 n2 c2, .slice A3 n3 c3] w fun e w' => e = .returned (.bool true) ∧ Below w.heap.size w w' := by
  unfold maxLen at hn hn2 hn3
  by_cases h1 : 300 < n
  · go_enter Try.func3, Try.ntmps3
    go_wp2_with fail
    refine (awake02 _).mono ?_; rintro e w1 ⟨rfl, hb⟩
    go_wp2
    go_ret
    exact ⟨rfl, hb⟩
  · by_cases h2 : 60 < n2
    · go_enter Try.func3, Try.ntmps3
      go_wp2_with fail
      refine (awake02 _).mono ?_; rintro e w1 ⟨rfl, hb⟩
      go_wp2
      go_ret
      exact ⟨rfl, hb⟩
    · have h3 : 30 < n3 := by omega
      go_enter Try.func3, Try.ntmps3
      go_wp2_with fail
      refine (awake02 _).mono ?_; rintro e w1 ⟨rfl, hb⟩
      go_wp2
      go_ret
      exact ⟨rfl, hb⟩

theorem varint_new' (A : Option Addr) (n c B : Nat) (l : List UInt8) (w : World) (hn : n = l.length) (h : RdB w B A c l) :
    Calls Try.prog 12 #[.slice A n c] w fun e w' => e = .returned (.pointer (some ⟨w.heap.size, 0, none⟩)) ∧ RdAt w' w.heap.size l 0 ∧ Below w.heap.size w w' := by
  subst hn; exact varint_new A c B l w h
theorem ref_eq_same (A A2 : Option Addr) (c c2 m1 m2 B B2 : Nat) (a : List UInt8) (w : World) (hn1 : m1 = a.length) (hn2 : m2 = a.length) (ha : RowAt w B A (bytes a)) (hb : RowAt w B2 A2 (bytes a)) (hl : a.length ≤ 9223372036854775807) :
    Calls Try.prog 9 #[.slice A m1 c, .slice A2 m2 c2] w fun e w' => e = .returned (.bool true) ∧ w.grownBy w' none :=
  (ref_eq A A2 c c2 m1 m2 B B2 a a w hn1 hn2 ha hb hl).mono fun _ _ ⟨h1, _, h2⟩ => ⟨by rw [h1]; simp, grown_quiet h2⟩
theorem varint_text' (A : Option Addr) (n c B : Nat) (b : List UInt8) (A2 : Option Addr) (n2 c2 : Nat) (l : List (List UInt8)) (w : World) (hn : n = b.length) (hn2 : n2 = l.length) (hl2 : l.length ≤ 9223372036854775807) (hb : RdB w B A c b) (hr : RowAt w B A2 (strs l)) (hB : B ≤ w.heap.size)
    (hlen : b.length + (textsV l).length ≤ 140737488355328) :
    Calls Try.prog 11 #[.slice A n c, .slice A2 n2 c2] w (RetB w.heap.size w (b ++ textsV l)) := by
  subst hn; exact varint_text A c B b A2 n2 c2 l w hn2 hl2 hb hr hB hlen
theorem putsV_drop (l : List Int) (k : Nat) (h : k < l.length) : putsV (l.drop k) = putV (l.getD k 0).toNat ++ putsV (l.drop (k + 1)) := by rw [drop_cons_int l k h, putsV_cons]
theorem textsV_drop (l : List (List UInt8)) (k : Nat) (h : k < l.length) : textsV (l.drop k) = putV (l.getD k []).length ++ (l.getD k [] ++ textsV (l.drop (k + 1))) := by rw [drop_cons_list l k h, textsV_cons]

set_option maxHeartbeats 4000000 in
set_option maxRecDepth 100000 in
theorem varintPuts_in (A A2 A3 : Option Addr) (c c2 c3 : Nat) (b : List UInt8) (l : List Int) (s : List (List UInt8)) (w : World) (hr : RdB w w.heap.size A c b) (hl : RowAt w w.heap.size A2 (ints l)) (hall : AllI64 l)
    (hs : RowAt w w.heap.size A3 (strs s)) (hsl : ∀ x ∈ s, x.length ≤ maxLen) (n1 : b.length ≤ 300) (n2 : l.length ≤ 60) (n3 : s.length ≤ 30) :
    Calls Try.prog 3 #[.slice A b.length c, .slice A2 l.length c2, .slice A3 s.length c3] w fun e w' => e = .returned (.bool true) ∧ Below w.heap.size w w' := by
  go_enter Try.func3, Try.ntmps3
  go_wp2_with fail
  refine (awake02 _).mono ?_; rintro e w1 ⟨rfl, hb1⟩
  have hr1 := hr.below hb1
  have hl1 := hl.below hb1
  have hs1 := hs.below hb1
  have hsz1 := hb1.size
  clear hr hl hs
  go_wp2_with fail
  go_loop [37] (fun i => ∃ k : Nat, k ≤ s.length ∧ (∀ j, j < k → (s.getD j []).length ≤ 300) ∧ i = .int .i64 k) (fun i => s.length - (intOf i).toNat)
  case atStart => exact ⟨0, by omega, fun j hj => by omega, rfl⟩
  case round =>
    obtain ⟨k, hk, hkl, rfl⟩ := hrel
    have HKL := Lib.hid hkl
    clear hkl
    by_cases hlt : k < s.length
    · obtain ⟨b0, o0, rfl, _, hc⟩ := hs1.strs_at (by omega)
      have hcell := hc k hlt
      have hx0 := str_size (s.getD k [])
      have hxm : (s.getD k []).length ≤ 9223372036854775807 := by
        have := hsl (s.getD k []) (by rw [List.getD, List.getElem?_eq_getElem hlt]; simp)
        unfold maxLen at this
        omega
      have NX : Hid ((s.getD k []).length ≤ 300 → ∀ j, j < k + 1 → (s.getD j []).length ≤ 300) := fun h j hj => by
        rcases Nat.lt_or_ge j k with h' | h'
        · exact HKL.out j h'
        · obtain rfl : j = k := by omega
          exact h
      obtain ⟨x, hx⟩ : ∃ x, s.getD k [] = x := ⟨_, rfl⟩
      rw [hx] at hcell hx0 hxm NX
      clear hx hc hall hsl
      by_cases h3 : 300 < x.length
      · have h3' : 300 < (str x).size := by omega
        have h3'' : (str x).size ≤ 9223372036854775807 := by omega
        clear hx0
        go_wp2
        go_ret
        exact ⟨rfl, hb1⟩
      · have h3' : (str x).size ≤ 300 := by omega
        have nx := Lib.hid (NX.out (by omega))
        clear hx0
        go_wp2
        go_round
        case rel => exact ⟨k + 1, by omega, nx.out, by go_num⟩
        case measure => simp [intOf]; omega
    · obtain rfl : k = s.length := by omega
      have HTL := Lib.hid (textsV_len s HKL.out)
      go_wp2_with fail
      go_loop [9, 47] (fun r i => ∃ k : Nat, k ≤ l.length ∧ r = .bool (okL (l.take k)) ∧ i = .int .i64 k) (fun _ i => l.length - (intOf i).toNat)
      case atStart => exact ⟨0, by omega, rfl, rfl⟩
      case round =>
        obtain ⟨k, hk, rfl, rfl⟩ := hrel
        by_cases hlt : k < l.length
        · obtain ⟨b0, o0, rfl, _, hc⟩ := hl1.ints_at (by omega)
          have hcell := hc k hlt
          have HT := Lib.hid (okL_take l k hlt)
          obtain ⟨x, hx⟩ : ∃ x, l.getD k 0 = x := ⟨_, rfl⟩
          rw [hx] at hcell HT
          clear hx hc hall hsl
          by_cases h1 : okL (l.take k) = true
          · rw [h1] at HT ⊢
            by_cases h2 : okN x = true
            · go_wp2_with (go_at_call 7; refine (right_yes _ _ h2).mono ?_; rintro e w' ⟨rfl, rfl⟩)
              go_round
              case rel => exact ⟨k + 1, by omega, by rw [HT.out, h2]; rfl, by go_num⟩
              case measure => simp [intOf]; omega
            · have h2 : okN x = false := by simpa using h2
              go_wp2_with (go_at_call 7; refine (right_no _ _ h2).mono ?_; rintro e w' ⟨rfl, rfl⟩)
              go_round
              case rel => exact ⟨k + 1, by omega, by rw [HT.out, h2]; rfl, by go_num⟩
              case measure => simp [intOf]; omega
          · have h1 : okL (l.take k) = false := by simpa using h1
            rw [h1] at HT ⊢
            go_wp2_with fail
            go_round
            case rel => exact ⟨k + 1, by omega, by rw [HT.out]; rfl, by go_num⟩
            case measure => simp [intOf]; omega
        · obtain rfl : k = l.length := by omega
          rw [List.take_length]
          have hput := varint_put A c _ b A2 l.length c2 l w1 rfl hr1 hl1 hall (by omega) (by omega)
          have hbuf := putsV_len l (fun n hn => (hall n hn).2)
          clear hall hsl hlt hk
          go_wp2_with fail
          refine hput.mono ?_; rintro e w2 hpost
          clear hput
          rcases hpost with ⟨hok, v2, rfl, hown2, hb2⟩ | ⟨hok, rfl, rfl⟩
          · rw [hok]
            have OK := Lib.hid hok
            clear hok
            have hr2 := hr1.below (hb2.mono hsz1)
            have hl2 := hl1.below (hb2.mono hsz1)
            have hs2 := hs1.below (hb2.mono hsz1)
            have HB2 : Hid (Below w.heap.size w w2) := hb1.trans (hb2.mono hsz1)
            have hsz2 := HB2.out.size
            clear hr1 hl1 hs1 hb2 hsz1 hb1
            /-TAIL-/
            obtain ⟨Ag, cg, rfl, hrg⟩ := hown2.read
            obtain ⟨M, hM⟩ : ∃ M, (b ++ putsV l).length = M := ⟨_, rfl⟩
            have hMM : M = b.length + (putsV l).length := by rw [← hM, List.length_append]
            rw [hM]
            have HM := Lib.hid hM
            have HMM := Lib.hid hMM
            have hMs : M ≤ 1000000 := by omega
            have hbM : b.length ≤ M := by omega
            clear hM hMM
            have hz : OwnB (w2.alloc (.cells #[] 5)) w2.heap.size (.slice (some ⟨w2.heap.size, 0, none⟩) 0 0) [] := own_none w2 5 1
            have hbz : Below w2.heap.size w2 (w2.alloc (.cells #[] 5)) := (Below.refl _ _).alloc (Nat.le_refl _) _
            have hle := hbz.size
            have hrow := (hr2.below (hbz.mono hsz2)).row
            have hm1 : ([] : List UInt8).length + b.length ≤ 140737488355328 := by simp; omega
            have HBZ := Lib.hid hbz
            have HR2 := Lib.hid hr2
            clear hown2 hbz hr2
            go_wp2_with (first
              | (at_builtin; refine wpList_app_row_g rfl (.tmp 76) (.tmp 77) rfl w2.heap.size (.slice (some ⟨w2.heap.size, 0, none⟩) 0 0) [] rfl hz w.heap.size A c b.length b rfl rfl hrow hm1 hle ?_; intro v3 w3 hown3 _ hb3 _)
              | fail)
            have hb3 := HBZ.out.trans hb3
            have hl3 := hl2.below (hb3.mono hsz2)
            have hsz3 := hb3.size
            rw [List.nil_append] at hown3
            have hrp := ref_put A2 l.length c2 l w3 rfl (hl3.more (Nat.le_trans hsz2 hsz3)) OK.out (by omega)
            have HB3 := Lib.hid hb3
            clear hz hrow hm1 hle HBZ hl3 hb3
            (with_reducible refine hrp.mono ?_); rintro e w4 ⟨v4, rfl, hown4, hb4⟩
            clear hrp
            have hown3 := hown3.below hb4
            obtain ⟨Ap, cp, rfl, hrap⟩ := hown4.read
            have hsz4 := hb4.size
            have hm2 : b.length + (putsV l).length ≤ 140737488355328 := by omega
            have hle4 : w2.heap.size ≤ w4.heap.size := Nat.le_trans hsz3 hsz4
            have HB4 : Hid (Below w2.heap.size w2 w4) := HB3.out.trans (hb4.mono hsz3)
            have hrapr := hrap.row
            clear hown4 hb4 hrap
            go_wp2_with (first
              | (at_builtin; refine wpList_app_row_g rfl (.tmp 78) (.tmp 80) rfl w2.heap.size v3 b rfl hown3 _ Ap cp _ (putsV l) rfl rfl hrapr hm2 hle4 ?_; intro v5 w5 hown5 _ hb5 _)
              | fail)
            have hb5 := HB4.out.trans hb5
            obtain ⟨Aq, cq, rfl, hrq⟩ := hown5.read
            rw [HM.out]
            have hrg5 := hrg.below hb5
            have hsz5 := hb5.size
            have HB5 := Lib.hid hb5
            have hlen2 : (b ++ putsV l).length ≤ 9223372036854775807 := by rw [HM.out]; omega
            have heq := ref_eq_same Ag Aq cg cq M M _ _ (b ++ putsV l) w5 HM.out.symm HM.out.symm hrg5.row hrq.row hlen2
            clear hown3 hown5 hrapr hm2 hle4 HB4 HB3 hrq hb5 hrg
            (with_reducible refine heq.mono ?_); rintro e w6 ⟨rfl, hg6⟩
            clear heq
            have HB6 : Hid (Below w2.heap.size w2 w6) := HB5.out.trans ((grown_none hg6).mono hsz5)
            have hrg6 := hrg5.quiet hg6 hsz5
            have hs6 := hs2.below (HB6.out.mono hsz2)
            have hl6 := hl2.below (HB6.out.mono hsz2)
            have hsz6 := HB6.out.size
            have HTL2 := HTL.out
            have htx := varint_text' Ag M cg w2.heap.size (b ++ putsV l) A3 s.length c3 s w6 HM.out.symm rfl (by omega) hrg6 (hs6.more hsz2) hsz6 (by rw [HM.out]; omega)
            clear hg6 HB5 hrg5 hl2 hs2
            go_wp2_with fail
            (with_reducible refine htx.mono ?_); rintro e w7 ⟨v7, rfl, hown7, hb7⟩
            clear htx
            obtain ⟨Aa, ca, rfl, hra⟩ := hown7.read
            have hrg7 := hrg6.below (hb7.mono hsz6)
            have hs7 := hs6.below (hb7.mono (Nat.le_trans hsz2 hsz6))
            have hl7 := hl6.below (hb7.mono (Nat.le_trans hsz2 hsz6))
            have HB7 : Hid (Below w2.heap.size w2 w7) := HB6.out.trans (hb7.mono hsz6)
            have hsz7 := HB7.out.size
            have hca := hra.room
            have hcm := hra.cap
            obtain ⟨N, hN⟩ : ∃ N, (b ++ putsV l ++ textsV s).length = N := ⟨_, rfl⟩
            have hNN : N = b.length + (putsV l).length + (textsV s).length := by rw [← hN, List.length_append, List.length_append]
            rw [hN] at hca
            rw [hN]
            have K1 := fun w : World => run_cut (T := 22) (E := 5) Try.underlying22 byte_size w Aa N ca b.length (by omega)
            have hcut := hra.cut (k := b.length) (by rw [List.length_append, List.length_append]; omega)
            rw [List.append_assoc, List.drop_left] at hcut
            have hrow1 := hrg7.row
            have hrow2 := (hra.take M).row
            rw [List.take_append_of_le_length (by rw [HM.out]; exact Nat.le_refl _), List.take_of_length_le (by rw [HM.out]; exact Nat.le_refl _)] at hrow2
            have hnew := varint_new' (cutA Aa b.length ca) (N - b.length) (ca - b.length) w7.heap.size (putsV l ++ textsV s) w7 (by rw [List.length_append]; omega) hcut
            generalize cutA Aa b.length ca = Ab at *
            unfold maxLen at hcm
            clear hown7 hb7 hrg6 hs6 hl6 HB6 hra hrg7 hcut
            have hNb : b.length ≤ N := by omega
            have hNs : N ≤ 1000000 := by omega
            have hMN : M ≤ N := by have := HMM.out; omega
            have HNN := Lib.hid hNN
            have hlen3 : (b ++ putsV l).length ≤ 9223372036854775807 := by rw [HM.out]; omega
            clear hN hNN HTL2 hlen2 hbuf
            go_wp2_with fail
            all_goals
              (with_reducible refine hnew.mono ?_); rintro e w8 ⟨rfl, hrd, hb8⟩
              have hrow1 := hrow1.below (hb8.mono hsz7)
              have hrow2 := hrow2.below hb8
              have hs8 := hs7.below (hb8.mono (Nat.le_trans hsz2 hsz7))
              have hl8 := hl7.below (hb8.mono (Nat.le_trans hsz2 hsz7))
              have HB8 : Hid (Below w.heap.size w w8) := (HB2.out.trans (HB7.out.mono hsz2)).trans (hb8.mono (Nat.le_trans hsz2 hsz7))
              obtain ⟨rb, hrb⟩ : ∃ rb, w7.heap.size = rb := ⟨_, rfl⟩
              rw [hrb] at hrd hrow2 hsz7 ⊢
              have hwb : w.heap.size ≤ rb := by omega
              have hwb2 : rb ≤ w8.heap.size := by have := hb8.size; omega
              clear hnew K1 hs7 hl7 hb8 hrb HB7
              go_wp2_with fail
              go_loopw [98] (fun i wr => ∃ k : Nat, k ≤ l.length ∧ i = .int .i64 k ∧ RdAt wr rb (putsV (l.drop k) ++ textsV s) 0 ∧ Below rb w8 wr) (fun i _ => l.length - (intOf i).toNat)
              case atStart => exact ⟨0, by omega, rfl, hrd, Below.refl _ _⟩
              case round =>
                obtain ⟨k, hk, rfl, hrd, hbr⟩ := hrel
                have hszr : rb ≤ wr.heap.size := Nat.le_trans hwb2 hbr.size
                by_cases hlt : k < l.length
                · obtain ⟨b0, o0, rfl, hb0, hc⟩ := (hl8.below (hbr.mono hwb)).ints_at (by omega)
                  have hcell := hc k hlt
                  have hx := okL_at OK.out hlt
                  obtain ⟨m, hm⟩ := Int.eq_ofNat_of_zero_le hx.1
                  have hpd := putsV_drop l k hlt
                  rw [hm] at hcell hx hpd
                  rw [hpd, Int.toNat_natCast, List.append_assoc] at hrd
                  have hnum := rd_number (givenAt_some hrd) (by
                    have h1 := putsV_len (l.drop (k + 1)) (fun n hn => okL_le OK.out n (List.mem_of_mem_drop hn))
                    have h2 := putV_len10 m (by omega)
                    have h3 := HTL.out
                    rw [List.length_drop] at h1
                    simp only [List.length_append]
                    omega)
                  rw [numR_put m _ (by omega)] at hnum
                  clear hc hm hpd hrd hx
                  go_wp2_with fail
                  (with_reducible refine hnum.mono ?_); rintro e w9 ⟨rfl, hrd, hg⟩
                  clear hnum
                  have HR := Lib.hid hrd
                  have HB := Lib.hid (below_row hbr hg (Nat.le_refl _) hszr)
                  clear hrd hg hbr
                  go_wp2
                  go_roundw
                  case rel => exact ⟨k + 1, by omega, by go_num, HR.out, HB.out⟩
                  case measure => simp [intOf]; omega
                · obtain rfl : k = l.length := by omega
                  rw [List.drop_length, putsV_nil, List.nil_append] at hrd
                  clear hlt hk
                  go_wp2_with fail
                  go_loopw [109] (fun i wr => ∃ k : Nat, k ≤ s.length ∧ i = .int .i64 k ∧ RdAt wr rb (textsV (s.drop k)) 0 ∧ Below rb w8 wr) (fun i _ => s.length - (intOf i).toNat)
                  case atStart => exact ⟨0, by omega, rfl, hrd, hbr⟩
                  case round =>
                    obtain ⟨k, hk, rfl, hrd, hbr⟩ := hrel
                    have hszr : rb ≤ wr.heap.size := Nat.le_trans hwb2 hbr.size
                    by_cases hlt : k < s.length
                    · obtain ⟨b0, o0, rfl, hb0, hc⟩ := (hs8.below (hbr.mono hwb)).strs_at (by omega)
                      have hcell := hc k hlt
                      have hx := HKL.out k hlt
                      have htd := textsV_drop s k hlt
                      have hlen4 : (textsV (s.drop (k + 1))).length ≤ (textsV s).length := by
                        have := congrArg (fun t => (textsV t).length) (List.take_append_drop (k + 1) s)
                        simp only [textsV_append, List.length_append] at this
                        omega
                      obtain ⟨x, hxe⟩ : ∃ x, s.getD k [] = x := ⟨_, rfl⟩
                      rw [hxe] at hcell hx htd
                      rw [htd] at hrd
                      have htext := rd_text (givenAt_some hrd) (x.length : Int) (by
                        have h2 := putV_len10 x.length (by omega)
                        have h3 := HTL.out
                        simp only [List.length_append]
                        omega)
                      rw [textR_put x _ (by omega)] at htext
                      have hsz := str_size x
                      rw [← hsz] at htext
                      have hx2 : (str x).size ≤ 300 := by omega
                      clear hc hxe htd hrd hlen4 hsz hx
                      go_wp2_with fail
                      (with_reducible refine htext.mono ?_); rintro e w9 ⟨rfl, hrd, hg⟩
                      clear htext
                      have HR := Lib.hid hrd
                      have HB := Lib.hid (below_row hbr hg (Nat.le_refl _) hszr)
                      clear hrd hg hbr
                      go_wp2
                      go_roundw
                      case rel => exact ⟨k + 1, by omega, by go_num, HR.out, HB.out⟩
                      case measure => simp [intOf]; omega
                    · obtain rfl : k = s.length := by omega
                      rw [List.drop_length] at hrd
                      have hend := rd_end (givenAt_some hrd)
                      rw [show endR (textsV []) 0 = 0 from rfl] at hend
                      clear hlt hk hrd
                      go_wp2_with fail
                      refine hend.mono ?_; rintro e w9 ⟨rfl, hrd, hg⟩
                      clear hend
                      have hbr := below_row hbr hg (Nat.le_refl _) hszr
                      have hszr := Nat.le_trans hszr hg.size
                      clear hg
                      go_wp2_with fail
                      refine (rd_left (givenAt_some hrd)).mono ?_; rintro e w10 ⟨rfl, hrd, hg⟩
                      have hbr := below_row hbr hg (Nat.le_refl _) hszr
                      have hrow1 := hrow1.below (hbr.mono hsz7)
                      have hrow2 := hrow2.below hbr
                      have heq := fun m1 h1 => ref_eq_same Aa Ag ca cg m1 M _ _ (b ++ putsV l) w10 h1 HM.out.symm hrow2 hrow1 hlen3
                      have HBR := Lib.hid hbr
                      clear hg hrd hbr
                      go_wp2_with fail
                      (with_reducible refine (heq _ HM.out.symm).mono ?_); rintro e w11 ⟨rfl, hg⟩
                      have HB11 := Lib.hid ((HB8.out.trans (HBR.out.mono hwb)).trans (grown_none hg |>.mono (Nat.le_trans HB8.out.size (HBR.out.size))))
                      clear heq hg hrow1 hrow2
                      go_wp2
                      go_ret
                      exact ⟨rfl, HB11.out⟩
          · rw [hok]
            go_wp2
            go_ret
            exact ⟨rfl, hb1⟩

theorem varintPuts_walk (A A2 A3 : Option Addr) (c c2 c3 : Nat) (b : List UInt8) (l : List Int) (s : List (List UInt8)) (w : World) (hr : RdB w w.heap.size A c b) (hl : RowAt w w.heap.size A2 (ints l)) (hall : AllI64 l) (hlm : l.length ≤ maxLen)
    (hs : RowAt w w.heap.size A3 (strs s)) (hsl : ∀ x ∈ s, x.length ≤ maxLen) (hsm : s.length ≤ maxLen) :
    Calls Try.prog 3 #[.slice A b.length c, .slice A2 l.length c2, .slice A3 s.length c3] w fun e w' => e = .returned (.bool true) ∧ Below w.heap.size w w' := by
  by_cases h : 300 < b.length ∨ 60 < l.length ∨ 30 < s.length
  · exact varintPuts_out A A2 A3 _ c _ c2 _ c3 w (Nat.le_trans hr.room hr.cap) hlm hsm h
  · exact varintPuts_in A A2 A3 c c2 c3 b l s w hr hl hall hs hsl (by omega) (by omega) (by omega)
end Go.Proofs.Ytmpiklhgflnglaa
