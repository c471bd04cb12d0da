/-
  Several texts in one: KnwG, SpanC, KnwH, KnwI, KnwCap, Law14A, Law15A, Law15B, Law15C.
-/
import Derived.Deep.CutRange
import Derived.BigRegion
import Derived.Test.YtaodifpnfejbbaaGreatMg6
/-
  Layer 15 (know), the document's words: the right list of what is meant, walked (written by gen15.py).
-/
namespace Go.Proofs.YtaodifpnfejbbaaGreat
open Go.RowKit

theorem last_of {Z : List Pc} (h : Z ≠ []) : ∃ dq pl, Z = dq ++ [pl] := by
  obtain ⟨d, p, rfl⟩ := (List.eq_nil_or_concat Z).resolve_left h
  exact ⟨d, p, List.concat_eq_append ..⟩
theorem edges_short (a b : List Pc) (l : List Rng) : ∀ x ∈ edgesL (spansP a ++ (spansP b ++ l)), x.length ≤ 17 := (edgesL_ok _).all
set_option maxRecDepth 100000 in
set_option maxHeartbeats 16000000 in
theorem ref_pmake_new (op x : Int) (hx : op = x) (h123 : op = 1 ∨ op = 2 ∨ op = 3) (A B D : Option Addr) (c d e n m q : Nat) (a b : List Pc) (l : List Rng) (hn : n = a.length) (hm : m = b.length) (hq : q = l.length) (hmq : m + q ≤ 10000)
    (hca : CapP a) (hcb : CapP b) (U : List Pc) (hU : makeP op a b l = U) (NU : Nat) (hNU : NU = U.length) (w : World) (ha : RdPc w A c a) (hb : RdPc w B d b) (hl : kRng.Rd w w.heap.size D e l) :
    Calls Tryz.prog 51 #[.int .i64 x, .slice A n c, .slice B m d, .slice D q e] w (RetPF w NU U) := by
  have hnl : n ≤ 8000 := by rw [hn]; exact hca.len
  have HA := Lib.hid ha
  have HB := Lib.hid hb
  have HL := Lib.hid hl
  have HW := Lib.hid (Below.refl w.heap.size w)
  have SB := fun w h => Lib.hid (ref_spans B d m b hm (by omega) w h)
  have SA := fun w h => Lib.hid (ref_spans A c n a hn (by omega) w h)
  have hsa : n = (spansP a).length := by rw [spansP, List.length_map]; exact hn
  have hsb : m = (spansP b).length := by rw [spansP, List.length_map]; exact hm
  obtain ⟨CU, hCU⟩ : ∃ CU, spansP b ++ l = CU := ⟨_, rfl⟩
  have hcl : m + q = CU.length := by rw [← hCU, List.length_append, ← hsb, ← hq]
  obtain ⟨E, hE⟩ : ∃ E, edgesL (spansP a ++ CU) = E := ⟨_, rfl⟩
  have ED := fun A1 B1 c1 d1 w h1 h2 => Lib.hid (ref_edges A1 B1 c1 d1 n (m + q) (spansP a) CU hsa hcl (by omega) hmq w h1 h2)
  rw [hE] at ED
  have HEK := Lib.hid (show EdgesOk E from hE ▸ edgesL_ok _)
  have H17 := Lib.hid (show ∀ x ∈ E, x.length ≤ 17 by rw [← hE]; exact (edgesL_ok _).all)
  have HEL := Lib.hid (show E.length ≤ 40001 by rw [← hE]; have := edgesL_len (spansP a ++ CU); rw [List.length_append, ← hsa, ← hcl] at this; omega)
  obtain ⟨f, hf⟩ : ∃ f, whatP op a b l = f := ⟨_, rfl⟩
  have HU := Lib.hid (show mkP f E none = U from by rw [← hU, makeP, ← hf, ← hE, ← hCU])
  have WH := fun s (hs : s.length ≤ 1000000) K hK N hN w ha hb hl => Lib.hid (ref_what op x hx h123 A B D c d e n m q a b l s (str s) hn hm hq rfl hs hca hcb K (by rw [hf]; exact hK) N hN w ha hb hl)
  obtain ⟨N, hN⟩ : ∃ N, E.length = N := ⟨_, rfl⟩
  have HN := Lib.hid hN
  have HSB := Lib.hid hsb
  have HQ := Lib.hid hq
  have HCU := Lib.hid hCU
  have HNU := Lib.hid hNU
  have HCL := Lib.hid hcl
  have hqe : q ≤ e := by rw [hq]; exact hl.room
  have hqm : q ≤ 10000 := by omega
  clear hx h123 hn hm hq hca hcb hU hNU ha hb hl hsa hsb hCU hcl hE hf hN
  go_enter Tryz.func51, Tryz.ntmps51
  go_wp2_with (first
    | ((with_reducible refine (SB _ (HB.out.call HW.out)).out.mono ?_); rintro e w1 ⟨A1, c1, rfl, ho, hq⟩; replace HW := Lib.hid (HW.out.trans (hq.mono HW.out.size)); have HO := Lib.hid ho.rd; clear ho hq)
    | (at_builtin; refine wpList_app_k kRng rfl (.tmp 16) (.tmp 18) rfl w.heap.size (.slice none 0 0) [] rfl (Kind.Own.nil _ _) _ A1 c1 m (spansP b) HSB.out rfl HO.out.row (by rw [← HSB.out]; simp; omega) (by decide) HW.out.size ?_; intro v2 w2 hown2 hg2 hb2 _; replace HW := Lib.hid (HW.out.trans hb2); have HC := Lib.hid (show kRng.Own w2 w.heap.size v2 (spansP b) from hown2); clear hown2 hg2 hb2 HO)
    | (at_builtin; refine wpList_app_k kRng rfl (.tmp 20) (.tmp 21) rfl w.heap.size v2 (spansP b) rfl HC.out _ D e q l HQ.out rfl (HL.out.call HW.out).row (by rw [← HSB.out, ← HQ.out]; omega) (by decide) HW.out.size ?_; intro v3 w3 hown3 hg3 hb3 _; replace HW := Lib.hid (HW.out.trans hb3); have HC3 := Lib.hid (show kRng.Own w3 w.heap.size v3 CU from HCU.out ▸ hown3); clear hown3 hg3 hb3 HC)
    | ((with_reducible refine (SA _ (HA.out.call HW.out)).out.mono ?_); rintro e w4 ⟨A4, c4, rfl, ho, hq⟩; replace HW := Lib.hid (HW.out.trans (hq.mono HW.out.size)); replace HC3 := Lib.hid (HC3.out.below hq); have HO4 := Lib.hid ho.rd; clear ho hq; obtain ⟨A3, c3, hv3, hrd3⟩ := HC3.out.read_n HCL.out; have HC4 := Lib.hid hrd3; subst hv3; clear hrd3)
    | ((with_reducible refine (ED _ _ _ _ _ HO4.out HC4.out).out.mono ?_); rintro e w5 ⟨A5, c5, rfl, hrd, hq⟩; replace HW := Lib.hid (HW.out.trans (hq.mono HW.out.size)); have HD := Lib.hid hrd; clear hrd hq))
  rw [HN.out]
  have hcn : N ≤ c5 := by rw [← HN.out]; exact HD.out.room
  have hnx : N ≤ 40001 := by rw [← HN.out]; exact HEL.out
  clear SA SB ED HO4 HC4
  go_loopw [11, 12] (fun v i wr => ∃ (k : Nat) (dn : List Pc) (p : Option (List UInt8 × List Kn)), k ≤ N ∧ Hid (MkSt f E k dn p) ∧ Hid (OwnPF wr w5.heap.size v (dn ++ pendP p (edgeK E k))) ∧ i = .int .i64 k ∧ Hid (Below w5.heap.size w5 wr)) (fun _ i _ => N - (intOf i).toNat)
  case atStart => exact ⟨0, [], none, by omega, MkSt.start f E, Deep.Own.nil _ _ _, rfl, Below.refl _ _⟩
  case round =>
    obtain ⟨k, dn, p, hk, HM, HO, rfl, hbw⟩ := hrel
    by_cases hlt : k < N
    · obtain ⟨x, hg, -, hm⟩ := get_some (l := E) (k := k) (by have := HN.out; omega)
      obtain ⟨b1, o1, rfl, hbb, hcell⟩ := texts_at (HD.out.below hbw.out) (by have := HN.out; omega)
      have k0 := hcell k x hg
      have hbl := Nat.lt_of_lt_of_le hbb hbw.out.size
      obtain ⟨K, hK⟩ : ∃ K, f x = K := ⟨_, rfl⟩
      obtain ⟨N', hN'⟩ : ∃ N, K.length = N := ⟨_, rfl⟩
      have HWr := Lib.hid (HW.out.trans (hbw.out.mono HW.out.size))
      have C := Lib.hid ((WH x (Nat.le_trans (H17.out x hm) (by decide)) K hK N' hN' wr (HA.out.call HWr.out) (HB.out.call HWr.out) (HL.out.call HWr.out)).out)
      have HG := Lib.hid hg
      have HKK := Lib.hid hK
      have HNN := Lib.hid hN'
      obtain ⟨X, hX⟩ : ∃ X, str x = X := ⟨_, rfl⟩
      have HXX := Lib.hid hX
      rw [hX] at C k0
      have hkn1 : (k : Int) < (N : Int) := by omega
      have hlen := HM.out.len
      by_cases hz : N' = 0
      · subst hz
        have hK0 : K = [] := List.eq_nil_of_length_eq_zero hN'
        cases p with
        | none =>
          have HM2 := Lib.hid (HM.out.out hg (hK.trans hK0))
          clear hcell hg hm hK hN' hX hK0 hlen WH
          go_wp2_with ((with_reducible refine C.out.mono ?_); rintro e w6 ⟨A9, c9, rfl, hrd, hq⟩; replace HO := Lib.hid (HO.out.below hq); replace hbw := Lib.hid (hbw.out.trans (hq.mono hbw.out.size)); clear hrd hq)
          go_roundw
          case rel => exact ⟨k + 1, dn, none, by omega, HM2, HO, by go_num, hbw⟩
          case measure => simp [intOf]; omega
        | some lS =>
          obtain ⟨lo, S⟩ := lS
          have HM2 := Lib.hid (HM.out.off hg (hK.trans hK0))
          have HE := Lib.hid (show dn ++ pendP (some (lo, S)) (edgeK E k) = (dn ++ [⟨⟨lo, x, false⟩, S⟩]) ++ pendP none (edgeK E (k + 1)) by rw [edgeK_some hg]; simp [pendP])
          clear hcell hg hm hK hN' hX hK0 hlen WH
          go_wp2_with ((with_reducible refine C.out.mono ?_); rintro e w6 ⟨A9, c9, rfl, hrd, hq⟩; replace HO := Lib.hid (HO.out.below hq); replace hbw := Lib.hid (hbw.out.trans (hq.mono hbw.out.size)); clear hrd hq)
          go_roundw
          case rel => exact ⟨k + 1, dn ++ [⟨⟨lo, x, false⟩, S⟩], none, by omega, HM2, show OwnPF _ _ _ _ from by rw [← HE.out]; exact HO.out, by go_num, hbw⟩
          case measure => simp [intOf]; omega
      · have hz0 : ((N' : Int) == 0) = false := beq_eq_false_iff_ne.2 (by omega)
        have hK0 : K ≠ [] := fun h => hz (by rw [← hN', h]; rfl)
        have HK0 := Lib.hid hK0
        have hw1 : IntKind.i64.wrap ((k : Int) + 1) = (k : Int) + 1 := IntWalk.i64_in _ (by omega)
        have hkt : ((k : Int) + 1).toNat = k + 1 := by omega
        have hk0 : (0 : Int) ≤ (k : Int) + 1 := by omega
        obtain ⟨Z, hZ⟩ : ∃ Z, dn ++ pendP p (edgeK E k) = Z := ⟨_, rfl⟩
        obtain ⟨L, hL⟩ : ∃ L, L = Z.length := ⟨_, rfl⟩
        have hLk : L ≤ k := by
          rw [hL, ← hZ, List.length_append]
          cases p <;> simp [pendP] at hlen ⊢ <;> omega
        have HLL := Lib.hid hL
        rw [hZ] at HO
        obtain ⟨Av, cv, hv, -⟩ := HO.out.read_n HLL.out
        subst hv
        have HVL := Lib.hid (show ∀ g, (Value.slice Av L cv).ownBlock = some g → g < wr.heap.size from fun g hg => (Deep.Own.lt HO.out g hg).2)
        have HSZ := Lib.hid hbw.out.size
        have HAPP := Lib.hid (fun hno => hZ ▸ (MkSt.app HM.out hg hK hK0 (hZ.symm ▸ hno)))
        have HEXT := Lib.hid (fun dq pl (hl : Z = dq ++ [pl]) h1 h2 => MkSt.ext HM.out HEK.out hg hK (hZ.trans hl) h1 h2)
        have HSHP := Lib.hid (fun dq pl (hl : Z = dq ++ [pl]) => (MkSt.shape HM.out HEK.out hg (hZ.trans hl)).1)
        clear hX hK hN' hK0 hlen WH hL hZ

        by_cases he : k + 1 < N
        · obtain ⟨x2, hg2, -, hm2⟩ := get_some (l := E) (k := k + 1) (by have := HN.out; omega)
          have k1 := hcell (k + 1) x2 hg2
          have HEDG := Lib.hid (edgeK_some hg2)
          obtain ⟨X2, hX2⟩ : ∃ X2, str x2 = X2 := ⟨_, rfl⟩
          rw [hX2] at k1
          have HX2 := Lib.hid hX2
          have hkn2 : (k : Int) + 1 < (N : Int) := by omega
          clear hcell hg2 hm2 hX2 hg hm
          by_cases hL0 : L = 0
          · subst hL0
            have hZ0 : Z = [] := List.eq_nil_of_length_eq_zero HLL.out.symm
            have HZN := Lib.hid (show ∀ dq p, Z = dq ++ [p] → ¬ (p.rng.hi = x ∧ p.set = K) from fun dq p h => by rw [hZ0] at h; exact absurd h (by simp))
            clear hZ0 HEXT HSHP
            go_wp2_with ((with_reducible refine C.out.mono ?_); rintro e w6 ⟨A9, c9, rfl, hrd, hq⟩; replace HO := Lib.hid (HO.out.below hq); replace hbw := Lib.hid (hbw.out.trans (hq.mono hbw.out.size)); replace k0 := ((bcell hq).1 _ _ hbl).trans k0; replace k1 := ((bcell hq).1 _ _ hbl).trans k1; replace hbl := Nat.lt_of_lt_of_le hbl hq.size; have HS := Lib.hid (show dKn.Rd w6 (fun g => wr.heap.size ≤ g) A9 c9 K from hrd); have HBX := Lib.hid (rgAt_new w6 X ⟨#[]⟩ true 42); have hx9 : N' ≤ c9 := (by rw [← HNN.out]; exact hrd.room); have hlw : wr.heap.size ≤ w6.heap.size := hq.size; clear hrd hq)
            obtain ⟨b0, b1x, b2, b3⟩ := HBX.out
            replace k0 := ((bcell (below_new w6 (.cells #[.string X, .string ⟨#[]⟩, .bool true] 42))).1 _ _ hbl).trans k0
            replace k1 := ((bcell (below_new w6 (.cells #[.string X, .string ⟨#[]⟩, .bool true] 42))).1 _ _ hbl).trans k1
            go_region
            obtain ⟨w7, hw7⟩ : ∃ w7, (w6.alloc (.cells #[.string X, .string X2, .bool false] 42)).drew = w7 := ⟨_, rfl⟩
            have hb67 : Below w6.heap.size w6 w7 := hw7 ▸ (below_new w6 _).drew
            replace HBX := Lib.hid (show RgAt w7 w6.heap.size X X2 false from hw7 ▸ (rgAt_new w6 X X2 false 42).drew)
            clear b0 b1x b2 b3
            rw [hw7]
            clear hw7 k0 k1
            replace HO := Lib.hid (HO.out.below hb67)
            replace HS := Lib.hid (HS.out.call hb67)
            replace hbw := Lib.hid (hbw.out.trans (hb67.mono hbw.out.size))
            clear hb67
            go_wp2_with fail
            have HC := Lib.hid (show CellL w7 [(⟨w6.heap.size, 0, none⟩, .string X), (⟨w6.heap.size, 1, none⟩, .string X2), (⟨w6.heap.size, 2, none⟩, .bool false)] w7 from ⟨HBX.out.1, HBX.out.2.1, HBX.out.2.2.1, Below.refl _ _⟩)
            refine q_region (CellL w7 _) (by kernel_rfl) (by kernel_rfl) (cellL_drew HC.out) ?_
            repeat (first
              | go_big_quiet_skip
              | (go_big_quiet_want; (first
                | (refine q_take (v := ?_) ?_ ?_; rotate_left; (focus (intro w hSw; (try simp only [CellL] at hSw); go_split_ands; go_simp; (try (rw [if_neg (by omega)])); (try with_reducible rfl); done)))); (try simp only [Act.put, List.setIfInBounds_toArray, List.set_cons_zero, List.set_cons_succ]); go_big_quiet_on))
            refine wpQuiet_nil ?_
            intro w8 hw8
            have hq8 := cellL_size hw8
            replace HO := Lib.hid (HO.out.below hq8)
            replace HS := Lib.hid (HS.out.call hq8)
            replace HBX := Lib.hid (HBX.out.below hq8)
            replace hbw := Lib.hid (hbw.out.trans (hq8.mono hbw.out.size))
            clear hw8 hq8 HC
            obtain ⟨dn2, HMN, HEN⟩ := HAPP.out HZN.out
            have HMN := Lib.hid HMN
            have HEN := Lib.hid (show Z ++ [⟨⟨x, x2, false⟩, K⟩] = dn2 ++ pendP (some (x, K)) (edgeK E (k + 1)) from by rw [← HEN, HEDG.out])
            obtain ⟨bs, ho, hall⟩ := HO.out
            have HLE := Lib.hid (show bs.length + [(⟨⟨x, x2, false⟩, A9, N', c9⟩ : Ps)].length ≤ 1000000 by have := hall.1; have := HLL.out; rw [List.length_singleton]; omega)
            have HREL := Lib.hid (show dPc.rel w8 (fun g => w5.heap.size ≤ g ∧ (Value.slice Av 0 cv).ownBlock ≠ some g) ⟨⟨x, x2, false⟩, A9, N', c9⟩ ⟨⟨x, x2, false⟩, K⟩ from ⟨rfl, HNN.out.symm, HS.out.mono fun g hg => ⟨by have := HSZ.out; omega, fun e => by have := HVL.out g e; omega⟩⟩)
            have HKO := Lib.hid ho
            have HKA := Lib.hid hall
            have HBX8 := HBX.out
            obtain ⟨b0, b1x, b2, b3⟩ := HBX8
            clear ho hall
            go_wp2_with (at_builtin; refine wpList_app_k kPs rfl (.tmp 117) (.tmp 121) rfl w5.heap.size _ bs rfl (Kind.Own.alloc HKO.out _) _ (some ⟨w8.heap.size, 0, none⟩) 1 1 [⟨⟨x, x2, false⟩, A9, N', c9⟩] rfl rfl (piece_row_n w8 x x2 X X2 HXX.out HX2.out false A9 N' c9) HLE.out (by decide) (le_alloc hbw.out.size _) ?_; intro v9 w9 hown9 hg9 hb9 hv9; have HO9 := Lib.hid (Deep.Own.app (HKA.out.keep (keptS_below (below_new w8 _) _)) (.one (dPc.keep HREL.out (keptS_below (below_new w8 _) _))) hown9 hg9 hv9); have HB9 := Lib.hid ((hbw.out.alloc hbw.out.size _).trans hb9); clear hown9 hg9 hb9 hv9)
            go_roundw
            case rel => exact ⟨k + 1, dn2, some (x, K), by omega, HMN, show OwnPF _ _ _ _ from by rw [← HEN.out]; exact HO9.out, by go_num, HB9⟩
            case measure => simp [intOf]; omega
          · obtain ⟨dq, pl, hZ⟩ : ∃ dq pl, Z = dq ++ [pl] := last_of (fun h => hL0 (by rw [HLL.out, h]; rfl))
            obtain ⟨D, hD⟩ : ∃ D, dq.length = D := ⟨_, rfl⟩
            have hLD : L = D + 1 := by rw [HLL.out, hZ, List.length_append, List.length_singleton, hD]
            have hop := HSHP.out dq pl hZ
            obtain ⟨gb, rfl⟩ : ∃ gb, Av = some ⟨gb, 0, none⟩ := by
              obtain ⟨bs, h1, h2⟩ := HO.out
              obtain ⟨gb, co, hv, -⟩ := h1.some_ (HLL.out.trans h2.1.symm) (by omega)
              injection hv with h3
              exact ⟨gb, h3⟩
            have hgl : gb < wr.heap.size := HVL.out gb rfl
            have hco : L ≤ cv := by obtain ⟨bs, h1, h2⟩ := HO.out; have := h1.rd.room; rw [h2.1, ← HLL.out] at this; exact this
            have HZZ := Lib.hid hZ
            have HDD := Lib.hid hD
            have HOP := Lib.hid hop
            have HLD := Lib.hid hLD
            have hD9 : D ≤ 50000 := by omega
            have hL9 : L ≤ 50000 := by omega
            clear hZ hD hop hLD
            go_wp2_with ((with_reducible refine C.out.mono ?_); rintro e w6 ⟨A9, c9, rfl, hrd, hq⟩; replace HO := Lib.hid (HO.out.below hq); replace hbw := Lib.hid (hbw.out.trans (hq.mono hbw.out.size)); replace k0 := ((bcell hq).1 _ _ hbl).trans k0; replace k1 := ((bcell hq).1 _ _ hbl).trans k1; replace hbl := Nat.lt_of_lt_of_le hbl hq.size; have HS := Lib.hid (show dKn.Rd w6 (fun g => wr.heap.size ≤ g) A9 c9 K from hrd); have HBX := Lib.hid (rgAt_new w6 X ⟨#[]⟩ true 42); have hx9 : N' ≤ c9 := (by rw [← HNN.out]; exact hrd.room); have hlw : wr.heap.size ≤ w6.heap.size := hq.size; clear hrd hq)
            obtain ⟨b0, b1x, b2, b3⟩ := HBX.out
            replace k0 := ((bcell (below_new w6 (.cells #[.string X, .string ⟨#[]⟩, .bool true] 42))).1 _ _ hbl).trans k0
            replace k1 := ((bcell (below_new w6 (.cells #[.string X, .string ⟨#[]⟩, .bool true] 42))).1 _ _ hbl).trans k1
            go_region
            obtain ⟨w7, hw7⟩ : ∃ w7, (w6.alloc (.cells #[.string X, .string X2, .bool false] 42)).drew = w7 := ⟨_, rfl⟩
            have hb67 : Below w6.heap.size w6 w7 := hw7 ▸ (below_new w6 _).drew
            replace HBX := Lib.hid (show RgAt w7 w6.heap.size X X2 false from hw7 ▸ (rgAt_new w6 X X2 false 42).drew)
            clear b0 b1x b2 b3
            rw [hw7]
            clear hw7 k0 k1
            replace HO := Lib.hid (HO.out.below hb67)
            replace HS := Lib.hid (HS.out.call hb67)
            replace hbw := Lib.hid (hbw.out.trans (hb67.mono hbw.out.size))
            clear hb67
            obtain ⟨As, ns, cs, TT, hTT, hns, hrs, p1, p2, p3, hfz⟩ := own_atP (HZZ.out ▸ HO.out) (by rw [HLL.out, HZZ.out]) HDD.out
            rw [HOP.out] at p2
            obtain ⟨y, hy⟩ : ∃ y, (TT.toList == X.toList) = y := ⟨_, rfl⟩
            obtain ⟨ff, hff⟩ : ∃ ff, sameS pl.set K = ff := ⟨_, rfl⟩
            have HRS := Lib.hid hrs
            have hxs : ns ≤ cs := by rw [hns]; exact hrs.room
            have CF := Lib.hid (fun (L : List (Addr × Value)) => fun (W : World) (hC : CellL w7 L W) => (ref_vsame As A9 cs c9 ns N' pl.set K hns HNN.out.symm ff hff W (HRS.out.call (cellL_size hC)) ((rdk_of HS.out).call (cellL_size hC))).mono fun (e : Ending) (W' : World) ⟨h1, h2⟩ => (⟨h1, cellL_call h2 hC⟩ : e = Ending.returned (.bool ff) ∧ CellL w7 L W'))
            have HY := Lib.hid (show (y = true ↔ pl.rng.hi = x) from by rw [← hy, ← hTT, ← HXX.out, str_toList, str_toList, beq_iff_eq])
            have HF := Lib.hid (show (ff = true ↔ pl.set = K) from by rw [← hff, sameS_iff])
            have hLw : IntKind.i64.wrap ((L : Int) - 1) = (D : Int) := by rw [show (L : Int) - 1 = (D : Int) by have := HLD.out; omega]; exact IntWalk.i64_in _ (by omega)
            have hDw : IntKind.i64.wrap (D : Int) = (D : Int) := IntWalk.i64_in _ (by omega)
            have hD0 : (0 : Int) ≤ (D : Int) := by omega
            have hDL : (D : Int) < (L : Int) := by have := HLD.out; omega
            have hDd : decide ((D : Int) < 0) = false := decide_eq_false (by omega)
            have hL1 : decide ((0 : Int) < (L : Int)) = true := decide_eq_true (by omega)
            have hL2 : decide (0 < L) = true := decide_eq_true (by omega)
            have HC := Lib.hid (show CellL w7 [(⟨gb, D * 4 + 1, none⟩, .string TT), (⟨gb, D * 4 + 2, none⟩, .bool false), (⟨gb, D * 4 + 3, none⟩, .slice As ns cs), (⟨w6.heap.size, 0, none⟩, .string X), (⟨w6.heap.size, 1, none⟩, .string X2), (⟨w6.heap.size, 2, none⟩, .bool false)] w7 from ⟨p1, p2, p3, HBX.out.1, HBX.out.2.1, HBX.out.2.2.1, Below.refl _ _⟩)
            clear hTT hns hrs p1 p2 p3 hfz hff
            go_wp2_with fail
            cases y
            case' true =>
              cases ff
            all_goals
              refine q_region (CellL w7 _) (by kernel_rfl) (by kernel_rfl) (cellL_drew HC.out) ?_
              repeat (first
                | go_big_quiet_skip
                | (go_big_quiet_want; (first
                  | (refine q_take (v := ?_) ?_ ?_; rotate_left; (focus (intro w hSw; (try simp only [CellL] at hSw); go_split_ands; go_simp; (try (rw [if_neg (by omega)])); (try with_reducible rfl); done)))
                  | (refine q_call (CF.out _) ?_ ?_; (focus (intro w hSw; (try simp only [CellL] at hSw); go_split_ands; go_simp; (try (rw [if_neg (by omega)])); done)))); (try simp only [Act.put, List.setIfInBounds_toArray, List.set_cons_zero, List.set_cons_succ]); go_big_quiet_on))
              refine wpQuiet_nil ?_
              intro w8 hw8
              have hq8 := cellL_size hw8
              replace HO := Lib.hid (HO.out.below hq8)
              replace HS := Lib.hid (HS.out.call hq8)
              replace HBX := Lib.hid (HBX.out.below hq8)
              replace hbw := Lib.hid (hbw.out.trans (hq8.mono hbw.out.size))
              have HCE := Lib.hid hw8
              clear hw8 hq8 HC hD0 hDd hDw hL1 hL2 hy
            case false =>
              have HZN := Lib.hid (show ∀ dq' p, Z = dq' ++ [p] → ¬ (p.rng.hi = x ∧ p.set = K) from fun dq' p h => by
                rw [HZZ.out] at h
                obtain ⟨-, h2⟩ := List.append_inj' h rfl
                injection h2 with h2
                subst h2
                exact fun e => by have := HY.out.2 e.1; cases this)
              obtain ⟨dn2, HMN, HEN⟩ := HAPP.out HZN.out
              have HMN := Lib.hid HMN
              have HEN := Lib.hid (show Z ++ [⟨⟨x, x2, false⟩, K⟩] = dn2 ++ pendP (some (x, K)) (edgeK E (k + 1)) from by rw [← HEN, HEDG.out])
              obtain ⟨bs, ho, hall⟩ := HO.out
              have HLE := Lib.hid (show bs.length + [(⟨⟨x, x2, false⟩, A9, N', c9⟩ : Ps)].length ≤ 1000000 by have := hall.1; have := HLL.out; rw [List.length_singleton]; omega)
              have HREL := Lib.hid (show dPc.rel w8 (fun g => w5.heap.size ≤ g ∧ (Value.slice (some ⟨gb, 0, none⟩) L cv).ownBlock ≠ some g) ⟨⟨x, x2, false⟩, A9, N', c9⟩ ⟨⟨x, x2, false⟩, K⟩ from ⟨rfl, HNN.out.symm, HS.out.mono fun g hg => ⟨by have := HSZ.out; omega, fun e => by have := HVL.out g e; omega⟩⟩)
              have HKO := Lib.hid ho
              have HKA := Lib.hid hall
              have HBX8 := HBX.out
              obtain ⟨b0, b1x, b2, b3⟩ := HBX8
              clear ho hall
              go_wp2_with (at_builtin; refine wpList_app_k kPs rfl (.tmp 117) (.tmp 121) rfl w5.heap.size _ bs rfl (Kind.Own.alloc HKO.out _) _ (some ⟨w8.heap.size, 0, none⟩) 1 1 [⟨⟨x, x2, false⟩, A9, N', c9⟩] rfl rfl (piece_row_n w8 x x2 X X2 HXX.out HX2.out false A9 N' c9) HLE.out (by decide) (le_alloc hbw.out.size _) ?_; intro v9 w9 hown9 hg9 hb9 hv9; have HO9 := Lib.hid (Deep.Own.app (HKA.out.keep (keptS_below (below_new w8 _) _)) (.one (dPc.keep HREL.out (keptS_below (below_new w8 _) _))) hown9 hg9 hv9); have HB9 := Lib.hid ((hbw.out.alloc hbw.out.size _).trans hb9); clear hown9 hg9 hb9 hv9)
              go_roundw
              case rel => exact ⟨k + 1, dn2, some (x, K), by omega, HMN, show OwnPF _ _ _ _ from by rw [← HEN.out]; exact HO9.out, by go_num, HB9⟩
              case measure => simp [intOf]; omega
            case true.false =>
              have HZN := Lib.hid (show ∀ dq' p, Z = dq' ++ [p] → ¬ (p.rng.hi = x ∧ p.set = K) from fun dq' p h => by
                rw [HZZ.out] at h
                obtain ⟨-, h2⟩ := List.append_inj' h rfl
                injection h2 with h2
                subst h2
                exact fun e => by have := HF.out.2 e.2; cases this)
              obtain ⟨dn2, HMN, HEN⟩ := HAPP.out HZN.out
              have HMN := Lib.hid HMN
              have HEN := Lib.hid (show Z ++ [⟨⟨x, x2, false⟩, K⟩] = dn2 ++ pendP (some (x, K)) (edgeK E (k + 1)) from by rw [← HEN, HEDG.out])
              obtain ⟨bs, ho, hall⟩ := HO.out
              have HLE := Lib.hid (show bs.length + [(⟨⟨x, x2, false⟩, A9, N', c9⟩ : Ps)].length ≤ 1000000 by have := hall.1; have := HLL.out; rw [List.length_singleton]; omega)
              have HREL := Lib.hid (show dPc.rel w8 (fun g => w5.heap.size ≤ g ∧ (Value.slice (some ⟨gb, 0, none⟩) L cv).ownBlock ≠ some g) ⟨⟨x, x2, false⟩, A9, N', c9⟩ ⟨⟨x, x2, false⟩, K⟩ from ⟨rfl, HNN.out.symm, HS.out.mono fun g hg => ⟨by have := HSZ.out; omega, fun e => by have := HVL.out g e; omega⟩⟩)
              have HKO := Lib.hid ho
              have HKA := Lib.hid hall
              have HBX8 := HBX.out
              obtain ⟨b0, b1x, b2, b3⟩ := HBX8
              clear ho hall
              go_wp2_with (at_builtin; refine wpList_app_k kPs rfl (.tmp 117) (.tmp 121) rfl w5.heap.size _ bs rfl (Kind.Own.alloc HKO.out _) _ (some ⟨w8.heap.size, 0, none⟩) 1 1 [⟨⟨x, x2, false⟩, A9, N', c9⟩] rfl rfl (piece_row_n w8 x x2 X X2 HXX.out HX2.out false A9 N' c9) HLE.out (by decide) (le_alloc hbw.out.size _) ?_; intro v9 w9 hown9 hg9 hb9 hv9; have HO9 := Lib.hid (Deep.Own.app (HKA.out.keep (keptS_below (below_new w8 _) _)) (.one (dPc.keep HREL.out (keptS_below (below_new w8 _) _))) hown9 hg9 hv9); have HB9 := Lib.hid ((hbw.out.alloc hbw.out.size _).trans hb9); clear hown9 hg9 hb9 hv9)
              go_roundw
              case rel => exact ⟨k + 1, dn2, some (x, K), by omega, HMN, show OwnPF _ _ _ _ from by rw [← HEN.out]; exact HO9.out, by go_num, HB9⟩
              case measure => simp [intOf]; omega
            case true.true =>
              obtain ⟨dn2, pq, HMN, HEN⟩ := HEXT.out dq pl HZZ.out (HY.out.1 rfl) (HF.out.1 rfl)
              have HMN := Lib.hid HMN
              have HOL := Lib.hid (own_lastP (HZZ.out ▸ HO.out) (by rw [HLL.out, HZZ.out]) HDD.out x2 X2 HX2.out false)
              have HEN := Lib.hid (show dq ++ [⟨⟨pl.rng.lo, x2, false⟩, pl.set⟩] = dn2 ++ pendP pq (edgeK E (k + 1)) from by rw [← HEN, HEDG.out])
              obtain ⟨e1, e2, -, -, -, -, -⟩ := HCE.out
              obtain ⟨b0, b1x, b2, b3⟩ := HBX.out
              obtain ⟨As', ns', cs', TT', -, -, -, -, -, -, hfz⟩ := own_atP (HZZ.out ▸ HO.out) (by rw [HLL.out, HZZ.out]) HDD.out
              have e3 : ∀ u, (w8.setCell ⟨gb, D * 4 + 1, none⟩ u).cell? ⟨w6.heap.size, 2, none⟩ = some (.bool false) := fun u => set_other b2 (addr_block (by omega)) u
              have e4 : ∀ u, (w8.setCell ⟨gb, D * 4 + 1, none⟩ u).cell? ⟨gb, D * 4 + 2, none⟩ = some (.bool false) := fun u => set_other e2 (addr_off (by omega)) u
              have HBE := Lib.hid ((hbw.out.setCell (p := ⟨gb, D * 4 + 1, none⟩) (OwnPF.lt HO.out).1 (.string X2)).setCell (p := ⟨gb, D * 4 + 2, none⟩) (OwnPF.lt HO.out).1 (.bool false))
              have hD0 : (0 : Int) ≤ (D : Int) := by omega
              go_wp2_with fail
              go_roundw
              case rel => exact ⟨k + 1, dn2, pq, by omega, HMN, show OwnPF _ _ _ _ from by rw [← HEN.out]; exact HOL.out, by go_num, HBE⟩
              case measure => simp [intOf]; omega
        · have HEDG := Lib.hid (edgeK_none (E := E) (k := k + 1) (by have := HN.out; omega))
          have hkn2 : decide ((k : Int) + 1 < (N : Int)) = false := decide_eq_false (by omega)
          clear hcell hg hm
          by_cases hL0 : L = 0
          · subst hL0
            have hZ0 : Z = [] := List.eq_nil_of_length_eq_zero HLL.out.symm
            have HZN := Lib.hid (show ∀ dq p, Z = dq ++ [p] → ¬ (p.rng.hi = x ∧ p.set = K) from fun dq p h => by rw [hZ0] at h; exact absurd h (by simp))
            clear hZ0 HEXT HSHP
            go_wp2_with ((with_reducible refine C.out.mono ?_); rintro e w6 ⟨A9, c9, rfl, hrd, hq⟩; replace HO := Lib.hid (HO.out.below hq); replace hbw := Lib.hid (hbw.out.trans (hq.mono hbw.out.size)); replace k0 := ((bcell hq).1 _ _ hbl).trans k0; replace hbl := Nat.lt_of_lt_of_le hbl hq.size; have HS := Lib.hid (show dKn.Rd w6 (fun g => wr.heap.size ≤ g) A9 c9 K from hrd); have HBX := Lib.hid (rgAt_new w6 X ⟨#[]⟩ true 42); have hx9 : N' ≤ c9 := (by rw [← HNN.out]; exact hrd.room); have hlw : wr.heap.size ≤ w6.heap.size := hq.size; clear hrd hq)
            obtain ⟨w7, hw7⟩ : ∃ w7, w6.alloc (.cells #[.string X, .string ⟨#[]⟩, .bool true] 42) = w7 := ⟨_, rfl⟩
            have hb67 : Below w6.heap.size w6 w7 := hw7 ▸ below_new w6 _
            replace HBX := Lib.hid (show RgAt w7 w6.heap.size X ⟨#[]⟩ true from hw7 ▸ HBX.out)
            rw [hw7]
            clear hw7 k0
            replace HO := Lib.hid (HO.out.below hb67)
            replace HS := Lib.hid (HS.out.call hb67)
            replace hbw := Lib.hid (hbw.out.trans (hb67.mono hbw.out.size))
            clear hb67
            go_wp2_with fail
            have HC := Lib.hid (show CellL w7 [(⟨w6.heap.size, 0, none⟩, .string X), (⟨w6.heap.size, 1, none⟩, .string ⟨#[]⟩), (⟨w6.heap.size, 2, none⟩, .bool true)] w7 from ⟨HBX.out.1, HBX.out.2.1, HBX.out.2.2.1, Below.refl _ _⟩)
            refine q_region (CellL w7 _) (by kernel_rfl) (by kernel_rfl) (cellL_drew HC.out) ?_
            repeat (first
              | go_big_quiet_skip
              | (go_big_quiet_want; (first
                | (refine q_take (v := ?_) ?_ ?_; rotate_left; (focus (intro w hSw; (try simp only [CellL] at hSw); go_split_ands; go_simp; (try (rw [if_neg (by omega)])); (try with_reducible rfl); done)))); (try simp only [Act.put, List.setIfInBounds_toArray, List.set_cons_zero, List.set_cons_succ]); go_big_quiet_on))
            refine wpQuiet_nil ?_
            intro w8 hw8
            have hq8 := cellL_size hw8
            replace HO := Lib.hid (HO.out.below hq8)
            replace HS := Lib.hid (HS.out.call hq8)
            replace HBX := Lib.hid (HBX.out.below hq8)
            replace hbw := Lib.hid (hbw.out.trans (hq8.mono hbw.out.size))
            clear hw8 hq8 HC
            obtain ⟨dn2, HMN, HEN⟩ := HAPP.out HZN.out
            have HMN := Lib.hid HMN
            have HEN := Lib.hid (show Z ++ [⟨⟨x, [], true⟩, K⟩] = dn2 ++ pendP (some (x, K)) (edgeK E (k + 1)) from by rw [← HEN, HEDG.out])
            obtain ⟨bs, ho, hall⟩ := HO.out
            have HLE := Lib.hid (show bs.length + [(⟨⟨x, [], true⟩, A9, N', c9⟩ : Ps)].length ≤ 1000000 by have := hall.1; have := HLL.out; rw [List.length_singleton]; omega)
            have HREL := Lib.hid (show dPc.rel w8 (fun g => w5.heap.size ≤ g ∧ (Value.slice Av 0 cv).ownBlock ≠ some g) ⟨⟨x, [], true⟩, A9, N', c9⟩ ⟨⟨x, [], true⟩, K⟩ from ⟨rfl, HNN.out.symm, HS.out.mono fun g hg => ⟨by have := HSZ.out; omega, fun e => by have := HVL.out g e; omega⟩⟩)
            have HKO := Lib.hid ho
            have HKA := Lib.hid hall
            have HBX8 := HBX.out
            obtain ⟨b0, b1x, b2, b3⟩ := HBX8
            clear ho hall
            go_wp2_with (at_builtin; refine wpList_app_k kPs rfl (.tmp 117) (.tmp 121) rfl w5.heap.size _ bs rfl (Kind.Own.alloc HKO.out _) _ (some ⟨w8.heap.size, 0, none⟩) 1 1 [⟨⟨x, [], true⟩, A9, N', c9⟩] rfl rfl (piece_row_n w8 x [] X ⟨#[]⟩ HXX.out rfl true A9 N' c9) HLE.out (by decide) (le_alloc hbw.out.size _) ?_; intro v9 w9 hown9 hg9 hb9 hv9; have HO9 := Lib.hid (Deep.Own.app (HKA.out.keep (keptS_below (below_new w8 _) _)) (.one (dPc.keep HREL.out (keptS_below (below_new w8 _) _))) hown9 hg9 hv9); have HB9 := Lib.hid ((hbw.out.alloc hbw.out.size _).trans hb9); clear hown9 hg9 hb9 hv9)
            go_roundw
            case rel => exact ⟨k + 1, dn2, some (x, K), by omega, HMN, show OwnPF _ _ _ _ from by rw [← HEN.out]; exact HO9.out, by go_num, HB9⟩
            case measure => simp [intOf]; omega
          · obtain ⟨dq, pl, hZ⟩ : ∃ dq pl, Z = dq ++ [pl] := last_of (fun h => hL0 (by rw [HLL.out, h]; rfl))
            obtain ⟨D, hD⟩ : ∃ D, dq.length = D := ⟨_, rfl⟩
            have hLD : L = D + 1 := by rw [HLL.out, hZ, List.length_append, List.length_singleton, hD]
            have hop := HSHP.out dq pl hZ
            obtain ⟨gb, rfl⟩ : ∃ gb, Av = some ⟨gb, 0, none⟩ := by
              obtain ⟨bs, h1, h2⟩ := HO.out
              obtain ⟨gb, co, hv, -⟩ := h1.some_ (HLL.out.trans h2.1.symm) (by omega)
              injection hv with h3
              exact ⟨gb, h3⟩
            have hgl : gb < wr.heap.size := HVL.out gb rfl
            have hco : L ≤ cv := by obtain ⟨bs, h1, h2⟩ := HO.out; have := h1.rd.room; rw [h2.1, ← HLL.out] at this; exact this
            have HZZ := Lib.hid hZ
            have HDD := Lib.hid hD
            have HOP := Lib.hid hop
            have HLD := Lib.hid hLD
            have hD9 : D ≤ 50000 := by omega
            have hL9 : L ≤ 50000 := by omega
            clear hZ hD hop hLD
            go_wp2_with ((with_reducible refine C.out.mono ?_); rintro e w6 ⟨A9, c9, rfl, hrd, hq⟩; replace HO := Lib.hid (HO.out.below hq); replace hbw := Lib.hid (hbw.out.trans (hq.mono hbw.out.size)); replace k0 := ((bcell hq).1 _ _ hbl).trans k0; replace hbl := Nat.lt_of_lt_of_le hbl hq.size; have HS := Lib.hid (show dKn.Rd w6 (fun g => wr.heap.size ≤ g) A9 c9 K from hrd); have HBX := Lib.hid (rgAt_new w6 X ⟨#[]⟩ true 42); have hx9 : N' ≤ c9 := (by rw [← HNN.out]; exact hrd.room); have hlw : wr.heap.size ≤ w6.heap.size := hq.size; clear hrd hq)
            obtain ⟨w7, hw7⟩ : ∃ w7, w6.alloc (.cells #[.string X, .string ⟨#[]⟩, .bool true] 42) = w7 := ⟨_, rfl⟩
            have hb67 : Below w6.heap.size w6 w7 := hw7 ▸ below_new w6 _
            replace HBX := Lib.hid (show RgAt w7 w6.heap.size X ⟨#[]⟩ true from hw7 ▸ HBX.out)
            rw [hw7]
            clear hw7 k0
            replace HO := Lib.hid (HO.out.below hb67)
            replace HS := Lib.hid (HS.out.call hb67)
            replace hbw := Lib.hid (hbw.out.trans (hb67.mono hbw.out.size))
            clear hb67
            obtain ⟨As, ns, cs, TT, hTT, hns, hrs, p1, p2, p3, hfz⟩ := own_atP (HZZ.out ▸ HO.out) (by rw [HLL.out, HZZ.out]) HDD.out
            rw [HOP.out] at p2
            obtain ⟨y, hy⟩ : ∃ y, (TT.toList == X.toList) = y := ⟨_, rfl⟩
            obtain ⟨ff, hff⟩ : ∃ ff, sameS pl.set K = ff := ⟨_, rfl⟩
            have HRS := Lib.hid hrs
            have hxs : ns ≤ cs := by rw [hns]; exact hrs.room
            have CF := Lib.hid (fun (L : List (Addr × Value)) => fun (W : World) (hC : CellL w7 L W) => (ref_vsame As A9 cs c9 ns N' pl.set K hns HNN.out.symm ff hff W (HRS.out.call (cellL_size hC)) ((rdk_of HS.out).call (cellL_size hC))).mono fun (e : Ending) (W' : World) ⟨h1, h2⟩ => (⟨h1, cellL_call h2 hC⟩ : e = Ending.returned (.bool ff) ∧ CellL w7 L W'))
            have HY := Lib.hid (show (y = true ↔ pl.rng.hi = x) from by rw [← hy, ← hTT, ← HXX.out, str_toList, str_toList, beq_iff_eq])
            have HF := Lib.hid (show (ff = true ↔ pl.set = K) from by rw [← hff, sameS_iff])
            have hLw : IntKind.i64.wrap ((L : Int) - 1) = (D : Int) := by rw [show (L : Int) - 1 = (D : Int) by have := HLD.out; omega]; exact IntWalk.i64_in _ (by omega)
            have hDw : IntKind.i64.wrap (D : Int) = (D : Int) := IntWalk.i64_in _ (by omega)
            have hD0 : (0 : Int) ≤ (D : Int) := by omega
            have hDL : (D : Int) < (L : Int) := by have := HLD.out; omega
            have hDd : decide ((D : Int) < 0) = false := decide_eq_false (by omega)
            have hL1 : decide ((0 : Int) < (L : Int)) = true := decide_eq_true (by omega)
            have hL2 : decide (0 < L) = true := decide_eq_true (by omega)
            have HC := Lib.hid (show CellL w7 [(⟨gb, D * 4 + 1, none⟩, .string TT), (⟨gb, D * 4 + 2, none⟩, .bool false), (⟨gb, D * 4 + 3, none⟩, .slice As ns cs), (⟨w6.heap.size, 0, none⟩, .string X), (⟨w6.heap.size, 1, none⟩, .string ⟨#[]⟩), (⟨w6.heap.size, 2, none⟩, .bool true)] w7 from ⟨p1, p2, p3, HBX.out.1, HBX.out.2.1, HBX.out.2.2.1, Below.refl _ _⟩)
            clear hTT hns hrs p1 p2 p3 hfz hff
            go_wp2_with fail
            cases y
            case' true =>
              cases ff
            all_goals
              refine q_region (CellL w7 _) (by kernel_rfl) (by kernel_rfl) (cellL_drew HC.out) ?_
              repeat (first
                | go_big_quiet_skip
                | (go_big_quiet_want; (first
                  | (refine q_take (v := ?_) ?_ ?_; rotate_left; (focus (intro w hSw; (try simp only [CellL] at hSw); go_split_ands; go_simp; (try (rw [if_neg (by omega)])); (try with_reducible rfl); done)))
                  | (refine q_call (CF.out _) ?_ ?_; (focus (intro w hSw; (try simp only [CellL] at hSw); go_split_ands; go_simp; (try (rw [if_neg (by omega)])); done)))); (try simp only [Act.put, List.setIfInBounds_toArray, List.set_cons_zero, List.set_cons_succ]); go_big_quiet_on))
              refine wpQuiet_nil ?_
              intro w8 hw8
              have hq8 := cellL_size hw8
              replace HO := Lib.hid (HO.out.below hq8)
              replace HS := Lib.hid (HS.out.call hq8)
              replace HBX := Lib.hid (HBX.out.below hq8)
              replace hbw := Lib.hid (hbw.out.trans (hq8.mono hbw.out.size))
              have HCE := Lib.hid hw8
              clear hw8 hq8 HC hD0 hDd hDw hL1 hL2 hy
            case false =>
              have HZN := Lib.hid (show ∀ dq' p, Z = dq' ++ [p] → ¬ (p.rng.hi = x ∧ p.set = K) from fun dq' p h => by
                rw [HZZ.out] at h
                obtain ⟨-, h2⟩ := List.append_inj' h rfl
                injection h2 with h2
                subst h2
                exact fun e => by have := HY.out.2 e.1; cases this)
              obtain ⟨dn2, HMN, HEN⟩ := HAPP.out HZN.out
              have HMN := Lib.hid HMN
              have HEN := Lib.hid (show Z ++ [⟨⟨x, [], true⟩, K⟩] = dn2 ++ pendP (some (x, K)) (edgeK E (k + 1)) from by rw [← HEN, HEDG.out])
              obtain ⟨bs, ho, hall⟩ := HO.out
              have HLE := Lib.hid (show bs.length + [(⟨⟨x, [], true⟩, A9, N', c9⟩ : Ps)].length ≤ 1000000 by have := hall.1; have := HLL.out; rw [List.length_singleton]; omega)
              have HREL := Lib.hid (show dPc.rel w8 (fun g => w5.heap.size ≤ g ∧ (Value.slice (some ⟨gb, 0, none⟩) L cv).ownBlock ≠ some g) ⟨⟨x, [], true⟩, A9, N', c9⟩ ⟨⟨x, [], true⟩, K⟩ from ⟨rfl, HNN.out.symm, HS.out.mono fun g hg => ⟨by have := HSZ.out; omega, fun e => by have := HVL.out g e; omega⟩⟩)
              have HKO := Lib.hid ho
              have HKA := Lib.hid hall
              have HBX8 := HBX.out
              obtain ⟨b0, b1x, b2, b3⟩ := HBX8
              clear ho hall
              go_wp2_with (at_builtin; refine wpList_app_k kPs rfl (.tmp 117) (.tmp 121) rfl w5.heap.size _ bs rfl (Kind.Own.alloc HKO.out _) _ (some ⟨w8.heap.size, 0, none⟩) 1 1 [⟨⟨x, [], true⟩, A9, N', c9⟩] rfl rfl (piece_row_n w8 x [] X ⟨#[]⟩ HXX.out rfl true A9 N' c9) HLE.out (by decide) (le_alloc hbw.out.size _) ?_; intro v9 w9 hown9 hg9 hb9 hv9; have HO9 := Lib.hid (Deep.Own.app (HKA.out.keep (keptS_below (below_new w8 _) _)) (.one (dPc.keep HREL.out (keptS_below (below_new w8 _) _))) hown9 hg9 hv9); have HB9 := Lib.hid ((hbw.out.alloc hbw.out.size _).trans hb9); clear hown9 hg9 hb9 hv9)
              go_roundw
              case rel => exact ⟨k + 1, dn2, some (x, K), by omega, HMN, show OwnPF _ _ _ _ from by rw [← HEN.out]; exact HO9.out, by go_num, HB9⟩
              case measure => simp [intOf]; omega
            case true.false =>
              have HZN := Lib.hid (show ∀ dq' p, Z = dq' ++ [p] → ¬ (p.rng.hi = x ∧ p.set = K) from fun dq' p h => by
                rw [HZZ.out] at h
                obtain ⟨-, h2⟩ := List.append_inj' h rfl
                injection h2 with h2
                subst h2
                exact fun e => by have := HF.out.2 e.2; cases this)
              obtain ⟨dn2, HMN, HEN⟩ := HAPP.out HZN.out
              have HMN := Lib.hid HMN
              have HEN := Lib.hid (show Z ++ [⟨⟨x, [], true⟩, K⟩] = dn2 ++ pendP (some (x, K)) (edgeK E (k + 1)) from by rw [← HEN, HEDG.out])
              obtain ⟨bs, ho, hall⟩ := HO.out
              have HLE := Lib.hid (show bs.length + [(⟨⟨x, [], true⟩, A9, N', c9⟩ : Ps)].length ≤ 1000000 by have := hall.1; have := HLL.out; rw [List.length_singleton]; omega)
              have HREL := Lib.hid (show dPc.rel w8 (fun g => w5.heap.size ≤ g ∧ (Value.slice (some ⟨gb, 0, none⟩) L cv).ownBlock ≠ some g) ⟨⟨x, [], true⟩, A9, N', c9⟩ ⟨⟨x, [], true⟩, K⟩ from ⟨rfl, HNN.out.symm, HS.out.mono fun g hg => ⟨by have := HSZ.out; omega, fun e => by have := HVL.out g e; omega⟩⟩)
              have HKO := Lib.hid ho
              have HKA := Lib.hid hall
              have HBX8 := HBX.out
              obtain ⟨b0, b1x, b2, b3⟩ := HBX8
              clear ho hall
              go_wp2_with (at_builtin; refine wpList_app_k kPs rfl (.tmp 117) (.tmp 121) rfl w5.heap.size _ bs rfl (Kind.Own.alloc HKO.out _) _ (some ⟨w8.heap.size, 0, none⟩) 1 1 [⟨⟨x, [], true⟩, A9, N', c9⟩] rfl rfl (piece_row_n w8 x [] X ⟨#[]⟩ HXX.out rfl true A9 N' c9) HLE.out (by decide) (le_alloc hbw.out.size _) ?_; intro v9 w9 hown9 hg9 hb9 hv9; have HO9 := Lib.hid (Deep.Own.app (HKA.out.keep (keptS_below (below_new w8 _) _)) (.one (dPc.keep HREL.out (keptS_below (below_new w8 _) _))) hown9 hg9 hv9); have HB9 := Lib.hid ((hbw.out.alloc hbw.out.size _).trans hb9); clear hown9 hg9 hb9 hv9)
              go_roundw
              case rel => exact ⟨k + 1, dn2, some (x, K), by omega, HMN, show OwnPF _ _ _ _ from by rw [← HEN.out]; exact HO9.out, by go_num, HB9⟩
              case measure => simp [intOf]; omega
            case true.true =>
              obtain ⟨dn2, pq, HMN, HEN⟩ := HEXT.out dq pl HZZ.out (HY.out.1 rfl) (HF.out.1 rfl)
              have HMN := Lib.hid HMN
              have HOL := Lib.hid (own_lastP (HZZ.out ▸ HO.out) (by rw [HLL.out, HZZ.out]) HDD.out [] ⟨#[]⟩ rfl true)
              have HEN := Lib.hid (show dq ++ [⟨⟨pl.rng.lo, [], true⟩, pl.set⟩] = dn2 ++ pendP pq (edgeK E (k + 1)) from by rw [← HEN, HEDG.out])
              obtain ⟨e1, e2, -, -, -, -, -⟩ := HCE.out
              obtain ⟨b0, b1x, b2, b3⟩ := HBX.out
              obtain ⟨As', ns', cs', TT', -, -, -, -, -, -, hfz⟩ := own_atP (HZZ.out ▸ HO.out) (by rw [HLL.out, HZZ.out]) HDD.out
              have e3 : ∀ u, (w8.setCell ⟨gb, D * 4 + 1, none⟩ u).cell? ⟨w6.heap.size, 2, none⟩ = some (.bool true) := fun u => set_other b2 (addr_block (by omega)) u
              have e4 : ∀ u, (w8.setCell ⟨gb, D * 4 + 1, none⟩ u).cell? ⟨gb, D * 4 + 2, none⟩ = some (.bool false) := fun u => set_other e2 (addr_off (by omega)) u
              have HBE := Lib.hid ((hbw.out.setCell (p := ⟨gb, D * 4 + 1, none⟩) (OwnPF.lt HO.out).1 (.string ⟨#[]⟩)).setCell (p := ⟨gb, D * 4 + 2, none⟩) (OwnPF.lt HO.out).1 (.bool true))
              have hD0 : (0 : Int) ≤ (D : Int) := by omega
              go_wp2_with fail
              go_roundw
              case rel => exact ⟨k + 1, dn2, pq, by omega, HMN, show OwnPF _ _ _ _ from by rw [← HEN.out]; exact HOL.out, by go_num, HBE⟩
              case measure => simp [intOf]; omega
    · have HE := Lib.hid (show dn ++ pendP p (edgeK E k) = U from by rw [← HM.out.done (by have := HN.out; omega), HU.out])
      rw [HE.out] at HO
      obtain ⟨A8, c8, rfl, hrd⟩ := HO.out.read_f HNU.out
      have HR8 := Lib.hid hrd
      clear hrd WH
      go_wp2_with fail
      go_ret
      exact ⟨A8, c8, rfl, HR8.out.mono fun g hg => Nat.le_trans HW.out.size hg, HW.out.trans (hbw.out.mono HW.out.size)⟩
theorem ref_pmake (op x : Int) (hx : op = x) (h123 : op = 1 ∨ op = 2 ∨ op = 3) (A B D : Option Addr) (c d e n m q : Nat) (a b : List Pc) (l : List Rng) (hn : n = a.length) (hm : m = b.length) (hq : q = l.length) (hmq : m + q ≤ 10000)
    (hca : CapP a) (hcb : CapP b) (U : List Pc) (hU : makeP op a b l = U) (NU : Nat) (hNU : NU = U.length) (w : World) (ha : RdPc w A c a) (hb : RdPc w B d b) (hl : kRng.Rd w w.heap.size D e l) :
    Calls Tryz.prog 51 #[.int .i64 x, .slice A n c, .slice B m d, .slice D q e] w (RetP w NU U) :=
  (ref_pmake_new op x hx h123 A B D c d e n m q a b l hn hm hq hmq hca hcb U hU NU hNU w ha hb hl).mono fun _ _ h => h.to
end Go.Proofs.YtaodifpnfejbbaaGreat

/-
  Layer 7 (span): the ranges of one text, and of those that begin with one.
-/
namespace Go.Proofs.YtaodifpnfejbbaaGreat
open Go.RowKit

set_option maxRecDepth 100000 in
theorem span_of (k : List UInt8) (r : Rng) (K S T : ByteArray) (o : Bool) (hK : str k = K) (hk : k.length ≤ 1000000) (hr : ofR k = r) (h : IsR r S T o) (w : World) :
    Calls Tryz.prog 53 #[.string K] w fun e w' => e = .returned (.agg #[.string S, .string T, .bool o]) ∧ Below w.heap.size w w' := by
  have hz : K.size = k.length := by subst hK; exact str_size _
  by_cases g : k.length ≤ 16
  · have g1 : K.size ≤ 16 := by omega
    rw [ofR_short g] at hr
    subst hr
    obtain ⟨h1, h2, rfl⟩ := h
    obtain rfl : K = S := hK.symm.trans h1
    have N := fun w => Lib.hid (next_is k K T hK h2 (by omega) w)
    clear hz hK h1 h2 g
    go_enter Tryz.func53, Tryz.ntmps53
    go_wp2_with ((with_reducible refine (N _).out.mono ?_); rintro e w' ⟨rfl, hb⟩; obtain ⟨hc, hf⟩ := bcell hb; replace hb := ((Below.refl w.heap.size w).alloc (Nat.le_refl _) _).trans (hb.mono (by simp)))
    exact bodyPost_ret (v := .agg #[.string K, .string T, .bool false]) (by simp [results, Tryz.results53, go_sem, hc]) rfl ⟨rfl, below_set3 hb (Nat.le_refl _) _ _ _⟩
  · have g1 : 16 < K.size := by omega
    rw [ofR_long (by omega)] at hr
    subst hr
    obtain ⟨rfl, rfl, rfl⟩ := h
    clear hz hK g
    go_enter Tryz.func53, Tryz.ntmps53
    go_wp2_with fail
    exact bodyPost_ret (v := .agg #[.string ⟨#[]⟩, .string ⟨#[]⟩, .bool false]) (by simp [results, Tryz.results53, go_sem]) rfl ⟨rfl, (Below.refl _ _).alloc (Nat.le_refl _) _⟩
set_option maxRecDepth 100000 in
theorem ref_of (k : List UInt8) (r : Rng) (K S T : ByteArray) (o : Bool) (hK : str k = K) (hk : k.length ≤ 1000000) (hr : ofR k = r) (h : IsR r S T o) (w : World) :
    Calls Tryz.prog 57 #[.string K] w fun e w' => e = .returned (.agg #[.string S, .string T, .bool o]) ∧ Below w.heap.size w w' := by
  have hz : K.size = k.length := by subst hK; exact str_size _
  by_cases g : k.length ≤ 16
  · have g1 : K.size ≤ 16 := by omega
    rw [ofR_short g] at hr
    subst hr
    obtain ⟨h1, h2, rfl⟩ := h
    obtain rfl : K = S := hK.symm.trans h1
    have HV : Hid (K ++ str [0] = T) := by rw [← hK, ← h2]; exact txt_app k [0]
    have hz0 : (str [(0 : UInt8)]).size ≤ 1 := by rw [str_size]; simp
    have hrow := byte_row (w.alloc (.cells #[.string ⟨#[]⟩, .string ⟨#[]⟩, .bool false] 42)) _ 0 rfl
    have K1 := conv_str (P := Tryz.prog) 1 112 5 9 Tryz.underlying112 Tryz.underlying5 Tryz.underlying9 hrow
    change (convert 112 9 (.slice (some ⟨(w.alloc (.cells #[.string ⟨#[]⟩, .string ⟨#[]⟩, .bool false] 42)).heap.size, 0, none⟩) 1 1)).run Tryz.prog ((w.alloc (.cells #[.string ⟨#[]⟩, .string ⟨#[]⟩, .bool false] 42)).alloc (.cells #[.int .u8 0] 5)) = _ at K1
    rw [show (w.alloc (.cells #[.string ⟨#[]⟩, .string ⟨#[]⟩, .bool false] 42)).heap.size = w.heap.size + 1 by simp] at K1
    clear hz hK h1 h2 g hrow
    go_enter Tryz.func57, Tryz.ntmps57
    go_wp2_with fail
    exact bodyPost_ret (v := .agg #[.string K, .string T, .bool false]) (by simp [results, Tryz.results57, go_sem, HV.out]) rfl ⟨rfl, ((Below.refl _ _).alloc (Nat.le_refl _) _).alloc (by simp) _⟩
  · have g1 : 16 < K.size := by omega
    rw [ofR_long (by omega)] at hr
    subst hr
    obtain ⟨rfl, rfl, rfl⟩ := h
    clear hz hK g
    go_enter Tryz.func57, Tryz.ntmps57
    go_wp2_with fail
    exact bodyPost_ret (v := .agg #[.string ⟨#[]⟩, .string ⟨#[]⟩, .bool false]) (by simp [results, Tryz.results57, go_sem]) rfl ⟨rfl, (Below.refl _ _).alloc (Nat.le_refl _) _⟩
/-- What the range of a prefix is, in terms of the prefix's end. -/
theorem prefixR_end {p : List UInt8} (h : p.length ≤ 16) {x : List UInt8} {v : Bool} (hv : (endV p = some x ∧ v = true) ∨ (endV p = none ∧ x = [] ∧ v = false)) : prefixR p = ⟨p, x, !v⟩ := by
  rcases hv with ⟨h1, rfl⟩ | ⟨h1, rfl, rfl⟩
  · rw [prefixR_some h h1]; rfl
  · rw [prefixR_none h h1]; rfl
end Go.Proofs.YtaodifpnfejbbaaGreat

/-
  Layer 15 (know), the document's words: right lists, joined, without another, restricted; the knowledge of some versions of a key.
-/
namespace Go.Proofs.YtaodifpnfejbbaaGreat
open Go.RowKit

theorem RdPc.empty (w : World) (A : Option Addr) (c : Nat) (hc : c ≤ maxLen) : RdPc w A c [] := Deep.Rd.nil w _ A c hc
set_option maxRecDepth 100000 in
theorem ref_pof (A : Option Addr) (c n : Nat) (a : List Pc) (hn : n = a.length) (hca : CapP a) (U : List Pc) (hU : ofP a = U) (NU : Nat) (hNU : NU = U.length) (w : World) (ha : RdPc w A c a) :
    Calls Tryz.prog 19 #[.slice A n c] w (RetP w NU U) := by
  have HB := Lib.hid ((below_new w (.cells #[] 44)).alloc (by simp) (.cells #[] 42))
  have C := fun W h1 h2 h3 => Lib.hid (ref_pmake 1 1 rfl (.inl rfl) A (some ⟨w.heap.size, 0, none⟩) (some ⟨w.heap.size + 1, 0, none⟩) c 0 0 n 0 0 a [] [] hn rfl rfl (by omega) hca CapP.nil U hU NU hNU W h1 h2 h3)
  have H1 := Lib.hid (ha.call HB.out)
  have H2 := Lib.hid (RdPc.empty ((w.alloc (.cells #[] 44)).alloc (.cells #[] 42)) (some ⟨w.heap.size, 0, none⟩) 0 (Nat.zero_le _))
  have H3 := Lib.hid (Kind.Rd.empty (k := kRng) ((w.alloc (.cells #[] 44)).alloc (.cells #[] 42)) ((w.alloc (.cells #[] 44)).alloc (.cells #[] 42)).heap.size (some ⟨w.heap.size + 1, 0, none⟩) 0 (Nat.zero_le _))
  clear hn hca hU hNU ha
  go_enter Tryz.func19, Tryz.ntmps19
  go_wp2_with ((with_reducible refine (C _ H1.out H2.out H3.out).out.mono ?_); rintro e w1 ⟨A1, c1, rfl, hrd, hq⟩; have HR := Lib.hid hrd; have HQ := Lib.hid (HB.out.trans (hq.mono HB.out.size)); clear hrd hq)
  go_ret
  exact ⟨A1, c1, rfl, HR.out, HQ.out⟩
set_option maxRecDepth 100000 in
theorem ref_pjoin_new (A B : Option Addr) (c d n m : Nat) (a b : List Pc) (hn : n = a.length) (hm : m = b.length) (hca : CapP a) (hcb : CapP b) (U : List Pc) (hU : joinP a b = U) (NU : Nat) (hNU : NU = U.length) (w : World) (ha : RdPc w A c a) (hb : RdPc w B d b) :
    Calls Tryz.prog 23 #[.slice A n c, .slice B m d] w (RetPF w NU U) := by
  have HB := Lib.hid (below_new w (.cells #[] 42))
  have C := fun W h1 h2 h3 => Lib.hid (ref_pmake_new 1 1 rfl (.inl rfl) A B (some ⟨w.heap.size, 0, none⟩) c d 0 n m 0 a b [] hn hm rfl (by have := hcb.len; omega) hca hcb U hU NU hNU W h1 h2 h3)
  have H1 := Lib.hid (ha.call HB.out)
  have H2 := Lib.hid (hb.call HB.out)
  have H3 := Lib.hid (Kind.Rd.empty (k := kRng) (w.alloc (.cells #[] 42)) (w.alloc (.cells #[] 42)).heap.size (some ⟨w.heap.size, 0, none⟩) 0 (Nat.zero_le _))
  clear hn hm hca hcb hU hNU ha hb
  go_enter Tryz.func23, Tryz.ntmps23
  go_wp2_with ((with_reducible refine (C _ H1.out H2.out H3.out).out.mono ?_); rintro e w1 ⟨A1, c1, rfl, hrd, hq⟩; have HR := Lib.hid hrd; have HQ := Lib.hid (HB.out.trans (hq.mono HB.out.size)); clear hrd hq)
  go_ret
  exact ⟨A1, c1, rfl, HR.out.mono fun g hg => Nat.le_trans HB.out.size hg, HQ.out⟩
theorem ref_pjoin (A B : Option Addr) (c d n m : Nat) (a b : List Pc) (hn : n = a.length) (hm : m = b.length) (hca : CapP a) (hcb : CapP b) (U : List Pc) (hU : joinP a b = U) (NU : Nat) (hNU : NU = U.length) (w : World) (ha : RdPc w A c a) (hb : RdPc w B d b) :
    Calls Tryz.prog 23 #[.slice A n c, .slice B m d] w (RetP w NU U) :=
  (ref_pjoin_new A B c d n m a b hn hm hca hcb U hU NU hNU w ha hb).mono fun _ _ h => h.to
set_option maxRecDepth 100000 in
theorem ref_pless (A B : Option Addr) (c d n m : Nat) (a b : List Pc) (hn : n = a.length) (hm : m = b.length) (hca : CapP a) (hcb : CapP b) (U : List Pc) (hU : lessP a b = U) (NU : Nat) (hNU : NU = U.length) (w : World) (ha : RdPc w A c a) (hb : RdPc w B d b) :
    Calls Tryz.prog 28 #[.slice A n c, .slice B m d] w (RetP w NU U) := by
  have HB := Lib.hid (below_new w (.cells #[] 42))
  have C := fun W h1 h2 h3 => Lib.hid (ref_pmake 2 2 rfl (.inr (.inl rfl)) A B (some ⟨w.heap.size, 0, none⟩) c d 0 n m 0 a b [] hn hm rfl (by have := hcb.len; omega) hca hcb U hU NU hNU W h1 h2 h3)
  have H1 := Lib.hid (ha.call HB.out)
  have H2 := Lib.hid (hb.call HB.out)
  have H3 := Lib.hid (Kind.Rd.empty (k := kRng) (w.alloc (.cells #[] 42)) (w.alloc (.cells #[] 42)).heap.size (some ⟨w.heap.size, 0, none⟩) 0 (Nat.zero_le _))
  clear hn hm hca hcb hU hNU ha hb
  go_enter Tryz.func28, Tryz.ntmps28
  go_wp2_with ((with_reducible refine (C _ H1.out H2.out H3.out).out.mono ?_); rintro e w1 ⟨A1, c1, rfl, hrd, hq⟩; have HR := Lib.hid hrd; have HQ := Lib.hid (HB.out.trans (hq.mono HB.out.size)); clear hrd hq)
  go_ret
  exact ⟨A1, c1, rfl, HR.out, HQ.out⟩
set_option maxRecDepth 100000 in
theorem ref_prest (A D : Option Addr) (c e n q : Nat) (a : List Pc) (l : List Rng) (hn : n = a.length) (hq : q = l.length) (hql : q ≤ 2000) (hca : CapP a) (U : List Pc) (hU : restP a l = U) (NU : Nat) (hNU : NU = U.length) (w : World) (ha : RdPc w A c a) (hl : kRng.Rd w w.heap.size D e l) :
    Calls Tryz.prog 30 #[.slice A n c, .slice D q e] w (RetP w NU U) := by
  have HB := Lib.hid (below_new w (.cells #[] 44))
  have C := fun W h1 h2 h3 => Lib.hid (ref_pmake 3 3 rfl (.inr (.inr rfl)) A (some ⟨w.heap.size, 0, none⟩) D c 0 e n 0 q a [] l hn rfl hq (by omega) hca CapP.nil U hU NU hNU W h1 h2 h3)
  have H1 := Lib.hid (ha.call HB.out)
  have H2 := Lib.hid (RdPc.empty (w.alloc (.cells #[] 44)) (some ⟨w.heap.size, 0, none⟩) 0 (Nat.zero_le _))
  have H3 := Lib.hid (hl.call HB.out)
  clear hn hq hca hU hNU ha hl
  go_enter Tryz.func30, Tryz.ntmps30
  go_wp2_with ((with_reducible refine (C _ H1.out H2.out H3.out).out.mono ?_); rintro e w1 ⟨A1, c1, rfl, hrd, hq⟩; have HR := Lib.hid hrd; have HQ := Lib.hid (HB.out.trans (hq.mono HB.out.size)); clear hrd hq)
  go_ret
  exact ⟨A1, c1, rfl, HR.out, HQ.out⟩
end Go.Proofs.YtaodifpnfejbbaaGreat

/-
  Layer 15 (know), the document's words: the knowledge of some versions of a key.
-/
namespace Go.Proofs.YtaodifpnfejbbaaGreat
open Go.RowKit

theorem oneP_no {s : List UInt8} {l : List Vr} (h : rightB s = false ∨ addsS [] l = []) : oneP s l = [] := by
  unfold oneP
  rcases h with h | h
  · rw [show (decide (1 ≤ s.length) && decide (s.length ≤ 16)) = false from h]
  · rw [h]; split <;> rfl
theorem oneP_yes {s : List UInt8} {l : List Vr} (h : rightB s = true) (h2 : addsS [] l ≠ []) : oneP s l = [⟨ofR s, addsS [] l⟩] := by
  unfold oneP
  rw [show (decide (1 ≤ s.length) && decide (s.length ≤ 16)) = true from h]
  cases hs : addsS [] l with
  | nil => exact absurd hs h2
  | cons x y => rfl
/-- Pieces in a row. -/
theorem rdP_one {w : World} {A : Option Addr} {c : Nat} {r : Rng} {K : List Kn} {A' : Option Addr} {n' c' : Nat} (hr : kPs.Rd w w.heap.size A c [⟨r, A', n', c'⟩]) (hn : n' = K.length) (hk : RdK w w.heap.size A' c' K) : RdPc w A c [⟨r, K⟩] :=
  ⟨[⟨r, A', n', c'⟩], hr.inS.mono (fun _ _ => trivial), .one ⟨rfl, hn, (rdk_in hk).all⟩⟩
set_option maxRecDepth 100000 in
set_option maxHeartbeats 2000000 in
theorem ref_pone (s : List UInt8) (U : ByteArray) (B : Option Addr) (d m : Nat) (l : List Vr) (hU : str s = U) (hs : s.length ≤ 1000000) (hm : m = l.length) (hml : m ≤ 1000) (P : List Pc) (hP : oneP s l = P) (NP : Nat) (hNP : NP = P.length) (w : World) (hl : kVr.Rd w w.heap.size B d l) :
    Calls Tryz.prog 24 #[.string U, .slice B m d] w (RetP w NP P) := by
  have HB := Lib.hid (below_new w (.cells #[] 61))
  obtain ⟨K, hK⟩ : ∃ K, addsS [] l = K := ⟨_, rfl⟩
  obtain ⟨N, hN⟩ : ∃ N, K.length = N := ⟨_, rfl⟩
  have C := fun W h1 h2 => Lib.hid (ref_vadd (some ⟨w.heap.size, 0, none⟩) B 0 d 0 m [] l rfl hm hml (fun _ => Nat.zero_le _) K hK N hN W h1 h2)
  have H1 := Lib.hid (show RdK (w.alloc (.cells #[] 61)) (w.alloc (.cells #[] 61)).heap.size (some ⟨w.heap.size, 0, none⟩) 0 [] from rdk_nil _ _ _)
  have H2 := Lib.hid (hl.call HB.out)
  obtain ⟨z, hz⟩ : ∃ z, rightB s = z := ⟨_, rfl⟩
  have CR := fun w => Lib.hid (ref_right s w)
  rw [hU, hz] at CR
  by_cases hyes : z = true ∧ N ≠ 0
  · obtain ⟨rfl, hN0⟩ := hyes
    have hKn : K ≠ [] := fun h => hN0 (by rw [← hN, h]; rfl)
    obtain rfl : [⟨ofR s, K⟩] = P := by rw [← hP, oneP_yes hz (by rw [hK]; exact hKn), hK]
    obtain rfl : NP = 1 := hNP
    have CO := fun w => Lib.hid (ref_of s (ofR s) U _ _ _ hU hs rfl (IsR.mk' (ofR s)) w)
    have hz0 : ((N : Int) == 0) = false := beq_eq_false_iff_ne.2 (by omega)
    have HN := Lib.hid hN
    obtain ⟨S, hS⟩ : ∃ S, str (ofR s).lo = S := ⟨_, rfl⟩
    obtain ⟨T, hT⟩ : ∃ T, str (ofR s).hi = T := ⟨_, rfl⟩
    obtain ⟨q, hq⟩ : ∃ q, (ofR s).op = q := ⟨_, rfl⟩
    have HRW := fun (w : World) (A : Option Addr) (n c : Nat) => Lib.hid (show kPs.Rd (w.alloc (.cells #[.string S, .string T, .bool q, .slice A n c] 44)) (w.alloc (.cells #[.string S, .string T, .bool q, .slice A n c] 44)).heap.size (some ⟨w.heap.size, 0, none⟩) 1 [⟨ofR s, A, n, c⟩] from by
      rw [size1, ← hS, ← hT, ← hq]
      exact Kind.rd_new (k := kPs) (l := [⟨ofR s, A, n, c⟩]) rfl rfl (by simp))
    rw [hS, hT, hq] at CO
    clear hU hs hm hml hP hl hK hN hz hKn hS hT hq
    go_enter Tryz.func24, Tryz.ntmps24
    go_wp2_with (first
      | ((with_reducible refine (C _ H1.out H2.out).out.mono ?_); rintro e w1 ⟨A1, c1, rfl, hrd, hq⟩; have HQ := Lib.hid (HB.out.trans (hq.mono HB.out.size)); have HK := Lib.hid hrd; have hx1 : N ≤ c1 := (by rw [← HN.out]; exact hrd.room); clear hrd hq)
      | ((with_reducible refine (CR _).out.mono ?_); rintro e w2 ⟨rfl, hq⟩; subst hq)
      | ((with_reducible refine (CO _).out.mono ?_); rintro e w3 ⟨rfl, hq⟩; replace HQ := Lib.hid (HQ.out.trans (hq.mono HQ.out.size)); replace HK := Lib.hid (HK.out.call hq); clear hq))
    go_ret
    exact ⟨_, _, rfl, rdP_one (HRW _ _ _ _).out HN.out.symm (HK.out.call (below_new _ _)), HQ.out.alloc HQ.out.size _⟩
  · obtain rfl : [] = P := by
      rw [← hP]
      refine (oneP_no ?_).symm
      cases z
      · exact .inl hz
      · refine .inr (List.eq_nil_of_length_eq_zero ?_)
        rw [hK, hN]
        by_cases h : N = 0
        · exact h
        · exact absurd ⟨rfl, h⟩ hyes
    obtain rfl : NP = 0 := hNP
    clear hU hs hm hml hP hl hK hz
    cases z
    · clear hyes
      go_enter Tryz.func24, Tryz.ntmps24
      go_wp2_with (first
        | ((with_reducible refine (C _ H1.out H2.out).out.mono ?_); rintro e w1 ⟨A1, c1, rfl, hrd, hq⟩; have HQ := Lib.hid (HB.out.trans (hq.mono HB.out.size)); clear hrd hq)
        | ((with_reducible refine (CR _).out.mono ?_); rintro e w2 ⟨rfl, hq⟩; subst hq))
      go_ret
      exact ⟨_, _, rfl, RdPc.empty _ _ _ (Nat.zero_le _), HQ.out.alloc HQ.out.size _⟩
    · obtain rfl : N = 0 := by
        by_cases h : N = 0
        · exact h
        · exact absurd ⟨rfl, h⟩ hyes
      clear hyes
      go_enter Tryz.func24, Tryz.ntmps24
      go_wp2_with (first
        | ((with_reducible refine (C _ H1.out H2.out).out.mono ?_); rintro e w1 ⟨A1, c1, rfl, hrd, hq⟩; have HQ := Lib.hid (HB.out.trans (hq.mono HB.out.size)); clear hrd hq)
        | ((with_reducible refine (CR _).out.mono ?_); rintro e w2 ⟨rfl, hq⟩; subst hq))
      go_ret
      exact ⟨_, _, rfl, RdPc.empty _ _ _ (Nat.zero_le _), HQ.out.alloc HQ.out.size _⟩
end Go.Proofs.YtaodifpnfejbbaaGreat

/-
  Layer 15 (know): how many pieces, and how many runs, knowledge has; what is made of it. No program in this text.
-/
namespace Go.Proofs.YtaodifpnfejbbaaGreat

/-- At most so many pieces, and at most so many runs of a replica at any text. -/
structure CapN (L B : Nat) (k : List Pc) : Prop where
  len : k.length ≤ L
  each : ∀ p ∈ k, p.rng.lo.length ≤ 1000 ∧ p.rng.hi.length ≤ 1000 ∧ p.set.length ≤ 16
  own : ∀ p ∈ k, ∀ r, (runsV p.set r).length ≤ B
  runs : ∀ s r, (runsV (catK k s) r).length ≤ B
theorem CapN.nil (L B : Nat) : CapN L B [] := ⟨Nat.zero_le _, fun p h => (by cases h), fun p h => (by cases h), fun _ _ => Nat.zero_le _⟩
theorem CapN.mono {L B L' B' : Nat} {k : List Pc} (h : CapN L B k) (hL : L ≤ L') (hB : B ≤ B') : CapN L' B' k :=
  ⟨Nat.le_trans h.len hL, h.each, fun p hp r => Nat.le_trans (h.own p hp r) hB, fun s r => Nat.le_trans (h.runs s r) hB⟩
theorem catK_len {m : Nat} : ∀ {k : List Pc} (s : List UInt8), (∀ p ∈ k, p.set.length ≤ m) → (catK k s).length ≤ m * k.length
  | [], s, _ => Nat.zero_le _
  | p :: k, s, h => by
    have h1 := catK_len (k := k) s fun q hq => h q (List.mem_cons_of_mem _ hq)
    have h2 : (setP p s).length ≤ m := by
      cases hr : hasR p.rng s
      · rw [setP_no hr]; exact Nat.zero_le _
      · rw [setP_yes hr]; exact h p (List.mem_cons_self ..)
    rw [catK, List.length_append, List.length_cons, Nat.mul_add, Nat.mul_one]
    omega
theorem CapN.cap {L B : Nat} {k : List Pc} (h : CapN L B k) (hL : L ≤ 8000) (hB : B ≤ 20000) : CapP k :=
  ⟨Nat.le_trans h.len hL, fun s => by
    have h1 := catK_len (k := k) s fun p hp => (h.each p hp).2.2
    have h2 : 16 * k.length ≤ 16 * 8000 := Nat.mul_le_mul_left 16 (Nat.le_trans h.len hL)
    omega, fun s r => Nat.le_trans (h.runs s r) hB⟩
theorem runsV_cat {B : Nat} : ∀ {k : List Pc} (s : List UInt8) (r : Int), (∀ p ∈ k, (runsV p.set r).length ≤ B) → (runsV (catK k s) r).length ≤ B * k.length
  | [], s, r, _ => Nat.zero_le _
  | p :: k, s, r, h => by
    have h1 := runsV_cat (k := k) s r fun q hq => h q (List.mem_cons_of_mem _ hq)
    have h2 : (runsV (setP p s) r).length ≤ B := by
      cases hr : hasR p.rng s
      · rw [setP_no hr]; exact Nat.zero_le _
      · rw [setP_yes hr]; exact h p (List.mem_cons_self ..)
    rw [catK, runsV_append, List.length_append, List.length_cons, Nat.mul_add, Nat.mul_one]
    omega
theorem longP_cap {m : Nat} {k : List Pc} (h : longP m k = false) : CapN m (256 * m) k := by
  unfold longP at h
  simp only [Bool.or_eq_false_iff, decide_eq_false_iff_not, List.any_eq_false] at h
  obtain ⟨h1, h2⟩ := h
  have hp : ∀ p ∈ k, p.rng.lo.length ≤ 40 ∧ p.rng.hi.length ≤ 40 ∧ sizeV 16 p.set := fun p hp => by
    have := h2 p hp
    unfold longPc at this
    simp only [Bool.not_eq_true, Bool.or_eq_false_iff, decide_eq_false_iff_not] at this
    exact ⟨by omega, by omega, longV_size this.2⟩
  have ho : ∀ p ∈ k, ∀ r, (runsV p.set r).length ≤ 256 := fun p hp' r => by
    have h3 := (hp p hp').2.2
    have h4 := runsV_len r h3.2
    have h5 : 16 * p.set.length ≤ 16 * 16 := Nat.mul_le_mul_left 16 h3.1
    omega
  refine ⟨by omega, fun p hp' => ⟨by have := (hp p hp').1; omega, by have := (hp p hp').2.1; omega, (hp p hp').2.2.1⟩, fun p hp' r => ?_, fun s r => ?_⟩
  · have h3 := ho p hp' r
    have h4 : 0 < k.length := List.length_pos_of_mem hp'
    have h5 : 256 * 1 ≤ 256 * m := Nat.mul_le_mul_left 256 (by omega)
    omega
  · exact Nat.le_trans (runsV_cat s r fun p hp' => ho p hp' r) (Nat.mul_le_mul_left 256 (by omega))
theorem CapN.append {L B L' B' : Nat} {a b : List Pc} (h : CapN L B a) (h' : CapN L' B' b) : CapN (L + L') (B + B') (a ++ b) := by
  refine ⟨by rw [List.length_append]; have := h.len; have := h'.len; omega, fun p hp => ?_, fun p hp r => ?_, fun s r => ?_⟩
  · rcases List.mem_append.1 hp with hp | hp
    · exact h.each p hp
    · exact h'.each p hp
  · rcases List.mem_append.1 hp with hp | hp
    · have := h.own p hp r; omega
    · have := h'.own p hp r; omega
  · rw [catK_append, runsV_append, List.length_append]
    have := h.runs s r
    have := h'.runs s r
    omega
theorem rightR_short {r : Rng} (h : rightR r = true) : r.lo.length ≤ 17 ∧ r.hi.length ≤ 17 := ⟨(rightR_iff.1 h).1, (rightR_iff.1 h).2.1⟩
theorem upS_length {s : List Kn} (h : rightS s = true) : s.length ≤ 16 := by
  rw [← ofS_self h]; exact colS_len _ 16
/-- A right list: what is had at each text bounds all. -/
theorem CapN.right {L B : Nat} {k : List Pc} (h : rightP k = true) (hL : k.length ≤ L) (hB : ∀ s r, (runsV (catK k s) r).length ≤ B) : CapN L B k := by
  refine ⟨hL, fun p hp => ?_, fun p hp r => ?_, hB⟩
  · obtain ⟨h1, -, h3⟩ := onePc_iff.1 (rightP_all h p hp)
    have := rightR_short h1
    exact ⟨by omega, by omega, upS_length h3⟩
  · obtain ⟨h1, -, h3⟩ := onePc_iff.1 (rightP_all h p hp)
    refine Nat.le_trans ?_ (hB p.rng.lo r)
    obtain ⟨a, b, rfl⟩ := List.append_of_mem hp
    rw [catK_append, runsV_append, catK, setP_yes (hasR_lo h1), runsV_append, List.length_append, List.length_append]
    omega
theorem makeS_runs_any {op : Int} {a b : List Kn} {x y : Nat} (ha : ∀ r, (runsV a r).length ≤ x) (hb : ∀ r, (runsV b r).length ≤ y) (r : Int) : (runsV (makeS op a b) r).length ≤ 2 * (x + y) + 1 := by
  by_cases hr : 1 ≤ r ∧ r ≤ 16
  · rw [makeS_runs hr.1 hr.2]
    have := makeC_len op (runsV a r) (runsV b r)
    have := ha r
    have := hb r
    omega
  · rw [rightS_out (makeS_right op a b) hr]; exact Nat.zero_le _
theorem CapN.at_ {L B : Nat} {k : List Pc} (h : CapN L B k) (s : List UInt8) (r : Int) : (runsV (atK k s) r).length ≤ B := Nat.le_trans (ofS_short _ r) (h.runs s r)
theorem CapN.join {L B L' B' : Nat} {a b : List Pc} (h : CapN L B a) (h' : CapN L' B' b) : CapN (1 + 2 * (L + L')) (B + B') (joinP a b) := by
  refine .right (makeP_right ..) (Nat.le_trans (makeP_len 1 a b []) (by have := h.len; have := h'.len; simp; omega)) fun s r => ?_
  rw [← atK_right (show rightP (joinP a b) = true from makeP_right ..), joinP_at]
  have := makeS1_runs (atK a s) (atK b s) r
  have := h.at_ s r
  have := h'.at_ s r
  omega
theorem CapN.of {L B : Nat} {a : List Pc} (h : CapN L B a) : CapN (1 + 2 * L) B (ofP a) := (h.join (.nil 0 0)).mono (by omega) (by omega)
theorem CapN.less {L B L' B' : Nat} {a b : List Pc} (h : CapN L B a) (h' : CapN L' B' b) : CapN (1 + 2 * (L + L')) (2 * (B + B') + 1) (lessP a b) := by
  refine .right (makeP_right ..) (Nat.le_trans (makeP_len 2 a b []) (by have := h.len; have := h'.len; simp; omega)) fun s r => ?_
  rw [← atK_right (show rightP (lessP a b) = true from makeP_right ..), lessP_at]
  exact makeS_runs_any (h.at_ s) (h'.at_ s) r
theorem CapN.rest {L B q : Nat} {a : List Pc} (h : CapN L B a) {l : List Rng} (hq : l.length ≤ q) : CapN (1 + 2 * (L + q)) B (restP a l) := by
  refine .right (makeP_right ..) (Nat.le_trans (makeP_len 3 a [] l) (by have := h.len; simp; omega)) fun s r => ?_
  rw [← atK_right (show rightP (restP a l) = true from makeP_right ..)]
  cases hl : hasL l s
  · rw [restP_out hl]; exact Nat.zero_le _
  · rw [restP_in hl]; exact h.at_ s r
end Go.Proofs.YtaodifpnfejbbaaGreat

/-
  The laws of layer 14: what they ask of the program's functions; the chapter's example.
-/
namespace Go.Proofs.YtaodifpnfejbbaaGreat
open Go.RowKit

def CapS (s : List Kn) : Prop := s.length ≤ 1000 ∧ ∀ r, (runsV s r).length ≤ 20000
def SRightC (F : FuncId) : Prop := ∀ (A : Option Addr) (c n : Nat) (s : List Kn), n = s.length → CapS s → ∀ v, rightS s = v → ∀ w, RdK w w.heap.size A c s → Calls Tryz.prog F #[.slice A n c] w fun e w' => e = .returned (.bool v) ∧ Below w.heap.size w w'
def SHasC (F : FuncId) : Prop := ∀ (A : Option Addr) (c n : Nat) (s : List Kn) (v : Vr) (x y : Int), v.rep = x → v.cnt = y → n = s.length → CapS s → ∀ f, hasS s v = f → ∀ w, RdK w w.heap.size A c s → Calls Tryz.prog F #[.slice A n c, .agg #[.int .i64 x, .int .i64 y]] w fun e w' => e = .returned (.bool f) ∧ Below w.heap.size w w'
def SOfC (F : FuncId) : Prop := ∀ (A : Option Addr) (c n : Nat) (s : List Kn), n = s.length → CapS s → ∀ U, ofS s = U → ∀ N, U.length = N → ∀ w, RdK w w.heap.size A c s → Calls Tryz.prog F #[.slice A n c] w (RetK w N U)
def SAddC (F : FuncId) : Prop := ∀ (A B : Option Addr) (c d n m : Nat) (s : List Kn) (l : List Vr), n = s.length → m = l.length → m ≤ 1000 → s.length ≤ 1000 → (∀ r, (runsV s r).length ≤ 15000) → ∀ U, addsS s l = U → ∀ N, U.length = N → ∀ w, RdK w w.heap.size A c s → kVr.Rd w w.heap.size B d l → Calls Tryz.prog F #[.slice A n c, .slice B m d] w (RetK w N U)
def SSetC (F : FuncId) (op : Int) : Prop := ∀ (A B : Option Addr) (c d n m : Nat) (a b : List Kn), n = a.length → m = b.length → CapS a → CapS b → ∀ U, makeS op a b = U → ∀ N, U.length = N → ∀ w, RdK w w.heap.size A c a → RdK w w.heap.size B d b → Calls Tryz.prog F #[.slice A n c, .slice B m d] w (RetK w N U)
def SBoolC (F : FuncId) (g : List Kn → List Kn → Prop) : Prop := ∀ (A B : Option Addr) (c d n m : Nat) (a b : List Kn), n = a.length → m = b.length → CapS a → CapS b → ∀ v : Bool, (v = true ↔ g a b) → ∀ w, RdK w w.heap.size A c a → RdK w w.heap.size B d b → Calls Tryz.prog F #[.slice A n c, .slice B m d] w fun e w' => e = .returned (.bool v) ∧ Below w.heap.size w w'
def sameQ (a b : List Kn) : Prop := ofS a = ofS b
def withinQ (a b : List Kn) : Prop := makeS 3 a b = []
def SVecC (F : FuncId) : Prop := ∀ (A : Option Addr) (c n : Nat) (s : List Kn), n = s.length → CapS s → ∀ G : Nat → Int, (∀ k : Nat, G k = baseC (runsV s ((k : Int) + 1))) → ∀ w, RdK w w.heap.size A c s →
  Calls Tryz.prog F #[.slice A n c] w fun e w' => e = .returned (.agg #[.int .i64 (G 0), .int .i64 (G 1), .int .i64 (G 2), .int .i64 (G 3), .int .i64 (G 4), .int .i64 (G 5), .int .i64 (G 6), .int .i64 (G 7), .int .i64 (G 8), .int .i64 (G 9), .int .i64 (G 10), .int .i64 (G 11), .int .i64 (G 12), .int .i64 (G 13), .int .i64 (G 14), .int .i64 (G 15)]) ∧ Below w.heap.size w w'
/-- The greatest count of a replica; of what is none: 0. -/
def topS (s : List Kn) (r : Int) : Int := match decide (1 ≤ r) && decide (r ≤ 16) with
  | true => mostC (runsV s r)
  | false => 0
def SMostC (F : FuncId) : Prop := ∀ (A : Option Addr) (c n : Nat) (s : List Kn) (r : Int), n = s.length → CapS s → ∀ z, topS s r = z → ∀ w, RdK w w.heap.size A c s → Calls Tryz.prog F #[.slice A n c, .int .i64 r] w fun e w' => e = .returned (.int .i64 z) ∧ Below w.heap.size w w'
theorem capS_of {m : Nat} {s : List Kn} (h : sizeV m s) (hm : m ≤ 30) : CapS s := by
  refine ⟨by have := h.1; omega, fun r => ?_⟩
  have h1 := runsV_len r h.2
  have h2 : m * s.length ≤ 30 * 30 := Nat.mul_le_mul hm (by have := h.1; omega)
  omega
theorem capS_nil : CapS [] := ⟨by simp, fun _ => Nat.zero_le _⟩
theorem vsame_is (A B : Option Addr) (c d n m : Nat) (s : List Kn) (hn : n = s.length) (hm : m = s.length) (w : World) (ha : RdK w w.heap.size A c s) (hb : RdK w w.heap.size B d s) :
    Calls Tryz.prog 15 #[.slice A n c, .slice B m d] w fun e w' => e = .returned (.bool true) ∧ Below w.heap.size w w' :=
  ref_vsame A B c d n m s s hn hm true (sameS_iff.2 rfl) w ha hb
noncomputable def awk14 (w : World) : World := w.alloc (.cells #[.int .i64 2, .int .i64 1, .int .i64 2, .int .i64 2, .int .i64 1, .int .i64 5] 24)
theorem awk14_rows (w : World) : kVr.Rd (awk14 w) (awk14 w).heap.size (some ⟨w.heap.size, 0, none⟩) 3 [⟨2, 1⟩, ⟨2, 2⟩, ⟨1, 5⟩] ∧ Below w.heap.size w (awk14 w) := by
  have h1 := Kind.rd_new (k := kVr) (w := w) (cs := #[.int .i64 2, .int .i64 1, .int .i64 2, .int .i64 2, .int .i64 1, .int .i64 5]) (t := 24) (l := [⟨2, 1⟩, ⟨2, 2⟩, ⟨1, 5⟩]) (n := 3) rfl rfl (by simp)
  refine ⟨?_, below_new _ _⟩
  have e : (awk14 w).heap.size = w.heap.size + 1 := by unfold awk14; simp
  rw [e]; exact h1
def VecAt (w : World) (g : Nat) (G : Nat → Int) : Prop := ∀ k, k < 16 → w.cell? ⟨g, k, none⟩ = some (.int .i64 (G k))
theorem VecAt.below {w w' : World} {g : Nat} {G : Nat → Int} (h : VecAt w g G) (hb : Below w.heap.size w w') : VecAt w' g G := fun k hk => ((bcell hb).1 _ _ (World.block_lt_of_cell? w _ (h k hk))).trans (h k hk)
end Go.Proofs.YtaodifpnfejbbaaGreat

/-
  The laws of layer 15: what they ask of the program's functions; the chapter's example.
-/
namespace Go.Proofs.YtaodifpnfejbbaaGreat
open Go.RowKit

def CapK (k : List Pc) : Prop := CapN 100 12000 k
def KRightC (F : FuncId) : Prop := ∀ (A : Option Addr) (c n : Nat) (k : List Pc), n = k.length → CapK k → ∀ v, rightP k = v → ∀ w, RdPc w A c k → Calls Tryz.prog F #[.slice A n c] w fun e w' => e = .returned (.bool v) ∧ Below w.heap.size w w'
def KHasC (F : FuncId) : Prop := ∀ (A : Option Addr) (c n : Nat) (k : List Pc) (s : List UInt8) (U : ByteArray) (v : Vr) (x y : Int), n = k.length → str s = U → s.length ≤ 1000 → v.rep = x → v.cnt = y → CapK k → ∀ z, hasP k s v = z → ∀ w, RdPc w A c k →
  Calls Tryz.prog F #[.slice A n c, .string U, .agg #[.int .i64 x, .int .i64 y]] w fun e w' => e = .returned (.bool z) ∧ Below w.heap.size w w'
def KAtC (F : FuncId) : Prop := ∀ (A : Option Addr) (c n : Nat) (k : List Pc) (s : List UInt8) (U : ByteArray), n = k.length → str s = U → s.length ≤ 1000 → CapK k → ∀ K, atK k s = K → ∀ N, K.length = N → ∀ w, RdPc w A c k → Calls Tryz.prog F #[.slice A n c, .string U] w (RetK w N K)
def KOfC (F : FuncId) : Prop := ∀ (A : Option Addr) (c n : Nat) (k : List Pc), n = k.length → CapK k → ∀ U, ofP k = U → ∀ N, N = U.length → ∀ w, RdPc w A c k → Calls Tryz.prog F #[.slice A n c] w (RetP w N U)
def KAddC (F : FuncId) : Prop := ∀ (A B : Option Addr) (c d n m : Nat) (k : List Pc) (s : List UInt8) (X : ByteArray) (l : List Vr), n = k.length → str s = X → s.length ≤ 1000 → m = l.length → m ≤ 60 → CapK k → ∀ U, joinP k (oneP s l) = U → ∀ N, N = U.length → ∀ w, RdPc w A c k → kVr.Rd w w.heap.size B d l →
  Calls Tryz.prog F #[.slice A n c, .string X, .slice B m d] w (RetP w N U)
/-- One set of some ranges. -/
def allPc (l : List Rng) (S : List Kn) : List Pc := l.map fun r => ⟨r, S⟩
def KAllC (F : FuncId) : Prop := ∀ (D A : Option Addr) (e c q n : Nat) (l : List Rng) (S : List Kn), q = l.length → n = S.length → SmallL 60 l → CapK (allPc l S) → S.length ≤ 16 → (∀ r, (runsV S r).length ≤ 12000) → ∀ U, ofP (allPc l S) = U → ∀ N, N = U.length → ∀ w, kRng.Rd w w.heap.size D e l → RdK w w.heap.size A c S →
  Calls Tryz.prog F #[.slice D q e, .slice A n c] w (RetP w N U)
/-- Knowledge in a row, as it lies. -/
structure SlP where
  A : Option Addr
  n : Nat
  c : Nat
noncomputable def kSlP : Kind Tryz.prog SlP where
  ty := 80
  el := 22
  size := 1
  bytes := 24
  zero := .slice none 0 0
  cells := fun s => [.slice s.A s.n s.c]
  len := fun _ => rfl
  one := fun s u hu => by simp at hu; subst hu; rfl
  pos := by decide
  under := Tryz.underlying80
  info := by kernel_rfl
  zsize := rfl
noncomputable def dSlP : Deep Tryz.prog SlP (List Pc) where
  k := kSlP
  rel := fun w S b a => b.n = a.length ∧ dPc.Rd w S b.A b.c a
  mono := fun h hs => ⟨h.1, h.2.mono hs⟩
  lives := fun h => ⟨h.1, h.2.lives⟩
  keep := fun h hk => ⟨h.1, h.2.keep hk⟩
/-- A row of knowledge that reads. -/
def RdPP (w : World) (A : Option Addr) (c : Nat) (ks : List (List Pc)) : Prop := dSlP.Rd w (fun _ => True) A c ks
theorem RdPP.call {w w' : World} {A : Option Addr} {c : Nat} {ks : List (List Pc)} (h : RdPP w A c ks) (hb : Below w.heap.size w w') : RdPP w' A c ks := Deep.Rd.call h hb
def KJoinC (F : FuncId) : Prop := ∀ (A : Option Addr) (c n : Nat) (ks : List (List Pc)), n = ks.length → n ≤ 4 → CapK ks.flatten → ∀ U, ofP ks.flatten = U → ∀ N, N = U.length → ∀ w, RdPP w A c ks → Calls Tryz.prog F #[.slice A n c] w (RetP w N U)
def KLessC (F : FuncId) : Prop := ∀ (A B : Option Addr) (c d n m : Nat) (a b : List Pc), n = a.length → m = b.length → CapK a → CapK b → ∀ U, lessP a b = U → ∀ N, N = U.length → ∀ w, RdPc w A c a → RdPc w B d b → Calls Tryz.prog F #[.slice A n c, .slice B m d] w (RetP w N U)
def KRestC (F : FuncId) : Prop := ∀ (A D : Option Addr) (c e n q : Nat) (a : List Pc) (l : List Rng), n = a.length → q = l.length → CapK a → SmallL 60 l → ∀ U, restP a l = U → ∀ N, N = U.length → ∀ w, RdPc w A c a → kRng.Rd w w.heap.size D e l → Calls Tryz.prog F #[.slice A n c, .slice D q e] w (RetP w N U)
def KBoolC (F : FuncId) (g : List Pc → List Pc → Prop) : Prop := ∀ (A B : Option Addr) (c d n m : Nat) (a b : List Pc), n = a.length → m = b.length → CapK a → CapK b → ∀ v : Bool, (v = true ↔ g a b) → ∀ w, RdPc w A c a → RdPc w B d b → Calls Tryz.prog F #[.slice A n c, .slice B m d] w fun e w' => e = .returned (.bool v) ∧ Below w.heap.size w w'
def sameKQ (a b : List Pc) : Prop := ofP a = ofP b
def withinKQ (a b : List Pc) : Prop := lessP a b = []
theorem psame_is (A B : Option Addr) (c d n m : Nat) (k : List Pc) (hn : n = k.length) (hm : m = k.length) (w : World) (ha : RdPc w A c k) (hb : RdPc w B d k) :
    Calls Tryz.prog 18 #[.slice A n c, .slice B m d] w fun e w' => e = .returned (.bool true) ∧ Below w.heap.size w w' :=
  ref_psame A B c d n m k k hn hm true (sameP_iff.2 rfl) w ha hb
/-! The chapter's example. -/
def awkS : List Kn := [⟨1, [⟨1, 3⟩]⟩]
def awkK : List Pc := [⟨⟨[], [97], false⟩, [⟨1, [⟨1, 3⟩]⟩]⟩, ⟨⟨[97], [97, 0], false⟩, [⟨1, [⟨1, 4⟩]⟩]⟩, ⟨⟨[97, 0], [], true⟩, [⟨1, [⟨1, 3⟩]⟩]⟩]
theorem awkK_eq : joinP [⟨⟨[], [], true⟩, awkS⟩] (oneP [97] [⟨1, 4⟩]) = awkK := by kernel_rfl
theorem awkA_eq : ofP (allPc [⟨[], [], true⟩] awkS) = [⟨⟨[], [], true⟩, awkS⟩] := by kernel_rfl
theorem awk_set (w : World) : RdK ((w.alloc (.cells #[.int .i64 1, .int .i64 3] 58)).alloc (.cells #[.int .i64 1, .slice (some ⟨w.heap.size, 0, none⟩) 1 1] 61)) ((w.alloc (.cells #[.int .i64 1, .int .i64 3] 58)).alloc (.cells #[.int .i64 1, .slice (some ⟨w.heap.size, 0, none⟩) 1 1] 61)).heap.size (some ⟨w.heap.size + 1, 0, none⟩) 1 awkS := by
  have h1 := Kind.rd_new (k := kRn) (w := w) (cs := #[.int .i64 1, .int .i64 3]) (t := 58) (l := [⟨1, 3⟩]) (n := 1) rfl rfl (by simp)
  have h2 := Kind.rd_new (k := kKs) (w := w.alloc (.cells #[.int .i64 1, .int .i64 3] 58)) (cs := #[.int .i64 1, .slice (some ⟨w.heap.size, 0, none⟩) 1 1]) (t := 61) (l := [⟨1, some ⟨w.heap.size, 0, none⟩, 1, 1⟩]) (n := 1) rfl rfl (by simp)
  rw [size1] at h2
  rw [size1, size1]
  refine ⟨[⟨1, some ⟨w.heap.size, 0, none⟩, 1, 1⟩], h2, rfl, fun i k x h3 h4 => ?_⟩
  match i with
  | 0 =>
    injection h3 with h3
    injection h4 with h4
    subst h3 h4
    refine ⟨rfl, rfl, (h1.below ?_).more (by omega)⟩
    have := below_new (w.alloc (.cells #[.int .i64 1, .int .i64 3] 58)) (.cells #[.int .i64 1, .slice (some ⟨w.heap.size, 0, none⟩) 1 1] 61)
    rw [size1] at this
    exact this
  | i + 1 => cases h3
theorem capK_long {m : Nat} {k : List Pc} (h : longP m k = false) (hm : m ≤ 12) : CapK k := (longP_cap h).mono (by omega) (by omega)
set_option maxRecDepth 100000 in
set_option maxHeartbeats 4000000 in
theorem awake15 (HAL : KAllC 25) (HAD : KAddC 22) (HHA : KHasC 13) (HRI : KRightC 11) (w : World) :
    Calls Tryz.prog 8 #[] w fun e w' => e = .returned (.bool true) ∧ Below w.heap.size w w' := by
  obtain ⟨w1, hw1⟩ : ∃ w1, (w.alloc (.cells #[.int .i64 1, .int .i64 3] 58)).alloc (.cells #[.int .i64 1, .slice (some ⟨w.heap.size, 0, none⟩) 1 1] 61) = w1 := ⟨_, rfl⟩
  have hb1 : Below w.heap.size w w1 := hw1 ▸ (below_new w _).alloc (by simp) _
  have hs1 : RdK w1 w1.heap.size (some ⟨w.heap.size + 1, 0, none⟩) 1 awkS := hw1 ▸ awk_set w
  obtain ⟨w2, hw2⟩ : ∃ w2, w1.alloc (.cells #[.string ⟨#[]⟩, .string ⟨#[]⟩, .bool true] 42) = w2 := ⟨_, rfl⟩
  have hb2 : Below w1.heap.size w1 w2 := hw2 ▸ below_new w1 _
  have hr2 : kRng.Rd w2 w2.heap.size (some ⟨w1.heap.size, 0, none⟩) 1 [⟨[], [], true⟩] := by
    rw [← hw2, size1]; exact Kind.rd_new (k := kRng) (l := [⟨[], [], true⟩]) rfl rfl (by simp)
  have C1 := Lib.hid (HAL (some ⟨w1.heap.size, 0, none⟩) (some ⟨w.heap.size + 1, 0, none⟩) 1 1 1 1 [⟨[], [], true⟩] awkS rfl rfl ⟨by simp, fun r hr => by simp at hr; subst hr; simp⟩ (capK_long (m := 1) (by decide) (by omega)) (by decide) (fun r => Nat.le_trans (runsV_len (m := 1) r (by decide)) (by decide)) _ awkA_eq 1 rfl w2 hr2 (hs1.call hb2))
  have C2 := fun A c W (h1 : RdPc W A c [⟨⟨[], [], true⟩, awkS⟩]) => Lib.hid (HAD A (some ⟨W.heap.size, 0, none⟩) c 1 1 1 [⟨⟨[], [], true⟩, awkS⟩] [97] ⟨#[97]⟩ [⟨1, 4⟩] rfl rfl (by simp) rfl (by omega) (capK_long (m := 1) (by decide) (by omega)) awkK awkK_eq 3 rfl (W.alloc (.cells #[.int .i64 1, .int .i64 4] 24)) (h1.call (below_new W _)) (by
    rw [size1]; exact Kind.rd_new (k := kVr) (l := [⟨1, 4⟩]) rfl rfl (by simp)))
  have hck : CapK awkK := capK_long (m := 3) (by decide) (by omega)
  have C3 := fun A c W h => Lib.hid (HHA A c 3 awkK [97] ⟨#[97]⟩ ⟨1, 4⟩ 1 4 rfl rfl (by simp) rfl rfl hck true (by decide +kernel) W h)
  have C4 := fun A c W h => Lib.hid (HHA A c 3 awkK [98] ⟨#[98]⟩ ⟨1, 4⟩ 1 4 rfl rfl (by simp) rfl rfl hck false (by decide +kernel) W h)
  have C5 := fun A c W h => Lib.hid (HRI A c 3 awkK rfl hck true (by decide +kernel) W h)
  have HW := Lib.hid (hb1.trans (hb2.mono hb1.size))
  clear HAL HAD HHA HRI hck hs1 hr2 hb1 hb2
  go_enter Tryz.func8, Tryz.ntmps8
  go_wp2_with (first
    | ((with_reducible refine C1.out.mono ?_); rintro e w3 ⟨A3, c3, rfl, hrd, hq⟩; replace HW := Lib.hid (HW.out.trans (hq.mono HW.out.size)); have HK := Lib.hid hrd; clear hrd hq)
    | ((with_reducible refine (C2 _ _ _ HK.out).out.mono ?_); rintro e w4 ⟨A4, c4, rfl, hrd, hq⟩; replace HW := Lib.hid ((HW.out.alloc HW.out.size _).trans (hq.mono (HW.out.alloc HW.out.size _).size)); have HU := Lib.hid hrd; clear hrd hq HK)
    | ((with_reducible refine (C3 _ _ _ HU.out).out.mono ?_); rintro e w5 ⟨rfl, hq⟩; replace HW := Lib.hid (HW.out.trans (hq.mono HW.out.size)); replace HU := Lib.hid (HU.out.call hq); clear hq)
    | ((with_reducible refine (C4 _ _ _ HU.out).out.mono ?_); rintro e w6 ⟨rfl, hq⟩; replace HW := Lib.hid (HW.out.trans (hq.mono HW.out.size)); replace HU := Lib.hid (HU.out.call hq); clear hq)
    | ((with_reducible refine (C5 _ _ _ HU.out).out.mono ?_); rintro e w7 ⟨rfl, hq⟩; replace HW := Lib.hid (HW.out.trans (hq.mono HW.out.size)); clear hq))
  go_ret
  exact ⟨rfl, HW.out⟩
end Go.Proofs.YtaodifpnfejbbaaGreat

/-
  The laws of layer 15: KnowSets.
-/
namespace Go.Proofs.YtaodifpnfejbbaaGreat
open Go.RowKit

theorem RetP.under {w : World} {o : Obj} {N : Nat} {U : List Pc} {e : Ending} {w' : World} (h : RetP (w.alloc o) N U e w') : RetP w N U e w' := by
  obtain ⟨A, c, h1, h2, h3⟩ := h
  exact ⟨A, c, h1, h2, (below_new w o).trans (h3.mono (by simp))⟩
theorem rdPP_row {w : World} {cs : Array Value} {sl : List SlP} {ks : List (List Pc)} {n : Nat} (hcs : cs.toList = kSlP.row sl) (hn : n = sl.length) (hm : sl.length ≤ 1000) (hl : sl.length = ks.length) (h : ∀ (i : Nat) (s : SlP) (k : List Pc), sl[i]? = some s → ks[i]? = some k → s.n = k.length ∧ RdPc w s.A s.c k) :
    RdPP (w.alloc (.cells cs 22)) (some ⟨w.heap.size, 0, none⟩) n ks :=
  ⟨sl, (Kind.rd_new (k := kSlP) (t := 22) hcs hn (by omega)).inS.mono (fun _ _ => trivial), hl, fun i s k h1 h2 => ⟨(h i s k h1 h2).1, (h i s k h1 h2).2.call (below_new w _)⟩⟩
theorem rdPP_two {w : World} {A B : Option Addr} {c d n m : Nat} {a b : List Pc} (hn : n = a.length) (hm : m = b.length) (ha : RdPc w A c a) (hb : RdPc w B d b) : RdPP (w.alloc (.cells #[.slice A n c, .slice B m d] 22)) (some ⟨w.heap.size, 0, none⟩) 2 [a, b] :=
  rdPP_row (sl := [⟨A, n, c⟩, ⟨B, m, d⟩]) rfl rfl (by simp) rfl fun i s k h1 h2 => by
    match i with
    | 0 => injection h1 with h1; injection h2 with h2; subst h1 h2; exact ⟨hn, ha⟩
    | 1 => injection h1 with h1; injection h2 with h2; subst h1 h2; exact ⟨hm, hb⟩
    | i + 2 => cases h1
theorem rdPP_one {w : World} {A : Option Addr} {c n : Nat} {a : List Pc} (hn : n = a.length) (ha : RdPc w A c a) : RdPP (w.alloc (.cells #[.slice A n c] 22)) (some ⟨w.heap.size, 0, none⟩) 1 [a] :=
  rdPP_row (sl := [⟨A, n, c⟩]) rfl rfl (by simp) rfl fun i s k h1 h2 => by
    match i with
    | 0 => injection h1 with h1; injection h2 with h2; subst h1 h2; exact ⟨hn, ha⟩
    | i + 1 => cases h1
/-- Two joined, by a call with a row of both. -/
theorem join_two (HJO : KJoinC 26) {L B L' B' : Nat} (A1 B1 : Option Addr) (c d n m : Nat) (a b : List Pc) (hn : n = a.length) (hm : m = b.length) (ca : CapN L B a) (cb : CapN L' B' b) (hL : L + L' ≤ 100) (hB : B + B' ≤ 12000) (U : List Pc) (hU : joinP a b = U) (N : Nat) (hN : N = U.length)
    (w : World) (ha : RdPc w A1 c a) (hb : RdPc w B1 d b) : Calls Tryz.prog 26 #[.slice (some ⟨w.heap.size, 0, none⟩) 2 2] (w.alloc (.cells #[.slice A1 n c, .slice B1 m d] 22)) (RetP w N U) :=
  (HJO (some ⟨w.heap.size, 0, none⟩) 2 2 [a, b] rfl (by omega) (by rw [show [a, b].flatten = a ++ b by simp]; exact (ca.append cb).mono hL hB) U (by rw [show [a, b].flatten = a ++ b by simp, ← joinP_append]; exact hU) N hN _ (rdPP_two hn hm ha hb)).mono fun _ _ h => h.under
theorem join_one (HJO : KJoinC 26) {L B : Nat} (A1 : Option Addr) (c n : Nat) (a : List Pc) (hn : n = a.length) (ca : CapN L B a) (hL : L ≤ 100) (hB : B ≤ 12000) (U : List Pc) (hU : ofP a = U) (N : Nat) (hN : N = U.length)
    (w : World) (ha : RdPc w A1 c a) : Calls Tryz.prog 26 #[.slice (some ⟨w.heap.size, 0, none⟩) 1 1] (w.alloc (.cells #[.slice A1 n c] 22)) (RetP w N U) :=
  (HJO (some ⟨w.heap.size, 0, none⟩) 1 1 [a] rfl (by omega) (by rw [show [a].flatten = a by simp]; exact ca.mono hL hB) U (by rw [show [a].flatten = a by simp]; exact hU) N hN _ (rdPP_one hn ha)).mono fun _ _ h => h.under
theorem join_none (HJO : KJoinC 26) (w : World) : Calls Tryz.prog 26 #[.slice none 0 0] w (RetP w 0 []) :=
  HJO none 0 0 [] rfl (by omega) (CapN.nil _ _) [] (ofP_self rfl) 0 rfl w (Deep.Rd.nil _ _ _ _ (Nat.zero_le _))
theorem long_small {m : Nat} {l : List Rng} (h : longL m l = false) : SmallL m l := by
  unfold longL at h
  simp only [Bool.or_eq_false_iff, decide_eq_false_iff_not, List.any_eq_false, Bool.not_eq_true] at h
  exact ⟨by omega, fun r hr => by have := h.2 r hr; omega⟩
theorem rl_long (A : Option Addr) (c n most : Nat) (x : Int) (hx : (most : Int) = x) (l : List Rng) (hn : n = l.length) (hm : most ≤ 1000) (v : Bool) (hv : longL most l = v) (w : World) (hr : kRng.Rd w w.heap.size A c l) :
    Calls Tryz.prog 20 #[.slice A n c, .int .i64 x] w fun e w' => e = .returned (.bool v) ∧ Below w.heap.size w w' := by
  subst hx
  exact (ref_long A c n most l hn hm v hv w hr).mono fun _ _ ⟨h1, h2⟩ => ⟨h1, h2 ▸ Below.refl _ _⟩
set_option maxRecDepth 100000 in
set_option maxHeartbeats 8000000 in
theorem knowSets_walk (HAL : KAllC 25) (HAD : KAddC 22) (HHA : KHasC 13) (HRI : KRightC 11) (HJO : KJoinC 26) (HLE : KLessC 27) (HRE : KRestC 29)
    (A B D : Option Addr) (c d e n m q : Nat) (a b : List Pc) (l : List Rng) (hn : n = a.length) (hm : m = b.length) (hq : q = l.length) (w : World) (ha : RdPc w A c a) (hb : RdPc w B d b) (hl : kRng.Rd w w.heap.size D e l) :
    Calls Tryz.prog 5 #[.slice A n c, .slice B m d, .slice D q e] w fun e w' => e = .returned (.bool true) ∧ Below w.heap.size w w' := by
  have A0 := fun w => Lib.hid (awake15 HAL HAD HHA HRI w)
  have HW := Lib.hid (Below.refl w.heap.size w)
  have HA := Lib.hid ha
  have HB := Lib.hid hb
  have HL := Lib.hid hl
  obtain ⟨la, hla⟩ : ∃ z, longP 8 a = z := ⟨_, rfl⟩
  obtain ⟨lb, hlb⟩ : ∃ z, longP 8 b = z := ⟨_, rfl⟩
  obtain ⟨ll, hll⟩ : ∃ z, longL 8 l = z := ⟨_, rfl⟩
  have LA := fun w hr => Lib.hid (ref_plong 8 8 rfl (by omega) A c n a hn la hla w hr)
  have LB := fun w hr => Lib.hid (ref_plong 8 8 rfl (by omega) B d m b hm lb hlb w hr)
  have LL := fun w hr => Lib.hid (rl_long D e q 8 8 rfl l hq (by omega) ll hll w hr)
  by_cases hlong : la = true ∨ lb = true ∨ ll = true
  · clear HAL HAD HHA HRI HJO HLE HRE ha hb hl hn hm hq hla hlb hll
    cases la <;> cases lb <;> cases ll
    all_goals first
      | (exfalso; simp at hlong; done)
      | (clear hlong
         go_enter Tryz.func5, Tryz.ntmps5
         go_wp2_with (first
           | ((with_reducible refine (A0 _).out.mono ?_); rintro e w9 ⟨rfl, hq⟩; (try replace HA := Lib.hid (HA.out.call hq)); (try replace HB := Lib.hid (HB.out.call hq)); (try replace HL := Lib.hid (HL.out.call hq)); replace HW := Lib.hid (HW.out.trans (hq.mono HW.out.size)); clear hq)
           | ((with_reducible refine (LA _ HA.out).out.mono ?_); rintro e w9 ⟨rfl, hq⟩; (try replace HA := Lib.hid (HA.out.call hq)); (try replace HB := Lib.hid (HB.out.call hq)); (try replace HL := Lib.hid (HL.out.call hq)); replace HW := Lib.hid (HW.out.trans (hq.mono HW.out.size)); clear hq)
           | ((with_reducible refine (LB _ HB.out).out.mono ?_); rintro e w9 ⟨rfl, hq⟩; (try replace HA := Lib.hid (HA.out.call hq)); (try replace HB := Lib.hid (HB.out.call hq)); (try replace HL := Lib.hid (HL.out.call hq)); replace HW := Lib.hid (HW.out.trans (hq.mono HW.out.size)); clear hq)
           | ((with_reducible refine (LL _ HL.out).out.mono ?_); rintro e w9 ⟨rfl, hq⟩; (try replace HA := Lib.hid (HA.out.call hq)); (try replace HB := Lib.hid (HB.out.call hq)); (try replace HL := Lib.hid (HL.out.call hq)); replace HW := Lib.hid (HW.out.trans (hq.mono HW.out.size)); clear hq))
         go_ret
         exact ⟨rfl, HW.out⟩)
  · obtain rfl : la = false := by cases la; rfl; exact absurd (.inl rfl) hlong
    obtain rfl : lb = false := by cases lb; rfl; exact absurd (.inr (.inl rfl)) hlong
    obtain rfl : ll = false := by cases ll; rfl; exact absurd (.inr (.inr rfl)) hlong
    clear hlong
    have ca := longP_cap hla
    have cb := longP_cap hlb
    have sl := long_small hll
    have ka : CapK a := capK_long hla (by omega)
    have kb : CapK b := capK_long hlb (by omega)
    obtain ⟨UJ, hJ⟩ : ∃ U, joinP a b = U := ⟨_, rfl⟩
    obtain ⟨NJ, hNJ⟩ : ∃ N, N = UJ.length := ⟨_, rfl⟩
    have SJ := fun A B c d w ha hb => Lib.hid (psame_is A B c d NJ NJ UJ hNJ hNJ w ha hb)
    obtain ⟨UD, hD⟩ : ∃ U, lessP a b = U := ⟨_, rfl⟩
    obtain ⟨ND, hND⟩ : ∃ N, N = UD.length := ⟨_, rfl⟩
    have SD := fun A B c d w ha hb => Lib.hid (psame_is A B c d ND ND UD hND hND w ha hb)
    obtain ⟨UR, hR⟩ : ∃ U, restP a l = U := ⟨_, rfl⟩
    obtain ⟨NR, hNR⟩ : ∃ N, N = UR.length := ⟨_, rfl⟩
    have SR := fun A B c d w ha hb => Lib.hid (psame_is A B c d NR NR UR hNR hNR w ha hb)
    obtain ⟨UO, hO⟩ : ∃ U, ofP a = U := ⟨_, rfl⟩
    obtain ⟨NO, hNO⟩ : ∃ N, N = UO.length := ⟨_, rfl⟩
    have SO := fun A B c d w ha hb => Lib.hid (psame_is A B c d NO NO UO hNO hNO w ha hb)
    have CJ := fun w ha hb => Lib.hid (join_two HJO A B c d n m a b hn hm ca cb (by omega) (by omega) UJ hJ NJ hNJ w ha hb)
    have RJ := fun w ha hb => Lib.hid (ref_pjoin A B c d n m a b hn hm (ca.cap (by omega) (by omega)) (cb.cap (by omega) (by omega)) UJ hJ NJ hNJ w ha hb)
    have CD := fun w ha hb => Lib.hid (HLE A B c d n m a b hn hm ka kb UD hD ND hND w ha hb)
    have RD := fun w ha hb => Lib.hid (ref_pless A B c d n m a b hn hm (ca.cap (by omega) (by omega)) (cb.cap (by omega) (by omega)) UD hD ND hND w ha hb)
    have CR := fun w ha hl => Lib.hid (HRE A D c e n q a l hn hq ka ⟨by have := sl.1; omega, sl.2⟩ UR hR NR hNR w ha hl)
    have RR := fun w ha hl => Lib.hid (ref_prest A D c e n q a l hn hq (by have := sl.1; omega) (ca.cap (by omega) (by omega)) UR hR NR hNR w ha hl)
    have CO := fun w ha => Lib.hid (join_one HJO A c n a hn ca (by omega) (by omega) UO hO NO hNO w ha)
    have RO := fun w ha => Lib.hid (ref_pof A c n a hn (ca.cap (by omega) (by omega)) UO hO NO hNO w ha)
    have C0 := fun w => Lib.hid (join_none HJO w)
    clear HAL HAD HHA HRI HJO HLE HRE ha hb hl hn hm hq hla hlb hll ca cb sl ka kb hJ hD hR hO hNJ hND hNR hNO
    go_enter Tryz.func5, Tryz.ntmps5
    go_wp2_with (first
      | ((with_reducible refine (A0 _).out.mono ?_); rintro e w9 ⟨rfl, hq⟩; (try replace HA := Lib.hid (HA.out.call hq)); (try replace HB := Lib.hid (HB.out.call hq)); (try replace HL := Lib.hid (HL.out.call hq)); (try replace HP := Lib.hid (HP.out.call hq)); (try replace HQ := Lib.hid (HQ.out.call hq)); replace HW := Lib.hid (HW.out.trans (hq.mono HW.out.size)); clear hq)
      | ((with_reducible refine (LA _ HA.out).out.mono ?_); rintro e w9 ⟨rfl, hq⟩; (try replace HA := Lib.hid (HA.out.call hq)); (try replace HB := Lib.hid (HB.out.call hq)); (try replace HL := Lib.hid (HL.out.call hq)); (try replace HP := Lib.hid (HP.out.call hq)); (try replace HQ := Lib.hid (HQ.out.call hq)); replace HW := Lib.hid (HW.out.trans (hq.mono HW.out.size)); clear hq)
      | ((with_reducible refine (LB _ HB.out).out.mono ?_); rintro e w9 ⟨rfl, hq⟩; (try replace HA := Lib.hid (HA.out.call hq)); (try replace HB := Lib.hid (HB.out.call hq)); (try replace HL := Lib.hid (HL.out.call hq)); (try replace HP := Lib.hid (HP.out.call hq)); (try replace HQ := Lib.hid (HQ.out.call hq)); replace HW := Lib.hid (HW.out.trans (hq.mono HW.out.size)); clear hq)
      | ((with_reducible refine (LL _ HL.out).out.mono ?_); rintro e w9 ⟨rfl, hq⟩; (try replace HA := Lib.hid (HA.out.call hq)); (try replace HB := Lib.hid (HB.out.call hq)); (try replace HL := Lib.hid (HL.out.call hq)); (try replace HP := Lib.hid (HP.out.call hq)); (try replace HQ := Lib.hid (HQ.out.call hq)); replace HW := Lib.hid (HW.out.trans (hq.mono HW.out.size)); clear hq)
      | ((with_reducible refine (CJ _ HA.out HB.out).out.mono ?_); rintro e w9 ⟨AP, cP, rfl, hrd, hq⟩; (try clear HP); (try replace HA := Lib.hid (HA.out.call hq)); (try replace HB := Lib.hid (HB.out.call hq)); (try replace HL := Lib.hid (HL.out.call hq)); (try replace HQ := Lib.hid (HQ.out.call hq)); replace HW := Lib.hid (HW.out.trans (hq.mono HW.out.size)); have HP := Lib.hid hrd; clear hrd hq)
      | ((with_reducible refine (RJ _ HA.out HB.out).out.mono ?_); rintro e w9 ⟨AQ, cQ, rfl, hrd, hq⟩; (try clear HQ); (try replace HA := Lib.hid (HA.out.call hq)); (try replace HB := Lib.hid (HB.out.call hq)); (try replace HL := Lib.hid (HL.out.call hq)); (try replace HP := Lib.hid (HP.out.call hq)); replace HW := Lib.hid (HW.out.trans (hq.mono HW.out.size)); have HQ := Lib.hid hrd; clear hrd hq)
      | ((with_reducible refine (SJ _ _ _ _ _ HP.out HQ.out).out.mono ?_); rintro e w9 ⟨rfl, hq⟩; (try replace HA := Lib.hid (HA.out.call hq)); (try replace HB := Lib.hid (HB.out.call hq)); (try replace HL := Lib.hid (HL.out.call hq)); (try replace HP := Lib.hid (HP.out.call hq)); (try replace HQ := Lib.hid (HQ.out.call hq)); replace HW := Lib.hid (HW.out.trans (hq.mono HW.out.size)); clear hq)
      | ((with_reducible refine (CD _ HA.out HB.out).out.mono ?_); rintro e w9 ⟨AP, cP, rfl, hrd, hq⟩; (try clear HP); (try replace HA := Lib.hid (HA.out.call hq)); (try replace HB := Lib.hid (HB.out.call hq)); (try replace HL := Lib.hid (HL.out.call hq)); (try replace HQ := Lib.hid (HQ.out.call hq)); replace HW := Lib.hid (HW.out.trans (hq.mono HW.out.size)); have HP := Lib.hid hrd; clear hrd hq)
      | ((with_reducible refine (RD _ HA.out HB.out).out.mono ?_); rintro e w9 ⟨AQ, cQ, rfl, hrd, hq⟩; (try clear HQ); (try replace HA := Lib.hid (HA.out.call hq)); (try replace HB := Lib.hid (HB.out.call hq)); (try replace HL := Lib.hid (HL.out.call hq)); (try replace HP := Lib.hid (HP.out.call hq)); replace HW := Lib.hid (HW.out.trans (hq.mono HW.out.size)); have HQ := Lib.hid hrd; clear hrd hq)
      | ((with_reducible refine (SD _ _ _ _ _ HP.out HQ.out).out.mono ?_); rintro e w9 ⟨rfl, hq⟩; (try replace HA := Lib.hid (HA.out.call hq)); (try replace HB := Lib.hid (HB.out.call hq)); (try replace HL := Lib.hid (HL.out.call hq)); (try replace HP := Lib.hid (HP.out.call hq)); (try replace HQ := Lib.hid (HQ.out.call hq)); replace HW := Lib.hid (HW.out.trans (hq.mono HW.out.size)); clear hq)
      | ((with_reducible refine (CR _ HA.out HL.out).out.mono ?_); rintro e w9 ⟨AP, cP, rfl, hrd, hq⟩; (try clear HP); (try replace HA := Lib.hid (HA.out.call hq)); (try replace HB := Lib.hid (HB.out.call hq)); (try replace HL := Lib.hid (HL.out.call hq)); (try replace HQ := Lib.hid (HQ.out.call hq)); replace HW := Lib.hid (HW.out.trans (hq.mono HW.out.size)); have HP := Lib.hid hrd; clear hrd hq)
      | ((with_reducible refine (RR _ HA.out HL.out).out.mono ?_); rintro e w9 ⟨AQ, cQ, rfl, hrd, hq⟩; (try clear HQ); (try replace HA := Lib.hid (HA.out.call hq)); (try replace HB := Lib.hid (HB.out.call hq)); (try replace HL := Lib.hid (HL.out.call hq)); (try replace HP := Lib.hid (HP.out.call hq)); replace HW := Lib.hid (HW.out.trans (hq.mono HW.out.size)); have HQ := Lib.hid hrd; clear hrd hq)
      | ((with_reducible refine (SR _ _ _ _ _ HP.out HQ.out).out.mono ?_); rintro e w9 ⟨rfl, hq⟩; (try replace HA := Lib.hid (HA.out.call hq)); (try replace HB := Lib.hid (HB.out.call hq)); (try replace HL := Lib.hid (HL.out.call hq)); (try replace HP := Lib.hid (HP.out.call hq)); (try replace HQ := Lib.hid (HQ.out.call hq)); replace HW := Lib.hid (HW.out.trans (hq.mono HW.out.size)); clear hq)
      | ((with_reducible refine (CO _ HA.out).out.mono ?_); rintro e w9 ⟨AP, cP, rfl, hrd, hq⟩; (try clear HP); (try replace HA := Lib.hid (HA.out.call hq)); (try replace HB := Lib.hid (HB.out.call hq)); (try replace HL := Lib.hid (HL.out.call hq)); (try replace HQ := Lib.hid (HQ.out.call hq)); replace HW := Lib.hid (HW.out.trans (hq.mono HW.out.size)); have HP := Lib.hid hrd; clear hrd hq)
      | ((with_reducible refine (RO _ HA.out).out.mono ?_); rintro e w9 ⟨AQ, cQ, rfl, hrd, hq⟩; (try clear HQ); (try replace HA := Lib.hid (HA.out.call hq)); (try replace HB := Lib.hid (HB.out.call hq)); (try replace HL := Lib.hid (HL.out.call hq)); (try replace HP := Lib.hid (HP.out.call hq)); replace HW := Lib.hid (HW.out.trans (hq.mono HW.out.size)); have HQ := Lib.hid hrd; clear hrd hq)
      | ((with_reducible refine (SO _ _ _ _ _ HP.out HQ.out).out.mono ?_); rintro e w9 ⟨rfl, hq⟩; (try replace HA := Lib.hid (HA.out.call hq)); (try replace HB := Lib.hid (HB.out.call hq)); (try replace HL := Lib.hid (HL.out.call hq)); (try replace HP := Lib.hid (HP.out.call hq)); (try replace HQ := Lib.hid (HQ.out.call hq)); replace HW := Lib.hid (HW.out.trans (hq.mono HW.out.size)); clear hq)
      | ((with_reducible refine (C0 _).out.mono ?_); rintro e w9 ⟨AP, cP, rfl, hrd, hq⟩; (try clear HP); (try replace HA := Lib.hid (HA.out.call hq)); (try replace HB := Lib.hid (HB.out.call hq)); (try replace HL := Lib.hid (HL.out.call hq)); (try replace HQ := Lib.hid (HQ.out.call hq)); replace HW := Lib.hid (HW.out.trans (hq.mono HW.out.size)); have HP := Lib.hid hrd; clear hrd hq))
    go_ret
    exact ⟨rfl, HW.out⟩
end Go.Proofs.YtaodifpnfejbbaaGreat

/-
  The laws of layer 15: KnowSame.
-/
namespace Go.Proofs.YtaodifpnfejbbaaGreat
open Go.RowKit

set_option maxRecDepth 100000 in
set_option maxHeartbeats 8000000 in
theorem knowSame_walk (HAL : KAllC 25) (HAD : KAddC 22) (HHA : KHasC 13) (HRI : KRightC 11) (HJO : KJoinC 26) (HLE : KLessC 27) (HSM : KBoolC 31 sameKQ) (HWI : KBoolC 32 withinKQ)
    (A B : Option Addr) (c d n m : Nat) (a b : List Pc) (hn : n = a.length) (hm : m = b.length) (w : World) (ha : RdPc w A c a) (hb : RdPc w B d b) :
    Calls Tryz.prog 6 #[.slice A n c, .slice B m d] w fun e w' => e = .returned (.bool true) ∧ Below w.heap.size w w' := by
  have A0 := fun w => Lib.hid (awake15 HAL HAD HHA HRI w)
  have HW := Lib.hid (Below.refl w.heap.size w)
  have HA := Lib.hid ha
  have HB := Lib.hid hb
  obtain ⟨la, hla⟩ : ∃ z, longP 8 a = z := ⟨_, rfl⟩
  obtain ⟨lb, hlb⟩ : ∃ z, longP 8 b = z := ⟨_, rfl⟩
  have LA := fun w hr => Lib.hid (ref_plong 8 8 rfl (by omega) A c n a hn la hla w hr)
  have LB := fun w hr => Lib.hid (ref_plong 8 8 rfl (by omega) B d m b hm lb hlb w hr)
  by_cases hlong : la = true ∨ lb = true
  · clear HAL HAD HHA HRI HJO HLE HSM HWI ha hb hn hm hla hlb
    cases la <;> cases lb
    all_goals first
      | (exfalso; simp at hlong; done)
      | (clear hlong
         go_enter Tryz.func6, Tryz.ntmps6
         go_wp2_with (first
           | ((with_reducible refine (A0 _).out.mono ?_); rintro e w9 ⟨rfl, hq⟩; (try replace HA := Lib.hid (HA.out.call hq)); (try replace HB := Lib.hid (HB.out.call hq)); replace HW := Lib.hid (HW.out.trans (hq.mono HW.out.size)); clear hq)
           | ((with_reducible refine (LA _ HA.out).out.mono ?_); rintro e w9 ⟨rfl, hq⟩; (try replace HA := Lib.hid (HA.out.call hq)); (try replace HB := Lib.hid (HB.out.call hq)); replace HW := Lib.hid (HW.out.trans (hq.mono HW.out.size)); clear hq)
           | ((with_reducible refine (LB _ HB.out).out.mono ?_); rintro e w9 ⟨rfl, hq⟩; (try replace HA := Lib.hid (HA.out.call hq)); (try replace HB := Lib.hid (HB.out.call hq)); replace HW := Lib.hid (HW.out.trans (hq.mono HW.out.size)); clear hq))
         go_ret
         exact ⟨rfl, HW.out⟩)
  · obtain rfl : la = false := by cases la; rfl; exact absurd (.inl rfl) hlong
    obtain rfl : lb = false := by cases lb; rfl; exact absurd (.inr rfl) hlong
    clear hlong
    have ca := longP_cap hla
    have cb := longP_cap hlb
    have ka : CapK a := capK_long hla (by omega)
    have kb : CapK b := capK_long hlb (by omega)
    have pa := ca.cap (by omega) (by omega)
    have pb := cb.cap (by omega) (by omega)
    obtain ⟨p, hp⟩ : ∃ p, sameP (ofP a) (ofP b) = p := ⟨_, rfl⟩
    obtain ⟨UD, hD⟩ : ∃ U, lessP a b = U := ⟨_, rfl⟩
    obtain ⟨ND, hND⟩ : ∃ N, N = UD.length := ⟨_, rfl⟩
    obtain ⟨q, hq0⟩ : ∃ q, decide (ND = 0) = q := ⟨_, rfl⟩
    obtain ⟨r, hr0⟩ : ∃ r, decide ((lessP b a).length = 0) = r := ⟨_, rfl⟩
    have hq1 : q = true ↔ lessP a b = [] := by rw [← hq0, decide_eq_true_eq, hND, ← hD, List.length_eq_zero_iff]
    have hr1 : r = true ↔ lessP b a = [] := by rw [← hr0, decide_eq_true_eq, List.length_eq_zero_iff]
    have hp1 : p = true ↔ ofP a = ofP b := by rw [← hp, sameP_iff]
    have hpq : p = (q && r) := by rw [Bool.eq_iff_iff, Bool.and_eq_true, hp1, hq1, hr1]; exact same_withinP
    have SM := fun w ha hb => Lib.hid (HSM A B c d n m a b hn hm ka kb p hp1 w ha hb)
    have W1 := fun w ha hb => Lib.hid (HWI A B c d n m a b hn hm ka kb q hq1 w ha hb)
    have W2 := fun w ha hb => Lib.hid (HWI B A d c m n b a hm hn kb ka r hr1 w ha hb)
    have RD := fun w ha hb => Lib.hid (ref_pless A B c d n m a b hn hm pa pb UD hD ND hND w ha hb)
    have CD := fun w ha hb => Lib.hid (HLE A B c d n m a b hn hm ka kb UD hD ND hND w ha hb)
    obtain ⟨OA, hOA⟩ : ∃ U, ofP a = U := ⟨_, rfl⟩
    obtain ⟨OB, hOB⟩ : ∃ U, ofP b = U := ⟨_, rfl⟩
    obtain ⟨NA, hNA⟩ : ∃ N, N = OA.length := ⟨_, rfl⟩
    obtain ⟨NB, hNB⟩ : ∃ N, N = OB.length := ⟨_, rfl⟩
    have O1 := fun w h => Lib.hid (ref_pof A c n a hn pa OA hOA NA hNA w h)
    have O2 := fun w h => Lib.hid (ref_pof B d m b hm pb OB hOB NB hNB w h)
    have S1 := fun A B c d w ha hb => Lib.hid (ref_psame A B c d NA NB OA OB hNA hNB p (by rw [← hOA, ← hOB]; exact hp) w ha hb)
    obtain ⟨UJ, hJ⟩ : ∃ U, joinP a b = U := ⟨_, rfl⟩
    obtain ⟨NJ, hNJ⟩ : ∃ N, N = UJ.length := ⟨_, rfl⟩
    have kj : CapK UJ := hJ ▸ (ca.join cb).mono (by omega) (by omega)
    have cd : CapN 33 8193 UD := hD ▸ (ca.less cb).mono (by omega) (by omega)
    have CJ := fun w ha hb => Lib.hid (join_two HJO A B c d n m a b hn hm ca cb (by omega) (by omega) UJ hJ NJ hNJ w ha hb)
    have CJ2 := fun w hb ha => Lib.hid (join_two HJO B A d c m n b a hm hn cb ca (by omega) (by omega) UJ (by rw [joinP_comm]; exact hJ) NJ hNJ w hb ha)
    have CJ3 := fun A1 c1 w hd hb => Lib.hid (join_two HJO A1 B c1 d ND m UD b hND hm cd cb (by omega) (by omega) UJ (by rw [← hD, lessP_joined]; exact hJ) NJ hNJ w hd hb)
    have W3 := fun A1 c1 w ha hj => Lib.hid (HWI A A1 c c1 n NJ a UJ hn hNJ ka kj true ⟨fun _ => hJ ▸ lessP_on a b, fun _ => rfl⟩ w ha hj)
    have W4 := fun A1 c1 w hb hj => Lib.hid (HWI B A1 d c1 m NJ b UJ hm hNJ kb kj true ⟨fun _ => hJ ▸ lessP_on' a b, fun _ => rfl⟩ w hb hj)
    have S2 := fun A B c d w ha hb => Lib.hid (HSM A B c d NJ NJ UJ UJ hNJ hNJ kj kj true ⟨fun _ => rfl, fun _ => rfl⟩ w ha hb)
    have n0 : ((ND : Int) == 0) = q := by rw [← hq0, Bool.eq_iff_iff, beq_iff_eq, decide_eq_true_eq]; omega
    have n1 : decide (ND = 0) = q := hq0
    clear HAL HAD HHA HRI HJO HLE HSM HWI ha hb hn hm hla hlb ca cb ka kb pa pb hp hD hND hq0 hr0 hq1 hr1 hp1 hOA hOB hNA hNB hJ hNJ kj cd
    subst hpq
    cases q <;> cases r
    all_goals
      go_enter Tryz.func6, Tryz.ntmps6
      go_wp2_with (first
        | ((with_reducible refine (A0 _).out.mono ?_); rintro e w9 ⟨rfl, hq⟩; (try replace HA := Lib.hid (HA.out.call hq)); (try replace HB := Lib.hid (HB.out.call hq)); (try replace HP := Lib.hid (HP.out.call hq)); (try replace HQ := Lib.hid (HQ.out.call hq)); (try replace HD := Lib.hid (HD.out.call hq)); (try replace HJ := Lib.hid (HJ.out.call hq)); replace HW := Lib.hid (HW.out.trans (hq.mono HW.out.size)); clear hq)
        | ((with_reducible refine (LA _ HA.out).out.mono ?_); rintro e w9 ⟨rfl, hq⟩; (try replace HA := Lib.hid (HA.out.call hq)); (try replace HB := Lib.hid (HB.out.call hq)); (try replace HP := Lib.hid (HP.out.call hq)); (try replace HQ := Lib.hid (HQ.out.call hq)); (try replace HD := Lib.hid (HD.out.call hq)); (try replace HJ := Lib.hid (HJ.out.call hq)); replace HW := Lib.hid (HW.out.trans (hq.mono HW.out.size)); clear hq)
        | ((with_reducible refine (LB _ HB.out).out.mono ?_); rintro e w9 ⟨rfl, hq⟩; (try replace HA := Lib.hid (HA.out.call hq)); (try replace HB := Lib.hid (HB.out.call hq)); (try replace HP := Lib.hid (HP.out.call hq)); (try replace HQ := Lib.hid (HQ.out.call hq)); (try replace HD := Lib.hid (HD.out.call hq)); (try replace HJ := Lib.hid (HJ.out.call hq)); replace HW := Lib.hid (HW.out.trans (hq.mono HW.out.size)); clear hq)
        | ((with_reducible refine (SM _ HA.out HB.out).out.mono ?_); rintro e w9 ⟨rfl, hq⟩; (try replace HA := Lib.hid (HA.out.call hq)); (try replace HB := Lib.hid (HB.out.call hq)); (try replace HP := Lib.hid (HP.out.call hq)); (try replace HQ := Lib.hid (HQ.out.call hq)); (try replace HD := Lib.hid (HD.out.call hq)); (try replace HJ := Lib.hid (HJ.out.call hq)); replace HW := Lib.hid (HW.out.trans (hq.mono HW.out.size)); clear hq)
        | ((with_reducible refine (W1 _ HA.out HB.out).out.mono ?_); rintro e w9 ⟨rfl, hq⟩; (try replace HA := Lib.hid (HA.out.call hq)); (try replace HB := Lib.hid (HB.out.call hq)); (try replace HP := Lib.hid (HP.out.call hq)); (try replace HQ := Lib.hid (HQ.out.call hq)); (try replace HD := Lib.hid (HD.out.call hq)); (try replace HJ := Lib.hid (HJ.out.call hq)); replace HW := Lib.hid (HW.out.trans (hq.mono HW.out.size)); clear hq)
        | ((with_reducible refine (W2 _ HB.out HA.out).out.mono ?_); rintro e w9 ⟨rfl, hq⟩; (try replace HA := Lib.hid (HA.out.call hq)); (try replace HB := Lib.hid (HB.out.call hq)); (try replace HP := Lib.hid (HP.out.call hq)); (try replace HQ := Lib.hid (HQ.out.call hq)); (try replace HD := Lib.hid (HD.out.call hq)); (try replace HJ := Lib.hid (HJ.out.call hq)); replace HW := Lib.hid (HW.out.trans (hq.mono HW.out.size)); clear hq)
        | ((with_reducible refine (RD _ HA.out HB.out).out.mono ?_); rintro e w9 ⟨AD, cD, rfl, hrd, hq⟩; (try clear HD); (try replace HA := Lib.hid (HA.out.call hq)); (try replace HB := Lib.hid (HB.out.call hq)); (try replace HP := Lib.hid (HP.out.call hq)); (try replace HQ := Lib.hid (HQ.out.call hq)); (try replace HJ := Lib.hid (HJ.out.call hq)); replace HW := Lib.hid (HW.out.trans (hq.mono HW.out.size)); have HD := Lib.hid hrd; clear hrd hq)
        | ((with_reducible refine (O1 _ HA.out).out.mono ?_); rintro e w9 ⟨AP, cP, rfl, hrd, hq⟩; (try clear HP); (try replace HA := Lib.hid (HA.out.call hq)); (try replace HB := Lib.hid (HB.out.call hq)); (try replace HQ := Lib.hid (HQ.out.call hq)); (try replace HD := Lib.hid (HD.out.call hq)); (try replace HJ := Lib.hid (HJ.out.call hq)); replace HW := Lib.hid (HW.out.trans (hq.mono HW.out.size)); have HP := Lib.hid hrd; clear hrd hq)
        | ((with_reducible refine (O2 _ HB.out).out.mono ?_); rintro e w9 ⟨AQ, cQ, rfl, hrd, hq⟩; (try clear HQ); (try replace HA := Lib.hid (HA.out.call hq)); (try replace HB := Lib.hid (HB.out.call hq)); (try replace HP := Lib.hid (HP.out.call hq)); (try replace HD := Lib.hid (HD.out.call hq)); (try replace HJ := Lib.hid (HJ.out.call hq)); replace HW := Lib.hid (HW.out.trans (hq.mono HW.out.size)); have HQ := Lib.hid hrd; clear hrd hq)
        | ((with_reducible refine (S1 _ _ _ _ _ HP.out HQ.out).out.mono ?_); rintro e w9 ⟨rfl, hq⟩; (try replace HA := Lib.hid (HA.out.call hq)); (try replace HB := Lib.hid (HB.out.call hq)); (try replace HP := Lib.hid (HP.out.call hq)); (try replace HQ := Lib.hid (HQ.out.call hq)); (try replace HD := Lib.hid (HD.out.call hq)); (try replace HJ := Lib.hid (HJ.out.call hq)); replace HW := Lib.hid (HW.out.trans (hq.mono HW.out.size)); clear hq)
        | ((with_reducible refine (CJ _ HA.out HB.out).out.mono ?_); rintro e w9 ⟨AJ, cJ, rfl, hrd, hq⟩; (try replace HA := Lib.hid (HA.out.call hq)); (try replace HB := Lib.hid (HB.out.call hq)); (try replace HP := Lib.hid (HP.out.call hq)); (try replace HQ := Lib.hid (HQ.out.call hq)); (try replace HD := Lib.hid (HD.out.call hq)); replace HW := Lib.hid (HW.out.trans (hq.mono HW.out.size)); have HJ := Lib.hid hrd; clear hrd hq)
        | ((with_reducible refine (W3 _ _ _ HA.out HJ.out).out.mono ?_); rintro e w9 ⟨rfl, hq⟩; (try replace HA := Lib.hid (HA.out.call hq)); (try replace HB := Lib.hid (HB.out.call hq)); (try replace HP := Lib.hid (HP.out.call hq)); (try replace HQ := Lib.hid (HQ.out.call hq)); (try replace HD := Lib.hid (HD.out.call hq)); (try replace HJ := Lib.hid (HJ.out.call hq)); replace HW := Lib.hid (HW.out.trans (hq.mono HW.out.size)); clear hq)
        | ((with_reducible refine (W4 _ _ _ HB.out HJ.out).out.mono ?_); rintro e w9 ⟨rfl, hq⟩; (try replace HA := Lib.hid (HA.out.call hq)); (try replace HB := Lib.hid (HB.out.call hq)); (try replace HP := Lib.hid (HP.out.call hq)); (try replace HQ := Lib.hid (HQ.out.call hq)); (try replace HD := Lib.hid (HD.out.call hq)); (try replace HJ := Lib.hid (HJ.out.call hq)); replace HW := Lib.hid (HW.out.trans (hq.mono HW.out.size)); clear hq)
        | ((with_reducible refine (CJ2 _ HB.out HA.out).out.mono ?_); rintro e w9 ⟨AP, cP, rfl, hrd, hq⟩; (try clear HP); (try replace HA := Lib.hid (HA.out.call hq)); (try replace HB := Lib.hid (HB.out.call hq)); (try replace HQ := Lib.hid (HQ.out.call hq)); (try replace HD := Lib.hid (HD.out.call hq)); (try replace HJ := Lib.hid (HJ.out.call hq)); replace HW := Lib.hid (HW.out.trans (hq.mono HW.out.size)); have HP := Lib.hid hrd; clear hrd hq)
        | ((with_reducible refine (S2 _ _ _ _ _ HJ.out HP.out).out.mono ?_); rintro e w9 ⟨rfl, hq⟩; (try replace HA := Lib.hid (HA.out.call hq)); (try replace HB := Lib.hid (HB.out.call hq)); (try replace HP := Lib.hid (HP.out.call hq)); (try replace HQ := Lib.hid (HQ.out.call hq)); (try replace HD := Lib.hid (HD.out.call hq)); (try replace HJ := Lib.hid (HJ.out.call hq)); replace HW := Lib.hid (HW.out.trans (hq.mono HW.out.size)); clear hq)
        | ((with_reducible refine (CD _ HA.out HB.out).out.mono ?_); rintro e w9 ⟨AD, cD, rfl, hrd, hq⟩; (try clear HD); (try replace HA := Lib.hid (HA.out.call hq)); (try replace HB := Lib.hid (HB.out.call hq)); (try replace HP := Lib.hid (HP.out.call hq)); (try replace HQ := Lib.hid (HQ.out.call hq)); (try replace HJ := Lib.hid (HJ.out.call hq)); replace HW := Lib.hid (HW.out.trans (hq.mono HW.out.size)); have HD := Lib.hid hrd; clear hrd hq)
        | ((with_reducible refine (CJ3 _ _ _ HD.out HB.out).out.mono ?_); rintro e w9 ⟨AQ, cQ, rfl, hrd, hq⟩; (try clear HQ); (try replace HA := Lib.hid (HA.out.call hq)); (try replace HB := Lib.hid (HB.out.call hq)); (try replace HP := Lib.hid (HP.out.call hq)); (try replace HD := Lib.hid (HD.out.call hq)); (try replace HJ := Lib.hid (HJ.out.call hq)); replace HW := Lib.hid (HW.out.trans (hq.mono HW.out.size)); have HQ := Lib.hid hrd; clear hrd hq)
        | ((with_reducible refine (S2 _ _ _ _ _ HQ.out HJ.out).out.mono ?_); rintro e w9 ⟨rfl, hq⟩; (try replace HA := Lib.hid (HA.out.call hq)); (try replace HB := Lib.hid (HB.out.call hq)); (try replace HP := Lib.hid (HP.out.call hq)); (try replace HQ := Lib.hid (HQ.out.call hq)); (try replace HD := Lib.hid (HD.out.call hq)); (try replace HJ := Lib.hid (HJ.out.call hq)); replace HW := Lib.hid (HW.out.trans (hq.mono HW.out.size)); clear hq))
      go_ret
      exact ⟨rfl, HW.out⟩
end Go.Proofs.YtaodifpnfejbbaaGreat
