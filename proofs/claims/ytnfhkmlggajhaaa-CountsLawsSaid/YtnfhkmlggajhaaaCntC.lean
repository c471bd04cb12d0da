/-
  Layer 13 (counts), the document's words: all edges of two lists.
-/
import Derived.Test.YtnfhkmlggajhaaaCntB
import Derived.Deep.RegionHeld3
namespace Go.Proofs.Ytnfhkmlggajhaaa
open Go.RowKit

set_option maxRecDepth 100000 in
set_option maxHeartbeats 4000000 in
theorem ref_cedges (A B : Option Addr) (c d n m : Nat) (a b : List Rn) (hn : n = a.length) (hm : m = b.length) (hnl : n ≤ 100000) (hml : m ≤ 100000) (N : Nat) (hN : (edgesC a b).length = N) (w : World) (ha : kRn.Rd w w.heap.size A c a) (hb : kRn.Rd w w.heap.size B d b) :
    Calls Try.prog 32 #[.slice A n c, .slice B m d] w (RetI w N (edgesC a b)) := by
  have HNA := Lib.hid hn
  have HNB := Lib.hid hm
  have HA := Lib.hid ha
  have HB := Lib.hid hb
  have HNN := Lib.hid hN
  have hcx : n ≤ c := by rw [hn]; exact ha.room
  have hdx : m ≤ d := by rw [hm]; exact hb.room
  have HE0 := Lib.hid (show (a.foldl addC []).length ≤ 200000 by have := edges_lenC a []; simp only [List.length_nil] at this; omega)
  clear hn hm ha hb hN
  go_enter Try.func32, Try.ntmps32
  go_wp2_with fail
  go_loopw [5, 6] (fun v i wr => ∃ (k ne c0 : Nat) (A0 : Option Addr) (E : List Int), k ≤ n ∧ Hid ((a.take k).foldl addC [] = E) ∧ v = .slice A0 ne c0 ∧ Hid (ne = E.length) ∧ Hid (kIt.Rd wr wr.heap.size A0 c0 E) ∧ i = .int .i64 k ∧ Hid (Below w.heap.size w wr)) (fun _ i _ => n - (intOf i).toNat)
  case atStart => exact ⟨0, 0, 0, none, [], by omega, rfl, rfl, rfl, Kind.Rd.nil _ _, rfl, Below.refl _ _⟩
  case round =>
    obtain ⟨k, ne, c0, A0, E, hk, HE, rfl, HV, HD, rfl, HBW⟩ := hrel
    by_cases hlt : k < n
    · obtain ⟨r, hg, -, -⟩ := cnt_get (l := a) (k := k) (by have := HNA.out; omega)
      obtain ⟨b1, o1, rfl, hb1, hcell⟩ := rns_at (HA.out.below HBW.out) (by have := HNA.out; omega)
      obtain ⟨k0, k1⟩ := hcell k r hg
      have hb2 := Nat.lt_of_lt_of_le hb1 HBW.out.size
      obtain ⟨z, hz⟩ : ∃ z, oneC r = z := ⟨_, rfl⟩
      have C := fun w => Lib.hid (ref_one r _ _ rfl rfl z hz w)
      have HX := Lib.hid (show (a.take (k + 1)).foldl addC [] = addC E r by rw [List.take_add_one, hg, Option.toList_some, List.foldl_append, HE.out]; rfl)
      have HK := Lib.hid (show E.length ≤ 500000 by
        rw [← HE.out]
        have h1 := edges_lenC (a.take k) []
        have h2 : (a.take k).length ≤ k := by rw [List.length_take]; omega
        have h3 := (List.length_nil : ([] : List Int).length = 0)
        omega)
      obtain ⟨X, hX⟩ : ∃ X, r.fr = X := ⟨_, rfl⟩
      obtain ⟨Y, hY⟩ : ∃ Y, r.to = Y := ⟨_, rfl⟩
      rw [hX, hY] at C
      rw [hX] at k0
      rw [hY] at k1
      have HZ1 := Lib.hid (fun h : z = false => show (a.take (k + 1)).foldl addC [] = E from HX.out.trans (addC_no (hz.trans h)))
      have HZ2 := Lib.hid (fun h : z = true => show (a.take (k + 1)).foldl addC [] = putI (putI E X) (Y + 1) from HX.out.trans (by rw [addC_one (hz.trans h), hX, hY]))
      have hY9 : z = true → Y ≤ 1099511627776 ∧ 1 ≤ Y := fun h => by have := oneC_iff.1 (hz.trans h); omega
      cases z
      · replace HZ1 := Lib.hid (HZ1.out rfl)
        clear hcell hg hX hY hz HX HZ2 hY9
        go_wp2_with ((with_reducible refine (C _).out.mono ?_); rintro e w2 ⟨rfl, hq⟩; have HB2 := Lib.hid (HBW.out.trans (hq.mono HBW.out.size)); have HD2 := Lib.hid (HD.out.call hq); clear hq)
        go_roundw
        case rel => exact ⟨k + 1, ne, c0, A0, E, by omega, HZ1, rfl, HV, HD2, by go_num, HB2⟩
        case measure => simp [intOf]; omega
      · replace HZ2 := Lib.hid (HZ2.out rfl)
        obtain ⟨hy9, hy1⟩ := hY9 rfl
        obtain ⟨E1, hE1⟩ : ∃ E1, putI E X = E1 := ⟨_, rfl⟩
        obtain ⟨N1, hN1⟩ : ∃ N, E1.length = N := ⟨_, rfl⟩
        obtain ⟨E2, hE2⟩ : ∃ E2, putI E1 (Y + 1) = E2 := ⟨_, rfl⟩
        obtain ⟨N2, hN2⟩ : ∃ N, E2.length = N := ⟨_, rfl⟩
        have P1 := fun w hr => Lib.hid (ref_cput A0 c0 ne E X HV.out (by have := HV.out; have := HK.out; omega) E1 hE1 N1 hN1 w hr)
        have P2 := fun A1 c1 w hr => Lib.hid (ref_cput A1 c1 N1 E1 (Y + 1) hN1.symm (by rw [← hN1, ← hE1]; have := putI_len E X; have := HK.out; omega) E2 hE2 N2 hN2 w hr)
        have HN2 := Lib.hid hN2.symm
        rw [hE1, hE2] at HZ2
        have hyw : IntKind.i64.wrap (Y + 1) = Y + 1 := IntWalk.i64_in _ (by omega)
        have hk0 : (0 : Int) ≤ (k : Int) := by omega
        have hkn : (k : Int) < (n : Int) := by omega
        clear hcell hg hX hY hz HX HZ1 hY9 hE1 hN1 hE2 hN2
        go_wp2_with ((with_reducible refine (C _).out.mono ?_); rintro e w2 ⟨rfl, hq⟩; have HB2 := Lib.hid (HBW.out.trans (hq.mono HBW.out.size)); have HD2 := Lib.hid ((HD.out.call hq).call (Below.refl _ _).drew); have e0 := ((bcell hq).1 _ _ hb2).trans k0; have e1 := ((bcell hq).1 _ _ hb2).trans k1; have hb3 := Nat.lt_of_lt_of_le hb2 hq.size; clear hq k0 k1)
        go_region_held3 (fun w' => w'.cell? ⟨b1, o1 + k * 2, none⟩ = some (.int .i64 X) ∧ w'.cell? ⟨b1, o1 + k * 2 + 1, none⟩ = some (.int .i64 Y) ∧ Below w2.heap.size w2 w') (first | (exact ⟨e0, e1, (Below.refl _ _).drew⟩) | assumption | go_keep) (first
          | ((with_reducible refine (P1 _ HD2.out).out.mono ?_); rintro e w3 ⟨A3, c3, rfl, hrd, hq⟩; have HD3 := Lib.hid hrd; have hS3 : w3.cell? ⟨b1, o1 + k * 2, none⟩ = some (.int .i64 X) ∧ w3.cell? ⟨b1, o1 + k * 2 + 1, none⟩ = some (.int .i64 Y) ∧ Below w2.heap.size w2 w3 := ⟨((bcell hq).1 _ _ hb3).trans e0, ((bcell hq).1 _ _ hb3).trans e1, (Below.refl _ _).drew.trans hq⟩; clear hrd hq)
          | ((with_reducible refine (P2 _ _ _ HD3.out).out.mono ?_); rintro e w4 ⟨A4, c4, rfl, hrd, hq⟩; have HD4 := Lib.hid hrd; have hS4 : w4.cell? ⟨b1, o1 + k * 2, none⟩ = some (.int .i64 X) ∧ w4.cell? ⟨b1, o1 + k * 2 + 1, none⟩ = some (.int .i64 Y) ∧ Below w2.heap.size w2 w4 := ⟨((bcell hq).1 _ _ (Nat.lt_of_lt_of_le hb3 hS3.2.2.size)).trans hS3.1, ((bcell hq).1 _ _ (Nat.lt_of_lt_of_le hb3 hS3.2.2.size)).trans hS3.2.1, hS3.2.2.trans (hq.mono hS3.2.2.size)⟩; clear hrd hq))
        have HB4 := Lib.hid (HB2.out.trans (hS4.2.2.mono HB2.out.size))
        clear hS3 hS4 HD3 HD2 e0 e1
        go_wp2_with fail
        go_roundw
        case rel => exact ⟨k + 1, N2, c4, A4, E2, by omega, HZ2, rfl, HN2, HD4, by go_num, HB4⟩
        case measure => simp [intOf]; omega
    · have HF1 := Lib.hid (show a.foldl addC [] = E by rw [← HE.out, List.take_of_length_le (by have := HNA.out; omega)])
      go_wp2_with fail
      go_loopw [5, 7] (fun v i wr => ∃ (k ne c0 : Nat) (A0 : Option Addr) (E : List Int), k ≤ m ∧ Hid ((b.take k).foldl addC (a.foldl addC []) = E) ∧ v = .slice A0 ne c0 ∧ Hid (ne = E.length) ∧ Hid (kIt.Rd wr wr.heap.size A0 c0 E) ∧ i = .int .i64 k ∧ Hid (Below w.heap.size w wr)) (fun _ i _ => m - (intOf i).toNat)
      case atStart => exact ⟨0, ne, c0, A0, E, by omega, HF1.out, rfl, HV.out, HD.out, rfl, HBW.out⟩
      case round =>
        clear HE HV HD HBW HF1 hlt
        obtain ⟨k, ne, c0, A0, E, hk, HE, rfl, HV, HD, rfl, HBW⟩ := hrel
        by_cases hlt : k < m
        · obtain ⟨r, hg, -, -⟩ := cnt_get (l := b) (k := k) (by have := HNB.out; omega)
          obtain ⟨b1, o1, rfl, hb1, hcell⟩ := rns_at (HB.out.below HBW.out) (by have := HNB.out; omega)
          obtain ⟨k0, k1⟩ := hcell k r hg
          have hb2 := Nat.lt_of_lt_of_le hb1 HBW.out.size
          obtain ⟨z, hz⟩ : ∃ z, oneC r = z := ⟨_, rfl⟩
          have C := fun w => Lib.hid (ref_one r _ _ rfl rfl z hz w)
          have HX := Lib.hid (show (b.take (k + 1)).foldl addC (a.foldl addC []) = addC E r by rw [List.take_add_one, hg, Option.toList_some, List.foldl_append, HE.out]; rfl)
          have HK := Lib.hid (show E.length ≤ 500000 by
            rw [← HE.out]
            have h1 := edges_lenC (b.take k) (a.foldl addC [])
            have h2 : (b.take k).length ≤ k := by rw [List.length_take]; omega
            have h3 := HE0.out
            omega)
          obtain ⟨X, hX⟩ : ∃ X, r.fr = X := ⟨_, rfl⟩
          obtain ⟨Y, hY⟩ : ∃ Y, r.to = Y := ⟨_, rfl⟩
          rw [hX, hY] at C
          rw [hX] at k0
          rw [hY] at k1
          have HZ1 := Lib.hid (fun h : z = false => show (b.take (k + 1)).foldl addC (a.foldl addC []) = E from HX.out.trans (addC_no (hz.trans h)))
          have HZ2 := Lib.hid (fun h : z = true => show (b.take (k + 1)).foldl addC (a.foldl addC []) = putI (putI E X) (Y + 1) from HX.out.trans (by rw [addC_one (hz.trans h), hX, hY]))
          have hY9 : z = true → Y ≤ 1099511627776 ∧ 1 ≤ Y := fun h => by have := oneC_iff.1 (hz.trans h); omega
          cases z
          · replace HZ1 := Lib.hid (HZ1.out rfl)
            clear hcell hg hX hY hz HX HZ2 hY9
            go_wp2_with ((with_reducible refine (C _).out.mono ?_); rintro e w2 ⟨rfl, hq⟩; have HB2 := Lib.hid (HBW.out.trans (hq.mono HBW.out.size)); have HD2 := Lib.hid (HD.out.call hq); clear hq)
            go_roundw
            case rel => exact ⟨k + 1, ne, c0, A0, E, by omega, HZ1, rfl, HV, HD2, by go_num, HB2⟩
            case measure => simp [intOf]; omega
          · replace HZ2 := Lib.hid (HZ2.out rfl)
            obtain ⟨hy9, hy1⟩ := hY9 rfl
            obtain ⟨E1, hE1⟩ : ∃ E1, putI E X = E1 := ⟨_, rfl⟩
            obtain ⟨N1, hN1⟩ : ∃ N, E1.length = N := ⟨_, rfl⟩
            obtain ⟨E2, hE2⟩ : ∃ E2, putI E1 (Y + 1) = E2 := ⟨_, rfl⟩
            obtain ⟨N2, hN2⟩ : ∃ N, E2.length = N := ⟨_, rfl⟩
            have P1 := fun w hr => Lib.hid (ref_cput A0 c0 ne E X HV.out (by have := HV.out; have := HK.out; omega) E1 hE1 N1 hN1 w hr)
            have P2 := fun A1 c1 w hr => Lib.hid (ref_cput A1 c1 N1 E1 (Y + 1) hN1.symm (by rw [← hN1, ← hE1]; have := putI_len E X; have := HK.out; omega) E2 hE2 N2 hN2 w hr)
            have HN2 := Lib.hid hN2.symm
            rw [hE1, hE2] at HZ2
            have hyw : IntKind.i64.wrap (Y + 1) = Y + 1 := IntWalk.i64_in _ (by omega)
            have hk0 : (0 : Int) ≤ (k : Int) := by omega
            have hkn : (k : Int) < (m : Int) := by omega
            clear hcell hg hX hY hz HX HZ1 hY9 hE1 hN1 hE2 hN2
            go_wp2_with ((with_reducible refine (C _).out.mono ?_); rintro e w2 ⟨rfl, hq⟩; have HB2 := Lib.hid (HBW.out.trans (hq.mono HBW.out.size)); have HD2 := Lib.hid ((HD.out.call hq).call (Below.refl _ _).drew); have e0 := ((bcell hq).1 _ _ hb2).trans k0; have e1 := ((bcell hq).1 _ _ hb2).trans k1; have hb3 := Nat.lt_of_lt_of_le hb2 hq.size; clear hq k0 k1)
            go_region_held3 (fun w' => w'.cell? ⟨b1, o1 + k * 2, none⟩ = some (.int .i64 X) ∧ w'.cell? ⟨b1, o1 + k * 2 + 1, none⟩ = some (.int .i64 Y) ∧ Below w2.heap.size w2 w') (first | (exact ⟨e0, e1, (Below.refl _ _).drew⟩) | assumption | go_keep) (first
              | ((with_reducible refine (P1 _ HD2.out).out.mono ?_); rintro e w3 ⟨A3, c3, rfl, hrd, hq⟩; have HD3 := Lib.hid hrd; have hS3 : w3.cell? ⟨b1, o1 + k * 2, none⟩ = some (.int .i64 X) ∧ w3.cell? ⟨b1, o1 + k * 2 + 1, none⟩ = some (.int .i64 Y) ∧ Below w2.heap.size w2 w3 := ⟨((bcell hq).1 _ _ hb3).trans e0, ((bcell hq).1 _ _ hb3).trans e1, (Below.refl _ _).drew.trans hq⟩; clear hrd hq)
              | ((with_reducible refine (P2 _ _ _ HD3.out).out.mono ?_); rintro e w4 ⟨A4, c4, rfl, hrd, hq⟩; have HD4 := Lib.hid hrd; have hS4 : w4.cell? ⟨b1, o1 + k * 2, none⟩ = some (.int .i64 X) ∧ w4.cell? ⟨b1, o1 + k * 2 + 1, none⟩ = some (.int .i64 Y) ∧ Below w2.heap.size w2 w4 := ⟨((bcell hq).1 _ _ (Nat.lt_of_lt_of_le hb3 hS3.2.2.size)).trans hS3.1, ((bcell hq).1 _ _ (Nat.lt_of_lt_of_le hb3 hS3.2.2.size)).trans hS3.2.1, hS3.2.2.trans (hq.mono hS3.2.2.size)⟩; clear hrd hq))
            have HB4 := Lib.hid (HB2.out.trans (hS4.2.2.mono HB2.out.size))
            clear hS3 hS4 HD3 HD2 e0 e1
            go_wp2_with fail
            go_roundw
            case rel => exact ⟨k + 1, N2, c4, A4, E2, by omega, HZ2, rfl, HN2, HD4, by go_num, HB4⟩
            case measure => simp [intOf]; omega
        · have HFIN := Lib.hid (show edgesC a b = E by rw [← HE.out, List.take_of_length_le (by have := HNB.out; omega)]; rfl)
          go_wp2_with fail
          go_ret
          exact ⟨A0, c0, cret_slice (by rw [HV.out, ← HNN.out, HFIN.out]), by rw [HFIN.out]; exact HD.out, HBW.out⟩
end Go.Proofs.Ytnfhkmlggajhaaa
