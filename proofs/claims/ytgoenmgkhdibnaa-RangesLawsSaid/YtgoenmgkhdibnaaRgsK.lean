/-
  Layer 8 (ranges), the program: a list that is not swept yet.
-/
import Derived.Test.YtgoenmgkhdibnaaRgsJ
namespace Go.Proofs.Ytgoenmgkhdibnaa
open Go.RowKit

theorem RgAt.grown {w w' : World} {row : Option Nat} {g : Nat} {S T : ByteArray} {o : Bool} (h : RgAt w g S T o) (hg : w.grownBy w' row) (hne : some g ≠ row) : RgAt w' g S T o :=
  ⟨hg.cell h.1 hne, hg.cell h.2.1 hne, hg.cell h.2.2.1 hne, fun k => (hg.frozen_far ⟨g, k, none⟩ h.lt hne).trans (h.2.2.2 k)⟩
theorem Kind.Own.rd {P : Program} {α : Type} {k : Kind P α} {w : World} {base n c : Nat} {A : Option Addr} {l : List α} (h : k.Own w base (.slice A n c) l) : k.Rd w w.heap.size A c l := by
  obtain ⟨A', c', hv, hr⟩ := h.form
  injection hv with h1 _ h3
  subst h1 h3
  exact hr
/-- While a list's edges are gathered: s in the second block of the call, what is handed back in the first one, the list's row as it was. -/
structure BegAt (w w1 : World) (g1 : Nat) (W : World) (v : Value) (L : List (List UInt8)) : Prop where
  s0 : W.cell? ⟨w.heap.size + 1, 0, none⟩ = some (.bool false)
  s1 : W.cell? ⟨w.heap.size + 1, 1, none⟩ = some v
  sf : ∀ j, W.frozen? ⟨w.heap.size + 1, j, none⟩ = false
  r0 : W.cell? ⟨w.heap.size, 0, none⟩ = some (.bool false)
  r1 : W.cell? ⟨w.heap.size, 1, none⟩ = some (.slice none 0 0)
  rf : ∀ j, W.frozen? ⟨w.heap.size, j, none⟩ = false
  own : kStr.Own W w1.heap.size v L
  same : ∀ j, W.cell? ⟨g1, j, none⟩ = w1.cell? ⟨g1, j, none⟩
  below : Below w.heap.size w W
  size : w1.heap.size ≤ W.heap.size
theorem BegAt.alloc {w w1 W : World} {g1 : Nat} {v : Value} {L : List (List UInt8)} (h : BegAt w w1 g1 W v L) (h2 : w.heap.size + 2 ≤ w1.heap.size) (h3 : g1 < w1.heap.size) (x : Obj) : BegAt w w1 g1 (W.alloc x) v L := by
  have hz := h.size
  obtain ⟨kc, kf⟩ := bcell (below_new W x)
  exact ⟨(kc _ _ (by omega)).trans h.s0, (kc _ _ (by omega)).trans h.s1, fun j => (kf _ _ (by omega)).trans (h.sf j), (kc _ _ (by omega)).trans h.r0, (kc _ _ (by omega)).trans h.r1, fun j => (kf _ _ (by omega)).trans (h.rf j), h.own.alloc x, fun j => (kc _ _ (by omega)).trans (h.same j), h.below.alloc h.below.size x, le_alloc hz x⟩
theorem BegAt.app {w w1 W W' : World} {g1 : Nat} {v v' : Value} {L L' : List (List UInt8)} (h : BegAt w w1 g1 W v L) (h2 : w.heap.size + 2 ≤ w1.heap.size) (h3 : g1 < w1.heap.size) (h4 : g1 ≠ w.heap.size + 1) (ho : kStr.Own W' w1.heap.size v' L') (hb : Below w1.heap.size W W') :
    BegAt w w1 g1 (W'.setCell ⟨w.heap.size + 1, 1, none⟩ v') v' L' := by
  obtain ⟨kc, kf⟩ := bcell hb
  have fr : ∀ p, (W'.setCell ⟨w.heap.size + 1, 1, none⟩ v').frozen? p = W'.frozen? p := fun p => by rw [World.frozen?_setCell]
  refine ⟨set_other ((kc _ _ (by omega)).trans h.s0) (addr_off (by decide)) _, set_same ((kc _ _ (by omega)).trans h.s1) _, fun j => (fr _).trans ((kf _ _ (by omega)).trans (h.sf j)), set_other ((kc _ _ (by omega)).trans h.r0) (addr_block (by omega)) _, set_other ((kc _ _ (by omega)).trans h.r1) (addr_block (by omega)) _,
    fun j => (fr _).trans ((kf _ _ (by omega)).trans (h.rf j)), ho.other (grownBy_set _ _ _ _) (by omega), fun j => (World.cell?_setCell_other _ _ _ _ (addr_block (Ne.symm h4))).trans ((kc _ _ h3).trans (h.same j)), ?_, ?_⟩
  · exact (h.below.trans (hb.mono (by omega))).setCell (p := ⟨w.heap.size + 1, 1, none⟩) (Nat.le_succ _) _
  · have h5 := hb.size
    have h6 := h.size
    have : (W'.setCell ⟨w.heap.size + 1, 1, none⟩ v').heap.size = W'.heap.size := by simp
    omega
theorem edgesR_next {m : List Rng} {k : Nat} {r : Rng} (h : m[k]? = some r) : edgesR (m.take (k + 1)) = edgesR (m.take k) ++ (match r.op with | true => [r.lo] | false => [r.lo, r.hi]) := by
  have e : edgesR [r] = (match r.op with | true => [r.lo] | false => [r.lo, r.hi]) := by cases ho : r.op <;> simp [edgesR, ho]
  rw [List.take_add_one, h, edgesR_append]
  exact congrArg _ e
theorem row_new1 (w : World) (x : Obj) (s : List UInt8) (S : ByteArray) (hS : str s = S) : RowAt ((w.alloc x).alloc (.cells #[.string S] 9)) (w.heap.size + 1 + 1) (some ⟨w.heap.size + 1, 0, none⟩) (kStr.row [s]) := by
  subst hS
  have := (Kind.rd_new (k := kStr) (w := w.alloc x) (cs := #[.string (str s)]) (l := [s]) (t := 9) (n := 1) rfl rfl (by simp)).row
  rwa [size1] at this
theorem row_newS (w : World) (p : Addr) (v : Value) (s : List UInt8) (S : ByteArray) (hS : str s = S) : RowAt ((w.setCell p v).alloc (.cells #[.string S] 9)) (w.heap.size + 1) (some ⟨w.heap.size, 0, none⟩) (kStr.row [s]) := by
  subst hS
  have := (Kind.rd_new (k := kStr) (w := w.setCell p v) (cs := #[.string (str s)]) (l := [s]) (t := 9) (n := 1) rfl rfl (by simp)).row
  rwa [show (w.setCell p v).heap.size = w.heap.size from by simp] at this
set_option maxHeartbeats 4000000 in
theorem rgs_begin (A : Option Addr) (c n : Nat) (l : List Rng) (hn : n = l.length) (hnl : n ≤ 1000) (w : World) (hr : kRng.Rd w w.heap.size A c l) :
    Calls Try.prog 44 #[.slice A n c] w fun e w' => ∃ A' c', e = .returned (.agg #[.bool false, .slice A' (edgesR (normV l)).length c']) ∧ kStr.Rd w' w'.heap.size A' c' (edgesR (normV l)) ∧ Below w.heap.size w w' := by
  have hml := makeV_len1 l
  have C := fun W (h : Below w.heap.size w W) => Lib.hid (rgs_of_own A c n l hn hnl W (hr.call h))
  have HB0 := Lib.hid (((Below.refl w.heap.size w).alloc (Nat.le_refl _) (.cells #[.bool false, .slice none 0 0] 51)).alloc (by simp) (.cells #[.bool false, .slice none 0 0] 51))
  have HN := Lib.hid hn
  clear hn hr
  go_enter Try.func44, Try.ntmps44
  go_wp2_with ((with_reducible refine (C _ HB0.out).out.mono ?_); rintro e w1 ⟨v1, rfl, ho, hq⟩; have HO := Lib.hid ho; have HQ := Lib.hid hq; obtain ⟨A1, c1, rfl, hrd⟩ := ho.form; have HR := Lib.hid hrd; clear ho hq hrd)
  obtain ⟨N, hN⟩ : ∃ N, (normV l).length = N := ⟨_, rfl⟩
  obtain ⟨M, hM⟩ : ∃ M, normV l = M := ⟨_, rfl⟩
  rw [hN] at HO hml ⊢
  rw [hM] at HO HR hN
  have HMM := Lib.hid hM
  have hN9 : N ≤ 2002 := by have := HN.out; omega
  have HNM := Lib.hid hN
  have hcx : N ≤ c1 := by rw [← hN]; exact HR.out.room
  have hz2 : w.heap.size + 2 ≤ w1.heap.size := by have := HQ.out.size; simp at this; omega
  have H0 : ∃ g1, g1 < w1.heap.size ∧ g1 ≠ w.heap.size + 1 ∧ (0 < N → A1 = some ⟨g1, 0, none⟩ ∧ ∀ k r, M[k]? = some r → w1.cell? ⟨g1, k * 3, none⟩ = some (.string (str r.lo)) ∧ w1.cell? ⟨g1, k * 3 + 1, none⟩ = some (.string (str r.hi)) ∧ w1.cell? ⟨g1, k * 3 + 2, none⟩ = some (.bool r.op)) := by
    by_cases hp : 0 < N
    · obtain ⟨g, cp, hv, -, h1, h2, -, h4⟩ := HO.out.some_ hN.symm hp
      injection hv with hA
      refine ⟨g, h2, ?_, fun _ => ⟨hA, fun k r hr => ⟨h4 k r hr 0 _ rfl, h4 k r hr 1 _ rfl, h4 k r hr 2 _ rfl⟩⟩⟩
      simp at h1; omega
    · exact ⟨w.heap.size, by omega, by omega, fun h => absurd h hp⟩
  obtain ⟨g1, hg1, hg2, H0⟩ := H0
  have H0 := Lib.hid H0
  have HS : Hid (BegAt w w1 g1 w1 (.slice none 0 0) []) := by
    obtain ⟨kc, kf⟩ := bcell HQ.out
    have q0 := fun j => kc w.heap.size j (by simp; omega)
    have q1 := fun j => kc (w.heap.size + 1) j (by simp)
    have f0 := fun j => kf w.heap.size j (by simp; omega)
    have f1 := fun j => kf (w.heap.size + 1) j (by simp)
    have hh0 : ((w.alloc (.cells #[.bool false, .slice none 0 0] 51)).alloc (.cells #[.bool false, .slice none 0 0] 51)).heap[w.heap.size]? = some (.cells #[.bool false, .slice none 0 0] 51 (0, 0)) := heap_old _ (heap_new w _ _ rfl)
    have hh1 : ((w.alloc (.cells #[.bool false, .slice none 0 0] 51)).alloc (.cells #[.bool false, .slice none 0 0] 51)).heap[w.heap.size + 1]? = some (.cells #[.bool false, .slice none 0 0] 51 (0, 0)) := by
      have := heap_new (w.alloc (.cells #[.bool false, .slice none 0 0] 51)) (.cells #[.bool false, .slice none 0 0] 51) _ rfl
      rwa [size1] at this
    refine ⟨(q1 0).trans ?_, (q1 1).trans ?_, fun j => (f1 j).trans ?_, (q0 0).trans ?_, (q0 1).trans ?_, fun j => (f0 j).trans ?_, Kind.Own.nil _ _, fun _ => rfl, HB0.out.trans (HQ.out.mono (by simp; omega)), Nat.le_refl _⟩
    · rw [cell_of_row _ _ _ _ _ _ hh1]; rfl
    · rw [cell_of_row _ _ _ _ _ _ hh1]; rfl
    · unfold World.frozen?; rw [hh1]; simp
    · rw [cell_of_row _ _ _ _ _ _ hh0]; rfl
    · rw [cell_of_row _ _ _ _ _ _ hh0]; rfl
    · unfold World.frozen?; rw [hh0]; simp
  clear hN hml hM C HB0 HQ HO HR
  go_loopw [9] (fun i wr => ∃ (k : Nat) (v : Value), k ≤ N ∧ Hid (BegAt w w1 g1 wr v (edgesR (M.take k))) ∧ i = .int .i64 k) (fun i _ => N - (intOf i).toNat)
  case atStart => exact ⟨0, _, by omega, HS, rfl⟩
  case round =>
    obtain ⟨k, v, hk, HB, rfl⟩ := hrel
    by_cases hlt : k < N
    · obtain ⟨r, hg, hd, -⟩ := get_some (l := M) (k := k) (by have := HNM.out; omega)
      obtain ⟨rfl, hcell⟩ := H0.out (by omega)
      obtain ⟨c0, c1, c2⟩ := hcell k r hg
      rw [← HB.out.same] at c0 c1 c2
      have HX := Lib.hid (edgesR_next hg)
      have HLK := Lib.hid (show (edgesR (M.take k)).length ≤ 10000 by have := edgesR_len (M.take k); rw [List.length_take] at this; omega)
      obtain ⟨S, hS⟩ : ∃ S, str r.lo = S := ⟨_, rfl⟩
      obtain ⟨T, hT⟩ : ∃ T, str r.hi = T := ⟨_, rfl⟩
      obtain ⟨q, hq⟩ : ∃ q, r.op = q := ⟨_, rfl⟩
      have HG := Lib.hid (rgAt_new wr S T q 35)
      have HB1 := Lib.hid (HB.out.alloc hz2 hg1 (.cells #[.string S, .string T, .bool q] 35))
      have HLT := Lib.hid (show some wr.heap.size ≠ v.ownBlock from fun hv => Nat.lt_irrefl _ (HB.out.own.lt _ hv.symm).2)
      have HR1 := Lib.hid (row_new1 wr (.cells #[.string S, .string T, .bool q] 35) r.lo S hS)
      have HR2 := fun w0 p0 v0 => Lib.hid (row_newS w0 p0 v0 r.hi T hT)
      obtain ⟨N1, hN1⟩ : ∃ N1, (edgesR (M.take k) ++ [r.lo]).length = N1 := ⟨_, rfl⟩
      obtain ⟨N2, hN2⟩ : ∃ N2, (edgesR (M.take k) ++ [r.lo] ++ [r.hi]).length = N2 := ⟨_, rfl⟩
      have HN1 := Lib.hid hN1.symm
      have HN2 := Lib.hid hN2.symm
      clear hN1 hN2
      rw [hq] at HX
      rw [hS] at c0
      rw [hT] at c1
      rw [hq] at c2
      have HLE1 := Lib.hid (show (edgesR (M.take k)).length + [r.lo].length ≤ 1000000 by have := HLK.out; rw [List.length_singleton]; omega)
      have HLE2 := Lib.hid (show (edgesR (M.take k) ++ [r.lo]).length + [r.hi].length ≤ 1000000 by have := HLK.out; rw [List.length_append, List.length_singleton, List.length_singleton]; omega)
      have hl3 : w.heap.size + 1 < w1.heap.size := by omega
      have hgr : wr.heap.size ≠ w.heap.size + 1 := by have := HB.out.size; omega
      have HSZ := Lib.hid HB1.out.size
      obtain ⟨s0, s1, sf, -, -, -, -, -, -, -⟩ := HB1.out
      obtain ⟨g0, g1', g2, g3⟩ := HG.out
      clear hcell hg hd hS hT hq HB
      have HLL := Lib.hid hl3
      have HGR := Lib.hid hgr
      clear hl3 hgr
      cases q
      · go_wp2_with (first
          | (at_builtin; refine wpList_app_k kStr rfl (.tmp 14) (.tmp 17) rfl w1.heap.size _ _ rfl (Kind.Own.alloc HB1.out.own _) _ (some ⟨wr.heap.size + 1, 0, none⟩) 1 1 [r.lo] rfl rfl HR1.out HLE1.out (by decide) (le_alloc HSZ.out _) ?_; intro v3 w3 hown3 hg3 hb3 _; obtain ⟨A3, c3, rfl, -⟩ := hown3.read_n HN1.out; have HQ3 := Lib.hid (HB1.out.alloc hz2 hg1 (.cells #[.string S] 9)); have HB2 := Lib.hid (HQ3.out.app hz2 hg1 hg2 hown3 hb3); have HG2 := Lib.hid (((HG.out.keep (.cells #[.string S] 9)).grown hg3 HLT.out).other (g' := w.heap.size + 1) (k := 1) (Ne.symm HGR.out) (.slice A3 N1 c3)); have HSZ2 := Lib.hid HB2.out.size; replace s1 := ((bcell hb3).1 _ _ HLL.out).trans HQ3.out.s1; have sf3 := fun j => ((bcell hb3).2 _ j HLL.out).trans (HQ3.out.sf j); obtain ⟨g0, g1', g2, g3⟩ := HG2.out; clear hown3 hg3 hb3)
          | (at_builtin; refine wpList_app_k kStr rfl (.tmp 24) (.tmp 27) rfl w1.heap.size _ _ rfl (Kind.Own.alloc HB2.out.own _) _ (some ⟨w3.heap.size, 0, none⟩) 1 1 [r.hi] rfl rfl (HR2 w3 _ _).out HLE2.out (by decide) (le_alloc HSZ2.out _) ?_; intro v4 w4 hown4 hg4 hb4 _; obtain ⟨A4, c4, rfl, -⟩ := hown4.read_n HN2.out; have HQ4 := Lib.hid (HB2.out.alloc hz2 hg1 (.cells #[.string T] 9)); have HB3 := Lib.hid (HQ4.out.app hz2 hg1 hg2 hown4 hb4); have s2 := ((bcell hb4).1 _ _ HLL.out).trans HQ4.out.s1; have sf4 := fun j => ((bcell hb4).2 _ j HLL.out).trans (HQ4.out.sf j); clear hown4 hg4 hb4))
        go_roundw
        case rel => exact ⟨k + 1, _, by omega, by rw [HX.out]; have := HB3.out; rw [List.append_assoc] at this; exact this, by go_num⟩
        case measure => simp [intOf]; omega
      · go_wp2_with (first
          | (at_builtin; refine wpList_app_k kStr rfl (.tmp 14) (.tmp 17) rfl w1.heap.size _ _ rfl (Kind.Own.alloc HB1.out.own _) _ (some ⟨wr.heap.size + 1, 0, none⟩) 1 1 [r.lo] rfl rfl HR1.out HLE1.out (by decide) (le_alloc HSZ.out _) ?_; intro v3 w3 hown3 hg3 hb3 _; obtain ⟨A3, c3, rfl, -⟩ := hown3.read_n HN1.out; have HQ3 := Lib.hid (HB1.out.alloc hz2 hg1 (.cells #[.string S] 9)); have HB2 := Lib.hid (HQ3.out.app hz2 hg1 hg2 hown3 hb3); have HG2 := Lib.hid (((HG.out.keep (.cells #[.string S] 9)).grown hg3 HLT.out).other (g' := w.heap.size + 1) (k := 1) (Ne.symm HGR.out) (.slice A3 N1 c3)); have HSZ2 := Lib.hid HB2.out.size; replace s1 := ((bcell hb3).1 _ _ HLL.out).trans HQ3.out.s1; have sf3 := fun j => ((bcell hb3).2 _ j HLL.out).trans (HQ3.out.sf j); obtain ⟨g0, g1', g2, g3⟩ := HG2.out; clear hown3 hg3 hb3))
        go_roundw
        case rel => exact ⟨k + 1, _, by omega, by rw [HX.out]; exact HB2.out, by go_num⟩
        case measure => simp [intOf]; omega
    · have hkn : M.take k = M := List.take_of_length_le (by have := HNM.out; omega)
      rw [hkn] at HB
      obtain ⟨s0, s1, sf, r0, r1, rf, -, -, -, -⟩ := HB.out
      obtain ⟨A5, c5, rfl, hrd⟩ := HB.out.own.form
      have HRD := Lib.hid hrd
      clear hkn hrd
      go_wp2_with fail
      have HBF := Lib.hid ((HB.out.below.setCell (p := ⟨w.heap.size, 0, none⟩) (Nat.le_refl _) (.bool false)).setCell (p := ⟨w.heap.size, 1, none⟩) (Nat.le_refl _) (.slice A5 (edgesR M).length c5))
      have HOF := Lib.hid ((HB.out.own.other (grownBy_set wr w.heap.size 0 (.bool false)) (by omega)).other (grownBy_set _ w.heap.size 1 (.slice A5 (edgesR M).length c5)) (by omega)).rd
      have hc1 : ((wr.setCell ⟨w.heap.size, 0, none⟩ (.bool false)).setCell ⟨w.heap.size, 1, none⟩ (.slice A5 (edgesR M).length c5)).cell? ⟨w.heap.size, 1, none⟩ = some (.slice A5 (edgesR M).length c5) := set_same (set_other r1 (addr_off (by decide)) _) _
      have hc0 : ((wr.setCell ⟨w.heap.size, 0, none⟩ (.bool false)).setCell ⟨w.heap.size, 1, none⟩ (.slice A5 (edgesR M).length c5)).cell? ⟨w.heap.size, 0, none⟩ = some (.bool false) := set_other (set_same r0 _) (addr_off (by decide)) _
      exact bodyPost_ret (v := .agg #[.bool false, .slice A5 (edgesR M).length c5]) (by simp [results, Try.results44, go_sem, hc0, hc1]) rfl ⟨A5, c5, by rw [HMM.out], by rw [HMM.out]; exact HOF.out, HBF.out⟩
end Go.Proofs.Ytgoenmgkhdibnaa
