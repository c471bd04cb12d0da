/-
  Layer 13 (counts), the program: a list that is not swept yet; from a count on; the next edge of two.
-/
import Derived.Test.YtnfhkmlggajhaaaCntH
import Derived.Test.YtnfhkmlggajhaaaSide
namespace Go.Proofs.Ytnfhkmlggajhaaa
open Go.RowKit

/-- While a list's edges are gathered: s in the second block of the call, what is handed back in the first one, the list's row as it was. -/
structure BegC (w w1 : World) (g1 : Nat) (W : World) (v : Value) (L : List Int) : Prop where
  s0 : W.cell? ⟨w.heap.size + 1, 0, none⟩ = some (.bool false)
  s1 : W.cell? ⟨w.heap.size + 1, 1, none⟩ = some v
  sf : ∀ j, W.frozen? ⟨w.heap.size + 1, j, none⟩ = false
  r0 : W.cell? ⟨w.heap.size, 0, none⟩ = some (.bool false)
  r1 : W.cell? ⟨w.heap.size, 1, none⟩ = some (.slice none 0 0)
  rf : ∀ j, W.frozen? ⟨w.heap.size, j, none⟩ = false
  own : kIt.Own W w1.heap.size v L
  same : ∀ j, W.cell? ⟨g1, j, none⟩ = w1.cell? ⟨g1, j, none⟩
  below : Below w.heap.size w W
  size : w1.heap.size ≤ W.heap.size
theorem BegC.alloc {w w1 W : World} {g1 : Nat} {v : Value} {L : List Int} (h : BegC w w1 g1 W v L) (h2 : w.heap.size + 2 ≤ w1.heap.size) (h3 : g1 < w1.heap.size) (x : Obj) : BegC w w1 g1 (W.alloc x) v L := by
  have hz := h.size
  obtain ⟨kc, kf⟩ := bcell (below_new W x)
  exact ⟨(kc _ _ (by omega)).trans h.s0, (kc _ _ (by omega)).trans h.s1, fun j => (kf _ _ (by omega)).trans (h.sf j), (kc _ _ (by omega)).trans h.r0, (kc _ _ (by omega)).trans h.r1, fun j => (kf _ _ (by omega)).trans (h.rf j), h.own.alloc x, fun j => (kc _ _ (by omega)).trans (h.same j), h.below.alloc h.below.size x, cle_alloc hz x⟩
theorem BegC.app {w w1 W W' : World} {g1 : Nat} {v v' : Value} {L L' : List Int} (h : BegC w w1 g1 W v L) (h2 : w.heap.size + 2 ≤ w1.heap.size) (h3 : g1 < w1.heap.size) (h4 : g1 ≠ w.heap.size + 1) (ho : kIt.Own W' w1.heap.size v' L') (hb : Below w1.heap.size W W') :
    BegC w w1 g1 (W'.setCell ⟨w.heap.size + 1, 1, none⟩ v') v' L' := by
  obtain ⟨kc, kf⟩ := bcell hb
  have fr : ∀ p, (W'.setCell ⟨w.heap.size + 1, 1, none⟩ v').frozen? p = W'.frozen? p := fun p => by rw [World.frozen?_setCell]
  refine ⟨set_other ((kc _ _ (by omega)).trans h.s0) (addr_off (by decide)) _, set_same ((kc _ _ (by omega)).trans h.s1) _, fun j => (fr _).trans ((kf _ _ (by omega)).trans (h.sf j)), set_other ((kc _ _ (by omega)).trans h.r0) (addr_block (by omega)) _, set_other ((kc _ _ (by omega)).trans h.r1) (addr_block (by omega)) _,
    fun j => (fr _).trans ((kf _ _ (by omega)).trans (h.rf j)), ho.other (grownBy_set _ _ _ _) (by omega), fun j => (World.cell?_setCell_other _ _ _ _ (addr_block (Ne.symm h4))).trans ((kc _ _ h3).trans (h.same j)), ?_, ?_⟩
  · exact (h.below.trans (hb.mono (by omega))).setCell (p := ⟨w.heap.size + 1, 1, none⟩) (Nat.le_succ _) _
  · have h5 := hb.size
    have h6 := h.size
    have : (W'.setCell ⟨w.heap.size + 1, 1, none⟩ v').heap.size = W'.heap.size := by simp
    omega
theorem two_new1 (w : World) (x : Obj) (X Y : Int) : RowAt ((w.alloc x).alloc (.cells #[.int .i64 X, .int .i64 Y] 3)) (w.heap.size + 1 + 1) (some ⟨w.heap.size + 1, 0, none⟩) (kIt.row [X, Y]) := by
  have := (Kind.rd_new (k := kIt) (w := w.alloc x) (cs := #[.int .i64 X, .int .i64 Y]) (l := [X, Y]) (t := 3) (n := 2) rfl rfl (by simp)).row
  rwa [size1] at this
theorem ofC_len (l : List Rn) : (ofC l).length ≤ 2 * l.length + 1 := by have := makeC_len 1 l []; rw [List.length_nil] at this; exact this
set_option maxHeartbeats 4000000 in
theorem cn_begin (A : Option Addr) (c n : Nat) (l : List Rn) (hn : n = l.length) (hnl : n ≤ 100000) (w : World) (hr : kRn.Rd w w.heap.size A c l) :
    Calls Try.prog 36 #[.slice A n c] w fun e w' => ∃ A' c', e = .returned (.agg #[.bool false, .slice A' (edgesI (ofC l)).length c']) ∧ kIt.Rd w' w'.heap.size A' c' (edgesI (ofC l)) ∧ Below w.heap.size w w' := by
  have hml := ofC_len l
  have HRT := Lib.hid (show ∀ r ∈ ofC l, oneC r = true from rightC_all (ofC_right l))
  obtain ⟨M, hM⟩ : ∃ M, ofC l = M := ⟨_, rfl⟩
  obtain ⟨N, hN⟩ : ∃ N, M.length = N := ⟨_, rfl⟩
  have C := fun W (h : Below w.heap.size w W) => Lib.hid (cn_of_own A c n l hn (by omega) M hM N hN W (hr.call h))
  have HB0 := Lib.hid (((Below.refl w.heap.size w).alloc (Nat.le_refl _) (.cells #[.bool false, .slice none 0 0] 47)).alloc (by simp) (.cells #[.bool false, .slice none 0 0] 47))
  rw [hM] at HRT hml ⊢
  have HN := Lib.hid hn
  clear hn hr hM
  go_enter Try.func36, Try.ntmps36
  go_wp2_with ((with_reducible refine (C _ HB0.out).out.mono ?_); rintro e w1 ⟨A1, c1, rfl, ho, hq⟩; have HO := Lib.hid ho; have HQ := Lib.hid hq; have HR := Lib.hid ho.rd; clear ho hq)
  have hN9 : N ≤ 200001 := by have := HN.out; omega
  have HNM := Lib.hid hN
  have hcx : N ≤ c1 := by rw [← hN]; exact HR.out.room
  have hz2 : w.heap.size + 2 ≤ w1.heap.size := by have := HQ.out.size; simp at this; omega
  have H0 : ∃ g1, g1 < w1.heap.size ∧ g1 ≠ w.heap.size + 1 ∧ (0 < N → A1 = some ⟨g1, 0, none⟩ ∧ ∀ k r, M[k]? = some r → w1.cell? ⟨g1, k * 2, none⟩ = some (.int .i64 r.fr) ∧ w1.cell? ⟨g1, k * 2 + 1, none⟩ = some (.int .i64 r.to)) := by
    by_cases hp : 0 < N
    · obtain ⟨g, cp, hv, -, h1, h2, -, h4⟩ := HO.out.some_ hN.symm hp
      injection hv with hA
      refine ⟨g, h2, ?_, fun _ => ⟨hA, fun k r hr => ⟨h4 k r hr 0 _ rfl, h4 k r hr 1 _ rfl⟩⟩⟩
      simp at h1; omega
    · exact ⟨w.heap.size, by omega, by omega, fun h => absurd h hp⟩
  obtain ⟨g1, hg1, hg2, H0⟩ := H0
  have H0 := Lib.hid H0
  have HS : Hid (BegC w w1 g1 w1 (.slice none 0 0) []) := by
    obtain ⟨kc, kf⟩ := bcell HQ.out
    have q0 := fun j => kc w.heap.size j (by simp; omega)
    have q1 := fun j => kc (w.heap.size + 1) j (by simp)
    have f0 := fun j => kf w.heap.size j (by simp; omega)
    have f1 := fun j => kf (w.heap.size + 1) j (by simp)
    have hh0 : ((w.alloc (.cells #[.bool false, .slice none 0 0] 47)).alloc (.cells #[.bool false, .slice none 0 0] 47)).heap[w.heap.size]? = some (.cells #[.bool false, .slice none 0 0] 47 (0, 0)) := heap_old _ (heap_new w _ _ rfl)
    have hh1 : ((w.alloc (.cells #[.bool false, .slice none 0 0] 47)).alloc (.cells #[.bool false, .slice none 0 0] 47)).heap[w.heap.size + 1]? = some (.cells #[.bool false, .slice none 0 0] 47 (0, 0)) := by
      have := heap_new (w.alloc (.cells #[.bool false, .slice none 0 0] 47)) (.cells #[.bool false, .slice none 0 0] 47) _ rfl
      rwa [size1] at this
    refine ⟨(q1 0).trans ?_, (q1 1).trans ?_, fun j => (f1 j).trans ?_, (q0 0).trans ?_, (q0 1).trans ?_, fun j => (f0 j).trans ?_, Kind.Own.nil _ _, fun _ => rfl, HB0.out.trans (HQ.out.mono (by simp; omega)), Nat.le_refl _⟩
    · rw [cell_of_row _ _ _ _ _ _ hh1]; rfl
    · rw [cell_of_row _ _ _ _ _ _ hh1]; rfl
    · unfold World.frozen?; rw [hh1]; simp
    · rw [cell_of_row _ _ _ _ _ _ hh0]; rfl
    · rw [cell_of_row _ _ _ _ _ _ hh0]; rfl
    · unfold World.frozen?; rw [hh0]; simp
  clear hN hml C HB0 HQ HO HR
  go_loopw [9] (fun i wr => ∃ (k : Nat) (v : Value), k ≤ N ∧ Hid (BegC w w1 g1 wr v (edgesI (M.take k))) ∧ i = .int .i64 k) (fun i _ => N - (intOf i).toNat)
  case atStart => exact ⟨0, _, by omega, HS, rfl⟩
  case round =>
    obtain ⟨k, v, hk, HB, rfl⟩ := hrel
    by_cases hlt : k < N
    · obtain ⟨r, hg, hd, hrm⟩ := cnt_get (l := M) (k := k) (by have := HNM.out; omega)
      obtain ⟨rfl, hcell⟩ := H0.out (by omega)
      obtain ⟨c0, c1⟩ := hcell k r hg
      rw [← HB.out.same] at c0 c1
      have HX := Lib.hid (edgesI_next hg)
      have hr3 := oneC_iff.1 (HRT.out r hrm)
      have HLE := Lib.hid (show (edgesI (M.take k)).length + [r.fr, r.to + 1].length ≤ 1000000 by have := edgesI_len (M.take k); rw [List.length_take] at this; simp only [List.length_cons, List.length_nil]; omega)
      obtain ⟨X, hX⟩ : ∃ X, r.fr = X := ⟨_, rfl⟩
      obtain ⟨Y, hY⟩ : ∃ Y, r.to = Y := ⟨_, rfl⟩
      rw [hX, hY] at HX HLE hr3
      rw [hX] at c0
      rw [hY] at c1
      have hw : IntKind.i64.wrap (Y + 1) = Y + 1 := IntWalk.i64_in _ (by omega)
      obtain ⟨Z, hZ⟩ : ∃ Z, Y + 1 = Z := ⟨_, rfl⟩
      rw [hZ] at HX HLE hw
      have hw2 : IntKind.i64.wrap (Y + 1) = Z := by rw [hZ]; exact hw
      have HG := Lib.hid (rnAt_new wr X Y 26)
      have HB1 := Lib.hid (HB.out.alloc hz2 hg1 (.cells #[.int .i64 X, .int .i64 Y] 26))
      have HR1 := Lib.hid (two_new1 wr (.cells #[.int .i64 X, .int .i64 Y] 26) X Z)
      obtain ⟨N1, hN1⟩ : ∃ N1, (edgesI (M.take k) ++ [X, Z]).length = N1 := ⟨_, rfl⟩
      have HN1 := Lib.hid hN1.symm
      clear hN1
      have hl3 : w.heap.size + 1 < w1.heap.size := by omega
      have HSZ := Lib.hid HB1.out.size
      obtain ⟨s0, s1, sf, -, -, -, -, -, -, -⟩ := HB1.out
      obtain ⟨g0, g1', g2⟩ := HG.out
      clear hcell hg hd hX hY HB hrm hr3 hZ hw
      have HLL := Lib.hid hl3
      clear hl3
      go_wp2_with (at_builtin; refine wpList_app_k kIt rfl (.tmp 14) (.tmp 20) rfl w1.heap.size _ _ rfl (Kind.Own.alloc HB1.out.own _) _ (some ⟨wr.heap.size + 1, 0, none⟩) 2 2 [X, Z] rfl rfl HR1.out HLE.out (by decide) (cle_alloc HSZ.out _) ?_; intro v3 w3 hown3 hg3 hb3 _; obtain ⟨A3, c3, rfl, -⟩ := hown3.read_n HN1.out; have HQ3 := Lib.hid (HB1.out.alloc hz2 hg1 (.cells #[.int .i64 X, .int .i64 Z] 3)); have HB2 := Lib.hid (HQ3.out.app hz2 hg1 hg2 hown3 hb3); replace s1 := ((bcell hb3).1 _ _ HLL.out).trans HQ3.out.s1; have sf3 := fun j => ((bcell hb3).2 _ j HLL.out).trans (HQ3.out.sf j); clear hown3 hg3 hb3)
      go_roundw
      case rel => exact ⟨k + 1, _, by omega, by rw [HX.out]; exact HB2.out, by go_num⟩
      case measure => simp [intOf]; omega
    · have hkn : M.take k = M := List.take_of_length_le (by have := HNM.out; omega)
      rw [hkn] at HB
      obtain ⟨s0, s1, sf, r0, r1, rf, -, -, -, -⟩ := HB.out
      obtain ⟨A5, c5, rfl, hrd⟩ := HB.out.own.form
      have HRD := Lib.hid hrd
      clear hkn hrd
      go_wp2_with fail
      have HBF := Lib.hid ((HB.out.below.setCell (p := ⟨w.heap.size, 0, none⟩) (Nat.le_refl _) (.bool false)).setCell (p := ⟨w.heap.size, 1, none⟩) (Nat.le_refl _) (.slice A5 (edgesI M).length c5))
      have HOF := Lib.hid ((HB.out.own.other (grownBy_set wr w.heap.size 0 (.bool false)) (by omega)).other (grownBy_set _ w.heap.size 1 (.slice A5 (edgesI M).length c5)) (by omega)).rd
      have hc1 : ((wr.setCell ⟨w.heap.size, 0, none⟩ (.bool false)).setCell ⟨w.heap.size, 1, none⟩ (.slice A5 (edgesI M).length c5)).cell? ⟨w.heap.size, 1, none⟩ = some (.slice A5 (edgesI M).length c5) := set_same (set_other r1 (addr_off (by decide)) _) _
      have hc0 : ((wr.setCell ⟨w.heap.size, 0, none⟩ (.bool false)).setCell ⟨w.heap.size, 1, none⟩ (.slice A5 (edgesI M).length c5)).cell? ⟨w.heap.size, 0, none⟩ = some (.bool false) := set_other (set_same r0 _) (addr_off (by decide)) _
      exact bodyPost_ret (v := .agg #[.bool false, .slice A5 (edgesI M).length c5]) (by simp [results, Try.results36, go_sem, hc0, hc1]) rfl ⟨A5, c5, rfl, HOF.out, HBF.out⟩
end Go.Proofs.Ytnfhkmlggajhaaa
