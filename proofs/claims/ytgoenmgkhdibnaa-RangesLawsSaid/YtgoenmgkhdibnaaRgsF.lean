/-
  Layer 8 (ranges), the document's words: the right list of what is meant.
-/
import Derived.Test.YtgoenmgkhdibnaaRgsE
namespace Go.Proofs.Ytgoenmgkhdibnaa
open Go.RowKit

theorem Kind.Rd.call2 {P : Program} {α : Type} {k : Kind P α} {w w1 w2 : World} {A : Option Addr} {c : Nat} {l : List α} (h : k.Rd w w.heap.size A c l) (h1 : Below w.heap.size w w1) (h2 : Below w1.heap.size w1 w2) : k.Rd w2 w2.heap.size A c l := (h.call h1).call h2
/-- The range that has begun. -/
def pendR : Option (List UInt8) → List Rng
  | none => []
  | some lo => [⟨lo, [], true⟩]
/-- What is handed back: a row of ranges that reads. -/
def RetR (w : World) (l : List Rng) (e : Ending) (w' : World) : Prop := ∃ A c, e = .returned (.slice A l.length c) ∧ kRng.Rd w' w'.heap.size A c l ∧ Below w.heap.size w w'
theorem mkR_on {f : List UInt8 → Bool} {x : List UInt8} {es : List (List UInt8)} (h : f x = true) : mkR f (x :: es) none = mkR f es (some x) := by rw [mkR, h]
theorem mkR_stay {f : List UInt8 → Bool} {x lo : List UInt8} {es : List (List UInt8)} (h : f x = true) : mkR f (x :: es) (some lo) = mkR f es (some lo) := by rw [mkR, h]
theorem mkR_out {f : List UInt8 → Bool} {x : List UInt8} {es : List (List UInt8)} (h : f x = false) : mkR f (x :: es) none = mkR f es none := by rw [mkR, h]
theorem mkR_off {f : List UInt8 → Bool} {x lo : List UInt8} {es : List (List UInt8)} (h : f x = false) : mkR f (x :: es) (some lo) = ⟨lo, x, false⟩ :: mkR f es none := by rw [mkR, h]
theorem rng_row (w : World) (r : Rng) (n : Nat) (hn : n = 1) : kRng.Rd (w.alloc (.cells #[.string (str r.lo), .string (str r.hi), .bool r.op] 35)) (w.heap.size + 1) (some ⟨w.heap.size, 0, none⟩) n [r] := Kind.rd_new (by rw [kRng.row_one]; rfl) hn (by simp)
theorem own_end {w : World} {base g n c D : Nat} {dn : List Rng} {lo : List UInt8} (h : kRng.Own w base (.slice (some ⟨g, 0, none⟩) n c) (dn ++ pendR (some lo))) (hn : n = (dn ++ pendR (some lo)).length) (hD : dn.length = D) (x : List UInt8) :
    kRng.Own ((w.setCell ⟨g, D * 3 + 1, none⟩ (.string (str x))).setCell ⟨g, D * 3 + 2, none⟩ (.bool false)) base (.slice (some ⟨g, 0, none⟩) n c) ((dn ++ [⟨lo, x, false⟩]) ++ pendR none) := by
  subst hD
  have g1 : (dn ++ pendR (some lo))[dn.length]? = some ⟨lo, [], true⟩ := by rw [List.getElem?_append_right (Nat.le_refl _), Nat.sub_self]; rfl
  have h1 := h.stored (j := 1) (y := ⟨lo, x, true⟩) (v := .string (str x)) hn g1 (by decide) rfl
  rw [show (dn ++ pendR (some lo)).set dn.length ⟨lo, x, true⟩ = dn ++ [⟨lo, x, true⟩] from by simp [pendR]] at h1
  have g2 : (dn ++ [(⟨lo, x, true⟩ : Rng)])[dn.length]? = some ⟨lo, x, true⟩ := by simp
  have h2 := h1.stored (j := 2) (y := ⟨lo, x, false⟩) (v := .bool false) (by rw [hn]; simp [pendR]) g2 (by decide) rfl
  rw [show (dn ++ [(⟨lo, x, true⟩ : Rng)]).set dn.length ⟨lo, x, false⟩ = (dn ++ [⟨lo, x, false⟩]) ++ pendR none from by simp [pendR]] at h2
  exact h2
theorem set_last {α : Type} (l : List α) (x y : α) : (l ++ [x]).set l.length y = l ++ [y] := by simp
set_option maxHeartbeats 2000000 in
theorem ref_make (op : Int) (A B : Option Addr) (c d n m : Nat) (a b : List Rng) (hn : n = a.length) (hm : m = b.length) (hnl : n ≤ 1000) (hml : m ≤ 1000) (w : World) (ha : kRng.Rd w w.heap.size A c a) (hb : kRng.Rd w w.heap.size B d b) :
    Calls Try.prog 20 #[.int .i64 op, .slice A n c, .slice B m d] w (RetR w (mkR (inV op a b) (edgesL (a ++ b)) none)) := by
  have HA := Lib.hid ha
  have HB := Lib.hid hb
  have ED := fun w ha hb => Lib.hid (ref_edges A B c d n m a b hn hm hnl hml w ha hb)
  obtain ⟨E, hE⟩ : ∃ E, edgesL (a ++ b) = E := ⟨_, rfl⟩
  have H17 := Lib.hid (show ∀ x ∈ E, x.length ≤ 17 by rw [← hE]; exact (edgesL_ok _).all)
  have HEL := Lib.hid (show E.length ≤ 4001 by rw [← hE]; have := edgesL_len (a ++ b); rw [List.length_append] at this; omega)
  rw [hE] at ED ⊢
  obtain ⟨f, hf⟩ : ∃ f, inV op a b = f := ⟨_, rfl⟩
  have IN := fun s hs v (hv : f s = v) w ha hb => Lib.hid (ref_in op A B c d n m a b s (str s) hn hm rfl hs v (by rw [hf]; exact hv) w ha hb)
  rw [hf]
  obtain ⟨N, hN⟩ : ∃ N, E.length = N := ⟨_, rfl⟩
  have HN := Lib.hid hN
  clear hE hf hn hm ha hb hN
  go_enter Try.func20, Try.ntmps20
  go_wp2_with ((with_reducible refine (ED _ HA.out HB.out).out.mono ?_); rintro e w1 ⟨A1, c1, rfl, hrd, hb1⟩; have HD := Lib.hid hrd; clear hrd)
  rw [HN.out]
  have hcn : N ≤ c1 := by rw [← HN.out]; exact HD.out.room
  have hnx : N ≤ 4001 := by rw [← HN.out]; exact HEL.out
  go_loopw [8, 9, 10] (fun v was i wr => ∃ (k : Nat) (o : Option (List UInt8)) (dn : List Rng), k ≤ N ∧ Hid (mkR f E none = dn ++ mkR f (E.drop k) o) ∧ Hid (kRng.Own wr w1.heap.size v (dn ++ pendR o)) ∧ (dn ++ pendR o).length ≤ k ∧ was = .bool o.isSome ∧ i = .int .i64 k ∧ Below w1.heap.size w1 wr) (fun _ _ i _ => N - (intOf i).toNat)
  case atStart => exact ⟨0, none, [], by omega, rfl, Kind.Own.nil _ _, by simp [pendR], rfl, rfl, Below.refl _ _⟩
  case round =>
    obtain ⟨k, o, dn, hk, HL, HO, hol, rfl, rfl, hbw⟩ := hrel
    by_cases hlt : k < N
    · obtain ⟨x, hg, hd, hm⟩ := get_some (l := E) (k := k) (by have := HN.out; omega)
      obtain ⟨b1, o1, rfl, hbb, hcell⟩ := texts_at (HD.out.below hbw) (by have := HN.out; omega)
      have k0 := hcell k x hg
      have hbl := Nat.lt_of_lt_of_le hbb hbw.size
      obtain ⟨y, hy⟩ : ∃ y, f x = y := ⟨_, rfl⟩
      have C := IN x (Nat.le_trans (H17.out x hm) (by decide)) y hy
      cases y
      · cases o with
        | none =>
          have HL2 := Lib.hid (HL.out.trans (by rw [hd, mkR_out hy]))
          clear hcell hg hd hm hy IN ED
          go_wp2_with ((with_reducible refine (C _ (HA.out.call2 hb1 hbw) (HB.out.call2 hb1 hbw)).out.mono ?_); rintro e w2 ⟨rfl, hq⟩; have HO2 := Lib.hid (HO.out.below hq); have HB2 := Lib.hid (hbw.trans (hq.mono hbw.size)))
          go_roundw
          case rel => exact ⟨k + 1, none, dn, by omega, HL2, HO2, by omega, rfl, by go_num, HB2.out⟩
          case measure => simp [intOf]; omega
        | some lo =>
          have HL2 := Lib.hid (HL.out.trans (show dn ++ mkR f (E.drop k) (some lo) = (dn ++ [⟨lo, x, false⟩]) ++ mkR f (E.drop (k + 1)) none by rw [hd, mkR_off hy]; simp))
          clear hcell hg hd hm hy IN ED
          obtain ⟨D, hD⟩ : ∃ D, dn.length = D := ⟨_, rfl⟩
          have hLn : D + 1 = (dn ++ pendR (some lo)).length := by rw [List.length_append, hD]; rfl
          obtain ⟨g, cp, rfl, hcp, hgb, -, -, -⟩ := HO.out.some_ hLn (by omega)
          have hga : (dn ++ pendR (some lo))[D]? = some ⟨lo, [], true⟩ := by rw [← hD, List.getElem?_append_right (Nat.le_refl _), Nat.sub_self]; rfl
          have hD9 : D + 1 ≤ k := by omega
          have hD8 : D ≤ 5000 := by omega
          have HGA := Lib.hid hga
          have HLN := Lib.hid hLn
          have HDD := Lib.hid hD
          clear hga hLn hD
          go_wp2_with ((with_reducible refine (C _ (HA.out.call2 hb1 hbw) (HB.out.call2 hb1 hbw)).out.mono ?_); rintro e w2 ⟨rfl, hq⟩; have HO2 := Lib.hid (HO.out.below hq); have HB2 := Lib.hid (hbw.trans (hq.mono hbw.size)); obtain ⟨hg1, hg2, hfz, hcs⟩ := HO2.out.at_g HLN.out (by omega); have e1 := hcs D _ HGA.out 1 _ rfl; have e2 := hcs D _ HGA.out 2 _ rfl; change w2.cell? ⟨g, D * 3 + 1, none⟩ = _ at e1; change w2.cell? ⟨g, D * 3 + 2, none⟩ = _ at e2; replace k0 := ((bcell hq).1 _ _ hbl).trans k0; have HOF := Lib.hid (own_end HO2.out HLN.out HDD.out x); have HBF := Lib.hid ((HB2.out.setCell (p := ⟨g, D * 3 + 1, none⟩) hg1 (.string (str x))).setCell (p := ⟨g, D * 3 + 2, none⟩) hg1 (.bool false)); clear hcs hq)
          go_roundw
          case rel => exact ⟨k + 1, none, dn ++ [⟨lo, x, false⟩], by omega, HL2, HOF, by simp [pendR]; have := HDD.out; omega, rfl, by go_num, HBF.out⟩
          case measure => simp [intOf]; omega
      · cases o with
        | none =>
          have HL2 := Lib.hid (HL.out.trans (by rw [hd, mkR_on hy]))
          clear hcell hg hd hm hy IN ED
          have HLE := Lib.hid (show (dn ++ pendR none).length + [(⟨x, [], true⟩ : Rng)].length ≤ 1000000 by rw [List.length_singleton]; omega)
          go_wp2_with (first
            | ((with_reducible refine (C _ (HA.out.call2 hb1 hbw) (HB.out.call2 hb1 hbw)).out.mono ?_); rintro e w2 ⟨rfl, hq⟩; have HO2 := Lib.hid (HO.out.below hq); have HB2 := Lib.hid (hbw.trans (hq.mono hbw.size)); replace k0 := ((bcell hq).1 _ _ hbl).trans k0)
            | (at_builtin; refine wpList_app_k kRng rfl (.tmp 34) (.tmp 40) rfl w1.heap.size _ (dn ++ pendR none) rfl (Kind.Own.alloc HO2.out _) _ (some ⟨w2.heap.size, 0, none⟩) 1 1 [⟨x, [], true⟩] rfl rfl (rng_row w2 ⟨x, [], true⟩ 1 rfl).row HLE.out (by decide) (le_alloc (HB2.out.size) _) ?_; intro v3 w3 hown3 hg3 hb3 _; have HO3 := Lib.hid hown3; have HB3 := Lib.hid ((HB2.out.alloc HB2.out.size _).trans hb3); clear hown3 hb3 hg3))
          go_roundw
          case rel => exact ⟨k + 1, some x, dn, by omega, HL2, by have h := HO3.out; rw [pendR, List.append_nil] at h; exact h, by simp [pendR] at hol ⊢; omega, rfl, by go_num, HB3.out⟩
          case measure => simp [intOf]; omega
        | some lo =>
          have HL2 := Lib.hid (HL.out.trans (by rw [hd, mkR_stay hy]))
          clear hcell hg hd hm hy IN ED
          go_wp2_with ((with_reducible refine (C _ (HA.out.call2 hb1 hbw) (HB.out.call2 hb1 hbw)).out.mono ?_); rintro e w2 ⟨rfl, hq⟩; have HO2 := Lib.hid (HO.out.below hq); have HB2 := Lib.hid (hbw.trans (hq.mono hbw.size)))
          go_roundw
          case rel => exact ⟨k + 1, some lo, dn, by omega, HL2, HO2, by omega, rfl, by go_num, HB2.out⟩
          case measure => simp [intOf]; omega
    · have HL2 := Lib.hid (HL.out.trans (show dn ++ mkR f (E.drop k) o = dn ++ pendR o by rw [List.drop_eq_nil_of_le (by have := HN.out; omega)]; cases o <;> rfl))
      clear IN ED
      go_wp2_with fail
      go_ret
      obtain ⟨A5, c5, rfl, hrd⟩ := HO.out.form
      refine ⟨A5, c5, ?_, ?_, hb1.trans (hbw.mono hb1.size)⟩
      · rw [HL2.out]; rfl
      · rw [HL2.out]; exact hrd
end Go.Proofs.Ytgoenmgkhdibnaa
