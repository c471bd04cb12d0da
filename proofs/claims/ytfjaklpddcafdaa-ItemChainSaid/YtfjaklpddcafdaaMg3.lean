/-
  Several texts in one: KeyC, KeyD, Cut, KeyE, Law06A, Law06B, SpanA, SpanB, RgsA, ItmF, ItmG, Law18A.
-/
import Derived.Deep.RegionHeld3
import Derived.BigRegion
import Derived.Lib.SliceRun
import Derived.Test.YtfjaklpddcafdaaMg2
namespace Go.Proofs.Ytfjaklpddcafdaa
open Go.RowKit

end Go.Proofs.Ytfjaklpddcafdaa

namespace Go.Proofs.Ytfjaklpddcafdaa
open Go.RowKit

end Go.Proofs.Ytfjaklpddcafdaa

namespace Go.Proofs.Ytfjaklpddcafdaa
open Go.RowKit

def cutA (A : Option Addr) (k c : Nat) : Option Addr := if c = k then A else A.map (·.add k)
theorem RowAt.cut {w : World} {B : Nat} {A : Option Addr} {l : List Value} {k c : Nat} (h : RowAt w B A l) (hk : k ≤ l.length) (hc : l.length ≤ c) : RowAt w B (cutA A k c) (l.drop k) := by
  unfold cutA
  split
  · left
    exact List.drop_of_length_le (by omega)
  · rcases h with h | ⟨b, o, rfl, h2, h3⟩
    · left; rw [h]; simp
    · refine .inr ⟨b, o + k, by simp [Go.WideShapes.add_plain], h2, fun j u hu => ?_⟩
      rw [Nat.add_assoc]
      exact h3 _ u (by rw [← hu, List.getElem?_drop])
theorem RowAt.drewN {w : World} {B : Nat} {A : Option Addr} {l : List Value} (h : RowAt w B A l) (k : Nat) : RowAt (w.drewN k) B A l := h
theorem RdB.cut {w : World} {B : Nat} {A : Option Addr} {c k : Nat} {l : List UInt8} (h : RdB w B A c l) (hk : k ≤ l.length) : RdB w B (cutA A k c) (c - k) (l.drop k) :=
  ⟨by have := RowAt.cut h.row (k := k) (c := c) (by simpa using hk) (by simpa using h.room)
      simpa [bytes] using this, by have := h.room; simp; omega, by have := h.cap; omega⟩
theorem RowAt.take {w : World} {B : Nat} {A : Option Addr} {l : List Value} (h : RowAt w B A l) (k : Nat) : RowAt w B A (l.take k) := by
  rcases h with h | ⟨b, o, rfl, h2, h3⟩
  · left; rw [h]; simp
  · refine .inr ⟨b, o, rfl, h2, fun j u hu => h3 j u ?_⟩
    rw [List.getElem?_take] at hu
    split at hu
    · exact hu
    · cases hu
theorem RdB.take {w : World} {B : Nat} {A : Option Addr} {c : Nat} {l : List UInt8} (h : RdB w B A c l) (k : Nat) : RdB w B A c (l.take k) :=
  ⟨by have := RowAt.take h.row k
      simpa [bytes] using this, by have := h.room; simp; omega, h.cap⟩
end Go.Proofs.Ytfjaklpddcafdaa

namespace Go.Proofs.Ytfjaklpddcafdaa
open Go.RowKit

end Go.Proofs.Ytfjaklpddcafdaa

namespace Go.Proofs.Ytfjaklpddcafdaa
open Go.RowKit

theorem less_is (a b : List UInt8) (S T : ByteArray) (hS : str a = S) (hT : str b = T) (ha : a.length ≤ 1000000) (v : Bool) (hv : ltB a b = v) (w : World) : Calls Try.prog 18 #[.string S, .string T] w fun e w' => e = .returned (.bool v) ∧ Below w.heap.size w w' := by
  subst hS hT hv
  exact (ref_less a b (by omega) w).mono fun e w' ⟨h1, n, h2⟩ => ⟨h1, below_quiet h2⟩
theorem cmp_is (a b : List UInt8) (S T : ByteArray) (hS : str a = S) (hT : str b = T) (v : Int) (hv : Lib.compareBytes a b = v) (w : World) : Calls Try.prog 42 #[.string S, .string T] w fun e w' => e = .returned (.int .i64 v) ∧ w = w' := by
  subst hS hT hv
  exact key_cmp a b w
theorem edge_is (a : List UInt8) (S : ByteArray) (hS : str a = S) (v : Bool) (hv : edgeB a = v) (w : World) : Calls Try.prog 62 #[.string S] w fun e w' => e = .returned (.bool v) ∧ w = w' := by
  subst hS hv
  exact key_edge a w
theorem txt_ne {a b : List UInt8} {S T : ByteArray} (hS : str a = S) (hT : str b = T) (h : a ≠ b) : (S.toList == T.toList) = false := by
  subst hS hT
  rw [str_toList, str_toList]
  simpa using h
end Go.Proofs.Ytfjaklpddcafdaa

namespace Go.Proofs.Ytfjaklpddcafdaa
open Go.RowKit

end Go.Proofs.Ytfjaklpddcafdaa

namespace Go.Proofs.Ytfjaklpddcafdaa
open Go.RowKit

theorem edgeB_le {l : List UInt8} : edgeB l = decide (l.length ≤ 17) := rfl
theorem txt_empty {l : List UInt8} {S : ByteArray} (h : str l = S) : (S.toList == []) = l.isEmpty := by
  subst h; rw [str_toList]; cases l <;> rfl
theorem cmp_test (a b : List UInt8) : ∃ x : Int, Lib.compareBytes a b = x ∧ decide (x < 0) = ltB a b ∧ decide (0 ≤ x) = !ltB a b := by
  refine ⟨_, rfl, ?_, ?_⟩
  · rw [cmp_ltB]; cases ltB a b with
    | true => rfl
    | false => cases ltB b a <;> rfl
  · rw [cmp_ltB]; cases ltB a b with
    | true => rfl
    | false => cases ltB b a <;> rfl

theorem span_right (r : Rng) (S T : ByteArray) (o v : Bool) (h : IsR r S T o) (hv : rightR r = v) (w : World) :
    Calls Try.prog 55 #[.agg #[.string S, .string T, .bool o]] w fun e w' => e = .returned (.bool v) ∧ Below w.heap.size w w' := by
  obtain ⟨h1, h2, h3⟩ := h
  cases ho : o with
  | true =>
    subst ho
    rw [rightR_open h3] at hv
    obtain ⟨v1, e1⟩ : ∃ v1, edgeB r.lo = v1 := ⟨_, rfl⟩
    obtain ⟨v2, e2⟩ : ∃ v2, r.hi.isEmpty = v2 := ⟨_, rfl⟩
    have hT := (txt_empty h2).trans e2
    have E1 := fun w => Lib.hid (edge_is r.lo S h1 v1 e1 w)
    rw [← edgeB_le, e1, e2] at hv
    clear e1 e2 h1 h2 h3
    subst hv
    cases v1 <;> cases v2
    all_goals
      go_enter Try.func55, Try.ntmps55
      go_wp2_with ((with_reducible refine (E1 _).out.mono ?_); rintro e w' ⟨rfl, rfl⟩)
      go_ret
      exact ⟨rfl, (Below.refl _ _).alloc (Nat.le_refl _) _⟩
  | false =>
    subst ho
    rw [rightR_shut h3] at hv
    obtain ⟨v1, e1⟩ : ∃ v1, edgeB r.lo = v1 := ⟨_, rfl⟩
    obtain ⟨v2, e2⟩ : ∃ v2, edgeB r.hi = v2 := ⟨_, rfl⟩
    have E1 := fun w => Lib.hid (edge_is r.lo S h1 v1 e1 w)
    have E2 := fun w => Lib.hid (edge_is r.hi T h2 v2 e2 w)
    rw [← edgeB_le, ← edgeB_le, e1, e2] at hv
    clear e1 e2
    obtain ⟨x, hx, hx1, -⟩ := cmp_test r.lo r.hi
    have C := fun w => Lib.hid (cmp_is r.lo r.hi S T h1 h2 x hx w)
    rw [← hx1] at hv
    clear hx1 hx h1 h2 h3
    subst hv
    cases v1 <;> cases v2
    all_goals
      go_enter Try.func55, Try.ntmps55
      go_wp2_with (first | ((with_reducible refine (E1 _).out.mono ?_); rintro e w' ⟨rfl, rfl⟩) | ((with_reducible refine (E2 _).out.mono ?_); rintro e w' ⟨rfl, rfl⟩) | ((with_reducible refine (C _).out.mono ?_); rintro e w' ⟨rfl, rfl⟩))
      go_ret
      exact ⟨rfl, (Below.refl _ _).alloc (Nat.le_refl _) _⟩
theorem ref_rright (r : Rng) (S T : ByteArray) (o v : Bool) (h : IsR r S T o) (hv : rightR r = v) (w : World) :
    Calls Try.prog 59 #[.agg #[.string S, .string T, .bool o]] w fun e w' => e = .returned (.bool v) ∧ Below w.heap.size w w' := by
  obtain ⟨h1, h2, h3⟩ := h
  have hz1 : S.size = r.lo.length := by subst h1; exact str_size _
  have hz2 : T.size = r.hi.length := by subst h2; exact str_size _
  by_cases g1 : r.lo.length ≤ 17
  · by_cases g2 : r.hi.length ≤ 17
    · have k1 : S.size ≤ 17 := by omega
      have k2 : T.size ≤ 17 := by omega
      cases ho : o with
      | true =>
        subst ho
        obtain ⟨v2, e2⟩ : ∃ v2, r.hi.isEmpty = v2 := ⟨_, rfl⟩
        have hT := (txt_empty h2).trans e2
        rw [rightR_open h3, decide_eq_true g1, e2, Bool.true_and] at hv
        clear e2 h1 h2 h3 hz1 hz2
        subst hv
        go_enter Try.func59, Try.ntmps59
        go_wp2_with fail
        go_ret
        exact ⟨rfl, (Below.refl _ _).alloc (Nat.le_refl _) _⟩
      | false =>
        subst ho
        rw [rightR_shut h3, decide_eq_true g1, decide_eq_true g2, Bool.true_and, Bool.true_and] at hv
        have L := fun w => Lib.hid (less_is r.lo r.hi S T h1 h2 (by omega) v hv w)
        clear h1 h2 h3 hz1 hz2 hv
        go_enter Try.func59, Try.ntmps59
        go_wp2_with ((with_reducible refine (L _).out.mono ?_); rintro e w' ⟨rfl, hb⟩)
        go_ret
        exact ⟨rfl, ((Below.refl _ _).alloc (Nat.le_refl _) _).trans (hb.mono (by simp))⟩
    · have k1 : S.size ≤ 17 := by omega
      have k2 : 17 < T.size := by omega
      have hv' : v = false := by
        rw [← hv, Bool.eq_false_iff]; intro e; exact g2 (rightR_hi e)
      subst hv'
      clear h1 h2 h3 hz1 hz2 hv
      go_enter Try.func59, Try.ntmps59
      go_wp2_with fail
      go_ret
      exact ⟨rfl, (Below.refl _ _).alloc (Nat.le_refl _) _⟩
  · have k1 : 17 < S.size := by omega
    have hv' : v = false := by
      rw [← hv, Bool.eq_false_iff]; intro e; exact g1 (rightR_lo e)
    subst hv'
    clear h1 h2 h3 hz1 hz2 hv
    go_enter Try.func59, Try.ntmps59
    go_wp2_with fail
    go_ret
    exact ⟨rfl, (Below.refl _ _).alloc (Nat.le_refl _) _⟩
end Go.Proofs.Ytfjaklpddcafdaa

namespace Go.Proofs.Ytfjaklpddcafdaa
open Go.RowKit

theorem span_has (r : Rng) (s : List UInt8) (S T U : ByteArray) (o v : Bool) (h : IsR r S T o) (hU : str s = U) (hv : hasR r s = v) (w : World) :
    Calls Try.prog 48 #[.agg #[.string S, .string T, .bool o], .string U] w fun e w' => e = .returned (.bool v) ∧ Below w.heap.size w w' := by
  obtain ⟨v1, e1⟩ : ∃ v1, rightR r = v1 := ⟨_, rfl⟩
  have R1 := fun w => Lib.hid (span_right r S T o v1 h e1 w)
  obtain ⟨h1, h2, h3⟩ := h
  obtain ⟨x, hx, -, hx1⟩ := cmp_test s r.lo
  obtain ⟨y, hy, hy1, -⟩ := cmp_test s r.hi
  have C1 := fun w => Lib.hid (cmp_is s r.lo U S hU h1 x hx w)
  have C2 := fun w => Lib.hid (cmp_is s r.hi U T hU h2 y hy w)
  unfold hasR aheadR at hv
  rw [e1, ← hx1, ← hy1, h3] at hv
  clear e1 hx hy hx1 hy1 h1 h2 h3 hU
  obtain ⟨d1, g1⟩ : ∃ d1, decide (0 ≤ x) = d1 := ⟨_, rfl⟩
  obtain ⟨d2, g2⟩ : ∃ d2, decide (y < 0) = d2 := ⟨_, rfl⟩
  rw [g1, g2] at hv
  subst hv
  cases v1 <;> cases d1 <;> cases o <;> cases d2
  all_goals
    go_enter Try.func48, Try.ntmps48
    go_wp2_with (first | ((with_reducible refine (R1 _).out.mono ?_); rintro e w' ⟨rfl, hb⟩; obtain ⟨hc, -⟩ := bcell hb) | ((with_reducible refine (C1 _).out.mono ?_); rintro e w' ⟨rfl, rfl⟩) | ((with_reducible refine (C2 _).out.mono ?_); rintro e w' ⟨rfl, rfl⟩))
    go_ret
    exact ⟨rfl, ((Below.refl _ _).alloc (Nat.le_refl _) _).trans (hb.mono (by simp))⟩
theorem ref_has (r : Rng) (s : List UInt8) (S T U : ByteArray) (o v : Bool) (h : IsR r S T o) (hU : str s = U) (hs : s.length ≤ 1000000) (hv : hasR r s = v) (w : World) :
    Calls Try.prog 51 #[.agg #[.string S, .string T, .bool o], .string U] w fun e w' => e = .returned (.bool v) ∧ Below w.heap.size w w' := by
  obtain ⟨v1, e1⟩ : ∃ v1, rightR r = v1 := ⟨_, rfl⟩
  have R1 := fun w => Lib.hid (ref_rright r S T o v1 h e1 w)
  obtain ⟨h1, h2, h3⟩ := h
  obtain ⟨d1, g1⟩ : ∃ d1, ltB s r.lo = d1 := ⟨_, rfl⟩
  obtain ⟨d2, g2⟩ : ∃ d2, ltB s r.hi = d2 := ⟨_, rfl⟩
  have L1 := fun w => Lib.hid (less_is s r.lo U S hU h1 hs d1 g1 w)
  have L2 := fun w => Lib.hid (less_is s r.hi U T hU h2 hs d2 g2 w)
  unfold hasR aheadR at hv
  rw [e1, g1, g2, h3] at hv
  clear e1 g1 g2 h1 h2 h3 hU
  subst hv
  cases v1 <;> cases d1 <;> cases o <;> cases d2
  all_goals
    go_enter Try.func51, Try.ntmps51
    go_wp2_with (first | ((with_reducible refine (R1 _).out.mono ?_); rintro e w' ⟨rfl, hq⟩; obtain ⟨hc, -⟩ := bcell hq) | ((with_reducible refine (L1 _).out.mono ?_); rintro e w2 ⟨rfl, hq2⟩; replace hc := fun b o h => ((bcell hq2).1 b o (Nat.lt_of_lt_of_le h hq.size)).trans (hc b o h); replace hq := hq.trans (hq2.mono hq.size); clear hq2) | ((with_reducible refine (L2 _).out.mono ?_); rintro e w3 ⟨rfl, hq3⟩; replace hq := hq.trans (hq3.mono hq.size); clear hq3))
    go_ret
    exact ⟨rfl, ((Below.refl _ _).alloc (Nat.le_refl _) _).trans (hq.mono (by simp))⟩

end Go.Proofs.Ytfjaklpddcafdaa

namespace Go.Proofs.Ytfjaklpddcafdaa
open Go.RowKit

theorem rd_max {P : Program} {α : Type} {k : Kind P α} {w : World} {B : Nat} {A : Option Addr} {c n : Nat} {l : List α} (h : k.Rd w B A c l) (hn : n = l.length) : n ≤ 9223372036854775807 := by
  have h1 := h.room
  have h2 := h.cap
  unfold maxLen at h2
  omega
set_option maxHeartbeats 400000 in
theorem ref_lhas (A : Option Addr) (c n : Nat) (l : List Rng) (s : List UInt8) (U : ByteArray) (hn : n = l.length) (hU : str s = U) (hs : s.length ≤ 1000000) (v : Bool) (hv : hasL l s = v) (w : World) (hr : kRng.Rd w w.heap.size A c l) :
    Calls Try.prog 41 #[.slice A n c, .string U] w fun e w' => e = .returned (.bool v) ∧ Below w.heap.size w w' := by
  have HN := Lib.hid hn
  have HR := Lib.hid hr
  have hmx : n ≤ 9223372036854775807 := by exact rd_max hr hn
  have hcx : n ≤ c := by rw [hn]; exact hr.room
  subst hv
  clear hn hr
  go_enter Try.func41, Try.ntmps41
  go_wp2_with fail
  go_loopw [5] (fun i wr => ∃ k : Nat, k ≤ n ∧ Hid (hasL l s = hasL (l.drop k) s) ∧ i = .int .i64 k ∧ Below w.heap.size w wr) (fun i _ => n - (intOf i).toNat)
  case atStart => exact ⟨0, by omega, rfl, rfl, Below.refl _ _⟩
  case round =>
    obtain ⟨k, hk, HL, rfl, hb⟩ := hrel
    by_cases hlt : k < n
    · obtain ⟨r, hg, hd, -⟩ := get_some (l := l) (k := k) (by have := HN.out; omega)
      obtain ⟨b, o, rfl, hb1, hcell⟩ := rngs_at (HR.out.below hb) (by have := HN.out; omega)
      obtain ⟨c0, c1, c2⟩ := hcell k r hg
      obtain ⟨d, hdv⟩ : ∃ d, hasR r s = d := ⟨_, rfl⟩
      have C := fun w => Lib.hid (ref_has r s _ _ U _ d (IsR.mk' r) hU hs hdv w)
      have HL2 := Lib.hid (HL.out.trans (by rw [hd, hasL_cons, hdv]))
      clear hcell hg hd hdv
      obtain ⟨S, hS⟩ : ∃ S, str r.lo = S := ⟨_, rfl⟩
      obtain ⟨T, hT⟩ : ∃ T, str r.hi = T := ⟨_, rfl⟩
      obtain ⟨q, hq⟩ : ∃ q, r.op = q := ⟨_, rfl⟩
      rw [hS, hT, hq] at C
      rw [hS] at c0
      rw [hT] at c1
      rw [hq] at c2
      clear hS hT hq
      cases d
      · go_wp2_with ((with_reducible refine (C _).out.mono ?_); rintro e w2 ⟨rfl, hq⟩; replace hb := hb.trans (hq.mono hb.size); clear hq)
        go_roundw
        case rel => exact ⟨k + 1, by omega, HL2, by go_num, hb⟩
        case measure => simp [intOf]; omega
      · go_wp2_with ((with_reducible refine (C _).out.mono ?_); rintro e w2 ⟨rfl, hq⟩; replace hb := hb.trans (hq.mono hb.size); clear hq)
        go_ret
        exact ⟨ret_bool HL2.out.symm, hb⟩
    · have HL2 := Lib.hid (HL.out.trans (show hasL (l.drop k) s = false by rw [List.drop_eq_nil_of_le (by have := HN.out; omega)]; rfl))
      go_wp2_with fail
      go_ret
      exact ⟨ret_bool HL2.out.symm, hb⟩
end Go.Proofs.Ytfjaklpddcafdaa

namespace Go.Proofs.Ytfjaklpddcafdaa
open Go.RowKit

theorem it_alloc {n : Nat} {w : World} (h : n ≤ w.heap.size) (o : Obj) : n ≤ (w.alloc o).heap.size := by simp; omega
def RetIm (w : World) (N : Nat) (l : List Itm) (e : Ending) (w' : World) : Prop := ∃ A c, e = .returned (.slice A N c) ∧ kItm.Own w' w.heap.size (.slice A N c) l ∧ Below w.heap.size w w'
theorem itm_row (w : World) (x : Itm) (K : ByteArray) (r c k p : Int) (d : Bool) (B : ByteArray) (hx : IsI x K r c k p d B) : RowAt (w.alloc (itO K r c k p d B)) (w.heap.size + 1) (some ⟨w.heap.size, 0, none⟩) (kItm.row [x]) := by
  obtain ⟨rfl, rfl, rfl, rfl, rfl, rfl, rfl⟩ := hx
  exact (Kind.rd_new (k := kItm) (l := [x]) (n := 1) (by rw [kItm.row_one]; rfl) rfl (by simp)).row
theorem inI_take {l : List Itm} {k : Nat} {x : Itm} (r : List UInt8 → Bool) (h : l[k]? = some x) : inI (l.take (k + 1)) r = inI (l.take k) r ++ (match r x.key with | true => [x] | false => []) := by
  unfold inI
  rw [List.take_add_one, h, Option.toList_some, List.filter_append]
  cases hr : r x.key <;> simp [hr]
theorem inI_len (l : List Itm) (r : List UInt8 → Bool) : (inI l r).length ≤ l.length := List.length_filter_le _ _
set_option maxRecDepth 100000 in
set_option maxHeartbeats 4000000 in
theorem ref_iin (A D : Option Addr) (c e n q : Nat) (l : List Itm) (rs : List Rng) (hn : n = l.length) (hq : q = rs.length) (hn9 : n ≤ 100000) (hkl : ∀ x ∈ l, x.key.length ≤ 1000000) (U : List Itm) (hU : inI l (hasL rs) = U) (N : Nat) (hN : U.length = N) (w : World) (hr : kItm.Rd w w.heap.size A c l) (hs : kRng.Rd w w.heap.size D e rs) :
    Calls Try.prog 24 #[.slice A n c, .slice D q e] w (RetIm w N U) := by
  have HN := Lib.hid hn
  have HR := Lib.hid hr
  have HS := Lib.hid hs
  have HK := Lib.hid hkl
  have HQ := Lib.hid hq
  have HU := Lib.hid hU
  have HNN := Lib.hid hN
  have hn9h := Lib.hid hn9
  have hmx := rd_maxI hr hn
  have hcx : n ≤ c := by rw [hn]; exact hr.room
  clear hn hr hs hkl hq hU hN hn9
  go_enter Try.func24, Try.ntmps24
  go_wp2_with fail
  go_loopw [5, 6] (fun v i wr => ∃ k : Nat, k ≤ n ∧ Hid (kItm.Own wr w.heap.size v (inI (l.take k) (hasL rs))) ∧ i = .int .i64 k ∧ Hid (Below w.heap.size w wr)) (fun _ i _ => n - (intOf i).toNat)
  case atStart => exact ⟨0, by omega, Kind.Own.nil _ _, rfl, Below.refl _ _⟩
  case round =>
    obtain ⟨k, hk, HO, rfl, HW⟩ := hrel
    by_cases hlt : k < n
    · obtain ⟨x, hg, hd, hxm⟩ := get_some (l := l) (k := k) (by have := HN.out; omega)
      obtain ⟨b, o, rfl, hb1, hcell⟩ := itms_at (HR.out.below HW.out) (by have := HN.out; omega)
      obtain ⟨p0, p1, p2, p3, p4, p5, p6⟩ := hcell k x hg
      obtain ⟨K, r, cc, rk, pp, dd, BB, hI⟩ : ∃ K r c k p d B, IsI x K r c k p d B := ⟨_, _, _, _, _, _, _, IsI.mk' x⟩
      rw [hI.key] at p0
      rw [hI.rep] at p1
      rw [hI.cnt] at p2
      rw [hI.rank] at p3
      rw [hI.prio] at p4
      rw [hI.dead] at p5
      rw [hI.body] at p6
      obtain ⟨z, hz⟩ : ∃ z, hasL rs x.key = z := ⟨_, rfl⟩
      have C1 := Lib.hid (ref_lhas D e q rs x.key K HQ.out hI.key (HK.out x hxm) z hz wr ((HS.out.below HW.out).more HW.out.size))
      have HT := Lib.hid (inI_take (hasL rs) hg)
      rw [hz] at HT
      have HRW := fun w => Lib.hid (itm_row w x K r cc rk pp dd BB hI)
      have HLE := Lib.hid (show (inI (l.take k) (hasL rs)).length + [x].length ≤ 1000000 by
        have h1 := inI_len (l.take k) (hasL rs)
        rw [List.length_take] at h1
        have := hn9h.out
        rw [List.length_singleton]; omega)
      have hk0 : (0 : Int) ≤ (k : Int) := by omega
      have hkn : (k : Int) < (n : Int) := by omega
      clear hcell hg hd hxm hz hI
      cases z with
      | false =>
        go_wp2_with ((with_reducible refine C1.out.mono ?_); rintro e w1 ⟨rfl, hq⟩; replace HO := Lib.hid (HO.out.below hq); replace HW := Lib.hid (HW.out.trans (hq.mono HW.out.size)); clear hq)
        go_roundw
        case rel => exact ⟨k + 1, by omega, (by rw [HT.out]; show kItm.Own _ _ _ (_ ++ []); rw [List.append_nil]; exact HO.out), by go_num, HW⟩
        case measure => simp [intOf]; omega
      | true =>
        go_wp2_with (first
          | ((with_reducible refine C1.out.mono ?_); rintro e w1 ⟨rfl, hq⟩; have p0' := ((bcell hq).1 _ _ (World.block_lt_of_cell? _ _ p0)).trans p0; have p1' := ((bcell hq).1 _ _ (World.block_lt_of_cell? _ _ p1)).trans p1; have p2' := ((bcell hq).1 _ _ (World.block_lt_of_cell? _ _ p2)).trans p2; have p3' := ((bcell hq).1 _ _ (World.block_lt_of_cell? _ _ p3)).trans p3; have p4' := ((bcell hq).1 _ _ (World.block_lt_of_cell? _ _ p4)).trans p4; have p5' := ((bcell hq).1 _ _ (World.block_lt_of_cell? _ _ p5)).trans p5; have p6' := ((bcell hq).1 _ _ (World.block_lt_of_cell? _ _ p6)).trans p6; replace HO := Lib.hid (HO.out.below hq); replace HW := Lib.hid (HW.out.trans (hq.mono HW.out.size)); clear hq)
          | (at_builtin; refine wpList_app_k kItm rfl (.tmp 20) (.tmp 25) rfl w.heap.size _ _ rfl (Kind.Own.alloc HO.out _) _ (some ⟨w1.heap.size, 0, none⟩) 1 1 [x] rfl rfl (HRW w1).out HLE.out (by decide) (it_alloc HW.out.size _) ?_; intro v3 w3 hown3 hg3 hb3 _; have HO3 := Lib.hid hown3; have HW3 := Lib.hid ((HW.out.alloc HW.out.size _).trans hb3); clear hown3 hb3 hg3))
        go_roundw
        case rel => exact ⟨k + 1, by omega, (by rw [HT.out]; exact HO3.out), by go_num, HW3⟩
        case measure => simp [intOf]; omega
    · have hkn : l.take k = l := List.take_of_length_le (by have := HN.out; omega)
      rw [hkn, HU.out] at HO
      obtain ⟨A9, c9, rfl, hrd⟩ := HO.out.read_n HNN.out.symm
      clear hkn hrd
      go_wp2_with fail
      go_ret
      exact ⟨A9, c9, rfl, HO.out, HW.out⟩
end Go.Proofs.Ytfjaklpddcafdaa

namespace Go.Proofs.Ytfjaklpddcafdaa
open Go.RowKit

def lenV : Value → Nat
  | .slice _ n _ => n
  | _ => 0
theorem best_is {l : List Itm} {key : List UInt8} {n : Nat} {z : Int} {m : Itm} (h : BestAt (pickI false key) l n z) (hn : n = l.length) (hm : bestK l key = some m) : ∃ q : Nat, z = (q : Int) ∧ q < n ∧ l[q]? = some m := by
  have e : l.take n = l := List.take_of_length_le (by omega)
  unfold BestAt at h
  rw [e, pickI_key] at h
  unfold bestK at hm
  rw [hm] at h
  rcases h with ⟨-, h⟩ | ⟨q, x, h1, h2, h3, h4⟩
  · cases h
  · injection h4 with h4
    subst h4
    exact ⟨q, h1, h2, h3⟩
set_option maxRecDepth 100000 in
set_option maxHeartbeats 16000000 in
theorem ref_imerge (A : Option Addr) (c n : Nat) (l : List Itm) (hn : n = l.length) (hn9 : n ≤ 100000) (hkl : ∀ x ∈ l, x.key.length ≤ 1000000) (U : List Itm) (hU : mergeI l = U) (N : Nat) (hN : U.length = N) (w : World) (hr : kItm.Rd w w.heap.size A c l) :
    Calls Try.prog 22 #[.slice A n c] w (RetIm w N U) := by
  have HN := Lib.hid hn
  have HR := Lib.hid hr
  have HK := Lib.hid hkl
  have HU := Lib.hid hU
  have HNN := Lib.hid hN
  have hn9h := Lib.hid hn9
  have hmx := rd_maxI hr hn
  have hcx : n ≤ c := by rw [hn]; exact hr.room
  have HML := Lib.hid (show U.length ≤ n by rw [← hU, hn]; exact mergeI_len l)
  have HMI := Lib.hid (show ∀ m ∈ U, m ∈ l from fun m hm => (mergeI_mem (hU.symm ▸ hm)).1)
  clear hn hr hkl hU hN hn9
  go_enter Try.func22, Try.ntmps22
  go_wp2_with fail
  go_loopw [3] (fun v wr => ∃ (j c9 : Nat) (A9 : Option Addr), j ≤ U.length ∧ v = .slice A9 j c9 ∧ Hid (kItm.Own wr w.heap.size (.slice A9 j c9) (U.take j)) ∧ Hid (Below w.heap.size w wr)) (fun v _ => n + 1 - lenV v)
  case atStart => exact ⟨0, 0, none, by omega, rfl, Kind.Own.nil _ _, Below.refl _ _⟩
  case round =>
    obtain ⟨j, c9, A9, hj, rfl, HO, HW⟩ := hrel
    have hjn : j ≤ n := by have := HML.out; omega
    have hjd : decide ((j : Int) ≤ (n : Int)) = true := decide_eq_true (by omega)
    have HJ := Lib.hid hj
    clear hj
    go_wp2_with fail
    go_loopw [4, 5] (fun a i wx => ∃ (k : Nat) (z : Int), k ≤ n ∧ a = .int .i64 z ∧ i = .int .i64 k ∧ Hid (LeastAt (lastK U j) l k z) ∧ Hid (kItm.Own wx w.heap.size (.slice A9 j c9) (U.take j)) ∧ Hid (Below w.heap.size w wx)) (fun _ i _ => n - (intOf i).toNat)
    case atStart => exact ⟨0, -1, by omega, rfl, rfl, .inl ⟨rfl, fun x hx => (by simp at hx)⟩, HO, HW⟩
    case round =>
      clear HO HW
      obtain ⟨k, z, hk, rfl, rfl, HLA, HO, HW⟩ := hrel
      by_cases hlt : k < n
      · obtain ⟨x, hg, hd, hxm⟩ := get_some (l := l) (k := k) (by have := HN.out; omega)
        obtain ⟨b, o, rfl, hb1, hcell⟩ := itms_at (HR.out.below HW.out) (by have := HN.out; omega)
        obtain ⟨p0, p1, p2, p3, p4, p5, p6⟩ := hcell k x hg
        obtain ⟨K, r, cc, rk, pp, dd, BB, hI⟩ : ∃ K r c k p d B, IsI x K r c k p d B := ⟨_, _, _, _, _, _, _, IsI.mk' x⟩
        rw [hI.key] at p0
        rw [hI.rep] at p1
        rw [hI.cnt] at p2
        rw [hI.rank] at p3
        rw [hI.prio] at p4
        rw [hI.dead] at p5
        rw [hI.body] at p6
        obtain ⟨y, hy⟩ : ∃ y, rightI x = y := ⟨_, rfl⟩
        have CS := Lib.hid (fun (L : List (Addr × Value)) => fun (W : World) (hC : CellL wr L W) => (ref_iright x K r cc rk pp dd BB hI y hy W).mono fun (e' : Ending) (W' : World) ⟨h1, h2⟩ => (⟨h1, cellL_call h2 hC⟩ : e' = Ending.returned (.bool y) ∧ CellL wr L W'))
        have hxl := HK.out x hxm
        have HX := Lib.hid hg
        have hk0 : (0 : Int) ≤ (k : Int) := by omega
        have hkn : (k : Int) < (n : Int) := by omega
        have P0 := Lib.hid p0

        clear hd
        by_cases hjz : j = 0
        · skip
          have hj0 : decide ((j : Int) > 0) = false := decide_eq_false (by omega)
          have hj0' : decide ((0 : Int) < (j : Int)) = false := hj0
          have hj0n : decide (0 < j) = false := decide_eq_false (by omega)
          have HCD := Lib.hid (show candI (lastK U j) x = y by rw [hjz]; unfold candI; rw [hy]; exact Bool.and_true y)
          have HC := Lib.hid (show CellL wr [(⟨b, o + k * 7, none⟩, .string K), (⟨b, o + k * 7 + 1, none⟩, .int .i64 r), (⟨b, o + k * 7 + 2, none⟩, .int .i64 cc), (⟨b, o + k * 7 + 3, none⟩, .int .i64 rk), (⟨b, o + k * 7 + 4, none⟩, .int .i64 pp), (⟨b, o + k * 7 + 5, none⟩, .bool dd), (⟨b, o + k * 7 + 6, none⟩, .string BB)] wr from ⟨p0, p1, p2, p3, p4, p5, p6, Below.refl _ _⟩)
          clear hjz hy p0 p1 p2 p3 p4 p5 p6
          cases y with
          | false =>
            have HSK := Lib.hid (HLA.out.skip HX.out HCD.out)
            clear hcell
            go_wp2_with fail
            refine q_region (CellL wr [(⟨b, o + k * 7, none⟩, .string K), (⟨b, o + k * 7 + 1, none⟩, .int .i64 r), (⟨b, o + k * 7 + 2, none⟩, .int .i64 cc), (⟨b, o + k * 7 + 3, none⟩, .int .i64 rk), (⟨b, o + k * 7 + 4, none⟩, .int .i64 pp), (⟨b, o + k * 7 + 5, none⟩, .bool dd), (⟨b, o + k * 7 + 6, none⟩, .string BB)]) (by kernel_rfl) (by kernel_rfl) (cellL_drew HC.out) ?_
            repeat (first
              | go_big_quiet_skip
              | (go_big_quiet_want; (first
                | (refine q_take (v := ?_) ?_ ?_; rotate_left; (focus (intro w hSw; (try simp only [CellL] at hSw); go_split_ands; go_simp; (try (rw [if_neg (by omega)])); (try with_reducible rfl); done)))
                | (refine q_call (CS.out _) ?_ ?_; (focus (intro w hSw; (try simp only [CellL] at hSw); go_split_ands; go_simp; (try (rw [if_neg (by omega)])); done)))); (try simp only [Act.put, List.setIfInBounds_toArray, List.set_cons_zero, List.set_cons_succ]); go_big_quiet_on))
            refine wpQuiet_nil ?_
            intro w2 hww2
            have hbw := cellL_size hww2
            have HO2 := Lib.hid (HO.out.below hbw)
            have HB2 := Lib.hid (HW.out.trans (hbw.mono HW.out.size))
            have t0 := ((bcell hbw).1 _ _ (World.block_lt_of_cell? _ _ P0.out)).trans P0.out
            clear hww2 t0
            go_wp2_with fail
            go_roundw
            case rel => exact ⟨k + 1, z, by omega, rfl, by go_num, HSK, HO2, HB2⟩
            case measure => simp [intOf]; omega
          | true =>
            rcases HLA.out with ⟨h1, h2⟩ | ⟨q, xb, h1, h2, h3, h4, h5⟩
            · subst h1
              have HS := Lib.hid (LeastAt.first h2 HX.out HCD.out)
              clear h2 hcell
              go_wp2_with fail
              refine q_region (CellL wr [(⟨b, o + k * 7, none⟩, .string K), (⟨b, o + k * 7 + 1, none⟩, .int .i64 r), (⟨b, o + k * 7 + 2, none⟩, .int .i64 cc), (⟨b, o + k * 7 + 3, none⟩, .int .i64 rk), (⟨b, o + k * 7 + 4, none⟩, .int .i64 pp), (⟨b, o + k * 7 + 5, none⟩, .bool dd), (⟨b, o + k * 7 + 6, none⟩, .string BB)]) (by kernel_rfl) (by kernel_rfl) (cellL_drew HC.out) ?_
              repeat (first
                | go_big_quiet_skip
                | (go_big_quiet_want; (first
                  | (refine q_take (v := ?_) ?_ ?_; rotate_left; (focus (intro w hSw; (try simp only [CellL] at hSw); go_split_ands; go_simp; (try (rw [if_neg (by omega)])); (try with_reducible rfl); done)))
                  | (refine q_call (CS.out _) ?_ ?_; (focus (intro w hSw; (try simp only [CellL] at hSw); go_split_ands; go_simp; (try (rw [if_neg (by omega)])); done)))); (try simp only [Act.put, List.setIfInBounds_toArray, List.set_cons_zero, List.set_cons_succ]); go_big_quiet_on))
              refine wpQuiet_nil ?_
              intro w2 hww2
              have hbw := cellL_size hww2
              have HO2 := Lib.hid (HO.out.below hbw)
              have HB2 := Lib.hid (HW.out.trans (hbw.mono HW.out.size))
              have t0 := ((bcell hbw).1 _ _ (World.block_lt_of_cell? _ _ P0.out)).trans P0.out
              clear hww2
              go_wp2_with fail
              have HC8 := Lib.hid (show CellL w2 [] w2 from Below.refl _ _)
              refine q_region (CellL w2 []) (by kernel_rfl) (by kernel_rfl) (cellL_drew HC8.out) ?_
              repeat (first
                | go_big_quiet_skip
                | (go_big_quiet_want; (first
                  | (refine q_take (v := ?_) ?_ ?_; rotate_left; (focus (intro w hSw; (try simp only [CellL] at hSw); go_split_ands; go_simp; (try (rw [if_neg (by omega)])); (try with_reducible rfl); done)))); (try simp only [Act.put, List.setIfInBounds_toArray, List.set_cons_zero, List.set_cons_succ]); go_big_quiet_on))
              refine wpQuiet_nil ?_
              intro w3 hww3
              have hb3 := cellL_size hww3
              have HO3 := Lib.hid (HO2.out.below hb3)
              have HB3 := Lib.hid (HB2.out.trans (hb3.mono HB2.out.size))
              clear hww3 hb3
              go_wp2_with fail
              go_roundw
              case rel => exact ⟨k + 1, (k : Int), by omega, rfl, by go_num, HS, HO3, HB3⟩
              case measure => simp [intOf]; omega
            · subst h1
              obtain ⟨q0, -⟩ := hcell q xb h3
              obtain ⟨T8, hT8⟩ : ∃ T, str xb.key = T := ⟨_, rfl⟩
              rw [hT8] at q0
              obtain ⟨t, ht⟩ : ∃ t, ltB x.key xb.key = t := ⟨_, rfl⟩
              have CB := fun (w1 : World) => Lib.hid (fun (L : List (Addr × Value)) => fun (W : World) (hC : CellL w1 L W) => (ref_less x.key xb.key (by omega) W).mono fun (e' : Ending) (W' : World) ⟨h1, _, h2⟩ => (⟨h1.trans (by rw [ht]), cellL_call (h2 ▸ below_drewN (Below.refl _ _) _) hC⟩ : e' = Ending.returned (.bool t) ∧ CellL w1 L W'))
              rw [hI.key, hT8] at CB
              have HS := Lib.hid (show t = true → LeastAt (lastK U (j)) l (k + 1) (k : Int) from fun e => LeastAt.next h5 HX.out HCD.out (ht.trans e))
              have HS2 := Lib.hid (show t = false → LeastAt (lastK U (j)) l (k + 1) (q : Int) from fun e => LeastAt.stay h5 h2 h3 h4 HX.out (ht.trans e))
              have hq0 : (0 : Int) ≤ (q : Int) := by omega
              have hqn : (q : Int) < (n : Int) := by omega
              have hqd : decide ((q : Int) < 0) = false := decide_eq_false (by omega)
              have Q0 := Lib.hid q0
              clear h2 h3 h4 h5 hcell ht q0
              go_wp2_with fail
              refine q_region (CellL wr [(⟨b, o + k * 7, none⟩, .string K), (⟨b, o + k * 7 + 1, none⟩, .int .i64 r), (⟨b, o + k * 7 + 2, none⟩, .int .i64 cc), (⟨b, o + k * 7 + 3, none⟩, .int .i64 rk), (⟨b, o + k * 7 + 4, none⟩, .int .i64 pp), (⟨b, o + k * 7 + 5, none⟩, .bool dd), (⟨b, o + k * 7 + 6, none⟩, .string BB)]) (by kernel_rfl) (by kernel_rfl) (cellL_drew HC.out) ?_
              repeat (first
                | go_big_quiet_skip
                | (go_big_quiet_want; (first
                  | (refine q_take (v := ?_) ?_ ?_; rotate_left; (focus (intro w hSw; (try simp only [CellL] at hSw); go_split_ands; go_simp; (try (rw [if_neg (by omega)])); (try with_reducible rfl); done)))
                  | (refine q_call (CS.out _) ?_ ?_; (focus (intro w hSw; (try simp only [CellL] at hSw); go_split_ands; go_simp; (try (rw [if_neg (by omega)])); done)))); (try simp only [Act.put, List.setIfInBounds_toArray, List.set_cons_zero, List.set_cons_succ]); go_big_quiet_on))
              refine wpQuiet_nil ?_
              intro w2 hww2
              have hbw := cellL_size hww2
              have HO2 := Lib.hid (HO.out.below hbw)
              have HB2 := Lib.hid (HW.out.trans (hbw.mono HW.out.size))
              have t0 := ((bcell hbw).1 _ _ (World.block_lt_of_cell? _ _ P0.out)).trans P0.out
              have u0 := ((bcell hbw).1 _ _ (World.block_lt_of_cell? _ _ Q0.out)).trans Q0.out
              clear hww2
              go_wp2_with fail
              have HC8 := Lib.hid (show CellL w2 [(⟨b, o + k * 7, none⟩, .string K), (⟨b, o + q * 7, none⟩, .string T8)] w2 from ⟨t0, u0, Below.refl _ _⟩)
              have CB1 := CB w2
              clear CB u0
              cases t
              all_goals
                refine q_region (CellL w2 [(⟨b, o + k * 7, none⟩, .string K), (⟨b, o + q * 7, none⟩, .string T8)]) (by kernel_rfl) (by kernel_rfl) (cellL_drew HC8.out) ?_
                repeat (first
                  | go_big_quiet_skip
                  | (go_big_quiet_want; (first
                    | (refine q_take (v := ?_) ?_ ?_; rotate_left; (focus (intro w hSw; (try simp only [CellL] at hSw); go_split_ands; go_simp; (try (rw [if_neg (by omega)])); (try with_reducible rfl); done)))
                    | (refine q_call (CB1.out _) ?_ ?_; (focus (intro w hSw; (try simp only [CellL] at hSw); go_split_ands; go_simp; (try (rw [if_neg (by omega)])); done)))); (try simp only [Act.put, List.setIfInBounds_toArray, List.set_cons_zero, List.set_cons_succ]); go_big_quiet_on))
                refine wpQuiet_nil ?_
                intro w3 hww3
                have hb3 := cellL_size hww3
                have HO3 := Lib.hid (HO2.out.below hb3)
                have HB3 := Lib.hid (HB2.out.trans (hb3.mono HB2.out.size))
                clear hww3 hb3
                go_wp2_with fail
                go_roundw
                case rel => first | exact ⟨k + 1, (k : Int), by omega, rfl, by go_num, HS.out (by first | rfl | trivial), HO3, HB3⟩ | exact ⟨k + 1, (q : Int), by omega, rfl, by go_num, HS2.out (by first | rfl | trivial), HO3, HB3⟩
                case measure => simp [intOf]; omega
        · obtain ⟨i9, hi9⟩ : ∃ q, j = q + 1 := ⟨j - 1, by omega⟩
          obtain ⟨m, hm⟩ : ∃ m, U[i9]? = some m := ⟨_, List.getElem?_eq_getElem (by have := HJ.out; omega)⟩
          have hlk : lastK U j = some m.key := by rw [hi9, lastK_succ, hm]; rfl
          have hmt : (U.take j)[i9]? = some m := by rw [List.getElem?_take, if_pos (by omega)]; exact hm
          obtain ⟨g9, o9, rfl, -, hc9⟩ := itms_at HO.out.rd (by rw [List.length_take]; have := HJ.out; omega)
          obtain ⟨s0, -⟩ := hc9 i9 m hmt
          obtain ⟨S9, hS9⟩ : ∃ S, str m.key = S := ⟨_, rfl⟩
          rw [hS9] at s0
          have hml := HK.out m (HMI.out m (List.mem_of_getElem? hm))
          obtain ⟨s, hs⟩ : ∃ s, ltB m.key x.key = s := ⟨_, rfl⟩
          have CLS := Lib.hid (fun (L : List (Addr × Value)) => fun (W : World) (hC : CellL wr L W) => (ref_less m.key x.key (by omega) W).mono fun (e' : Ending) (W' : World) ⟨h1, _, h2⟩ => (⟨h1.trans (by rw [hs]), cellL_call (h2 ▸ below_drewN (Below.refl _ _) _) hC⟩ : e' = Ending.returned (.bool s) ∧ CellL wr L W'))
          rw [hS9, hI.key] at CLS
          have HCD := Lib.hid (show candI (lastK U j) x = (y && s) by unfold candI; rw [hy, hlk]; exact congrArg (y && ·) hs)
          have HC := Lib.hid (show CellL wr [(⟨b, o + k * 7, none⟩, .string K), (⟨b, o + k * 7 + 1, none⟩, .int .i64 r), (⟨b, o + k * 7 + 2, none⟩, .int .i64 cc), (⟨b, o + k * 7 + 3, none⟩, .int .i64 rk), (⟨b, o + k * 7 + 4, none⟩, .int .i64 pp), (⟨b, o + k * 7 + 5, none⟩, .bool dd), (⟨b, o + k * 7 + 6, none⟩, .string BB), (⟨g9, o9 + i9 * 7, none⟩, .string S9)] wr from ⟨p0, p1, p2, p3, p4, p5, p6, s0, Below.refl _ _⟩)
          have hjg : decide ((0 : Int) < (j : Int)) = true := decide_eq_true (by omega)
          have hjg2 : decide ((j : Int) > 0) = true := hjg
          have hjg3 : decide (0 < j) = true := decide_eq_true (by omega)
          have hjw : IntKind.i64.wrap ((j : Int) - 1) = (i9 : Int) := by rw [show (j : Int) - 1 = (i9 : Int) by omega]; exact IntWalk.i64_in _ (by omega)
          have hjw2 : IntKind.i64.wrap (i9 : Int) = (i9 : Int) := IntWalk.i64_in _ (by omega)
          have hji : (0 : Int) ≤ (i9 : Int) := by omega
          have hjj : (i9 : Int) < (j : Int) := by omega
          have hjd0 : decide ((i9 : Int) < 0) = false := decide_eq_false (by omega)
          clear hi9 hjz hy hs hm hlk hmt hc9 s0 hS9 hml p0 p1 p2 p3 p4 p5 p6
          cases y with
          | false =>
            have HSK := Lib.hid (HLA.out.skip HX.out HCD.out)
            clear hcell
            go_wp2_with fail
            refine q_region (CellL wr [(⟨b, o + k * 7, none⟩, .string K), (⟨b, o + k * 7 + 1, none⟩, .int .i64 r), (⟨b, o + k * 7 + 2, none⟩, .int .i64 cc), (⟨b, o + k * 7 + 3, none⟩, .int .i64 rk), (⟨b, o + k * 7 + 4, none⟩, .int .i64 pp), (⟨b, o + k * 7 + 5, none⟩, .bool dd), (⟨b, o + k * 7 + 6, none⟩, .string BB), (⟨g9, o9 + i9 * 7, none⟩, .string S9)]) (by kernel_rfl) (by kernel_rfl) (cellL_drew HC.out) ?_
            repeat (first
              | go_big_quiet_skip
              | (go_big_quiet_want; (first
                | (refine q_take (v := ?_) ?_ ?_; rotate_left; (focus (intro w hSw; (try simp only [CellL] at hSw); go_split_ands; go_simp; (try (rw [if_neg (by omega)])); (try with_reducible rfl); done)))
                | (refine q_call (CS.out _) ?_ ?_; (focus (intro w hSw; (try simp only [CellL] at hSw); go_split_ands; go_simp; (try (rw [if_neg (by omega)])); done)))
                | (refine q_call (CLS.out _) ?_ ?_; (focus (intro w hSw; (try simp only [CellL] at hSw); go_split_ands; go_simp; (try (rw [if_neg (by omega)])); done)))); (try simp only [Act.put, List.setIfInBounds_toArray, List.set_cons_zero, List.set_cons_succ]); go_big_quiet_on))
            refine wpQuiet_nil ?_
            intro w2 hww2
            have hbw := cellL_size hww2
            have HO2 := Lib.hid (HO.out.below hbw)
            have HB2 := Lib.hid (HW.out.trans (hbw.mono HW.out.size))
            have t0 := ((bcell hbw).1 _ _ (World.block_lt_of_cell? _ _ P0.out)).trans P0.out
            clear hww2 t0
            go_wp2_with fail
            go_roundw
            case rel => exact ⟨k + 1, z, by omega, rfl, by go_num, HSK, HO2, HB2⟩
            case measure => simp [intOf]; omega
          | true =>
            cases s with
            | false =>
              have HSK := Lib.hid (HLA.out.skip HX.out HCD.out)
              clear hcell
              go_wp2_with fail
              refine q_region (CellL wr [(⟨b, o + k * 7, none⟩, .string K), (⟨b, o + k * 7 + 1, none⟩, .int .i64 r), (⟨b, o + k * 7 + 2, none⟩, .int .i64 cc), (⟨b, o + k * 7 + 3, none⟩, .int .i64 rk), (⟨b, o + k * 7 + 4, none⟩, .int .i64 pp), (⟨b, o + k * 7 + 5, none⟩, .bool dd), (⟨b, o + k * 7 + 6, none⟩, .string BB), (⟨g9, o9 + i9 * 7, none⟩, .string S9)]) (by kernel_rfl) (by kernel_rfl) (cellL_drew HC.out) ?_
              repeat (first
                | go_big_quiet_skip
                | (go_big_quiet_want; (first
                  | (refine q_take (v := ?_) ?_ ?_; rotate_left; (focus (intro w hSw; (try simp only [CellL] at hSw); go_split_ands; go_simp; (try (rw [if_neg (by omega)])); (try with_reducible rfl); done)))
                  | (refine q_call (CS.out _) ?_ ?_; (focus (intro w hSw; (try simp only [CellL] at hSw); go_split_ands; go_simp; (try (rw [if_neg (by omega)])); done)))
                  | (refine q_call (CLS.out _) ?_ ?_; (focus (intro w hSw; (try simp only [CellL] at hSw); go_split_ands; go_simp; (try (rw [if_neg (by omega)])); done)))); (try simp only [Act.put, List.setIfInBounds_toArray, List.set_cons_zero, List.set_cons_succ]); go_big_quiet_on))
              refine wpQuiet_nil ?_
              intro w2 hww2
              have hbw := cellL_size hww2
              have HO2 := Lib.hid (HO.out.below hbw)
              have HB2 := Lib.hid (HW.out.trans (hbw.mono HW.out.size))
              have t0 := ((bcell hbw).1 _ _ (World.block_lt_of_cell? _ _ P0.out)).trans P0.out
              clear hww2 t0
              go_wp2_with fail
              go_roundw
              case rel => exact ⟨k + 1, z, by omega, rfl, by go_num, HSK, HO2, HB2⟩
              case measure => simp [intOf]; omega
            | true =>
              rcases HLA.out with ⟨h1, h2⟩ | ⟨q, xb, h1, h2, h3, h4, h5⟩
              · subst h1
                have HS := Lib.hid (LeastAt.first h2 HX.out HCD.out)
                clear h2 hcell
                go_wp2_with fail
                refine q_region (CellL wr [(⟨b, o + k * 7, none⟩, .string K), (⟨b, o + k * 7 + 1, none⟩, .int .i64 r), (⟨b, o + k * 7 + 2, none⟩, .int .i64 cc), (⟨b, o + k * 7 + 3, none⟩, .int .i64 rk), (⟨b, o + k * 7 + 4, none⟩, .int .i64 pp), (⟨b, o + k * 7 + 5, none⟩, .bool dd), (⟨b, o + k * 7 + 6, none⟩, .string BB), (⟨g9, o9 + i9 * 7, none⟩, .string S9)]) (by kernel_rfl) (by kernel_rfl) (cellL_drew HC.out) ?_
                repeat (first
                  | go_big_quiet_skip
                  | (go_big_quiet_want; (first
                    | (refine q_take (v := ?_) ?_ ?_; rotate_left; (focus (intro w hSw; (try simp only [CellL] at hSw); go_split_ands; go_simp; (try (rw [if_neg (by omega)])); (try with_reducible rfl); done)))
                    | (refine q_call (CS.out _) ?_ ?_; (focus (intro w hSw; (try simp only [CellL] at hSw); go_split_ands; go_simp; (try (rw [if_neg (by omega)])); done)))
                    | (refine q_call (CLS.out _) ?_ ?_; (focus (intro w hSw; (try simp only [CellL] at hSw); go_split_ands; go_simp; (try (rw [if_neg (by omega)])); done)))); (try simp only [Act.put, List.setIfInBounds_toArray, List.set_cons_zero, List.set_cons_succ]); go_big_quiet_on))
                refine wpQuiet_nil ?_
                intro w2 hww2
                have hbw := cellL_size hww2
                have HO2 := Lib.hid (HO.out.below hbw)
                have HB2 := Lib.hid (HW.out.trans (hbw.mono HW.out.size))
                have t0 := ((bcell hbw).1 _ _ (World.block_lt_of_cell? _ _ P0.out)).trans P0.out
                clear hww2
                go_wp2_with fail
                have HC8 := Lib.hid (show CellL w2 [] w2 from Below.refl _ _)
                refine q_region (CellL w2 []) (by kernel_rfl) (by kernel_rfl) (cellL_drew HC8.out) ?_
                repeat (first
                  | go_big_quiet_skip
                  | (go_big_quiet_want; (first
                    | (refine q_take (v := ?_) ?_ ?_; rotate_left; (focus (intro w hSw; (try simp only [CellL] at hSw); go_split_ands; go_simp; (try (rw [if_neg (by omega)])); (try with_reducible rfl); done)))); (try simp only [Act.put, List.setIfInBounds_toArray, List.set_cons_zero, List.set_cons_succ]); go_big_quiet_on))
                refine wpQuiet_nil ?_
                intro w3 hww3
                have hb3 := cellL_size hww3
                have HO3 := Lib.hid (HO2.out.below hb3)
                have HB3 := Lib.hid (HB2.out.trans (hb3.mono HB2.out.size))
                clear hww3 hb3
                go_wp2_with fail
                go_roundw
                case rel => exact ⟨k + 1, (k : Int), by omega, rfl, by go_num, HS, HO3, HB3⟩
                case measure => simp [intOf]; omega
              · subst h1
                obtain ⟨q0, -⟩ := hcell q xb h3
                obtain ⟨T8, hT8⟩ : ∃ T, str xb.key = T := ⟨_, rfl⟩
                rw [hT8] at q0
                obtain ⟨t, ht⟩ : ∃ t, ltB x.key xb.key = t := ⟨_, rfl⟩
                have CB := fun (w1 : World) => Lib.hid (fun (L : List (Addr × Value)) => fun (W : World) (hC : CellL w1 L W) => (ref_less x.key xb.key (by omega) W).mono fun (e' : Ending) (W' : World) ⟨h1, _, h2⟩ => (⟨h1.trans (by rw [ht]), cellL_call (h2 ▸ below_drewN (Below.refl _ _) _) hC⟩ : e' = Ending.returned (.bool t) ∧ CellL w1 L W'))
                rw [hI.key, hT8] at CB
                have HS := Lib.hid (show t = true → LeastAt (lastK U (j)) l (k + 1) (k : Int) from fun e => LeastAt.next h5 HX.out HCD.out (ht.trans e))
                have HS2 := Lib.hid (show t = false → LeastAt (lastK U (j)) l (k + 1) (q : Int) from fun e => LeastAt.stay h5 h2 h3 h4 HX.out (ht.trans e))
                have hq0 : (0 : Int) ≤ (q : Int) := by omega
                have hqn : (q : Int) < (n : Int) := by omega
                have hqd : decide ((q : Int) < 0) = false := decide_eq_false (by omega)
                have Q0 := Lib.hid q0
                clear h2 h3 h4 h5 hcell ht q0
                go_wp2_with fail
                refine q_region (CellL wr [(⟨b, o + k * 7, none⟩, .string K), (⟨b, o + k * 7 + 1, none⟩, .int .i64 r), (⟨b, o + k * 7 + 2, none⟩, .int .i64 cc), (⟨b, o + k * 7 + 3, none⟩, .int .i64 rk), (⟨b, o + k * 7 + 4, none⟩, .int .i64 pp), (⟨b, o + k * 7 + 5, none⟩, .bool dd), (⟨b, o + k * 7 + 6, none⟩, .string BB), (⟨g9, o9 + i9 * 7, none⟩, .string S9)]) (by kernel_rfl) (by kernel_rfl) (cellL_drew HC.out) ?_
                repeat (first
                  | go_big_quiet_skip
                  | (go_big_quiet_want; (first
                    | (refine q_take (v := ?_) ?_ ?_; rotate_left; (focus (intro w hSw; (try simp only [CellL] at hSw); go_split_ands; go_simp; (try (rw [if_neg (by omega)])); (try with_reducible rfl); done)))
                    | (refine q_call (CS.out _) ?_ ?_; (focus (intro w hSw; (try simp only [CellL] at hSw); go_split_ands; go_simp; (try (rw [if_neg (by omega)])); done)))
                    | (refine q_call (CLS.out _) ?_ ?_; (focus (intro w hSw; (try simp only [CellL] at hSw); go_split_ands; go_simp; (try (rw [if_neg (by omega)])); done)))); (try simp only [Act.put, List.setIfInBounds_toArray, List.set_cons_zero, List.set_cons_succ]); go_big_quiet_on))
                refine wpQuiet_nil ?_
                intro w2 hww2
                have hbw := cellL_size hww2
                have HO2 := Lib.hid (HO.out.below hbw)
                have HB2 := Lib.hid (HW.out.trans (hbw.mono HW.out.size))
                have t0 := ((bcell hbw).1 _ _ (World.block_lt_of_cell? _ _ P0.out)).trans P0.out
                have u0 := ((bcell hbw).1 _ _ (World.block_lt_of_cell? _ _ Q0.out)).trans Q0.out
                clear hww2
                go_wp2_with fail
                have HC8 := Lib.hid (show CellL w2 [(⟨b, o + k * 7, none⟩, .string K), (⟨b, o + q * 7, none⟩, .string T8)] w2 from ⟨t0, u0, Below.refl _ _⟩)
                have CB1 := CB w2
                clear CB u0
                cases t
                all_goals
                  refine q_region (CellL w2 [(⟨b, o + k * 7, none⟩, .string K), (⟨b, o + q * 7, none⟩, .string T8)]) (by kernel_rfl) (by kernel_rfl) (cellL_drew HC8.out) ?_
                  repeat (first
                    | go_big_quiet_skip
                    | (go_big_quiet_want; (first
                      | (refine q_take (v := ?_) ?_ ?_; rotate_left; (focus (intro w hSw; (try simp only [CellL] at hSw); go_split_ands; go_simp; (try (rw [if_neg (by omega)])); (try with_reducible rfl); done)))
                      | (refine q_call (CB1.out _) ?_ ?_; (focus (intro w hSw; (try simp only [CellL] at hSw); go_split_ands; go_simp; (try (rw [if_neg (by omega)])); done)))); (try simp only [Act.put, List.setIfInBounds_toArray, List.set_cons_zero, List.set_cons_succ]); go_big_quiet_on))
                  refine wpQuiet_nil ?_
                  intro w3 hww3
                  have hb3 := cellL_size hww3
                  have HO3 := Lib.hid (HO2.out.below hb3)
                  have HB3 := Lib.hid (HB2.out.trans (hb3.mono HB2.out.size))
                  clear hww3 hb3
                  go_wp2_with fail
                  go_roundw
                  case rel => first | exact ⟨k + 1, (k : Int), by omega, rfl, by go_num, HS.out (by first | rfl | trivial), HO3, HB3⟩ | exact ⟨k + 1, (q : Int), by omega, rfl, by go_num, HS2.out (by first | rfl | trivial), HO3, HB3⟩
                  case measure => simp [intOf]; omega
      · obtain rfl : k = n := by omega
        have hln : l.take k = l := List.take_of_length_le (by have := HN.out; omega)
        have HLA2 := HLA.out
        unfold LeastAt at HLA2
        rw [hln] at HLA2
        clear HLA hln
        rcases HLA2 with ⟨h1, h2⟩ | ⟨q, x, h1, h2, h3, h4, h5⟩
        · subst h1
          have hend := merge_end (l := l) (j := j) (by rw [HU.out]; exact h2)
          rw [HU.out] at hend
          have hjN : j = N := by
            have := congrArg List.length hend
            rw [List.length_take] at this
            have := HNN.out
            have := HJ.out
            omega
          rw [hend] at HO
          clear h2 hend
          subst hjN
          go_wp2_with fail
          go_ret
          exact ⟨A9, c9, rfl, HO.out, HW.out⟩
        · subst h1
          have hxm := List.mem_of_getElem? h3
          obtain ⟨m, hm1, hm2⟩ := merge_next (l := l) (j := j) hxm (by rw [HU.out]; exact h4) (by rw [HU.out]; exact h5) (by rw [HU.out]; exact HJ.out)
          rw [HU.out] at hm1
          obtain ⟨b, o, rfl, hb1, hcell⟩ := itms_at (HR.out.below HW.out) (by have := HN.out; omega)
          obtain ⟨p0, -⟩ := hcell q x h3
          obtain ⟨K, hK⟩ : ∃ K, str x.key = K := ⟨_, rfl⟩
          rw [hK] at p0
          have C1 := Lib.hid (ref_ibest (some ⟨b, o, none⟩) c k l x.key K hK false HN.out wr ((HR.out.below HW.out).more HW.out.size))
          have HB := Lib.hid (fun (z : Int) (hba : BestAt (pickI false x.key) l k z) => best_is hba HN.out hm2)
          have HUJ := Lib.hid (show U.take (j + 1) = U.take j ++ [m] by rw [List.take_add_one, hm1]; rfl)
          obtain ⟨K', r, cc, rk, pp, dd, BB, hI⟩ : ∃ K r c k p d B, IsI m K r c k p d B := ⟨_, _, _, _, _, _, _, IsI.mk' m⟩
          have HI := Lib.hid hI
          have HRW := fun w => Lib.hid (itm_row w m K' r cc rk pp dd BB hI)
          have HLE := Lib.hid (show (U.take j).length + [m].length ≤ 1000000 by
            have h1 := HML.out
            have h2 := hn9h.out
            rw [List.length_take, List.length_singleton]; omega)
          have HNJ := Lib.hid (show (U.take j ++ [m]).length = j + 1 by rw [List.length_append, List.length_take, List.length_singleton]; have := (List.getElem?_eq_some_iff.1 hm1).1; omega)
          have HJ1 := Lib.hid (show j + 1 ≤ U.length from (List.getElem?_eq_some_iff.1 hm1).1)
          have hq0 : (0 : Int) ≤ (q : Int) := by omega
          have hqn : (q : Int) < (k : Int) := by omega
          have hqd : decide ((q : Int) < 0) = false := decide_eq_false (by omega)
          clear h2 h3 h4 h5 hxm hm1 hm2 hcell hK hI
          go_wp2_with (first
            | ((with_reducible refine C1.out.mono ?_); rintro e w1 ⟨zb, rfl, hba, hq⟩; obtain ⟨jb, rfl, hjb, hgb⟩ := HB.out zb hba; have hz0 : (0 : Int) ≤ (jb : Int) := Int.natCast_nonneg jb; have hzn : (jb : Int) < (k : Int) := Int.ofNat_lt.2 hjb; replace HO := Lib.hid (HO.out.below hq); replace HW := Lib.hid (HW.out.trans (hq.mono HW.out.size)); obtain ⟨b2, o2, hA2, hb2, hcell2⟩ := itms_at (HR.out.below HW.out) (by have := HN.out; omega); injection hA2 with hA2; injection hA2 with hA2b hA2o; subst hA2b hA2o; obtain ⟨s0, s1, s2, s3, s4, s5, s6⟩ := hcell2 jb m hgb; rw [HI.out.key] at s0; rw [HI.out.rep] at s1; rw [HI.out.cnt] at s2; rw [HI.out.rank] at s3; rw [HI.out.prio] at s4; rw [HI.out.dead] at s5; rw [HI.out.body] at s6; clear hq hba hgb hcell2 hb2 hjb)
            | (at_builtin; refine wpList_app_k kItm rfl (.tmp 63) (.tmp 74) rfl w.heap.size _ _ rfl (Kind.Own.alloc HO.out _) _ (some ⟨w1.heap.size, 0, none⟩) 1 1 [m] rfl rfl (HRW w1).out HLE.out (by decide) (it_alloc HW.out.size _) ?_; intro v3 w3 hown3 hg3 hb3 _; obtain ⟨A4, c4, rfl, -⟩ := hown3.read_n HNJ.out.symm; have HO3 := Lib.hid hown3; have HW3 := Lib.hid ((HW.out.alloc HW.out.size _).trans hb3); clear hown3 hb3 hg3))
          go_roundw
          case rel => exact ⟨j + 1, c4, A4, HJ1.out, rfl, (by rw [HUJ.out]; exact HO3.out), HW3⟩
          case measure => simp [lenV]; omega
end Go.Proofs.Ytfjaklpddcafdaa

namespace Go.Proofs.Ytfjaklpddcafdaa
open Go.RowKit

def SmallI (n : Nat) (l : List Itm) : Prop := l.length ≤ n ∧ ∀ x ∈ l, x.key.length ≤ 1000 ∧ x.body.length ≤ 1000
theorem SmallI.mono {n m : Nat} {l : List Itm} (h : SmallI n l) (hm : n ≤ m) : SmallI m l := ⟨Nat.le_trans h.1 hm, h.2⟩
theorem SmallI.append {n m : Nat} {a b : List Itm} (ha : SmallI n a) (hb : SmallI m b) : SmallI (n + m) (a ++ b) :=
  ⟨by have h1 := ha.1; have h2 := hb.1; rw [List.length_append]; omega, fun x hx => (List.mem_append.1 hx).elim (ha.2 x) (hb.2 x)⟩
theorem SmallI.merge {n : Nat} {l : List Itm} (h : SmallI n l) : SmallI n (mergeI l) := ⟨Nat.le_trans (mergeI_len l) h.1, fun x hx => h.2 x (mergeI_mem hx).1⟩
theorem SmallI.long {m : Nat} {l : List Itm} (h : longI m l = false) : SmallI m l := ⟨(longI_no h).1, fun x hx => by have := (longI_no h).2 x hx; omega⟩
theorem SmallI.keys {n : Nat} {l : List Itm} (h : SmallI n l) : ∀ x ∈ l, x.key.length ≤ 1000000 := fun x hx => by have := h.2 x hx; omega
def RetIt (w : World) (N : Nat) (l : List Itm) (e : Ending) (w' : World) : Prop := ∃ A c, e = .returned (.slice A N c) ∧ kItm.Rd w' w'.heap.size A c l ∧ Below w.heap.size w w'
theorem RetIm.to {w w' : World} {N : Nat} {l : List Itm} {e : Ending} (h : RetIm w N l e w') : RetIt w N l e w' := by
  obtain ⟨A, c, h1, h2, h3⟩ := h
  exact ⟨A, c, h1, h2.rd, h3⟩
theorem RetIt.under {w : World} {o : Obj} {N : Nat} {U : List Itm} {e : Ending} {w' : World} (h : RetIt (w.alloc o) N U e w') : RetIt w N U e w' := by
  obtain ⟨A, c, h1, h2, h3⟩ := h
  exact ⟨A, c, h1, h2, (below_new w o).trans (h3.mono (by simp))⟩
structure SlI where
  A : Option Addr
  n : Nat
  c : Nat
noncomputable def kSlI : Kind Try.prog SlI where
  ty := 57
  el := 22
  size := 1
  bytes := 24
  zero := .slice none 0 0
  cells := fun s => [.slice s.A s.n s.c]
  len := fun _ => rfl
  one := fun s u hu => by simp at hu; subst hu; rfl
  pos := by decide
  under := Try.underlying57
  info := by kernel_rfl
  zsize := rfl
def RdLI (w : World) (B : Nat) (A : Option Addr) (c : Nat) (ls : List (List Itm)) : Prop := ∃ sl : List SlI, kSlI.Rd w B A c sl ∧ sl.length = ls.length ∧ ∀ (i : Nat) (s : SlI) (l : List Itm), sl[i]? = some s → ls[i]? = some l → s.n = l.length ∧ kItm.Rd w B s.A s.c l
theorem RdLI.call {w w' : World} {A : Option Addr} {c : Nat} {ls : List (List Itm)} (h : RdLI w w.heap.size A c ls) (hb : Below w.heap.size w w') : RdLI w' w'.heap.size A c ls := by
  obtain ⟨sl, h1, h2, h3⟩ := h
  exact ⟨sl, h1.call hb, h2, fun i s l hs hl => ⟨(h3 i s l hs hl).1, (h3 i s l hs hl).2.call hb⟩⟩
theorem rdLI_row {w : World} {cs : Array Value} {sl : List SlI} {ls : List (List Itm)} {n : Nat} (hcs : cs.toList = kSlI.row sl) (hn : n = sl.length) (hm : sl.length ≤ 1000) (hl : sl.length = ls.length) (h : ∀ (i : Nat) (s : SlI) (l : List Itm), sl[i]? = some s → ls[i]? = some l → s.n = l.length ∧ kItm.Rd w w.heap.size s.A s.c l) :
    RdLI (w.alloc (.cells cs 22)) (w.alloc (.cells cs 22)).heap.size (some ⟨w.heap.size, 0, none⟩) n ls :=
  ⟨sl, by rw [size1]; exact Kind.rd_new (k := kSlI) (t := 22) hcs hn (by omega), hl, fun i s l h1 h2 => ⟨(h i s l h1 h2).1, (h i s l h1 h2).2.call (below_new w _)⟩⟩
theorem rdLI_two {w : World} {A B : Option Addr} {c d n m : Nat} {a b : List Itm} (hn : n = a.length) (hm : m = b.length) (ha : kItm.Rd w w.heap.size A c a) (hb : kItm.Rd w w.heap.size B d b) :
    RdLI (w.alloc (.cells #[.slice A n c, .slice B m d] 22)) (w.alloc (.cells #[.slice A n c, .slice B m d] 22)).heap.size (some ⟨w.heap.size, 0, none⟩) 2 [a, b] :=
  rdLI_row (sl := [⟨A, n, c⟩, ⟨B, m, d⟩]) rfl rfl (by simp) rfl fun i s k h1 h2 => by
    match i with
    | 0 => injection h1 with h1; injection h2 with h2; subst h1 h2; exact ⟨hn, ha⟩
    | 1 => injection h1 with h1; injection h2 with h2; subst h1 h2; exact ⟨hm, hb⟩
    | i + 2 => cases h1
theorem rdLI_three {w : World} {A B C : Option Addr} {c d e n m q : Nat} {a b l : List Itm} (hn : n = a.length) (hm : m = b.length) (hq : q = l.length) (ha : kItm.Rd w w.heap.size A c a) (hb : kItm.Rd w w.heap.size B d b) (hl : kItm.Rd w w.heap.size C e l) :
    RdLI (w.alloc (.cells #[.slice A n c, .slice B m d, .slice C q e] 22)) (w.alloc (.cells #[.slice A n c, .slice B m d, .slice C q e] 22)).heap.size (some ⟨w.heap.size, 0, none⟩) 3 [a, b, l] :=
  rdLI_row (sl := [⟨A, n, c⟩, ⟨B, m, d⟩, ⟨C, q, e⟩]) rfl rfl (by simp) rfl fun i s k h1 h2 => by
    match i with
    | 0 => injection h1 with h1; injection h2 with h2; subst h1 h2; exact ⟨hn, ha⟩
    | 1 => injection h1 with h1; injection h2 with h2; subst h1 h2; exact ⟨hm, hb⟩
    | 2 => injection h1 with h1; injection h2 with h2; subst h1 h2; exact ⟨hq, hl⟩
    | i + 3 => cases h1
theorem rdLI_four {w : World} {A B C D : Option Addr} {c d e f n m q r : Nat} {a b l k : List Itm} (hn : n = a.length) (hm : m = b.length) (hq : q = l.length) (hr : r = k.length) (ha : kItm.Rd w w.heap.size A c a) (hb : kItm.Rd w w.heap.size B d b) (hl : kItm.Rd w w.heap.size C e l) (hk : kItm.Rd w w.heap.size D f k) :
    RdLI (w.alloc (.cells #[.slice A n c, .slice B m d, .slice C q e, .slice D r f] 22)) (w.alloc (.cells #[.slice A n c, .slice B m d, .slice C q e, .slice D r f] 22)).heap.size (some ⟨w.heap.size, 0, none⟩) 4 [a, b, l, k] :=
  rdLI_row (sl := [⟨A, n, c⟩, ⟨B, m, d⟩, ⟨C, q, e⟩, ⟨D, r, f⟩]) rfl rfl (by simp) rfl fun i s x h1 h2 => by
    match i with
    | 0 => injection h1 with h1; injection h2 with h2; subst h1 h2; exact ⟨hn, ha⟩
    | 1 => injection h1 with h1; injection h2 with h2; subst h1 h2; exact ⟨hm, hb⟩
    | 2 => injection h1 with h1; injection h2 with h2; subst h1 h2; exact ⟨hq, hl⟩
    | 3 => injection h1 with h1; injection h2 with h2; subst h1 h2; exact ⟨hr, hk⟩
    | i + 4 => cases h1
theorem itm_two (w : World) (x y : Obj) : Below w.heap.size w ((w.alloc x).alloc y) := (below_new w x).trans ((below_new _ y).mono (by simp))
def IRightC (F : FuncId) : Prop := ∀ (x : Itm) (K : ByteArray) (r c k p : Int) (d : Bool) (B : ByteArray), IsI x K r c k p d B → x.key.length ≤ 1000 → x.body.length ≤ 1000 → ∀ v, rightI x = v → ∀ w, Calls Try.prog F #[itV K r c k p d B] w fun e w' => e = .returned (.bool v) ∧ Below w.heap.size w w'
def ICmpC (F : FuncId) : Prop := ∀ (x y : Itm) (K : ByteArray) (r c k p : Int) (d : Bool) (B : ByteArray), IsI x K r c k p d B → ∀ (K' : ByteArray) (r' c' k' p' : Int) (d' : Bool) (B' : ByteArray), IsI y K' r' c' k' p' d' B' → ∀ v, cmpIm x y = v → ∀ w, Calls Try.prog F #[itV K r c k p d B, itV K' r' c' k' p' d' B'] w fun e w' => e = .returned (.int .i64 v) ∧ Below w.heap.size w w'
def IWinsC (F : FuncId) : Prop := ∀ (A : Option Addr) (c n : Nat) (l : List Itm), n = l.length → SmallI 1000 l →
  (∀ x, bestF rightI l = some x → ∀ (K : ByteArray) (r c' k p : Int) (d : Bool) (B : ByteArray), IsI x K r c' k p d B → ∀ w, kItm.Rd w w.heap.size A c l → Calls Try.prog F #[.slice A n c] w fun e w' => e = .returned (.tuple #[itV K r c' k p d B, .bool true]) ∧ Below w.heap.size w w') ∧
  (bestF rightI l = none → ∀ w, kItm.Rd w w.heap.size A c l → Calls Try.prog F #[.slice A n c] w fun e w' => e = .returned (.tuple #[itV ⟨#[]⟩ 0 0 0 0 false ⟨#[]⟩, .bool false]) ∧ Below w.heap.size w w')
def IListC (F : FuncId) : Prop := ∀ (A : Option Addr) (c n : Nat) (l : List Itm), n = l.length → SmallI 1000 l → ∀ v, listI l = v → ∀ w, kItm.Rd w w.heap.size A c l → Calls Try.prog F #[.slice A n c] w fun e w' => e = .returned (.bool v) ∧ Below w.heap.size w w'
def placeI (l : List Itm) (k : List UInt8) : Nat := (l.takeWhile fun x => ltB x.key k).length
def hereI (l : List Itm) (k : List UInt8) : Bool := match l[placeI l k]? with
  | some x => decide (x.key = k)
  | none => false
def IFindC (F : FuncId) : Prop := ∀ (A : Option Addr) (c n : Nat) (l : List Itm) (s : List UInt8) (U : ByteArray), n = l.length → SmallI 1000 l → str s = U → s.length ≤ 1000 →
  (listI l = true → ∀ a, placeI l s = a → ∀ o, hereI l s = o → ∀ w, kItm.Rd w w.heap.size A c l → Calls Try.prog F #[.slice A n c, .string U] w fun e w' => e = .returned (.tuple #[.int .i64 a, .bool o]) ∧ Below w.heap.size w w') ∧
  (listI l = false → ∀ w, kItm.Rd w w.heap.size A c l → Calls Try.prog F #[.slice A n c, .string U] w fun e w' => e = .returned (.tuple #[.int .i64 0, .bool false]) ∧ Below w.heap.size w w')
def IMergeC (F : FuncId) : Prop := ∀ (A : Option Addr) (c n : Nat) (ls : List (List Itm)), n = ls.length → n ≤ 4 → SmallI 1000 ls.flatten → ∀ U, mergeI ls.flatten = U → ∀ N, N = U.length → ∀ w, RdLI w w.heap.size A c ls → Calls Try.prog F #[.slice A n c] w (RetIt w N U)
def IInC (F : FuncId) : Prop := ∀ (A D : Option Addr) (c e n q : Nat) (l : List Itm) (rs : List Rng), n = l.length → q = rs.length → SmallI 1000 l → SmallL 60 rs → ∀ U, inI l (hasL rs) = U → ∀ N, N = U.length → ∀ w, kItm.Rd w w.heap.size A c l → kRng.Rd w w.heap.size D e rs → Calls Try.prog F #[.slice A n c, .slice D q e] w (RetIt w N U)
def awI1 : Itm := ⟨[107], ⟨1, 1⟩, 3, 0, false, []⟩
def awI2 : Itm := ⟨[107], ⟨5, 9⟩, 2, 0, false, [98]⟩
theorem awI1_is : IsI awI1 ⟨#[107]⟩ 1 1 3 0 false ⟨#[]⟩ := ⟨rfl, rfl, rfl, rfl, rfl, rfl, rfl⟩
theorem awI2_is : IsI awI2 ⟨#[107]⟩ 5 9 2 0 false ⟨#[98]⟩ := ⟨rfl, rfl, rfl, rfl, rfl, rfl, rfl⟩
abbrev awO1 : Obj := itO ⟨#[107]⟩ 1 1 3 0 false ⟨#[]⟩
abbrev awO2 : Obj := itO ⟨#[107]⟩ 5 9 2 0 false ⟨#[98]⟩
theorem aw_small {n : Nat} {l : List Itm} (hl : l.length ≤ n) (h : ∀ x ∈ l, x = awI1 ∨ x = awI2) : SmallI n l := ⟨hl, fun x hx => by
  rcases h x hx with rfl | rfl
  · exact ⟨by decide, by decide⟩
  · exact ⟨by decide, by decide⟩⟩
theorem aw_wins (HWI : IWinsC 13) (w : World) : Calls Try.prog 13 #[.slice (some ⟨w.heap.size, 0, none⟩) 2 2] (w.alloc (.cells #[.string ⟨#[107]⟩, .int .i64 5, .int .i64 9, .int .i64 2, .int .i64 0, .bool false, .string ⟨#[98]⟩, .string ⟨#[107]⟩, .int .i64 1, .int .i64 1, .int .i64 3, .int .i64 0, .bool false, .string ⟨#[]⟩] 26))
    fun e w' => e = .returned (.tuple #[itV ⟨#[107]⟩ 1 1 3 0 false ⟨#[]⟩, .bool true]) ∧ Below w.heap.size w w' :=
  ((HWI (some ⟨w.heap.size, 0, none⟩) 2 2 [awI2, awI1] rfl (aw_small (by simp) (by simp))).1 awI1 (by kernel_rfl) _ _ _ _ _ _ _ awI1_is _ (by rw [size1]; exact Kind.rd_new (k := kItm) (l := [awI2, awI1]) rfl rfl (by simp))).mono
    fun e w' ⟨h1, h2⟩ => ⟨h1, (below_new w _).trans (h2.mono (by simp))⟩
theorem aw_merge (HME : IMergeC 20) (w : World) : Calls Try.prog 20 #[.slice (some ⟨w.heap.size + 1 + 1, 0, none⟩) 2 2] (((w.alloc awO1).alloc awO2).alloc (.cells #[.slice (some ⟨w.heap.size, 0, none⟩) 1 1, .slice (some ⟨w.heap.size + 1, 0, none⟩) 1 1] 22))
    fun e w' => ∃ A c, e = .returned (.slice A 1 c) ∧ Below w.heap.size w w' := by
  have h1 : kItm.Rd (w.alloc awO1) (w.alloc awO1).heap.size (some ⟨w.heap.size, 0, none⟩) 1 [awI1] := by rw [size1]; exact Kind.rd_new (k := kItm) (l := [awI1]) rfl rfl (by simp)
  have h2 : kItm.Rd ((w.alloc awO1).alloc awO2) ((w.alloc awO1).alloc awO2).heap.size (some ⟨w.heap.size + 1, 0, none⟩) 1 [awI2] := by
    have := Kind.rd_new (k := kItm) (w := w.alloc awO1) (cs := #[.string ⟨#[107]⟩, .int .i64 5, .int .i64 9, .int .i64 2, .int .i64 0, .bool false, .string ⟨#[98]⟩]) (t := 26) (l := [awI2]) (n := 1) rfl rfl (by simp)
    rw [size1] at this
    rw [size1, size1]; exact this
  have h3 := rdLI_two (c := 1) (d := 1) rfl rfl (h1.call (below_new _ awO2)) h2
  rw [size1 (w.alloc awO1), size1 w] at h3
  have hb := (itm_two w awO1 awO2).alloc (by simp; omega) (.cells #[.slice (some ⟨w.heap.size, 0, none⟩) 1 1, .slice (some ⟨w.heap.size + 1, 0, none⟩) 1 1] 22)
  exact (HME _ 2 2 [[awI1], [awI2]] rfl (by omega) (aw_small (by simp) (by simp)) [awI1] (by kernel_rfl) 1 rfl _ h3).mono fun e w' ⟨A, c, e1, _, e3⟩ => ⟨A, c, e1, hb.trans (e3.mono hb.size)⟩
theorem ItAt.lives {w : World} {g : Nat} {K : ByteArray} {r c k p : Int} {d : Bool} {B : ByteArray} (h : ItAt w g K r c k p d B) : g < w.heap.size := World.block_lt_of_cell? w _ h.1
set_option maxRecDepth 100000 in
set_option maxHeartbeats 4000000 in
theorem awake18 (HRI : IRightC 10) (HCM : ICmpC 12) (HWI : IWinsC 13) (HME : IMergeC 20) (w : World) :
    Calls Try.prog 7 #[] w fun e w' => e = .returned (.bool true) ∧ Below w.heap.size w w' := by
  have C1 := aw_wins HWI ((w.alloc awO1).alloc awO2)
  rw [size1, size1] at C1
  replace C1 := Lib.hid C1
  have C2 := fun w => Lib.hid (HRI awI1 _ _ _ _ _ _ _ awI1_is (by decide) (by decide) true (by decide +kernel) w)
  have C3 := fun w => Lib.hid (HCM awI1 awI2 _ _ _ _ _ _ _ awI1_is _ _ _ _ _ _ _ awI2_is 1 (by decide +kernel) w)
  have C4 := fun w => Lib.hid (aw_merge HME w)
  have EQ := fun w => eq_itms awI1 awI1 _ _ _ _ _ _ _ awI1_is _ _ _ _ _ _ _ awI1_is true (eqI_iff.2 rfl) w
  have HW := Lib.hid (itm_two w awO1 awO2)
  have HA := Lib.hid ((itAt_new w ⟨#[107]⟩ 1 1 3 0 false ⟨#[]⟩).below (below_new _ awO2))
  have HB := Lib.hid (itAt_new (w.alloc awO1) ⟨#[107]⟩ 5 9 2 0 false ⟨#[98]⟩)
  rw [size1] at HB
  clear HRI HCM HWI HME
  go_enter Try.func7, Try.ntmps7
  go_wp2_with (first
    | ((with_reducible refine C1.out.mono ?_); rintro e w1 ⟨rfl, hq⟩; have HW1 := Lib.hid (HW.out.trans (hq.mono (by omega))); have HW2 := Lib.hid (HW1.out.alloc HW1.out.size awO1); replace hq : Below ((w.alloc awO1).alloc awO2).heap.size ((w.alloc awO1).alloc awO2) w1 := (by rw [size1, size1]; exact hq); have HA1 := Lib.hid ((HA.out.below hq).below (below_new w1 awO1)); have HB1 := Lib.hid ((HB.out.below hq).below (below_new w1 awO1)); clear hq; obtain ⟨p0, p1, p2, p3, p4, p5, p6⟩ := HA1.out)
    | ((with_reducible refine (C2 _).out.mono ?_); rintro e w3 ⟨rfl, hq⟩; have HW3 := Lib.hid (HW2.out.trans (hq.mono HW2.out.size)); have HA3 := Lib.hid (HA1.out.below hq); have HB3 := Lib.hid (HB1.out.below hq); clear hq; obtain ⟨a0, a1, a2, a3, a4, a5, a6⟩ := HA3.out; obtain ⟨b0, b1, b2, b3, b4, b5, b6⟩ := HB3.out)
    | ((with_reducible refine (C3 _).out.mono ?_); rintro e w4 ⟨rfl, hq⟩; have HW4 := Lib.hid (HW3.out.trans (hq.mono HW3.out.size)); have HA4 := Lib.hid (HA3.out.below hq); have HB4 := Lib.hid ((HB3.out.below hq).below (below_new w4 awO1)); clear hq; obtain ⟨c0, c1, c2, c3, c4, c5, c6⟩ := HA4.out; obtain ⟨d0, d1, d2, d3, d4, d5, d6⟩ := HB4.out)
    | ((with_reducible refine (C4 _).out.mono ?_); rintro e w5 ⟨A9, c9, rfl, hq⟩; have HW5 := Lib.hid (HW4.out.trans (hq.mono HW4.out.size)); clear hq))
  go_ret
  exact ⟨rfl, HW5.out⟩
end Go.Proofs.Ytfjaklpddcafdaa
