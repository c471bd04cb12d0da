/-
  Several texts in one: SpanA, SpanB, RgsA, RgsB, RgsC, KnwA, RgsD, RgsE, RgsF, KnwB, OpenPcs, VarPure.
-/
import Derived.Deep.RegionHeld3
import Derived.BigRegion
import Derived.Deep.QuietTactic
import Derived.BigQuiet
import Derived.IntWalk
import Derived.Lib.BitFns
import Derived.Test.YtopjhebhdopjpaaGreatMg5
namespace Go.Proofs.YtopjhebhdopjpaaGreat
open Go.RowKit

theorem edgeB_le {l : List UInt8} : edgeB l = decide (l.length ≤ 17) := rfl
theorem txt_empty {l : List UInt8} {S : ByteArray} (h : str l = S) : (S.toList == []) = l.isEmpty := by
  subst h; rw [str_toList]; cases l <;> rfl
theorem cmp_test (a b : List UInt8) : ∃ x : Int, Lib.compareBytes a b = x ∧ decide (x < 0) = ltB a b ∧ decide (0 ≤ x) = !ltB a b := by
  refine ⟨_, rfl, ?_, ?_⟩
  · rw [cmp_ltB]; cases ltB a b with
    | true => rfl
    | false => cases ltB b a <;> rfl
  · rw [cmp_ltB]; cases ltB a b with
    | true => rfl
    | false => cases ltB b a <;> rfl

theorem span_right (r : Rng) (S T : ByteArray) (o v : Bool) (h : IsR r S T o) (hv : rightR r = v) (w : World) :
    Calls Tryz.prog 58 #[.agg #[.string S, .string T, .bool o]] w fun e w' => e = .returned (.bool v) ∧ Below w.heap.size w w' := by
  obtain ⟨h1, h2, h3⟩ := h
  cases ho : o with
  | true =>
    subst ho
    rw [rightR_open h3] at hv
    obtain ⟨v1, e1⟩ : ∃ v1, edgeB r.lo = v1 := ⟨_, rfl⟩
    obtain ⟨v2, e2⟩ : ∃ v2, r.hi.isEmpty = v2 := ⟨_, rfl⟩
    have hT := (txt_empty h2).trans e2
    have E1 := fun w => Lib.hid (edge_is r.lo S h1 v1 e1 w)
    rw [← edgeB_le, e1, e2] at hv
    clear e1 e2 h1 h2 h3
    subst hv
    cases v1 <;> cases v2
    all_goals
      go_enter Tryz.func58, Tryz.ntmps58
      go_wp2_with ((with_reducible refine (E1 _).out.mono ?_); rintro e w' ⟨rfl, rfl⟩)
      go_ret
      exact ⟨rfl, (Below.refl _ _).alloc (Nat.le_refl _) _⟩
  | false =>
    subst ho
    rw [rightR_shut h3] at hv
    obtain ⟨v1, e1⟩ : ∃ v1, edgeB r.lo = v1 := ⟨_, rfl⟩
    obtain ⟨v2, e2⟩ : ∃ v2, edgeB r.hi = v2 := ⟨_, rfl⟩
    have E1 := fun w => Lib.hid (edge_is r.lo S h1 v1 e1 w)
    have E2 := fun w => Lib.hid (edge_is r.hi T h2 v2 e2 w)
    rw [← edgeB_le, ← edgeB_le, e1, e2] at hv
    clear e1 e2
    obtain ⟨x, hx, hx1, -⟩ := cmp_test r.lo r.hi
    have C := fun w => Lib.hid (cmp_is r.lo r.hi S T h1 h2 x hx w)
    rw [← hx1] at hv
    clear hx1 hx h1 h2 h3
    subst hv
    cases v1 <;> cases v2
    all_goals
      go_enter Tryz.func58, Tryz.ntmps58
      go_wp2_with (first | ((with_reducible refine (E1 _).out.mono ?_); rintro e w' ⟨rfl, rfl⟩) | ((with_reducible refine (E2 _).out.mono ?_); rintro e w' ⟨rfl, rfl⟩) | ((with_reducible refine (C _).out.mono ?_); rintro e w' ⟨rfl, rfl⟩))
      go_ret
      exact ⟨rfl, (Below.refl _ _).alloc (Nat.le_refl _) _⟩
theorem ref_rright (r : Rng) (S T : ByteArray) (o v : Bool) (h : IsR r S T o) (hv : rightR r = v) (w : World) :
    Calls Tryz.prog 22 #[.agg #[.string S, .string T, .bool o]] w fun e w' => e = .returned (.bool v) ∧ Below w.heap.size w w' := by
  obtain ⟨h1, h2, h3⟩ := h
  have hz1 : S.size = r.lo.length := by subst h1; exact str_size _
  have hz2 : T.size = r.hi.length := by subst h2; exact str_size _
  by_cases g1 : r.lo.length ≤ 17
  · by_cases g2 : r.hi.length ≤ 17
    · have k1 : S.size ≤ 17 := by omega
      have k2 : T.size ≤ 17 := by omega
      cases ho : o with
      | true =>
        subst ho
        obtain ⟨v2, e2⟩ : ∃ v2, r.hi.isEmpty = v2 := ⟨_, rfl⟩
        have hT := (txt_empty h2).trans e2
        rw [rightR_open h3, decide_eq_true g1, e2, Bool.true_and] at hv
        clear e2 h1 h2 h3 hz1 hz2
        subst hv
        go_enter Tryz.func22, Tryz.ntmps22
        go_wp2_with fail
        go_ret
        exact ⟨rfl, (Below.refl _ _).alloc (Nat.le_refl _) _⟩
      | false =>
        subst ho
        rw [rightR_shut h3, decide_eq_true g1, decide_eq_true g2, Bool.true_and, Bool.true_and] at hv
        have L := fun w => Lib.hid (less_is r.lo r.hi S T h1 h2 (by omega) v hv w)
        clear h1 h2 h3 hz1 hz2 hv
        go_enter Tryz.func22, Tryz.ntmps22
        go_wp2_with ((with_reducible refine (L _).out.mono ?_); rintro e w' ⟨rfl, hb⟩)
        go_ret
        exact ⟨rfl, ((Below.refl _ _).alloc (Nat.le_refl _) _).trans (hb.mono (by simp))⟩
    · have k1 : S.size ≤ 17 := by omega
      have k2 : 17 < T.size := by omega
      have hv' : v = false := by
        rw [← hv, Bool.eq_false_iff]; intro e; exact g2 (rightR_hi e)
      subst hv'
      clear h1 h2 h3 hz1 hz2 hv
      go_enter Tryz.func22, Tryz.ntmps22
      go_wp2_with fail
      go_ret
      exact ⟨rfl, (Below.refl _ _).alloc (Nat.le_refl _) _⟩
  · have k1 : 17 < S.size := by omega
    have hv' : v = false := by
      rw [← hv, Bool.eq_false_iff]; intro e; exact g1 (rightR_lo e)
    subst hv'
    clear h1 h2 h3 hz1 hz2 hv
    go_enter Tryz.func22, Tryz.ntmps22
    go_wp2_with fail
    go_ret
    exact ⟨rfl, (Below.refl _ _).alloc (Nat.le_refl _) _⟩
end Go.Proofs.YtopjhebhdopjpaaGreat

namespace Go.Proofs.YtopjhebhdopjpaaGreat
open Go.RowKit

theorem span_has (r : Rng) (s : List UInt8) (S T U : ByteArray) (o v : Bool) (h : IsR r S T o) (hU : str s = U) (hv : hasR r s = v) (w : World) :
    Calls Tryz.prog 97 #[.agg #[.string S, .string T, .bool o], .string U] w fun e w' => e = .returned (.bool v) ∧ Below w.heap.size w w' := by
  obtain ⟨v1, e1⟩ : ∃ v1, rightR r = v1 := ⟨_, rfl⟩
  have R1 := fun w => Lib.hid (span_right r S T o v1 h e1 w)
  obtain ⟨h1, h2, h3⟩ := h
  obtain ⟨x, hx, -, hx1⟩ := cmp_test s r.lo
  obtain ⟨y, hy, hy1, -⟩ := cmp_test s r.hi
  have C1 := fun w => Lib.hid (cmp_is s r.lo U S hU h1 x hx w)
  have C2 := fun w => Lib.hid (cmp_is s r.hi U T hU h2 y hy w)
  unfold hasR aheadR at hv
  rw [e1, ← hx1, ← hy1, h3] at hv
  clear e1 hx hy hx1 hy1 h1 h2 h3 hU
  obtain ⟨d1, g1⟩ : ∃ d1, decide (0 ≤ x) = d1 := ⟨_, rfl⟩
  obtain ⟨d2, g2⟩ : ∃ d2, decide (y < 0) = d2 := ⟨_, rfl⟩
  rw [g1, g2] at hv
  subst hv
  cases v1 <;> cases d1 <;> cases o <;> cases d2
  all_goals
    go_enter Tryz.func97, Tryz.ntmps97
    go_wp2_with (first | ((with_reducible refine (R1 _).out.mono ?_); rintro e w' ⟨rfl, hb⟩; obtain ⟨hc, -⟩ := bcell hb) | ((with_reducible refine (C1 _).out.mono ?_); rintro e w' ⟨rfl, rfl⟩) | ((with_reducible refine (C2 _).out.mono ?_); rintro e w' ⟨rfl, rfl⟩))
    go_ret
    exact ⟨rfl, ((Below.refl _ _).alloc (Nat.le_refl _) _).trans (hb.mono (by simp))⟩
theorem ref_has (r : Rng) (s : List UInt8) (S T U : ByteArray) (o v : Bool) (h : IsR r S T o) (hU : str s = U) (hs : s.length ≤ 1000000) (hv : hasR r s = v) (w : World) :
    Calls Tryz.prog 103 #[.agg #[.string S, .string T, .bool o], .string U] w fun e w' => e = .returned (.bool v) ∧ Below w.heap.size w w' := by
  obtain ⟨v1, e1⟩ : ∃ v1, rightR r = v1 := ⟨_, rfl⟩
  have R1 := fun w => Lib.hid (ref_rright r S T o v1 h e1 w)
  obtain ⟨h1, h2, h3⟩ := h
  obtain ⟨d1, g1⟩ : ∃ d1, ltB s r.lo = d1 := ⟨_, rfl⟩
  obtain ⟨d2, g2⟩ : ∃ d2, ltB s r.hi = d2 := ⟨_, rfl⟩
  have L1 := fun w => Lib.hid (less_is s r.lo U S hU h1 hs d1 g1 w)
  have L2 := fun w => Lib.hid (less_is s r.hi U T hU h2 hs d2 g2 w)
  unfold hasR aheadR at hv
  rw [e1, g1, g2, h3] at hv
  clear e1 g1 g2 h1 h2 h3 hU
  subst hv
  cases v1 <;> cases d1 <;> cases o <;> cases d2
  all_goals
    go_enter Tryz.func103, Tryz.ntmps103
    go_wp2_with (first | ((with_reducible refine (R1 _).out.mono ?_); rintro e w' ⟨rfl, hq⟩; obtain ⟨hc, -⟩ := bcell hq) | ((with_reducible refine (L1 _).out.mono ?_); rintro e w2 ⟨rfl, hq2⟩; replace hc := fun b o h => ((bcell hq2).1 b o (Nat.lt_of_lt_of_le h hq.size)).trans (hc b o h); replace hq := hq.trans (hq2.mono hq.size); clear hq2) | ((with_reducible refine (L2 _).out.mono ?_); rintro e w3 ⟨rfl, hq3⟩; replace hq := hq.trans (hq3.mono hq.size); clear hq3))
    go_ret
    exact ⟨rfl, ((Below.refl _ _).alloc (Nat.le_refl _) _).trans (hq.mono (by simp))⟩

end Go.Proofs.YtopjhebhdopjpaaGreat

namespace Go.Proofs.YtopjhebhdopjpaaGreat
open Go.RowKit

theorem rd_max {P : Program} {α : Type} {k : Kind P α} {w : World} {B : Nat} {A : Option Addr} {c n : Nat} {l : List α} (h : k.Rd w B A c l) (hn : n = l.length) : n ≤ 9223372036854775807 := by
  have h1 := h.room
  have h2 := h.cap
  unfold maxLen at h2
  omega
set_option maxHeartbeats 400000 in
theorem ref_lhas (A : Option Addr) (c n : Nat) (l : List Rng) (s : List UInt8) (U : ByteArray) (hn : n = l.length) (hU : str s = U) (hs : s.length ≤ 1000000) (v : Bool) (hv : hasL l s = v) (w : World) (hr : kRng.Rd w w.heap.size A c l) :
    Calls Tryz.prog 79 #[.slice A n c, .string U] w fun e w' => e = .returned (.bool v) ∧ Below w.heap.size w w' := by
  have HN := Lib.hid hn
  have HR := Lib.hid hr
  have hmx : n ≤ 9223372036854775807 := by exact rd_max hr hn
  have hcx : n ≤ c := by rw [hn]; exact hr.room
  subst hv
  clear hn hr
  go_enter Tryz.func79, Tryz.ntmps79
  go_wp2_with fail
  go_loopw [5] (fun i wr => ∃ k : Nat, k ≤ n ∧ Hid (hasL l s = hasL (l.drop k) s) ∧ i = .int .i64 k ∧ Below w.heap.size w wr) (fun i _ => n - (intOf i).toNat)
  case atStart => exact ⟨0, by omega, rfl, rfl, Below.refl _ _⟩
  case round =>
    obtain ⟨k, hk, HL, rfl, hb⟩ := hrel
    by_cases hlt : k < n
    · obtain ⟨r, hg, hd, -⟩ := get_some (l := l) (k := k) (by have := HN.out; omega)
      obtain ⟨b, o, rfl, hb1, hcell⟩ := rngs_at (HR.out.below hb) (by have := HN.out; omega)
      obtain ⟨c0, c1, c2⟩ := hcell k r hg
      obtain ⟨d, hdv⟩ : ∃ d, hasR r s = d := ⟨_, rfl⟩
      have C := fun w => Lib.hid (ref_has r s _ _ U _ d (IsR.mk' r) hU hs hdv w)
      have HL2 := Lib.hid (HL.out.trans (by rw [hd, hasL_cons, hdv]))
      clear hcell hg hd hdv
      obtain ⟨S, hS⟩ : ∃ S, str r.lo = S := ⟨_, rfl⟩
      obtain ⟨T, hT⟩ : ∃ T, str r.hi = T := ⟨_, rfl⟩
      obtain ⟨q, hq⟩ : ∃ q, r.op = q := ⟨_, rfl⟩
      rw [hS, hT, hq] at C
      rw [hS] at c0
      rw [hT] at c1
      rw [hq] at c2
      clear hS hT hq
      cases d
      · go_wp2_with ((with_reducible refine (C _).out.mono ?_); rintro e w2 ⟨rfl, hq⟩; replace hb := hb.trans (hq.mono hb.size); clear hq)
        go_roundw
        case rel => exact ⟨k + 1, by omega, HL2, by go_num, hb⟩
        case measure => simp [intOf]; omega
      · go_wp2_with ((with_reducible refine (C _).out.mono ?_); rintro e w2 ⟨rfl, hq⟩; replace hb := hb.trans (hq.mono hb.size); clear hq)
        go_ret
        exact ⟨ret_bool HL2.out.symm, hb⟩
    · have HL2 := Lib.hid (HL.out.trans (show hasL (l.drop k) s = false by rw [List.drop_eq_nil_of_le (by have := HN.out; omega)]; rfl))
      go_wp2_with fail
      go_ret
      exact ⟨ret_bool HL2.out.symm, hb⟩
end Go.Proofs.YtopjhebhdopjpaaGreat

namespace Go.Proofs.YtopjhebhdopjpaaGreat
open Go.RowKit

theorem less_q (a b : List UInt8) (S T : ByteArray) (hS : str a = S) (hT : str b = T) (ha : a.length ≤ 9223372036854775807) (v : Bool) (hv : ltB a b = v) (w : World) : Calls Tryz.prog 24 #[.string S, .string T] w fun e w' => e = .returned (.bool v) ∧ ∃ n, w' = w.drewN n := by
  subst hS hT hv
  exact ref_less a b ha w
end Go.Proofs.YtopjhebhdopjpaaGreat

namespace Go.Proofs.YtopjhebhdopjpaaGreat
open Go.RowKit

def eqR (r t : Rng) : Bool := decide (r.lo = t.lo) && decide (r.hi = t.hi) && decide (r.op = t.op)
theorem eqR_iff {r t : Rng} : eqR r t = true ↔ r = t := by
  unfold eqR
  simp only [Bool.and_eq_true, decide_eq_true_eq]
  exact ⟨fun ⟨⟨h1, h2⟩, h3⟩ => rng_ext h1 h2 h3, fun h => by subst h; exact ⟨⟨rfl, rfl⟩, rfl⟩⟩
theorem eq_rngs (r t : Rng) (d : Bool) (hd : eqR r t = d) (w : World) : (Op.equalIn 10000 45 (.agg #[.string (str r.lo), .string (str r.hi), .bool r.op]) (.agg #[.string (str t.lo), .string (str t.hi), .bool t.op])).run Tryz.prog w = .ok d w := by
  refine eq_rng_is _ _ _ _ _ _ d ?_ w
  rw [← hd, str_toList, str_toList, str_toList, str_toList]
  have e : ∀ a b : List UInt8, (a == b) = decide (a = b) := fun a b => by by_cases h : a = b <;> simp [h]
  unfold eqR
  rw [e, e]
  cases r.op <;> cases t.op <;> rfl
end Go.Proofs.YtopjhebhdopjpaaGreat

namespace Go.Proofs.YtopjhebhdopjpaaGreat
open Go.RowKit

structure Ps where
  rng : Rng
  A : Option Addr
  n : Nat
  c : Nat
def psCells (p : Ps) : List Value := [.string (str p.rng.lo), .string (str p.rng.hi), .bool p.rng.op, .slice p.A p.n p.c]
noncomputable def kPs : Kind Tryz.prog Ps where
  ty := 22
  el := 48
  size := 4
  bytes := 64
  zero := .agg #[.string ⟨#[]⟩, .string ⟨#[]⟩, .bool false, .slice none 0 0]
  cells := psCells
  len := fun _ => rfl
  one := fun r u hu => by simp [psCells] at hu; rcases hu with rfl | rfl | rfl | rfl <;> rfl
  pos := by decide
  under := Tryz.underlying22
  info := by kernel_rfl
  zsize := rfl
noncomputable def dPc : Deep Tryz.prog Ps Pc where
  k := kPs
  rel := fun w S b a => b.rng = a.rng ∧ b.n = a.set.length ∧ dKn.Rd w S b.A b.c a.set
  mono := fun h hs => ⟨h.1, h.2.1, h.2.2.mono hs⟩
  lives := fun h => ⟨h.1, h.2.1, h.2.2.lives⟩
  keep := fun h hk => ⟨h.1, h.2.1, h.2.2.keep hk⟩
theorem pieces_of {w : World} {S : Nat → Prop} {A : Option Addr} {c : Nat} {k : List Pc} (h : dPc.Rd w S A c k) (hp : 0 < k.length) :
    ∃ b o, A = some ⟨b, o, none⟩ ∧ b < w.heap.size ∧ ∀ i x, k[i]? = some x → ∃ (A' : Option Addr) (n' c' : Nat), n' = x.set.length ∧ dKn.Rd w S A' c' x.set ∧ w.cell? ⟨b, o + i * 4, none⟩ = some (.string (str x.rng.lo)) ∧ w.cell? ⟨b, o + i * 4 + 1, none⟩ = some (.string (str x.rng.hi)) ∧ w.cell? ⟨b, o + i * 4 + 2, none⟩ = some (.bool x.rng.op) ∧ w.cell? ⟨b, o + i * 4 + 3, none⟩ = some (.slice A' n' c') := by
  obtain ⟨b, o, e1, -, e2, e3⟩ := h.at_ hp
  refine ⟨b, o, e1, e2, fun i x hx => ?_⟩
  obtain ⟨y, ⟨g1, g2, g3⟩, g4⟩ := e3 i x hx
  refine ⟨y.A, y.n, y.c, g2, g3, ?_, ?_, ?_, g4 3 _ rfl⟩
  · rw [← g1]; exact g4 0 _ rfl
  · rw [← g1]; exact g4 1 _ rfl
  · rw [← g1]; exact g4 2 _ rfl
theorem catK_take {k : List Pc} {j : Nat} {x : Pc} (s : List UInt8) (h : k[j]? = some x) : catK (k.take (j + 1)) s = catK (k.take j) s ++ setP x s := by
  rw [List.take_add_one, h, catK_append]
  show _ ++ (setP x s ++ []) = _
  rw [List.append_nil]
theorem catK_part (k : List Pc) (j : Nat) (s : List UInt8) : (catK (k.take j) s).length ≤ (catK k s).length := by
  have h : catK k s = catK (k.take j) s ++ catK (k.drop j) s := by rw [← catK_append, List.take_append_drop]
  rw [h, List.length_append]
  omega
set_option maxRecDepth 100000 in
set_option maxHeartbeats 4000000 in
theorem ref_kat (A : Option Addr) (c n : Nat) (k : List Pc) (s : List UInt8) (U : ByteArray) (hn : n = k.length) (hU : str s = U) (hs : s.length ≤ 1000000) (hcl : (catK k s).length ≤ 900000) (hrl : ∀ r, (runsV (catK k s) r).length ≤ 20000)
    (K : List Kn) (hK : atK k s = K) (N : Nat) (hN : K.length = N) (w : World) (hr : dPc.Rd w (fun _ => True) A c k) : Calls Tryz.prog 78 #[.slice A n c, .string U] w (RetKF w N K) := by
  have HN := Lib.hid hn
  have HR := Lib.hid (hr.lives.mono fun g h => h.2)
  have hmx := hr.max hn
  have hcx : n ≤ c := by rw [hn]; exact hr.room
  have HCL := Lib.hid hcl
  obtain ⟨T, hT⟩ : ∃ T, catK k s = T := ⟨_, rfl⟩
  have HT := Lib.hid hT
  obtain ⟨NT, hNT⟩ : ∃ NT, NT = T.length := ⟨_, rfl⟩
  have HNT := Lib.hid hNT
  have CO := fun A9 c9 w h => Lib.hid (ref_vof_new A9 c9 NT T hNT (hT ▸ hrl) K (by rw [← hT]; exact hK) N hN w h)
  have C0 := fun r d hd w => Lib.hid (ref_has r s _ _ U _ d (IsR.mk' r) hU hs hd w)
  clear hn hr hU hs hrl hK hN hT hNT hcl
  go_enter Tryz.func78, Tryz.ntmps78
  go_wp2_with fail
  go_loopw [5, 6] (fun v i wr => ∃ j : Nat, j ≤ n ∧ Hid (dKn.Own wr w.heap.size (fun _ => True) v (catK (k.take j) s)) ∧ i = .int .i64 j ∧ Hid (Below w.heap.size w wr)) (fun _ i _ => n - (intOf i).toNat)
  case atStart => exact ⟨0, by omega, Deep.Own.nil _ _ _, rfl, Below.refl _ _⟩
  case round =>
    obtain ⟨j, hj, HO, rfl, HW⟩ := hrel
    by_cases hlt : j < n
    · obtain ⟨x, hg, -, -⟩ := get_some (l := k) (k := j) (by have := HN.out; omega)
      obtain ⟨b, o, rfl, hb1, hcell⟩ := pieces_of (HR.out.call HW.out) (by have := HN.out; omega)
      obtain ⟨A', n', c', hn', hrd, c0, c1, c2, c3⟩ := hcell j x hg
      have hmx' := hrd.max hn'
      have hcx' : n' ≤ c' := by rw [hn']; exact hrd.room
      have HS := Lib.hid (catK_take s hg)
      obtain ⟨d, hd⟩ : ∃ d, hasR x.rng s = d := ⟨_, rfl⟩
      have C1 := fun w => C0 x.rng d hd w
      obtain ⟨bs, ho, hall⟩ := HO.out
      obtain ⟨ys, hys, hyall⟩ := hrd
      have hpl := catK_part k (j + 1) s
      have HKO := Lib.hid ho
      have HKA := Lib.hid hall
      have HYA := Lib.hid hyall
      have HYR := Lib.hid hys
      have HYN := Lib.hid (hn'.trans hyall.1.symm)
      obtain ⟨S1, hS1⟩ : ∃ S, str x.rng.lo = S := ⟨_, rfl⟩
      obtain ⟨S2, hS2⟩ : ∃ S, str x.rng.hi = S := ⟨_, rfl⟩
      obtain ⟨q, hq⟩ : ∃ q, x.rng.op = q := ⟨_, rfl⟩
      rw [hS1, hS2, hq] at C1
      rw [hS1] at c0
      rw [hS2] at c1
      rw [hq] at c2
      have hj0 : (0 : Int) ≤ (j : Int) := by omega
      have hjn : (j : Int) < (n : Int) := by omega
      cases d
      · have HE := Lib.hid (setP_no hd)
        clear hcell hg hd hn' hS1 hS2 hq ho hall hys hyall hpl HKO HKA HYA HYR HYN C0 CO
        go_wp2_with ((with_reducible refine (C1 _).out.mono ?_); rintro e w2 ⟨rfl, hq⟩; replace HO := Lib.hid (HO.out.below hq); replace HW := Lib.hid (HW.out.trans (hq.mono HW.out.size)); clear hq)
        go_roundw
        case rel => exact ⟨j + 1, by omega, show dKn.Own _ _ _ _ _ from by rw [HS.out, HE.out, List.append_nil]; exact HO.out, by go_num, HW⟩
        case measure => simp [intOf]; omega
      · have HE := Lib.hid (setP_yes hd)
        have HLE := Lib.hid (show bs.length + ys.length ≤ 1000000 by
          have h1 := HS.out
          rw [HE.out] at h1
          have h2 := congrArg List.length h1
          rw [List.length_append] at h2
          have h3 := hall.1
          have h4 := hyall.1
          have h5 := HCL.out
          omega)
        clear hcell hg hd hn' hS1 hS2 hq ho hall hys hyall hpl HO C0 CO
        go_wp2_with (first
          | ((with_reducible refine (C1 _).out.mono ?_); rintro e w2 ⟨rfl, hq⟩; replace HKO := Lib.hid (Kind.Own.below HKO.out hq); replace HKA := Lib.hid (HKA.out.keep (keptS_below hq _)); replace HYA := Lib.hid (HYA.out.keep (keptS_below hq _)); replace HYR := Lib.hid (HYR.out.keep (keptS_below hq _)); (try replace c3 := ((bcell hq).1 _ _ hb1).trans c3); replace HW := Lib.hid (HW.out.trans (hq.mono HW.out.size)); clear hq)
          | (at_builtin; refine wpList_app_k kKs rfl (.tmp 20) (.tmp 25) rfl w.heap.size _ bs rfl HKO.out _ A' c' n' ys HYN.out rfl HYR.out.row.at_ HLE.out (by decide) HW.out.size ?_; intro v5 w5 hown5 hg5 hb5 hv5; have HO5 := Lib.hid (Deep.Own.app HKA.out (HYA.out.mono fun g h => ⟨trivial, fun e => by have := (HKO.out.lt g e).1; omega⟩) hown5 hg5 hv5); have HW5 := Lib.hid (HW.out.trans hb5); clear hown5 hg5 hb5 hv5))
        go_roundw
        case rel => exact ⟨j + 1, by omega, show dKn.Own _ _ _ _ _ from by rw [HS.out, HE.out]; exact HO5.out, by go_num, HW5⟩
        case measure => simp [intOf]; omega
    · have HTK := Lib.hid (show catK (k.take j) s = T by rw [List.take_of_length_le (by have := HN.out; omega)]; exact HT.out)
      obtain ⟨A9, c9, rfl, hrd⟩ := HO.out.rd (n := NT) (by rw [HTK.out]; exact HNT.out) fun _ _ => trivial
      rw [HTK.out] at hrd
      have HD := Lib.hid (rdk_of hrd)
      clear hrd HO C0
      go_wp2_with ((with_reducible refine (CO _ _ _ HD.out).out.mono ?_); rintro e w2 ⟨A8, c8, rfl, hr8, hq⟩; have HF := Lib.hid (show RetKF w N K (.returned (.slice A8 N c8)) w2 from ⟨A8, c8, rfl, hr8.mono fun g hg => Nat.le_trans HW.out.size hg, HW.out.trans (hq.mono HW.out.size)⟩); clear hr8 hq)
      go_ret
      exact HF.out
end Go.Proofs.YtopjhebhdopjpaaGreat

namespace Go.Proofs.YtopjhebhdopjpaaGreat
open Go.RowKit

theorem str_sizeOf (w : World) : (sizeOf 9).run Tryz.prog w = .ok 1 w := by kernel_rfl
theorem strs_take (l : List (List UInt8)) (k : Nat) : kStr.row (l.take k) = (kStr.row l).take k := by
  have := kStr.row_take l k
  rwa [show k * kStr.size = k by show k * 1 = k; omega] at this
theorem strs_drop (l : List (List UInt8)) (k : Nat) : kStr.row (l.drop k) = (kStr.row l).drop k := by
  have := kStr.row_drop l k
  rwa [show k * kStr.size = k by show k * 1 = k; omega] at this
theorem strs_len (l : List (List UInt8)) : (kStr.row l).length = l.length := by
  have := kStr.row_len l
  rwa [show l.length * kStr.size = l.length by show l.length * 1 = l.length; omega] at this
theorem le_alloc {n : Nat} {w : World} (h : n ≤ w.heap.size) (o : Obj) : n ≤ (w.alloc o).heap.size := by simp; omega
def RetS (w : World) (l : List (List UInt8)) (e : Ending) (w' : World) : Prop := ∃ A c, e = .returned (.slice A l.length c) ∧ kStr.Rd w' w'.heap.size A c l ∧ Below w.heap.size w w'
set_option maxHeartbeats 1000000 in
theorem ref_put (A : Option Addr) (c n : Nat) (l : List (List UInt8)) (s : List UInt8) (hn : n = l.length) (hnl : n ≤ 100000) (hl : ∀ x ∈ l, x.length ≤ 9223372036854775807) (w : World) (hr : kStr.Rd w w.heap.size A c l) :
    Calls Tryz.prog 76 #[.slice A n c, .string (str s)] w (RetS w (putL l s)) := by
  have HN := Lib.hid hn
  have HR := Lib.hid hr
  have HLN := Lib.hid hl
  have hcx : n ≤ c := by rw [hn]; exact hr.room
  clear hn hr hl
  go_enter Tryz.func76, Tryz.ntmps76
  go_wp2_with fail
  go_loopw [5] (fun i wr => ∃ k q : Nat, k ≤ n ∧ Hid (putL l s = l.take k ++ putL (l.drop k) s) ∧ i = .int .i64 k ∧ wr = w.drewN q) (fun i _ => n - (intOf i).toNat)
  case atStart => exact ⟨0, 0, by omega, rfl, rfl, rfl⟩
  case round =>
    obtain ⟨k, q, hk, HL, rfl, rfl⟩ := hrel
    by_cases hlt : k < n
    · obtain ⟨x, hg, hd, hm⟩ := get_some (l := l) (k := k) (by have := HN.out; omega)
      obtain ⟨b, o, hA, hb1, hcell⟩ := texts_at HR.out (by have := HN.out; omega)
      have c0 := hcell k x hg
      obtain ⟨v, hv⟩ : ∃ v, ltB x s = v := ⟨_, rfl⟩
      have C := fun w => Lib.hid (less_q x s _ _ rfl rfl (HLN.out x hm) v hv w)
      have hkd : decide ((k : Int) < (n : Int)) = true := decide_eq_true (by omega)
      cases v
      · by_cases hxs : x = s
        · have HL2 := Lib.hid (HL.out.trans (show l.take k ++ putL (l.drop k) s = l by rw [hd, hxs, putL_there, ← hxs, ← hd, List.take_append_drop]))
          have hxU : ((str x).toList == (str s).toList) = true := by rw [hxs]; simp
          subst hA
          clear hcell hg hd hm hv hxs
          obtain ⟨S, hS⟩ : ∃ S, str x = S := ⟨_, rfl⟩
          rw [hS] at c0 C hxU
          clear hS
          go_wp2_with ((with_reducible refine (C _).out.mono ?_); rintro e w2 ⟨rfl, q2, rfl⟩)
          go_ret
          refine ⟨some ⟨b, o, none⟩, c, ?_, ?_, below_drewN (Below.refl _ _) _⟩
          · rw [HL2.out, ← HN.out]; rfl
          · rw [HL2.out]; exact HR.out.drewN _
        · have hnU : ((str x).toList == (str s).toList) = false := txt_ne rfl rfl hxs
          have HT := Lib.hid (HL.out.trans (show l.take k ++ putL (l.drop k) s = (l.take k ++ [s]) ++ l.drop k by rw [hd, putL_here hv hxs, List.append_assoc]; rfl))
          clear hcell hg hd hm hv hxs
          obtain ⟨S, hS⟩ : ∃ S, str x = S := ⟨_, rfl⟩
          rw [hS] at c0 C hnU
          clear hS
          have HTK := Lib.hid (show k = (l.take k).length by rw [List.length_take]; have := HN.out; omega)
          have HL1 := Lib.hid (show ([] : List (List UInt8)).length + (l.take k).length ≤ 1000000 by rw [List.length_take, List.length_nil]; omega)
          have HL2 := Lib.hid (show (l.take k).length + [s].length ≤ 1000000 by rw [List.length_take, List.length_singleton]; omega)
          have HDK := Lib.hid (show n - k = (l.drop k).length by rw [List.length_drop, ← HN.out])
          have HL3 := Lib.hid (show (l.take k ++ [s]).length + (l.drop k).length ≤ 1000000 by rw [List.length_append, List.length_take, List.length_drop, List.length_singleton]; have := HN.out; omega)
          have HRT : Hid (RowAt w w.heap.size A (kStr.row (l.take k))) := by rw [strs_take]; exact HR.out.row.take k
          have HRD : Hid (RowAt w w.heap.size (cutA A k c) (kStr.row (l.drop k))) := by rw [strs_drop]; exact HR.out.row.cut (by rw [strs_len]; have := HN.out; omega) (by rw [strs_len]; exact HR.out.room)
          have K1 := fun w : World => run_take (T := 78) (E := 9) Tryz.underlying78 str_sizeOf w A n c k (by omega)
          have K2 := fun w : World => run_cut (T := 78) (E := 9) Tryz.underlying78 str_sizeOf w A n c k (by omega)
          subst hA
          go_wp2_with (first
            | ((with_reducible refine (C _).out.mono ?_); rintro e w2 ⟨rfl, q2, rfl⟩)
            | (at_builtin; refine wpList_app_k kStr rfl (.tmp 34) (.tmp 37) rfl w.heap.size (.slice none 0 0) [] rfl (Kind.Own.nil _ _) w.heap.size (some ⟨b, o, none⟩) c k (l.take k) HTK.out rfl (RowAt.drewN HRT.out _) HL1.out (by decide) (Nat.le_refl _) ?_; intro v3 w3 hown3 hg3 hb3 _; replace hown3 := Lib.hid hown3; replace hb3 := (below_drewN (Below.refl w.heap.size w) _).trans hb3; have hz3 := Lib.hid hb3.size)
            | (at_builtin; refine wpList_app_k kStr rfl (.tmp 39) (.tmp 41) rfl w.heap.size v3 (l.take k) rfl (Kind.Own.alloc hown3.out _) _ (some ⟨w3.heap.size, 0, none⟩) 1 1 [s] rfl rfl (Kind.rd_new (k := kStr) rfl rfl (by simp)).row HL2.out (by decide) (le_alloc hz3.out _) ?_; intro v4 w4 hown4 hg4 hb4 _; replace hb4 := (hb3.alloc hb3.size _).trans hb4; have hz4 := Lib.hid hb4.size; replace hown4 := Lib.hid hown4; clear hb3)
            | (at_builtin; refine wpList_app_k kStr rfl (.tmp 43) (.tmp 46) rfl w.heap.size v4 (l.take k ++ [s]) rfl hown4.out _ (cutA (some ⟨b, o, none⟩) k c) (c - k) (n - k) (l.drop k) HDK.out rfl (RowAt.below HRD.out hb4) HL3.out (by decide) hz4.out ?_; intro v5 w5 hown5 hg5 hb5 _; replace hb5 := hb4.trans hb5; have HO5 := Lib.hid hown5; clear hown5))
          go_ret
          obtain ⟨A5, c5, rfl, hrd⟩ := HO5.out.form
          refine ⟨A5, c5, ?_, ?_, hb5⟩
          · rw [HT.out]; rfl
          · rw [HT.out]; exact hrd
      · have HL2 := Lib.hid (HL.out.trans (show l.take k ++ putL (l.drop k) s = l.take (k + 1) ++ putL (l.drop (k + 1)) s by
          rw [hd, putL_behind hv, List.take_add_one, hg]; simp))
        subst hA
        clear hcell hg hd hm hv
        obtain ⟨S, hS⟩ : ∃ S, str x = S := ⟨_, rfl⟩
        rw [hS] at c0 C
        clear hS
        go_wp2_with ((with_reducible refine (C _).out.mono ?_); rintro e w2 ⟨rfl, q2, rfl⟩)
        go_roundw
        case rel => exact ⟨k + 1, _, by omega, HL2, by go_num, rfl⟩
        case measure => simp [intOf]; omega
    · have hkn : k = n := by omega
      have HT := Lib.hid (HL.out.trans (show l.take k ++ putL (l.drop k) s = (l.take k ++ [s]) ++ l.drop k by rw [List.drop_eq_nil_of_le (by have := HN.out; omega), List.append_nil]; rfl))
      have hkd : decide ((k : Int) < (n : Int)) = false := decide_eq_false (by omega)
      have HTK := Lib.hid (show k = (l.take k).length by rw [List.length_take]; have := HN.out; omega)
      have HL1 := Lib.hid (show ([] : List (List UInt8)).length + (l.take k).length ≤ 1000000 by rw [List.length_take, List.length_nil]; omega)
      have HL2 := Lib.hid (show (l.take k).length + [s].length ≤ 1000000 by rw [List.length_take, List.length_singleton]; omega)
      have HDK := Lib.hid (show n - k = (l.drop k).length by rw [List.length_drop, ← HN.out])
      have HL3 := Lib.hid (show (l.take k ++ [s]).length + (l.drop k).length ≤ 1000000 by rw [List.length_append, List.length_take, List.length_drop, List.length_singleton]; have := HN.out; omega)
      have HRT : Hid (RowAt w w.heap.size A (kStr.row (l.take k))) := by rw [strs_take]; exact HR.out.row.take k
      have HRD : Hid (RowAt w w.heap.size (cutA A k c) (kStr.row (l.drop k))) := by rw [strs_drop]; exact HR.out.row.cut (by rw [strs_len]; have := HN.out; omega) (by rw [strs_len]; exact HR.out.room)
      have K1 := fun w : World => run_take (T := 78) (E := 9) Tryz.underlying78 str_sizeOf w A n c k (by omega)
      have K2 := fun w : World => run_cut (T := 78) (E := 9) Tryz.underlying78 str_sizeOf w A n c k (by omega)
      clear hkn
      go_wp2_with (first
        | (at_builtin; refine wpList_app_k kStr rfl (.tmp 34) (.tmp 37) rfl w.heap.size (.slice none 0 0) [] rfl (Kind.Own.nil _ _) w.heap.size A c k (l.take k) HTK.out rfl (RowAt.drewN HRT.out _) HL1.out (by decide) (Nat.le_refl _) ?_; intro v3 w3 hown3 hg3 hb3 _; replace hown3 := Lib.hid hown3; replace hb3 := (below_drewN (Below.refl w.heap.size w) _).trans hb3; have hz3 := Lib.hid hb3.size)
        | (at_builtin; refine wpList_app_k kStr rfl (.tmp 39) (.tmp 41) rfl w.heap.size v3 (l.take k) rfl (Kind.Own.alloc hown3.out _) _ (some ⟨w3.heap.size, 0, none⟩) 1 1 [s] rfl rfl (Kind.rd_new (k := kStr) rfl rfl (by simp)).row HL2.out (by decide) (le_alloc hz3.out _) ?_; intro v4 w4 hown4 hg4 hb4 _; replace hb4 := (hb3.alloc hb3.size _).trans hb4; have hz4 := Lib.hid hb4.size; replace hown4 := Lib.hid hown4; clear hb3)
        | (at_builtin; refine wpList_app_k kStr rfl (.tmp 43) (.tmp 46) rfl w.heap.size v4 (l.take k ++ [s]) rfl hown4.out _ (cutA A k c) (c - k) (n - k) (l.drop k) HDK.out rfl (RowAt.below HRD.out hb4) HL3.out (by decide) hz4.out ?_; intro v5 w5 hown5 hg5 hb5 _; replace hb5 := hb4.trans hb5; have HO5 := Lib.hid hown5; clear hown5))
      go_ret
      obtain ⟨A5, c5, rfl, hrd⟩ := HO5.out.form
      refine ⟨A5, c5, ?_, ?_, hb5⟩
      · rw [HT.out]; rfl
      · rw [HT.out]; exact hrd
end Go.Proofs.YtopjhebhdopjpaaGreat

namespace Go.Proofs.YtopjhebhdopjpaaGreat
open Go.RowKit

theorem EdgesOk.all {E : List (List UInt8)} (h : EdgesOk E) : ∀ x ∈ E, x.length ≤ 17 := fun x hx => by
  obtain ⟨m, rfl, _, h2⟩ := h
  rcases List.mem_cons.1 hx with rfl | hx
  · simp
  · exact h2 x hx
theorem edges_next {l : List Rng} {k : Nat} {r : Rng} (h : l[k]? = some r) : edgesL (l.take (k + 1)) = addE (edgesL (l.take k)) r := by
  rw [List.take_add_one, h]; exact edgesL_snoc _ _
theorem addE_wrong {E : List (List UInt8)} {r : Rng} (h : rightR r = false) : addE E r = E := by unfold addE; rw [h]
theorem addE_open {E : List (List UInt8)} {r : Rng} (h : rightR r = true) (h' : r.op = true) : addE E r = putL E r.lo := by unfold addE; rw [h, h']
theorem addE_shut {E : List (List UInt8)} {r : Rng} (h : rightR r = true) (h' : r.op = false) : addE E r = putL (putL E r.lo) r.hi := by unfold addE; rw [h, h']
theorem ref_put_n (A : Option Addr) (c n : Nat) (l : List (List UInt8)) (s : List UInt8) (m : List (List UInt8)) (hn : n = l.length) (hnl : n ≤ 100000) (hl : ∀ x ∈ l, x.length ≤ 17) (hm : putL l s = m) (w : World) (hr : kStr.Rd w w.heap.size A c l) :
    Calls Tryz.prog 76 #[.slice A n c, .string (str s)] w (RetS w m) := by
  subst hm
  exact ref_put A c n l s hn hnl (fun x hx => Nat.le_trans (hl x hx) (by decide)) w hr
set_option maxHeartbeats 2000000 in
theorem ref_edges (A B : Option Addr) (c d n m : Nat) (a b : List Rng) (hn : n = a.length) (hm : m = b.length) (hnl : n ≤ 10000) (hml : m ≤ 10000) (w : World) (ha : kRng.Rd w w.heap.size A c a) (hb : kRng.Rd w w.heap.size B d b) :
    Calls Tryz.prog 48 #[.slice A n c, .slice B m d] w (RetS w (edgesL (a ++ b))) := by
  have HN := Lib.hid hn
  have HM := Lib.hid hm
  have HA := Lib.hid ha
  have HB := Lib.hid hb
  have hcx : n ≤ c := by rw [hn]; exact ha.room
  have hdx : m ≤ d := by rw [hm]; exact hb.room
  clear hn hm ha hb
  go_enter Tryz.func48, Tryz.ntmps48
  go_wp2_with fail
  go_loopw [5, 6] (fun v i wr => ∃ (k ne c0 : Nat) (A0 : Option Addr) (E : List (List UInt8)), k ≤ n + m ∧ Hid (edgesL ((a ++ b).take k) = E) ∧ v = .slice A0 ne c0 ∧ Hid (ne = E.length) ∧ Hid (kStr.Rd wr wr.heap.size A0 c0 E) ∧ i = .int .i64 k ∧ Below w.heap.size w wr) (fun _ i _ => n + m - (intOf i).toNat)
  case atStart => exact ⟨0, 1, 1, some ⟨w.heap.size, 0, none⟩, [[]], by omega, rfl, rfl, rfl, (Kind.rd_new (k := kStr) (l := [[]]) rfl rfl (by simp)).more (by simp), rfl, (Below.refl _ _).alloc (Nat.le_refl _) _⟩
  case round =>
    obtain ⟨k, ne, c0, A0, E, hk, HE, rfl, HV, HD, rfl, hbw⟩ := hrel
    by_cases hlt : k < n + m
    · have hx : ∃ r, (a ++ b)[k]? = some r := ⟨_, List.getElem?_eq_getElem (by rw [List.length_append]; have := HN.out; have := HM.out; omega)⟩
      obtain ⟨r, hr⟩ := hx
      have HX := Lib.hid ((edges_next hr).trans (by rw [HE.out]))
      have HK := Lib.hid (show E.length ≤ 50000 by rw [← HE.out]; have := edgesL_len ((a ++ b).take k); rw [List.length_take, List.length_append] at this; have := HN.out; have := HM.out; omega)
      have H17 := Lib.hid (show ∀ x ∈ E, x.length ≤ 17 by rw [← HE.out]; exact (edgesL_ok _).all)
      obtain ⟨x, hxr⟩ : ∃ x, rightR r = x := ⟨_, rfl⟩
      have C := fun w => Lib.hid (ref_rright r _ _ _ x (IsR.mk' r) hxr w)
      obtain ⟨E1, hE1⟩ : ∃ E1, putL E r.lo = E1 := ⟨_, rfl⟩
      have P1 := fun w hr => Lib.hid (ref_put_n A0 c0 ne E r.lo E1 HV.out (by have := HV.out; have := HK.out; omega) H17.out hE1 w hr)
      have hR := rightR_lo (r := r)
      have hR2 := rightR_hi (r := r)
      have HX1 := Lib.hid (show x = false → edgesL ((a ++ b).take (k + 1)) = E from fun e => HX.out.trans (addE_wrong (hxr.trans e)))
      have HX2 := Lib.hid (show x = true → r.op = true → edgesL ((a ++ b).take (k + 1)) = E1 from fun e e' => (HX.out.trans (addE_open (hxr.trans e) e')).trans hE1)
      have HX3 := Lib.hid (show x = true → r.op = false → edgesL ((a ++ b).take (k + 1)) = putL E1 r.hi from fun e e' => (HX.out.trans (addE_shut (hxr.trans e) e')).trans (by rw [hE1]))
      have HK1 := Lib.hid (show E1.length ≤ 50001 by rw [← hE1]; have := putL_len E r.lo; have := HK.out; omega)
      have H171 := Lib.hid (show x = true → ∀ y ∈ E1, y.length ≤ 17 from fun e y hy => by
        rw [← hE1] at hy
        rcases putL_mem.1 hy with rfl | hy
        · exact hR (hxr.trans e)
        · exact H17.out y hy)
      have P2 := fun hx A1 c1 w hr => Lib.hid (ref_put_n A1 c1 E1.length E1 r.hi _ rfl (Nat.le_trans HK1.out (by decide)) (H171.out hx) rfl w hr)
      clear HX hE1 hR hR2
      obtain ⟨S, hS⟩ : ∃ S, str r.lo = S := ⟨_, rfl⟩
      obtain ⟨T, hT⟩ : ∃ T, str r.hi = T := ⟨_, rfl⟩
      obtain ⟨q, hq⟩ : ∃ q, r.op = q := ⟨_, rfl⟩
      rw [hS, hT, hq] at C
      rw [hS] at P1
      rw [hT] at P2
      rw [hq] at HX2 HX3
      have HRG := Lib.hid (rgAt_new wr S T q 45)
      by_cases hkn : k < n
      · have hra : a[k]? = some r := by rw [← hr, List.getElem?_append_left (by have := HN.out; omega)]
        obtain ⟨b1, o1, rfl, hb1, hcell⟩ := rngs_at (HA.out.below hbw) (by have := HN.out; omega)
        obtain ⟨k0, k1, k2⟩ := hcell k r hra
        rw [hS] at k0
        rw [hT] at k1
        rw [hq] at k2
        have hb2 := Nat.lt_of_lt_of_le hb1 hbw.size
        clear hcell hra hr hxr hS hT hq
        cases x
        · replace HX1 := Lib.hid (HX1.out rfl)
          clear HX2 HX3 H171 P2 P1
          go_wp2_with ((with_reducible refine (C _).out.mono ?_); rintro e w2 ⟨rfl, hq⟩; have HB2 := Lib.hid ((hbw.alloc hbw.size _).trans (hq.mono (le_alloc hbw.size _))); have HD2 := Lib.hid ((HD.out.call ((Below.refl _ _).alloc (Nat.le_refl _) _)).call hq))
          go_roundw
          case rel => exact ⟨k + 1, ne, c0, A0, E, by omega, HX1.out, rfl, HV, HD2, by go_num, HB2.out⟩
          case measure => simp [intOf]; omega
        · replace P2 := P2 rfl
          replace HX2 := fun e => Lib.hid (HX2.out rfl e)
          replace HX3 := fun e => Lib.hid (HX3.out rfl e)
          clear HX1 H171
          cases q
          · replace HX3 := HX3 rfl
            clear HX2
            go_wp2_with (first
              | ((with_reducible refine (C _).out.mono ?_); rintro e w2 ⟨rfl, hq⟩; have HB2 := Lib.hid ((hbw.alloc hbw.size _).trans (hq.mono (le_alloc hbw.size _))); have HD2 := Lib.hid ((HD.out.call ((Below.refl _ _).alloc (Nat.le_refl _) _)).call hq); have HG2 := Lib.hid (HRG.out.below hq); obtain ⟨g0, g1, g2, g3⟩ := HG2.out)
              | ((with_reducible refine (P1 _ HD2.out).out.mono ?_); rintro e w3 ⟨A3, c3, rfl, hrd, hq3⟩; clear g0 g1 g2 g3; have HB3 := Lib.hid (HB2.out.trans (hq3.mono HB2.out.size)); have HD3 := Lib.hid hrd; have HG3 := Lib.hid (HG2.out.below hq3); obtain ⟨g0, g1, g2, g3⟩ := HG3.out; clear hrd)
              | ((with_reducible refine (P2 _ _ _ HD3.out).out.mono ?_); rintro e w4 ⟨A4, c4, rfl, hrd, hq4⟩; clear g0 g1 g2 g3; have HB4 := Lib.hid (HB3.out.trans (hq4.mono HB3.out.size)); have HD4 := Lib.hid hrd; clear hrd))
            go_roundw
            case rel => exact ⟨k + 1, _, c4, A4, putL E1 r.hi, by omega, HX3.out, rfl, rfl, HD4, by go_num, HB4.out⟩
            case measure => simp [intOf]; omega
          · replace HX2 := HX2 rfl
            clear HX3 P2
            go_wp2_with (first
              | ((with_reducible refine (C _).out.mono ?_); rintro e w2 ⟨rfl, hq⟩; have HB2 := Lib.hid ((hbw.alloc hbw.size _).trans (hq.mono (le_alloc hbw.size _))); have HD2 := Lib.hid ((HD.out.call ((Below.refl _ _).alloc (Nat.le_refl _) _)).call hq); have HG2 := Lib.hid (HRG.out.below hq); obtain ⟨g0, g1, g2, g3⟩ := HG2.out)
              | ((with_reducible refine (P1 _ HD2.out).out.mono ?_); rintro e w3 ⟨A3, c3, rfl, hrd, hq3⟩; clear g0 g1 g2 g3; have HB3 := Lib.hid (HB2.out.trans (hq3.mono HB2.out.size)); have HD3 := Lib.hid hrd; have HG3 := Lib.hid (HG2.out.below hq3); obtain ⟨g0, g1, g2, g3⟩ := HG3.out; clear hrd))
            go_roundw
            case rel => exact ⟨k + 1, _, c3, A3, E1, by omega, HX2.out, rfl, rfl, HD3, by go_num, HB3.out⟩
            case measure => simp [intOf]; omega
      · have hrb : b[k - n]? = some r := by rw [← hr, List.getElem?_append_right (by have := HN.out; omega)]; rw [HN.out]
        obtain ⟨b1, o1, rfl, hb1, hcell⟩ := rngs_at (HB.out.below hbw) (by have := HM.out; omega)
        obtain ⟨k0, k1, k2⟩ := hcell (k - n) r hrb
        rw [hS] at k0
        rw [hT] at k1
        rw [hq] at k2
        have hb2 := Nat.lt_of_lt_of_le hb1 hbw.size
        obtain ⟨j, hj⟩ : ∃ j, k = n + j := ⟨k - n, by omega⟩
        subst hj
        rw [Nat.add_sub_cancel_left] at k0 k1 k2
        clear hcell hrb hr hxr hS hT hq hkn
        cases x
        · replace HX1 := Lib.hid (HX1.out rfl)
          clear HX2 HX3 H171 P2 P1
          go_wp2_with ((with_reducible refine (C _).out.mono ?_); rintro e w2 ⟨rfl, hq⟩; have HB2 := Lib.hid ((hbw.alloc hbw.size _).trans (hq.mono (le_alloc hbw.size _))); have HD2 := Lib.hid ((HD.out.call ((Below.refl _ _).alloc (Nat.le_refl _) _)).call hq))
          go_roundw
          case rel => exact ⟨n + j + 1, ne, c0, A0, E, by omega, HX1.out, rfl, HV, HD2, by go_num, HB2.out⟩
          case measure => simp [intOf]; omega
        · replace P2 := P2 rfl
          replace HX2 := fun e => Lib.hid (HX2.out rfl e)
          replace HX3 := fun e => Lib.hid (HX3.out rfl e)
          clear HX1 H171
          cases q
          · replace HX3 := HX3 rfl
            clear HX2
            go_wp2_with (first
              | ((with_reducible refine (C _).out.mono ?_); rintro e w2 ⟨rfl, hq⟩; have HB2 := Lib.hid ((hbw.alloc hbw.size _).trans (hq.mono (le_alloc hbw.size _))); have HD2 := Lib.hid ((HD.out.call ((Below.refl _ _).alloc (Nat.le_refl _) _)).call hq); have HG2 := Lib.hid (HRG.out.below hq); obtain ⟨g0, g1, g2, g3⟩ := HG2.out)
              | ((with_reducible refine (P1 _ HD2.out).out.mono ?_); rintro e w3 ⟨A3, c3, rfl, hrd, hq3⟩; clear g0 g1 g2 g3; have HB3 := Lib.hid (HB2.out.trans (hq3.mono HB2.out.size)); have HD3 := Lib.hid hrd; have HG3 := Lib.hid (HG2.out.below hq3); obtain ⟨g0, g1, g2, g3⟩ := HG3.out; clear hrd)
              | ((with_reducible refine (P2 _ _ _ HD3.out).out.mono ?_); rintro e w4 ⟨A4, c4, rfl, hrd, hq4⟩; clear g0 g1 g2 g3; have HB4 := Lib.hid (HB3.out.trans (hq4.mono HB3.out.size)); have HD4 := Lib.hid hrd; clear hrd))
            go_roundw
            case rel => exact ⟨n + j + 1, _, c4, A4, putL E1 r.hi, by omega, HX3.out, rfl, rfl, HD4, by go_num, HB4.out⟩
            case measure => simp [intOf]; omega
          · replace HX2 := HX2 rfl
            clear HX3 P2
            go_wp2_with (first
              | ((with_reducible refine (C _).out.mono ?_); rintro e w2 ⟨rfl, hq⟩; have HB2 := Lib.hid ((hbw.alloc hbw.size _).trans (hq.mono (le_alloc hbw.size _))); have HD2 := Lib.hid ((HD.out.call ((Below.refl _ _).alloc (Nat.le_refl _) _)).call hq); have HG2 := Lib.hid (HRG.out.below hq); obtain ⟨g0, g1, g2, g3⟩ := HG2.out)
              | ((with_reducible refine (P1 _ HD2.out).out.mono ?_); rintro e w3 ⟨A3, c3, rfl, hrd, hq3⟩; clear g0 g1 g2 g3; have HB3 := Lib.hid (HB2.out.trans (hq3.mono HB2.out.size)); have HD3 := Lib.hid hrd; have HG3 := Lib.hid (HG2.out.below hq3); obtain ⟨g0, g1, g2, g3⟩ := HG3.out; clear hrd))
            go_roundw
            case rel => exact ⟨n + j + 1, _, c3, A3, E1, by omega, HX2.out, rfl, rfl, HD3, by go_num, HB3.out⟩
            case measure => simp [intOf]; omega
    · have HFIN := Lib.hid (show E = edgesL (a ++ b) by rw [← HE.out, List.take_of_length_le (by rw [List.length_append]; have := HN.out; have := HM.out; omega)])
      go_wp2_with fail
      go_ret
      exact ⟨A0, c0, by rw [← HFIN.out, ← HV.out]; rfl, by rw [← HFIN.out]; exact HD.out, hbw⟩
end Go.Proofs.YtopjhebhdopjpaaGreat

namespace Go.Proofs.YtopjhebhdopjpaaGreat
open Go.RowKit

theorem rng_row (w : World) (r : Rng) (n : Nat) (hn : n = 1) : kRng.Rd (w.alloc (.cells #[.string (str r.lo), .string (str r.hi), .bool r.op] 45)) (w.heap.size + 1) (some ⟨w.heap.size, 0, none⟩) n [r] := Kind.rd_new (by rw [kRng.row_one]; rfl) hn (by simp)
end Go.Proofs.YtopjhebhdopjpaaGreat

namespace Go.Proofs.YtopjhebhdopjpaaGreat
open Go.RowKit

def RdPc (w : World) (A : Option Addr) (c : Nat) (k : List Pc) : Prop := dPc.Rd w (fun _ => True) A c k
theorem RdPc.call {w w' : World} {A : Option Addr} {c : Nat} {k : List Pc} (h : RdPc w A c k) (hb : Below w.heap.size w w') : RdPc w' A c k := Deep.Rd.call h hb
theorem RdPc.room {w : World} {A : Option Addr} {c : Nat} {k : List Pc} (h : RdPc w A c k) : k.length ≤ c := Deep.Rd.room h
theorem RdPc.max {w : World} {A : Option Addr} {c n : Nat} {k : List Pc} (h : RdPc w A c k) (hn : n = k.length) : n ≤ 9223372036854775807 := Deep.Rd.max h hn
theorem RdPc.at_ {w : World} {A : Option Addr} {c : Nat} {k : List Pc} (h : RdPc w A c k) {i : Nat} {x : Pc} (hx : k[i]? = some x) :
    ∃ (b o : Nat) (A' : Option Addr) (n' c' : Nat) (S T : ByteArray) (q : Bool), A = some ⟨b, o, none⟩ ∧ b < w.heap.size ∧ IsR x.rng S T q ∧ n' = x.set.length ∧ RdK w w.heap.size A' c' x.set ∧
      w.cell? ⟨b, o + i * 4, none⟩ = some (.string S) ∧ w.cell? ⟨b, o + i * 4 + 1, none⟩ = some (.string T) ∧ w.cell? ⟨b, o + i * 4 + 2, none⟩ = some (.bool q) ∧ w.cell? ⟨b, o + i * 4 + 3, none⟩ = some (.slice A' n' c') := by
  obtain ⟨b, o, e1, e2, e3⟩ := pieces_of h (by have := (List.getElem?_eq_some_iff.1 hx).1; omega)
  obtain ⟨A', n', c', h1, h2, h3, h4, h5, h6⟩ := e3 i x hx
  exact ⟨b, o, A', n', c', _, _, _, e1, e2, IsR.mk' x.rng, h1, rdk_of h2, h3, h4, h5, h6⟩
theorem spansP_take {k : List Pc} {j : Nat} {x : Pc} (h : k[j]? = some x) : spansP (k.take (j + 1)) = spansP (k.take j) ++ [x.rng] := by
  unfold spansP
  rw [List.take_add_one, h, List.map_append]; rfl
set_option maxRecDepth 100000 in
set_option maxHeartbeats 1000000 in
theorem ref_spans (A : Option Addr) (c n : Nat) (k : List Pc) (hn : n = k.length) (hnl : n ≤ 100000) (w : World) (hr : RdPc w A c k) :
    Calls Tryz.prog 47 #[.slice A n c] w fun e w' => ∃ A' c', e = .returned (.slice A' n c') ∧ kRng.Own w' w.heap.size (.slice A' n c') (spansP k) ∧ Below w.heap.size w w' := by
  have HN := Lib.hid hn
  have HR := Lib.hid hr
  have hmx := hr.max hn
  have hcx : n ≤ c := by rw [hn]; exact hr.room
  clear hn hr
  go_enter Tryz.func47, Tryz.ntmps47
  go_wp2_with fail
  go_loopw [3, 4] (fun v i wr => ∃ j : Nat, j ≤ n ∧ Hid (kRng.Own wr w.heap.size v (spansP (k.take j))) ∧ i = .int .i64 j ∧ Hid (Below w.heap.size w wr)) (fun _ i _ => n - (intOf i).toNat)
  case atStart => exact ⟨0, by omega, Kind.Own.nil _ _, rfl, Below.refl _ _⟩
  case round =>
    obtain ⟨j, hj, HO, rfl, HB⟩ := hrel
    by_cases hlt : j < n
    · obtain ⟨x, hg⟩ : ∃ x, k[j]? = some x := ⟨_, List.getElem?_eq_getElem (by have := HN.out; omega)⟩
      obtain ⟨b, o, A', n', c', S, T, q, rfl, hb1, ⟨rfl, rfl, rfl⟩, hn', -, c0, c1, c2, c3⟩ := (HR.out.call HB.out).at_ hg
      have HS := Lib.hid (spansP_take hg)
      have HLE := Lib.hid (show (spansP (k.take j)).length + [x.rng].length ≤ 1000000 by rw [spansP, List.length_map, List.length_take, List.length_singleton]; omega)
      have HRW := fun w => Lib.hid (rng_row w x.rng 1 rfl).row
      obtain ⟨S, hS⟩ : ∃ S, str x.rng.lo = S := ⟨_, rfl⟩
      obtain ⟨T, hT⟩ : ∃ T, str x.rng.hi = T := ⟨_, rfl⟩
      obtain ⟨q, hq⟩ : ∃ q, x.rng.op = q := ⟨_, rfl⟩
      rw [hS, hT, hq] at HRW
      rw [hS] at c0
      rw [hT] at c1
      rw [hq] at c2
      clear hg hn' hS hT hq c3
      go_wp2_with (at_builtin; refine wpList_app_k kRng rfl (.tmp 11) (.tmp 17) rfl w.heap.size _ _ rfl (Kind.Own.alloc HO.out _) _ (some ⟨wr.heap.size, 0, none⟩) 1 1 [x.rng] rfl rfl (HRW wr).out HLE.out (by decide) (le_alloc HB.out.size _) ?_; intro v3 w3 hown3 hg3 hb3 _; have HO3 := Lib.hid hown3; have HB3 := Lib.hid ((HB.out.alloc HB.out.size _).trans hb3); clear hown3 hb3 hg3)
      go_roundw
      case rel => exact ⟨j + 1, by omega, show kRng.Own _ _ _ _ from by rw [HS.out]; exact HO3.out, by go_num, HB3⟩
      case measure => simp [intOf]; omega
    · have HT := Lib.hid (show spansP (k.take j) = spansP k by rw [List.take_of_length_le (by have := HN.out; omega)])
      obtain ⟨A5, c5, rfl, -⟩ := HO.out.read_n (show n = (spansP (k.take j)).length by rw [HT.out, spansP, List.length_map]; exact HN.out)
      go_wp2_with fail
      go_ret
      exact ⟨A5, c5, rfl, by rw [← HT.out]; exact HO.out, HB.out⟩
end Go.Proofs.YtopjhebhdopjpaaGreat

namespace Go.Proofs.YtopjhebhdopjpaaGreat
open Go.ChangeShapes Go.WideShapes Go.ChangeAt Go.RowKit

theorem pcells_rng : Tryz.prog.cellsOf 45 = 3 := by kernel_rfl
theorem pcells_set : Tryz.prog.cellsOf 46 = 1 := by kernel_rfl
def PcIn (W : World) (x : Ps × Pc) : Prop := x.1.rng = x.2.rng ∧ x.1.n = x.2.set.length ∧ RdK W W.heap.size x.1.A x.1.c x.2.set
theorem rdk_pairs {W : World} {A : Option Addr} {c : Nat} {sl : List (Ks × Kn)} (h1 : RowAt W W.heap.size A (sl.flatMap fun x => ksCells x.1)) (h2 : sl.length ≤ c) (h3 : c ≤ maxLen) (hg : ∀ x ∈ sl, KnIn W x) : RdK W W.heap.size A c (sl.map (·.2)) := by
  refine ⟨sl.map (·.1), ⟨?_, by rw [List.length_map]; exact h2, h3⟩, by rw [List.length_map, List.length_map], fun i s l hs hl => ?_⟩
  · show RowAt W W.heap.size A ((sl.map (·.1)).flatMap ksCells)
    rw [List.flatMap_map]
    exact h1
  · rw [List.getElem?_map] at hs hl
    cases hx : sl[i]? with
    | none => rw [hx] at hs; cases hs
    | some x =>
      rw [hx] at hs hl
      cases hs; cases hl
      exact hg x (List.mem_of_getElem? hx)
set_option maxRecDepth 100000 in
theorem rng_of {H : Type} {enc : TypeId × Value → H} {W : World} (n : Nat) (cs : List Value) (y : DataW H × List MemPlace) (hl : cs.length = 3)
    (hy : DataW.trod enc Tryz.prog W 0 (fun _ => true) true n 45 cs = some y) : ∃ r : Rng, cs = rngCells r := by
  obtain ⟨y0, y1, y2, n', -, -, h0, h1, h2⟩ := Go.Deep.trod_struct3 Tryz.underlying45 hy
  rw [cells_string] at h0 h1
  rw [cells_bool] at h2
  match cs, hl with
  | [a, b, c], _ =>
    obtain ⟨s, e0, -, w0⟩ := DataW.trod_string Tryz.underlying9 h0
    obtain ⟨t, e1, -, w1⟩ := DataW.trod_string Tryz.underlying9 h1
    obtain ⟨q, e2, -⟩ := DataW.trod_bool Tryz.underlying4 h2
    simp at e0 e1 e2
    subst e0 e1 e2
    exact ⟨⟨s.data.toList, t.data.toList, q⟩, by simp only [rngCells, str_of]⟩
set_option maxRecDepth 100000 in
theorem pc_of {H : Type} {enc : TypeId × Value → H} {W : World} (n : Nat) (cs : List Value) (y : DataW H × List MemPlace) (hl : cs.length = 4)
    (hy : DataW.trod enc Tryz.prog W 0 (fun _ => true) true n 48 cs = some y) : ∃ x : Ps × Pc, cs = psCells x.1 ∧ PcIn W x := by
  obtain ⟨xs, n', _, rfl, -, hlen, hf⟩ := DataW.trod_struct Tryz.underlying48 hy
  match xs, hlen with
  | [y0, y1], _ =>
    have h0 := hf 0 _ rfl
    have h1 := hf 1 _ rfl
    match cs, hl with
    | [a, b, c, d], _ =>
      have h0 : DataW.trod enc Tryz.prog W 0 (fun _ => true) true n' 45 (([a, b, c, d].drop 0).take (Tryz.prog.cellsOf 45)) = some y0 := by simpa using h0
      have h1 : DataW.trod enc Tryz.prog W 0 (fun _ => true) true n' 46 (([a, b, c, d].drop 3).take (Tryz.prog.cellsOf 46)) = some y1 := by simpa using h1
      rw [pcells_rng] at h0
      rw [pcells_set] at h1
      obtain ⟨r, e0⟩ := rng_of _ _ _ (by simp) h0
      obtain ⟨A, c', sl, e1, g1, hg, g2, g3⟩ := cells_slice (fun x : Ks × Kn => ksCells x.1) (KnIn W) Tryz.underlying46 (k := 2) (by kernel_rfl) (by omega) kn_of h1
      simp [rngCells] at e0 e1
      obtain ⟨rfl, rfl, rfl⟩ := e0
      subst e1
      exact ⟨(⟨r, A, sl.length, c'⟩, ⟨r, sl.map (·.2)⟩), rfl, rfl, by show sl.length = (sl.map (·.2)).length; rw [List.length_map], rdk_pairs g1 g2 g3 hg⟩
set_option maxRecDepth 100000 in
theorem in_pcs {H : Type} {enc : TypeId × Value → H} {W : World} {base : Nat} {v : Value} {d : DataW H} {p : List MemPlace}
    (hok : Value.okWide Tryz.prog W .any base 22 v) (h : DataW.Trod enc Tryz.prog W 0 (fun _ => true) true 22 v d p) :
    ∃ (A : Option Addr) (c : Nat) (l : List Pc), v = .slice A l.length c ∧ RdPc W A c l := by
  obtain ⟨A, c, sl, rfl, h1, hg, h2, h3⟩ := in_slice (fun x : Ps × Pc => psCells x.1) (PcIn W) Tryz.underlying22 (k := 4) (by kernel_rfl) (by omega) pc_of hok h
  have hr : kPs.Rd W W.heap.size A c (sl.map (·.1)) := by
    refine ⟨?_, by rw [List.length_map]; exact h2, h3⟩
    show RowAt W W.heap.size A ((sl.map (·.1)).flatMap psCells)
    rw [List.flatMap_map]
    exact h1
  refine ⟨A, c, sl.map (·.2), (by rw [List.length_map]), (show RdPc W A c (sl.map (·.2)) from ⟨(sl.map (fun x : Ps × Pc => x.1) : List Ps), (show kPs.RdS W (fun _ => True) A c (sl.map (fun x : Ps × Pc => x.1)) from hr.inS.mono (fun _ _ => trivial)), by rw [List.length_map, List.length_map], fun i s l hs hl => ?_⟩)⟩
  rw [List.getElem?_map] at hs hl
  cases hx : sl[i]? with
  | none => rw [hx] at hs; cases hs
  | some x =>
    rw [hx] at hs hl
    cases hs; cases hl
    obtain ⟨e1, e2, e3⟩ := hg x (List.mem_of_getElem? hx)
    exact ⟨e1, e2, (rdk_in e3).all⟩
end Go.Proofs.YtopjhebhdopjpaaGreat

namespace Go.Proofs.YtopjhebhdopjpaaGreat

def putV (n : Nat) : List UInt8 := if n < 128 then [UInt8.ofNat n] else UInt8.ofNat (n % 128 + 128) :: putV (n / 128)
termination_by n
decreasing_by omega
theorem putV_small {n : Nat} (h : n < 128) : putV n = [UInt8.ofNat n] := by rw [putV, if_pos h]
theorem putV_big {n : Nat} (h : ¬ n < 128) : putV n = UInt8.ofNat (n % 128 + 128) :: putV (n / 128) := by rw [putV, if_neg h]
theorem putV_len (k : Nat) : ∀ n, n < 128 ^ (k + 1) → (putV n).length ≤ k + 1 := by
  induction k with
  | zero => intro n h; rw [putV_small (by simpa using h)]; simp
  | succ k ih =>
    intro n h
    by_cases hn : n < 128
    · rw [putV_small hn]; simp
    · rw [putV_big hn, List.length_cons]
      have := ih (n / 128) (by rw [Nat.pow_succ] at h; omega)
      omega
theorem putV_len10 (n : Nat) (h : n ≤ 9223372036854775807) : (putV n).length ≤ 9 := by
  have e : 128 ^ (8 + 1) = 9223372036854775808 := by decide
  exact putV_len 8 n (by omega)
theorem putV_pos (n : Nat) : 0 < (putV n).length := by
  by_cases h : n < 128
  · rw [putV_small h]; simp
  · rw [putV_big h]; simp

def putsV (l : List Int) : List UInt8 := l.flatMap fun n => putV n.toNat
theorem putsV_nil : putsV [] = [] := rfl
theorem putsV_cons (n : Int) (l : List Int) : putsV (n :: l) = putV n.toNat ++ putsV l := by simp [putsV]
theorem putsV_snoc (l : List Int) (n : Int) : putsV (l ++ [n]) = putsV l ++ putV n.toNat := by simp [putsV]
theorem putsV_len (l : List Int) (h : ∀ n ∈ l, n ≤ 9223372036854775807) : (putsV l).length ≤ 9 * l.length := by
  induction l with
  | nil => simp [putsV]
  | cons x r ih =>
    rw [putsV_cons, List.length_append, List.length_cons]
    have h1 := putV_len10 x.toNat (by have := h x (by simp); omega)
    have h2 := ih fun n hn => h n (by simp [hn])
    omega

def valV : List UInt8 → Nat
  | [] => 0
  | c :: r => c.toNat % 128 + 128 * valV r

def cutGo : Nat → Nat → List UInt8 → Nat × Nat × Nat
  | i, _, [] => if 8 ≤ i then (0, 0, 11) else (0, 0, 10)
  | i, a, c :: r =>
    if 8 ≤ i then (0, 0, 11)
    else if 128 ≤ c.toNat then cutGo (i + 1) (a + c.toNat % 128 * 128 ^ i) r
    else if (0 < i ∧ c.toNat = 0) ∨ 281474976710656 < a + c.toNat % 128 * 128 ^ i then (0, 0, 11)
    else (a + c.toNat % 128 * 128 ^ i, i + 1, 0)
def cutV (l : List UInt8) : Nat × Nat × Nat := cutGo 0 0 l

theorem cutGo_put : ∀ (n : Nat) (i a : Nat) (r : List UInt8), a + n * 128 ^ i ≤ 281474976710656 → (0 < i → 0 < n) → cutGo i a (putV n ++ r) = (a + n * 128 ^ i, i + (putV n).length, 0) := by
  intro n
  induction n using Nat.strongRecOn with
  | _ n ih =>
    intro i a r hm hi
    have hi8 : ¬ 8 ≤ i := by
      intro h8
      have hn : 0 < n := hi (by omega)
      have h1 : 128 ^ 8 ≤ 128 ^ i := Nat.pow_le_pow_right (by decide) h8
      have h2 : 128 ^ i ≤ n * 128 ^ i := Nat.le_mul_of_pos_left _ hn
      have h3 : 128 ^ 8 = 72057594037927936 := by decide
      omega
    by_cases h : n < 128
    · rw [putV_small h]
      have e : (UInt8.ofNat n).toNat = n := by simp; omega
      simp only [List.cons_append, List.nil_append, cutGo, if_neg hi8, e, List.length_cons, List.length_nil]
      rw [if_neg (by omega), Nat.mod_eq_of_lt h, if_neg ?_]
      rintro (⟨h1, h2⟩ | h1)
      · have := hi h1; omega
      · omega
    · rw [putV_big h]
      have e : (UInt8.ofNat (n % 128 + 128)).toNat = n % 128 + 128 := by simp; omega
      simp only [List.cons_append, cutGo, if_neg hi8, e, List.length_cons]
      have hm128 : (n % 128 + 128) % 128 = n % 128 := by omega
      have key : n % 128 * 128 ^ i + n / 128 * 128 ^ (i + 1) = n * 128 ^ i := by
        rw [Nat.pow_succ, Nat.mul_comm (128 ^ i) 128, ← Nat.mul_assoc, ← Nat.add_mul]
        congr 1; omega
      rw [if_pos (by omega), hm128, ih (n / 128) (by omega) (i + 1) _ r (by omega) (fun _ => by omega)]
      refine Prod.ext ?_ (Prod.ext ?_ rfl)
      · show a + n % 128 * 128 ^ i + n / 128 * 128 ^ (i + 1) = a + n * 128 ^ i
        omega
      · show i + 1 + (putV (n / 128)).length = i + ((putV (n / 128)).length + 1)
        omega
theorem cutV_put (n : Nat) (r : List UInt8) (h : n ≤ 281474976710656) : cutV (putV n ++ r) = (n, (putV n).length, 0) := by
  unfold cutV
  rw [cutGo_put n 0 0 r (by simpa using h) (by omega)]
  simp

theorem cutGo_back : ∀ (l : List UInt8) (i a n k : Nat), cutGo i a l = (n, k, 0) → ∃ m, n = a + m * 128 ^ i ∧ k = i + (putV m).length ∧ l.take (putV m).length = putV m ∧ (0 < i → 0 < m) := by
  intro l
  induction l with
  | nil => intro i a n k h; rw [cutGo] at h; split at h <;> simp at h
  | cons c r ih =>
    intro i a n k h
    rw [cutGo] at h
    by_cases h8 : 8 ≤ i
    · rw [if_pos h8] at h; simp at h
    · rw [if_neg h8] at h
      by_cases hc : 128 ≤ c.toNat
      · rw [if_pos hc] at h
        obtain ⟨m, h1, h2, h3, h4⟩ := ih (i + 1) _ n k h
        have hm := h4 (by omega)
        have hc256 := c.toNat_lt
        have hb : ¬ (c.toNat % 128 + 128 * m) < 128 := by omega
        have e1 : (c.toNat % 128 + 128 * m) / 128 = m := by omega
        have e2 : (c.toNat % 128 + 128 * m) % 128 + 128 = c.toNat := by omega
        have e3 : putV (c.toNat % 128 + 128 * m) = c :: putV m := by
          rw [putV_big hb, e1, e2]; simp
        refine ⟨c.toNat % 128 + 128 * m, ?_, ?_, ?_, fun _ => by omega⟩
        · rw [h1, Nat.pow_succ, Nat.add_mul, Nat.mul_comm (128 ^ i) 128, ← Nat.mul_assoc, Nat.mul_comm m 128]; omega
        · rw [e3, List.length_cons]; omega
        · rw [e3, List.length_cons, List.take_succ_cons, h3]
      · rw [if_neg hc] at h
        split at h
        · simp at h
        · rename_i hno
          simp only [Prod.mk.injEq] at h
          obtain ⟨h1, h2, -⟩ := h
          have e3 : putV c.toNat = [c] := by rw [putV_small (by omega)]; simp
          refine ⟨c.toNat, ?_, ?_, ?_, fun hi => ?_⟩
          · rw [← h1, Nat.mod_eq_of_lt (by omega)]
          · rw [e3]; simpa using h2.symm
          · rw [e3]; rfl
          · rcases Nat.eq_zero_or_pos c.toNat with h0 | h0
            · exact absurd (.inl ⟨hi, h0⟩) hno
            · exact h0
theorem cutV_back {l : List UInt8} {n k : Nat} (h : cutV l = (n, k, 0)) : k = (putV n).length ∧ l.take k = putV n ∧ k ≤ l.length := by
  obtain ⟨m, h1, h2, h3, -⟩ := cutGo_back l 0 0 n k h
  have e : m = n := by simpa using h1.symm
  subst e
  have hk : k = (putV m).length := by simpa using h2
  refine ⟨hk, hk ▸ h3, ?_⟩
  have := congrArg List.length h3
  rw [List.length_take] at this
  omega
theorem cutGo_max : ∀ (l : List UInt8) (i a : Nat), (cutGo i a l).1 ≤ 281474976710656 := by
  intro l
  induction l with
  | nil => intro i a; rw [cutGo]; split <;> simp
  | cons c r ih =>
    intro i a
    rw [cutGo]
    split
    · simp
    · split
      · exact ih _ _
      · split
        · simp
        · rename_i h; simp only; omega
theorem cutV_max (l : List UInt8) : (cutV l).1 ≤ 281474976710656 := cutGo_max l 0 0
theorem cutGo_err : ∀ (l : List UInt8) (i a : Nat), (cutGo i a l).2.2 ≠ 0 → (cutGo i a l).1 = 0 ∧ (cutGo i a l).2.1 = 0 := by
  intro l
  induction l with
  | nil => intro i a; rw [cutGo]; split <;> simp
  | cons c r ih =>
    intro i a
    rw [cutGo]
    split
    · simp
    · split
      · exact ih _ _
      · split <;> simp
theorem cutV_err {l : List UInt8} (h : (cutV l).2.2 ≠ 0) : (cutV l).1 = 0 ∧ (cutV l).2.1 = 0 := cutGo_err l 0 0 h
theorem cutGo_size : ∀ (l : List UInt8) (i a : Nat), i ≤ 8 → (cutGo i a l).2.1 ≤ 8 := by
  intro l
  induction l with
  | nil => intro i a _; rw [cutGo]; split <;> simp
  | cons c r ih =>
    intro i a hi
    rw [cutGo]
    split
    · simp
    · split
      · exact ih _ _ (by omega)
      · split <;> simp <;> omega
theorem cutV_size (l : List UInt8) : (cutV l).2.1 ≤ 8 := cutGo_size l 0 0 (by omega)
theorem cutV_le (l : List UInt8) : (cutV l).2.1 ≤ l.length := by
  by_cases h : (cutV l).2.2 = 0
  · exact (cutV_back (l := l) (n := (cutV l).1) (k := (cutV l).2.1) (by rw [← h])).2.2
  · rw [(cutV_err h).2]; omega

def Lead (l : List UInt8) (k : Nat) : Prop := k ≤ l.length ∧ ∀ j, j < k → 128 ≤ (l.getD j 0).toNat
theorem Lead.zero (l : List UInt8) : Lead l 0 := ⟨Nat.zero_le _, fun j h => by omega⟩
theorem Lead.next {l : List UInt8} {k : Nat} (h : Lead l k) (hk : k < l.length) (hc : 128 ≤ (l.getD k 0).toNat) : Lead l (k + 1) :=
  ⟨hk, fun j hj => by
    rcases Nat.lt_or_ge j k with h' | h'
    · exact h.2 j h'
    · obtain rfl : j = k := by omega
      exact hc⟩
theorem valV_snoc : ∀ (l : List UInt8) (c : UInt8), valV (l ++ [c]) = valV l + c.toNat % 128 * 128 ^ l.length
  | [], c => by simp [valV]
  | x :: l, c => by
    rw [List.cons_append, valV, valV, valV_snoc l c, List.length_cons, Nat.pow_succ, Nat.mul_add, Nat.mul_comm (128 ^ l.length) 128, ← Nat.mul_assoc, ← Nat.mul_assoc, Nat.mul_comm 128 (c.toNat % 128)]
    omega
theorem valV_take (l : List UInt8) (k : Nat) (h : k < l.length) : valV (l.take (k + 1)) = valV (l.take k) + (l.getD k 0).toNat % 128 * 128 ^ k := by
  rw [take_snoc_getD l k h, valV_snoc, List.length_take, Nat.min_eq_left (by omega)]
theorem valV_drop (l : List UInt8) (k : Nat) (h : k < l.length) : valV (l.drop k) = (l.getD k 0).toNat % 128 + 128 * valV (l.drop (k + 1)) := by
  rw [drop_cons_getD8 l k h, valV]
theorem valV_lt : ∀ (l : List UInt8), valV l < 128 ^ l.length
  | [] => by simp [valV]
  | c :: r => by
    have := valV_lt r
    rw [valV, List.length_cons, Nat.pow_succ]; omega
theorem valV_take_lt (l : List UInt8) (k : Nat) (h : k ≤ 8) : valV (l.take k) < 72057594037927936 := by
  have h1 := valV_lt (l.take k)
  have h2 : 128 ^ (l.take k).length ≤ 128 ^ 8 := Nat.pow_le_pow_right (by decide) (by rw [List.length_take]; omega)
  have h3 : 128 ^ 8 = 72057594037927936 := by decide
  omega
theorem cutV_lead {l : List UInt8} : ∀ {k : Nat}, Lead l k → k ≤ 8 → cutV l = cutGo k (valV (l.take k)) (l.drop k)
  | 0, _, _ => by simp [cutV, valV]
  | k + 1, h, h8 => by
    have hk : k < l.length := h.1
    rw [cutV_lead (k := k) ⟨by omega, fun j hj => h.2 j (by omega)⟩ (by omega), drop_cons_getD8 l k hk, cutGo, if_neg (by omega), if_pos (h.2 k (by omega)), ← valV_take l k hk]
theorem cut_eight {l : List UInt8} (h : Lead l 8) : cutV l = (0, 0, 11) := by
  rw [cutV_lead h (by omega)]
  cases l.drop 8 with
  | nil => rfl
  | cons c r => rfl
theorem cut_short {l : List UInt8} (h : Lead l l.length) (h8 : l.length < 8) : cutV l = (0, 0, 10) := by
  rw [cutV_lead h (by omega), List.drop_length, cutGo, if_neg (by omega)]
theorem cut_bad {l : List UInt8} {k : Nat} (h : Lead l k) (hk : k < l.length) (h8 : k < 8) (hc : (l.getD k 0).toNat < 128)
    (hb : (0 < k ∧ (l.getD k 0).toNat = 0) ∨ 281474976710656 < valV (l.take (k + 1))) : cutV l = (0, 0, 11) := by
  rw [cutV_lead h (by omega), drop_cons_getD8 l k hk, cutGo, if_neg (by omega), if_neg (by omega), ← valV_take l k hk, if_pos hb]
theorem cut_good {l : List UInt8} {k : Nat} (h : Lead l k) (hk : k < l.length) (h8 : k < 8) (hc : (l.getD k 0).toNat < 128)
    (hb : ¬ ((0 < k ∧ (l.getD k 0).toNat = 0) ∨ 281474976710656 < valV (l.take (k + 1)))) : cutV l = (valV (l.take (k + 1)), k + 1, 0) := by
  rw [cutV_lead h (by omega), drop_cons_getD8 l k hk, cutGo, if_neg (by omega), if_neg (by omega), ← valV_take l k hk, if_neg hb]

def numR (l : List UInt8) (e : Int) : Nat × List UInt8 × Int :=
  if e = 0 then (if (cutV l).2.2 = 0 then ((cutV l).1, l.drop (cutV l).2.1, 0) else (0, l, ((cutV l).2.2 : Int))) else (0, l, e)
def withinR (lo hi : Int) (l : List UInt8) (e : Int) : Nat × List UInt8 × Int :=
  if ((numR l e).1 : Int) < lo ∨ hi < ((numR l e).1 : Int) then (0, l, if (numR l e).2.2 = 0 then 11 else (numR l e).2.2) else numR l e
def textR (most : Int) (l : List UInt8) (e : Int) : List UInt8 × List UInt8 × Int :=
  if (withinR 0 most l e).2.1.length < (withinR 0 most l e).1 then ([], l, if (withinR 0 most l e).2.2 = 0 then 10 else (withinR 0 most l e).2.2)
  else ((withinR 0 most l e).2.1.take (withinR 0 most l e).1, (withinR 0 most l e).2.1.drop (withinR 0 most l e).1, (withinR 0 most l e).2.2)
def endR (l : List UInt8) (e : Int) : Int := if e = 0 ∧ l ≠ [] then 14 else e

theorem numR_err {l : List UInt8} {e : Int} (h : e ≠ 0) : numR l e = (0, l, e) := by unfold numR; rw [if_neg h]
theorem numR_max (l : List UInt8) (e : Int) : (numR l e).1 ≤ 281474976710656 := by
  unfold numR
  split
  · split
    · exact cutV_max l
    · simp
  · simp
theorem numR_same (l : List UInt8) (e : Int) (h : (numR l e).2.2 ≠ 0) : (numR l e).1 = 0 ∧ (numR l e).2.1 = l := by
  unfold numR at h ⊢
  split
  · split
    · rename_i h1 h2; rw [if_pos h1, if_pos h2] at h; simp at h
    · simp
  · simp
theorem withinR_same (lo hi : Int) (l : List UInt8) (e : Int) (h : (withinR lo hi l e).2.2 ≠ 0) : (withinR lo hi l e).1 = 0 ∧ (withinR lo hi l e).2.1 = l := by
  unfold withinR at h ⊢
  split
  · simp
  · rename_i h1; rw [if_neg h1] at h; exact numR_same l e h
theorem withinR_err {lo hi : Int} {l : List UInt8} {e : Int} (h : e ≠ 0) : withinR lo hi l e = (0, l, e) := by
  unfold withinR
  rw [numR_err h]
  simp [h]
theorem withinR_num (l : List UInt8) (e : Int) : withinR 0 281474976710656 l e = numR l e := by
  unfold withinR
  rw [if_neg]
  have := numR_max l e
  omega
theorem numR_suffix (l : List UInt8) (e : Int) : ∃ k, k ≤ l.length ∧ (numR l e).2.1 = l.drop k := by
  unfold numR
  split
  · split
    · exact ⟨_, cutV_le l, rfl⟩
    · exact ⟨0, by omega, rfl⟩
  · exact ⟨0, by omega, rfl⟩
theorem numR_len (l : List UInt8) (e : Int) : (numR l e).2.1.length ≤ l.length := by
  obtain ⟨k, _, h⟩ := numR_suffix l e
  rw [h, List.length_drop]; omega
theorem withinR_len (lo hi : Int) (l : List UInt8) (e : Int) : (withinR lo hi l e).2.1.length ≤ l.length := by
  unfold withinR
  split
  · simp
  · exact numR_len l e
theorem textR_len (most : Int) (l : List UInt8) (e : Int) : (textR most l e).2.1.length ≤ l.length := by
  unfold textR
  split
  · simp
  · have := withinR_len 0 most l e
    simp only [List.length_drop]; omega
theorem withinR_cut {lo hi : Int} {l : List UInt8} {n k x : Nat} (h : cutV l = (n, k, x)) :
    k ≤ l.length ∧ k ≤ 8 ∧ n ≤ 281474976710656 ∧ (x ≠ 0 → withinR lo hi l 0 = (0, l, (x : Int))) ∧ (x = 0 → ((n : Int) < lo ∨ hi < (n : Int)) → withinR lo hi l 0 = (0, l, 11)) ∧
      (x = 0 → ¬ ((n : Int) < lo ∨ hi < (n : Int)) → withinR lo hi l 0 = (n, l.drop k, 0)) := by
  have h1 := cutV_le l
  have h2 := cutV_size l
  have h3 := cutV_max l
  rw [h] at h1 h2 h3
  refine ⟨h1, h2, h3, fun hx => ?_, fun hx hr => ?_, fun hx hr => ?_⟩
  · have e : numR l 0 = (0, l, (x : Int)) := by unfold numR; rw [if_pos rfl, h, if_neg hx]
    have hx' : ¬ (x : Int) = 0 := by omega
    unfold withinR
    rw [e]
    show (if _ then (0, l, if (x : Int) = 0 then 11 else (x : Int)) else _) = _
    rw [if_neg hx', ite_self]
  · subst hx
    have e : numR l 0 = (n, l.drop k, 0) := by unfold numR; rw [if_pos rfl, h, if_pos rfl]
    unfold withinR
    rw [e, if_pos hr]
    rfl
  · subst hx
    have e : numR l 0 = (n, l.drop k, 0) := by unfold numR; rw [if_pos rfl, h, if_pos rfl]
    unfold withinR
    rw [e, if_neg hr]
theorem numR_put (n : Nat) (r : List UInt8) (h : n ≤ 281474976710656) : numR (putV n ++ r) 0 = (n, r, 0) := by
  unfold numR
  rw [if_pos rfl, cutV_put n r h]
  simp
end Go.Proofs.YtopjhebhdopjpaaGreat
