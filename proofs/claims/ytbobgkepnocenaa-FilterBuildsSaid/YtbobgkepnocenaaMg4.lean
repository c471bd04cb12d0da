/-
  Several texts in one: FltA, FltB, FltC, SpanC, Region, FltD, Law09A, OpenNds, FltMrg, FltG, Full.
-/
import Derived.Deep.RegionHeld3
import Derived.Deep.CutRange
import Derived.Deep.Strs
import Derived.ArgAppend
import Derived.Test.YtbobgkepnocenaaMg3
/-
  Layer 9 (filter), the document's words: are two filters the same, node by node; is one too long to be looked at.
-/
namespace Go.Proofs.Ytbobgkepnocenaa
open Go.RowKit

def eqN (a b : Nd) : Bool := decide (a.op = b.op) && decide (a.kids = b.kids) && decide (a.lo = b.lo) && decide (a.hi = b.hi)
theorem eqN_iff {a b : Nd} : eqN a b = true ↔ a = b := by
  unfold eqN
  simp only [Bool.and_eq_true, decide_eq_true_eq]
  constructor
  · rintro ⟨⟨⟨h1, h2⟩, h3⟩, h4⟩
    cases a; cases b; simp_all
  · intro h; subst h; exact ⟨⟨⟨rfl, rfl⟩, rfl⟩, rfl⟩
def sameN : List Nd → List Nd → Bool
  | [], [] => true
  | r :: a, t :: b => eqN r t && sameN a b
  | _, _ => false
theorem sameN_cons (r t : Nd) (a b : List Nd) : sameN (r :: a) (t :: b) = (eqN r t && sameN a b) := rfl
theorem sameN_iff : ∀ {a b : List Nd}, sameN a b = true ↔ a = b
  | [], [] => by simp [sameN]
  | [], t :: b => by simp [sameN]
  | r :: a, [] => by simp [sameN]
  | r :: a, t :: b => by
    unfold sameN
    rw [Bool.and_eq_true, eqN_iff, sameN_iff, List.cons.injEq]
theorem sameN_len {a b : List Nd} (h : a.length ≠ b.length) : sameN a b = false := by
  cases hs : sameN a b with
  | false => rfl
  | true => rw [sameN_iff.1 hs] at h; exact absurd rfl h
theorem eq_nd (i j k m : Int) (a b c d : ByteArray) (q : Bool) (hq : (i == k && j == m && a.toList == c.toList && b.toList == d.toList) = q) (w : World) :
    (Op.equalIn 10000 33 (.agg #[.int .i64 i, .int .i64 j, .string a, .string b]) (.agg #[.int .i64 k, .int .i64 m, .string c, .string d])).run Try.prog w = .ok q w := by
  subst hq
  have u2 := Try.underlying3
  have a2 := Try.isAgg3
  have z2 := Try.sizeOf3
  have u3 := Try.underlying9
  have a3 := Try.isAgg9
  have z3 := Try.sizeOf9
  have hS : Try.prog.underlying 33 = some (.struct (Try.prog.fieldsOf 33)) := by kernel_rfl
  have hp : Try.prog.stoodInHeld 33 = false := by kernel_rfl
  rw [show (10000 : Nat) = 9999 + 1 from rfl, run_equalIn_agg w 9999 33 _ _ hS hp]
  simp only [Program.fieldsOf, Try.underlying33]
  go_simp
  by_cases h1 : i = k <;> by_cases h2 : j = m <;> by_cases h3 : a.toList = c.toList <;> by_cases h4 : b.toList = d.toList <;> simp [h1, h2, h3, h4]
theorem eq_nds (r t : Nd) (d : Bool) (hd : eqN r t = d) (w : World) : (Op.equalIn 10000 33 (.agg #[.int .i64 r.op, .int .i64 r.kids, .string (str r.lo), .string (str r.hi)]) (.agg #[.int .i64 t.op, .int .i64 t.kids, .string (str t.lo), .string (str t.hi)])).run Try.prog w = .ok d w := by
  refine eq_nd _ _ _ _ _ _ _ _ d ?_ w
  rw [← hd, str_toList, str_toList, str_toList, str_toList]
  unfold eqN
  by_cases h1 : r.op = t.op <;> by_cases h2 : r.kids = t.kids <;> by_cases h3 : r.lo = t.lo <;> by_cases h4 : r.hi = t.hi <;> simp [h1, h2, h3, h4]
set_option maxHeartbeats 1000000 in
theorem ref_nsame (A B : Option Addr) (c d n m : Nat) (a b : List Nd) (hn : n = a.length) (hm : m = b.length) (v : Bool) (hv : sameN a b = v) (w : World) (ha : kNd.Rd w w.heap.size A c a) (hb : kNd.Rd w w.heap.size B d b) :
    Calls Try.prog 17 #[.slice A n c, .slice B m d] w fun e w' => e = .returned (.bool v) ∧ ∃ q, w' = w.drewN q := by
  have HN := Lib.hid hn
  have HM := Lib.hid hm
  have HA := Lib.hid ha
  have HB := Lib.hid hb
  have hmx : n ≤ 9223372036854775807 := rd_max ha hn
  have hmy : m ≤ 9223372036854775807 := rd_max hb hm
  have hcx : n ≤ c := by rw [hn]; exact ha.room
  have hcy : m ≤ d := by rw [hm]; exact hb.room
  subst hv
  by_cases hnm : n = m
  · subst hnm
    clear hn hm ha hb
    go_enter Try.func17, Try.ntmps17
    go_wp2_with fail
    go_loopw [5] (fun i wr => ∃ k q : Nat, k ≤ n ∧ Hid (sameN a b = sameN (a.drop k) (b.drop k)) ∧ i = .int .i64 k ∧ wr = w.drewN q) (fun i _ => n - (intOf i).toNat)
    case atStart => exact ⟨0, 0, by omega, rfl, rfl, rfl⟩
    case round =>
      obtain ⟨k, q, hk, HL, rfl, rfl⟩ := hrel
      by_cases hlt : k < n
      · obtain ⟨r, hg, hd, -⟩ := get_some (l := a) (k := k) (by have := HN.out; omega)
        obtain ⟨t, hg', hd', -⟩ := get_some (l := b) (k := k) (by have := HM.out; omega)
        obtain ⟨b1, o1, rfl, hb1, hcell1⟩ := nds_at HA.out (by have := HN.out; omega)
        obtain ⟨b2, o2, rfl, hb2, hcell2⟩ := nds_at HB.out (by have := HM.out; omega)
        obtain ⟨a0, a1, a2, a3⟩ := hcell1 k r hg
        obtain ⟨c0, c1, c2, c3⟩ := hcell2 k t hg'
        obtain ⟨x, hx⟩ : ∃ x, eqN r t = x := ⟨_, rfl⟩
        have EQ := fun w => eq_nds r t x hx w
        have HL2 := Lib.hid (HL.out.trans (show sameN (a.drop k) (b.drop k) = (x && sameN (a.drop (k + 1)) (b.drop (k + 1))) by rw [hd, hd', sameN_cons, hx]))
        have hk0 : (0 : Int) ≤ (k : Int) := by omega
        have hkn : (k : Int) < (n : Int) := by omega
        clear hcell1 hcell2 hg hg' hd hd' hx
        cases x
        all_goals
          go_wp2_with fail
          go_quiet (fail)
          go_wp2_with fail
        · go_ret
          exact ⟨ret_bool HL2.out.symm, drewN2 _ _ _⟩
        · go_roundw
          case rel => exact ⟨k + 1, _, by omega, HL2, by go_num, rfl⟩
          case measure => simp [intOf]; omega
      · have HL2 := Lib.hid (HL.out.trans (show sameN (a.drop k) (b.drop k) = true by rw [List.drop_eq_nil_of_le (by have := HN.out; omega), List.drop_eq_nil_of_le (by have := HM.out; omega)]; rfl))
        go_wp2_with fail
        go_ret
        exact ⟨ret_bool HL2.out.symm, _, rfl⟩
  · have HE := Lib.hid (sameN_len (a := a) (b := b) (by omega))
    have hne : ((n : Int) == (m : Int)) = false := beq_eq_false_iff_ne.2 (by omega)
    have hne2 : ((n : Int) != (m : Int)) = true := by rw [bne, hne]; rfl
    clear hn hm ha hb hnm
    go_enter Try.func17, Try.ntmps17
    go_wp2_with fail
    go_ret
    exact ⟨ret_bool HE.out.symm, 0, rfl⟩
/-- Has a list too many nodes, or one of them too long an edge? -/
def longN (most : Nat) (l : List Nd) : Bool := decide (most < l.length) || l.any fun r => decide (40 < r.lo.length) || decide (40 < r.hi.length)
set_option maxHeartbeats 1000000 in
theorem ref_nlong (A : Option Addr) (c n most : Nat) (l : List Nd) (hn : n = l.length) (hm : most ≤ 1000) (v : Bool) (hv : longN most l = v) (w : World) (hr : kNd.Rd w w.heap.size A c l) :
    Calls Try.prog 8 #[.slice A n c, .int .i64 most] w fun e w' => e = .returned (.bool v) ∧ w = w' := by
  have HN := Lib.hid hn
  have HR := Lib.hid hr
  have hmx : n ≤ 9223372036854775807 := rd_max hr hn
  have hcx : n ≤ c := by rw [hn]; exact hr.room
  subst hv
  by_cases h1 : most < n
  · have HE : Hid (longN most l = true) := by unfold longN; rw [decide_eq_true (by omega)]; rfl
    clear hn hr
    go_enter Try.func8, Try.ntmps8
    go_wp2_with fail
    go_ret
    exact ⟨ret_bool HE.out.symm, rfl⟩
  · have h1' : n ≤ most := by omega
    have HE : Hid (longN most l = l.any fun r => decide (40 < r.lo.length) || decide (40 < r.hi.length)) := by unfold longN; rw [decide_eq_false (by omega), Bool.false_or]; rfl
    clear hn hr h1
    go_enter Try.func8, Try.ntmps8
    go_wp2_with fail
    go_loop [5] (fun i => ∃ k : Nat, k ≤ n ∧ Hid (longN most l = (l.drop k).any fun r => decide (40 < r.lo.length) || decide (40 < r.hi.length)) ∧ i = .int .i64 k) (fun i => n - (intOf i).toNat)
    case atStart => exact ⟨0, by omega, HE, rfl⟩
    case round =>
      obtain ⟨k, hk, HL, rfl⟩ := hrel
      by_cases hlt : k < n
      · obtain ⟨r, hg, hd, -⟩ := get_some (l := l) (k := k) (by have := HN.out; omega)
        obtain ⟨b1, o1, rfl, hb1, hcell1⟩ := nds_at HR.out (by have := HN.out; omega)
        obtain ⟨-, -, a0, a1⟩ := hcell1 k r hg
        have HL2 := Lib.hid (HL.out.trans (by rw [hd, List.any_cons]))
        have hz1 : (str r.lo).size = r.lo.length := str_size _
        have hz2 : (str r.hi).size = r.hi.length := str_size _
        clear hcell1 hg hd HE
        obtain ⟨S, hS⟩ : ∃ S, str r.lo = S := ⟨_, rfl⟩
        obtain ⟨T, hT⟩ : ∃ T, str r.hi = T := ⟨_, rfl⟩
        rw [hS] at a0 hz1
        rw [hT] at a1 hz2
        by_cases g1 : r.lo.length ≤ 40
        · by_cases g2 : r.hi.length ≤ 40
          · have k1 : S.size ≤ 40 := by omega
            have k2 : T.size ≤ 40 := by omega
            have HE := Lib.hid (HL2.out.trans (by rw [decide_eq_false (show ¬ 40 < r.lo.length by omega), decide_eq_false (show ¬ 40 < r.hi.length by omega), Bool.or_self, Bool.false_or]))
            clear hz1 hz2 hS hT g1 g2 HL2
            go_wp2_with fail
            go_round
            case rel => exact ⟨k + 1, by omega, HE, by go_num⟩
            case measure => simp [intOf]; omega
          · have k1 : S.size ≤ 40 := by omega
            have k2 : 40 < T.size := by omega
            have HE := Lib.hid (HL2.out.trans (by rw [decide_eq_true (show 40 < r.hi.length by omega), Bool.or_true, Bool.true_or]))
            clear hz1 hz2 hS hT g1 g2 HL2
            go_wp2_with fail
            go_ret
            exact ⟨ret_bool HE.out.symm, rfl⟩
        · have k1 : 40 < S.size := by omega
          have HE := Lib.hid (HL2.out.trans (by rw [decide_eq_true (show 40 < r.lo.length by omega), Bool.true_or, Bool.true_or]))
          clear hz1 hz2 hS hT g1 HL2
          go_wp2_with fail
          go_ret
          exact ⟨ret_bool HE.out.symm, rfl⟩
      · have HL2 := Lib.hid (HL.out.trans (by rw [List.drop_eq_nil_of_le (by have := HN.out; omega), List.any_nil]))
        clear HE
        go_wp2_with fail
        go_ret
        exact ⟨ret_bool HL2.out.symm, rfl⟩
end Go.Proofs.Ytbobgkepnocenaa

/-
  Layer 9 (filter), the document's words: where a filter begins; is it right.
-/
namespace Go.Proofs.Ytbobgkepnocenaa
open Go.RowKit

theorem take_rev_suffix {l R : List Nd} {p : Nat} (h : R <:+ (l.take p).reverse) : R = (l.take R.length).reverse ∧ R.length ≤ p := by
  have h1 : R.reverse <+: l.take p := by rw [← List.reverse_suffix, List.reverse_reverse]; exact h
  have h2 := List.prefix_iff_eq_take.1 h1
  have h3 := h1.length_le
  rw [List.length_reverse, List.length_take] at h3
  rw [List.length_reverse, List.take_take, Nat.min_eq_left (by omega)] at h2
  refine ⟨?_, by omega⟩
  rw [← h2, List.reverse_reverse]
theorem begV_some {l R : List Nd} {p : Nat} (h : cntV 1 (l.take p).reverse = some R) : begV l p = (R.length : Nat) := by unfold begV; rw [h]
theorem begV_none {l : List Nd} {p : Nat} (h : cntV 1 (l.take p).reverse = none) : begV l p = -1 := by unfold begV; rw [h]
theorem take_snoc_rev {l : List Nd} {k : Nat} {n : Nd} (h : l[k]? = some n) : (l.take (k + 1)).reverse = n :: (l.take k).reverse := by
  rw [List.take_add_one, h]; simp
theorem cnt_none {R R' : List Nd} {i m : Nat} (h : cntV i R = some R') (h' : cntV 1 R' = none) (hm : i < m) : cntV m R = none := by
  rw [show m = i + (1 + (m - i - 1)) by omega, cntV_add, h]
  show cntV (1 + (m - i - 1)) R' = none
  rw [cntV_add, h']; rfl
theorem cnt_more {R R' R'' : List Nd} {i : Nat} (h : cntV i R = some R') (h' : cntV 1 R' = some R'') : cntV (i + 1) R = some R'' := by
  rw [cntV_add, h]; exact h'
set_option maxHeartbeats 1000000 in
theorem ref_begin (A : Option Addr) (c n : Nat) (l : List Nd) (hn : n = l.length) (hn9 : n ≤ 100000) : ∀ (k p : Nat), p ≤ k → p ≤ n → ∀ (x : Int), x = (p : Int) - 1 → ∀ w, kNd.Rd w w.heap.size A c l →
    Calls Try.prog 35 #[.slice A n c, .int .i64 x] w fun e w' => e = .returned (.int .i64 (begV l p)) ∧ Below w.heap.size w w' := by
  intro k
  induction k with
  | zero =>
    intro p hp _ x hx w _
    obtain rfl : p = 0 := by omega
    obtain rfl : x = -1 := by omega
    have e : begV l 0 = -1 := begV_none rfl
    rw [e]
    clear e hp hx hn hn9
    go_enter Try.func35, Try.ntmps35
    go_wp2_with fail
    go_ret
    exact ⟨rfl, Below.refl _ _⟩
  | succ k ih =>
    intro p hp hpn x hx w hr
    by_cases hpk : p ≤ k
    · exact ih p hpk hpn x hx w hr
    obtain rfl : p = k + 1 := by omega
    obtain rfl : x = (k : Int) := by omega
    obtain ⟨nd, hg, -, -⟩ := get_some (l := l) (k := k) (by omega)
    obtain ⟨b, o, hA, hb1, hcell⟩ := nds_at hr (by omega)
    obtain ⟨c0, c1, c2, c3⟩ := hcell k nd hg
    obtain ⟨v, hv⟩ : ∃ v, nodeV nd = v := ⟨_, rfl⟩
    have C := fun w => Lib.hid (ref_node nd _ _ _ _ rfl rfl rfl rfl v hv w)
    have hcx : n ≤ c := by rw [hn]; exact hr.room
    have HR := Lib.hid hr
    have IH := fun q hq w' hr' => Lib.hid (ih q hq (by omega) ((q : Int) - 1) rfl w' hr')
    have HT := take_snoc_rev hg
    obtain ⟨O, hO⟩ : ∃ O, nd.op = O := ⟨_, rfl⟩
    obtain ⟨K, hK⟩ : ∃ K, nd.kids = K := ⟨_, rfl⟩
    obtain ⟨S, hS⟩ : ∃ S, str nd.lo = S := ⟨_, rfl⟩
    obtain ⟨T, hT⟩ : ∃ T, str nd.hi = T := ⟨_, rfl⟩
    rw [hO, hK, hS, hT] at C
    rw [hO] at c0
    rw [hK] at c1
    rw [hS] at c2
    rw [hT] at c3
    have hbw := Lib.hid (Below.refl w.heap.size w)
    have hk0 : decide ((k : Int) < 0) = false := decide_eq_false (by omega)
    have hkn : decide ((n : Int) ≤ (k : Int)) = false := decide_eq_false (by omega)
    have hkn3 : decide (n ≤ k) = false := decide_eq_false (by omega)
    have hkn2 : (k : Int) < (n : Int) := by omega
    have hk2 : (0 : Int) ≤ (k : Int) := by omega
    cases v
    · have e : begV l (k + 1) = -1 := begV_none (by rw [HT]; exact cntV_wrong hv)
      rw [e]
      subst hA
      clear hcell hg hv HT hO hS hT hr ih IH e hK hx hp hpn hpk
      go_enter Try.func35, Try.ntmps35
      go_wp2_with ((with_reducible refine (C _).out.mono ?_); rintro e w1 ⟨rfl, hq⟩)
      go_ret
      exact ⟨rfl, hq⟩
    · have hkid := nodeV_kids hv
      have HX : Hid (begV l (k + 1) = match cntV (kidsN nd) (l.take k).reverse with | some R => ((R.length : Nat) : Int) | none => -1) := by
        unfold begV
        rw [HT, cntV_node hv, Nat.zero_add]; rfl
      obtain ⟨m, hm⟩ : ∃ m : Nat, kidsN nd = m := ⟨_, rfl⟩
      have hKm : K = (m : Int) := by unfold kidsN at hm; rw [hK] at hkid hm; omega
      rw [hm] at HX
      have hm9 : m ≤ 32 := by unfold kidsN at hm; omega
      subst hA
      clear hcell hg hv HT hO hS hT hr ih hK hx hp hpn hpk hkid hm
      subst hKm
      have HN := Lib.hid hn
      clear hn
      go_enter Try.func35, Try.ntmps35
      go_wp2_with ((with_reducible refine (C _).out.mono ?_); rintro e w1 ⟨rfl, hq⟩; replace hbw := Lib.hid hq; clear hq)
      go_loopw [5, 6] (fun s i wr => ∃ (j q : Nat) (R : List Nd), j ≤ m ∧ Hid (cntV j (l.take k).reverse = some R) ∧ Hid (R.length = q) ∧ s = .int .i64 q ∧ i = .int .i64 j ∧ Hid (Below w.heap.size w wr)) (fun _ i _ => m - (intOf i).toNat)
      case atStart => exact ⟨0, k, _, by omega, cntV_zero _, (show ((l.take k).reverse).length = k by rw [List.length_reverse, List.length_take]; have := HN.out; omega), rfl, rfl, hbw.out⟩
      case round =>
        obtain ⟨j, q, R, hj, HC, HQ, rfl, rfl, HB⟩ := hrel
        have hsx := take_rev_suffix (cntV_suffix _ _ HC.out)
        rw [HQ.out] at hsx
        obtain ⟨hs1, hs2⟩ := hsx
        have hbl := Nat.lt_of_lt_of_le hb1 HB.out.size
        have d1 := ((bcell HB.out).1 _ _ hb1).trans c1
        by_cases hlt : j < m
        · have I := fun w' hr' => IH q hs2 w' hr'
          have hw1 : IntKind.i64.wrap ((q : Int) - 1) = (q : Int) - 1 := IntWalk.i64_in _ (by omega)
          cases hc : cntV 1 R with
          | none =>
            have e : begV l q = -1 := begV_none (by rw [← hs1]; exact hc)
            have HE : Hid (begV l (k + 1) = -1) := by rw [HX.out, cnt_none HC.out hc hlt]; exact rfl
            rw [e] at I
            clear hc hs1 IH
            go_wp2_with ((with_reducible refine (I _ (HR.out.call HB.out)).out.mono ?_); rintro e w2 ⟨rfl, hq⟩; replace HB := Lib.hid (HB.out.trans (hq.mono HB.out.size)); clear hq)
            go_ret
            exact ⟨by rw [HE.out]; rfl, HB.out⟩
          | some R' =>
            have e : begV l q = (R'.length : Nat) := begV_some (by rw [← hs1]; exact hc)
            have HC2 := Lib.hid (cnt_more HC.out hc)
            rw [e] at I
            obtain ⟨q', hq'⟩ : ∃ q', R'.length = q' := ⟨_, rfl⟩
            rw [hq'] at I
            have HQ2 := Lib.hid hq'
            have hq0 : decide ((q' : Int) < 0) = false := decide_eq_false (by omega)
            clear hc hs1 IH e hq'
            go_wp2_with ((with_reducible refine (I _ (HR.out.call HB.out)).out.mono ?_); rintro e w2 ⟨rfl, hq⟩; replace HB := Lib.hid (HB.out.trans (hq.mono HB.out.size)); clear hq)
            go_roundw
            case rel => exact ⟨j + 1, q', R', by omega, HC2.out, HQ2.out, rfl, by go_num, HB.out⟩
            case measure => simp [intOf]; omega
        · have HE : Hid (begV l (k + 1) = (q : Int)) := by rw [HX.out, show m = j by omega, HC.out]; exact congrArg Nat.cast HQ.out
          clear IH hs1
          go_wp2_with fail
          go_ret
          exact ⟨by rw [HE.out]; rfl, HB.out⟩
theorem ref_nright (A : Option Addr) (c n : Nat) (l : List Nd) (hn : n = l.length) (hn9 : n ≤ 100000) (v : Bool) (hv : rightN l = v) (w : World) (hr : kNd.Rd w w.heap.size A c l) :
    Calls Try.prog 11 #[.slice A n c] w fun e w' => e = .returned (.bool v) ∧ Below w.heap.size w w' := by
  rw [rightN_beg, ← hn] at hv
  have C := fun x hx => Lib.hid (ref_begin A c n l hn hn9 n n (Nat.le_refl _) (Nat.le_refl _) x hx w hr)
  clear hr
  by_cases h1 : 1 ≤ n
  · by_cases h2 : n ≤ 32
    · obtain ⟨z, hz⟩ : ∃ z, begV l n = z := ⟨_, rfl⟩
      rw [decide_eq_true h1, decide_eq_true h2, Bool.true_and, Bool.true_and, hz] at hv
      rw [hz] at C
      have hw1 : IntKind.i64.wrap ((n : Int) - 1) = (n : Int) - 1 := IntWalk.i64_in _ (by omega)
      have C := C ((n : Int) - 1) rfl
      have hz2 : (z == 0) = v := by rw [← hv]; by_cases h : z = 0 <;> simp [h]
      clear hz hn hv
      go_enter Try.func11, Try.ntmps11
      go_wp2_with ((with_reducible refine C.out.mono ?_); rintro e w1 ⟨rfl, hq⟩)
      go_ret
      exact ⟨rfl, hq⟩
    · obtain rfl : v = false := by rw [← hv, decide_eq_false h2, Bool.false_and, Bool.and_false]
      clear hv C hn
      go_enter Try.func11, Try.ntmps11
      go_wp2_with fail
      go_ret
      exact ⟨rfl, Below.refl _ _⟩
  · obtain rfl : v = false := by rw [← hv, decide_eq_false h1, Bool.false_and]
    clear hv C hn
    go_enter Try.func11, Try.ntmps11
    go_wp2_with fail
    go_ret
    exact ⟨rfl, Below.refl _ _⟩
end Go.Proofs.Ytbobgkepnocenaa

/-
  Layer 9 (filter), the document's words: has a filter a text.
-/
namespace Go.Proofs.Ytbobgkepnocenaa
open Go.RowKit

theorem dep_last {l : List Nd} {k d : Nat} {n : Nd} (h : l[k]? = some n) (hd : depV (l.take (k + 1)) 0 = some d) : ∃ e, depV (l.take k) 0 = some e ∧ nodeV n = true ∧ kidsN n ≤ e ∧ d = e - kidsN n + 1 := by
  rw [List.take_add_one, h, depV_append] at hd
  cases he : depV (l.take k) 0 with
  | none => rw [he] at hd; cases hd
  | some e =>
    rw [he] at hd
    obtain ⟨h1, h2, h3⟩ := depV_one.1 hd
    exact ⟨e, rfl, h1, h2, h3⟩
theorem top_last {l : List Nd} {k : Nat} {n : Nd} (h : l[k]? = some n) : topV (l.take (k + 1)) = valN n ((stkV (l.take k)).take (kidsN n)) := by
  rw [List.take_add_one, h]; exact topV_snoc _ _
/-- Behind so many filters taken off: the place, what stands open there. -/
theorem cnt_place {l : List Nd} {k e i : Nat} (hd : depV (l.take k) 0 = some e) (hi : i ≤ e) :
    ∃ q, q ≤ k ∧ cntV i (l.take k).reverse = some (l.take q).reverse ∧ (l.take q).length = q ∧ depV (l.take q) 0 = some (e - i) ∧ stkV (l.take q) = (stkV (l.take k)).drop i := by
  obtain ⟨R, h1, h2, h3⟩ := cnt_stk (l.take k).reverse i e (by rw [List.reverse_reverse]; exact hd) hi
  obtain ⟨h4, h5⟩ := take_rev_suffix (cntV_suffix _ _ h1)
  rw [List.reverse_reverse] at h3
  refine ⟨R.length, h5, by rw [h1]; exact congrArg some h4, ?_, ?_, ?_⟩
  · have := congrArg List.length h4; rw [List.length_reverse] at this; exact this.symm
  · have := congrArg List.reverse h4; rw [List.reverse_reverse] at this; rw [← this]; exact h2
  · have := congrArg List.reverse h4; rw [List.reverse_reverse] at this; rw [← this]; exact h3
theorem beg_place {l : List Nd} {p q : Nat} (h : cntV 1 (l.take p).reverse = some (l.take q).reverse) (hq : (l.take q).length = q) : begV l p = (q : Nat) := by
  rw [begV_some h, List.length_reverse, hq]
theorem stk_at {l : List Nd} {k e i q : Nat} (hz : (stkV (l.take k)).length = e) (hi : i < e) (h : stkV (l.take q) = (stkV (l.take k)).drop i) : (stkV (l.take k))[i]? = some (topV (l.take q)) := by
  unfold topV
  rw [h]
  have hi' : i < (stkV (l.take k)).length := by omega
  rw [List.drop_eq_getElem_cons hi', List.headD_cons, List.getElem?_eq_getElem hi']
theorem take_any {st : List TxtP} {i : Nat} {f : TxtP} (h : st[i]? = some f) (s : List UInt8) : ((st.take (i + 1)).any fun k => k s) = ((st.take i).any (fun k => k s) || f s) := by
  rw [List.take_add_one, h]; simp
theorem take_all {st : List TxtP} {i : Nat} {f : TxtP} (h : st[i]? = some f) (s : List UInt8) : ((st.take (i + 1)).all fun k => k s) = ((st.take i).all (fun k => k s) && f s) := by
  rw [List.take_add_one, h]; simp
theorem val_1 {n : Nd} (h : n.op = 1) (ks : List TxtP) (s : List UInt8) : valN n ks s = true := by unfold valN; rw [if_pos h]
theorem val_3 {n : Nd} (h : n.op = 3) (ks : List TxtP) (s : List UInt8) : valN n ks s = n.lo.isPrefixOf s := by unfold valN; rw [if_neg (by omega), if_pos h]
theorem val_4 {n : Nd} (h : n.op = 4) (ks : List TxtP) (s : List UInt8) : valN n ks s = hasR ⟨n.lo, n.hi, false⟩ s := by unfold valN; rw [if_neg (by omega), if_neg (by omega), if_pos h]
theorem val_5 {n : Nd} (h : n.op = 5) (ks : List TxtP) (s : List UInt8) : valN n ks s = !ltB s n.lo := by unfold valN; rw [if_neg (by omega), if_neg (by omega), if_neg (by omega), if_pos h]
theorem val_6 {n : Nd} (h : n.op = 6) (ks : List TxtP) (s : List UInt8) : valN n ks s = !(ks.any fun k => k s) := by unfold valN; rw [if_neg (by omega), if_neg (by omega), if_neg (by omega), if_neg (by omega), if_pos h]
theorem val_else {n : Nd} (h : n.op = 2 ∨ n.op = 7 ∨ n.op = 8) (ks : List TxtP) (s : List UInt8) : valN n ks s = ((n.op == 7) && ks.all (fun k => k s) || (n.op == 8) && ks.any fun k => k s) := by
  unfold valN
  rw [if_neg (by omega), if_neg (by omega), if_neg (by omega), if_neg (by omega), if_neg (by omega)]
  rcases h with h | h | h <;> rw [h] <;> simp
set_option maxRecDepth 100000 in
set_option maxHeartbeats 4000000 in
theorem ref_nin (A : Option Addr) (c n : Nat) (l : List Nd) (s : List UInt8) (U : ByteArray) (hU : str s = U) (hs : s.length ≤ 1000000) (hn : n = l.length) (hn9 : n ≤ 100000) : ∀ (k p d : Nat), p ≤ k → p ≤ n → depV (l.take p) 0 = some d → 1 ≤ d → ∀ (x : Int), x = (p : Int) - 1 → ∀ (v : Bool), topV (l.take p) s = v → ∀ w, kNd.Rd w w.heap.size A c l →
    Calls Try.prog 40 #[.slice A n c, .int .i64 x, .string U] w fun e w' => e = .returned (.bool v) ∧ Below w.heap.size w w' := by
  intro k
  induction k with
  | zero =>
    intro p d hp _ hd h1 x hx v hv w _
    obtain rfl : p = 0 := by omega
    have : some 0 = some d := hd
    injection this with this
    omega
  | succ k ih =>
    intro p d hp hpn hd h1 x hx v hv w hr
    by_cases hpk : p ≤ k
    · exact ih p d hpk hpn hd h1 x hx v hv w hr
    obtain rfl : p = k + 1 := by omega
    obtain rfl : x = (k : Int) := by omega
    obtain ⟨nd, hg, -, -⟩ := get_some (l := l) (k := k) (by omega)
    obtain ⟨e, he, hnv, hke, -⟩ := dep_last hg hd
    have hz : (stkV (l.take k)).length = e := evV_len _ [] e he
    rw [top_last hg] at hv
    obtain ⟨b, o, hA, hb1, hcell⟩ := nds_at hr (by omega)
    obtain ⟨c0, c1, c2, c3⟩ := hcell k nd hg
    have hcx : n ≤ c := by rw [hn]; exact hr.room
    have HR := Lib.hid hr
    have hkid := nodeV_kids hnv
    have hop := nodeV_op hnv
    obtain ⟨O, hO⟩ : ∃ O, nd.op = O := ⟨_, rfl⟩
    obtain ⟨K, hK⟩ : ∃ K, nd.kids = K := ⟨_, rfl⟩
    obtain ⟨S, hS⟩ : ∃ S, str nd.lo = S := ⟨_, rfl⟩
    obtain ⟨T, hT⟩ : ∃ T, str nd.hi = T := ⟨_, rfl⟩
    rw [hO] at c0
    rw [hK] at c1
    rw [hS] at c2
    rw [hT] at c3
    have hkn2 : (k : Int) < (n : Int) := by omega
    have hk2 : (0 : Int) ≤ (k : Int) := by omega
    have hbw := Lib.hid (below_new w (.cells #[.int .i64 O, .int .i64 K, .string S, .string T] 33))
    have IH := fun q dq hq hdq h1q vq hvq w' hr' => Lib.hid (ih q dq hq (by omega) hdq h1q ((q : Int) - 1) rfl vq hvq w' hr')
    clear hcell ih
    subst hA
    by_cases h1 : O = 1
    · obtain rfl : v = true := by rw [← hv]; exact val_1 (hO.trans h1) _ _
      subst h1
      clear hv hO hK hS hT IH hg hd he hz hr hx hp hpn hpk hkid hop hnv hke hn
      go_enter Try.func40, Try.ntmps40
      go_wp2_with fail
      go_ret
      exact ⟨rfl, hbw.out⟩
    · have n1 : (O == 1) = false := beq_eq_false_iff_ne.2 h1
      by_cases h3 : O = 3
      · have C := fun w => Lib.hid (begins_is s nd.lo U S hU hS v (by rw [← hv]; exact (val_3 (hO.trans h3) _ _).symm) w)
        subst h3
        clear hv hO hK hS hT IH hg hd he hz hr hx hp hpn hpk hkid hop hnv hke hn
        go_enter Try.func40, Try.ntmps40
        go_wp2_with ((with_reducible refine (C _).out.mono ?_); rintro e w1 ⟨rfl, rfl⟩)
        go_ret
        exact ⟨rfl, hbw.out⟩
      · have n3 : (O == 3) = false := beq_eq_false_iff_ne.2 h3
        by_cases h4 : O = 4
        · have C := fun w => Lib.hid (ref_has ⟨nd.lo, nd.hi, false⟩ s S T U false v ⟨hS, hT, rfl⟩ hU hs (by rw [← hv]; exact (val_4 (hO.trans h4) _ _).symm) w)
          subst h4
          clear hv hO hK hS hT IH hg hd he hz hr hx hp hpn hpk hkid hop hnv hke hn h1 h3
          go_enter Try.func40, Try.ntmps40
          go_wp2_with ((with_reducible refine (C _).out.mono ?_); rintro e w1 ⟨rfl, hq⟩; replace hbw := Lib.hid (hbw.out.trans (hq.mono hbw.out.size)); clear hq)
          go_ret
          exact ⟨rfl, hbw.out⟩
        · have n4 : (O == 4) = false := beq_eq_false_iff_ne.2 h4
          by_cases h5 : O = 5
          · obtain ⟨z, hz5⟩ : ∃ z, ltB s nd.lo = z := ⟨_, rfl⟩
            have C := fun w => Lib.hid (less_is s nd.lo U S hU hS hs z hz5 w)
            obtain rfl : v = !z := by rw [← hv, val_5 (hO.trans h5), hz5]
            subst h5
            clear hv hO hK hS hT IH hg hd he hz hr hx hp hpn hpk hkid hop hnv hke hn h1 h3 h4 hz5
            go_enter Try.func40, Try.ntmps40
            go_wp2_with ((with_reducible refine (C _).out.mono ?_); rintro e w1 ⟨rfl, hq⟩; replace hbw := Lib.hid (hbw.out.trans (hq.mono hbw.out.size)); clear hq)
            go_ret
            exact ⟨rfl, hbw.out⟩
          · have n5 : (O == 5) = false := beq_eq_false_iff_ne.2 h5
            by_cases h6 : O = 6
            · have hk1 : kidsN nd = 1 := by
                have := hnv
                rw [nodeV_6 (hO.trans h6)] at this
                simp only [Bool.and_eq_true, beq_iff_eq] at this
                unfold kidsN; rw [this.2.2]; rfl
              obtain ⟨z, hz6⟩ : ∃ z, topV (l.take k) s = z := ⟨_, rfl⟩
              have C := fun w' hr' => IH k e (Nat.le_refl _) he (by omega) z hz6 w' hr'
              obtain rfl : v = !z := by
                rw [← hv, val_6 (hO.trans h6), hk1, ← hz6]
                congr 1
                rw [take_any (stk_at hz (by omega) (by rw [List.drop_zero]))]
                simp
              have hw1 : IntKind.i64.wrap ((k : Int) - 1) = (k : Int) - 1 := IntWalk.i64_in _ (by omega)
              subst h6
              clear hv hO hK hS hT IH hg hd he hz hr hx hp hpn hpk hkid hop hnv hke hn h1 h3 h4 h5 hz6 hk1
              go_enter Try.func40, Try.ntmps40
              go_wp2_with ((with_reducible refine (C _ (HR.out.call hbw.out)).out.mono ?_); rintro e w1 ⟨rfl, hq⟩; replace hbw := Lib.hid (hbw.out.trans (hq.mono hbw.out.size)); clear hq)
              go_ret
              exact ⟨rfl, hbw.out⟩
            · have n6 : (O == 6) = false := beq_eq_false_iff_ne.2 h6
              have ho : O = 2 ∨ O = 7 ∨ O = 8 := by rw [hO] at hop; omega
              obtain ⟨m, hm⟩ : ∃ m : Nat, kidsN nd = m := ⟨_, rfl⟩
              have hKm : K = (m : Int) := by unfold kidsN at hm; rw [hK] at hkid hm; omega
              have hm9 : m ≤ 32 := by unfold kidsN at hm; omega
              clear hK
              subst hKm
              have hme : m ≤ e := by omega
              have HV := Lib.hid (hv.symm.trans (val_else (by rw [hO]; exact ho) _ _))
              rw [hm, hO] at HV
              have HD := Lib.hid he
              have HZ := Lib.hid hz
              have HN := Lib.hid hn
              obtain ⟨W1, hW1⟩ : ∃ W1, w.alloc (.cells #[.int .i64 O, .int .i64 m, .string S, .string T] 33) = W1 := ⟨_, rfl⟩
              have HB1 := Lib.hid hbw.out
              rw [hW1] at HB1
              have hnb := heap_new w (.cells #[.int .i64 O, .int .i64 m, .string S, .string T] 33) _ rfl
              rw [hW1] at hnb
              have g0 : W1.cell? ⟨w.heap.size, 0, none⟩ = some (.int .i64 O) := by rw [cell_of_row _ _ _ _ _ _ hnb]; rfl
              have g1 : W1.cell? ⟨w.heap.size, 1, none⟩ = some (.int .i64 m) := by rw [cell_of_row _ _ _ _ _ _ hnb]; rfl
              have hl1 := lt_of_block hnb
              have HG0 := Lib.hid g0
              have HG1 := Lib.hid g1
              clear hv hO hS hT hg hd he hz hr hx hp hpn hpk hkid hop hnv hke h1 h3 h4 h5 h6 hm hn hnb hbw
              go_enter Try.func40, Try.ntmps40
              go_wp2_with fail
              go_loopw [8, 9, 10, 11] (fun sa so sf si wr => ∃ (i q : Nat) (va vo : Bool), i ≤ m ∧ q ≤ k ∧ Hid (cntV i (l.take k).reverse = some (l.take q).reverse) ∧ Hid (depV (l.take q) 0 = some (e - i)) ∧ Hid (stkV (l.take q) = (stkV (l.take k)).drop i) ∧
                Hid (((stkV (l.take k)).take i).all (fun k => k s) = va) ∧ Hid (((stkV (l.take k)).take i).any (fun k => k s) = vo) ∧ sa = .bool va ∧ so = .bool vo ∧ sf = .int .i64 q ∧ si = .int .i64 i ∧ Hid (Below W1.heap.size W1 wr)) (fun _ _ _ i _ => m - (intOf i).toNat)
              case atStart => exact ⟨0, k, true, false, by omega, Nat.le_refl _, cntV_zero _, HD.out, rfl, rfl, rfl, rfl, rfl, rfl, rfl, Below.refl _ _⟩
              case round =>
                obtain ⟨i, q, va, vo, hi, hq, HC, HDQ, HSQ, HVA, HVO, rfl, rfl, rfl, rfl, HB⟩ := hrel
                clear g0 g1
                have d0 := ((bcell HB.out).1 _ _ hl1).trans HG0.out
                have d1 := ((bcell HB.out).1 _ _ hl1).trans HG1.out
                by_cases hlt : i < m
                · have hei : i < e := by omega
                  have hst := stk_at HZ.out hei HSQ.out
                  obtain ⟨z, hz⟩ : ∃ z, topV (l.take q) s = z := ⟨_, rfl⟩
                  have C1 := fun w' hr' => IH q (e - i) hq HDQ.out (by omega) z hz w' hr'
                  obtain ⟨q2, hq2, hc2, hl2, hd2, hs2⟩ := cnt_place HD.out (show i + 1 ≤ e by omega)
                  have hb2 : begV l q = (q2 : Nat) := beg_place (by
                    have := hc2
                    rw [cntV_add, HC.out] at this
                    exact this) hl2
                  have HA2 := Lib.hid ((take_all hst s).trans (by rw [HVA.out, hz]))
                  have HO2 := Lib.hid ((take_any hst s).trans (by rw [HVO.out, hz]))
                  have C2 := fun w' hr' => Lib.hid (ref_begin (some ⟨b, o, none⟩) c n l HN.out hn9 q q (Nat.le_refl _) (by omega) ((q : Int) - 1) rfl w' hr')
                  rw [hb2] at C2
                  have HC2 := Lib.hid hc2
                  have HD2 := Lib.hid hd2
                  have HS2 := Lib.hid hs2
                  have hw1 : IntKind.i64.wrap ((q : Int) - 1) = (q : Int) - 1 := IntWalk.i64_in _ (by omega)
                  clear hst hz hc2 hl2 hd2 hs2 hb2 HC HDQ HSQ HVA HVO IH
                  cases va <;> cases vo
                  all_goals
                    go_wp2_with (first
                      | ((with_reducible refine (C1 _ (HR.out.call (HB1.out.trans (HB.out.mono HB1.out.size)))).out.mono ?_); rintro e1 w2 ⟨rfl, hq1⟩; replace HB := Lib.hid (HB.out.trans (hq1.mono HB.out.size)); clear hq1)
                      | ((with_reducible refine (C2 _ (HR.out.call (HB1.out.trans (HB.out.mono HB1.out.size)))).out.mono ?_); rintro e1 w2 ⟨rfl, hq1⟩; replace HB := Lib.hid (HB.out.trans (hq1.mono HB.out.size)); clear hq1))
                    go_roundw
                    case rel => exact ⟨i + 1, q2, _, _, by omega, hq2, HC2, HD2, HS2, HA2, HO2, rfl, rfl, rfl, by go_num, HB⟩
                    case measure => simp [intOf]; omega
                · have him : i = m := by omega
                  subst him
                  have HE := Lib.hid (HV.out.trans (by rw [HVA.out, HVO.out]))
                  clear IH HC HDQ HSQ HVA HVO
                  rcases ho with rfl | rfl | rfl <;> cases va <;> cases vo
                  all_goals
                    go_wp2_with fail
                    go_ret
                    exact ⟨ret_bool HE.out.symm, HB1.out.trans (HB.out.mono HB1.out.size)⟩
end Go.Proofs.Ytbobgkepnocenaa

/-
  Layer 7 (span): the ranges of one text, and of those that begin with one.
-/
namespace Go.Proofs.Ytbobgkepnocenaa
open Go.RowKit

theorem all_is (S T : ByteArray) (o : Bool) (h : IsR allR S T o) (w : World) : Calls Try.prog 52 #[] w fun e w' => e = .returned (.agg #[.string S, .string T, .bool o]) ∧ Below w.heap.size w w' := by
  obtain ⟨rfl, rfl, rfl⟩ := h
  exact span_all w
/-- What the range of a prefix is, in terms of the prefix's end. -/
theorem prefixR_end {p : List UInt8} (h : p.length ≤ 16) {x : List UInt8} {v : Bool} (hv : (endV p = some x ∧ v = true) ∨ (endV p = none ∧ x = [] ∧ v = false)) : prefixR p = ⟨p, x, !v⟩ := by
  rcases hv with ⟨h1, rfl⟩ | ⟨h1, rfl, rfl⟩
  · rw [prefixR_some h h1]; rfl
  · rw [prefixR_none h h1]; rfl
theorem span_prefix (k : List UInt8) (r : Rng) (K S T : ByteArray) (o : Bool) (hK : str k = K) (hk : k.length ≤ 1000000) (hr : prefixR k = r) (h : IsR r S T o) (w : World) :
    Calls Try.prog 53 #[.string K] w fun e w' => e = .returned (.agg #[.string S, .string T, .bool o]) ∧ Below w.heap.size w w' := by
  have hz : K.size = k.length := by subst hK; exact str_size _
  by_cases g : k.length ≤ 16
  · have g1 : K.size ≤ 16 := by omega
    obtain ⟨x, v, hv⟩ := endO k
    rw [prefixR_end g hv] at hr
    subst hr
    obtain ⟨h1, h2, rfl⟩ := h
    obtain rfl : K = S := hK.symm.trans h1
    have N := fun w => Lib.hid (endO_is k x v K T hK h2 (by omega) hv w)
    clear hz hK h1 h2 g hv
    go_enter Try.func53, Try.ntmps53
    go_wp2_with ((with_reducible refine (N _).out.mono ?_); rintro e w' ⟨rfl, hb⟩; obtain ⟨hc, hf⟩ := bcell hb; replace hb := ((Below.refl w.heap.size w).alloc (Nat.le_refl _) _).trans (hb.mono (by simp)))
    exact bodyPost_ret (v := .agg #[.string K, .string T, .bool !v]) (by simp [results, Try.results53, go_sem, hc]) rfl ⟨rfl, below_set3 hb (Nat.le_refl _) _ _ _⟩
  · have g1 : 16 < K.size := by omega
    rw [prefixR_long (by omega)] at hr
    subst hr
    obtain ⟨rfl, rfl, rfl⟩ := h
    clear hz hK g
    go_enter Try.func53, Try.ntmps53
    go_wp2_with fail
    exact bodyPost_ret (v := .agg #[.string ⟨#[]⟩, .string ⟨#[]⟩, .bool false]) (by simp [results, Try.results53, go_sem]) rfl ⟨rfl, (Below.refl _ _).alloc (Nat.le_refl _) _⟩
theorem ref_prefix (k : List UInt8) (r : Rng) (K S T : ByteArray) (o : Bool) (hK : str k = K) (hk : k.length ≤ 1000000) (hr : prefixR k = r) (h : IsR r S T o) (w : World) :
    Calls Try.prog 41 #[.string K] w fun e w' => e = .returned (.agg #[.string S, .string T, .bool o]) ∧ Below w.heap.size w w' := by
  have hz : K.size = k.length := by subst hK; exact str_size _
  by_cases g : k.length ≤ 16
  · have g1 : K.size ≤ 16 := by omega
    obtain ⟨x, v, hv⟩ := endO k
    have hx : v = false → x = [] := by rintro rfl; rcases hv with ⟨_, h⟩ | ⟨_, h, _⟩; cases h; exact h
    rw [prefixR_end g hv] at hr
    subst hr
    obtain ⟨h1, h2, rfl⟩ := h
    obtain rfl : K = S := hK.symm.trans h1
    have N := fun w => Lib.hid (rendO_is k x v K T hK h2 (by omega) hv w)
    have hT : v = false → ⟨#[]⟩ = T := by intro e; rw [← h2, hx e]; rfl
    clear hz hK h1 h2 g hv hx
    cases v
    · obtain rfl := hT rfl
      clear hT
      go_enter Try.func41, Try.ntmps41
      go_wp2_with ((with_reducible refine (N _).out.mono ?_); rintro e w' ⟨rfl, hb⟩; obtain ⟨hc, hf⟩ := bcell hb; replace hb := ((Below.refl w.heap.size w).alloc (Nat.le_refl _) _).trans (hb.mono (by simp)))
      exact bodyPost_ret (v := .agg #[.string K, .string ⟨#[]⟩, .bool true]) (by simp [results, Try.results41, go_sem, hc]) rfl ⟨rfl, below_set3 hb (Nat.le_refl _) _ _ _⟩
    · clear hT
      go_enter Try.func41, Try.ntmps41
      go_wp2_with ((with_reducible refine (N _).out.mono ?_); rintro e w' ⟨rfl, hb⟩; obtain ⟨hc, hf⟩ := bcell hb; replace hb := ((Below.refl w.heap.size w).alloc (Nat.le_refl _) _).trans (hb.mono (by simp)))
      exact bodyPost_ret (v := .agg #[.string K, .string T, .bool false]) (by simp [results, Try.results41, go_sem, hc]) rfl ⟨rfl, below_set3 hb (Nat.le_refl _) _ _ _⟩
  · have g1 : 16 < K.size := by omega
    rw [prefixR_long (by omega)] at hr
    subst hr
    obtain ⟨rfl, rfl, rfl⟩ := h
    clear hz hK g
    go_enter Try.func41, Try.ntmps41
    go_wp2_with fail
    exact bodyPost_ret (v := .agg #[.string ⟨#[]⟩, .string ⟨#[]⟩, .bool false]) (by simp [results, Try.results41, go_sem]) rfl ⟨rfl, (Below.refl _ _).alloc (Nat.le_refl _) _⟩
end Go.Proofs.Ytbobgkepnocenaa

/-
  A walk through a statement that draws its order, operation by operation: also those operations that a guard leaves out.
-/
namespace Go.Proofs.Ytbobgkepnocenaa

section
variable {P : Program} {l : List Oper} {Q : Exit → Act → World → Prop} {md : Region.Mode} {S : World → Prop}

/-- An operation that is wanted, and yields its value in every world that meets S, comes up next. -/
theorem take_yes {i : Nat} {oi : Oper} {v : Value} {fuel : Nat} {listed : Array Bool} {a : Act} {w : World} (hi : l[i]? = some oi)
    (hs : Region.noSelect l.toArray = true) (hf : Region.free md l.toArray listed i = true) (hr : (Region.ready md l.toArray listed).contains i = true)
    (hQ : ∀ c a w, Q (.panic c) (a.put oi.dst v) w → Q (.panic c) a w) (hw : Region.wanted oi (yielded l.toArray a.tmps) = true) (hS : S w) (hy : ∀ w, S w → (execOp a.eval oi).run P w = .ok (.value v) w)
    (h : wpAnyH P md l.toArray Q S fuel (listed.setIfInBounds i true) (a.put oi.dst v) w) : wpAnyH P md l.toArray Q S (fuel + 1) listed a w :=
  wpAnyH_take (by rw [List.getElem?_toArray]; exact hi) hs hf hr hQ (.inl ⟨hw, hy⟩) hS h
/-- An operation that its guard leaves out comes up next. -/
theorem take_no {i : Nat} {oi : Oper} {fuel : Nat} {listed : Array Bool} {a : Act} {w : World} (hi : l[i]? = some oi)
    (hs : Region.noSelect l.toArray = true) (hf : Region.free md l.toArray listed i = true) (hr : (Region.ready md l.toArray listed).contains i = true)
    (hQ : ∀ c a w, Q (.panic c) (a.put oi.dst undef) w → Q (.panic c) a w) (hw : Region.wanted oi (yielded l.toArray a.tmps) = false) (hS : S w)
    (h : wpAnyH P md l.toArray Q S fuel (listed.setIfInBounds i true) (a.put oi.dst undef) w) : wpAnyH P md l.toArray Q S (fuel + 1) listed a w :=
  wpAnyH_take (by rw [List.getElem?_toArray]; exact hi) hs hf hr hQ (.inr ⟨hw, rfl⟩) hS h
/-- An operation that alone may come up, and is wanted. -/
theorem call_one {i : Nat} {o : Oper} {fuel : Nat} {listed : Array Bool} {a : Act} {w : World} (hi : l[i]? = some o) (hr : Region.ready md l.toArray listed = [i])
    (hw : Region.wanted o (yielded l.toArray a.tmps) = true)
    (h : ∀ K' : Act → World → Prop, Shut (∀ a w, S w → (S w → wpAnyH P md l.toArray Q S fuel (listed.setIfInBounds i true) a w) → K' a w) → Oper.wp P o a w K' Q) :
    wpAnyH P md l.toArray Q S (fuel + 1) listed a w :=
  wpAnyH_ready hr (by simp) (AllReadyH.cons (by rw [List.getElem?_toArray]; exact hi) (fun K' hK => by rw [if_pos hw]; exact h K' hK) AllReadyH.nil)
end
end Go.Proofs.Ytbobgkepnocenaa

/-
  Layer 9 (filter), the document's words: has a right filter a text; its leaves' ranges.
-/
namespace Go.Proofs.Ytbobgkepnocenaa
open Go.RowKit

theorem ref_nmatch (A : Option Addr) (c n : Nat) (l : List Nd) (s : List UInt8) (U : ByteArray) (hU : str s = U) (hs : s.length ≤ 1000000) (hn : n = l.length) (hn9 : n ≤ 100000) (v : Bool) (hv : matchN l s = v) (w : World) (hr : kNd.Rd w w.heap.size A c l) :
    Calls Try.prog 13 #[.slice A n c, .string U] w fun e w' => e = .returned (.bool v) ∧ Below w.heap.size w w' := by
  obtain ⟨z, hz⟩ : ∃ z, rightN l = z := ⟨_, rfl⟩
  have C := Lib.hid (ref_nright A c n l hn hn9 z hz w hr)
  unfold matchN at hv
  rw [hz] at hv
  cases z
  · obtain rfl : v = false := hv.symm
    clear hv hz hn hr
    go_enter Try.func13, Try.ntmps13
    go_wp2_with ((with_reducible refine C.out.mono ?_); rintro e w1 ⟨rfl, hq⟩)
    go_ret
    exact ⟨rfl, hq⟩
  · obtain ⟨h1, h2, h3⟩ := rightN_iff.1 hz
    have hl : l.take n = l := List.take_of_length_le (by omega)
    have C2 := fun w' hr' => Lib.hid (ref_nin A c n l s U hU hs hn hn9 n n 1 (Nat.le_refl _) (Nat.le_refl _) (by rw [hl]; exact h3) (Nat.le_refl _) ((n : Int) - 1) rfl v (by rw [hl]; exact hv) w' hr')
    have hw1 : IntKind.i64.wrap ((n : Int) - 1) = (n : Int) - 1 := IntWalk.i64_in _ (by omega)
    have HR := Lib.hid hr
    clear hv hz hn hr h1 h2 h3 hl
    go_enter Try.func13, Try.ntmps13
    go_wp2_with (first
      | ((with_reducible refine C.out.mono ?_); rintro e w1 ⟨rfl, hq⟩; have HQ := Lib.hid hq; clear hq)
      | ((with_reducible refine (C2 _ (HR.out.call HQ.out)).out.mono ?_); rintro e w2 ⟨rfl, hq⟩; replace HQ := Lib.hid (HQ.out.trans (hq.mono HQ.out.size)); clear hq))
    go_ret
    exact ⟨rfl, HQ.out⟩
theorem leaves_next {l : List Nd} {k : Nat} {n : Nd} (h : l[k]? = some n) : leavesL (l.take (k + 1)) = leavesL (l.take k) ++ (leafR n).toList := by
  unfold leavesL
  rw [List.take_add_one, h, List.filterMap_append]
  exact congrArg _ (by cases hl : leafR n <;> simp [hl])
theorem leaves_len (l : List Nd) : (leavesL l).length ≤ l.length := List.length_filterMap_le _ _
theorem leafR_3 {n : Nd} (h : n.op = 3) : leafR n = some (prefixR n.lo) := by unfold leafR; rw [if_pos h]
theorem leafR_4 {n : Nd} (h : n.op = 4) : leafR n = some ⟨n.lo, n.hi, false⟩ := by unfold leafR; rw [if_neg (by omega), if_pos h]
theorem leafR_5 {n : Nd} (h : n.op = 5) : leafR n = some ⟨n.lo, [], true⟩ := by unfold leafR; rw [if_neg (by omega), if_neg (by omega), if_pos h]
theorem leafR_no {n : Nd} (h3 : n.op ≠ 3) (h4 : n.op ≠ 4) (h5 : n.op ≠ 5) : leafR n = none := by unfold leafR; rw [if_neg h3, if_neg h4, if_neg h5]
theorem rng_row_n (w : World) (r : Rng) (S T : ByteArray) (o : Bool) (h : IsR r S T o) : RowAt (w.alloc (.cells #[.string S, .string T, .bool o] 45)) (w.heap.size + 1) (some ⟨w.heap.size, 0, none⟩) (kRng.row [r]) := by
  obtain ⟨h1, h2, h3⟩ := h
  have := (rng_row w r 1 rfl).row
  rwa [h1, h2, h3] at this
set_option maxRecDepth 100000 in
set_option maxHeartbeats 8000000 in
theorem ref_nranges (A : Option Addr) (c n : Nat) (l : List Nd) (hn : n = l.length) (hn9 : n ≤ 100000) (hlo : ∀ r ∈ l, r.lo.length ≤ 1000000) (w : World) (hr : kNd.Rd w w.heap.size A c l) :
    Calls Try.prog 15 #[.slice A n c] w (RetR w (rangesN l)) := by
  obtain ⟨z, hz⟩ : ∃ z, rightN l = z := ⟨_, rfl⟩
  have C := Lib.hid (ref_nright A c n l hn hn9 z hz w hr)
  unfold rangesN
  rw [hz]
  cases z
  · clear hn hr hz
    go_enter Try.func15, Try.ntmps15
    go_wp2_with ((with_reducible refine C.out.mono ?_); rintro e w1 ⟨rfl, hq⟩)
    go_ret
    exact ⟨none, 0, rfl, Kind.Rd.nil _ _, hq⟩
  · obtain ⟨h1, h2, -⟩ := rightN_iff.1 hz
    have HR := Lib.hid hr
    have HN := Lib.hid hn
    have hn32 : n ≤ 32 := by omega
    have hcx : n ≤ c := by rw [hn]; exact hr.room
    have MT := fun s hs v hv w' hr' => Lib.hid (ref_nmatch A c n l s (str s) rfl hs hn hn9 v hv w' hr')
    have HLO := Lib.hid hlo
    obtain ⟨b, o, hA, hb1, hcell⟩ := nds_at hr (by omega)
    subst hA
    have HCL := Lib.hid hcell
    clear hn hr hz h1 h2 hlo hcell
    show Calls _ _ _ _ (RetR w (mkR (matchN l) (edgesL (leavesL l)) none))
    go_enter Try.func15, Try.ntmps15
    go_wp2_with ((with_reducible refine C.out.mono ?_); rintro e w1 ⟨rfl, hq⟩; have HQ := Lib.hid hq; clear hq)
    have hbl1 := Nat.lt_of_lt_of_le hb1 HQ.out.size
    go_loopw [4, 5] (fun v i wr => ∃ k : Nat, k ≤ n ∧ Hid (kRng.Own wr w1.heap.size v (leavesL (l.take k))) ∧ i = .int .i64 k ∧ Hid (Below w1.heap.size w1 wr)) (fun _ i _ => n - (intOf i).toNat)
    case atStart => exact ⟨0, by omega, Kind.Own.nil _ _, rfl, Below.refl _ _⟩
    case round =>
      obtain ⟨k, hk, HO, rfl, HB⟩ := hrel
      have hol : (leavesL (l.take k)).length ≤ k := Nat.le_trans (leaves_len _) (by rw [List.length_take]; omega)
      by_cases hlt : k < n
      · obtain ⟨nd, hg, -, hmem⟩ := get_some (l := l) (k := k) (by have := HN.out; omega)
        have hb0 := HQ.out.trans (HB.out.mono HQ.out.size)
        obtain ⟨d0, -, d2, d3⟩ := HCL.out k nd hg
        have c0 := ((bcell hb0).1 _ _ hb1).trans d0
        have c2 := ((bcell hb0).1 _ _ hb1).trans d2
        have c3 := ((bcell hb0).1 _ _ hb1).trans d3
        have HLX := Lib.hid (leaves_next hg)
        have hll := HLO.out nd hmem
        obtain ⟨O, hO⟩ : ∃ O, nd.op = O := ⟨_, rfl⟩
        obtain ⟨S, hS⟩ : ∃ S, str nd.lo = S := ⟨_, rfl⟩
        obtain ⟨T, hT⟩ : ∃ T, str nd.hi = T := ⟨_, rfl⟩
        rw [hO] at c0
        rw [hS] at c2
        rw [hT] at c3
        have hk2 : (0 : Int) ≤ (k : Int) := by omega
        have hkn2 : (k : Int) < (n : Int) := by omega
        by_cases h3 : O = 3
        · obtain ⟨r, hr⟩ : ∃ r, prefixR nd.lo = r := ⟨_, rfl⟩
          have hX := HLX.out
          rw [leafR_3 (hO.trans h3), hr] at hX
          have P := fun w => Lib.hid (ref_prefix nd.lo r S _ _ _ hS hll hr (IsR.mk' r) w)
          obtain ⟨X, hX1⟩ : ∃ X, str r.lo = X := ⟨_, rfl⟩
          obtain ⟨Y, hY1⟩ : ∃ Y, str r.hi = Y := ⟨_, rfl⟩
          obtain ⟨q, hq1⟩ : ∃ q, r.op = q := ⟨_, rfl⟩
          have HRW := fun w => Lib.hid (rng_row_n w r X Y q ⟨hX1, hY1, hq1⟩)
          rw [hX1, hY1, hq1] at P
          have HX := Lib.hid hX
          have HLE := Lib.hid (show (leavesL (l.take k)).length + [r].length ≤ 1000000 by rw [List.length_singleton]; omega)
          have hbk : b < wr.heap.size := Nat.lt_of_lt_of_le hbl1 HB.out.size
          subst h3
          clear hg hmem hO hS hT hr hX hX1 hY1 hq1 HLX d0 d2 d3 MT hb0 hll
          go_wp2_with (first
            | ((with_reducible refine (P _).out.mono ?_); rintro e w2 ⟨rfl, hq⟩; have HO2 := Lib.hid (HO.out.below hq); have HB2 := Lib.hid (HB.out.trans (hq.mono HB.out.size)); replace c0 := ((bcell hq).1 _ _ hbk).trans c0; replace c2 := ((bcell hq).1 _ _ hbk).trans c2; clear hq)
            | (at_builtin; refine wpList_app_k kRng rfl (.tmp 26) (.tmp 33) rfl w1.heap.size _ _ rfl (Kind.Own.alloc HO2.out _) _ (some ⟨w2.heap.size, 0, none⟩) 1 1 [r] rfl rfl (HRW w2).out HLE.out (by decide) (le_alloc HB2.out.size _) ?_; intro v3 w3 hown3 hg3 hb3 _; have HO3 := Lib.hid hown3; have hq3 := (HB2.out.alloc HB2.out.size _).trans hb3; have HB3 := Lib.hid hq3; replace c0 := ((bcell hb3).1 _ _ hbl1).trans ((alloc_keeps w2 _ _ _ (Nat.lt_of_lt_of_le hbl1 HB2.out.size)).trans c0); clear hown3 hb3 hg3 hq3))
          go_roundw
          case rel => exact ⟨k + 1, by omega, by have h := HO3.out; rw [HX.out]; exact h, by go_num, HB3⟩
          case measure => simp [intOf]; omega
        · have n3 : (O == 3) = false := beq_eq_false_iff_ne.2 h3
          by_cases h4 : O = 4
          · have hX := HLX.out
            rw [leafR_4 (hO.trans h4)] at hX
            obtain ⟨r, hr⟩ : ∃ r : Rng, (⟨nd.lo, nd.hi, false⟩ : Rng) = r := ⟨_, rfl⟩
            rw [hr] at hX
            have HRW := fun w => Lib.hid (rng_row_n w r S T false (by subst hr; exact ⟨hS, hT, rfl⟩))
            have HX := Lib.hid hX
            have HLE := Lib.hid (show (leavesL (l.take k)).length + [r].length ≤ 1000000 by rw [List.length_singleton]; omega)
            subst h4
            clear hg hmem hO hS hT hr hX HLX d0 d2 d3 MT hb0 hll h3
            go_upto_region 11 with fail
            have HCL := Lib.hid (show CellL w1 [(⟨b, o + k * 4 + 2, none⟩, .string S), (⟨b, o + k * 4 + 3, none⟩, .string T)] wr from ⟨c2, c3, HB.out⟩)
            refine wp_region_noPanic ?_
            refine wp_region_held_drew (S := CellL w1 [(⟨b, o + k * 4 + 2, none⟩, .string S), (⟨b, o + k * 4 + 3, none⟩, .string T)]) (by kernel_rfl) (cellL_drew HCL.out) (fun hHeld => ?_)
            refine take_yes (i := 0) (v := ?_) rfl (by kernel_rfl) (by kernel_rfl) (by kernel_rfl) (fun _ _ _ h => h) (by rfl) (by assumption) ?_ ?_; rotate_left; (focus ((intro w hSw); (try simp only [CellL] at hSw); go_split_ands; go_simp; (try with_reducible rfl); done))
            (try simp only [Act.put, List.setIfInBounds_toArray, List.set_cons_zero, List.set_cons_succ])
            refine take_yes (i := 1) (v := ?_) rfl (by kernel_rfl) (by kernel_rfl) (by kernel_rfl) (fun _ _ _ h => h) (by rfl) (by assumption) ?_ ?_; rotate_left; (focus ((intro w hSw); (try simp only [CellL] at hSw); go_split_ands; go_simp; (try with_reducible rfl); done))
            (try simp only [Act.put, List.setIfInBounds_toArray, List.set_cons_zero, List.set_cons_succ])
            refine take_yes (i := 2) (v := ?_) rfl (by kernel_rfl) (by kernel_rfl) (by kernel_rfl) (fun _ _ _ h => h) (by rfl) (by assumption) ?_ ?_; rotate_left; (focus ((intro w hSw); (try simp only [CellL] at hSw); go_split_ands; go_simp; (try with_reducible rfl); done))
            (try simp only [Act.put, List.setIfInBounds_toArray, List.set_cons_zero, List.set_cons_succ])
            refine take_yes (i := 3) (v := ?_) rfl (by kernel_rfl) (by kernel_rfl) (by kernel_rfl) (fun _ _ _ h => h) (by rfl) (by assumption) ?_ ?_; rotate_left; (focus ((intro w hSw); (try simp only [CellL] at hSw); go_split_ands; go_simp; (try with_reducible rfl); done))
            (try simp only [Act.put, List.setIfInBounds_toArray, List.set_cons_zero, List.set_cons_succ])
            refine take_yes (i := 4) (v := ?_) rfl (by kernel_rfl) (by kernel_rfl) (by kernel_rfl) (fun _ _ _ h => h) (by rfl) (by assumption) ?_ ?_; rotate_left; (focus ((intro w hSw); (try simp only [CellL] at hSw); go_split_ands; go_simp; (try with_reducible rfl); done))
            (try simp only [Act.put, List.setIfInBounds_toArray, List.set_cons_zero, List.set_cons_succ])
            refine take_yes (i := 5) (v := ?_) rfl (by kernel_rfl) (by kernel_rfl) (by kernel_rfl) (fun _ _ _ h => h) (by rfl) (by assumption) ?_ ?_; rotate_left; (focus ((intro w hSw); (try simp only [CellL] at hSw); go_split_ands; go_simp; (try with_reducible rfl); done))
            (try simp only [Act.put, List.setIfInBounds_toArray, List.set_cons_zero, List.set_cons_succ])
            refine take_yes (i := 6) (v := ?_) rfl (by kernel_rfl) (by kernel_rfl) (by kernel_rfl) (fun _ _ _ h => h) (by rfl) (by assumption) ?_ ?_; rotate_left; (focus ((intro w hSw); (try simp only [CellL] at hSw); go_split_ands; go_simp; (try with_reducible rfl); done))
            (try simp only [Act.put, List.setIfInBounds_toArray, List.set_cons_zero, List.set_cons_succ])
            refine take_yes (i := 7) (v := ?_) rfl (by kernel_rfl) (by kernel_rfl) (by kernel_rfl) (fun _ _ _ h => h) (by rfl) (by assumption) ?_ ?_; rotate_left; (focus ((intro w hSw); (try simp only [CellL] at hSw); go_split_ands; go_simp; (try with_reducible rfl); done))
            (try simp only [Act.put, List.setIfInBounds_toArray, List.set_cons_zero, List.set_cons_succ])
            refine take_yes (i := 8) (v := ?_) rfl (by kernel_rfl) (by kernel_rfl) (by kernel_rfl) (fun _ _ _ h => h) (by rfl) (by assumption) ?_ ?_; rotate_left; (focus ((intro w hSw); (try simp only [CellL] at hSw); go_split_ands; go_simp; (try with_reducible rfl); done))
            (try simp only [Act.put, List.setIfInBounds_toArray, List.set_cons_zero, List.set_cons_succ])
            refine take_yes (i := 9) (v := ?_) rfl (by kernel_rfl) (by kernel_rfl) (by kernel_rfl) (fun _ _ _ h => h) (by rfl) (by assumption) ?_ ?_; rotate_left; (focus ((intro w hSw); (try simp only [CellL] at hSw); go_split_ands; go_simp; (try with_reducible rfl); done))
            (try simp only [Act.put, List.setIfInBounds_toArray, List.set_cons_zero, List.set_cons_succ])
            refine take_yes (i := 10) (v := ?_) rfl (by kernel_rfl) (by kernel_rfl) (by kernel_rfl) (fun _ _ _ h => h) (by rfl) (by assumption) ?_ ?_; rotate_left; (focus ((intro w hSw); (try simp only [CellL] at hSw); go_split_ands; go_simp; (try with_reducible rfl); done))
            (try simp only [Act.put, List.setIfInBounds_toArray, List.set_cons_zero, List.set_cons_succ])
            refine take_yes (i := 11) (v := ?_) rfl (by kernel_rfl) (by kernel_rfl) (by kernel_rfl) (fun _ _ _ h => h) (by rfl) (by assumption) ?_ ?_; rotate_left; (focus ((intro w hSw); (try simp only [CellL] at hSw); go_split_ands; go_simp; (try with_reducible rfl); done))
            (try simp only [Act.put, List.setIfInBounds_toArray, List.set_cons_zero, List.set_cons_succ])
            refine call_one (i := 12) rfl (by kernel_rfl) (by rfl) (fun K hK => ?_)
            go_simp
            refine hK.out _ _ (cellL_call (below_new _ _) (by assumption)) (fun hHeld => ?_)
            clear hK K
            (try simp only [Act.put, List.setIfInBounds_toArray, List.set_cons_zero, List.set_cons_succ])
            have HOd := Lib.hid (show kRng.Own wr.drew w1.heap.size _ _ from HO.out)
            have HBd := Lib.hid HB.out.drew
            refine call_one (i := 13) rfl (by kernel_rfl) (by rfl) (fun K hK => ?_)
            refine op_app_k kRng (.tmp 41) (.tmp 53) rfl w1.heap.size _ _ rfl (Kind.Own.alloc HOd.out _) _ (some ⟨wr.heap.size, 0, none⟩) 1 1 [r] rfl rfl (HRW wr.drew).out HLE.out (by decide) (le_alloc HBd.out.size _) ?_
            intro v3 w3 hown3 hg3 hb3 _
            have HO3 := Lib.hid hown3
            have HB3 := Lib.hid ((HBd.out.alloc HBd.out.size _).trans hb3)
            replace c0 := ((bcell hb3).1 _ _ hbl1).trans ((alloc_keeps wr.drew _ _ _ (Nat.lt_of_lt_of_le hbl1 HB.out.size)).trans c0)
            refine hK.out _ _ ⟨((bcell hb3).1 _ _ hbl1).trans ((alloc_keeps wr.drew _ _ _ (Nat.lt_of_lt_of_le hbl1 HB.out.size)).trans c2), ((bcell hb3).1 _ _ hbl1).trans ((alloc_keeps wr.drew _ _ _ (Nat.lt_of_lt_of_le hbl1 HB.out.size)).trans c3), HB3.out⟩ (fun hHeld => ?_)
            clear hK K hown3 hg3 hb3
            (try simp only [Act.put, List.setIfInBounds_toArray, List.set_cons_zero, List.set_cons_succ])
            refine take_yes (i := 14) (v := ?_) rfl (by kernel_rfl) (by kernel_rfl) (by kernel_rfl) (fun _ _ _ h => h) (by rfl) (by assumption) ?_ ?_; rotate_left; (focus ((intro w hSw); (try simp only [CellL] at hSw); go_split_ands; go_simp; (try with_reducible rfl); done))
            (try simp only [Act.put, List.setIfInBounds_toArray, List.set_cons_zero, List.set_cons_succ])
            refine wpAnyH_done (by kernel_rfl) ?_ _
            refine NoPanic.normal ?_
            clear c2 c3 hHeld
            go_wp2_with fail
            go_roundw
            case rel => exact ⟨k + 1, by omega, by have h := HO3.out; rw [HX.out]; exact h, by go_num, HB3⟩
            case measure => simp [intOf]; omega
          · have n4 : (O == 4) = false := beq_eq_false_iff_ne.2 h4
            by_cases h5 : O = 5
            · have hX := HLX.out
              rw [leafR_5 (hO.trans h5)] at hX
              obtain ⟨r, hr⟩ : ∃ r : Rng, (⟨nd.lo, [], true⟩ : Rng) = r := ⟨_, rfl⟩
              rw [hr] at hX
              have HRW := fun w => Lib.hid (rng_row_n w r S ⟨#[]⟩ true (by subst hr; exact ⟨hS, rfl, rfl⟩))
              have HX := Lib.hid hX
              have HLE := Lib.hid (show (leavesL (l.take k)).length + [r].length ≤ 1000000 by rw [List.length_singleton]; omega)
              subst h5
              clear hg hmem hO hS hT hr hX HLX d0 d2 d3 MT hb0 hll h3 h4
              go_wp2_with (at_builtin; refine wpList_app_k kRng rfl (.tmp 61) (.tmp 68) rfl w1.heap.size _ _ rfl (Kind.Own.alloc HO.out _) _ (some ⟨wr.heap.size, 0, none⟩) 1 1 [r] rfl rfl (HRW wr).out HLE.out (by decide) (le_alloc HB.out.size _) ?_; intro v3 w3 hown3 hg3 hb3 _; have HO3 := Lib.hid hown3; have HB3 := Lib.hid ((HB.out.alloc HB.out.size _).trans hb3); clear hown3 hb3 hg3)
              go_roundw
              case rel => exact ⟨k + 1, by omega, by have h := HO3.out; rw [HX.out]; exact h, by go_num, HB3⟩
              case measure => simp [intOf]; omega
            · have n5 : (O == 5) = false := beq_eq_false_iff_ne.2 h5
              have hX := HLX.out
              rw [leafR_no (by rw [hO]; exact h3) (by rw [hO]; exact h4) (by rw [hO]; exact h5), Option.toList_none, List.append_nil] at hX
              have HX := Lib.hid hX
              clear hg hmem hO hS hT hX HLX d0 d2 d3 MT hb0 hll h3 h4 h5
              go_wp2_with fail
              go_roundw
              case rel => exact ⟨k + 1, by omega, by rw [HX.out]; exact HO.out, by go_num, HB⟩
              case measure => simp [intOf]; omega
      · have hkn : l.take k = l := List.take_of_length_le (by have := HN.out; omega)
        rw [hkn] at HO hol
        obtain ⟨LV, hLV⟩ : ∃ LV, leavesL l = LV := ⟨_, rfl⟩
        rw [hLV] at HO hol
        obtain ⟨lv, hlv⟩ : ∃ lv, LV.length = lv := ⟨_, rfl⟩
        obtain ⟨A4, c4, rfl, -⟩ := HO.out.read_n hlv.symm
        obtain ⟨E, hE⟩ : ∃ E, edgesL LV = E := ⟨_, rfl⟩
        have ED := fun w' (hb : Below wr.heap.size wr w') B hB => Lib.hid (ref_edges A4 B c4 0 lv 0 LV [] hlv.symm rfl (by omega) (by omega) w' (HO.out.rd.call hb) hB)
        rw [List.append_nil, hE] at ED
        have H17 := Lib.hid (show ∀ x ∈ E, x.length ≤ 17 by rw [← hE]; exact (edgesL_ok _).all)
        have HEL := Lib.hid (show E.length ≤ 4001 by rw [← hE]; have := edgesL_len LV; omega)
        obtain ⟨N, hN⟩ : ∃ N, E.length = N := ⟨_, rfl⟩
        have HNN := Lib.hid hN
        have HLV := Lib.hid hLV
        have HEE := Lib.hid hE
        clear hkn hLV hlv hE hN hol
        go_wp2_with ((with_reducible refine (ED _ (below_new _ _) _ (Kind.Rd.empty _ _ _ _ (Nat.zero_le _))).out.mono ?_); rintro e w2 ⟨A2, c2, rfl, hrd, hq⟩; have HD := Lib.hid hrd; have HQ2 := Lib.hid ((HQ.out.trans (HB.out.mono HQ.out.size)).trans (((below_new _ _).trans (hq.mono (by simp))).mono (Nat.le_trans HQ.out.size HB.out.size))); clear hrd hq)
        rw [HNN.out]
        have hcn : N ≤ c2 := by rw [← HNN.out]; exact HD.out.room
        have hnx : N ≤ 4001 := by rw [← HNN.out]; exact HEL.out
        go_loopw [3, 7, 8] (fun v was i wr => ∃ (k : Nat) (pd : Option (List UInt8)) (dn : List Rng), k ≤ N ∧ Hid (mkR (matchN l) E none = dn ++ mkR (matchN l) (E.drop k) pd) ∧ Hid (kRng.Own wr w2.heap.size v (dn ++ pendR pd)) ∧ (dn ++ pendR pd).length ≤ k ∧ was = .bool pd.isSome ∧ i = .int .i64 k ∧ Below w2.heap.size w2 wr) (fun _ _ i _ => N - (intOf i).toNat)
        case atStart => exact ⟨0, none, [], by omega, rfl, Kind.Own.nil _ _, by simp [pendR], rfl, rfl, Below.refl _ _⟩
        case round =>
          obtain ⟨k, pd, dn, hk, HL, HO, hol, rfl, rfl, hbw⟩ := hrel
          by_cases hlt : k < N
          · obtain ⟨x, hg, hd, hm⟩ := get_some (l := E) (k := k) (by have := HNN.out; omega)
            obtain ⟨b1, o1, rfl, hbb, hcell⟩ := texts_at (HD.out.below hbw) (by have := HNN.out; omega)
            have k0 := hcell k x hg
            have hbl := Nat.lt_of_lt_of_le hbb hbw.size
            obtain ⟨y, hy⟩ : ∃ y, matchN l x = y := ⟨_, rfl⟩
            have C := MT x (Nat.le_trans (H17.out x hm) (by decide)) y hy
            cases y
            · cases pd with
              | none =>
                have HL2 := Lib.hid (HL.out.trans (by rw [hd, mkR_out hy]))
                clear hcell hg hd hm hy MT ED
                go_wp2_with ((with_reducible refine (C _ (HR.out.call (HQ2.out.trans (hbw.mono HQ2.out.size)))).out.mono ?_); rintro e5 w5 ⟨rfl, hq⟩; have HO2 := Lib.hid (HO.out.below hq); have HB2 := Lib.hid (hbw.trans (hq.mono hbw.size)))
                go_roundw
                case rel => exact ⟨k + 1, none, dn, by omega, HL2, HO2, by omega, rfl, by go_num, HB2.out⟩
                case measure => simp [intOf]; omega
              | some lo =>
                have HL2 := Lib.hid (HL.out.trans (show dn ++ mkR (matchN l) (E.drop k) (some lo) = (dn ++ [⟨lo, x, false⟩]) ++ mkR (matchN l) (E.drop (k + 1)) none by rw [hd, mkR_off hy]; simp))
                clear hcell hg hd hm hy MT ED
                obtain ⟨D, hD⟩ : ∃ D, dn.length = D := ⟨_, rfl⟩
                have hLn : D + 1 = (dn ++ pendR (some lo)).length := by rw [List.length_append, hD]; rfl
                obtain ⟨g, cp, rfl, hcp, hgb, -, -, -⟩ := HO.out.some_ hLn (by omega)
                have hga : (dn ++ pendR (some lo))[D]? = some ⟨lo, [], true⟩ := by rw [← hD, List.getElem?_append_right (Nat.le_refl _), Nat.sub_self]; rfl
                have hD9 : D + 1 ≤ k := by omega
                have hD8 : D ≤ 5000 := by omega
                have HGA := Lib.hid hga
                have HLN := Lib.hid hLn
                have HDD := Lib.hid hD
                clear hga hLn hD
                go_wp2_with ((with_reducible refine (C _ (HR.out.call (HQ2.out.trans (hbw.mono HQ2.out.size)))).out.mono ?_); rintro e5 w5 ⟨rfl, hq⟩; have HO2 := Lib.hid (HO.out.below hq); have HB2 := Lib.hid (hbw.trans (hq.mono hbw.size)); obtain ⟨hg1, hg2, hfz, hcs⟩ := HO2.out.at_g HLN.out (by omega); have e1 := hcs D _ HGA.out 1 _ rfl; have e2 := hcs D _ HGA.out 2 _ rfl; change w5.cell? ⟨g, D * 3 + 1, none⟩ = _ at e1; change w5.cell? ⟨g, D * 3 + 2, none⟩ = _ at e2; replace k0 := ((bcell hq).1 _ _ hbl).trans k0; have HOF := Lib.hid (own_end HO2.out HLN.out HDD.out x); have HBF := Lib.hid ((HB2.out.setCell (p := ⟨g, D * 3 + 1, none⟩) hg1 (.string (str x))).setCell (p := ⟨g, D * 3 + 2, none⟩) hg1 (.bool false)); clear hcs hq)
                go_roundw
                case rel => exact ⟨k + 1, none, dn ++ [⟨lo, x, false⟩], by omega, HL2, HOF, by simp [pendR]; have := HDD.out; omega, rfl, by go_num, HBF.out⟩
                case measure => simp [intOf]; omega
            · cases pd with
              | none =>
                have HL2 := Lib.hid (HL.out.trans (by rw [hd, mkR_on hy]))
                clear hcell hg hd hm hy MT ED
                have HLE := Lib.hid (show (dn ++ pendR none).length + [(⟨x, [], true⟩ : Rng)].length ≤ 1000000 by rw [List.length_singleton]; omega)
                go_wp2_with (first
                  | ((with_reducible refine (C _ (HR.out.call (HQ2.out.trans (hbw.mono HQ2.out.size)))).out.mono ?_); rintro e5 w5 ⟨rfl, hq⟩; have HO2 := Lib.hid (HO.out.below hq); have HB2 := Lib.hid (hbw.trans (hq.mono hbw.size)); replace k0 := ((bcell hq).1 _ _ hbl).trans k0)
                  | (at_builtin; refine wpList_app_k kRng rfl (.tmp 90) (.tmp 96) rfl w2.heap.size _ (dn ++ pendR none) rfl (Kind.Own.alloc HO2.out _) _ (some ⟨w5.heap.size, 0, none⟩) 1 1 [⟨x, [], true⟩] rfl rfl (rng_row w5 ⟨x, [], true⟩ 1 rfl).row HLE.out (by decide) (le_alloc (HB2.out.size) _) ?_; intro v3 w6 hown3 hg3 hb3 _; have HO3 := Lib.hid hown3; have HB3 := Lib.hid ((HB2.out.alloc HB2.out.size _).trans hb3); clear hown3 hb3 hg3))
                go_roundw
                case rel => exact ⟨k + 1, some x, dn, by omega, HL2, by have h := HO3.out; rw [pendR, List.append_nil] at h; exact h, by simp [pendR] at hol ⊢; omega, rfl, by go_num, HB3.out⟩
                case measure => simp [intOf]; omega
              | some lo =>
                have HL2 := Lib.hid (HL.out.trans (by rw [hd, mkR_stay hy]))
                clear hcell hg hd hm hy MT ED
                go_wp2_with ((with_reducible refine (C _ (HR.out.call (HQ2.out.trans (hbw.mono HQ2.out.size)))).out.mono ?_); rintro e5 w5 ⟨rfl, hq⟩; have HO2 := Lib.hid (HO.out.below hq); have HB2 := Lib.hid (hbw.trans (hq.mono hbw.size)))
                go_roundw
                case rel => exact ⟨k + 1, some lo, dn, by omega, HL2, HO2, by omega, rfl, by go_num, HB2.out⟩
                case measure => simp [intOf]; omega
          · have HL2 := Lib.hid (HL.out.trans (show dn ++ mkR (matchN l) (E.drop k) pd = dn ++ pendR pd by rw [List.drop_eq_nil_of_le (by have := HNN.out; omega)]; cases pd <;> rfl))
            clear MT ED
            go_wp2_with fail
            go_ret
            obtain ⟨A5, c5, rfl, hrd⟩ := HO.out.form
            refine ⟨A5, c5, ?_, ?_, HQ2.out.trans (hbw.mono HQ2.out.size)⟩
            · rw [HLV.out, HEE.out, HL2.out]; rfl
            · rw [HLV.out, HEE.out, HL2.out]; exact hrd
end Go.Proofs.Ytbobgkepnocenaa

/-
  The laws of layer 9: what they ask of the program's functions; the chapter's example.
-/
namespace Go.Proofs.Ytbobgkepnocenaa
open Go.RowKit

/-- How many nodes, and how long their texts. -/
def SmallN (n : Nat) (l : List Nd) : Prop := l.length ≤ n ∧ ∀ r ∈ l, r.lo.length ≤ 1000 ∧ r.hi.length ≤ 1000
/-- What is handed back: a row of nodes that reads. -/
def RetN (w : World) (n : Nat) (l : List Nd) (e : Ending) (w' : World) : Prop := ∃ A c, e = .returned (.slice A n c) ∧ kNd.Rd w' w'.heap.size A c l ∧ Below w.heap.size w w'
/-- .. of ranges, with its length named. -/
def RetRn (w : World) (n : Nat) (l : List Rng) (e : Ending) (w' : World) : Prop := ∃ A c, e = .returned (.slice A n c) ∧ kRng.Rd w' w'.heap.size A c l ∧ Below w.heap.size w w'
theorem RetR.named {w w' : World} {l : List Rng} {e : Ending} {n : Nat} (h : RetR w l e w') (hn : l.length = n) : RetRn w n l e w' := by
  subst hn; exact h
/-- A slice of nodes, as an element. -/
structure Sl where
  A : Option Addr
  n : Nat
  c : Nat
noncomputable def kSl : Kind Try.prog Sl where
  ty := 31
  el := 22
  size := 1
  bytes := 24
  zero := .slice none 0 0
  cells := fun s => [.slice s.A s.n s.c]
  len := fun _ => rfl
  one := fun s u hu => by simp at hu; subst hu; rfl
  pos := by decide
  under := Try.underlying31
  info := by kernel_rfl
  zsize := rfl
/-- A row of filters that reads. -/
def RdLL (w : World) (B : Nat) (A : Option Addr) (c : Nat) (ls : List (List Nd)) : Prop := ∃ sl : List Sl, kSl.Rd w B A c sl ∧ sl.length = ls.length ∧ ∀ (i : Nat) (s : Sl) (l : List Nd), sl[i]? = some s → ls[i]? = some l → s.n = l.length ∧ kNd.Rd w B s.A s.c l
theorem RdLL.call {w w' : World} {A : Option Addr} {c : Nat} {ls : List (List Nd)} (h : RdLL w w.heap.size A c ls) (hb : Below w.heap.size w w') : RdLL w' w'.heap.size A c ls := by
  obtain ⟨sl, h1, h2, h3⟩ := h
  exact ⟨sl, h1.call hb, h2, fun i s l hs hl => ⟨(h3 i s l hs hl).1, (h3 i s l hs hl).2.call hb⟩⟩
theorem rdLL_two {w : World} {A B : Option Addr} {c d n m : Nat} {a b : List Nd} (hn : n = a.length) (hm : m = b.length) (ha : kNd.Rd w w.heap.size A c a) (hb : kNd.Rd w w.heap.size B d b) :
    RdLL (w.alloc (.cells #[.slice A n c, .slice B m d] 22)) (w.alloc (.cells #[.slice A n c, .slice B m d] 22)).heap.size (some ⟨w.heap.size, 0, none⟩) 2 [a, b] := by
  refine ⟨[⟨A, n, c⟩, ⟨B, m, d⟩], ?_, rfl, fun i s l hs hl => ?_⟩
  · rw [size1]
    exact Kind.rd_new (k := kSl) (l := [⟨A, n, c⟩, ⟨B, m, d⟩]) rfl rfl (by simp)
  · match i with
    | 0 => injection hs with hs; injection hl with hl; subst hs hl; exact ⟨hn, ha.call (below_new _ _)⟩
    | 1 => injection hs with hs; injection hl with hl; subst hs hl; exact ⟨hm, hb.call (below_new _ _)⟩
    | i + 2 => cases hs

def NRightC (F : FuncId) : Prop := ∀ (A : Option Addr) (c n : Nat) (a : List Nd), n = a.length → SmallN 64 a → ∀ v, rightN a = v → ∀ w, kNd.Rd w w.heap.size A c a → Calls Try.prog F #[.slice A n c] w fun e w' => e = .returned (.bool v) ∧ Below w.heap.size w w'
def NMatchC (F : FuncId) : Prop := ∀ (A : Option Addr) (c n : Nat) (a : List Nd) (s : List UInt8) (U : ByteArray), str s = U → n = a.length → SmallN 64 a → s.length ≤ 1000 → ∀ v, matchN a s = v → ∀ w, kNd.Rd w w.heap.size A c a → Calls Try.prog F #[.slice A n c, .string U] w fun e w' => e = .returned (.bool v) ∧ Below w.heap.size w w'
def NRangesC (F : FuncId) : Prop := ∀ (A : Option Addr) (c n : Nat) (a : List Nd), n = a.length → SmallN 64 a → ∀ w, kNd.Rd w w.heap.size A c a → Calls Try.prog F #[.slice A n c] w (RetR w (rangesN a))
def NJoinC (F : FuncId) (f : List (List Nd) → List Nd) : Prop := ∀ (A : Option Addr) (c n : Nat) (ls : List (List Nd)), n = ls.length → n ≤ 10 → (∀ l ∈ ls, SmallN 64 l) → ∀ N, (f ls).length = N → ∀ w, RdLL w w.heap.size A c ls → Calls Try.prog F #[.slice A n c] w (RetN w N (f ls))
def NNotC (F : FuncId) : Prop := ∀ (A : Option Addr) (c n : Nat) (a : List Nd), n = a.length → SmallN 500 a → ∀ N, (notN a).length = N → ∀ w, kNd.Rd w w.heap.size A c a → Calls Try.prog F #[.slice A n c] w (RetN w N (notN a))
def NLeaf0C (F : FuncId) (l : List Nd) : Prop := ∀ w, Calls Try.prog F #[] w (RetN w 1 l)
def NLeaf1C (F : FuncId) (f : List UInt8 → List Nd) : Prop := ∀ (s : List UInt8) (U : ByteArray), str s = U → s.length ≤ 1000 → ∀ w, Calls Try.prog F #[.string U] w (RetN w 1 (f s))
def NLeaf2C (F : FuncId) (f : List UInt8 → List UInt8 → List Nd) : Prop := ∀ (s t : List UInt8) (U V : ByteArray), str s = U → str t = V → s.length ≤ 1000 → t.length ≤ 1000 → ∀ w, Calls Try.prog F #[.string U, .string V] w (RetN w 1 (f s t))
def preN (s : List UInt8) : List Nd := [⟨3, 0, s, []⟩]
def btwN (s t : List UInt8) : List Nd := [⟨4, 0, s, t⟩]
def fromN (s : List UInt8) : List Nd := [⟨5, 0, s, []⟩]
theorem smallN_of {n : Nat} {l : List Nd} (h : l.length ≤ n) (h2 : l.all (fun r => decide (r.lo.length ≤ 1000) && decide (r.hi.length ≤ 1000)) = true) : SmallN n l := by
  refine ⟨h, fun r hr => ?_⟩
  have := List.all_eq_true.1 h2 r hr
  simpa using this
def awN : List Nd := [⟨3, 0, [97], []⟩, ⟨3, 0, [97, 98], []⟩, ⟨6, 1, [], []⟩, ⟨7, 2, [], []⟩]
theorem awN_right : rightN awN = true := by decide +kernel
theorem awN_ranges : rangesN awN = [⟨[97], [97, 98], false⟩, ⟨[97, 99], [98], false⟩] := by decide +kernel
theorem awN_m1 : matchN awN [97, 99] = true := by decide +kernel
theorem awN_m2 : matchN awN [97, 98, 99] = false := by decide +kernel
set_option maxRecDepth 100000 in
set_option maxHeartbeats 4000000 in
theorem awake09 (HP : NLeaf1C 23 preN) (HNT : NNotC 20) (HAN : NJoinC 18 andV) (HRG : NRangesC 9) (HRT : NRightC 10) (HM : NMatchC 12) (w : World) :
    Calls Try.prog 7 #[] w fun e w' => e = .returned (.bool true) ∧ Below w.heap.size w w' := by
  have P1 := fun w => Lib.hid (HP [97] ⟨#[97]⟩ rfl (by simp) w)
  have P2 := fun w => Lib.hid (HP [97, 98] ⟨#[97, 98]⟩ rfl (by simp) w)
  have N1 := fun A c w hr => Lib.hid (HNT A c 1 (preN [97, 98]) rfl (smallN_of (by decide) rfl) 2 rfl w hr)
  have A1 := fun A c w hr => Lib.hid (HAN A c 2 [preN [97], notN (preN [97, 98])] rfl (by omega) (fun l hl => by
    simp at hl
    rcases hl with rfl | rfl
    · exact smallN_of (by decide) rfl
    · exact smallN_of (by decide) rfl) 4 rfl w hr)
  have L1 : 1 = (preN [97]).length := rfl
  have L2 : 2 = (notN (preN [97, 98])).length := rfl
  have LL := Lib.hid (And.intro L1 L2)
  clear L1 L2
  have eA : andV [preN [97], notN (preN [97, 98])] = awN := rfl
  rw [eA] at A1
  have sA : SmallN 64 awN := smallN_of (by decide) rfl
  have R1 := fun A c w hr => Lib.hid ((HRG A c 4 awN rfl sA w hr).mono fun e w' h => RetR.named h (by rw [awN_ranges]; rfl : (rangesN awN).length = 2))
  have T1 := fun A c w hr => Lib.hid (HRT A c 4 awN rfl sA true awN_right w hr)
  have M1 := fun A c w hr => Lib.hid (HM A c 4 awN [97, 99] ⟨#[97, 99]⟩ rfl rfl sA (by simp) true awN_m1 w hr)
  have M2 := fun A c w hr => Lib.hid (HM A c 4 awN [97, 98, 99] ⟨#[97, 98, 99]⟩ rfl rfl sA (by simp) false awN_m2 w hr)
  have E1 := fun w => Lib.hid (eq_rng_is ⟨#[97]⟩ ⟨#[97, 98]⟩ ⟨#[97]⟩ ⟨#[97, 98]⟩ false false true (by simp) w)
  have E2 := fun w => Lib.hid (eq_rng_is ⟨#[97, 99]⟩ ⟨#[98]⟩ ⟨#[97, 99]⟩ ⟨#[98]⟩ false false true (by simp) w)
  have E1 := fun w => (E1 w).out
  have E2 := fun w => (E2 w).out
  have HW := Lib.hid (Below.refl w.heap.size w)
  clear HP HNT HAN HRG HRT HM eA sA
  go_enter Try.func7, Try.ntmps7
  go_wp2_with (first
    | ((with_reducible refine (P1 _).out.mono ?_); rintro e w9 ⟨B1, d1, rfl, hrd, hq⟩; replace HW := Lib.hid (HW.out.trans (hq.mono HW.out.size)); have H1 := Lib.hid hrd; clear hrd hq)
    | ((with_reducible refine (P2 _).out.mono ?_); rintro e w9 ⟨B2, d2, rfl, hrd, hq⟩; replace HW := Lib.hid (HW.out.trans (hq.mono HW.out.size)); replace H1 := Lib.hid (H1.out.call hq); have H2 := Lib.hid hrd; clear hrd hq)
    | ((with_reducible refine (N1 _ _ _ H2.out).out.mono ?_); rintro e w9 ⟨B3, d3, rfl, hrd, hq⟩; replace HW := Lib.hid (HW.out.trans (hq.mono HW.out.size)); replace H1 := Lib.hid (H1.out.call hq); have H3 := Lib.hid hrd; clear hrd hq H2)
    | ((with_reducible refine (A1 _ _ _ (rdLL_two LL.out.1 LL.out.2 H1.out H3.out)).out.mono ?_); rintro e w8 ⟨B4, d4, rfl, hrd, hq⟩; replace HW := Lib.hid (HW.out.trans (((below_new w9 _).trans (hq.mono (by simp))).mono HW.out.size)); have H4 := Lib.hid hrd; clear hrd hq H1 H3)
    | ((with_reducible refine (R1 _ _ _ H4.out).out.mono ?_); rintro e w9 ⟨B5, d5, rfl, hrd, hq⟩; replace HW := Lib.hid (HW.out.trans (hq.mono HW.out.size)); replace H4 := Lib.hid (H4.out.call hq); rw [awN_ranges] at hrd; have H5 := Lib.hid hrd; clear hrd hq)
    | ((with_reducible refine (T1 _ _ _ H4.out).out.mono ?_); rintro e w7 ⟨rfl, hq⟩; replace HW := Lib.hid (HW.out.trans (hq.mono HW.out.size)); replace H4 := Lib.hid (H4.out.call hq); replace H5 := Lib.hid (H5.out.call hq); obtain ⟨gb, go, hgo, -, hcell⟩ := rngs_at H5.out (by simp); subst hgo; obtain ⟨c0, c1, c2⟩ := hcell 0 _ rfl; obtain ⟨k0, k1, k2⟩ := hcell 1 _ rfl; change w7.cell? ⟨gb, go, none⟩ = some (.string ⟨#[97]⟩) at c0; change w7.cell? ⟨gb, go + 1, none⟩ = some (.string ⟨#[97, 98]⟩) at c1; change w7.cell? ⟨gb, go + 2, none⟩ = some (.bool false) at c2; change w7.cell? ⟨gb, go + 3, none⟩ = some (.string ⟨#[97, 99]⟩) at k0; change w7.cell? ⟨gb, go + 3 + 1, none⟩ = some (.string ⟨#[98]⟩) at k1; change w7.cell? ⟨gb, go + 3 + 2, none⟩ = some (.bool false) at k2; clear hcell hq)
    | ((with_reducible refine (M1 _ _ _ H4.out).out.mono ?_); rintro e w9 ⟨rfl, hq⟩; replace HW := Lib.hid (HW.out.trans (hq.mono HW.out.size)); replace H4 := Lib.hid (H4.out.call hq); clear hq)
    | ((with_reducible refine (M2 _ _ _ H4.out).out.mono ?_); rintro e w9 ⟨rfl, hq⟩; replace HW := Lib.hid (HW.out.trans (hq.mono HW.out.size)); clear hq))
  go_ret
  exact ⟨rfl, HW.out⟩
end Go.Proofs.Ytbobgkepnocenaa

/-
  Nodes that came in as a slice; filters that came in as a slice of slices.
-/
namespace Go.Proofs.Ytbobgkepnocenaa
open Go.ChangeShapes Go.WideShapes Go.ChangeAt Go.RowKit

theorem ncells_string : Try.prog.cellsOf 9 = 1 := by kernel_rfl
theorem ncells_int : Try.prog.cellsOf 3 = 1 := by kernel_rfl
/-- A struct of four fields, field by field. -/
theorem four_fields {H : Type} {enc : TypeId × Value → H} {W : World} {t : TypeId} {f0 f1 f2 f3 : Field} {fuel : Nat} {cs : List Value} {x : DataW H × List MemPlace} (ht : Try.prog.underlying t = some (.struct #[f0, f1, f2, f3])) (h : DataW.trod enc Try.prog W 0 (fun _ => true) true fuel t cs = some x) :
    ∃ y0 y1 y2 y3 n, DataW.trod enc Try.prog W 0 (fun _ => true) true n f0.type ((cs.drop f0.offset).take (Try.prog.cellsOf f0.type)) = some y0 ∧ DataW.trod enc Try.prog W 0 (fun _ => true) true n f1.type ((cs.drop f1.offset).take (Try.prog.cellsOf f1.type)) = some y1 ∧
      DataW.trod enc Try.prog W 0 (fun _ => true) true n f2.type ((cs.drop f2.offset).take (Try.prog.cellsOf f2.type)) = some y2 ∧ DataW.trod enc Try.prog W 0 (fun _ => true) true n f3.type ((cs.drop f3.offset).take (Try.prog.cellsOf f3.type)) = some y3 := by
  obtain ⟨xs, n, _, rfl, -, hlen, hf⟩ := DataW.trod_struct ht h
  match xs, hlen with
  | [y0, y1, y2, y3], _ => exact ⟨y0, y1, y2, y3, n, by simpa using hf 0 f0 rfl, by simpa using hf 1 f1 rfl, by simpa using hf 2 f2 rfl, by simpa using hf 3 f3 rfl⟩
theorem nd_of {H : Type} {enc : TypeId × Value → H} {W : World} (n : Nat) (cs : List Value) (y : DataW H × List MemPlace) (hl : cs.length = 4)
    (hy : DataW.trod enc Try.prog W 0 (fun _ => true) true n 33 cs = some y) : ∃ x : Nd, cs = ndCells x ∧ True := by
  obtain ⟨y0, y1, y2, y3, n', h0, h1, h2, h3⟩ := four_fields Try.underlying33 hy
  rw [ncells_int] at h0 h1
  rw [ncells_string] at h2 h3
  match cs, hl with
  | [a, b, c, d], _ =>
    obtain ⟨i, e0, -, w0⟩ := DataW.trod_int Try.underlying3 h0
    obtain ⟨j, e1, -, w1⟩ := DataW.trod_int Try.underlying3 h1
    obtain ⟨s, e2, -, w2⟩ := DataW.trod_string Try.underlying9 h2
    obtain ⟨t, e3, -, w3⟩ := DataW.trod_string Try.underlying9 h3
    simp at e0 e1 e2 e3
    subst e0 e1 e2 e3
    exact ⟨⟨i, j, s.data.toList, t.data.toList⟩, by simp only [ndCells, str_of], trivial⟩
set_option maxRecDepth 100000 in
theorem in_nds {H : Type} {enc : TypeId × Value → H} {W : World} {base : Nat} {v : Value} {d : DataW H} {p : List MemPlace}
    (hok : Value.okWide Try.prog W .any base 22 v) (h : DataW.Trod enc Try.prog W 0 (fun _ => true) true 22 v d p) :
    ∃ (A : Option Addr) (c : Nat) (l : List Nd), v = .slice A l.length c ∧ kNd.Rd W W.heap.size A c l := by
  obtain ⟨A, c, l, rfl, h1, -, h2, h3⟩ := in_slice ndCells (fun _ => True) Try.underlying22 (k := 4) (by kernel_rfl) (by omega) nd_of hok h
  exact ⟨A, c, l, rfl, h1, h2, h3⟩
set_option maxRecDepth 100000 in
theorem in_ndss {H : Type} {enc : TypeId × Value → H} {W : World} {base : Nat} {v : Value} {d : DataW H} {p : List MemPlace}
    (hok : Value.okWide Try.prog W .any base 31 v) (h : DataW.Trod enc Try.prog W 0 (fun _ => true) true 31 v d p) :
    ∃ (A : Option Addr) (c : Nat) (l : List (List Nd)), v = .slice A l.length c ∧ RdLL W W.heap.size A c l := by
  obtain ⟨A, c, sl, rfl, h1, hg, h2, h3⟩ := in_slice (fun x : Sl × List Nd => [.slice x.1.A x.1.n x.1.c]) (fun x => x.1.n = x.2.length ∧ kNd.Rd W W.heap.size x.1.A x.1.c x.2) Try.underlying31 (k := 1) (by kernel_rfl) (by omega) (fun n cs y _ hy => by
    obtain ⟨A, c, l, rfl, g1, -, g2, g3⟩ := cells_slice ndCells (fun _ => True) Try.underlying22 (k := 4) (by kernel_rfl) (by omega) nd_of hy
    exact ⟨(⟨A, l.length, c⟩, l), rfl, rfl, g1, g2, g3⟩) hok h
  refine ⟨A, c, sl.map (·.2), by rw [List.length_map], sl.map (·.1), ⟨?_, by rw [List.length_map]; exact h2, h3⟩, by rw [List.length_map, List.length_map], fun i s l hs hl => ?_⟩
  · show RowAt W W.heap.size A ((sl.map (·.1)).flatMap fun s => [Value.slice s.A s.n s.c])
    rw [List.flatMap_map]
    exact h1
  · rw [List.getElem?_map] at hs hl
    cases hx : sl[i]? with
    | none => rw [hx] at hs; cases hs
    | some x =>
      rw [hx] at hs hl
      cases hs; cases hl
      exact hg x (List.mem_of_getElem? hx)
end Go.Proofs.Ytbobgkepnocenaa

/-
  Plain facts on filters, as the program goes through them: the range of a node by itself, and what a list comes to, node by node, with what stands open. No program in this text.
-/
namespace Go.Proofs.Ytbobgkepnocenaa

/-- The range of a node that takes no kids. -/
def ownR (n : Nd) : Rng :=
  if n.op = 1 then allR else if n.op = 3 then prefixR n.lo else if n.op = 4 then ⟨n.lo, n.hi, false⟩ else if n.op = 5 then ⟨n.lo, n.hi, true⟩ else zeroR
theorem prefixR_rightV (p : List UInt8) : rightR (prefixR p) = decide (p.length ≤ 16) := by
  by_cases h : p.length ≤ 16
  · rw [decide_eq_true h, prefixR_right h]
  · rw [decide_eq_false h, prefixR_long (by omega)]; rfl
theorem own_leaf {n : Nd} (h1 : n.op ≠ 6) (h2 : n.op ≠ 7) (h3 : n.op ≠ 8) (hn : nodeV n = true) (ks : List TxtP) (s : List UInt8) : hasR (ownR n) s = valN n ks s := by
  cases hr : leafR n with
  | some r =>
    obtain ⟨hrr, hv⟩ := det_leaf hn hr
    rw [hv]
    unfold leafR at hr
    unfold ownR
    by_cases h3 : n.op = 3
    · rw [if_pos h3] at hr
      injection hr with hr
      rw [if_neg (by omega), if_pos h3, hr]
    · rw [if_neg h3] at hr
      by_cases h4 : n.op = 4
      · rw [if_pos h4] at hr
        injection hr with hr
        rw [if_neg (by omega), if_neg h3, if_pos h4, hr]
      · rw [if_neg h4] at hr
        by_cases h5 : n.op = 5
        · rw [if_pos h5] at hr
          injection hr with hr
          rw [if_neg (by omega), if_neg h3, if_neg h4, if_pos h5, ← hr]
          have hn5 : n.hi = [] := by
            unfold nodeV at hn
            rw [if_neg (by omega), if_neg h3, if_neg h4, if_pos h5] at hn
            simp only [Bool.and_eq_true, List.isEmpty_iff] at hn
            exact hn.2.2
          rw [hn5]
        · rw [if_neg h5] at hr; cases hr
  | none =>
    have ho := nodeV_op hn
    unfold leafR at hr
    have h3 : n.op ≠ 3 := fun h => by rw [if_pos h] at hr; cases hr
    rw [if_neg h3] at hr
    have h4 : n.op ≠ 4 := fun h => by rw [if_pos h] at hr; cases hr
    rw [if_neg h4] at hr
    have h5 : n.op ≠ 5 := fun h => by rw [if_pos h] at hr; cases hr
    unfold ownR valN
    by_cases h1 : n.op = 1
    · rw [if_pos h1, if_pos h1, hasR_all]
    · rw [if_neg h1, if_neg h3, if_neg h4, if_neg h5, if_neg h1, if_neg h3, if_neg h4, if_neg h5, if_neg (by omega), if_neg (by omega), if_neg (by omega)]; rfl

/-- What a list of nodes comes to: f tells it of each node, and of what its kids came to; the first of what stands open first. -/
def foldG {T : Type} (f : Nd → List T → T) : List Nd → List T → List T
  | [], st => st
  | n :: l, st => foldG f l (st.take (st.length - kidsN n) ++ [f n (st.drop (st.length - kidsN n))])
theorem foldG_cons {T : Type} (f : Nd → List T → T) (n : Nd) (l : List Nd) (st : List T) {m : Nat} (h : st.length - kidsN n = m) : foldG f (n :: l) st = foldG f l (st.take m ++ [f n (st.drop m)]) := by subst h; rfl
/-- Where the next node finds its kids. -/
theorem dep_step {n : Nd} {l : List Nd} {d e : Nat} (h : depV (n :: l) d = some e) : nodeV n = true ∧ kidsN n ≤ d ∧ depV l (d - kidsN n + 1) = some e := by
  by_cases hn : nodeV n = true ∧ kidsN n ≤ d
  · rw [depV_node hn.1 hn.2] at h; exact ⟨hn.1, hn.2, h⟩
  · have h' : nodeV n = false ∨ ¬ kidsN n ≤ d := by
      cases hm : nodeV n with
      | false => exact .inl rfl
      | true => exact .inr fun hk => hn ⟨hm, hk⟩
    rw [depV_wrong h'] at h; cases h
theorem foldG_len {T : Type} (f : Nd → List T → T) : ∀ (l : List Nd) (st : List T) (e : Nat), depV l st.length = some e → (foldG f l st).length = e
  | [], st, e, h => by injection h
  | n :: l, st, e, h => by
    obtain ⟨_, h2, h3⟩ := dep_step h
    rw [foldG]
    refine foldG_len f l _ e ?_
    rw [List.length_append, List.length_take, List.length_singleton, Nat.min_eq_left (by omega)]
    exact h3
/-- What each of those that stand open keeps. -/
theorem foldG_all {T : Type} (f : Nd → List T → T) (C : T → Prop) : ∀ (l : List Nd) (st : List T) (e : Nat), (∀ n ∈ l, nodeV n = true → ∀ ks, ks.length = kidsN n → (∀ k ∈ ks, C k) → C (f n ks)) → (∀ k ∈ st, C k) → depV l st.length = some e → ∀ k ∈ foldG f l st, C k
  | [], _, _, _, hs, _ => hs
  | n :: l, st, e, hf, hs, h => by
    obtain ⟨h1, h2, h3⟩ := dep_step h
    rw [foldG]
    refine foldG_all f C l _ e (fun m hm => hf m (List.mem_cons_of_mem _ hm)) (fun k hk => ?_) (by rw [List.length_append, List.length_take, List.length_singleton, Nat.min_eq_left (by omega)]; exact h3)
    rcases List.mem_append.1 hk with hk | hk
    · exact hs k (List.mem_of_mem_take hk)
    · rw [List.mem_singleton] at hk
      subst hk
      exact hf n (List.mem_cons_self ..) h1 _ (by rw [List.length_drop]; omega) fun k hk => hs k (List.mem_of_mem_drop hk)
theorem foldG_map {T U : Type} (f : Nd → List T → T) (g : Nd → List U → U) (p : T → U) (hp : ∀ n ks, p (f n ks) = g n (ks.map p)) : ∀ (l : List Nd) (st : List T), (foldG f l st).map p = foldG g l (st.map p)
  | [], _ => rfl
  | n :: l, st => by
    rw [foldG, foldG, foldG_map f g p hp l, List.map_append, List.map_take, List.map_cons, List.map_nil, hp, List.map_drop, List.length_map]
/-- With texts told, it is what the document says. -/
theorem foldG_ev : ∀ (l : List Nd) (st : List TxtP) (e : Nat), depV l st.length = some e → (foldG (fun n ks => valN n ks.reverse) l st).reverse = evV l st.reverse
  | [], _, _, _ => rfl
  | n :: l, st, e, h => by
    obtain ⟨h1, h2, h3⟩ := dep_step h
    have e1 : st.reverse.take (kidsN n) = (st.drop (st.length - kidsN n)).reverse := by rw [List.take_reverse]
    have e2 : st.reverse.drop (kidsN n) = (st.take (st.length - kidsN n)).reverse := by rw [List.drop_reverse]
    rw [foldG, evV, foldG_ev l _ e (by rw [List.length_append, List.length_take, List.length_singleton, Nat.min_eq_left (by omega)]; exact h3), e1, e2, List.reverse_append, List.reverse_singleton]
    rfl
/-- What is told of each value, against the document's word. -/
theorem foldG_right {T : Type} (f : Nd → List T → T) (C : T → TxtP → Prop) {l : List Nd} (hl : rightN l = true)
    (hf : ∀ n ∈ l, nodeV n = true → ∀ ks : List (T × TxtP), ks.length = kidsN n → (∀ k ∈ ks, C k.1 k.2) → C (f n (ks.map (·.1))) (valN n (ks.map (·.2)).reverse)) :
    ∃ x, foldG f l [] = [x] ∧ C x (topV l) := by
  obtain ⟨_, _, h3⟩ := rightN_iff.1 hl
  let g : Nd → List (T × TxtP) → T × TxtP := fun n ks => (f n (ks.map (·.1)), valN n (ks.map (·.2)).reverse)
  have e1 : (foldG g l []).map (·.1) = foldG f l [] := foldG_map g f (·.1) (fun n ks => rfl) l []
  have e2 : (foldG g l []).map (·.2) = foldG (fun n ks => valN n ks.reverse) l [] := foldG_map g (fun n ks => valN n ks.reverse) (·.2) (fun n ks => rfl) l []
  have e3 := foldG_ev l [] 1 h3
  have hc := foldG_all g (fun k => C k.1 k.2) l [] 1 hf (fun k hk => by cases hk) h3
  have hlen := foldG_len g l [] 1 h3
  match hg : foldG g l [], hlen with
  | [k], _ =>
    rw [hg] at e1 e2 hc
    refine ⟨k.1, e1.symm, ?_⟩
    rw [← e2] at e3
    have : topV l = k.2 := by
      unfold topV stkV
      rw [show evV l [] = evV l ([] : List TxtP).reverse from rfl, ← e3]; rfl
    rw [this]
    exact hc k (List.mem_singleton.2 rfl)

/-! Whether it has a text. -/
/-- What a node comes to, of what its kids came to. -/
def boolN (s : List UInt8) (n : Nd) (ks : List Bool) : Bool :=
  if n.op = 6 then !(ks.headD false) else if n.op = 7 then !ks.contains false else if n.op = 8 then ks.contains true else hasR (ownR n) s
theorem all_contains (ks : List TxtP) (s : List UInt8) : (ks.all fun k => k s) = !(ks.map fun k => k s).contains false := by
  induction ks with
  | nil => rfl
  | cons k ks ih =>
    rw [List.all_cons, List.map_cons, List.contains_cons, Bool.not_or, ih]
    cases k s <;> rfl
theorem any_contains (ks : List TxtP) (s : List UInt8) : (ks.any fun k => k s) = (ks.map fun k => k s).contains true := by
  induction ks with
  | nil => rfl
  | cons k ks ih =>
    rw [List.any_cons, List.map_cons, List.contains_cons, ih]
    cases k s <;> rfl
theorem nodeV_not {n : Nd} (hn : nodeV n = true) (h : n.op = 6) : kidsN n = 1 := by
  unfold nodeV at hn
  rw [if_neg (by omega), if_neg (by omega), if_neg (by omega), if_neg (by omega)] at hn
  simp only [Bool.and_eq_true, Bool.or_eq_true, decide_eq_true_eq] at hn
  unfold kidsN
  omega
theorem nodeV_some {n : Nd} (hn : nodeV n = true) (h : n.op = 7 ∨ n.op = 8) : 1 ≤ kidsN n := by
  unfold nodeV at hn
  rw [if_neg (by omega), if_neg (by omega), if_neg (by omega), if_neg (by omega)] at hn
  simp only [Bool.and_eq_true, Bool.or_eq_true, decide_eq_true_eq] at hn
  unfold kidsN
  omega
theorem boolN_val {n : Nd} (hn : nodeV n = true) (s : List UInt8) (ks : List (Bool × TxtP)) (hk : ks.length = kidsN n) (hc : ∀ k ∈ ks, k.1 = k.2 s) : boolN s n (ks.map (·.1)) = valN n (ks.map (·.2)).reverse s := by
  have e : ks.map (·.1) = (ks.map (·.2)).map fun k => k s := by
    rw [List.map_map]
    exact List.map_congr_left fun k hk => hc k hk
  unfold boolN
  by_cases h6 : n.op = 6
  · have h1 := nodeV_not hn h6
    rw [h1] at hk
    match ks, hk, hc with
    | [k], _, hc =>
      rw [if_pos h6]
      unfold valN
      rw [if_neg (by omega), if_neg (by omega), if_neg (by omega), if_neg (by omega), if_pos h6]
      have := hc k (List.mem_singleton.2 rfl)
      simp [this]
  · rw [if_neg h6]
    by_cases h7 : n.op = 7
    · rw [if_pos h7, e, ← all_contains]
      unfold valN
      rw [if_neg (by omega), if_neg (by omega), if_neg (by omega), if_neg (by omega), if_neg h6, if_pos h7, List.all_reverse]
    · rw [if_neg h7]
      by_cases h8 : n.op = 8
      · rw [if_pos h8, e, ← any_contains]
        unfold valN
        rw [if_neg (by omega), if_neg (by omega), if_neg (by omega), if_neg (by omega), if_neg h6, if_neg h7, if_pos h8, List.any_reverse]
      · rw [if_neg h8, own_leaf h6 h7 h8 hn]
theorem fold_match {l : List Nd} (hl : rightN l = true) (s : List UInt8) : foldG (boolN s) l [] = [matchN l s] := by
  obtain ⟨x, h1, h2⟩ := foldG_right (boolN s) (fun b p => b = p s) hl fun n _ hn ks hk hc => boolN_val hn s ks hk hc
  rw [h1, h2]
  unfold matchN
  rw [hl, Bool.true_and]

/-! Its list of ranges. -/
/-- What two lists make, of all of them. -/
def togL (op : Int) : List (List Rng) → List Rng
  | [] => []
  | a :: l => l.foldl (makeV op) a
def listN (n : Nd) (ks : List (List Rng)) : List Rng :=
  if n.op = 6 then notV (ks.headD []) else if n.op = 7 then togL 2 ks else if n.op = 8 then togL 1 ks else normV [ownR n]
/-- A right list that turns at no other texts than these. -/
def OkL (E : List (List UInt8)) (l : List Rng) : Prop := rightL l = true ∧ Det (hasL l) E
theorem tog_ok (op : Int) (E : List (List UInt8)) (g : List UInt8 → List TxtP → Bool) : ∀ (l : List (List Rng)) (a : List Rng), OkL E a → (∀ k ∈ l, OkL E k) → OkL E (l.foldl (makeV op) a)
  | [], a, ha, _ => ha
  | b :: l, a, ha, hl => by
    rw [List.foldl_cons]
    refine tog_ok op E g l _ ⟨makeV_right _ _ _, fun s c h => ?_⟩ fun k hk => hl k (List.mem_cons_of_mem _ hk)
    rw [makeV_has, makeV_has, ha.2 s c h, (hl b (List.mem_cons_self ..)).2 s c h]
theorem tog_and : ∀ (l : List (List Rng)) (a : List Rng) (s : List UInt8), hasL (l.foldl (makeV 2) a) s = (hasL a s && l.all fun k => hasL k s)
  | [], a, s => by simp
  | b :: l, a, s => by rw [List.foldl_cons, tog_and l, makeV_has, gV2, List.all_cons, Bool.and_assoc]
theorem tog_or : ∀ (l : List (List Rng)) (a : List Rng) (s : List UInt8), hasL (l.foldl (makeV 1) a) s = (hasL a s || l.any fun k => hasL k s)
  | [], a, s => by simp
  | b :: l, a, s => by rw [List.foldl_cons, tog_or l, makeV_has, gV1, List.any_cons, Bool.or_assoc]
theorem listN_ok {E : List (List UInt8)} {n : Nd} (hn : nodeV n = true) (hE : ∀ r, leafR n = some r → Det (hasR r) E) (ks : List (List Rng × TxtP)) (hk : ks.length = kidsN n) (hc : ∀ k ∈ ks, OkL E k.1 ∧ ∀ s, hasL k.1 s = k.2 s) :
    OkL E (listN n (ks.map (·.1))) ∧ ∀ s, hasL (listN n (ks.map (·.1))) s = valN n (ks.map (·.2)).reverse s := by
  have key : rightL (listN n (ks.map (·.1))) = true ∧ ∀ s, hasL (listN n (ks.map (·.1))) s = valN n (ks.map (·.2)).reverse s := by
    unfold listN
    by_cases h6 : n.op = 6
    · have h1 := nodeV_not hn h6
      rw [h1] at hk
      match ks, hk, hc with
      | [k], _, hc =>
        rw [if_pos h6]
        refine ⟨makeV_right _ _ _, fun s => ?_⟩
        unfold valN
        rw [if_neg (by omega), if_neg (by omega), if_neg (by omega), if_neg (by omega), if_pos h6]
        have := (hc k (List.mem_singleton.2 rfl)).2 s
        simp [notV_has, this]
    · rw [if_neg h6]
      by_cases h7 : n.op = 7
      · have h1 := nodeV_some hn (.inl h7)
        rw [if_pos h7]
        match ks, hk, hc with
        | [], hk, _ => simp at hk; omega
        | k :: ks, _, hc =>
          rw [List.map_cons, togL]
          refine ⟨(tog_ok 2 E (fun _ _ => true) _ _ (hc k (List.mem_cons_self ..)).1 fun m hm => ?_).1, fun s => ?_⟩
          · obtain ⟨q, hq, rfl⟩ := List.mem_map.1 hm
            exact (hc q (List.mem_cons_of_mem _ hq)).1
          · rw [tog_and]
            unfold valN
            rw [if_neg (by omega), if_neg (by omega), if_neg (by omega), if_neg (by omega), if_neg h6, if_pos h7, List.all_reverse, List.map_cons, List.all_cons, (hc k (List.mem_cons_self ..)).2 s, List.all_map, List.all_map]
            congr 1
            rw [Bool.eq_iff_iff, List.all_eq_true, List.all_eq_true]
            constructor
            · intro h q hq; have := h q hq; simp only [Function.comp] at this ⊢; rw [← (hc q (List.mem_cons_of_mem _ hq)).2 s]; exact this
            · intro h q hq; have := h q hq; simp only [Function.comp] at this ⊢; rw [(hc q (List.mem_cons_of_mem _ hq)).2 s]; exact this
      · rw [if_neg h7]
        by_cases h8 : n.op = 8
        · have h1 := nodeV_some hn (.inr h8)
          rw [if_pos h8]
          match ks, hk, hc with
          | [], hk, _ => simp at hk; omega
          | k :: ks, _, hc =>
            rw [List.map_cons, togL]
            refine ⟨(tog_ok 1 E (fun _ _ => true) _ _ (hc k (List.mem_cons_self ..)).1 fun m hm => ?_).1, fun s => ?_⟩
            · obtain ⟨q, hq, rfl⟩ := List.mem_map.1 hm
              exact (hc q (List.mem_cons_of_mem _ hq)).1
            · rw [tog_or]
              unfold valN
              rw [if_neg (by omega), if_neg (by omega), if_neg (by omega), if_neg (by omega), if_neg h6, if_neg h7, if_pos h8, List.any_reverse, List.map_cons, List.any_cons, (hc k (List.mem_cons_self ..)).2 s, List.any_map, List.any_map]
              congr 1
              rw [Bool.eq_iff_iff, List.any_eq_true, List.any_eq_true]
              constructor
              · rintro ⟨q, hq, h⟩; refine ⟨q, hq, ?_⟩; simp only [Function.comp] at h ⊢; rw [← (hc q (List.mem_cons_of_mem _ hq)).2 s]; exact h
              · rintro ⟨q, hq, h⟩; refine ⟨q, hq, ?_⟩; simp only [Function.comp] at h ⊢; rw [(hc q (List.mem_cons_of_mem _ hq)).2 s]; exact h
        · rw [if_neg h8]
          refine ⟨makeV_right _ _ _, fun s => ?_⟩
          rw [normV_has, hasL_cons, hasL_nil, Bool.or_false, own_leaf h6 h7 h8 hn]
  refine ⟨⟨key.1, ?_⟩, key.2⟩
  have : Det (valN n (ks.map (·.2)).reverse) E := det_val hn hE fun p hp => by
    obtain ⟨q, hq, rfl⟩ := List.mem_map.1 (List.mem_reverse.1 hp)
    intro s c h
    rw [← (hc q hq).2, ← (hc q hq).2]
    exact (hc q hq).1.2 s c h
  intro s c h
  rw [key.2, key.2]
  exact this s c h
def edgeN (l : List Nd) : List (List UInt8) := edgesL (leavesL l)
theorem leaf_det {l : List Nd} {n : Nd} (h : n ∈ l) (hn : nodeV n = true) {r : Rng} (hr : leafR n = some r) : Det (hasR r) (edgeN l) := by
  obtain ⟨h8, h9⟩ := edges_mem (leavesL l) [[]] (List.mem_filterMap.2 ⟨n, h, hr⟩) (det_leaf hn hr).1
  exact det_has h8 h9
/-- A right list that turns at no other texts than a filter's edges isn't longer than they are. -/
theorem okL_small {l : List Nd} {a : List Rng} (h : OkL (edgeN l) a) (hl : l.length ≤ 64) : SmallL 200 a := by
  obtain ⟨m, h4, h5, h6⟩ := edgesL_ok (leavesL l)
  have hd : Det (hasL a) ([] :: m) := by rw [← h4]; exact h.2
  have hm := mkR_all h5 h6 hd
  have e : a = mkR (hasL a) ([] :: m) none := rightL_unique h.1 hm.1 fun s => (hm.2 s).symm
  have h7 := mkR_len (hasL a) ([] :: m) none
  have h8 := edgesL_len (leavesL l)
  have h9 : (leavesL l).length ≤ l.length := List.length_filterMap_le _ _
  rw [h4] at h8
  rw [← e] at h7
  refine ⟨by omega, fun r hr => ?_⟩
  have hrr := rightL_all h.1 r hr
  have := rightR_lo hrr
  have := rightR_hi hrr
  omega
theorem fold_ranges {l : List Nd} (hl : rightN l = true) : foldG listN l [] = [rangesN l] := by
  obtain ⟨x, h1, h2, h3⟩ := foldG_right listN (fun a p => OkL (edgeN l) a ∧ ∀ s, hasL a s = p s) hl fun n hm hn ks hk hc => listN_ok hn (fun r hr => leaf_det hm hn hr) ks hk hc
  rw [h1]
  obtain ⟨h4, h5⟩ := rangesN_ok l
  have : x = rangesN l := rightL_unique h2.1 h4 fun s => by
    rw [h3, h5]
    unfold matchN
    rw [hl, Bool.true_and]
  rw [this]
/-- What stands open on the way keeps to it. -/
theorem open_ok {l : List Nd} {ks : List (List Rng)} {n : Nd} (hm : n ∈ l) (hn : nodeV n = true) (hk : ks.length = kidsN n) (hc : ∀ k ∈ ks, OkL (edgeN l) k) : OkL (edgeN l) (listN n ks) := by
  have := (listN_ok (E := edgeN l) hn (fun r hr => leaf_det hm hn hr) (ks.map fun k => (k, hasL k)) (by rw [List.length_map]; exact hk) (fun k hk => by
    obtain ⟨q, hq, rfl⟩ := List.mem_map.1 hk
    exact ⟨hc q hq, fun s => rfl⟩)).1
  rwa [List.map_map, show ((fun x : List Rng × TxtP => x.1) ∘ fun k => (k, hasL k)) = id from rfl, List.map_id] at this
end Go.Proofs.Ytbobgkepnocenaa

/-
  Layer 9 (filter), the program: the range of a node by itself; is a node right; is a filter right.
-/
namespace Go.Proofs.Ytbobgkepnocenaa
open Go.RowKit

theorem eq_nd_bare (O K k : Int) (S T : ByteArray) (x y z : Bool) (hx : (K == k) = x) (hy : (S.toList == []) = y) (hz : (T.toList == []) = z) (w : World) :
    (Op.equalIn 10000 33 (.agg #[.int .i64 O, .int .i64 K, .string S, .string T]) (.agg #[.int .i64 O, .int .i64 k, .string ⟨#[]⟩, .string ⟨#[]⟩])).run Try.prog w = .ok (x && y && z) w := by
  refine eq_nd _ _ _ _ _ _ _ _ _ ?_ w
  have e : (⟨#[]⟩ : ByteArray).toList = [] := str_toList []
  rw [e, hx, hy, hz, beq_self_eq_true, Bool.true_and]
set_option maxHeartbeats 1000000 in
theorem flt_own (n : Nd) (O K : Int) (S T : ByteArray) (hO : n.op = O) (hS : str n.lo = S) (hT : str n.hi = T) (hl : n.lo.length ≤ 1000000) (r : Rng) (hr : ownR n = r) (U V : ByteArray) (p : Bool) (h : IsR r U V p) (w : World) :
    Calls Try.prog 33 #[.agg #[.int .i64 O, .int .i64 K, .string S, .string T]] w fun e w' => e = .returned (.agg #[.string U, .string V, .bool p]) ∧ Below w.heap.size w w' := by
  have HB := Lib.hid (((Below.refl w.heap.size w).alloc (Nat.le_refl _) (.cells #[.int .i64 O, .int .i64 K, .string S, .string T] 33)).alloc (by simp) (.cells #[.string U, .string V, .bool p] 45))
  unfold ownR at hr
  rw [hO] at hr
  by_cases h1 : O = 1
  · rw [if_pos h1] at hr
    subst hr
    have C := fun w => Lib.hid (all_is U V p h w)
    subst h1
    clear hO hS hT h hl HB
    go_enter Try.func33, Try.ntmps33
    go_wp2_with ((with_reducible refine (C _).out.mono ?_); rintro e w' ⟨rfl, hb⟩; obtain ⟨hc, hf⟩ := bcell hb; replace hb := (((Below.refl w.heap.size w).alloc (Nat.le_refl _) _).alloc (by simp) _).trans (hb.mono (by simp; omega)))
    exact bodyPost_ret (v := .agg #[.string U, .string V, .bool p]) (by simp [results, Try.results33, go_sem, hc]) rfl ⟨rfl, below_set3 hb (Nat.le_succ _) _ _ _⟩
  · rw [if_neg h1] at hr
    have n1 : (O == 1) = false := beq_eq_false_iff_ne.2 h1
    by_cases h3 : O = 3
    · rw [if_pos h3] at hr
      have C := fun w => Lib.hid (span_prefix n.lo r S U V p hS hl hr h w)
      subst h3
      clear hO hS hT h hl hr HB h1
      go_enter Try.func33, Try.ntmps33
      go_wp2_with ((with_reducible refine (C _).out.mono ?_); rintro e w' ⟨rfl, hb⟩; obtain ⟨hc, hf⟩ := bcell hb; replace hb := (((Below.refl w.heap.size w).alloc (Nat.le_refl _) _).alloc (by simp) _).trans (hb.mono (by simp; omega)))
      exact bodyPost_ret (v := .agg #[.string U, .string V, .bool p]) (by simp [results, Try.results33, go_sem, hc]) rfl ⟨rfl, below_set3 hb (Nat.le_succ _) _ _ _⟩
    · rw [if_neg h3] at hr
      have n3 : (O == 3) = false := beq_eq_false_iff_ne.2 h3
      by_cases h4 : O = 4
      · rw [if_pos h4] at hr
        subst hr
        obtain ⟨hU, hV, rfl⟩ := h
        obtain rfl : S = U := hS.symm.trans hU
        obtain rfl : T = V := hT.symm.trans hV
        subst h4
        clear hO hS hT hl h1 h3 hU hV
        go_enter Try.func33, Try.ntmps33
        go_wp2_with fail
        exact bodyPost_ret (v := .agg #[.string S, .string T, .bool false]) (by simp [results, Try.results33, go_sem]) rfl ⟨rfl, HB.out⟩
      · rw [if_neg h4] at hr
        have n4 : (O == 4) = false := beq_eq_false_iff_ne.2 h4
        by_cases h5 : O = 5
        · rw [if_pos h5] at hr
          subst hr
          obtain ⟨hU, hV, rfl⟩ := h
          obtain rfl : S = U := hS.symm.trans hU
          obtain rfl : T = V := hT.symm.trans hV
          subst h5
          clear hO hS hT hl h1 h3 h4 hU hV
          go_enter Try.func33, Try.ntmps33
          go_wp2_with fail
          exact bodyPost_ret (v := .agg #[.string S, .string T, .bool true]) (by simp [results, Try.results33, go_sem]) rfl ⟨rfl, HB.out⟩
        · rw [if_neg h5] at hr
          have n5 : (O == 5) = false := beq_eq_false_iff_ne.2 h5
          subst hr
          obtain ⟨rfl, rfl, rfl⟩ := h
          clear hO hS hT hl h1 h3 h4 h5
          go_enter Try.func33, Try.ntmps33
          go_wp2_with fail
          exact bodyPost_ret (v := .agg #[.string ⟨#[]⟩, .string ⟨#[]⟩, .bool false]) (by simp [results, Try.results33, go_sem]) rfl ⟨rfl, HB.out⟩
theorem nodeV_own {n : Nd} (h : n.op = 4 ∨ n.op = 5) : nodeV n = ((n.kids == 0) && rightR (ownR n)) := by
  rcases h with h | h
  · rw [nodeV_4 h]; unfold ownR; rw [if_neg (by omega), if_neg (by omega), if_pos h]
  · rw [nodeV_5 h]; unfold ownR; rw [if_neg (by omega), if_neg (by omega), if_neg (by omega), if_pos h, rightR_open rfl]
theorem nodeV_pre {n : Nd} (h : n.op = 3) : nodeV n = ((n.kids == 0) && (n.hi.isEmpty && rightR (ownR n))) := by
  rw [nodeV_3 h]; unfold ownR; rw [if_neg (by omega), if_pos h, prefixR_rightV, Bool.and_comm (decide _)]
set_option maxHeartbeats 4000000 in
theorem flt_node (n : Nd) (O K : Int) (S T : ByteArray) (hO : n.op = O) (hK : n.kids = K) (hS : str n.lo = S) (hT : str n.hi = T) (hl : n.lo.length ≤ 1000000) (v : Bool) (hv : nodeV n = v) (w : World) :
    Calls Try.prog 34 #[.agg #[.int .i64 O, .int .i64 K, .string S, .string T]] w fun e w' => e = .returned (.bool v) ∧ Below w.heap.size w w' := by
  have HB := Lib.hid ((Below.refl w.heap.size w).alloc (Nat.le_refl _) (.cells #[.int .i64 O, .int .i64 K, .string S, .string T] 33))
  have eS := txt_empty hS
  have eT := txt_empty hT
  obtain ⟨vl, hvl⟩ : ∃ vl, n.lo.isEmpty = vl := ⟨_, rfl⟩
  obtain ⟨vh, hvh⟩ : ∃ vh, n.hi.isEmpty = vh := ⟨_, rfl⟩
  rw [hvl] at eS
  rw [hvh] at eT
  obtain ⟨k0, hk0⟩ : ∃ k0, (K == 0) = k0 := ⟨_, rfl⟩
  obtain ⟨r, hr⟩ : ∃ r, ownR n = r := ⟨_, rfl⟩
  obtain ⟨U, hU⟩ : ∃ U, str r.lo = U := ⟨_, rfl⟩
  obtain ⟨V, hV⟩ : ∃ V, str r.hi = V := ⟨_, rfl⟩
  obtain ⟨p, hp⟩ : ∃ p, r.op = p := ⟨_, rfl⟩
  obtain ⟨z, hz⟩ : ∃ z, rightR r = z := ⟨_, rfl⟩
  have CO := fun w => Lib.hid (flt_own n O K S T hO hS hT hl r hr U V p ⟨hU, hV, hp⟩ w)
  have CR := fun w => Lib.hid (span_right r U V p z ⟨hU, hV, hp⟩ hz w)
  clear hU hV hp hl
  by_cases h1 : O = 1 ∨ O = 2
  · have e := nodeV_12 (n := n) (by rw [hO]; exact h1)
    rw [hv, hvl, hvh, hK, hk0, ← Bool.and_assoc] at e
    have EQ := fun w => eq_nd_bare O K 0 S T k0 vl vh hk0 eS eT w
    clear hv hS hT hvl hvh hK hO CO CR hr hz hk0 eS eT
    rw [← e] at EQ
    clear e
    rcases h1 with rfl | rfl
    all_goals
      go_enter Try.func34, Try.ntmps34
      go_wp2_with fail
      go_ret
      exact ⟨rfl, HB.out⟩
  · have n1 : (O == 1) = false := beq_eq_false_iff_ne.2 fun e => h1 (.inl e)
    have n2 : (O == 2) = false := beq_eq_false_iff_ne.2 fun e => h1 (.inr e)
    by_cases h3 : O = 3
    · have e := nodeV_pre (n := n) (by rw [hO]; exact h3)
      rw [hv, hvh, hK, hk0, hr, hz] at e
      subst e
      clear hv hS hT hvl hvh hK hO eS h1 hr hz
      subst h3
      cases k0
      case' true =>
        cases vh
        case' true =>
          cases z
      all_goals
        go_enter Try.func34, Try.ntmps34
        go_wp2_with (first
          | ((with_reducible refine (CO _).out.mono ?_); rintro e w1 ⟨rfl, hq⟩; replace HB := Lib.hid (HB.out.trans (hq.mono (by simp))); clear hq)
          | ((with_reducible refine (CR _).out.mono ?_); rintro e w2 ⟨rfl, hq⟩; replace HB := Lib.hid (HB.out.trans (hq.mono HB.out.size)); clear hq))
        go_ret
        exact ⟨rfl, HB.out⟩
    · have n3 : (O == 3) = false := beq_eq_false_iff_ne.2 h3
      by_cases h4 : O = 4 ∨ O = 5
      · have e := nodeV_own (n := n) (by rw [hO]; exact h4)
        rw [hv, hK, hk0, hr, hz] at e
        subst e
        clear hv hS hT hvl hvh hK hO eS eT h1 hr hz h3
        rcases h4 with rfl | rfl
        all_goals
          cases k0
          case' true =>
            cases z
        all_goals
          go_enter Try.func34, Try.ntmps34
          go_wp2_with (first
            | ((with_reducible refine (CO _).out.mono ?_); rintro e w1 ⟨rfl, hq⟩; replace HB := Lib.hid (HB.out.trans (hq.mono (by simp))); clear hq)
            | ((with_reducible refine (CR _).out.mono ?_); rintro e w2 ⟨rfl, hq⟩; replace HB := Lib.hid (HB.out.trans (hq.mono HB.out.size)); clear hq))
          go_ret
          exact ⟨rfl, HB.out⟩
      · have n4 : (O == 4) = false := beq_eq_false_iff_ne.2 fun e => h4 (.inl e)
        have n5 : (O == 5) = false := beq_eq_false_iff_ne.2 fun e => h4 (.inr e)
        by_cases h6 : O = 6
        · have e := nodeV_6 (n := n) (by rw [hO]; exact h6)
          obtain ⟨k1, hk1⟩ : ∃ k1, (K == 1) = k1 := ⟨_, rfl⟩
          rw [hv, hvl, hvh, hK, hk1, ← Bool.and_assoc, Bool.and_comm, ← Bool.and_assoc] at e
          have EQ := fun w => eq_nd_bare O K 1 S T k1 vl vh hk1 eS eT w
          clear hv hS hT hvl hvh hK hO CO CR hr hz hk0 hk1 eS eT h1 h3 h4
          rw [← e] at EQ
          clear e
          subst h6
          go_enter Try.func34, Try.ntmps34
          go_wp2_with fail
          go_ret
          exact ⟨rfl, HB.out⟩
        · have n6 : (O == 6) = false := beq_eq_false_iff_ne.2 h6
          by_cases h7 : O = 7 ∨ O = 8
          · have e := nodeV_78 (n := n) (by rw [hO]; exact h7)
            obtain ⟨ka, hka⟩ : ∃ ka, decide (1 ≤ K) = ka := ⟨_, rfl⟩
            obtain ⟨kb, hkb⟩ : ∃ kb, decide (K ≤ 32) = kb := ⟨_, rfl⟩
            have EQ := fun w => eq_nd_bare O K K S T true vl vh (beq_self_eq_true K) eS eT w
            rw [hv, hvl, hvh, hK, hka, hkb] at e
            subst e
            clear hv hS hT hvl hvh hK hO CO CR hr hz hk0 eS eT h1 h3 h4 h6
            rcases h7 with rfl | rfl
            all_goals
              cases vl
              case' true =>
                cases vh
                case' true =>
                  cases ka
                  case' true =>
                    cases kb
            all_goals
              go_enter Try.func34, Try.ntmps34
              go_wp2_with fail
              go_ret
              exact ⟨rfl, HB.out⟩
          · have n7 : (O == 7) = false := beq_eq_false_iff_ne.2 fun e => h7 (.inl e)
            have n8 : (O == 8) = false := beq_eq_false_iff_ne.2 fun e => h7 (.inr e)
            have e := nodeV_no (n := n) (by rw [hO]; omega)
            rw [hv] at e
            subst e
            clear hv hS hT hvl hvh hK hO CO CR hr hz hk0 eS eT h1 h3 h4 h6 h7
            go_enter Try.func34, Try.ntmps34
            go_wp2_with fail
            go_ret
            exact ⟨rfl, HB.out⟩
set_option maxHeartbeats 1000000 in
theorem flt_right (A : Option Addr) (c n : Nat) (l : List Nd) (hn : n = l.length) (hl : ∀ r ∈ l, r.lo.length ≤ 1000000) (v : Bool) (hv : rightN l = v) (w : World) (hr : kNd.Rd w w.heap.size A c l) :
    Calls Try.prog 10 #[.slice A n c] w fun e w' => e = .returned (.bool v) ∧ Below w.heap.size w w' := by
  have HN := Lib.hid hn
  have HR := Lib.hid hr
  have HV := Lib.hid hv
  have HL := Lib.hid hl
  have hmx : n ≤ 9223372036854775807 := rd_max hr hn
  have hcx : n ≤ c := by rw [hn]; exact hr.room
  by_cases h32 : n ≤ 32
  · have HD : Hid (rightN l = (decide (1 ≤ n) && decide (depV l 0 = some 1))) := by
      unfold rightN
      rw [← hn, decide_eq_true h32, Bool.and_true]
      rfl
    clear hn hr hv hl
    go_enter Try.func10, Try.ntmps10
    go_wp2_with fail
    go_loopw [3, 11] (fun o i wr => ∃ k d : Nat, k ≤ n ∧ d ≤ k ∧ (0 < k → 0 < d) ∧ Hid (depV l 0 = depV (l.drop k) d) ∧ o = .int .i64 d ∧ i = .int .i64 k ∧ Below w.heap.size w wr) (fun _ i _ => n - (intOf i).toNat)
    case atStart => exact ⟨0, 0, by omega, by omega, by omega, rfl, rfl, rfl, Below.refl _ _⟩
    case round =>
      obtain ⟨k, d, hk, hd9, hd0, HE, rfl, rfl, hb⟩ := hrel
      by_cases hlt : k < n
      · obtain ⟨r, hg, hd, hrm⟩ := get_some (l := l) (k := k) (by have := HN.out; omega)
        obtain ⟨b, o, rfl, hb1, hcell⟩ := nds_at (HR.out.below hb) (by have := HN.out; omega)
        obtain ⟨c0, c1, c2, c3⟩ := hcell k r hg
        obtain ⟨x, hx⟩ : ∃ x, nodeV r = x := ⟨_, rfl⟩
        have C := fun w => Lib.hid (flt_node r _ _ _ _ rfl rfl rfl rfl (HL.out r hrm) x hx w)
        have hb2 := Nat.lt_of_lt_of_le hb1 hb.size
        obtain ⟨O, hO⟩ : ∃ O, r.op = O := ⟨_, rfl⟩
        obtain ⟨K, hK⟩ : ∃ K, r.kids = K := ⟨_, rfl⟩
        obtain ⟨S, hS⟩ : ∃ S, str r.lo = S := ⟨_, rfl⟩
        obtain ⟨T, hT⟩ : ∃ T, str r.hi = T := ⟨_, rfl⟩
        rw [hO, hK, hS, hT] at C
        rw [hO] at c0
        rw [hK] at c1
        rw [hS] at c2
        rw [hT] at c3
        have HB1 := Lib.hid (hb.alloc hb.size (.cells #[.int .i64 O, .int .i64 K, .string S, .string T] 33))
        cases x
        · have HF : Hid (false = v) := by
            have e := HV.out
            rw [HD.out, HE.out, hd, depV_wrong (.inl hx), decide_eq_false (p := none = some 1) (by simp), Bool.and_false] at e
            exact e
          clear hcell hg hd hO hK hS hT hx HE
          go_wp2_with ((with_reducible refine (C _).out.mono ?_); rintro e w2 ⟨rfl, hq⟩; have HB2 := Lib.hid (HB1.out.trans (hq.mono HB1.out.size)); clear hq)
          go_ret
          exact ⟨ret_bool HF.out, HB2.out⟩
        · obtain ⟨g0, g32⟩ := nodeV_kids hx
          rw [hK] at g0 g32
          obtain ⟨q, rfl⟩ : ∃ q : Nat, K = (q : Int) := ⟨K.toNat, by omega⟩
          have hq9 : q ≤ 32 := by omega
          have hkq : kidsN r = q := by unfold kidsN; rw [hK]; rfl
          by_cases hqd : q ≤ d
          · have HE2 := Lib.hid (HE.out.trans (show depV (l.drop k) d = depV (l.drop (k + 1)) (d - q + 1) by rw [hd, depV_node hx (by omega), hkq]))
            have t1 : decide (d < q) = false := decide_eq_false (by omega)
            have t2 : decide ((d : Int) < (q : Int)) = false := decide_eq_false (by omega)
            have hd32 : d ≤ 32 := by omega
            clear hcell hg hd hO hK hS hT hx HE hkq
            go_wp2_with ((with_reducible refine (C _).out.mono ?_); rintro e w2 ⟨rfl, hq⟩; have HB2 := Lib.hid (HB1.out.trans (hq.mono HB1.out.size)); obtain ⟨hc, hf⟩ := bcell hq; clear hq)
            go_roundw
            case rel => exact ⟨k + 1, d - q + 1, by omega, by omega, by omega, HE2, by go_num, by go_num, HB2.out⟩
            case measure => simp [intOf]; omega
          · have HF : Hid (false = v) := by
              have e := HV.out
              rw [HD.out, HE.out, hd, depV_wrong (.inr (by omega)), decide_eq_false (p := none = some 1) (by simp), Bool.and_false] at e
              exact e
            have t1 : decide (d < q) = true := decide_eq_true (by omega)
            have t2 : decide ((d : Int) < (q : Int)) = true := decide_eq_true (by omega)
            clear hcell hg hd hO hK hS hT hx HE hkq
            go_wp2_with ((with_reducible refine (C _).out.mono ?_); rintro e w2 ⟨rfl, hq⟩; have HB2 := Lib.hid (HB1.out.trans (hq.mono HB1.out.size)); obtain ⟨hc, hf⟩ := bcell hq; clear hq)
            go_ret
            exact ⟨ret_bool HF.out, HB2.out⟩
      · have HE2 := Lib.hid (HE.out.trans (show depV (l.drop k) d = some d by rw [List.drop_eq_nil_of_le (by have := HN.out; omega)]; rfl))
        have HF : Hid (((d : Int) == 1) = v) := by
          have e := HV.out
          rw [HD.out, HE2.out] at e
          rw [← e]
          by_cases h1 : d = 1
          · subst h1; rw [decide_eq_true (show 1 ≤ n by omega)]; rfl
          · rw [decide_eq_false (p := some d = some 1) (by simpa using h1), Bool.and_false]
            exact beq_eq_false_iff_ne.2 (by omega)
        clear HE
        go_wp2_with fail
        go_ret
        exact ⟨ret_bool HF.out, hb⟩
  · have HD : Hid (false = v) := by
      have e := HV.out
      unfold rightN at e
      rw [← hn, decide_eq_false h32, Bool.and_false, Bool.false_and] at e
      exact e
    clear hn hr hv hl
    go_enter Try.func10, Try.ntmps10
    go_wp2_with fail
    go_ret
    exact ⟨ret_bool HD.out, Below.refl _ _⟩
end Go.Proofs.Ytbobgkepnocenaa

/-
  append of one thing to a slice that has no room: always a row of the call's own. Slices cut out of rows whose things take a cell each.
-/
namespace Go.Proofs.Ytbobgkepnocenaa
open Go.RowKit

theorem run_take3 {T E : TypeId} (ht : Try.prog.underlying T = some (.slice E)) (hs : ∀ w, (sizeOf E).run Try.prog w = .ok 1 w) (w : World) (A : Option Addr) (n c m : Nat) (h2 : m ≤ c) :
    (Instr.slice T (.slice A n c) none (some (.int .i64 (m : Int))) (some (.int .i64 (m : Int)))).run Try.prog w = .ok (.slice A m m) w := by
  have ht' : Try.prog.underlying T = some (.slice (Try.prog.elem T)) := by simp [Program.elem, ht]
  have he : Try.prog.elem T = E := by simp [Program.elem, ht]
  rw [run_slice_hm w T _ _ _ ht' .i64 .i64 _ _ (by omega) (by omega) (by omega), he, hs]
  cases A <;> simp [Result.andThen, sliced, Addr.add]
namespace Kind
variable {P : Program} {α : Type} {k : Kind P α}
theorem Rd.take {w : World} {B : Nat} {A : Option Addr} {c : Nat} {l : List α} (h : k.Rd w B A c l) {j : Nat} (hj : j ≤ l.length) : k.Rd w B A j (l.take j) :=
  ⟨by rw [k.row_take]; exact h.row.take _, by rw [List.length_take]; omega, by have := h.room; have := h.cap; omega⟩
theorem Rd.cut1 {w : World} {B : Nat} {A : Option Addr} {c : Nat} {l : List α} (h1 : k.size = 1) (h : k.Rd w B A c l) {j : Nat} (hj : j ≤ l.length) : k.Rd w B (cutA A j c) (c - j) (l.drop j) := by
  refine ⟨?_, by have := h.room; rw [List.length_drop]; omega, by have := h.cap; omega⟩
  have e : (k.row l).length = l.length := by rw [k.row_len, h1, Nat.mul_one]
  have h2 := RowAt.cut h.row (k := j) (c := c) (by rw [e]; exact hj) (by rw [e]; exact h.room)
  rw [k.row_drop, h1, Nat.mul_one]
  exact h2
/-- A row of no address has nothing in it. -/
theorem Rd.none {w : World} {B : Nat} {c : Nat} {l : List α} (h : k.Rd w B none c l) : l = [] := by
  rcases h.row with h0 | ⟨b, o, h1, _⟩
  · have e := congrArg List.length h0
    rw [k.row_len, List.length_nil] at e
    cases l with
    | nil => rfl
    | cons x l =>
      rw [List.length_cons] at e
      exact absurd e (Nat.ne_of_gt (Nat.mul_pos (Nat.succ_pos l.length) k.pos))
  · cases h1
end Kind
theorem wpList_app_full {P : Program} {α : Type} (k : Kind P α) {w : World} {ops : Array Oper} {rest : List Oper} {o : Oper} {a : Act} {Q : Exit → Act → World → Prop} (hgd : o.guard = none) (s x : Operand)
    (ho : o.op = .call { callee := .builtin .append, args := #[s, x], argTypes := #[k.ty, k.ty] })
    (B : Nat) (A : Option Addr) (n : Nat) (xs : List α) (hn : n = xs.length) (hs : a.eval s = .slice A n n) (hr : k.Rd w B A n xs)
    (B' g : Nat) (y : α) (hx : a.eval x = .slice (some ⟨g, 0, none⟩) 1 1) (hy : RowAt w B' (some ⟨g, 0, none⟩) (k.row [y])) (hlen : n ≤ 100000) (hby : k.bytes ≤ 1000)
    (h : ∀ v' w', k.Own w' w.heap.size v' (xs ++ [y]) → Below w.heap.size w w' → wpList P ops Q rest (a.put o.dst v') w') : wpList P ops Q (o :: rest) a w := by
  obtain ⟨i0, hi0, hz0, hz1, hz2⟩ := info_parts k.info
  refine wpList_append_grows w hgd s x k.ty ho k.el i0 _ k.size k.bytes k.under hi0 hz0 hz1 hz2 k.zsize k.pos A n n (k.row xs) hs ?_ ?_ ?_ ⟨g, 0, none⟩ 1 1 (k.row [y]) hx (k.row_len [y]) ?_ (k.row_cells [y]) (by omega) (by unfold maxLen; omega) ?_ ?_
  · intro e
    subst e
    have := hr.none
    subst this
    exact ⟨hn, hn⟩
  · rw [hn]; exact k.row_len xs
  · intro b hb j u hj
    rcases hr.row with h0 | ⟨b1, o1, rfl, h2, h3⟩
    · rw [h0] at hj; simp at hj
    · injection hb with hb
      subst hb
      rw [Addr.add_lit]
      exact h3 j u hj
  · intro j u hj
    rcases hy with h0 | ⟨b1, o1, h1, h2, h3⟩
    · rw [h0] at hj; simp at hj
    · injection h1 with h1
      injection h1 with h1 h1o
      subst h1 h1o
      rw [Addr.add_lit]
      exact h3 j u hj
  · have := Nat.mul_le_mul (show n + 1 ≤ 100001 by omega) hby
    omega
  · intro v' w' h1 h2
    rw [← k.row_append] at h1
    exact h v' w' (Kind.Own.of_row h1) ((Below.refl _ _).grown h2 (Nat.le_refl _) (fun g hg => by cases hg))
end Go.Proofs.Ytbobgkepnocenaa
