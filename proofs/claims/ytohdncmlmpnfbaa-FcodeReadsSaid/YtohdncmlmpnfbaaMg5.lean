/-
  Several texts in one: FltA, FltB, FcdA, FcdB, FcdC, FltC, SpanC, Region, FltD, FcdD.
-/
import Derived.Deep.RegionHeld3
import Derived.Deep.CutRange
import Derived.Test.YtohdncmlmpnfbaaMg4
/-
  Layer 9 (filter), the document's words: are two filters the same, node by node; is one too long to be looked at.
-/
namespace Go.Proofs.Ytohdncmlmpnfbaa
open Go.RowKit

def eqN (a b : Nd) : Bool := decide (a.op = b.op) && decide (a.kids = b.kids) && decide (a.lo = b.lo) && decide (a.hi = b.hi)
theorem eqN_iff {a b : Nd} : eqN a b = true ↔ a = b := by
  unfold eqN
  simp only [Bool.and_eq_true, decide_eq_true_eq]
  constructor
  · rintro ⟨⟨⟨h1, h2⟩, h3⟩, h4⟩
    cases a; cases b; simp_all
  · intro h; subst h; exact ⟨⟨⟨rfl, rfl⟩, rfl⟩, rfl⟩
def sameN : List Nd → List Nd → Bool
  | [], [] => true
  | r :: a, t :: b => eqN r t && sameN a b
  | _, _ => false
theorem sameN_cons (r t : Nd) (a b : List Nd) : sameN (r :: a) (t :: b) = (eqN r t && sameN a b) := rfl
theorem sameN_iff : ∀ {a b : List Nd}, sameN a b = true ↔ a = b
  | [], [] => by simp [sameN]
  | [], t :: b => by simp [sameN]
  | r :: a, [] => by simp [sameN]
  | r :: a, t :: b => by
    unfold sameN
    rw [Bool.and_eq_true, eqN_iff, sameN_iff, List.cons.injEq]
theorem sameN_len {a b : List Nd} (h : a.length ≠ b.length) : sameN a b = false := by
  cases hs : sameN a b with
  | false => rfl
  | true => rw [sameN_iff.1 hs] at h; exact absurd rfl h
theorem eq_nd (i j k m : Int) (a b c d : ByteArray) (q : Bool) (hq : (i == k && j == m && a.toList == c.toList && b.toList == d.toList) = q) (w : World) :
    (Op.equalIn 10000 51 (.agg #[.int .i64 i, .int .i64 j, .string a, .string b]) (.agg #[.int .i64 k, .int .i64 m, .string c, .string d])).run Try.prog w = .ok q w := by
  subst hq
  have u2 := Try.underlying3
  have a2 := Try.isAgg3
  have z2 := Try.sizeOf3
  have u3 := Try.underlying9
  have a3 := Try.isAgg9
  have z3 := Try.sizeOf9
  have hS : Try.prog.underlying 51 = some (.struct (Try.prog.fieldsOf 51)) := by kernel_rfl
  have hp : Try.prog.stoodInHeld 51 = false := by kernel_rfl
  rw [show (10000 : Nat) = 9999 + 1 from rfl, run_equalIn_agg w 9999 51 _ _ hS hp]
  simp only [Program.fieldsOf, Try.underlying51]
  go_simp
  by_cases h1 : i = k <;> by_cases h2 : j = m <;> by_cases h3 : a.toList = c.toList <;> by_cases h4 : b.toList = d.toList <;> simp [h1, h2, h3, h4]
theorem eq_nds (r t : Nd) (d : Bool) (hd : eqN r t = d) (w : World) : (Op.equalIn 10000 51 (.agg #[.int .i64 r.op, .int .i64 r.kids, .string (str r.lo), .string (str r.hi)]) (.agg #[.int .i64 t.op, .int .i64 t.kids, .string (str t.lo), .string (str t.hi)])).run Try.prog w = .ok d w := by
  refine eq_nd _ _ _ _ _ _ _ _ d ?_ w
  rw [← hd, str_toList, str_toList, str_toList, str_toList]
  unfold eqN
  by_cases h1 : r.op = t.op <;> by_cases h2 : r.kids = t.kids <;> by_cases h3 : r.lo = t.lo <;> by_cases h4 : r.hi = t.hi <;> simp [h1, h2, h3, h4]
set_option maxHeartbeats 1000000 in
theorem ref_nsame (A B : Option Addr) (c d n m : Nat) (a b : List Nd) (hn : n = a.length) (hm : m = b.length) (v : Bool) (hv : sameN a b = v) (w : World) (ha : kNd.Rd w w.heap.size A c a) (hb : kNd.Rd w w.heap.size B d b) :
    Calls Try.prog 19 #[.slice A n c, .slice B m d] w fun e w' => e = .returned (.bool v) ∧ ∃ q, w' = w.drewN q := by
  have HN := Lib.hid hn
  have HM := Lib.hid hm
  have HA := Lib.hid ha
  have HB := Lib.hid hb
  have hmx : n ≤ 9223372036854775807 := rd_max ha hn
  have hmy : m ≤ 9223372036854775807 := rd_max hb hm
  have hcx : n ≤ c := by rw [hn]; exact ha.room
  have hcy : m ≤ d := by rw [hm]; exact hb.room
  subst hv
  by_cases hnm : n = m
  · subst hnm
    clear hn hm ha hb
    go_enter Try.func19, Try.ntmps19
    go_wp2_with fail
    go_loopw [5] (fun i wr => ∃ k q : Nat, k ≤ n ∧ Hid (sameN a b = sameN (a.drop k) (b.drop k)) ∧ i = .int .i64 k ∧ wr = w.drewN q) (fun i _ => n - (intOf i).toNat)
    case atStart => exact ⟨0, 0, by omega, rfl, rfl, rfl⟩
    case round =>
      obtain ⟨k, q, hk, HL, rfl, rfl⟩ := hrel
      by_cases hlt : k < n
      · obtain ⟨r, hg, hd, -⟩ := get_some (l := a) (k := k) (by have := HN.out; omega)
        obtain ⟨t, hg', hd', -⟩ := get_some (l := b) (k := k) (by have := HM.out; omega)
        obtain ⟨b1, o1, rfl, hb1, hcell1⟩ := nds_at HA.out (by have := HN.out; omega)
        obtain ⟨b2, o2, rfl, hb2, hcell2⟩ := nds_at HB.out (by have := HM.out; omega)
        obtain ⟨a0, a1, a2, a3⟩ := hcell1 k r hg
        obtain ⟨c0, c1, c2, c3⟩ := hcell2 k t hg'
        obtain ⟨x, hx⟩ : ∃ x, eqN r t = x := ⟨_, rfl⟩
        have EQ := fun w => eq_nds r t x hx w
        have HL2 := Lib.hid (HL.out.trans (show sameN (a.drop k) (b.drop k) = (x && sameN (a.drop (k + 1)) (b.drop (k + 1))) by rw [hd, hd', sameN_cons, hx]))
        have hk0 : (0 : Int) ≤ (k : Int) := by omega
        have hkn : (k : Int) < (n : Int) := by omega
        clear hcell1 hcell2 hg hg' hd hd' hx
        cases x
        all_goals
          go_wp2_with fail
          go_quiet (fail)
          go_wp2_with fail
        · go_ret
          exact ⟨ret_bool HL2.out.symm, drewN2 _ _ _⟩
        · go_roundw
          case rel => exact ⟨k + 1, _, by omega, HL2, by go_num, rfl⟩
          case measure => simp [intOf]; omega
      · have HL2 := Lib.hid (HL.out.trans (show sameN (a.drop k) (b.drop k) = true by rw [List.drop_eq_nil_of_le (by have := HN.out; omega), List.drop_eq_nil_of_le (by have := HM.out; omega)]; rfl))
        go_wp2_with fail
        go_ret
        exact ⟨ret_bool HL2.out.symm, _, rfl⟩
  · have HE := Lib.hid (sameN_len (a := a) (b := b) (by omega))
    have hne : ((n : Int) == (m : Int)) = false := beq_eq_false_iff_ne.2 (by omega)
    have hne2 : ((n : Int) != (m : Int)) = true := by rw [bne, hne]; rfl
    clear hn hm ha hb hnm
    go_enter Try.func19, Try.ntmps19
    go_wp2_with fail
    go_ret
    exact ⟨ret_bool HE.out.symm, 0, rfl⟩
/-- Has a list too many nodes, or one of them too long an edge? -/
def longN (most : Nat) (l : List Nd) : Bool := decide (most < l.length) || l.any fun r => decide (40 < r.lo.length) || decide (40 < r.hi.length)
set_option maxHeartbeats 1000000 in
theorem ref_nlong (A : Option Addr) (c n most : Nat) (l : List Nd) (hn : n = l.length) (hm : most ≤ 1000) (v : Bool) (hv : longN most l = v) (w : World) (hr : kNd.Rd w w.heap.size A c l) :
    Calls Try.prog 14 #[.slice A n c, .int .i64 most] w fun e w' => e = .returned (.bool v) ∧ w = w' := by
  have HN := Lib.hid hn
  have HR := Lib.hid hr
  have hmx : n ≤ 9223372036854775807 := rd_max hr hn
  have hcx : n ≤ c := by rw [hn]; exact hr.room
  subst hv
  by_cases h1 : most < n
  · have HE : Hid (longN most l = true) := by unfold longN; rw [decide_eq_true (by omega)]; rfl
    clear hn hr
    go_enter Try.func14, Try.ntmps14
    go_wp2_with fail
    go_ret
    exact ⟨ret_bool HE.out.symm, rfl⟩
  · have h1' : n ≤ most := by omega
    have HE : Hid (longN most l = l.any fun r => decide (40 < r.lo.length) || decide (40 < r.hi.length)) := by unfold longN; rw [decide_eq_false (by omega), Bool.false_or]; rfl
    clear hn hr h1
    go_enter Try.func14, Try.ntmps14
    go_wp2_with fail
    go_loop [5] (fun i => ∃ k : Nat, k ≤ n ∧ Hid (longN most l = (l.drop k).any fun r => decide (40 < r.lo.length) || decide (40 < r.hi.length)) ∧ i = .int .i64 k) (fun i => n - (intOf i).toNat)
    case atStart => exact ⟨0, by omega, HE, rfl⟩
    case round =>
      obtain ⟨k, hk, HL, rfl⟩ := hrel
      by_cases hlt : k < n
      · obtain ⟨r, hg, hd, -⟩ := get_some (l := l) (k := k) (by have := HN.out; omega)
        obtain ⟨b1, o1, rfl, hb1, hcell1⟩ := nds_at HR.out (by have := HN.out; omega)
        obtain ⟨-, -, a0, a1⟩ := hcell1 k r hg
        have HL2 := Lib.hid (HL.out.trans (by rw [hd, List.any_cons]))
        have hz1 : (str r.lo).size = r.lo.length := str_size _
        have hz2 : (str r.hi).size = r.hi.length := str_size _
        clear hcell1 hg hd HE
        obtain ⟨S, hS⟩ : ∃ S, str r.lo = S := ⟨_, rfl⟩
        obtain ⟨T, hT⟩ : ∃ T, str r.hi = T := ⟨_, rfl⟩
        rw [hS] at a0 hz1
        rw [hT] at a1 hz2
        by_cases g1 : r.lo.length ≤ 40
        · by_cases g2 : r.hi.length ≤ 40
          · have k1 : S.size ≤ 40 := by omega
            have k2 : T.size ≤ 40 := by omega
            have HE := Lib.hid (HL2.out.trans (by rw [decide_eq_false (show ¬ 40 < r.lo.length by omega), decide_eq_false (show ¬ 40 < r.hi.length by omega), Bool.or_self, Bool.false_or]))
            clear hz1 hz2 hS hT g1 g2 HL2
            go_wp2_with fail
            go_round
            case rel => exact ⟨k + 1, by omega, HE, by go_num⟩
            case measure => simp [intOf]; omega
          · have k1 : S.size ≤ 40 := by omega
            have k2 : 40 < T.size := by omega
            have HE := Lib.hid (HL2.out.trans (by rw [decide_eq_true (show 40 < r.hi.length by omega), Bool.or_true, Bool.true_or]))
            clear hz1 hz2 hS hT g1 g2 HL2
            go_wp2_with fail
            go_ret
            exact ⟨ret_bool HE.out.symm, rfl⟩
        · have k1 : 40 < S.size := by omega
          have HE := Lib.hid (HL2.out.trans (by rw [decide_eq_true (show 40 < r.lo.length by omega), Bool.true_or, Bool.true_or]))
          clear hz1 hz2 hS hT g1 HL2
          go_wp2_with fail
          go_ret
          exact ⟨ret_bool HE.out.symm, rfl⟩
      · have HL2 := Lib.hid (HL.out.trans (by rw [List.drop_eq_nil_of_le (by have := HN.out; omega), List.any_nil]))
        clear HE
        go_wp2_with fail
        go_ret
        exact ⟨ret_bool HL2.out.symm, rfl⟩
end Go.Proofs.Ytohdncmlmpnfbaa

/-
  Layer 9 (filter), the document's words: where a filter begins; is it right.
-/
namespace Go.Proofs.Ytohdncmlmpnfbaa
open Go.RowKit

theorem take_rev_suffix {l R : List Nd} {p : Nat} (h : R <:+ (l.take p).reverse) : R = (l.take R.length).reverse ∧ R.length ≤ p := by
  have h1 : R.reverse <+: l.take p := by rw [← List.reverse_suffix, List.reverse_reverse]; exact h
  have h2 := List.prefix_iff_eq_take.1 h1
  have h3 := h1.length_le
  rw [List.length_reverse, List.length_take] at h3
  rw [List.length_reverse, List.take_take, Nat.min_eq_left (by omega)] at h2
  refine ⟨?_, by omega⟩
  rw [← h2, List.reverse_reverse]
theorem begV_some {l R : List Nd} {p : Nat} (h : cntV 1 (l.take p).reverse = some R) : begV l p = (R.length : Nat) := by unfold begV; rw [h]
theorem begV_none {l : List Nd} {p : Nat} (h : cntV 1 (l.take p).reverse = none) : begV l p = -1 := by unfold begV; rw [h]
theorem take_snoc_rev {l : List Nd} {k : Nat} {n : Nd} (h : l[k]? = some n) : (l.take (k + 1)).reverse = n :: (l.take k).reverse := by
  rw [List.take_add_one, h]; simp
theorem cnt_none {R R' : List Nd} {i m : Nat} (h : cntV i R = some R') (h' : cntV 1 R' = none) (hm : i < m) : cntV m R = none := by
  rw [show m = i + (1 + (m - i - 1)) by omega, cntV_add, h]
  show cntV (1 + (m - i - 1)) R' = none
  rw [cntV_add, h']; rfl
theorem cnt_more {R R' R'' : List Nd} {i : Nat} (h : cntV i R = some R') (h' : cntV 1 R' = some R'') : cntV (i + 1) R = some R'' := by
  rw [cntV_add, h]; exact h'
set_option maxHeartbeats 1000000 in
theorem ref_begin (A : Option Addr) (c n : Nat) (l : List Nd) (hn : n = l.length) (hn9 : n ≤ 100000) : ∀ (k p : Nat), p ≤ k → p ≤ n → ∀ (x : Int), x = (p : Int) - 1 → ∀ w, kNd.Rd w w.heap.size A c l →
    Calls Try.prog 35 #[.slice A n c, .int .i64 x] w fun e w' => e = .returned (.int .i64 (begV l p)) ∧ Below w.heap.size w w' := by
  intro k
  induction k with
  | zero =>
    intro p hp _ x hx w _
    obtain rfl : p = 0 := by omega
    obtain rfl : x = -1 := by omega
    have e : begV l 0 = -1 := begV_none rfl
    rw [e]
    clear e hp hx hn hn9
    go_enter Try.func35, Try.ntmps35
    go_wp2_with fail
    go_ret
    exact ⟨rfl, Below.refl _ _⟩
  | succ k ih =>
    intro p hp hpn x hx w hr
    by_cases hpk : p ≤ k
    · exact ih p hpk hpn x hx w hr
    obtain rfl : p = k + 1 := by omega
    obtain rfl : x = (k : Int) := by omega
    obtain ⟨nd, hg, -, -⟩ := get_some (l := l) (k := k) (by omega)
    obtain ⟨b, o, hA, hb1, hcell⟩ := nds_at hr (by omega)
    obtain ⟨c0, c1, c2, c3⟩ := hcell k nd hg
    obtain ⟨v, hv⟩ : ∃ v, nodeV nd = v := ⟨_, rfl⟩
    have C := fun w => Lib.hid (ref_node nd _ _ _ _ rfl rfl rfl rfl v hv w)
    have hcx : n ≤ c := by rw [hn]; exact hr.room
    have HR := Lib.hid hr
    have IH := fun q hq w' hr' => Lib.hid (ih q hq (by omega) ((q : Int) - 1) rfl w' hr')
    have HT := take_snoc_rev hg
    obtain ⟨O, hO⟩ : ∃ O, nd.op = O := ⟨_, rfl⟩
    obtain ⟨K, hK⟩ : ∃ K, nd.kids = K := ⟨_, rfl⟩
    obtain ⟨S, hS⟩ : ∃ S, str nd.lo = S := ⟨_, rfl⟩
    obtain ⟨T, hT⟩ : ∃ T, str nd.hi = T := ⟨_, rfl⟩
    rw [hO, hK, hS, hT] at C
    rw [hO] at c0
    rw [hK] at c1
    rw [hS] at c2
    rw [hT] at c3
    have hbw := Lib.hid (Below.refl w.heap.size w)
    have hk0 : decide ((k : Int) < 0) = false := decide_eq_false (by omega)
    have hkn : decide ((n : Int) ≤ (k : Int)) = false := decide_eq_false (by omega)
    have hkn3 : decide (n ≤ k) = false := decide_eq_false (by omega)
    have hkn2 : (k : Int) < (n : Int) := by omega
    have hk2 : (0 : Int) ≤ (k : Int) := by omega
    cases v
    · have e : begV l (k + 1) = -1 := begV_none (by rw [HT]; exact cntV_wrong hv)
      rw [e]
      subst hA
      clear hcell hg hv HT hO hS hT hr ih IH e hK hx hp hpn hpk
      go_enter Try.func35, Try.ntmps35
      go_wp2_with ((with_reducible refine (C _).out.mono ?_); rintro e w1 ⟨rfl, hq⟩)
      go_ret
      exact ⟨rfl, hq⟩
    · have hkid := nodeV_kids hv
      have HX : Hid (begV l (k + 1) = match cntV (kidsN nd) (l.take k).reverse with | some R => ((R.length : Nat) : Int) | none => -1) := by
        unfold begV
        rw [HT, cntV_node hv, Nat.zero_add]; rfl
      obtain ⟨m, hm⟩ : ∃ m : Nat, kidsN nd = m := ⟨_, rfl⟩
      have hKm : K = (m : Int) := by unfold kidsN at hm; rw [hK] at hkid hm; omega
      rw [hm] at HX
      have hm9 : m ≤ 32 := by unfold kidsN at hm; omega
      subst hA
      clear hcell hg hv HT hO hS hT hr ih hK hx hp hpn hpk hkid hm
      subst hKm
      have HN := Lib.hid hn
      clear hn
      go_enter Try.func35, Try.ntmps35
      go_wp2_with ((with_reducible refine (C _).out.mono ?_); rintro e w1 ⟨rfl, hq⟩; replace hbw := Lib.hid hq; clear hq)
      go_loopw [5, 6] (fun s i wr => ∃ (j q : Nat) (R : List Nd), j ≤ m ∧ Hid (cntV j (l.take k).reverse = some R) ∧ Hid (R.length = q) ∧ s = .int .i64 q ∧ i = .int .i64 j ∧ Hid (Below w.heap.size w wr)) (fun _ i _ => m - (intOf i).toNat)
      case atStart => exact ⟨0, k, _, by omega, cntV_zero _, (show ((l.take k).reverse).length = k by rw [List.length_reverse, List.length_take]; have := HN.out; omega), rfl, rfl, hbw.out⟩
      case round =>
        obtain ⟨j, q, R, hj, HC, HQ, rfl, rfl, HB⟩ := hrel
        have hsx := take_rev_suffix (cntV_suffix _ _ HC.out)
        rw [HQ.out] at hsx
        obtain ⟨hs1, hs2⟩ := hsx
        have hbl := Nat.lt_of_lt_of_le hb1 HB.out.size
        have d1 := ((bcell HB.out).1 _ _ hb1).trans c1
        by_cases hlt : j < m
        · have I := fun w' hr' => IH q hs2 w' hr'
          have hw1 : IntKind.i64.wrap ((q : Int) - 1) = (q : Int) - 1 := IntWalk.i64_in _ (by omega)
          cases hc : cntV 1 R with
          | none =>
            have e : begV l q = -1 := begV_none (by rw [← hs1]; exact hc)
            have HE : Hid (begV l (k + 1) = -1) := by rw [HX.out, cnt_none HC.out hc hlt]; exact rfl
            rw [e] at I
            clear hc hs1 IH
            go_wp2_with ((with_reducible refine (I _ (HR.out.call HB.out)).out.mono ?_); rintro e w2 ⟨rfl, hq⟩; replace HB := Lib.hid (HB.out.trans (hq.mono HB.out.size)); clear hq)
            go_ret
            exact ⟨by rw [HE.out]; rfl, HB.out⟩
          | some R' =>
            have e : begV l q = (R'.length : Nat) := begV_some (by rw [← hs1]; exact hc)
            have HC2 := Lib.hid (cnt_more HC.out hc)
            rw [e] at I
            obtain ⟨q', hq'⟩ : ∃ q', R'.length = q' := ⟨_, rfl⟩
            rw [hq'] at I
            have HQ2 := Lib.hid hq'
            have hq0 : decide ((q' : Int) < 0) = false := decide_eq_false (by omega)
            clear hc hs1 IH e hq'
            go_wp2_with ((with_reducible refine (I _ (HR.out.call HB.out)).out.mono ?_); rintro e w2 ⟨rfl, hq⟩; replace HB := Lib.hid (HB.out.trans (hq.mono HB.out.size)); clear hq)
            go_roundw
            case rel => exact ⟨j + 1, q', R', by omega, HC2.out, HQ2.out, rfl, by go_num, HB.out⟩
            case measure => simp [intOf]; omega
        · have HE : Hid (begV l (k + 1) = (q : Int)) := by rw [HX.out, show m = j by omega, HC.out]; exact congrArg Nat.cast HQ.out
          clear IH hs1
          go_wp2_with fail
          go_ret
          exact ⟨by rw [HE.out]; rfl, HB.out⟩
theorem ref_nright (A : Option Addr) (c n : Nat) (l : List Nd) (hn : n = l.length) (hn9 : n ≤ 100000) (v : Bool) (hv : rightN l = v) (w : World) (hr : kNd.Rd w w.heap.size A c l) :
    Calls Try.prog 16 #[.slice A n c] w fun e w' => e = .returned (.bool v) ∧ Below w.heap.size w w' := by
  rw [rightN_beg, ← hn] at hv
  have C := fun x hx => Lib.hid (ref_begin A c n l hn hn9 n n (Nat.le_refl _) (Nat.le_refl _) x hx w hr)
  clear hr
  by_cases h1 : 1 ≤ n
  · by_cases h2 : n ≤ 32
    · obtain ⟨z, hz⟩ : ∃ z, begV l n = z := ⟨_, rfl⟩
      rw [decide_eq_true h1, decide_eq_true h2, Bool.true_and, Bool.true_and, hz] at hv
      rw [hz] at C
      have hw1 : IntKind.i64.wrap ((n : Int) - 1) = (n : Int) - 1 := IntWalk.i64_in _ (by omega)
      have C := C ((n : Int) - 1) rfl
      have hz2 : (z == 0) = v := by rw [← hv]; by_cases h : z = 0 <;> simp [h]
      clear hz hn hv
      go_enter Try.func16, Try.ntmps16
      go_wp2_with ((with_reducible refine C.out.mono ?_); rintro e w1 ⟨rfl, hq⟩)
      go_ret
      exact ⟨rfl, hq⟩
    · obtain rfl : v = false := by rw [← hv, decide_eq_false h2, Bool.false_and, Bool.and_false]
      clear hv C hn
      go_enter Try.func16, Try.ntmps16
      go_wp2_with fail
      go_ret
      exact ⟨rfl, Below.refl _ _⟩
  · obtain rfl : v = false := by rw [← hv, decide_eq_false h1, Bool.false_and]
    clear hv C hn
    go_enter Try.func16, Try.ntmps16
    go_wp2_with fail
    go_ret
    exact ⟨rfl, Below.refl _ _⟩
end Go.Proofs.Ytohdncmlmpnfbaa

/-
  Layer 10 (fcode), the document's words: a text's bytes.
-/
namespace Go.Proofs.Ytohdncmlmpnfbaa
open Go.RowKit

set_option maxRecDepth 100000 in
set_option maxHeartbeats 1000000 in
theorem ref_vtext (s : List UInt8) (U : ByteArray) (hU : str s = U) (hs : s.length ≤ 1000000) (w : World) : Calls Try.prog 31 #[.string U] w (RetB w.heap.size w (txtB s)) := by
  subst hU
  have hsz : (str s).size = s.length := str_size s
  have hA : ∀ k, (h : k < (str s).size) → (str s)[k] = s.getD k 0 := fun k h => txt_at s k h
  obtain ⟨N, hN⟩ : ∃ N, s.length = N := ⟨_, rfl⟩
  rw [hN] at hsz hs
  have hb := fun w1 => Lib.hid (ref_bytes N N w1 (Nat.le_refl _) (by omega))
  have h9 := putV_len10 N (by omega)
  have HN := Lib.hid hN
  show Calls _ _ _ _ (RetB w.heap.size w (putV s.length ++ s))
  rw [hN]
  clear hN
  go_enter Try.func31, Try.ntmps31
  go_wp2_with ((with_reducible refine (hb _).out.mono ?_); rintro e w1 ⟨v1, rfl, hown1, hb1⟩; have HO1 := Lib.hid hown1; have HB1 := Lib.hid hb1; clear hown1 hb1)
  clear hb
  go_loopw [3, 4] (fun v i wr => ∃ k : Nat, k ≤ N ∧ i = .int .i64 k ∧ Hid (OwnB wr w.heap.size v (putV N ++ s.take k)) ∧ Hid (Below w.heap.size w wr)) (fun _ i _ => N - (intOf i).toNat)
  case atStart => exact ⟨0, by omega, rfl, by rw [List.take_zero, List.append_nil]; exact HO1, HB1⟩
  case round =>
    obtain ⟨k, hk, rfl, HO, HB⟩ := hrel
    by_cases hlt : k < N
    · have HS := Lib.hid (take_snoc_getD s k (by have := HN.out; omega))
      have hln : (s.take k).length ≤ k := by rw [List.length_take]; omega
      obtain ⟨c, hc⟩ : ∃ c, s.getD k 0 = c := ⟨_, rfl⟩
      rw [hc] at HS
      have hck := hA k (by omega)
      rw [hc] at hck
      obtain ⟨M, hM⟩ : ∃ M, putV N ++ s.take k = M := ⟨_, rfl⟩
      have hl1 : M.length + [c].length ≤ 140737488355328 := by rw [← hM, List.length_append, List.length_singleton]; omega
      have HL := Lib.hid hl1
      have HM := Lib.hid hM
      rw [hM] at HO
      have HR := Lib.hid (byte_row wr _ c rfl)
      clear hM hl1 hA hc hln h9
      go_wp2_with (at_builtin; refine wpList_app_row rfl (.tmp 14) (.tmp 18) rfl w.heap.size _ M rfl (HO.out.alloc _) _ _ 1 1 [c] rfl rfl HR.out HL.out (le_alloc HB.out.size _) ?_; intro v2 w2 hown2 _ hb2 _; have HO2 := Lib.hid hown2; have HB2 := Lib.hid ((HB.out.alloc HB.out.size _).trans hb2); clear hown2 hb2)
      go_roundw
      case rel => exact ⟨k + 1, by omega, by go_num, by rw [HS.out, ← List.append_assoc, HM.out]; exact HO2, HB2⟩
      case measure => simp [intOf]; omega
    · obtain rfl : k = N := by omega
      have HT := Lib.hid (show s.take k = s from List.take_of_length_le (by have := HN.out; omega))
      clear hA
      go_wp2_with fail
      go_ret
      exact ⟨_, rfl, by rw [← HT.out]; exact HO.out, HB.out⟩
end Go.Proofs.Ytohdncmlmpnfbaa

/-
  Layer 10 (fcode), the document's words: a list's bytes.
-/
namespace Go.Proofs.Ytohdncmlmpnfbaa
open Go.RowKit

theorem flat_len {α β : Type} (f : α → List β) (m : Nat) : ∀ l : List α, (∀ x ∈ l, (f x).length ≤ m) → (l.flatMap f).length ≤ l.length * m
  | [], _ => by simp
  | x :: l, h => by
    have h1 := h x (by simp)
    have h2 := flat_len f m l (fun y hy => h y (by simp [hy]))
    rw [List.flatMap_cons, List.length_append, List.length_cons, Nat.add_mul]
    omega
theorem flat_next {α β : Type} (f : α → List β) {l : List α} {k : Nat} {x : α} (h : l[k]? = some x) : (l.take (k + 1)).flatMap f = (l.take k).flatMap f ++ f x := by
  rw [List.take_add_one, h, List.flatMap_append]
  simp
theorem txtB_len {s : List UInt8} (h : s.length ≤ 1000000) : (txtB s).length ≤ 1000010 := by
  have := putV_len10 s.length (by omega)
  unfold txtB
  rw [List.length_append]
  omega
theorem rngB_len {r : Rng} (h : r.lo.length ≤ 1000000 ∧ r.hi.length ≤ 1000000) : (rngB r).length ≤ 2000030 := by
  have h1 := txtB_len h.1
  have h2 := txtB_len h.2
  unfold rngB
  rw [List.length_append]
  cases r.op <;> simp <;> omega
theorem take_mem {α : Type} {l : List α} {k : Nat} {x : α} (h : x ∈ l.take k) : x ∈ l := List.mem_of_mem_take h
set_option maxRecDepth 100000 in
set_option maxHeartbeats 4000000 in
theorem ref_frngs (A : Option Addr) (c n : Nat) (l : List Rng) (hn : n = l.length) (hn9 : n ≤ 100000) (hsm : ∀ r ∈ l, r.lo.length ≤ 1000000 ∧ r.hi.length ≤ 1000000) (w : World) (hr : kRng.Rd w w.heap.size A c l) :
    Calls Try.prog 12 #[.slice A n c] w (RetB w.heap.size w (rngsB l)) := by
  have HR := Lib.hid hr
  have HN := Lib.hid hn
  have HSM := Lib.hid hsm
  have hb := fun w1 => Lib.hid (ref_bytes n n w1 (Nat.le_refl _) (by omega))
  have h9 := putV_len10 n (by omega)
  show Calls _ _ _ _ (RetB w.heap.size w (putV l.length ++ l.flatMap rngB))
  rw [← hn]
  have hcx : n ≤ c := by rw [hn]; exact hr.room
  clear hr hsm hn
  go_enter Try.func12, Try.ntmps12
  go_wp2_with ((with_reducible refine (hb _).out.mono ?_); rintro e w1 ⟨v1, rfl, hown1, hb1⟩; have HO1 := Lib.hid hown1; have HB1 := Lib.hid hb1; clear hown1 hb1)
  clear hb
  go_loopw [3, 4] (fun v i wr => ∃ k : Nat, k ≤ n ∧ i = .int .i64 k ∧ Hid (OwnB wr w.heap.size v (putV n ++ (l.take k).flatMap rngB)) ∧ Hid (Below w.heap.size w wr)) (fun _ i _ => n - (intOf i).toNat)
  case atStart => exact ⟨0, by omega, rfl, by rw [List.take_zero, List.flatMap_nil, List.append_nil]; exact HO1, HB1⟩
  case round =>
    obtain ⟨k, hk, rfl, HO, HB⟩ := hrel
    by_cases hlt : k < n
    · obtain ⟨b, o, hA, hb1, hcell⟩ := rngs_at HR.out (by have := HN.out; omega)
      subst hA
      obtain ⟨r, hg, -, hmem⟩ := get_some (l := l) (k := k) (by have := HN.out; omega)
      obtain ⟨d0, d1, d2⟩ := hcell k r hg
      have hsr := HSM.out r hmem
      have HX : Hid (putV n ++ (l.take (k + 1)).flatMap rngB = (putV n ++ (l.take k).flatMap rngB) ++ rngB r) := Lib.hid (by rw [flat_next rngB hg, List.append_assoc])
      have hm0 : (putV n ++ (l.take k).flatMap rngB).length ≤ 200003000009 := by
        have := flat_len rngB 2000030 (l.take k) (fun x hx => rngB_len (HSM.out x (take_mem hx)))
        have h2 : (l.take k).length ≤ 100000 := by rw [List.length_take]; omega
        have h3 : (l.take k).length * 2000030 ≤ 100000 * 2000030 := Nat.mul_le_mul_right _ h2
        rw [List.length_append]; omega
      have hm1 := txtB_len hsr.1
      have hm2 := txtB_len hsr.2
      obtain ⟨M, hM⟩ : ∃ M, putV n ++ (l.take k).flatMap rngB = M := ⟨_, rfl⟩
      rw [hM] at HO HX hm0
      obtain ⟨S, hS⟩ : ∃ S, str r.lo = S := ⟨_, rfl⟩
      obtain ⟨T, hT⟩ : ∃ T, str r.hi = T := ⟨_, rfl⟩
      obtain ⟨q, hq1⟩ : ∃ q, r.op = q := ⟨_, rfl⟩
      rw [hS] at d0
      rw [hT] at d1
      rw [hq1] at d2
      have D0 := Lib.hid d0
      have D1 := Lib.hid d1
      have D2 := Lib.hid d2
      have c0 := ((bcell HB.out).1 _ _ hb1).trans D0.out
      have c1 := ((bcell HB.out).1 _ _ hb1).trans D1.out
      have c2 := ((bcell HB.out).1 _ _ hb1).trans D2.out
      have TX0 := fun w => Lib.hid (ref_vtext r.lo S hS hsr.1 w)
      have TX1 := fun w => Lib.hid (ref_vtext r.hi T hT hsr.2 w)
      obtain ⟨N0, hN0⟩ : ∃ N0, N0 = (txtB r.lo).length := ⟨_, rfl⟩
      obtain ⟨N1, hN1⟩ : ∃ N1, N1 = (txtB r.hi).length := ⟨_, rfl⟩
      have HN0 := Lib.hid hN0
      have HN1 := Lib.hid hN1
      have HL0 := Lib.hid (show M.length + (txtB r.lo).length ≤ 140737488355328 by omega)
      have hk2 : (0 : Int) ≤ (k : Int) := by omega
      have hkn2 : (k : Int) < (n : Int) := by omega
      obtain ⟨w9, hw9⟩ : ∃ w9, w9 = wr := ⟨_, rfl⟩
      subst hw9
      clear d0 d1 d2 hcell hN0 hN1 h9 hsr
      cases q
      · have HE := Lib.hid (show putV n ++ (l.take (k + 1)).flatMap rngB = M ++ txtB r.lo ++ [0] ++ txtB r.hi by rw [HX.out]; unfold rngB; rw [hq1]; simp)
        have HL1 := Lib.hid (show (M ++ txtB r.lo).length + [(0 : UInt8)].length ≤ 140737488355328 by rw [List.length_append, List.length_singleton]; omega)
        have HL2 := Lib.hid (show (M ++ txtB r.lo ++ [0]).length + (txtB r.hi).length ≤ 140737488355328 by rw [List.length_append, List.length_append, List.length_singleton]; omega)
        clear hq1 hm0 hm1 hm2 hg hmem hS hT hM
        go_wp2_with (first
          | ((with_reducible refine (TX0 _).out.mono ?_); rintro e w9 ⟨v2, rfl, hown2, hq⟩; replace HO := Lib.hid (HO.out.below hq); replace HB := Lib.hid (HB.out.trans (hq.mono HB.out.size)); replace c0 := ((bcell HB.out).1 _ _ hb1).trans D0.out; replace c1 := ((bcell HB.out).1 _ _ hb1).trans D1.out; replace c2 := ((bcell HB.out).1 _ _ hb1).trans D2.out; obtain ⟨A2, c_2, rfl, hr2⟩ := hown2.read_n HN0.out; have HR0 := Lib.hid hr2; clear hown2 hq hr2)
          | (at_builtin; refine wpList_app_row rfl (.tmp 14) (.tmp 20) rfl w.heap.size _ (M) rfl HO.out _ _ _ _ (txtB r.lo) HN0.out rfl HR0.out.row HL0.out HB.out.size ?_; intro v3 w9 hown3 _ hb3 _; replace HO := Lib.hid hown3; replace HB := Lib.hid (HB.out.trans hb3); replace c0 := ((bcell HB.out).1 _ _ hb1).trans D0.out; replace c1 := ((bcell HB.out).1 _ _ hb1).trans D1.out; replace c2 := ((bcell HB.out).1 _ _ hb1).trans D2.out; clear hown3 hb3)
          | (at_builtin; refine wpList_app_row rfl (.tmp 30) (.tmp 31) rfl w.heap.size _ (M ++ txtB r.lo) rfl (HO.out.alloc _) _ _ 1 1 [0] rfl rfl (byte_row _ 0 0 rfl) HL1.out (le_alloc HB.out.size _) ?_; intro v3 w9 hown3 _ hb3 _; replace HO := Lib.hid hown3; replace HB := Lib.hid ((HB.out.alloc HB.out.size _).trans hb3); replace c0 := ((bcell HB.out).1 _ _ hb1).trans D0.out; replace c1 := ((bcell HB.out).1 _ _ hb1).trans D1.out; replace c2 := ((bcell HB.out).1 _ _ hb1).trans D2.out; clear hown3 hb3)
          | ((with_reducible refine (TX1 _).out.mono ?_); rintro e w9 ⟨v2, rfl, hown2, hq⟩; replace HO := Lib.hid (HO.out.below hq); replace HB := Lib.hid (HB.out.trans (hq.mono HB.out.size)); replace c0 := ((bcell HB.out).1 _ _ hb1).trans D0.out; replace c1 := ((bcell HB.out).1 _ _ hb1).trans D1.out; replace c2 := ((bcell HB.out).1 _ _ hb1).trans D2.out; obtain ⟨A2, c_2, rfl, hr2⟩ := hown2.read_n HN1.out; have HR1 := Lib.hid hr2; clear hown2 hq hr2)
          | (at_builtin; refine wpList_app_row rfl (.tmp 33) (.tmp 39) rfl w.heap.size _ (M ++ txtB r.lo ++ [0]) rfl HO.out _ _ _ _ (txtB r.hi) HN1.out rfl HR1.out.row HL2.out HB.out.size ?_; intro v3 w9 hown3 _ hb3 _; replace HO := Lib.hid hown3; replace HB := Lib.hid (HB.out.trans hb3); replace c0 := ((bcell HB.out).1 _ _ hb1).trans D0.out; replace c1 := ((bcell HB.out).1 _ _ hb1).trans D1.out; replace c2 := ((bcell HB.out).1 _ _ hb1).trans D2.out; clear hown3 hb3))
        go_roundw
        case rel => exact ⟨k + 1, by omega, by go_num, by rw [HE.out]; exact HO, HB⟩
        case measure => simp [intOf]; omega
      · have HE := Lib.hid (show putV n ++ (l.take (k + 1)).flatMap rngB = M ++ txtB r.lo ++ [1] by rw [HX.out]; unfold rngB; rw [hq1]; simp)
        have HL1 := Lib.hid (show (M ++ txtB r.lo).length + [(1 : UInt8)].length ≤ 140737488355328 by rw [List.length_append, List.length_singleton]; omega)
        clear hq1 hm0 hm1 hm2 hg hmem hS hT hM
        go_wp2_with (first
          | ((with_reducible refine (TX0 _).out.mono ?_); rintro e w9 ⟨v2, rfl, hown2, hq⟩; replace HO := Lib.hid (HO.out.below hq); replace HB := Lib.hid (HB.out.trans (hq.mono HB.out.size)); replace c0 := ((bcell HB.out).1 _ _ hb1).trans D0.out; replace c1 := ((bcell HB.out).1 _ _ hb1).trans D1.out; replace c2 := ((bcell HB.out).1 _ _ hb1).trans D2.out; obtain ⟨A2, c_2, rfl, hr2⟩ := hown2.read_n HN0.out; have HR0 := Lib.hid hr2; clear hown2 hq hr2)
          | (at_builtin; refine wpList_app_row rfl (.tmp 14) (.tmp 20) rfl w.heap.size _ (M) rfl HO.out _ _ _ _ (txtB r.lo) HN0.out rfl HR0.out.row HL0.out HB.out.size ?_; intro v3 w9 hown3 _ hb3 _; replace HO := Lib.hid hown3; replace HB := Lib.hid (HB.out.trans hb3); replace c0 := ((bcell HB.out).1 _ _ hb1).trans D0.out; replace c1 := ((bcell HB.out).1 _ _ hb1).trans D1.out; replace c2 := ((bcell HB.out).1 _ _ hb1).trans D2.out; clear hown3 hb3)
          | (at_builtin; refine wpList_app_row rfl (.tmp 27) (.tmp 28) rfl w.heap.size _ (M ++ txtB r.lo) rfl (HO.out.alloc _) _ _ 1 1 [1] rfl rfl (byte_row _ 1 1 rfl) HL1.out (le_alloc HB.out.size _) ?_; intro v3 w9 hown3 _ hb3 _; replace HO := Lib.hid hown3; replace HB := Lib.hid ((HB.out.alloc HB.out.size _).trans hb3); replace c0 := ((bcell HB.out).1 _ _ hb1).trans D0.out; replace c1 := ((bcell HB.out).1 _ _ hb1).trans D1.out; replace c2 := ((bcell HB.out).1 _ _ hb1).trans D2.out; clear hown3 hb3))
        go_roundw
        case rel => exact ⟨k + 1, by omega, by go_num, by rw [HE.out]; exact HO, HB⟩
        case measure => simp [intOf]; omega
    · obtain rfl : k = n := by omega
      have HT := Lib.hid (show l.take k = l from List.take_of_length_le (by have := HN.out; omega))
      go_wp2_with fail
      go_ret
      exact ⟨_, rfl, by rw [HT.out] at HO; exact HO.out, HB.out⟩
end Go.Proofs.Ytohdncmlmpnfbaa

/-
  Layer 10 (fcode), the document's words: a filter's bytes.
-/
namespace Go.Proofs.Ytohdncmlmpnfbaa
open Go.RowKit

theorem nodeB_len {r : Nd} (h : r.lo.length ≤ 1000000 ∧ r.hi.length ≤ 1000000) : (nodeB r).length ≤ 2000030 := by
  have h1 := txtB_len h.1
  have h2 := txtB_len h.2
  have e1 : (if 3 ≤ r.op ∧ r.op ≤ 5 then txtB r.lo else []).length ≤ 1000010 := by by_cases h : 3 ≤ r.op ∧ r.op ≤ 5 <;> first | (rw [if_pos h]; omega) | (rw [if_neg h]; simp)
  have e2 : (if r.op = 4 then txtB r.hi else []).length ≤ 1000010 := by by_cases h : r.op = 4 <;> first | (rw [if_pos h]; omega) | (rw [if_neg h]; simp)
  have e3 : (if 7 ≤ r.op then [opB r.kids] else []).length ≤ 1 := by split <;> simp
  unfold nodeB
  rw [List.length_cons, List.length_append, List.length_append]
  omega
theorem opB_int {x : Int} (h0 : 0 ≤ x) (h1 : x ≤ 255) : x = ((opB x).toNat : Int) := by
  unfold opB
  simp
  omega
set_option maxRecDepth 100000 in
set_option maxHeartbeats 8000000 in
theorem ref_ffilter (A : Option Addr) (c n : Nat) (l : List Nd) (hn : n = l.length) (hn9 : n ≤ 100000) (hsm : ∀ r ∈ l, r.lo.length ≤ 1000000 ∧ r.hi.length ≤ 1000000) (hnv : ∀ r ∈ l, nodeV r = true) (w : World) (hr : kNd.Rd w w.heap.size A c l) :
    Calls Try.prog 18 #[.slice A n c] w (RetB w.heap.size w (filterB l)) := by
  have HR := Lib.hid hr
  have HN := Lib.hid hn
  have HSM := Lib.hid hsm
  have HNV := Lib.hid hnv
  have hb := fun w1 => Lib.hid (ref_bytes n n w1 (Nat.le_refl _) (by omega))
  have h9 := putV_len10 n (by omega)
  show Calls _ _ _ _ (RetB w.heap.size w (putV l.length ++ l.flatMap nodeB))
  rw [← hn]
  have hcx : n ≤ c := by rw [hn]; exact hr.room
  clear hr hsm hn hnv
  go_enter Try.func18, Try.ntmps18
  go_wp2_with ((with_reducible refine (hb _).out.mono ?_); rintro e w1 ⟨v1, rfl, hown1, hb1⟩; have HO1 := Lib.hid hown1; have HB1 := Lib.hid hb1; clear hown1 hb1)
  clear hb
  go_loopw [3, 4] (fun v i wr => ∃ k : Nat, k ≤ n ∧ i = .int .i64 k ∧ Hid (OwnB wr w.heap.size v (putV n ++ (l.take k).flatMap nodeB)) ∧ Hid (Below w.heap.size w wr)) (fun _ i _ => n - (intOf i).toNat)
  case atStart => exact ⟨0, by omega, rfl, by rw [List.take_zero, List.flatMap_nil, List.append_nil]; exact HO1, HB1⟩
  case round =>
    obtain ⟨k, hk, rfl, HO, HB⟩ := hrel
    by_cases hlt : k < n
    · obtain ⟨b, o, hA, hb1, hcell⟩ := nds_at HR.out (by have := HN.out; omega)
      subst hA
      obtain ⟨nd, hg, -, hmem⟩ := get_some (l := l) (k := k) (by have := HN.out; omega)
      obtain ⟨d0, d1, d2, d3⟩ := hcell k nd hg
      have hsr := HSM.out nd hmem
      have hop := nodeV_op (HNV.out nd hmem)
      have hkd := nodeV_kids (HNV.out nd hmem)
      have HX : Hid (putV n ++ (l.take (k + 1)).flatMap nodeB = (putV n ++ (l.take k).flatMap nodeB) ++ nodeB nd) := Lib.hid (by rw [flat_next nodeB hg, List.append_assoc])
      have hm0 : (putV n ++ (l.take k).flatMap nodeB).length ≤ 200003000009 := by
        have := flat_len nodeB 2000030 (l.take k) (fun x hx => nodeB_len (HSM.out x (take_mem hx)))
        have h2 : (l.take k).length ≤ 100000 := by rw [List.length_take]; omega
        have h3 : (l.take k).length * 2000030 ≤ 100000 * 2000030 := Nat.mul_le_mul_right _ h2
        rw [List.length_append]; omega
      have hm1 := txtB_len hsr.1
      have hm2 := txtB_len hsr.2
      obtain ⟨M, hM⟩ : ∃ M, putV n ++ (l.take k).flatMap nodeB = M := ⟨_, rfl⟩
      rw [hM] at HO HX hm0
      obtain ⟨S, hS⟩ : ∃ S, str nd.lo = S := ⟨_, rfl⟩
      obtain ⟨T, hT⟩ : ∃ T, str nd.hi = T := ⟨_, rfl⟩
      obtain ⟨O, hO⟩ : ∃ O, nd.op = O := ⟨_, rfl⟩
      obtain ⟨K, hK⟩ : ∃ K, nd.kids = K := ⟨_, rfl⟩
      rw [hO] at d0 hop
      rw [hK] at d1 hkd
      rw [hS] at d2
      rw [hT] at d3
      obtain ⟨hK0, hK1⟩ := hkd
      have HKB := Lib.hid (opB_int hK0 (by omega))
      have D0 := Lib.hid d0
      have D1 := Lib.hid d1
      have D2 := Lib.hid d2
      have D3 := Lib.hid d3
      have TX0 := fun w => Lib.hid (ref_vtext nd.lo S hS hsr.1 w)
      have TX1 := fun w => Lib.hid (ref_vtext nd.hi T hT hsr.2 w)
      obtain ⟨N0, hN0⟩ : ∃ N0, N0 = (txtB nd.lo).length := ⟨_, rfl⟩
      obtain ⟨N1, hN1⟩ : ∃ N1, N1 = (txtB nd.hi).length := ⟨_, rfl⟩
      have HN0 := Lib.hid hN0
      have HN1 := Lib.hid hN1
      have hk2 : (0 : Int) ≤ (k : Int) := by omega
      have hkn2 : (k : Int) < (n : Int) := by omega
      obtain ⟨w9, hw9⟩ : ∃ w9, w9 = wr := ⟨_, rfl⟩
      subst hw9
      have hc : O = 1 ∨ O = 2 ∨ O = 3 ∨ O = 4 ∨ O = 5 ∨ O = 6 ∨ O = 7 ∨ O = 8 := by omega
      clear d0 d1 d2 d3 hcell hN0 hN1 h9 hsr hop
      rcases hc with rfl | rfl | rfl | rfl | rfl | rfl | rfl | rfl
      all_goals
        have c0 := ((bcell HB.out).1 _ _ hb1).trans D0.out
        have c1 := ((bcell HB.out).1 _ _ hb1).trans D1.out
        have c2 := ((bcell HB.out).1 _ _ hb1).trans D2.out
        have c3 := ((bcell HB.out).1 _ _ hb1).trans D3.out
      · have HE := Lib.hid (show putV n ++ (l.take (k + 1)).flatMap nodeB = M ++ [opB 1] by rw [HX.out]; unfold nodeB; rw [hO, hK]; simp)
        have HOB := Lib.hid (opB_int (x := 1) (by decide) (by decide))
        have HL0 := Lib.hid (show M.length + [opB 1].length ≤ 140737488355328 by rw [List.length_singleton]; omega)
        clear hO hK hm0 hm1 hm2 hg hmem hS hT hM
        go_wp2_with (first
          | (at_builtin; refine wpList_app_row rfl (.tmp 14) (.tmp 21) rfl w.heap.size _ (M) rfl (HO.out.alloc _) _ _ 1 1 [(opB 1)] rfl rfl (byte_row _ 1 (opB 1) HOB.out) HL0.out (le_alloc HB.out.size _) ?_; intro v3 w9 hown3 _ hb3 _; replace HO := Lib.hid hown3; replace HB := Lib.hid ((HB.out.alloc HB.out.size _).trans hb3); replace c0 := ((bcell HB.out).1 _ _ hb1).trans D0.out; replace c1 := ((bcell HB.out).1 _ _ hb1).trans D1.out; replace c2 := ((bcell HB.out).1 _ _ hb1).trans D2.out; replace c3 := ((bcell HB.out).1 _ _ hb1).trans D3.out; clear hown3 hb3)
          | (go_quiet (fail)))
        go_roundw
        case rel => exact ⟨k + 1, by omega, by go_num, by rw [HE.out]; exact HO, HB⟩
        case measure => simp [intOf]; omega
      · have HE := Lib.hid (show putV n ++ (l.take (k + 1)).flatMap nodeB = M ++ [opB 2] by rw [HX.out]; unfold nodeB; rw [hO, hK]; simp)
        have HOB := Lib.hid (opB_int (x := 2) (by decide) (by decide))
        have HL0 := Lib.hid (show M.length + [opB 2].length ≤ 140737488355328 by rw [List.length_singleton]; omega)
        clear hO hK hm0 hm1 hm2 hg hmem hS hT hM
        go_wp2_with (first
          | (at_builtin; refine wpList_app_row rfl (.tmp 14) (.tmp 21) rfl w.heap.size _ (M) rfl (HO.out.alloc _) _ _ 1 1 [(opB 2)] rfl rfl (byte_row _ 2 (opB 2) HOB.out) HL0.out (le_alloc HB.out.size _) ?_; intro v3 w9 hown3 _ hb3 _; replace HO := Lib.hid hown3; replace HB := Lib.hid ((HB.out.alloc HB.out.size _).trans hb3); replace c0 := ((bcell HB.out).1 _ _ hb1).trans D0.out; replace c1 := ((bcell HB.out).1 _ _ hb1).trans D1.out; replace c2 := ((bcell HB.out).1 _ _ hb1).trans D2.out; replace c3 := ((bcell HB.out).1 _ _ hb1).trans D3.out; clear hown3 hb3)
          | (go_quiet (fail)))
        go_roundw
        case rel => exact ⟨k + 1, by omega, by go_num, by rw [HE.out]; exact HO, HB⟩
        case measure => simp [intOf]; omega
      · have HE := Lib.hid (show putV n ++ (l.take (k + 1)).flatMap nodeB = M ++ [opB 3] ++ txtB nd.lo by rw [HX.out]; unfold nodeB; rw [hO, hK]; simp)
        have HOB := Lib.hid (opB_int (x := 3) (by decide) (by decide))
        have HL0 := Lib.hid (show M.length + [opB 3].length ≤ 140737488355328 by rw [List.length_singleton]; omega)
        have HL1 := Lib.hid (show (M ++ [opB 3]).length + (txtB nd.lo).length ≤ 140737488355328 by rw [List.length_append, List.length_singleton]; omega)
        clear hO hK hm0 hm1 hm2 hg hmem hS hT hM
        go_wp2_with (first
          | (at_builtin; refine wpList_app_row rfl (.tmp 14) (.tmp 21) rfl w.heap.size _ (M) rfl (HO.out.alloc _) _ _ 1 1 [(opB 3)] rfl rfl (byte_row _ 3 (opB 3) HOB.out) HL0.out (le_alloc HB.out.size _) ?_; intro v3 w9 hown3 _ hb3 _; replace HO := Lib.hid hown3; replace HB := Lib.hid ((HB.out.alloc HB.out.size _).trans hb3); replace c0 := ((bcell HB.out).1 _ _ hb1).trans D0.out; replace c1 := ((bcell HB.out).1 _ _ hb1).trans D1.out; replace c2 := ((bcell HB.out).1 _ _ hb1).trans D2.out; replace c3 := ((bcell HB.out).1 _ _ hb1).trans D3.out; clear hown3 hb3)
          | ((with_reducible refine (TX0 _).out.mono ?_); rintro e w9 ⟨v2, rfl, hown2, hq⟩; replace HO := Lib.hid (HO.out.below hq); replace HB := Lib.hid (HB.out.trans (hq.mono HB.out.size)); replace c0 := ((bcell HB.out).1 _ _ hb1).trans D0.out; replace c1 := ((bcell HB.out).1 _ _ hb1).trans D1.out; replace c2 := ((bcell HB.out).1 _ _ hb1).trans D2.out; replace c3 := ((bcell HB.out).1 _ _ hb1).trans D3.out; obtain ⟨A2, c_2, rfl, hr2⟩ := hown2.read_n HN0.out; have HR0 := Lib.hid hr2; clear hown2 hq hr2)
          | (at_builtin; refine wpList_app_row rfl (.tmp 37) (.tmp 43) rfl w.heap.size _ (M ++ [opB 3]) rfl HO.out _ _ _ _ (txtB nd.lo) HN0.out rfl HR0.out.row HL1.out HB.out.size ?_; intro v3 w9 hown3 _ hb3 _; replace HO := Lib.hid hown3; replace HB := Lib.hid (HB.out.trans hb3); replace c0 := ((bcell HB.out).1 _ _ hb1).trans D0.out; replace c1 := ((bcell HB.out).1 _ _ hb1).trans D1.out; replace c2 := ((bcell HB.out).1 _ _ hb1).trans D2.out; replace c3 := ((bcell HB.out).1 _ _ hb1).trans D3.out; clear hown3 hb3)
          | (go_quiet (fail)))
        go_roundw
        case rel => exact ⟨k + 1, by omega, by go_num, by rw [HE.out]; exact HO, HB⟩
        case measure => simp [intOf]; omega
      · have HE := Lib.hid (show putV n ++ (l.take (k + 1)).flatMap nodeB = M ++ [opB 4] ++ txtB nd.lo ++ txtB nd.hi by rw [HX.out]; unfold nodeB; rw [hO, hK]; simp)
        have HOB := Lib.hid (opB_int (x := 4) (by decide) (by decide))
        have HL0 := Lib.hid (show M.length + [opB 4].length ≤ 140737488355328 by rw [List.length_singleton]; omega)
        have HL1 := Lib.hid (show (M ++ [opB 4]).length + (txtB nd.lo).length ≤ 140737488355328 by rw [List.length_append, List.length_singleton]; omega)
        have HL2 := Lib.hid (show (M ++ [opB 4] ++ txtB nd.lo).length + (txtB nd.hi).length ≤ 140737488355328 by rw [List.length_append, List.length_append, List.length_singleton]; omega)
        clear hO hK hm0 hm1 hm2 hg hmem hS hT hM
        go_wp2_with (first
          | (at_builtin; refine wpList_app_row rfl (.tmp 14) (.tmp 21) rfl w.heap.size _ (M) rfl (HO.out.alloc _) _ _ 1 1 [(opB 4)] rfl rfl (byte_row _ 4 (opB 4) HOB.out) HL0.out (le_alloc HB.out.size _) ?_; intro v3 w9 hown3 _ hb3 _; replace HO := Lib.hid hown3; replace HB := Lib.hid ((HB.out.alloc HB.out.size _).trans hb3); replace c0 := ((bcell HB.out).1 _ _ hb1).trans D0.out; replace c1 := ((bcell HB.out).1 _ _ hb1).trans D1.out; replace c2 := ((bcell HB.out).1 _ _ hb1).trans D2.out; replace c3 := ((bcell HB.out).1 _ _ hb1).trans D3.out; clear hown3 hb3)
          | ((with_reducible refine (TX0 _).out.mono ?_); rintro e w9 ⟨v2, rfl, hown2, hq⟩; replace HO := Lib.hid (HO.out.below hq); replace HB := Lib.hid (HB.out.trans (hq.mono HB.out.size)); replace c0 := ((bcell HB.out).1 _ _ hb1).trans D0.out; replace c1 := ((bcell HB.out).1 _ _ hb1).trans D1.out; replace c2 := ((bcell HB.out).1 _ _ hb1).trans D2.out; replace c3 := ((bcell HB.out).1 _ _ hb1).trans D3.out; obtain ⟨A2, c_2, rfl, hr2⟩ := hown2.read_n HN0.out; have HR0 := Lib.hid hr2; clear hown2 hq hr2)
          | (at_builtin; refine wpList_app_row rfl (.tmp 37) (.tmp 43) rfl w.heap.size _ (M ++ [opB 4]) rfl HO.out _ _ _ _ (txtB nd.lo) HN0.out rfl HR0.out.row HL1.out HB.out.size ?_; intro v3 w9 hown3 _ hb3 _; replace HO := Lib.hid hown3; replace HB := Lib.hid (HB.out.trans hb3); replace c0 := ((bcell HB.out).1 _ _ hb1).trans D0.out; replace c1 := ((bcell HB.out).1 _ _ hb1).trans D1.out; replace c2 := ((bcell HB.out).1 _ _ hb1).trans D2.out; replace c3 := ((bcell HB.out).1 _ _ hb1).trans D3.out; clear hown3 hb3)
          | ((with_reducible refine (TX1 _).out.mono ?_); rintro e w9 ⟨v2, rfl, hown2, hq⟩; replace HO := Lib.hid (HO.out.below hq); replace HB := Lib.hid (HB.out.trans (hq.mono HB.out.size)); replace c0 := ((bcell HB.out).1 _ _ hb1).trans D0.out; replace c1 := ((bcell HB.out).1 _ _ hb1).trans D1.out; replace c2 := ((bcell HB.out).1 _ _ hb1).trans D2.out; replace c3 := ((bcell HB.out).1 _ _ hb1).trans D3.out; obtain ⟨A2, c_2, rfl, hr2⟩ := hown2.read_n HN1.out; have HR1 := Lib.hid hr2; clear hown2 hq hr2)
          | (at_builtin; refine wpList_app_row rfl (.tmp 51) (.tmp 57) rfl w.heap.size _ (M ++ [opB 4] ++ txtB nd.lo) rfl HO.out _ _ _ _ (txtB nd.hi) HN1.out rfl HR1.out.row HL2.out HB.out.size ?_; intro v3 w9 hown3 _ hb3 _; replace HO := Lib.hid hown3; replace HB := Lib.hid (HB.out.trans hb3); replace c0 := ((bcell HB.out).1 _ _ hb1).trans D0.out; replace c1 := ((bcell HB.out).1 _ _ hb1).trans D1.out; replace c2 := ((bcell HB.out).1 _ _ hb1).trans D2.out; replace c3 := ((bcell HB.out).1 _ _ hb1).trans D3.out; clear hown3 hb3)
          | (go_quiet (fail)))
        go_roundw
        case rel => exact ⟨k + 1, by omega, by go_num, by rw [HE.out]; exact HO, HB⟩
        case measure => simp [intOf]; omega
      · have HE := Lib.hid (show putV n ++ (l.take (k + 1)).flatMap nodeB = M ++ [opB 5] ++ txtB nd.lo by rw [HX.out]; unfold nodeB; rw [hO, hK]; simp)
        have HOB := Lib.hid (opB_int (x := 5) (by decide) (by decide))
        have HL0 := Lib.hid (show M.length + [opB 5].length ≤ 140737488355328 by rw [List.length_singleton]; omega)
        have HL1 := Lib.hid (show (M ++ [opB 5]).length + (txtB nd.lo).length ≤ 140737488355328 by rw [List.length_append, List.length_singleton]; omega)
        clear hO hK hm0 hm1 hm2 hg hmem hS hT hM
        go_wp2_with (first
          | (at_builtin; refine wpList_app_row rfl (.tmp 14) (.tmp 21) rfl w.heap.size _ (M) rfl (HO.out.alloc _) _ _ 1 1 [(opB 5)] rfl rfl (byte_row _ 5 (opB 5) HOB.out) HL0.out (le_alloc HB.out.size _) ?_; intro v3 w9 hown3 _ hb3 _; replace HO := Lib.hid hown3; replace HB := Lib.hid ((HB.out.alloc HB.out.size _).trans hb3); replace c0 := ((bcell HB.out).1 _ _ hb1).trans D0.out; replace c1 := ((bcell HB.out).1 _ _ hb1).trans D1.out; replace c2 := ((bcell HB.out).1 _ _ hb1).trans D2.out; replace c3 := ((bcell HB.out).1 _ _ hb1).trans D3.out; clear hown3 hb3)
          | ((with_reducible refine (TX0 _).out.mono ?_); rintro e w9 ⟨v2, rfl, hown2, hq⟩; replace HO := Lib.hid (HO.out.below hq); replace HB := Lib.hid (HB.out.trans (hq.mono HB.out.size)); replace c0 := ((bcell HB.out).1 _ _ hb1).trans D0.out; replace c1 := ((bcell HB.out).1 _ _ hb1).trans D1.out; replace c2 := ((bcell HB.out).1 _ _ hb1).trans D2.out; replace c3 := ((bcell HB.out).1 _ _ hb1).trans D3.out; obtain ⟨A2, c_2, rfl, hr2⟩ := hown2.read_n HN0.out; have HR0 := Lib.hid hr2; clear hown2 hq hr2)
          | (at_builtin; refine wpList_app_row rfl (.tmp 37) (.tmp 43) rfl w.heap.size _ (M ++ [opB 5]) rfl HO.out _ _ _ _ (txtB nd.lo) HN0.out rfl HR0.out.row HL1.out HB.out.size ?_; intro v3 w9 hown3 _ hb3 _; replace HO := Lib.hid hown3; replace HB := Lib.hid (HB.out.trans hb3); replace c0 := ((bcell HB.out).1 _ _ hb1).trans D0.out; replace c1 := ((bcell HB.out).1 _ _ hb1).trans D1.out; replace c2 := ((bcell HB.out).1 _ _ hb1).trans D2.out; replace c3 := ((bcell HB.out).1 _ _ hb1).trans D3.out; clear hown3 hb3)
          | (go_quiet (fail)))
        go_roundw
        case rel => exact ⟨k + 1, by omega, by go_num, by rw [HE.out]; exact HO, HB⟩
        case measure => simp [intOf]; omega
      · have HE := Lib.hid (show putV n ++ (l.take (k + 1)).flatMap nodeB = M ++ [opB 6] by rw [HX.out]; unfold nodeB; rw [hO, hK]; simp)
        have HOB := Lib.hid (opB_int (x := 6) (by decide) (by decide))
        have HL0 := Lib.hid (show M.length + [opB 6].length ≤ 140737488355328 by rw [List.length_singleton]; omega)
        clear hO hK hm0 hm1 hm2 hg hmem hS hT hM
        go_wp2_with (first
          | (at_builtin; refine wpList_app_row rfl (.tmp 14) (.tmp 21) rfl w.heap.size _ (M) rfl (HO.out.alloc _) _ _ 1 1 [(opB 6)] rfl rfl (byte_row _ 6 (opB 6) HOB.out) HL0.out (le_alloc HB.out.size _) ?_; intro v3 w9 hown3 _ hb3 _; replace HO := Lib.hid hown3; replace HB := Lib.hid ((HB.out.alloc HB.out.size _).trans hb3); replace c0 := ((bcell HB.out).1 _ _ hb1).trans D0.out; replace c1 := ((bcell HB.out).1 _ _ hb1).trans D1.out; replace c2 := ((bcell HB.out).1 _ _ hb1).trans D2.out; replace c3 := ((bcell HB.out).1 _ _ hb1).trans D3.out; clear hown3 hb3)
          | (go_quiet (fail)))
        go_roundw
        case rel => exact ⟨k + 1, by omega, by go_num, by rw [HE.out]; exact HO, HB⟩
        case measure => simp [intOf]; omega
      · have HE := Lib.hid (show putV n ++ (l.take (k + 1)).flatMap nodeB = M ++ [opB 7] ++ [opB K] by rw [HX.out]; unfold nodeB; rw [hO, hK]; simp)
        have HOB := Lib.hid (opB_int (x := 7) (by decide) (by decide))
        have HL0 := Lib.hid (show M.length + [opB 7].length ≤ 140737488355328 by rw [List.length_singleton]; omega)
        have HL1 := Lib.hid (show (M ++ [opB 7]).length + [opB K].length ≤ 140737488355328 by rw [List.length_append, List.length_singleton, List.length_singleton]; omega)
        clear hO hK hm0 hm1 hm2 hg hmem hS hT hM
        go_wp2_with (first
          | (at_builtin; refine wpList_app_row rfl (.tmp 14) (.tmp 21) rfl w.heap.size _ (M) rfl (HO.out.alloc _) _ _ 1 1 [(opB 7)] rfl rfl (byte_row _ 7 (opB 7) HOB.out) HL0.out (le_alloc HB.out.size _) ?_; intro v3 w9 hown3 _ hb3 _; replace HO := Lib.hid hown3; replace HB := Lib.hid ((HB.out.alloc HB.out.size _).trans hb3); replace c0 := ((bcell HB.out).1 _ _ hb1).trans D0.out; replace c1 := ((bcell HB.out).1 _ _ hb1).trans D1.out; replace c2 := ((bcell HB.out).1 _ _ hb1).trans D2.out; replace c3 := ((bcell HB.out).1 _ _ hb1).trans D3.out; clear hown3 hb3)
          | (at_builtin; refine wpList_app_row rfl (.tmp 65) (.tmp 72) rfl w.heap.size _ (M ++ [opB 7]) rfl (HO.out.alloc _) _ _ 1 1 [(opB K)] rfl rfl (byte_row _ K (opB K) HKB.out) HL1.out (le_alloc HB.out.size _) ?_; intro v3 w9 hown3 _ hb3 _; replace HO := Lib.hid hown3; replace HB := Lib.hid ((HB.out.alloc HB.out.size _).trans hb3); replace c0 := ((bcell HB.out).1 _ _ hb1).trans D0.out; replace c1 := ((bcell HB.out).1 _ _ hb1).trans D1.out; replace c2 := ((bcell HB.out).1 _ _ hb1).trans D2.out; replace c3 := ((bcell HB.out).1 _ _ hb1).trans D3.out; clear hown3 hb3)
          | (go_quiet (fail)))
        go_roundw
        case rel => exact ⟨k + 1, by omega, by go_num, by rw [HE.out]; exact HO, HB⟩
        case measure => simp [intOf]; omega
      · have HE := Lib.hid (show putV n ++ (l.take (k + 1)).flatMap nodeB = M ++ [opB 8] ++ [opB K] by rw [HX.out]; unfold nodeB; rw [hO, hK]; simp)
        have HOB := Lib.hid (opB_int (x := 8) (by decide) (by decide))
        have HL0 := Lib.hid (show M.length + [opB 8].length ≤ 140737488355328 by rw [List.length_singleton]; omega)
        have HL1 := Lib.hid (show (M ++ [opB 8]).length + [opB K].length ≤ 140737488355328 by rw [List.length_append, List.length_singleton, List.length_singleton]; omega)
        clear hO hK hm0 hm1 hm2 hg hmem hS hT hM
        go_wp2_with (first
          | (at_builtin; refine wpList_app_row rfl (.tmp 14) (.tmp 21) rfl w.heap.size _ (M) rfl (HO.out.alloc _) _ _ 1 1 [(opB 8)] rfl rfl (byte_row _ 8 (opB 8) HOB.out) HL0.out (le_alloc HB.out.size _) ?_; intro v3 w9 hown3 _ hb3 _; replace HO := Lib.hid hown3; replace HB := Lib.hid ((HB.out.alloc HB.out.size _).trans hb3); replace c0 := ((bcell HB.out).1 _ _ hb1).trans D0.out; replace c1 := ((bcell HB.out).1 _ _ hb1).trans D1.out; replace c2 := ((bcell HB.out).1 _ _ hb1).trans D2.out; replace c3 := ((bcell HB.out).1 _ _ hb1).trans D3.out; clear hown3 hb3)
          | (at_builtin; refine wpList_app_row rfl (.tmp 65) (.tmp 72) rfl w.heap.size _ (M ++ [opB 8]) rfl (HO.out.alloc _) _ _ 1 1 [(opB K)] rfl rfl (byte_row _ K (opB K) HKB.out) HL1.out (le_alloc HB.out.size _) ?_; intro v3 w9 hown3 _ hb3 _; replace HO := Lib.hid hown3; replace HB := Lib.hid ((HB.out.alloc HB.out.size _).trans hb3); replace c0 := ((bcell HB.out).1 _ _ hb1).trans D0.out; replace c1 := ((bcell HB.out).1 _ _ hb1).trans D1.out; replace c2 := ((bcell HB.out).1 _ _ hb1).trans D2.out; replace c3 := ((bcell HB.out).1 _ _ hb1).trans D3.out; clear hown3 hb3)
          | (go_quiet (fail)))
        go_roundw
        case rel => exact ⟨k + 1, by omega, by go_num, by rw [HE.out]; exact HO, HB⟩
        case measure => simp [intOf]; omega
    · obtain rfl : k = n := by omega
      have HT := Lib.hid (show l.take k = l from List.take_of_length_le (by have := HN.out; omega))
      go_wp2_with fail
      go_ret
      exact ⟨_, rfl, by rw [HT.out] at HO; exact HO.out, HB.out⟩
end Go.Proofs.Ytohdncmlmpnfbaa

/-
  Layer 9 (filter), the document's words: has a filter a text.
-/
namespace Go.Proofs.Ytohdncmlmpnfbaa
open Go.RowKit

theorem dep_last {l : List Nd} {k d : Nat} {n : Nd} (h : l[k]? = some n) (hd : depV (l.take (k + 1)) 0 = some d) : ∃ e, depV (l.take k) 0 = some e ∧ nodeV n = true ∧ kidsN n ≤ e ∧ d = e - kidsN n + 1 := by
  rw [List.take_add_one, h, depV_append] at hd
  cases he : depV (l.take k) 0 with
  | none => rw [he] at hd; cases hd
  | some e =>
    rw [he] at hd
    obtain ⟨h1, h2, h3⟩ := depV_one.1 hd
    exact ⟨e, rfl, h1, h2, h3⟩
theorem top_last {l : List Nd} {k : Nat} {n : Nd} (h : l[k]? = some n) : topV (l.take (k + 1)) = valN n ((stkV (l.take k)).take (kidsN n)) := by
  rw [List.take_add_one, h]; exact topV_snoc _ _
/-- Behind so many filters taken off: the place, what stands open there. -/
theorem cnt_place {l : List Nd} {k e i : Nat} (hd : depV (l.take k) 0 = some e) (hi : i ≤ e) :
    ∃ q, q ≤ k ∧ cntV i (l.take k).reverse = some (l.take q).reverse ∧ (l.take q).length = q ∧ depV (l.take q) 0 = some (e - i) ∧ stkV (l.take q) = (stkV (l.take k)).drop i := by
  obtain ⟨R, h1, h2, h3⟩ := cnt_stk (l.take k).reverse i e (by rw [List.reverse_reverse]; exact hd) hi
  obtain ⟨h4, h5⟩ := take_rev_suffix (cntV_suffix _ _ h1)
  rw [List.reverse_reverse] at h3
  refine ⟨R.length, h5, by rw [h1]; exact congrArg some h4, ?_, ?_, ?_⟩
  · have := congrArg List.length h4; rw [List.length_reverse] at this; exact this.symm
  · have := congrArg List.reverse h4; rw [List.reverse_reverse] at this; rw [← this]; exact h2
  · have := congrArg List.reverse h4; rw [List.reverse_reverse] at this; rw [← this]; exact h3
theorem beg_place {l : List Nd} {p q : Nat} (h : cntV 1 (l.take p).reverse = some (l.take q).reverse) (hq : (l.take q).length = q) : begV l p = (q : Nat) := by
  rw [begV_some h, List.length_reverse, hq]
theorem stk_at {l : List Nd} {k e i q : Nat} (hz : (stkV (l.take k)).length = e) (hi : i < e) (h : stkV (l.take q) = (stkV (l.take k)).drop i) : (stkV (l.take k))[i]? = some (topV (l.take q)) := by
  unfold topV
  rw [h]
  have hi' : i < (stkV (l.take k)).length := by omega
  rw [List.drop_eq_getElem_cons hi', List.headD_cons, List.getElem?_eq_getElem hi']
theorem take_any {st : List TxtP} {i : Nat} {f : TxtP} (h : st[i]? = some f) (s : List UInt8) : ((st.take (i + 1)).any fun k => k s) = ((st.take i).any (fun k => k s) || f s) := by
  rw [List.take_add_one, h]; simp
theorem take_all {st : List TxtP} {i : Nat} {f : TxtP} (h : st[i]? = some f) (s : List UInt8) : ((st.take (i + 1)).all fun k => k s) = ((st.take i).all (fun k => k s) && f s) := by
  rw [List.take_add_one, h]; simp
theorem val_1 {n : Nd} (h : n.op = 1) (ks : List TxtP) (s : List UInt8) : valN n ks s = true := by unfold valN; rw [if_pos h]
theorem val_3 {n : Nd} (h : n.op = 3) (ks : List TxtP) (s : List UInt8) : valN n ks s = n.lo.isPrefixOf s := by unfold valN; rw [if_neg (by omega), if_pos h]
theorem val_4 {n : Nd} (h : n.op = 4) (ks : List TxtP) (s : List UInt8) : valN n ks s = hasR ⟨n.lo, n.hi, false⟩ s := by unfold valN; rw [if_neg (by omega), if_neg (by omega), if_pos h]
theorem val_5 {n : Nd} (h : n.op = 5) (ks : List TxtP) (s : List UInt8) : valN n ks s = !ltB s n.lo := by unfold valN; rw [if_neg (by omega), if_neg (by omega), if_neg (by omega), if_pos h]
theorem val_6 {n : Nd} (h : n.op = 6) (ks : List TxtP) (s : List UInt8) : valN n ks s = !(ks.any fun k => k s) := by unfold valN; rw [if_neg (by omega), if_neg (by omega), if_neg (by omega), if_neg (by omega), if_pos h]
theorem val_else {n : Nd} (h : n.op = 2 ∨ n.op = 7 ∨ n.op = 8) (ks : List TxtP) (s : List UInt8) : valN n ks s = ((n.op == 7) && ks.all (fun k => k s) || (n.op == 8) && ks.any fun k => k s) := by
  unfold valN
  rw [if_neg (by omega), if_neg (by omega), if_neg (by omega), if_neg (by omega), if_neg (by omega)]
  rcases h with h | h | h <;> rw [h] <;> simp
end Go.Proofs.Ytohdncmlmpnfbaa

/-
  Layer 7 (span): the ranges of one text, and of those that begin with one.
-/
namespace Go.Proofs.Ytohdncmlmpnfbaa
open Go.RowKit

theorem all_is (S T : ByteArray) (o : Bool) (h : IsR allR S T o) (w : World) : Calls Try.prog 63 #[] w fun e w' => e = .returned (.agg #[.string S, .string T, .bool o]) ∧ Below w.heap.size w w' := by
  obtain ⟨rfl, rfl, rfl⟩ := h
  exact span_all w
/-- What the range of a prefix is, in terms of the prefix's end. -/
theorem prefixR_end {p : List UInt8} (h : p.length ≤ 16) {x : List UInt8} {v : Bool} (hv : (endV p = some x ∧ v = true) ∨ (endV p = none ∧ x = [] ∧ v = false)) : prefixR p = ⟨p, x, !v⟩ := by
  rcases hv with ⟨h1, rfl⟩ | ⟨h1, rfl, rfl⟩
  · rw [prefixR_some h h1]; rfl
  · rw [prefixR_none h h1]; rfl
theorem span_prefix (k : List UInt8) (r : Rng) (K S T : ByteArray) (o : Bool) (hK : str k = K) (hk : k.length ≤ 1000000) (hr : prefixR k = r) (h : IsR r S T o) (w : World) :
    Calls Try.prog 64 #[.string K] w fun e w' => e = .returned (.agg #[.string S, .string T, .bool o]) ∧ Below w.heap.size w w' := by
  have hz : K.size = k.length := by subst hK; exact str_size _
  by_cases g : k.length ≤ 16
  · have g1 : K.size ≤ 16 := by omega
    obtain ⟨x, v, hv⟩ := endO k
    rw [prefixR_end g hv] at hr
    subst hr
    obtain ⟨h1, h2, rfl⟩ := h
    obtain rfl : K = S := hK.symm.trans h1
    have N := fun w => Lib.hid (endO_is k x v K T hK h2 (by omega) hv w)
    clear hz hK h1 h2 g hv
    go_enter Try.func64, Try.ntmps64
    go_wp2_with ((with_reducible refine (N _).out.mono ?_); rintro e w' ⟨rfl, hb⟩; obtain ⟨hc, hf⟩ := bcell hb; replace hb := ((Below.refl w.heap.size w).alloc (Nat.le_refl _) _).trans (hb.mono (by simp)))
    exact bodyPost_ret (v := .agg #[.string K, .string T, .bool !v]) (by simp [results, Try.results64, go_sem, hc]) rfl ⟨rfl, below_set3 hb (Nat.le_refl _) _ _ _⟩
  · have g1 : 16 < K.size := by omega
    rw [prefixR_long (by omega)] at hr
    subst hr
    obtain ⟨rfl, rfl, rfl⟩ := h
    clear hz hK g
    go_enter Try.func64, Try.ntmps64
    go_wp2_with fail
    exact bodyPost_ret (v := .agg #[.string ⟨#[]⟩, .string ⟨#[]⟩, .bool false]) (by simp [results, Try.results64, go_sem]) rfl ⟨rfl, (Below.refl _ _).alloc (Nat.le_refl _) _⟩
end Go.Proofs.Ytohdncmlmpnfbaa

/-
  A walk through a statement that draws its order, operation by operation: also those operations that a guard leaves out.
-/
namespace Go.Proofs.Ytohdncmlmpnfbaa

section
variable {P : Program} {l : List Oper} {Q : Exit → Act → World → Prop} {md : Region.Mode} {S : World → Prop}

/-- An operation that is wanted, and yields its value in every world that meets S, comes up next. -/
theorem take_yes {i : Nat} {oi : Oper} {v : Value} {fuel : Nat} {listed : Array Bool} {a : Act} {w : World} (hi : l[i]? = some oi)
    (hs : Region.noSelect l.toArray = true) (hf : Region.free md l.toArray listed i = true) (hr : (Region.ready md l.toArray listed).contains i = true)
    (hQ : ∀ c a w, Q (.panic c) (a.put oi.dst v) w → Q (.panic c) a w) (hw : Region.wanted oi (yielded l.toArray a.tmps) = true) (hS : S w) (hy : ∀ w, S w → (execOp a.eval oi).run P w = .ok (.value v) w)
    (h : wpAnyH P md l.toArray Q S fuel (listed.setIfInBounds i true) (a.put oi.dst v) w) : wpAnyH P md l.toArray Q S (fuel + 1) listed a w :=
  wpAnyH_take (by rw [List.getElem?_toArray]; exact hi) hs hf hr hQ (.inl ⟨hw, hy⟩) hS h
/-- An operation that its guard leaves out comes up next. -/
theorem take_no {i : Nat} {oi : Oper} {fuel : Nat} {listed : Array Bool} {a : Act} {w : World} (hi : l[i]? = some oi)
    (hs : Region.noSelect l.toArray = true) (hf : Region.free md l.toArray listed i = true) (hr : (Region.ready md l.toArray listed).contains i = true)
    (hQ : ∀ c a w, Q (.panic c) (a.put oi.dst undef) w → Q (.panic c) a w) (hw : Region.wanted oi (yielded l.toArray a.tmps) = false) (hS : S w)
    (h : wpAnyH P md l.toArray Q S fuel (listed.setIfInBounds i true) (a.put oi.dst undef) w) : wpAnyH P md l.toArray Q S (fuel + 1) listed a w :=
  wpAnyH_take (by rw [List.getElem?_toArray]; exact hi) hs hf hr hQ (.inr ⟨hw, rfl⟩) hS h
/-- An operation that alone may come up, and is wanted. -/
theorem call_one {i : Nat} {o : Oper} {fuel : Nat} {listed : Array Bool} {a : Act} {w : World} (hi : l[i]? = some o) (hr : Region.ready md l.toArray listed = [i])
    (hw : Region.wanted o (yielded l.toArray a.tmps) = true)
    (h : ∀ K' : Act → World → Prop, Shut (∀ a w, S w → (S w → wpAnyH P md l.toArray Q S fuel (listed.setIfInBounds i true) a w) → K' a w) → Oper.wp P o a w K' Q) :
    wpAnyH P md l.toArray Q S (fuel + 1) listed a w :=
  wpAnyH_ready hr (by simp) (AllReadyH.cons (by rw [List.getElem?_toArray]; exact hi) (fun K' hK => by rw [if_pos hw]; exact h K' hK) AllReadyH.nil)
end
end Go.Proofs.Ytohdncmlmpnfbaa

/-
  Layer 9 (filter), the document's words: has a right filter a text; its leaves' ranges.
-/
namespace Go.Proofs.Ytohdncmlmpnfbaa
open Go.RowKit

theorem leaves_next {l : List Nd} {k : Nat} {n : Nd} (h : l[k]? = some n) : leavesL (l.take (k + 1)) = leavesL (l.take k) ++ (leafR n).toList := by
  unfold leavesL
  rw [List.take_add_one, h, List.filterMap_append]
  exact congrArg _ (by cases hl : leafR n <;> simp [hl])
theorem leaves_len (l : List Nd) : (leavesL l).length ≤ l.length := List.length_filterMap_le _ _
theorem leafR_3 {n : Nd} (h : n.op = 3) : leafR n = some (prefixR n.lo) := by unfold leafR; rw [if_pos h]
theorem leafR_4 {n : Nd} (h : n.op = 4) : leafR n = some ⟨n.lo, n.hi, false⟩ := by unfold leafR; rw [if_neg (by omega), if_pos h]
theorem leafR_5 {n : Nd} (h : n.op = 5) : leafR n = some ⟨n.lo, [], true⟩ := by unfold leafR; rw [if_neg (by omega), if_neg (by omega), if_pos h]
theorem leafR_no {n : Nd} (h3 : n.op ≠ 3) (h4 : n.op ≠ 4) (h5 : n.op ≠ 5) : leafR n = none := by unfold leafR; rw [if_neg h3, if_neg h4, if_neg h5]
theorem rng_row_n (w : World) (r : Rng) (S T : ByteArray) (o : Bool) (h : IsR r S T o) : RowAt (w.alloc (.cells #[.string S, .string T, .bool o] 49)) (w.heap.size + 1) (some ⟨w.heap.size, 0, none⟩) (kRng.row [r]) := by
  obtain ⟨h1, h2, h3⟩ := h
  have := (rng_row w r 1 rfl).row
  rwa [h1, h2, h3] at this
end Go.Proofs.Ytohdncmlmpnfbaa

/-
  Layer 10 (fcode), the document's words: the list that bytes are.
-/
namespace Go.Proofs.Ytohdncmlmpnfbaa
open Go.RowKit

/-- What a call leaves that works on the document's reader alone; the bytes' length has its own letter. -/
def RfQ (w : World) (m : Nat) (A : Option Addr) (N c : Nat) (b : List UInt8) (v : Value) (l : List UInt8) (e : Int) (x : Ending) (w' : World) : Prop :=
  x = .returned v ∧ ∃ a, a ≤ N ∧ l = b.drop a ∧ RfAt w' m A N c a e ∧ w.grownBy w' (some m)
theorem rf_within_q {w : World} {m B a N c : Nat} {A : Option Addr} {b l r : List UInt8} {e e2 : Int} {n : Nat} {lo hi : Int} (hN : N = b.length) (hw : withinR lo hi l e = (n, r, e2)) (hla : l = b.drop a) (h : RfAt w m A N c a e) (hr : RdB w B A c b) (ha : a ≤ N) (hl : N ≤ 1000000) :
    Calls Try.prog 38 #[.pointer (some ⟨m, 0, none⟩), .int .i64 lo, .int .i64 hi] w (RfQ w m A N c b (.int .i64 n) r e2) := by
  subst hN hla
  have := rf_within h hr ha lo hi hl
  rw [hw] at this
  exact this
theorem rf_text_q {w : World} {m B a N c : Nat} {A : Option Addr} {b l r s : List UInt8} {e e2 : Int} {S : ByteArray} {most : Int} (hN : N = b.length) (hw : textR most l e = (s, r, e2)) (hS : str s = S) (hla : l = b.drop a) (h : RfAt w m A N c a e) (hr : RdB w B A c b) (ha : a ≤ N) (hm : B ≤ m) (hl : N ≤ 1000000) :
    Calls Try.prog 39 #[.pointer (some ⟨m, 0, none⟩), .int .i64 most] w (RfQ w m A N c b (.string S) r e2) := by
  subst hN hla hS
  have := rf_text h hr ha hm most hl
  rw [hw] at this
  exact this
theorem rf_end_q {w : World} {m a N c : Nat} {A : Option Addr} {b l : List UInt8} {e x : Int} (hN : N = b.length) (hx : endR l e = x) (hla : l = b.drop a) (h : RfAt w m A N c a e) (ha : a ≤ N) :
    Calls Try.prog 40 #[.pointer (some ⟨m, 0, none⟩)] w (RfQ w m A N c b (.int .i64 x) l e) := by
  subst hN hla hx
  exact rf_end h ha
/-- A list that was read, and what is wrong. -/
def RetRs (w : World) (x : List Rng × Int) (e : Ending) (w' : World) : Prop := ∃ A c n, e = .returned (.tuple #[.slice A n c, .int .i64 x.2]) ∧ n = x.1.length ∧ kRng.Rd w' w'.heap.size A c x.1 ∧ Below w.heap.size w w'
theorem manyR_step {α : Type} (f : List UInt8 → Int → α × List UInt8 × Int) {n k : Nat} (h : k < n) (l : List UInt8) : manyR f (n - k) l 0 = ((f l 0).1 :: (manyR f (n - (k + 1)) (f l 0).2.1 (f l 0).2.2).1, (manyR f (n - (k + 1)) (f l 0).2.1 (f l 0).2.2).2) := by
  rw [show n - k = (n - (k + 1)) + 1 by omega, manyR, if_pos rfl]
theorem manyR_end {α : Type} (f : List UInt8 → Int → α × List UInt8 × Int) (n : Nat) (l : List UInt8) {e : Int} (h : n = 0 ∨ e ≠ 0) : manyR f n l e = ([], l, e) := by
  cases n with
  | zero => rfl
  | succ n =>
    rw [manyR, if_neg]
    rcases h with h | h
    · omega
    · exact h
theorem allR2_of {α : Type} {f : List UInt8 → Int → α × List UInt8 × Int} {most : Int} {right : List α → Bool} {b r1 l : List UInt8} {n : Nat} {e1 e x : Int} {dn : List α} {v : Bool} (h1 : withinR 0 most b 0 = (n, r1, e1)) (h2 : manyR f n r1 e1 = (dn, l, e)) (hx : endR l e = x) (hv : right dn = v) :
    allR2 f most right b = if x ≠ 0 then ([], x) else match v with | true => (dn, 0) | false => ([], 11) := by
  subst hx hv
  unfold allR2
  rw [h1]
  simp only
  rw [h2]
  rfl
theorem textR_size (m : Int) (l : List UInt8) (e : Int) : (textR m l e).1.length ≤ l.length := by
  have := withinR_len 0 m l e
  unfold textR
  split
  · simp
  · simp only [List.length_take]; omega
theorem manyR_all {α : Type} {f : List UInt8 → Int → α × List UInt8 × Int} {B : Nat} {p : α → Prop} (hf : ∀ l e, l.length ≤ B → p (f l e).1 ∧ (f l e).2.1.length ≤ B) : ∀ (n : Nat) (l : List UInt8) (e : Int), l.length ≤ B → ∀ x ∈ (manyR f n l e).1, p x
  | 0, l, e, _, x, hx => by cases hx
  | n + 1, l, e, h, x, hx => by
    rw [manyR] at hx
    split at hx
    · rcases List.mem_cons.1 hx with rfl | hx
      · exact (hf l e h).1
      · exact manyR_all hf n _ _ (hf l e h).2 x hx
    · cases hx
theorem rngR_size {B : Nat} (l : List UInt8) (e : Int) (h : l.length ≤ B) : ((rngR l e).1.lo.length ≤ B ∧ (rngR l e).1.hi.length ≤ B) ∧ (rngR l e).2.1.length ≤ B := by
  have a1 := textR_size 17 l e
  have a2 := textR_len 17 l e
  have b2 := withinR_len 0 1 (textR 17 l e).2.1 (textR 17 l e).2.2
  have c1 := textR_size 17 (withinR 0 1 (textR 17 l e).2.1 (textR 17 l e).2.2).2.1 (withinR 0 1 (textR 17 l e).2.1 (textR 17 l e).2.2).2.2
  have c2 := textR_len 17 (withinR 0 1 (textR 17 l e).2.1 (textR 17 l e).2.2).2.1 (withinR 0 1 (textR 17 l e).2.1 (textR 17 l e).2.2).2.2
  unfold rngR
  simp only
  split
  · simp only [List.length_nil]; omega
  · simp only; omega
theorem RgAt.kept {w w' : World} {g m : Nat} {S T : ByteArray} {o : Bool} (h : RgAt w g S T o) (hg : w.grownBy w' (some m)) (hne : g ≠ m) : RgAt w' g S T o := by
  have hb := hg.block g h.lt (fun e => hne (by injection e))
  obtain ⟨h0, h1, h2, h3⟩ := h
  have hn : some g ≠ some m := fun e => hne (by injection e)
  exact ⟨hg.cell h0 hn, hg.cell h1 hn, hg.cell h2 hn, fun k => by
    have := h3 k
    unfold World.frozen? at this ⊢
    simp only [hb]
    exact this⟩
theorem Kind.Own.set_far {P : Program} {α : Type} {K : Kind P α} {w : World} {base g k : Nat} {v : Value} {l : List α} (h : K.Own w base v l) (hv : ∀ x, v.ownBlock = some x → x < g) (u : Value) : K.Own (w.setCell ⟨g, k, none⟩ u) base v l :=
  h.kept (grownBy_set _ _ _ _) (by
    cases hx : v.ownBlock with
    | none => exact .inl rfl
    | some x => exact .inr (fun e => by have := hv x hx; injection e with e; omega))
theorem RfAt.far {w : World} {m n c a g k : Nat} {A : Option Addr} {e : Int} (h : RfAt w m A n c a e) (hne : m ≠ g) (u : Value) : RfAt (w.setCell ⟨g, k, none⟩ u) m A n c a e := h.kept (grownBy_set _ _ _ _) (fun e => hne (by injection e))
set_option maxRecDepth 100000 in
set_option maxHeartbeats 8000000 in
theorem ref_rdrngs (A : Option Addr) (c N : Nat) (b : List UInt8) (hN : N = b.length) (hN9 : N ≤ 100000) (w : World) (hr : RdB w w.heap.size A c b) :
    Calls Try.prog 20 #[.slice A N c] w (RetRs w (readRs b)) := by
  have HR := Lib.hid hr
  have HN := Lib.hid hN
  obtain ⟨n, r1, e1, h1⟩ : ∃ n r1 e1, withinR 0 4096 b 0 = (n, r1, e1) := ⟨_, _, _, rfl⟩
  have hn9 : n ≤ 4096 := by
    by_cases he : e1 = 0
    · subst he
      have := (withinR_back h1).2.2.2; omega
    · have h := withinR_same 0 4096 b 0
      rw [h1] at h
      have := (h he).1
      simp only at this
      omega
  have HW0 := Lib.hid h1
  have HR1 := Lib.hid (show r1.length ≤ N from by have := withinR_len 0 4096 b 0; rw [h1] at this; simp only at this; omega)
  obtain ⟨M, hM⟩ : ∃ M, w.heap.size = M := ⟨_, rfl⟩
  have W1 := fun (w' : World) (hf : RfAt w' M A N c 0 0) (hq : Below M w w') => Lib.hid (rf_within_q (b := b) (l := b) hN h1 rfl hf ((hM ▸ hr).below hq) (Nat.zero_le _) (by omega))
  have HM := Lib.hid hM
  have HRM := Lib.hid (hM ▸ hr)
  have HB0 := Lib.hid (show Below M w w from Below.refl _ _)
  clear hr hN
  go_enter Try.func20, Try.ntmps20
  go_upto_region 2 with fail
  obtain ⟨w9, hw9⟩ : ∃ w9, w9 = w.alloc (.cells #[.slice A N c, .int .i64 0, .int .i64 0] 74) := ⟨_, rfl⟩
  have HF := Lib.hid (show RfAt w9 M A N c 0 0 by rw [hw9]; exact heap_new _ _ _ HM.out.symm)
  have HB := Lib.hid (show Below M w w9 by rw [hw9]; exact HB0.out.alloc (by rw [HM.out]; exact Nat.le_refl _) _)
  rw [← hw9]
  clear hw9 hM
  go_wp2_with ((with_reducible refine (W1 _ HF.out HB.out).out.mono ?_); rintro e w2 ⟨rfl, a1, ha1, hla, hrf, hg⟩; replace HB := Lib.hid (below_row HB.out hg (Nat.le_refl _) (Nat.le_of_lt HF.out.lt)); replace HF := Lib.hid hrf; have HA := Lib.hid ha1; have HLA := Lib.hid hla; clear hrf hg hla ha1)
  clear W1
  obtain ⟨Y, hY⟩ : ∃ Y, manyR rngR n r1 e1 = Y := ⟨_, rfl⟩
  have HY0 := Lib.hid hY
  clear hY h1
  go_loopw [6, 7] (fun v i wr => ∃ (k a : Nat) (e : Int) (dn : List Rng), k ≤ n ∧ i = .int .i64 k ∧ dn.length ≤ k ∧ Hid (a ≤ N) ∧ Hid (Y = (dn ++ (manyR rngR (n - k) (b.drop a) e).1, (manyR rngR (n - k) (b.drop a) e).2)) ∧ Hid (RfAt wr M A N c a e) ∧ Hid (kRng.Own wr (M + 1) v dn) ∧ Hid (Below M w wr)) (fun _ i _ => n - (intOf i).toNat)
  case atStart => exact ⟨0, a1, e1, [], by omega, rfl, Nat.le_refl _, HA, by rw [← HLA.out, Nat.sub_zero, HY0.out]; rfl, HF, Kind.Own.nil _ _, HB⟩
  case round =>
    clear HF HB HA
    obtain ⟨k, a, e, dn, hk, rfl, hdk, HA, HY, HF, HO, HB⟩ := hrel
    by_cases hlt : k < n
    · by_cases he : e = 0
      · subst he
        obtain ⟨c0, c1, c2, z0, z1, z2⟩ := HF.out.cells
        go_upto_region 8 with (first | (go_quiet (fail)))
        obtain ⟨s, q1, x1, ht1⟩ : ∃ s q1 x1, textR 17 (b.drop a) 0 = (s, q1, x1) := ⟨_, _, _, rfl⟩
        obtain ⟨o, q2, x2, ht2⟩ : ∃ o q2 x2, withinR 0 1 q1 x1 = (o, q2, x2) := ⟨_, _, _, rfl⟩
        obtain ⟨t, q3, x3, ht3⟩ : ∃ t q3 x3, textR 17 q2 x2 = (t, q3, x3) := ⟨_, _, _, rfl⟩
        obtain ⟨S, hS⟩ : ∃ S, str s = S := ⟨_, rfl⟩
        obtain ⟨T, hT⟩ : ∃ T, str t = T := ⟨_, rfl⟩
        have T1 := fun (w' : World) (hf : RfAt w' M A N c a 0) (hq : Below M w w') => Lib.hid (rf_text_q (b := b) HN.out ht1 hS rfl hf (HRM.out.below hq) HA.out (Nat.le_refl _) (by omega))
        have T2 := fun (w' : World) (a' : Nat) (ha : a' ≤ N) (hl : q1 = b.drop a') (hf : RfAt w' M A N c a' x1) (hq : Below M w w') => Lib.hid (rf_within_q (b := b) HN.out ht2 hl hf (HRM.out.below hq) ha (by omega))
        have T3 := fun (w' : World) (a' : Nat) (ha : a' ≤ N) (hl : q2 = b.drop a') (hf : RfAt w' M A N c a' x2) (hq : Below M w w') => Lib.hid (rf_text_q (b := b) HN.out ht3 hT hl hf (HRM.out.below hq) ha (Nat.le_refl _) (by omega))
        have HSTEP := Lib.hid (manyR_step rngR hlt (b.drop a))
        have HRN1 := Lib.hid (show o = 1 → rngR (b.drop a) 0 = (⟨s, [], true⟩, q2, x2) from fun ho => by unfold rngR; rw [ht1]; simp only; rw [ht2]; simp only; rw [if_pos ho])
        have HRN0 := Lib.hid (show o ≠ 1 → rngR (b.drop a) 0 = (⟨s, t, false⟩, q3, x3) from fun ho => by unfold rngR; rw [ht1]; simp only; rw [ht2]; simp only; rw [if_neg ho, ht3])
        have HS := Lib.hid hS
        have HT := Lib.hid hT
        obtain ⟨G, hG⟩ : ∃ G, wr.heap.size = G := ⟨_, rfl⟩
        have hMG : M < G := by rw [← hG]; exact HF.out.lt
        have hVG := Lib.hid (show ∀ x, u6.ownBlock = some x → M + 1 ≤ x ∧ x < G from fun x hx => hG ▸ HO.out.lt x hx)
        obtain ⟨w9, hw9⟩ : ∃ w9, w9 = wr.alloc (.cells #[.string ⟨#[]⟩, .string ⟨#[]⟩, .bool false] 49) := ⟨_, rfl⟩
        have HG := Lib.hid (show RgAt w9 G ⟨#[]⟩ ⟨#[]⟩ false by rw [hw9, ← hG]; exact rgAt_new _ _ _ _ _)
        replace HF := Lib.hid (show RfAt w9 M A N c a 0 by rw [hw9]; exact heap_old _ HF.out)
        replace HO := Lib.hid (show kRng.Own w9 (M + 1) u6 dn by rw [hw9]; exact HO.out.alloc _)
        replace HB := Lib.hid (show Below M w w9 by rw [hw9]; exact HB.out.alloc (by rw [hG]; exact Nat.le_of_lt hMG) _)
        rw [hG, ← hw9]
        clear hw9 ht1 ht2 ht3 hS hT c0 c1 c2 z0 z1 z2
        obtain ⟨g0, g1, g2, gz⟩ := HG.out
        go_upto_region 9 with ((with_reducible refine (T1 _ HF.out HB.out).out.mono ?_); rintro e w9 ⟨rfl, a1, ha1, hla, hrf, hg⟩; replace HG := Lib.hid (HG.out.kept hg (by omega)); replace HO := Lib.hid (HO.out.other hg (Nat.lt_succ_self _)); replace HB := Lib.hid (below_row HB.out hg (Nat.le_refl _) (Nat.le_of_lt HF.out.lt)); replace HF := Lib.hid hrf; have HA1 := Lib.hid ha1; have HL1 := Lib.hid hla; clear hrf hg ha1 hla g0 g1 g2 gz; obtain ⟨g0, g1, g2, gz⟩ := HG.out)
        obtain ⟨w8, hw8⟩ : ∃ w8, w8 = w9.setCell ⟨G, 0, none⟩ (.string S) := ⟨_, rfl⟩
        have hgg : RgAt w8 G S ⟨#[]⟩ false := by rw [hw8]; exact HG.out.set0 S
        replace HG := Lib.hid hgg
        replace HF := Lib.hid (show RfAt w8 M A N c _ _ by rw [hw8]; exact HF.out.far (Nat.ne_of_lt hMG) _)
        replace HO := Lib.hid (show kRng.Own w8 (M + 1) u6 dn by rw [hw8]; exact HO.out.set_far (fun x hx => (hVG.out x hx).2) _)
        replace HB := Lib.hid (show Below M w w8 by rw [hw8]; exact HB.out.setCell (p := ⟨G, 0, none⟩) (Nat.le_of_lt hMG) _)
        rw [← hw8]
        clear hw8 g0 g1 g2 gz hgg
        obtain ⟨g0, g1, g2, gz⟩ := HG.out
        go_upto_region 10 with ((with_reducible refine (T2 _ _ HA1.out HL1.out HF.out HB.out).out.mono ?_); rintro e w9 ⟨rfl, a2, ha1, hla, hrf, hg⟩; replace HG := Lib.hid (HG.out.kept hg (by omega)); replace HO := Lib.hid (HO.out.other hg (Nat.lt_succ_self _)); replace HB := Lib.hid (below_row HB.out hg (Nat.le_refl _) (Nat.le_of_lt HF.out.lt)); replace HF := Lib.hid hrf; have HA2 := Lib.hid ha1; have HL2 := Lib.hid hla; clear hrf hg ha1 hla g0 g1 g2 gz; obtain ⟨g0, g1, g2, gz⟩ := HG.out)
        have hlt9 := hlt
        obtain ⟨q, hq⟩ : ∃ q, ((o : Int) == 1) = q := ⟨_, rfl⟩
        rw [hq]
        obtain ⟨w8, hw8⟩ : ∃ w8, w8 = w9.setCell ⟨G, 2, none⟩ (.bool q) := ⟨_, rfl⟩
        have hgg : RgAt w8 G S ⟨#[]⟩ q := by rw [hw8]; exact HG.out.set2 q
        replace HG := Lib.hid hgg
        replace HF := Lib.hid (show RfAt w8 M A N c _ _ by rw [hw8]; exact HF.out.far (Nat.ne_of_lt hMG) _)
        replace HO := Lib.hid (show kRng.Own w8 (M + 1) u6 dn by rw [hw8]; exact HO.out.set_far (fun x hx => (hVG.out x hx).2) _)
        replace HB := Lib.hid (show Below M w w8 by rw [hw8]; exact HB.out.setCell (p := ⟨G, 2, none⟩) (Nat.le_of_lt hMG) _)
        rw [← hw8]
        clear hw8 g0 g1 g2 gz hgg
        obtain ⟨g0, g1, g2, gz⟩ := HG.out
        cases q
        case true =>
          have ho : o = 1 := by have := eq_of_beq hq; omega
          have HX := Lib.hid (HSTEP.out.trans (by rw [HRN1.out ho]))
          clear hq ho HSTEP
          have HRW := fun w => Lib.hid (rng_row_n w ⟨s, [], true⟩ S ⟨#[]⟩ true ⟨HS.out, rfl, rfl⟩)
          have HLE := Lib.hid (show dn.length + [(⟨s, [], true⟩ : Rng)].length ≤ 1000000 by rw [List.length_singleton]; omega)
          clear hlt9 T1 T2 T3 HRN1 HRN0 HS HT
          go_wp2_with (at_builtin; refine wpList_app_k kRng rfl (.tmp 40) (.tmp 42) rfl (M + 1) u6 dn rfl (Kind.Own.alloc HO.out _) _ (some ⟨w8.heap.size, 0, none⟩) 1 1 [⟨s, [], true⟩] rfl rfl (HRW w8).out HLE.out (by decide) (le_alloc HF.out.lt _) ?_; intro v3 w3 hown3 hg3 hb3 _; have HO3 := Lib.hid hown3; have HF3 := Lib.hid (RfAt.kept (heap_old _ HF.out) hg3 (fun e => by have := hVG.out _ e.symm; omega)); have HB3 := Lib.hid ((HB.out.alloc (Nat.le_of_lt HF.out.lt) _).trans (hb3.mono (Nat.le_succ M))); clear hown3 hg3 hb3)
          go_roundw
          case rel => exact ⟨k + 1, a2, x2, dn ++ [⟨s, [], true⟩], by omega, by go_num, by rw [List.length_append, List.length_singleton]; omega, HA2, Lib.hid (by rw [HY.out, HX.out, ← HL2.out, List.append_assoc]; rfl), HF3, HO3, HB3⟩
          case measure => simp [intOf]; omega
        case false =>
          have ho : o ≠ 1 := fun h => by subst h; cases hq
          have HX := Lib.hid (HSTEP.out.trans (by rw [HRN0.out ho]))
          clear hq ho HSTEP
          go_upto_region 12 with ((with_reducible refine (T3 _ _ HA2.out HL2.out HF.out HB.out).out.mono ?_); rintro e w9 ⟨rfl, a3, ha1, hla, hrf, hg⟩; replace HG := Lib.hid (HG.out.kept hg (by omega)); replace HO := Lib.hid (HO.out.other hg (Nat.lt_succ_self _)); replace HB := Lib.hid (below_row HB.out hg (Nat.le_refl _) (Nat.le_of_lt HF.out.lt)); replace HF := Lib.hid hrf; have HA3 := Lib.hid ha1; have HL3 := Lib.hid hla; clear hrf hg ha1 hla g0 g1 g2 gz; obtain ⟨g0, g1, g2, gz⟩ := HG.out)
          obtain ⟨w8, hw8⟩ : ∃ w8, w8 = w9.setCell ⟨G, 1, none⟩ (.string T) := ⟨_, rfl⟩
          have hgg : RgAt w8 G S T false := by rw [hw8]; exact HG.out.set1 T
          replace HG := Lib.hid hgg
          replace HF := Lib.hid (show RfAt w8 M A N c _ _ by rw [hw8]; exact HF.out.far (Nat.ne_of_lt hMG) _)
          replace HO := Lib.hid (show kRng.Own w8 (M + 1) u6 dn by rw [hw8]; exact HO.out.set_far (fun x hx => (hVG.out x hx).2) _)
          replace HB := Lib.hid (show Below M w w8 by rw [hw8]; exact HB.out.setCell (p := ⟨G, 1, none⟩) (Nat.le_of_lt hMG) _)
          rw [← hw8]
          clear hw8 g0 g1 g2 gz hgg
          obtain ⟨g0, g1, g2, gz⟩ := HG.out
          have HRW := fun w => Lib.hid (rng_row_n w ⟨s, t, false⟩ S T false ⟨HS.out, HT.out, rfl⟩)
          have HLE := Lib.hid (show dn.length + [(⟨s, t, false⟩ : Rng)].length ≤ 1000000 by rw [List.length_singleton]; omega)
          clear hlt9 T1 T2 T3 HRN1 HRN0 HS HT
          go_wp2_with (at_builtin; refine wpList_app_k kRng rfl (.tmp 40) (.tmp 42) rfl (M + 1) u6 dn rfl (Kind.Own.alloc HO.out _) _ (some ⟨w8.heap.size, 0, none⟩) 1 1 [⟨s, t, false⟩] rfl rfl (HRW w8).out HLE.out (by decide) (le_alloc HF.out.lt _) ?_; intro v3 w3 hown3 hg3 hb3 _; have HO3 := Lib.hid hown3; have HF3 := Lib.hid (RfAt.kept (heap_old _ HF.out) hg3 (fun e => by have := hVG.out _ e.symm; omega)); have HB3 := Lib.hid ((HB.out.alloc (Nat.le_of_lt HF.out.lt) _).trans (hb3.mono (Nat.le_succ M))); clear hown3 hg3 hb3)
          go_roundw
          case rel => exact ⟨k + 1, a3, x3, dn ++ [⟨s, t, false⟩], by omega, by go_num, by rw [List.length_append, List.length_singleton]; omega, HA3, Lib.hid (by rw [HY.out, HX.out, ← HL3.out, List.append_assoc]; rfl), HF3, HO3, HB3⟩
          case measure => simp [intOf]; omega
      · have hne : (e == 0) = false := beq_eq_false_iff_ne.2 he
        obtain ⟨c0, c1, c2, z0, z1, z2⟩ := HF.out.cells
        have HD := Lib.hid (HY.out.trans (by rw [manyR_end rngR (n - k) (b.drop a) (.inr he), List.append_nil]))
        have HALL := Lib.hid (show ∀ r ∈ dn, r.lo.length ≤ N ∧ r.hi.length ≤ N from by
          have := manyR_all (f := rngR) (p := fun r => r.lo.length ≤ N ∧ r.hi.length ≤ N) (fun l e h => rngR_size l e h) n r1 e1 HR1.out
          rw [HY0.out, HD.out] at this
          exact this)
        obtain ⟨x, hx⟩ : ∃ x, endR (b.drop a) e = x := ⟨_, rfl⟩
        obtain ⟨v, hv⟩ : ∃ v, rightL dn = v := ⟨_, rfl⟩
        have EN := fun (w' : World) (a' : Nat) (ha : a' ≤ N) (hl : b.drop a = b.drop a') (hf : RfAt w' M A N c a' e) => Lib.hid (rf_end_q (b := b) HN.out hx hl hf ha)
        have HRD := Lib.hid (show readRs b = _ from allR2_of HW0.out (HY0.out.trans HD.out) hx hv)
        obtain ⟨n6, hn6⟩ : ∃ n6, n6 = dn.length := ⟨_, rfl⟩
        obtain ⟨A6, c6, rfl, hrd6⟩ := HO.out.read_n hn6
        have LR := fun (w' : World) (ho : kRng.Own w' (M + 1) (.slice A6 n6 c6) dn) => Lib.hid (ref_lright A6 c6 n6 dn hn6 (fun r hr => by have := (HALL.out r hr).2; omega) v hv w' ho.rd)
        have HN6 := Lib.hid hn6
        clear hrd6 hn6 hx hv
        by_cases h0 : x = 0
        · subst h0
          cases v
          case true =>
            have HRE := Lib.hid (show readRs b = (dn, 0) by rw [HRD.out, if_neg (by decide)])
            go_wp2_with (first | ((with_reducible refine (EN _ a HA.out rfl HF.out).out.mono ?_); rintro e8 w8 ⟨rfl, a8, ha8, hl8, hf8, hg8⟩; replace HO := Lib.hid (HO.out.other hg8 (Nat.lt_succ_self _)); replace HB := Lib.hid (below_row HB.out hg8 (Nat.le_refl _) (Nat.le_of_lt HF.out.lt)); replace HF := Lib.hid hf8; have HA8 := Lib.hid ha8; have HL8 := Lib.hid hl8; clear hf8 hg8 ha8 hl8) | ((with_reducible refine (LR _ HO.out).out.mono ?_); rintro e7 w7 ⟨rfl, hq⟩; replace HO := Lib.hid (HO.out.below hq); replace HB := Lib.hid (HB.out.trans (hq.mono (Nat.le_of_lt HF.out.lt))); clear hq))
            go_ret2
            exact ⟨A6, c6, n6, by rw [HRE.out]; rfl, by rw [HRE.out]; exact HN6.out, by rw [HRE.out]; exact HO.out.rd, by rw [HM.out]; exact HB.out⟩
          case false =>
            have HRE := Lib.hid (show readRs b = ([], 11) by rw [HRD.out, if_neg (by decide)])
            go_wp2_with (first | ((with_reducible refine (EN _ a HA.out rfl HF.out).out.mono ?_); rintro e8 w8 ⟨rfl, a8, ha8, hl8, hf8, hg8⟩; replace HO := Lib.hid (HO.out.other hg8 (Nat.lt_succ_self _)); replace HB := Lib.hid (below_row HB.out hg8 (Nat.le_refl _) (Nat.le_of_lt HF.out.lt)); replace HF := Lib.hid hf8; have HA8 := Lib.hid ha8; have HL8 := Lib.hid hl8; clear hf8 hg8 ha8 hl8) | ((with_reducible refine (LR _ HO.out).out.mono ?_); rintro e7 w7 ⟨rfl, hq⟩; replace HO := Lib.hid (HO.out.below hq); replace HB := Lib.hid (HB.out.trans (hq.mono (Nat.le_of_lt HF.out.lt))); clear hq))
            go_ret2
            exact ⟨none, 0, 0, by rw [HRE.out]; rfl, by rw [HRE.out]; rfl, by rw [HRE.out]; exact Kind.Rd.nil _ _, by rw [HM.out]; exact HB.out⟩
        · have HRE := Lib.hid (show readRs b = ([], x) by rw [HRD.out, if_pos h0])
          have hxe : (x == 0) = false := beq_eq_false_iff_ne.2 h0
          go_wp2_with (first | ((with_reducible refine (EN _ a8 HA8.out HL8.out HF.out).out.mono ?_); rintro e8 w8 ⟨rfl, a9, ha8, hl8, hf8, hg8⟩; replace HO := Lib.hid (HO.out.other hg8 (Nat.lt_succ_self _)); replace HB := Lib.hid (below_row HB.out hg8 (Nat.le_refl _) (Nat.le_of_lt HF.out.lt)); replace HF := Lib.hid hf8; clear hf8 hg8 ha8 hl8) | ((with_reducible refine (EN _ a HA.out rfl HF.out).out.mono ?_); rintro e8 w8 ⟨rfl, a8, ha8, hl8, hf8, hg8⟩; replace HO := Lib.hid (HO.out.other hg8 (Nat.lt_succ_self _)); replace HB := Lib.hid (below_row HB.out hg8 (Nat.le_refl _) (Nat.le_of_lt HF.out.lt)); replace HF := Lib.hid hf8; have HA8 := Lib.hid ha8; have HL8 := Lib.hid hl8; clear hf8 hg8 ha8 hl8))
          go_ret2
          exact ⟨none, 0, 0, by rw [HRE.out]; rfl, by rw [HRE.out]; rfl, by rw [HRE.out]; exact Kind.Rd.nil _ _, by rw [HM.out]; exact HB.out⟩
    · obtain ⟨c0, c1, c2, z0, z1, z2⟩ := HF.out.cells
      have HD := Lib.hid (HY.out.trans (by rw [manyR_end rngR (n - k) (b.drop a) (.inl (by omega)), List.append_nil]))
      have HALL := Lib.hid (show ∀ r ∈ dn, r.lo.length ≤ N ∧ r.hi.length ≤ N from by
        have := manyR_all (f := rngR) (p := fun r => r.lo.length ≤ N ∧ r.hi.length ≤ N) (fun l e h => rngR_size l e h) n r1 e1 HR1.out
        rw [HY0.out, HD.out] at this
        exact this)
      obtain ⟨x, hx⟩ : ∃ x, endR (b.drop a) e = x := ⟨_, rfl⟩
      obtain ⟨v, hv⟩ : ∃ v, rightL dn = v := ⟨_, rfl⟩
      have EN := fun (w' : World) (a' : Nat) (ha : a' ≤ N) (hl : b.drop a = b.drop a') (hf : RfAt w' M A N c a' e) => Lib.hid (rf_end_q (b := b) HN.out hx hl hf ha)
      have HRD := Lib.hid (show readRs b = _ from allR2_of HW0.out (HY0.out.trans HD.out) hx hv)
      obtain ⟨n6, hn6⟩ : ∃ n6, n6 = dn.length := ⟨_, rfl⟩
      obtain ⟨A6, c6, rfl, hrd6⟩ := HO.out.read_n hn6
      have LR := fun (w' : World) (ho : kRng.Own w' (M + 1) (.slice A6 n6 c6) dn) => Lib.hid (ref_lright A6 c6 n6 dn hn6 (fun r hr => by have := (HALL.out r hr).2; omega) v hv w' ho.rd)
      have HN6 := Lib.hid hn6
      clear hrd6 hn6 hx hv
      by_cases h0 : x = 0
      · subst h0
        cases v
        case true =>
          have HRE := Lib.hid (show readRs b = (dn, 0) by rw [HRD.out, if_neg (by decide)])
          go_wp2_with (first | ((with_reducible refine (EN _ a HA.out rfl HF.out).out.mono ?_); rintro e8 w8 ⟨rfl, a8, ha8, hl8, hf8, hg8⟩; replace HO := Lib.hid (HO.out.other hg8 (Nat.lt_succ_self _)); replace HB := Lib.hid (below_row HB.out hg8 (Nat.le_refl _) (Nat.le_of_lt HF.out.lt)); replace HF := Lib.hid hf8; have HA8 := Lib.hid ha8; have HL8 := Lib.hid hl8; clear hf8 hg8 ha8 hl8) | ((with_reducible refine (LR _ HO.out).out.mono ?_); rintro e7 w7 ⟨rfl, hq⟩; replace HO := Lib.hid (HO.out.below hq); replace HB := Lib.hid (HB.out.trans (hq.mono (Nat.le_of_lt HF.out.lt))); clear hq))
          go_ret2
          exact ⟨A6, c6, n6, by rw [HRE.out]; rfl, by rw [HRE.out]; exact HN6.out, by rw [HRE.out]; exact HO.out.rd, by rw [HM.out]; exact HB.out⟩
        case false =>
          have HRE := Lib.hid (show readRs b = ([], 11) by rw [HRD.out, if_neg (by decide)])
          go_wp2_with (first | ((with_reducible refine (EN _ a HA.out rfl HF.out).out.mono ?_); rintro e8 w8 ⟨rfl, a8, ha8, hl8, hf8, hg8⟩; replace HO := Lib.hid (HO.out.other hg8 (Nat.lt_succ_self _)); replace HB := Lib.hid (below_row HB.out hg8 (Nat.le_refl _) (Nat.le_of_lt HF.out.lt)); replace HF := Lib.hid hf8; have HA8 := Lib.hid ha8; have HL8 := Lib.hid hl8; clear hf8 hg8 ha8 hl8) | ((with_reducible refine (LR _ HO.out).out.mono ?_); rintro e7 w7 ⟨rfl, hq⟩; replace HO := Lib.hid (HO.out.below hq); replace HB := Lib.hid (HB.out.trans (hq.mono (Nat.le_of_lt HF.out.lt))); clear hq))
          go_ret2
          exact ⟨none, 0, 0, by rw [HRE.out]; rfl, by rw [HRE.out]; rfl, by rw [HRE.out]; exact Kind.Rd.nil _ _, by rw [HM.out]; exact HB.out⟩
      · have HRE := Lib.hid (show readRs b = ([], x) by rw [HRD.out, if_pos h0])
        have hxe : (x == 0) = false := beq_eq_false_iff_ne.2 h0
        go_wp2_with (first | ((with_reducible refine (EN _ a8 HA8.out HL8.out HF.out).out.mono ?_); rintro e8 w8 ⟨rfl, a9, ha8, hl8, hf8, hg8⟩; replace HO := Lib.hid (HO.out.other hg8 (Nat.lt_succ_self _)); replace HB := Lib.hid (below_row HB.out hg8 (Nat.le_refl _) (Nat.le_of_lt HF.out.lt)); replace HF := Lib.hid hf8; clear hf8 hg8 ha8 hl8) | ((with_reducible refine (EN _ a HA.out rfl HF.out).out.mono ?_); rintro e8 w8 ⟨rfl, a8, ha8, hl8, hf8, hg8⟩; replace HO := Lib.hid (HO.out.other hg8 (Nat.lt_succ_self _)); replace HB := Lib.hid (below_row HB.out hg8 (Nat.le_refl _) (Nat.le_of_lt HF.out.lt)); replace HF := Lib.hid hf8; have HA8 := Lib.hid ha8; have HL8 := Lib.hid hl8; clear hf8 hg8 ha8 hl8))
        go_ret2
        exact ⟨none, 0, 0, by rw [HRE.out]; rfl, by rw [HRE.out]; rfl, by rw [HRE.out]; exact Kind.Rd.nil _ _, by rw [HM.out]; exact HB.out⟩
end Go.Proofs.Ytohdncmlmpnfbaa
