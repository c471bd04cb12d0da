/-
  Several texts in one: Quiet, FltA, FltB, FltC, SpanC, Region, FltD, Law09A, OpenNds, Nms, TabNms, Law09B.
-/
import Derived.Deep.Quiet
import Derived.BigQuiet
import Derived.Deep.QuietTactic
import Derived.Deep.RegionHeld3
import Derived.Deep.CutRange
import Derived.Deep.Strs
import Derived.Test.YthgcbomidamcfaaDoorRows
import Derived.Lib.LaidTab
import Derived.Stop.Joined
import Derived.MakeChecks
import Derived.Test.YthgcbomidamcfaaDoorMg3
/-
  A walk through a statement that draws its order, once, in the text's order, where all its operations keep a condition on the world: reads, and calls that make memory of their own.
-/
namespace Go.Proofs.YthgcbomidamcfaaDoor
open Go.RowKit

section
variable {P : Program} {C : World → Prop} {a : Act} {o : Oper}
theorem q_region {id : Nat} {Q : Exit → Act → World → Prop} {a : Act} {w : World} {l : List Oper} (C : World → Prop) (hm : P.follows .mixedOrders = true) (hB : Region.lexB .any l.toArray = true) (hC : C w.drew)
    (h : wpQuiet P l.toArray C (fun a' => ∀ w', C w' → Q .normal a' w') l a) : (Code.region id l.toArray true).wp P Q a w :=
  wp_region_quiet (C := C) hm hB hC (by simpa using h)
theorem q_take {v : Value} {K : Act → Prop} (hy : ∀ w, C w → (execOp a.eval o).run P w = .ok (.value v) w) (hk : K (a.put o.dst v)) : o.quiet P a C K :=
  ⟨v, fun w hC => by unfold Oper.quietAt; rw [hy w hC]; exact ⟨rfl, rfl⟩, hk⟩
theorem q_call {v : Value} {K : Act → Prop} {f : FuncId} {args : Array Value} (hc : ∀ w, C w → Calls P f args w fun e w' => e = .returned v ∧ C w') (he : ∀ w, C w → (execOp a.eval o).run P w = .ok (.enter f args) w) (hk : K (a.put o.dst v)) : o.quiet P a C K :=
  ⟨v, fun w hC => by unfold Oper.quietAt; rw [he w hC]; exact ⟨rfl, hc w hC⟩, hk⟩
end

/-- Some cells hold these values, and below the first block of a call all is as it was: what stays so through a drawn statement. -/
def CellL (a : World) : List (Addr × Value) → World → Prop
  | [], w => Below a.heap.size a w
  | (p, v) :: l, w => w.cell? p = some v ∧ CellL a l w
theorem cellL_size {a w : World} : ∀ {l : List (Addr × Value)}, CellL a l w → Below a.heap.size a w
  | [], h => h
  | _ :: _, h => cellL_size h.2
theorem cellL_call {a w w' : World} (hb : Below w.heap.size w w') : ∀ {l : List (Addr × Value)}, CellL a l w → CellL a l w'
  | [], h => Below.trans h (hb.mono (Below.size h))
  | (p, _) :: _, h => ⟨(hb.cell (p := p) (World.block_lt_of_cell? w p h.1)).trans h.1, cellL_call hb h.2⟩
theorem cellL_drew {a w : World} : ∀ {l : List (Addr × Value)}, CellL a l w → CellL a l w.drew
  | [], h => Below.drew h
  | _ :: _, h => ⟨h.1, cellL_drew h.2⟩
theorem cellL_of {P : Program} {f : FuncId} {args : Array Value} {v : Value} {a : World} {l : List (Addr × Value)} (h : ∀ w, Calls P f args w fun e w' => e = .returned v ∧ Below w.heap.size w w') :
    ∀ w, CellL a l w → Calls P f args w fun e w' => e = .returned v ∧ CellL a l w' := fun w hC => (h w).mono fun _ _ ⟨h1, h2⟩ => ⟨h1, cellL_call h2 hC⟩
theorem cellL_of_same {P : Program} {f : FuncId} {args : Array Value} {v : Value} {a : World} {l : List (Addr × Value)} (h : ∀ w, Calls P f args w fun e w' => e = .returned v ∧ w = w') :
    ∀ w, CellL a l w → Calls P f args w fun e w' => e = .returned v ∧ CellL a l w' := fun w hC => (h w).mono fun _ _ ⟨h1, h2⟩ => ⟨h1, h2 ▸ hC⟩
theorem alloc_keeps (w : World) (x : Obj) : ∀ b o, b < w.heap.size → (w.alloc x).cell? ⟨b, o, none⟩ = w.cell? ⟨b, o, none⟩ := (bcell ((Below.refl w.heap.size w).alloc (Nat.le_refl _) x)).1
end Go.Proofs.YthgcbomidamcfaaDoor

/-
  Layer 9 (filter), the document's words: are two filters the same, node by node; is one too long to be looked at.
-/
namespace Go.Proofs.YthgcbomidamcfaaDoor
open Go.RowKit

def eqN (a b : Nd) : Bool := decide (a.op = b.op) && decide (a.kids = b.kids) && decide (a.lo = b.lo) && decide (a.hi = b.hi)
theorem eqN_iff {a b : Nd} : eqN a b = true ↔ a = b := by
  unfold eqN
  simp only [Bool.and_eq_true, decide_eq_true_eq]
  constructor
  · rintro ⟨⟨⟨h1, h2⟩, h3⟩, h4⟩
    cases a; cases b; simp_all
  · intro h; subst h; exact ⟨⟨⟨rfl, rfl⟩, rfl⟩, rfl⟩
def sameN : List Nd → List Nd → Bool
  | [], [] => true
  | r :: a, t :: b => eqN r t && sameN a b
  | _, _ => false
theorem sameN_cons (r t : Nd) (a b : List Nd) : sameN (r :: a) (t :: b) = (eqN r t && sameN a b) := rfl
theorem sameN_iff : ∀ {a b : List Nd}, sameN a b = true ↔ a = b
  | [], [] => by simp [sameN]
  | [], t :: b => by simp [sameN]
  | r :: a, [] => by simp [sameN]
  | r :: a, t :: b => by
    unfold sameN
    rw [Bool.and_eq_true, eqN_iff, sameN_iff, List.cons.injEq]
theorem sameN_len {a b : List Nd} (h : a.length ≠ b.length) : sameN a b = false := by
  cases hs : sameN a b with
  | false => rfl
  | true => rw [sameN_iff.1 hs] at h; exact absurd rfl h
theorem eq_nd (i j k m : Int) (a b c d : ByteArray) (q : Bool) (hq : (i == k && j == m && a.toList == c.toList && b.toList == d.toList) = q) (w : World) :
    (Op.equalIn 10000 35 (.agg #[.int .i64 i, .int .i64 j, .string a, .string b]) (.agg #[.int .i64 k, .int .i64 m, .string c, .string d])).run Tryd.prog w = .ok q w := by
  subst hq
  have u2 := Tryd.underlying3
  have a2 := Tryd.isAgg3
  have z2 := Tryd.sizeOf3
  have u3 := Tryd.underlying9
  have a3 := Tryd.isAgg9
  have z3 := Tryd.sizeOf9
  have hS : Tryd.prog.underlying 35 = some (.struct (Tryd.prog.fieldsOf 35)) := by kernel_rfl
  have hp : Tryd.prog.stoodInHeld 35 = false := by kernel_rfl
  rw [show (10000 : Nat) = 9999 + 1 from rfl, run_equalIn_agg w 9999 35 _ _ hS hp]
  simp only [Program.fieldsOf, Tryd.underlying35]
  go_simp
  by_cases h1 : i = k <;> by_cases h2 : j = m <;> by_cases h3 : a.toList = c.toList <;> by_cases h4 : b.toList = d.toList <;> simp [h1, h2, h3, h4]
theorem eq_nds (r t : Nd) (d : Bool) (hd : eqN r t = d) (w : World) : (Op.equalIn 10000 35 (.agg #[.int .i64 r.op, .int .i64 r.kids, .string (str r.lo), .string (str r.hi)]) (.agg #[.int .i64 t.op, .int .i64 t.kids, .string (str t.lo), .string (str t.hi)])).run Tryd.prog w = .ok d w := by
  refine eq_nd _ _ _ _ _ _ _ _ d ?_ w
  rw [← hd, str_toList, str_toList, str_toList, str_toList]
  unfold eqN
  by_cases h1 : r.op = t.op <;> by_cases h2 : r.kids = t.kids <;> by_cases h3 : r.lo = t.lo <;> by_cases h4 : r.hi = t.hi <;> simp [h1, h2, h3, h4]
set_option maxHeartbeats 1000000 in
theorem ref_nsame (A B : Option Addr) (c d n m : Nat) (a b : List Nd) (hn : n = a.length) (hm : m = b.length) (v : Bool) (hv : sameN a b = v) (w : World) (ha : kNd.Rd w w.heap.size A c a) (hb : kNd.Rd w w.heap.size B d b) :
    Calls Tryd.prog 11 #[.slice A n c, .slice B m d] w fun e w' => e = .returned (.bool v) ∧ ∃ q, w' = w.drewN q := by
  have HN := Lib.hid hn
  have HM := Lib.hid hm
  have HA := Lib.hid ha
  have HB := Lib.hid hb
  have hmx : n ≤ 9223372036854775807 := rd_max ha hn
  have hmy : m ≤ 9223372036854775807 := rd_max hb hm
  have hcx : n ≤ c := by rw [hn]; exact ha.room
  have hcy : m ≤ d := by rw [hm]; exact hb.room
  subst hv
  by_cases hnm : n = m
  · subst hnm
    clear hn hm ha hb
    go_enter Tryd.func11, Tryd.ntmps11
    go_wp2_with fail
    go_loopw [5] (fun i wr => ∃ k q : Nat, k ≤ n ∧ Hid (sameN a b = sameN (a.drop k) (b.drop k)) ∧ i = .int .i64 k ∧ wr = w.drewN q) (fun i _ => n - (intOf i).toNat)
    case atStart => exact ⟨0, 0, by omega, rfl, rfl, rfl⟩
    case round =>
      obtain ⟨k, q, hk, HL, rfl, rfl⟩ := hrel
      by_cases hlt : k < n
      · obtain ⟨r, hg, hd, -⟩ := get_some (l := a) (k := k) (by have := HN.out; omega)
        obtain ⟨t, hg', hd', -⟩ := get_some (l := b) (k := k) (by have := HM.out; omega)
        obtain ⟨b1, o1, rfl, hb1, hcell1⟩ := nds_at HA.out (by have := HN.out; omega)
        obtain ⟨b2, o2, rfl, hb2, hcell2⟩ := nds_at HB.out (by have := HM.out; omega)
        obtain ⟨a0, a1, a2, a3⟩ := hcell1 k r hg
        obtain ⟨c0, c1, c2, c3⟩ := hcell2 k t hg'
        obtain ⟨x, hx⟩ : ∃ x, eqN r t = x := ⟨_, rfl⟩
        have EQ := fun w => eq_nds r t x hx w
        have HL2 := Lib.hid (HL.out.trans (show sameN (a.drop k) (b.drop k) = (x && sameN (a.drop (k + 1)) (b.drop (k + 1))) by rw [hd, hd', sameN_cons, hx]))
        have hk0 : (0 : Int) ≤ (k : Int) := by omega
        have hkn : (k : Int) < (n : Int) := by omega
        clear hcell1 hcell2 hg hg' hd hd' hx
        cases x
        all_goals
          go_wp2_with fail
          go_quiet (fail)
          go_wp2_with fail
        · go_ret
          exact ⟨ret_bool HL2.out.symm, drewN2 _ _ _⟩
        · go_roundw
          case rel => exact ⟨k + 1, _, by omega, HL2, by go_num, rfl⟩
          case measure => simp [intOf]; omega
      · have HL2 := Lib.hid (HL.out.trans (show sameN (a.drop k) (b.drop k) = true by rw [List.drop_eq_nil_of_le (by have := HN.out; omega), List.drop_eq_nil_of_le (by have := HM.out; omega)]; rfl))
        go_wp2_with fail
        go_ret
        exact ⟨ret_bool HL2.out.symm, _, rfl⟩
  · have HE := Lib.hid (sameN_len (a := a) (b := b) (by omega))
    have hne : ((n : Int) == (m : Int)) = false := beq_eq_false_iff_ne.2 (by omega)
    have hne2 : ((n : Int) != (m : Int)) = true := by rw [bne, hne]; rfl
    clear hn hm ha hb hnm
    go_enter Tryd.func11, Tryd.ntmps11
    go_wp2_with fail
    go_ret
    exact ⟨ret_bool HE.out.symm, 0, rfl⟩
/-- Has a list too many nodes, or one of them too long an edge? -/
def longN (most : Nat) (l : List Nd) : Bool := decide (most < l.length) || l.any fun r => decide (40 < r.lo.length) || decide (40 < r.hi.length)
set_option maxHeartbeats 1000000 in
theorem ref_nlong (A : Option Addr) (c n most : Nat) (l : List Nd) (hn : n = l.length) (hm : most ≤ 1000) (v : Bool) (hv : longN most l = v) (w : World) (hr : kNd.Rd w w.heap.size A c l) :
    Calls Tryd.prog 6 #[.slice A n c, .int .i64 most] w fun e w' => e = .returned (.bool v) ∧ w = w' := by
  have HN := Lib.hid hn
  have HR := Lib.hid hr
  have hmx : n ≤ 9223372036854775807 := rd_max hr hn
  have hcx : n ≤ c := by rw [hn]; exact hr.room
  subst hv
  by_cases h1 : most < n
  · have HE : Hid (longN most l = true) := by unfold longN; rw [decide_eq_true (by omega)]; rfl
    clear hn hr
    go_enter Tryd.func6, Tryd.ntmps6
    go_wp2_with fail
    go_ret
    exact ⟨ret_bool HE.out.symm, rfl⟩
  · have h1' : n ≤ most := by omega
    have HE : Hid (longN most l = l.any fun r => decide (40 < r.lo.length) || decide (40 < r.hi.length)) := by unfold longN; rw [decide_eq_false (by omega), Bool.false_or]; rfl
    clear hn hr h1
    go_enter Tryd.func6, Tryd.ntmps6
    go_wp2_with fail
    go_loop [5] (fun i => ∃ k : Nat, k ≤ n ∧ Hid (longN most l = (l.drop k).any fun r => decide (40 < r.lo.length) || decide (40 < r.hi.length)) ∧ i = .int .i64 k) (fun i => n - (intOf i).toNat)
    case atStart => exact ⟨0, by omega, HE, rfl⟩
    case round =>
      obtain ⟨k, hk, HL, rfl⟩ := hrel
      by_cases hlt : k < n
      · obtain ⟨r, hg, hd, -⟩ := get_some (l := l) (k := k) (by have := HN.out; omega)
        obtain ⟨b1, o1, rfl, hb1, hcell1⟩ := nds_at HR.out (by have := HN.out; omega)
        obtain ⟨-, -, a0, a1⟩ := hcell1 k r hg
        have HL2 := Lib.hid (HL.out.trans (by rw [hd, List.any_cons]))
        have hz1 : (str r.lo).size = r.lo.length := str_size _
        have hz2 : (str r.hi).size = r.hi.length := str_size _
        clear hcell1 hg hd HE
        obtain ⟨S, hS⟩ : ∃ S, str r.lo = S := ⟨_, rfl⟩
        obtain ⟨T, hT⟩ : ∃ T, str r.hi = T := ⟨_, rfl⟩
        rw [hS] at a0 hz1
        rw [hT] at a1 hz2
        by_cases g1 : r.lo.length ≤ 40
        · by_cases g2 : r.hi.length ≤ 40
          · have k1 : S.size ≤ 40 := by omega
            have k2 : T.size ≤ 40 := by omega
            have HE := Lib.hid (HL2.out.trans (by rw [decide_eq_false (show ¬ 40 < r.lo.length by omega), decide_eq_false (show ¬ 40 < r.hi.length by omega), Bool.or_self, Bool.false_or]))
            clear hz1 hz2 hS hT g1 g2 HL2
            go_wp2_with fail
            go_round
            case rel => exact ⟨k + 1, by omega, HE, by go_num⟩
            case measure => simp [intOf]; omega
          · have k1 : S.size ≤ 40 := by omega
            have k2 : 40 < T.size := by omega
            have HE := Lib.hid (HL2.out.trans (by rw [decide_eq_true (show 40 < r.hi.length by omega), Bool.or_true, Bool.true_or]))
            clear hz1 hz2 hS hT g1 g2 HL2
            go_wp2_with fail
            go_ret
            exact ⟨ret_bool HE.out.symm, rfl⟩
        · have k1 : 40 < S.size := by omega
          have HE := Lib.hid (HL2.out.trans (by rw [decide_eq_true (show 40 < r.lo.length by omega), Bool.true_or, Bool.true_or]))
          clear hz1 hz2 hS hT g1 HL2
          go_wp2_with fail
          go_ret
          exact ⟨ret_bool HE.out.symm, rfl⟩
      · have HL2 := Lib.hid (HL.out.trans (by rw [List.drop_eq_nil_of_le (by have := HN.out; omega), List.any_nil]))
        clear HE
        go_wp2_with fail
        go_ret
        exact ⟨ret_bool HL2.out.symm, rfl⟩
end Go.Proofs.YthgcbomidamcfaaDoor

/-
  Layer 9 (filter), the document's words: where a filter begins; is it right.
-/
namespace Go.Proofs.YthgcbomidamcfaaDoor
open Go.RowKit

theorem take_rev_suffix {l R : List Nd} {p : Nat} (h : R <:+ (l.take p).reverse) : R = (l.take R.length).reverse ∧ R.length ≤ p := by
  have h1 : R.reverse <+: l.take p := by rw [← List.reverse_suffix, List.reverse_reverse]; exact h
  have h2 := List.prefix_iff_eq_take.1 h1
  have h3 := h1.length_le
  rw [List.length_reverse, List.length_take] at h3
  rw [List.length_reverse, List.take_take, Nat.min_eq_left (by omega)] at h2
  refine ⟨?_, by omega⟩
  rw [← h2, List.reverse_reverse]
theorem begV_some {l R : List Nd} {p : Nat} (h : cntV 1 (l.take p).reverse = some R) : begV l p = (R.length : Nat) := by unfold begV; rw [h]
theorem begV_none {l : List Nd} {p : Nat} (h : cntV 1 (l.take p).reverse = none) : begV l p = -1 := by unfold begV; rw [h]
theorem take_snoc_rev {l : List Nd} {k : Nat} {n : Nd} (h : l[k]? = some n) : (l.take (k + 1)).reverse = n :: (l.take k).reverse := by
  rw [List.take_add_one, h]; simp
theorem cnt_none {R R' : List Nd} {i m : Nat} (h : cntV i R = some R') (h' : cntV 1 R' = none) (hm : i < m) : cntV m R = none := by
  rw [show m = i + (1 + (m - i - 1)) by omega, cntV_add, h]
  show cntV (1 + (m - i - 1)) R' = none
  rw [cntV_add, h']; rfl
theorem cnt_more {R R' R'' : List Nd} {i : Nat} (h : cntV i R = some R') (h' : cntV 1 R' = some R'') : cntV (i + 1) R = some R'' := by
  rw [cntV_add, h]; exact h'
set_option maxHeartbeats 1000000 in
theorem ref_begin (A : Option Addr) (c n : Nat) (l : List Nd) (hn : n = l.length) (hn9 : n ≤ 100000) : ∀ (k p : Nat), p ≤ k → p ≤ n → ∀ (x : Int), x = (p : Int) - 1 → ∀ w, kNd.Rd w w.heap.size A c l →
    Calls Tryd.prog 14 #[.slice A n c, .int .i64 x] w fun e w' => e = .returned (.int .i64 (begV l p)) ∧ Below w.heap.size w w' := by
  intro k
  induction k with
  | zero =>
    intro p hp _ x hx w _
    obtain rfl : p = 0 := by omega
    obtain rfl : x = -1 := by omega
    have e : begV l 0 = -1 := begV_none rfl
    rw [e]
    clear e hp hx hn hn9
    go_enter Tryd.func14, Tryd.ntmps14
    go_wp2_with fail
    go_ret
    exact ⟨rfl, Below.refl _ _⟩
  | succ k ih =>
    intro p hp hpn x hx w hr
    by_cases hpk : p ≤ k
    · exact ih p hpk hpn x hx w hr
    obtain rfl : p = k + 1 := by omega
    obtain rfl : x = (k : Int) := by omega
    obtain ⟨nd, hg, -, -⟩ := get_some (l := l) (k := k) (by omega)
    obtain ⟨b, o, hA, hb1, hcell⟩ := nds_at hr (by omega)
    obtain ⟨c0, c1, c2, c3⟩ := hcell k nd hg
    obtain ⟨v, hv⟩ : ∃ v, nodeV nd = v := ⟨_, rfl⟩
    have C := fun w => Lib.hid (ref_node nd _ _ _ _ rfl rfl rfl rfl v hv w)
    have hcx : n ≤ c := by rw [hn]; exact hr.room
    have HR := Lib.hid hr
    have IH := fun q hq w' hr' => Lib.hid (ih q hq (by omega) ((q : Int) - 1) rfl w' hr')
    have HT := take_snoc_rev hg
    obtain ⟨O, hO⟩ : ∃ O, nd.op = O := ⟨_, rfl⟩
    obtain ⟨K, hK⟩ : ∃ K, nd.kids = K := ⟨_, rfl⟩
    obtain ⟨S, hS⟩ : ∃ S, str nd.lo = S := ⟨_, rfl⟩
    obtain ⟨T, hT⟩ : ∃ T, str nd.hi = T := ⟨_, rfl⟩
    rw [hO, hK, hS, hT] at C
    rw [hO] at c0
    rw [hK] at c1
    rw [hS] at c2
    rw [hT] at c3
    have hbw := Lib.hid (Below.refl w.heap.size w)
    have hk0 : decide ((k : Int) < 0) = false := decide_eq_false (by omega)
    have hkn : decide ((n : Int) ≤ (k : Int)) = false := decide_eq_false (by omega)
    have hkn3 : decide (n ≤ k) = false := decide_eq_false (by omega)
    have hkn2 : (k : Int) < (n : Int) := by omega
    have hk2 : (0 : Int) ≤ (k : Int) := by omega
    cases v
    · have e : begV l (k + 1) = -1 := begV_none (by rw [HT]; exact cntV_wrong hv)
      rw [e]
      subst hA
      clear hcell hg hv HT hO hS hT hr ih IH e hK hx hp hpn hpk
      go_enter Tryd.func14, Tryd.ntmps14
      go_wp2_with ((with_reducible refine (C _).out.mono ?_); rintro e w1 ⟨rfl, hq⟩)
      go_ret
      exact ⟨rfl, hq⟩
    · have hkid := nodeV_kids hv
      have HX : Hid (begV l (k + 1) = match cntV (kidsN nd) (l.take k).reverse with | some R => ((R.length : Nat) : Int) | none => -1) := by
        unfold begV
        rw [HT, cntV_node hv, Nat.zero_add]; rfl
      obtain ⟨m, hm⟩ : ∃ m : Nat, kidsN nd = m := ⟨_, rfl⟩
      have hKm : K = (m : Int) := by unfold kidsN at hm; rw [hK] at hkid hm; omega
      rw [hm] at HX
      have hm9 : m ≤ 32 := by unfold kidsN at hm; omega
      subst hA
      clear hcell hg hv HT hO hS hT hr ih hK hx hp hpn hpk hkid hm
      subst hKm
      have HN := Lib.hid hn
      clear hn
      go_enter Tryd.func14, Tryd.ntmps14
      go_wp2_with ((with_reducible refine (C _).out.mono ?_); rintro e w1 ⟨rfl, hq⟩; replace hbw := Lib.hid hq; clear hq)
      go_loopw [5, 6] (fun s i wr => ∃ (j q : Nat) (R : List Nd), j ≤ m ∧ Hid (cntV j (l.take k).reverse = some R) ∧ Hid (R.length = q) ∧ s = .int .i64 q ∧ i = .int .i64 j ∧ Hid (Below w.heap.size w wr)) (fun _ i _ => m - (intOf i).toNat)
      case atStart => exact ⟨0, k, _, by omega, cntV_zero _, (show ((l.take k).reverse).length = k by rw [List.length_reverse, List.length_take]; have := HN.out; omega), rfl, rfl, hbw.out⟩
      case round =>
        obtain ⟨j, q, R, hj, HC, HQ, rfl, rfl, HB⟩ := hrel
        have hsx := take_rev_suffix (cntV_suffix _ _ HC.out)
        rw [HQ.out] at hsx
        obtain ⟨hs1, hs2⟩ := hsx
        have hbl := Nat.lt_of_lt_of_le hb1 HB.out.size
        have d1 := ((bcell HB.out).1 _ _ hb1).trans c1
        by_cases hlt : j < m
        · have I := fun w' hr' => IH q hs2 w' hr'
          have hw1 : IntKind.i64.wrap ((q : Int) - 1) = (q : Int) - 1 := IntWalk.i64_in _ (by omega)
          cases hc : cntV 1 R with
          | none =>
            have e : begV l q = -1 := begV_none (by rw [← hs1]; exact hc)
            have HE : Hid (begV l (k + 1) = -1) := by rw [HX.out, cnt_none HC.out hc hlt]; exact rfl
            rw [e] at I
            clear hc hs1 IH
            go_wp2_with ((with_reducible refine (I _ (HR.out.call HB.out)).out.mono ?_); rintro e w2 ⟨rfl, hq⟩; replace HB := Lib.hid (HB.out.trans (hq.mono HB.out.size)); clear hq)
            go_ret
            exact ⟨by rw [HE.out]; rfl, HB.out⟩
          | some R' =>
            have e : begV l q = (R'.length : Nat) := begV_some (by rw [← hs1]; exact hc)
            have HC2 := Lib.hid (cnt_more HC.out hc)
            rw [e] at I
            obtain ⟨q', hq'⟩ : ∃ q', R'.length = q' := ⟨_, rfl⟩
            rw [hq'] at I
            have HQ2 := Lib.hid hq'
            have hq0 : decide ((q' : Int) < 0) = false := decide_eq_false (by omega)
            clear hc hs1 IH e hq'
            go_wp2_with ((with_reducible refine (I _ (HR.out.call HB.out)).out.mono ?_); rintro e w2 ⟨rfl, hq⟩; replace HB := Lib.hid (HB.out.trans (hq.mono HB.out.size)); clear hq)
            go_roundw
            case rel => exact ⟨j + 1, q', R', by omega, HC2.out, HQ2.out, rfl, by go_num, HB.out⟩
            case measure => simp [intOf]; omega
        · have HE : Hid (begV l (k + 1) = (q : Int)) := by rw [HX.out, show m = j by omega, HC.out]; exact congrArg Nat.cast HQ.out
          clear IH hs1
          go_wp2_with fail
          go_ret
          exact ⟨by rw [HE.out]; rfl, HB.out⟩
theorem ref_nright (A : Option Addr) (c n : Nat) (l : List Nd) (hn : n = l.length) (hn9 : n ≤ 100000) (v : Bool) (hv : rightN l = v) (w : World) (hr : kNd.Rd w w.heap.size A c l) :
    Calls Tryd.prog 8 #[.slice A n c] w fun e w' => e = .returned (.bool v) ∧ Below w.heap.size w w' := by
  rw [rightN_beg, ← hn] at hv
  have C := fun x hx => Lib.hid (ref_begin A c n l hn hn9 n n (Nat.le_refl _) (Nat.le_refl _) x hx w hr)
  clear hr
  by_cases h1 : 1 ≤ n
  · by_cases h2 : n ≤ 32
    · obtain ⟨z, hz⟩ : ∃ z, begV l n = z := ⟨_, rfl⟩
      rw [decide_eq_true h1, decide_eq_true h2, Bool.true_and, Bool.true_and, hz] at hv
      rw [hz] at C
      have hw1 : IntKind.i64.wrap ((n : Int) - 1) = (n : Int) - 1 := IntWalk.i64_in _ (by omega)
      have C := C ((n : Int) - 1) rfl
      have hz2 : (z == 0) = v := by rw [← hv]; by_cases h : z = 0 <;> simp [h]
      clear hz hn hv
      go_enter Tryd.func8, Tryd.ntmps8
      go_wp2_with ((with_reducible refine C.out.mono ?_); rintro e w1 ⟨rfl, hq⟩)
      go_ret
      exact ⟨rfl, hq⟩
    · obtain rfl : v = false := by rw [← hv, decide_eq_false h2, Bool.false_and, Bool.and_false]
      clear hv C hn
      go_enter Tryd.func8, Tryd.ntmps8
      go_wp2_with fail
      go_ret
      exact ⟨rfl, Below.refl _ _⟩
  · obtain rfl : v = false := by rw [← hv, decide_eq_false h1, Bool.false_and]
    clear hv C hn
    go_enter Tryd.func8, Tryd.ntmps8
    go_wp2_with fail
    go_ret
    exact ⟨rfl, Below.refl _ _⟩
end Go.Proofs.YthgcbomidamcfaaDoor

/-
  Layer 9 (filter), the document's words: has a filter a text.
-/
namespace Go.Proofs.YthgcbomidamcfaaDoor
open Go.RowKit

theorem dep_last {l : List Nd} {k d : Nat} {n : Nd} (h : l[k]? = some n) (hd : depV (l.take (k + 1)) 0 = some d) : ∃ e, depV (l.take k) 0 = some e ∧ nodeV n = true ∧ kidsN n ≤ e ∧ d = e - kidsN n + 1 := by
  rw [List.take_add_one, h, depV_append] at hd
  cases he : depV (l.take k) 0 with
  | none => rw [he] at hd; cases hd
  | some e =>
    rw [he] at hd
    obtain ⟨h1, h2, h3⟩ := depV_one.1 hd
    exact ⟨e, rfl, h1, h2, h3⟩
theorem top_last {l : List Nd} {k : Nat} {n : Nd} (h : l[k]? = some n) : topV (l.take (k + 1)) = valN n ((stkV (l.take k)).take (kidsN n)) := by
  rw [List.take_add_one, h]; exact topV_snoc _ _
/-- Behind so many filters taken off: the place, what stands open there. -/
theorem cnt_place {l : List Nd} {k e i : Nat} (hd : depV (l.take k) 0 = some e) (hi : i ≤ e) :
    ∃ q, q ≤ k ∧ cntV i (l.take k).reverse = some (l.take q).reverse ∧ (l.take q).length = q ∧ depV (l.take q) 0 = some (e - i) ∧ stkV (l.take q) = (stkV (l.take k)).drop i := by
  obtain ⟨R, h1, h2, h3⟩ := cnt_stk (l.take k).reverse i e (by rw [List.reverse_reverse]; exact hd) hi
  obtain ⟨h4, h5⟩ := take_rev_suffix (cntV_suffix _ _ h1)
  rw [List.reverse_reverse] at h3
  refine ⟨R.length, h5, by rw [h1]; exact congrArg some h4, ?_, ?_, ?_⟩
  · have := congrArg List.length h4; rw [List.length_reverse] at this; exact this.symm
  · have := congrArg List.reverse h4; rw [List.reverse_reverse] at this; rw [← this]; exact h2
  · have := congrArg List.reverse h4; rw [List.reverse_reverse] at this; rw [← this]; exact h3
theorem beg_place {l : List Nd} {p q : Nat} (h : cntV 1 (l.take p).reverse = some (l.take q).reverse) (hq : (l.take q).length = q) : begV l p = (q : Nat) := by
  rw [begV_some h, List.length_reverse, hq]
theorem stk_at {l : List Nd} {k e i q : Nat} (hz : (stkV (l.take k)).length = e) (hi : i < e) (h : stkV (l.take q) = (stkV (l.take k)).drop i) : (stkV (l.take k))[i]? = some (topV (l.take q)) := by
  unfold topV
  rw [h]
  have hi' : i < (stkV (l.take k)).length := by omega
  rw [List.drop_eq_getElem_cons hi', List.headD_cons, List.getElem?_eq_getElem hi']
theorem take_any {st : List TxtP} {i : Nat} {f : TxtP} (h : st[i]? = some f) (s : List UInt8) : ((st.take (i + 1)).any fun k => k s) = ((st.take i).any (fun k => k s) || f s) := by
  rw [List.take_add_one, h]; simp
theorem take_all {st : List TxtP} {i : Nat} {f : TxtP} (h : st[i]? = some f) (s : List UInt8) : ((st.take (i + 1)).all fun k => k s) = ((st.take i).all (fun k => k s) && f s) := by
  rw [List.take_add_one, h]; simp
theorem val_1 {n : Nd} (h : n.op = 1) (ks : List TxtP) (s : List UInt8) : valN n ks s = true := by unfold valN; rw [if_pos h]
theorem val_3 {n : Nd} (h : n.op = 3) (ks : List TxtP) (s : List UInt8) : valN n ks s = n.lo.isPrefixOf s := by unfold valN; rw [if_neg (by omega), if_pos h]
theorem val_4 {n : Nd} (h : n.op = 4) (ks : List TxtP) (s : List UInt8) : valN n ks s = hasR ⟨n.lo, n.hi, false⟩ s := by unfold valN; rw [if_neg (by omega), if_neg (by omega), if_pos h]
theorem val_5 {n : Nd} (h : n.op = 5) (ks : List TxtP) (s : List UInt8) : valN n ks s = !ltB s n.lo := by unfold valN; rw [if_neg (by omega), if_neg (by omega), if_neg (by omega), if_pos h]
theorem val_6 {n : Nd} (h : n.op = 6) (ks : List TxtP) (s : List UInt8) : valN n ks s = !(ks.any fun k => k s) := by unfold valN; rw [if_neg (by omega), if_neg (by omega), if_neg (by omega), if_neg (by omega), if_pos h]
theorem val_else {n : Nd} (h : n.op = 2 ∨ n.op = 7 ∨ n.op = 8) (ks : List TxtP) (s : List UInt8) : valN n ks s = ((n.op == 7) && ks.all (fun k => k s) || (n.op == 8) && ks.any fun k => k s) := by
  unfold valN
  rw [if_neg (by omega), if_neg (by omega), if_neg (by omega), if_neg (by omega), if_neg (by omega)]
  rcases h with h | h | h <;> rw [h] <;> simp
end Go.Proofs.YthgcbomidamcfaaDoor

/-
  Layer 7 (span): the ranges of one text, and of those that begin with one.
-/
namespace Go.Proofs.YthgcbomidamcfaaDoor
open Go.RowKit

theorem all_is (S T : ByteArray) (o : Bool) (h : IsR allR S T o) (w : World) : Calls Tryd.prog 44 #[] w fun e w' => e = .returned (.agg #[.string S, .string T, .bool o]) ∧ Below w.heap.size w w' := by
  obtain ⟨rfl, rfl, rfl⟩ := h
  exact span_all w
/-- What the range of a prefix is, in terms of the prefix's end. -/
theorem prefixR_end {p : List UInt8} (h : p.length ≤ 16) {x : List UInt8} {v : Bool} (hv : (endV p = some x ∧ v = true) ∨ (endV p = none ∧ x = [] ∧ v = false)) : prefixR p = ⟨p, x, !v⟩ := by
  rcases hv with ⟨h1, rfl⟩ | ⟨h1, rfl, rfl⟩
  · rw [prefixR_some h h1]; rfl
  · rw [prefixR_none h h1]; rfl
theorem span_prefix (k : List UInt8) (r : Rng) (K S T : ByteArray) (o : Bool) (hK : str k = K) (hk : k.length ≤ 1000000) (hr : prefixR k = r) (h : IsR r S T o) (w : World) :
    Calls Tryd.prog 45 #[.string K] w fun e w' => e = .returned (.agg #[.string S, .string T, .bool o]) ∧ Below w.heap.size w w' := by
  have hz : K.size = k.length := by subst hK; exact str_size _
  by_cases g : k.length ≤ 16
  · have g1 : K.size ≤ 16 := by omega
    obtain ⟨x, v, hv⟩ := endO k
    rw [prefixR_end g hv] at hr
    subst hr
    obtain ⟨h1, h2, rfl⟩ := h
    obtain rfl : K = S := hK.symm.trans h1
    have N := fun w => Lib.hid (endO_is k x v K T hK h2 (by omega) hv w)
    clear hz hK h1 h2 g hv
    go_enter Tryd.func45, Tryd.ntmps45
    go_wp2_with ((with_reducible refine (N _).out.mono ?_); rintro e w' ⟨rfl, hb⟩; obtain ⟨hc, hf⟩ := bcell hb; replace hb := ((Below.refl w.heap.size w).alloc (Nat.le_refl _) _).trans (hb.mono (by simp)))
    exact bodyPost_ret (v := .agg #[.string K, .string T, .bool !v]) (by simp [results, Tryd.results45, go_sem, hc]) rfl ⟨rfl, below_set3 hb (Nat.le_refl _) _ _ _⟩
  · have g1 : 16 < K.size := by omega
    rw [prefixR_long (by omega)] at hr
    subst hr
    obtain ⟨rfl, rfl, rfl⟩ := h
    clear hz hK g
    go_enter Tryd.func45, Tryd.ntmps45
    go_wp2_with fail
    exact bodyPost_ret (v := .agg #[.string ⟨#[]⟩, .string ⟨#[]⟩, .bool false]) (by simp [results, Tryd.results45, go_sem]) rfl ⟨rfl, (Below.refl _ _).alloc (Nat.le_refl _) _⟩
end Go.Proofs.YthgcbomidamcfaaDoor

/-
  A walk through a statement that draws its order, operation by operation: also those operations that a guard leaves out.
-/
namespace Go.Proofs.YthgcbomidamcfaaDoor

section
variable {P : Program} {l : List Oper} {Q : Exit → Act → World → Prop} {md : Region.Mode} {S : World → Prop}

/-- An operation that is wanted, and yields its value in every world that meets S, comes up next. -/
theorem take_yes {i : Nat} {oi : Oper} {v : Value} {fuel : Nat} {listed : Array Bool} {a : Act} {w : World} (hi : l[i]? = some oi)
    (hs : Region.noSelect l.toArray = true) (hf : Region.free md l.toArray listed i = true) (hr : (Region.ready md l.toArray listed).contains i = true)
    (hQ : ∀ c a w, Q (.panic c) (a.put oi.dst v) w → Q (.panic c) a w) (hw : Region.wanted oi (yielded l.toArray a.tmps) = true) (hS : S w) (hy : ∀ w, S w → (execOp a.eval oi).run P w = .ok (.value v) w)
    (h : wpAnyH P md l.toArray Q S fuel (listed.setIfInBounds i true) (a.put oi.dst v) w) : wpAnyH P md l.toArray Q S (fuel + 1) listed a w :=
  wpAnyH_take (by rw [List.getElem?_toArray]; exact hi) hs hf hr hQ (.inl ⟨hw, hy⟩) hS h
/-- An operation that its guard leaves out comes up next. -/
theorem take_no {i : Nat} {oi : Oper} {fuel : Nat} {listed : Array Bool} {a : Act} {w : World} (hi : l[i]? = some oi)
    (hs : Region.noSelect l.toArray = true) (hf : Region.free md l.toArray listed i = true) (hr : (Region.ready md l.toArray listed).contains i = true)
    (hQ : ∀ c a w, Q (.panic c) (a.put oi.dst undef) w → Q (.panic c) a w) (hw : Region.wanted oi (yielded l.toArray a.tmps) = false) (hS : S w)
    (h : wpAnyH P md l.toArray Q S fuel (listed.setIfInBounds i true) (a.put oi.dst undef) w) : wpAnyH P md l.toArray Q S (fuel + 1) listed a w :=
  wpAnyH_take (by rw [List.getElem?_toArray]; exact hi) hs hf hr hQ (.inr ⟨hw, rfl⟩) hS h
/-- An operation that alone may come up, and is wanted. -/
theorem call_one {i : Nat} {o : Oper} {fuel : Nat} {listed : Array Bool} {a : Act} {w : World} (hi : l[i]? = some o) (hr : Region.ready md l.toArray listed = [i])
    (hw : Region.wanted o (yielded l.toArray a.tmps) = true)
    (h : ∀ K' : Act → World → Prop, Shut (∀ a w, S w → (S w → wpAnyH P md l.toArray Q S fuel (listed.setIfInBounds i true) a w) → K' a w) → Oper.wp P o a w K' Q) :
    wpAnyH P md l.toArray Q S (fuel + 1) listed a w :=
  wpAnyH_ready hr (by simp) (AllReadyH.cons (by rw [List.getElem?_toArray]; exact hi) (fun K' hK => by rw [if_pos hw]; exact h K' hK) AllReadyH.nil)
end
end Go.Proofs.YthgcbomidamcfaaDoor

/-
  Layer 9 (filter), the document's words: has a right filter a text; its leaves' ranges.
-/
namespace Go.Proofs.YthgcbomidamcfaaDoor
open Go.RowKit

theorem leaves_next {l : List Nd} {k : Nat} {n : Nd} (h : l[k]? = some n) : leavesL (l.take (k + 1)) = leavesL (l.take k) ++ (leafR n).toList := by
  unfold leavesL
  rw [List.take_add_one, h, List.filterMap_append]
  exact congrArg _ (by cases hl : leafR n <;> simp [hl])
theorem leaves_len (l : List Nd) : (leavesL l).length ≤ l.length := List.length_filterMap_le _ _
theorem leafR_3 {n : Nd} (h : n.op = 3) : leafR n = some (prefixR n.lo) := by unfold leafR; rw [if_pos h]
theorem leafR_4 {n : Nd} (h : n.op = 4) : leafR n = some ⟨n.lo, n.hi, false⟩ := by unfold leafR; rw [if_neg (by omega), if_pos h]
theorem leafR_5 {n : Nd} (h : n.op = 5) : leafR n = some ⟨n.lo, [], true⟩ := by unfold leafR; rw [if_neg (by omega), if_neg (by omega), if_pos h]
theorem leafR_no {n : Nd} (h3 : n.op ≠ 3) (h4 : n.op ≠ 4) (h5 : n.op ≠ 5) : leafR n = none := by unfold leafR; rw [if_neg h3, if_neg h4, if_neg h5]
end Go.Proofs.YthgcbomidamcfaaDoor

/-
  The laws of layer 9: what they ask of the program's functions; the chapter's example.
-/
namespace Go.Proofs.YthgcbomidamcfaaDoor
open Go.RowKit

/-- How many nodes, and how long their texts. -/
def SmallN (n : Nat) (l : List Nd) : Prop := l.length ≤ n ∧ ∀ r ∈ l, r.lo.length ≤ 1000 ∧ r.hi.length ≤ 1000
/-- What is handed back: a row of nodes that reads. -/
def RetN (w : World) (n : Nat) (l : List Nd) (e : Ending) (w' : World) : Prop := ∃ A c, e = .returned (.slice A n c) ∧ kNd.Rd w' w'.heap.size A c l ∧ Below w.heap.size w w'
/-- A slice of nodes, as an element. -/
structure Sl where
  A : Option Addr
  n : Nat
  c : Nat
def NRightC (F : FuncId) : Prop := ∀ (A : Option Addr) (c n : Nat) (a : List Nd), n = a.length → SmallN 64 a → ∀ v, rightN a = v → ∀ w, kNd.Rd w w.heap.size A c a → Calls Tryd.prog F #[.slice A n c] w fun e w' => e = .returned (.bool v) ∧ Below w.heap.size w w'
def NMatchC (F : FuncId) : Prop := ∀ (A : Option Addr) (c n : Nat) (a : List Nd) (s : List UInt8) (U : ByteArray), str s = U → n = a.length → SmallN 64 a → s.length ≤ 1000 → ∀ v, matchN a s = v → ∀ w, kNd.Rd w w.heap.size A c a → Calls Tryd.prog F #[.slice A n c, .string U] w fun e w' => e = .returned (.bool v) ∧ Below w.heap.size w w'
def NNotC (F : FuncId) : Prop := ∀ (A : Option Addr) (c n : Nat) (a : List Nd), n = a.length → SmallN 500 a → ∀ N, (notN a).length = N → ∀ w, kNd.Rd w w.heap.size A c a → Calls Tryd.prog F #[.slice A n c] w (RetN w N (notN a))
def NLeaf0C (F : FuncId) (l : List Nd) : Prop := ∀ w, Calls Tryd.prog F #[] w (RetN w 1 l)
def NLeaf1C (F : FuncId) (f : List UInt8 → List Nd) : Prop := ∀ (s : List UInt8) (U : ByteArray), str s = U → s.length ≤ 1000 → ∀ w, Calls Tryd.prog F #[.string U] w (RetN w 1 (f s))
def NLeaf2C (F : FuncId) (f : List UInt8 → List UInt8 → List Nd) : Prop := ∀ (s t : List UInt8) (U V : ByteArray), str s = U → str t = V → s.length ≤ 1000 → t.length ≤ 1000 → ∀ w, Calls Tryd.prog F #[.string U, .string V] w (RetN w 1 (f s t))
def preN (s : List UInt8) : List Nd := [⟨3, 0, s, []⟩]
def btwN (s t : List UInt8) : List Nd := [⟨4, 0, s, t⟩]
def fromN (s : List UInt8) : List Nd := [⟨5, 0, s, []⟩]
theorem smallN_of {n : Nat} {l : List Nd} (h : l.length ≤ n) (h2 : l.all (fun r => decide (r.lo.length ≤ 1000) && decide (r.hi.length ≤ 1000)) = true) : SmallN n l := by
  refine ⟨h, fun r hr => ?_⟩
  have := List.all_eq_true.1 h2 r hr
  simpa using this
def awN : List Nd := [⟨3, 0, [97], []⟩, ⟨3, 0, [97, 98], []⟩, ⟨6, 1, [], []⟩, ⟨7, 2, [], []⟩]
theorem awN_right : rightN awN = true := by decide +kernel
theorem awN_ranges : rangesN awN = [⟨[97], [97, 98], false⟩, ⟨[97, 99], [98], false⟩] := by decide +kernel
theorem awN_m1 : matchN awN [97, 99] = true := by decide +kernel
theorem awN_m2 : matchN awN [97, 98, 99] = false := by decide +kernel
end Go.Proofs.YthgcbomidamcfaaDoor

/-
  Nodes that came in as a slice; filters that came in as a slice of slices.
-/
namespace Go.Proofs.YthgcbomidamcfaaDoor
open Go.ChangeShapes Go.WideShapes Go.ChangeAt Go.RowKit

theorem ncells_string : Tryd.prog.cellsOf 9 = 1 := by kernel_rfl
theorem ncells_int : Tryd.prog.cellsOf 3 = 1 := by kernel_rfl
/-- A struct of four fields, field by field. -/
theorem four_fields {H : Type} {enc : TypeId × Value → H} {W : World} {t : TypeId} {f0 f1 f2 f3 : Field} {fuel : Nat} {cs : List Value} {x : DataW H × List MemPlace} (ht : Tryd.prog.underlying t = some (.struct #[f0, f1, f2, f3])) (h : DataW.trod enc Tryd.prog W 0 (fun _ => true) true fuel t cs = some x) :
    ∃ y0 y1 y2 y3 n, DataW.trod enc Tryd.prog W 0 (fun _ => true) true n f0.type ((cs.drop f0.offset).take (Tryd.prog.cellsOf f0.type)) = some y0 ∧ DataW.trod enc Tryd.prog W 0 (fun _ => true) true n f1.type ((cs.drop f1.offset).take (Tryd.prog.cellsOf f1.type)) = some y1 ∧
      DataW.trod enc Tryd.prog W 0 (fun _ => true) true n f2.type ((cs.drop f2.offset).take (Tryd.prog.cellsOf f2.type)) = some y2 ∧ DataW.trod enc Tryd.prog W 0 (fun _ => true) true n f3.type ((cs.drop f3.offset).take (Tryd.prog.cellsOf f3.type)) = some y3 := by
  obtain ⟨xs, n, _, rfl, -, hlen, hf⟩ := DataW.trod_struct ht h
  match xs, hlen with
  | [y0, y1, y2, y3], _ => exact ⟨y0, y1, y2, y3, n, by simpa using hf 0 f0 rfl, by simpa using hf 1 f1 rfl, by simpa using hf 2 f2 rfl, by simpa using hf 3 f3 rfl⟩
theorem nd_of {H : Type} {enc : TypeId × Value → H} {W : World} (n : Nat) (cs : List Value) (y : DataW H × List MemPlace) (hl : cs.length = 4)
    (hy : DataW.trod enc Tryd.prog W 0 (fun _ => true) true n 35 cs = some y) : ∃ x : Nd, cs = ndCells x ∧ True := by
  obtain ⟨y0, y1, y2, y3, n', h0, h1, h2, h3⟩ := four_fields Tryd.underlying35 hy
  rw [ncells_int] at h0 h1
  rw [ncells_string] at h2 h3
  match cs, hl with
  | [a, b, c, d], _ =>
    obtain ⟨i, e0, -, w0⟩ := DataW.trod_int Tryd.underlying3 h0
    obtain ⟨j, e1, -, w1⟩ := DataW.trod_int Tryd.underlying3 h1
    obtain ⟨s, e2, -, w2⟩ := DataW.trod_string Tryd.underlying9 h2
    obtain ⟨t, e3, -, w3⟩ := DataW.trod_string Tryd.underlying9 h3
    simp at e0 e1 e2 e3
    subst e0 e1 e2 e3
    exact ⟨⟨i, j, s.data.toList, t.data.toList⟩, by simp only [ndCells, str_of], trivial⟩
set_option maxRecDepth 100000 in
theorem in_nds {H : Type} {enc : TypeId × Value → H} {W : World} {base : Nat} {v : Value} {d : DataW H} {p : List MemPlace}
    (hok : Value.okWide Tryd.prog W .any base 22 v) (h : DataW.Trod enc Tryd.prog W 0 (fun _ => true) true 22 v d p) :
    ∃ (A : Option Addr) (c : Nat) (l : List Nd), v = .slice A l.length c ∧ kNd.Rd W W.heap.size A c l := by
  obtain ⟨A, c, l, rfl, h1, -, h2, h3⟩ := in_slice ndCells (fun _ => True) Tryd.underlying22 (k := 4) (by kernel_rfl) (by omega) nd_of hok h
  exact ⟨A, c, l, rfl, h1, h2, h3⟩
end Go.Proofs.YthgcbomidamcfaaDoor

/-
  Layer 11 (ftext), the program: the names' table.
-/
namespace Go.Proofs.YthgcbomidamcfaaDoor
open Go.RowKit

/-- The names lie as the program's own text lays them. -/
def namesL : List (List UInt8) := [[], [97, 108, 108], [110, 111, 110, 101], [112, 114, 101, 102, 105, 120], [114, 97, 110, 103, 101], [102, 114, 111, 109], [110, 111, 116], [97, 110, 100], [111, 114]]
structure NmsAt (w : World) : Prop where
  n0 : w.cell? ⟨0, 0, none⟩ = some (.string ⟨#[]⟩)
  n1 : w.cell? ⟨0, 1, none⟩ = some (.string ⟨#[97, 108, 108]⟩)
  n2 : w.cell? ⟨0, 2, none⟩ = some (.string ⟨#[110, 111, 110, 101]⟩)
  n3 : w.cell? ⟨0, 3, none⟩ = some (.string ⟨#[112, 114, 101, 102, 105, 120]⟩)
  n4 : w.cell? ⟨0, 4, none⟩ = some (.string ⟨#[114, 97, 110, 103, 101]⟩)
  n5 : w.cell? ⟨0, 5, none⟩ = some (.string ⟨#[102, 114, 111, 109]⟩)
  n6 : w.cell? ⟨0, 6, none⟩ = some (.string ⟨#[110, 111, 116]⟩)
  n7 : w.cell? ⟨0, 7, none⟩ = some (.string ⟨#[97, 110, 100]⟩)
  n8 : w.cell? ⟨0, 8, none⟩ = some (.string ⟨#[111, 114]⟩)
theorem NmsAt.lt {w : World} (h : NmsAt w) : 0 < w.heap.size := by
  rcases Nat.lt_or_ge 0 w.heap.size with hlt | hge
  · exact hlt
  · have h := h.n0
    simp [World.cell?, Array.getElem?_eq_none hge] at h
theorem NmsAt.below {w w' : World} {B : Nat} (h : NmsAt w) (hb : Below B w w') (hB : 0 < B) : NmsAt w' := by
  have kc := fun j => (bcell hb).1 0 j hB
  exact ⟨(kc 0).trans h.n0, (kc 1).trans h.n1, (kc 2).trans h.n2, (kc 3).trans h.n3, (kc 4).trans h.n4, (kc 5).trans h.n5, (kc 6).trans h.n6, (kc 7).trans h.n7, (kc 8).trans h.n8⟩

end Go.Proofs.YthgcbomidamcfaaDoor

/-
  Layer 11 (ftext): what the statement's row lists of the names' table, as the cells that a walk reads.
-/
namespace Go.Proofs.YthgcbomidamcfaaDoor
open Go.RowKit

theorem cells_of_strtab {H : Type} {enc : TypeId × Value → H} {P : Program} {w : World} {base : Nat} {sp : Nat → Bool} {held : Bool} {fuel : Nat} {t e : TypeId} {n : Nat} {cs : List Value} {ss : List (List UInt8)} {p : List MemPlace}
    (ht : P.underlying t = some (.array n e)) (he : P.underlying e = some .string) (hce : P.cellsOf e = 1) (hct : P.cellsOf t = n)
    (h : DataW.trod enc P w base sp held fuel t cs = some (.agg (ss.map fun s => .lit (.string s)), p)) : cs = ss.map fun s => Value.string (str s) := by
  cases fuel with
  | zero => simp [DataW.trod] at h
  | succ fuel =>
    simp only [DataW.trod, ht, hce, hct, Nat.mul_one] at h
    split at h
    · rename_i hl
      obtain ⟨xs, hm, hx⟩ := Option.map_eq_some_iff.1 h
      have hxs : xs.map (·.1) = ss.map fun s => (DataW.lit (.string s) : DataW H) := by
        have := congrArg Prod.fst hx
        simpa using this
      have hxl : xs.length = n := by simpa using Lib.mapM_length hm
      have hzl : ss.length = n := by
        have := congrArg List.length hxs
        simp at this
        omega
      apply List.ext_getElem?
      intro i
      by_cases hi : i < n
      · obtain ⟨b, hb, hf⟩ := Lib.mapM_at hm i i (by simp [hi])
        obtain ⟨s, hc, hxx, _⟩ := DataW.trod_string he hf
        subst hxx
        have h1 : cs[i]? = some (.string s) := by
          have := congrArg (·[0]?) hc
          simpa [List.getElem?_take, List.getElem?_drop] using this
        have h2 : (xs.map (·.1))[i]? = some (DataW.lit (.string s.data.toList) : DataW H) := by simp [hb]
        rw [hxs] at h2
        simp only [List.getElem?_map, Option.map_eq_some_iff, DataW.lit.injEq, Lit.string.injEq] at h2
        obtain ⟨z', hz', hz2⟩ := h2
        rw [h1, List.getElem?_map, hz']
        subst hz2
        rfl
      · rw [List.getElem?_eq_none (by omega), List.getElem?_eq_none (by simp; omega)]
    · cases h
theorem nmsAt_laid {W : World} {rest : List (String × DataW Unit)} (h : laidMetH Tryd.prog (("winnower/ftext.names", .agg (namesL.map fun s => .lit (.string s))) :: rest) W) (hp : ((("winnower/ftext.names", (.agg (namesL.map fun s => .lit (.string s)) : DataW Unit)) :: rest).all fun x => x.2.handleName?.isNone) = true) : NmsAt W := by
  rw [MakeChecks.laidMetH_plain _ _ _ hp] at h
  obtain ⟨ps, ⟨g', t', cs, fuel, p, q, hg', ht', hvar, hd, _, _⟩, _⟩ := h
  have hg : Tryd.prog.globalNamed "winnower/ftext.names" = some 0 := by kernel_rfl
  have hty : (Tryd.prog.globals[0]?).map (·.type) = some 45 := by kernel_rfl
  obtain rfl := Option.some.inj (hg.symm.trans hg')
  obtain rfl := Option.some.inj (hty.symm.trans ht')
  have hc := cells_of_strtab Tryd.underlying45 Tryd.underlying9 (by kernel_rfl) (by kernel_rfl) hd
  obtain rfl : cs = (namesL.map fun s => Value.string (str s)).toArray := by rw [← hc]
  have K := fun i => World.var?_cell hg hvar i
  exact ⟨K 0, K 1, K 2, K 3, K 4, K 5, K 6, K 7, K 8⟩
end Go.Proofs.YthgcbomidamcfaaDoor

/-
  The laws of layer 9: FilterMatches.
-/
namespace Go.Proofs.YthgcbomidamcfaaDoor
open Go.RowKit

theorem nlong_is (most : Nat) (A : Option Addr) (c n : Nat) (x : Int) (hx : (most : Int) = x) (l : List Nd) (hn : n = l.length) (hm : most ≤ 1000) (v : Bool) (hv : longN most l = v) (w : World) (hr : kNd.Rd w w.heap.size A c l) :
    Calls Tryd.prog 6 #[.slice A n c, .int .i64 x] w fun e w' => e = .returned (.bool v) ∧ w = w' := by
  subst hx
  exact ref_nlong A c n most l hn hm v hv w hr
theorem longN_small {most : Nat} {l : List Nd} (h : longN most l = false) : SmallN most l := by
  unfold longN at h
  simp only [Bool.or_eq_false_iff, decide_eq_false_iff_not, List.any_eq_false, Bool.or_eq_true, decide_eq_true_eq, not_or] at h
  exact ⟨by omega, fun r hr => by have := h.2 r hr; omega⟩
theorem SmallN.mono {n m : Nat} {l : List Nd} (h : SmallN n l) (hm : n ≤ m) : SmallN m l := ⟨Nat.le_trans h.1 hm, h.2⟩
end Go.Proofs.YthgcbomidamcfaaDoor
