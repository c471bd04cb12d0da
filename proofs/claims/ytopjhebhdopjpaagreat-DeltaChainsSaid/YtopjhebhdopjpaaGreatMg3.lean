/-
  Several texts in one: CntSets, CntA, OpenCnt, CntB, CntC, CntD, KeyPure, VrPure, VstPure, VstA, OpenKns, SpanPure.
-/
import Derived.Laws.StructEq
import Derived.BigQuiet
import Derived.Lib.SmallJoins
import Derived.Deep.Strs
import Derived.Deep.RegionHeld3
import Derived.Deep.CutRange
import Derived.Lib.Bytealg
import Derived.Test.YtopjhebhdopjpaaGreatMg2
namespace Go.Proofs.YtopjhebhdopjpaaGreat

def putI : List Int → Int → List Int
  | [], n => [n]
  | x :: l, n => match decide (x < n) with
    | true => x :: putI l n
    | false => match decide (x = n) with
      | true => x :: l
      | false => n :: x :: l
theorem putI_less {x n : Int} {l : List Int} (h : x < n) : putI (x :: l) n = x :: putI l n := by rw [putI, decide_eq_true h]
theorem putI_same {x n : Int} {l : List Int} (h : x = n) : putI (x :: l) n = x :: l := by rw [putI, decide_eq_false (by omega), decide_eq_true h]
theorem putI_more {x n : Int} {l : List Int} (h : n < x) : putI (x :: l) n = n :: x :: l := by rw [putI, decide_eq_false (by omega), decide_eq_false (by omega)]
theorem putI_up : ∀ {l : List Int} {c n : Int}, upC c l = true → c < n → upC c (putI l n) = true
  | [], c, n, _, h => by unfold putI upC; rw [decide_eq_true h]; rfl
  | x :: l, c, n, hu, h => by
    obtain ⟨h1, h2⟩ := upC_head hu
    rcases Int.lt_trichotomy x n with h3 | h3 | h3
    · rw [putI_less h3]; unfold upC; rw [decide_eq_true h1, putI_up h2 h3]; rfl
    · rw [putI_same h3]; exact hu
    · rw [putI_more h3]
      unfold upC
      rw [decide_eq_true h, Bool.true_and]
      unfold upC
      rw [decide_eq_true h3, h2]; rfl
theorem putI_mem : ∀ {l : List Int} {n z : Int}, z ∈ putI l n ↔ z = n ∨ z ∈ l
  | [], n, z => by simp [putI]
  | x :: l, n, z => by
    rcases Int.lt_trichotomy x n with h3 | h3 | h3
    · rw [putI_less h3, List.mem_cons, putI_mem, List.mem_cons]
      constructor
      · rintro (h | h | h) <;> simp [h]
      · rintro (h | h | h) <;> simp [h]
    · rw [putI_same h3, List.mem_cons]
      constructor
      · intro h; exact .inr h
      · rintro (h | h)
        · exact .inl (h.trans h3.symm)
        · exact h
    · rw [putI_more h3]; simp
theorem putI_len : ∀ (l : List Int) (n : Int), (putI l n).length ≤ l.length + 1
  | [], n => by simp [putI]
  | x :: l, n => by
    rcases Int.lt_trichotomy x n with h3 | h3 | h3
    · rw [putI_less h3, List.length_cons, List.length_cons]; have := putI_len l n; omega
    · rw [putI_same h3]; simp
    · rw [putI_more h3]; simp
def addC (E : List Int) (r : Rn) : List Int := match oneC r with
  | true => putI (putI E r.fr) (r.to + 1)
  | false => E
theorem addC_one {E : List Int} {r : Rn} (h : oneC r = true) : addC E r = putI (putI E r.fr) (r.to + 1) := by unfold addC; rw [h]
theorem addC_no {E : List Int} {r : Rn} (h : oneC r = false) : addC E r = E := by unfold addC; rw [h]
theorem addC_ok {E : List Int} {r : Rn} (hu : upC 0 E = true) (hx : ∀ x ∈ E, x ≤ 1099511627777) : upC 0 (addC E r) = true ∧ (∀ x ∈ addC E r, x ≤ 1099511627777) ∧ (∀ x ∈ E, x ∈ addC E r) ∧ (oneC r = true → r.fr ∈ addC E r ∧ r.to + 1 ∈ addC E r) := by
  cases h : oneC r with
  | false => rw [addC_no h]; exact ⟨hu, hx, fun x hx => hx, fun h => by cases h⟩
  | true =>
    have h1 := oneC_iff.1 h
    rw [addC_one h]
    refine ⟨putI_up (putI_up hu (by omega)) (by omega), fun x hx' => ?_, fun x hx' => putI_mem.2 (.inr (putI_mem.2 (.inr hx'))), fun _ => ⟨putI_mem.2 (.inr (putI_mem.2 (.inl rfl))), putI_mem.2 (.inl rfl)⟩⟩
    rcases putI_mem.1 hx' with rfl | h2
    · omega
    · rcases putI_mem.1 h2 with rfl | h2
      · omega
      · exact hx x h2
theorem cedges_ok : ∀ (l : List Rn) (E : List Int), upC 0 E = true → (∀ x ∈ E, x ≤ 1099511627777) → upC 0 (l.foldl addC E) = true ∧ (∀ x ∈ l.foldl addC E, x ≤ 1099511627777) ∧ (∀ x ∈ E, x ∈ l.foldl addC E) ∧ (∀ r ∈ l, oneC r = true → r.fr ∈ l.foldl addC E ∧ r.to + 1 ∈ l.foldl addC E)
  | [], E, hu, hx => ⟨hu, hx, fun _ h => h, fun r hr => by cases hr⟩
  | t :: l, E, hu, hx => by
    obtain ⟨h1, h2, h3, h4⟩ := addC_ok (r := t) hu hx
    obtain ⟨i1, i2, i3, i4⟩ := cedges_ok l (addC E t) h1 h2
    refine ⟨i1, i2, fun x h => i3 x (h3 x h), fun r hr ho => ?_⟩
    rcases List.mem_cons.1 hr with rfl | hr
    · exact ⟨i3 _ (h4 ho).1, i3 _ (h4 ho).2⟩
    · exact i4 r hr ho
theorem edges_lenC : ∀ (l : List Rn) (E : List Int), (l.foldl addC E).length ≤ E.length + 2 * l.length
  | [], E => by simp
  | t :: l, E => by
    have h1 := edges_lenC l (addC E t)
    have h2 : (addC E t).length ≤ E.length + 2 := by
      cases h : oneC t with
      | false => rw [addC_no h]; omega
      | true =>
        rw [addC_one h]
        have h3 := putI_len (putI E t.fr) (t.to + 1)
        have h4 := putI_len E t.fr
        omega
    rw [List.foldl_cons, List.length_cons]
    omega
def edgesC (a b : List Rn) : List Int := b.foldl addC (a.foldl addC [])
theorem hasC_det {l : List Rn} {E : List Int} (h : ∀ r ∈ l, oneC r = true → r.fr ∈ E ∧ r.to + 1 ∈ E) : DetC (hasC l) E := fun s c hs => by
  unfold hasC
  rw [Bool.eq_iff_iff, List.any_eq_true, List.any_eq_true]
  have key : ∀ r ∈ l, inC r s = inC r c := fun r hr => by
    cases ho : oneC r with
    | false => unfold inC; rw [ho]; rfl
    | true =>
      obtain ⟨h1, h2⟩ := h r hr ho
      have h3 := hs _ h1
      have h4 := hs _ h2
      unfold inC
      rw [ho, show decide (r.fr ≤ s) = decide (r.fr ≤ c) from decide_eq_decide.2 (by omega), show decide (s ≤ r.to) = decide (c ≤ r.to) from decide_eq_decide.2 (by omega)]
  constructor
  · rintro ⟨r, hr, hi⟩; exact ⟨r, hr, by rw [← key r hr]; exact hi⟩
  · rintro ⟨r, hr, hi⟩; exact ⟨r, hr, by rw [key r hr]; exact hi⟩
def gC (op : Int) (x y : Bool) : Bool := ((op == 1) && (x || y)) || ((op == 2) && x && y) || ((op == 3) && x && !y)
theorem gC1 (x y : Bool) : gC 1 x y = (x || y) := by cases x <;> cases y <;> rfl
theorem gC3 (x y : Bool) : gC 3 x y = (x && !y) := by cases x <;> cases y <;> rfl
theorem gC_no (op : Int) : gC op false false = false := by unfold gC; simp
def isC (op : Int) (a b : List Rn) (n : Int) : Bool := gC op (hasC a n) (hasC b n)
def makeC (op : Int) (a b : List Rn) : List Rn := mkC (isC op a b) (edgesC a b) none
def ofC (l : List Rn) : List Rn := makeC 1 l []
theorem edgesC_ok (a b : List Rn) : upC 0 (edgesC a b) = true ∧ (∀ x ∈ edgesC a b, x ≤ 1099511627777) ∧ (∀ r ∈ a, oneC r = true → r.fr ∈ edgesC a b ∧ r.to + 1 ∈ edgesC a b) ∧ (∀ r ∈ b, oneC r = true → r.fr ∈ edgesC a b ∧ r.to + 1 ∈ edgesC a b) := by
  obtain ⟨h1, h2, _, h4⟩ := cedges_ok a [] rfl (fun x hx => by cases hx)
  obtain ⟨i1, i2, i3, i4⟩ := cedges_ok b (a.foldl addC []) h1 h2
  exact ⟨i1, i2, fun r hr ho => ⟨i3 _ (h4 r hr ho).1, i3 _ (h4 r hr ho).2⟩, i4⟩
theorem makeC_ok (op : Int) (a b : List Rn) : rightC (makeC op a b) = true ∧ ∀ n, hasC (makeC op a b) n = gC op (hasC a n) (hasC b n) := by
  obtain ⟨h1, h2, h3, h4⟩ := edgesC_ok a b
  refine mkC_all h1 h2 (fun s c h => ?_) fun n hn => ?_
  · unfold isC
    rw [hasC_det h3 s c h, hasC_det h4 s c h]
  · have e1 : hasC a n = false := by
      cases h : hasC a n with
      | false => rfl
      | true => have := hasC_range h; omega
    have e2 : hasC b n = false := by
      cases h : hasC b n with
      | false => rfl
      | true => have := hasC_range h; omega
    unfold isC
    rw [e1, e2, gC_no]
theorem makeC_right (op : Int) (a b : List Rn) : rightC (makeC op a b) = true := (makeC_ok op a b).1
theorem makeC_has (op : Int) (a b : List Rn) (n : Int) : hasC (makeC op a b) n = gC op (hasC a n) (hasC b n) := (makeC_ok op a b).2 n
theorem makeC_unique {op : Int} {a b u : List Rn} (h : rightC u = true) (hs : ∀ n, hasC u n = gC op (hasC a n) (hasC b n)) : u = makeC op a b :=
  rightC_unique h (makeC_right op a b) fun n => by rw [hs, makeC_has]
theorem ofC_right (l : List Rn) : rightC (ofC l) = true := makeC_right 1 l []
theorem ofC_has (l : List Rn) (n : Int) : hasC (ofC l) n = hasC l n := by unfold ofC; rw [makeC_has, gC1, hasC_nil, Bool.or_false]
theorem ofC_unique {l u : List Rn} (h : rightC u = true) (hs : ∀ n, hasC u n = hasC l n) : u = ofC l := rightC_unique h (ofC_right l) fun n => by rw [hs, ofC_has]
theorem mkC_lenC (f : Int → Bool) : ∀ (es : List Int) (o : Option Rn), (mkC f es o).length ≤ es.length + 1
  | [], o => by cases o <;> simp [mkC]
  | [x], o => by cases o <;> simp [mkC]
  | x :: y :: es, o => by
    cases h : f x with
    | false => rw [mkC_out h]; have := mkC_lenC f (y :: es) o; simp only [List.length_cons] at *; omega
    | true =>
      rw [mkC_in h, List.length_append]
      have h1 := mkC_lenC f (y :: es) (putC o x y).2
      have h2 : (putC o x y).1.length ≤ 1 := by
        unfold putC
        cases o with
        | none => simp
        | some r => simp only; split <;> simp
      simp only [List.length_cons] at *
      omega
theorem makeC_len (op : Int) (a b : List Rn) : (makeC op a b).length ≤ 2 * (a.length + b.length) + 1 := by
  have h1 := mkC_lenC (isC op a b) (edgesC a b) none
  have h2 := edges_lenC b (a.foldl addC [])
  have h3 := edges_lenC a []
  simp only [List.length_nil] at h3
  unfold makeC
  unfold edgesC at h1 ⊢
  omega

end Go.Proofs.YtopjhebhdopjpaaGreat

namespace Go.Proofs.YtopjhebhdopjpaaGreat
open Go.RowKit

def rnCells (r : Rn) : List Value := [.int .i64 r.fr, .int .i64 r.to]
noncomputable def kRn : Kind Tryz.prog Rn where
  ty := 62
  el := 105
  size := 2
  bytes := 16
  zero := .agg #[.int .i64 0, .int .i64 0]
  cells := rnCells
  len := fun _ => rfl
  one := fun r u hu => by simp [rnCells] at hu; rcases hu with rfl | rfl <;> rfl
  pos := by decide
  under := Tryz.underlying62
  info := by kernel_rfl
  zsize := rfl
noncomputable def kIt : Kind Tryz.prog Int where
  ty := 99
  el := 3
  size := 1
  bytes := 8
  zero := .int .i64 0
  cells := fun x => [.int .i64 x]
  len := fun _ => rfl
  one := fun r u hu => by simp at hu; subst hu; rfl
  pos := by decide
  under := Tryz.underlying99
  info := by kernel_rfl
  zsize := rfl
theorem rns_at {w : World} {B : Nat} {A : Option Addr} {c : Nat} {l : List Rn} (h : kRn.Rd w B A c l) (hp : 0 < l.length) :
    ∃ b o, A = some ⟨b, o, none⟩ ∧ b < B ∧ ∀ k v, l[k]? = some v → w.cell? ⟨b, o + k * 2, none⟩ = some (.int .i64 v.fr) ∧ w.cell? ⟨b, o + k * 2 + 1, none⟩ = some (.int .i64 v.to) := by
  obtain ⟨b, o, h1, h2, h3⟩ := h.at_ hp
  exact ⟨b, o, h1, h2, fun k n hn => ⟨h3 k n hn 0 _ rfl, h3 k n hn 1 _ rfl⟩⟩
theorem its_at {w : World} {B : Nat} {A : Option Addr} {c : Nat} {l : List Int} (h : kIt.Rd w B A c l) (hp : 0 < l.length) :
    ∃ b o, A = some ⟨b, o, none⟩ ∧ b < B ∧ ∀ k x, l[k]? = some x → w.cell? ⟨b, o + k, none⟩ = some (.int .i64 x) := by
  obtain ⟨b, o, h1, h2, h3⟩ := h.at_ hp
  exact ⟨b, o, h1, h2, fun k x hx => by have := h3 k x hx 0 _ rfl; rwa [show kIt.size = 1 from rfl, Nat.mul_one, Nat.add_zero] at this⟩
theorem int_sizeOf (w : World) : (sizeOf 3).run Tryz.prog w = .ok 1 w := by kernel_rfl
theorem cnt_get {α : Type} {l : List α} {k : Nat} (h : k < l.length) : ∃ x, l[k]? = some x ∧ l.drop k = x :: l.drop (k + 1) ∧ x ∈ l := ⟨l[k], List.getElem?_eq_getElem h, List.drop_eq_getElem_cons h, List.getElem_mem h⟩
theorem rd_maxC {P : Program} {α : Type} {k : Kind P α} {w : World} {B : Nat} {A : Option Addr} {c n : Nat} {l : List α} (h : k.Rd w B A c l) (hn : n = l.length) : n ≤ 9223372036854775807 := by
  have h1 := h.room; have h2 := h.cap; unfold maxLen at h2; omega
theorem eq_rn (i j k m : Int) (q : Bool) (hq : (i == k && j == m) = q) (w : World) :
    (Op.equalIn 10000 105 (.agg #[.int .i64 i, .int .i64 j]) (.agg #[.int .i64 k, .int .i64 m])).run Tryz.prog w = .ok q w := by
  subst hq
  have u2 := Tryz.underlying3
  have a2 := Tryz.isAgg3
  have z2 := Tryz.sizeOf3
  have hS : Tryz.prog.underlying 105 = some (.struct (Tryz.prog.fieldsOf 105)) := by kernel_rfl
  have hp : Tryz.prog.stoodInHeld 105 = false := by kernel_rfl
  rw [show (10000 : Nat) = 9999 + 1 from rfl, run_equalIn_agg w 9999 105 _ _ hS hp]
  simp only [Program.fieldsOf, Tryz.underlying105]
  go_simp
  by_cases h1 : i = k <;> by_cases h2 : j = m <;> simp [h1, h2]
theorem ref_one (r : Rn) (x y : Int) (hx : r.fr = x) (hy : r.to = y) (z : Bool) (hz : oneC r = z) (w : World) :
    Calls Tryz.prog 74 #[.agg #[.int .i64 x, .int .i64 y]] w fun e w' => e = .returned (.bool z) ∧ Below w.heap.size w w' := by
  unfold oneC at hz
  rw [hx, hy] at hz
  have HB := Lib.hid (below_new w (.cells #[.int .i64 x, .int .i64 y] 105))
  obtain ⟨b1, h1⟩ : ∃ b, decide (1 ≤ x) = b := ⟨_, rfl⟩
  obtain ⟨b2, h2⟩ : ∃ b, decide (x ≤ y) = b := ⟨_, rfl⟩
  obtain ⟨b3, h3⟩ : ∃ b, decide (y ≤ 1099511627776) = b := ⟨_, rfl⟩
  rw [h1, h2, h3] at hz
  subst hz
  clear hx hy
  cases b1
  case' true =>
    cases b2
    case' true =>
      cases b3
  all_goals
    go_enter Tryz.func74, Tryz.ntmps74
    go_wp2_with fail
    go_ret
    exact ⟨rfl, HB.out⟩
set_option maxHeartbeats 2000000 in
theorem ref_chas (A : Option Addr) (c n : Nat) (l : List Rn) (x : Int) (hn : n = l.length) (v : Bool) (hv : hasC l x = v) (w : World) (hr : kRn.Rd w w.heap.size A c l) :
    Calls Tryz.prog 125 #[.slice A n c, .int .i64 x] w fun e w' => e = .returned (.bool v) ∧ Below w.heap.size w w' := by
  have HN := Lib.hid hn
  have HR := Lib.hid hr
  have HV := Lib.hid hv
  have hmx := rd_maxC hr hn
  have hcx : n ≤ c := by rw [hn]; exact hr.room
  clear hn hr hv
  go_enter Tryz.func125, Tryz.ntmps125
  go_wp2_with fail
  go_loopw [5] (fun i wr => ∃ k : Nat, k ≤ n ∧ Hid (hasC l x = hasC (l.drop k) x) ∧ i = .int .i64 k ∧ Below w.heap.size w wr) (fun i _ => n - (intOf i).toNat)
  case atStart => exact ⟨0, by omega, rfl, rfl, Below.refl _ _⟩
  case round =>
    obtain ⟨k, hk, HL, rfl, hb⟩ := hrel
    by_cases hlt : k < n
    · obtain ⟨r, hg, hd, -⟩ := cnt_get (l := l) (k := k) (by have := HN.out; omega)
      obtain ⟨b, o, rfl, hb1, hcell⟩ := rns_at (HR.out.below hb) (by have := HN.out; omega)
      obtain ⟨c0, c1⟩ := hcell k r hg
      have hb2 := Nat.lt_of_lt_of_le hb1 hb.size
      obtain ⟨z, hz⟩ : ∃ z, oneC r = z := ⟨_, rfl⟩
      have C := fun w => Lib.hid (ref_one r _ _ rfl rfl z hz w)
      have HL2 := Lib.hid (HL.out.trans (show hasC (l.drop k) x = ((z && (decide (r.fr ≤ x) && decide (x ≤ r.to))) || hasC (l.drop (k + 1)) x) by rw [hd, hasC_cons, inC, hz]))
      obtain ⟨X, hX⟩ : ∃ X, r.fr = X := ⟨_, rfl⟩
      obtain ⟨Y, hY⟩ : ∃ Y, r.to = Y := ⟨_, rfl⟩
      rw [hX, hY] at C HL2
      rw [hX] at c0
      rw [hY] at c1
      obtain ⟨b1, h1⟩ : ∃ b, decide (X ≤ x) = b := ⟨_, rfl⟩
      obtain ⟨b2, h2⟩ : ∃ b, decide (x ≤ Y) = b := ⟨_, rfl⟩
      rw [h1, h2] at HL2
      clear hcell hg hd hX hY hz HL
      cases z
      · go_wp2_with ((with_reducible refine (C _).out.mono ?_); rintro e w2 ⟨rfl, hq⟩; have HB2 := Lib.hid (hb.trans (hq.mono hb.size)); obtain ⟨hc, hf⟩ := bcell hq; clear hq)
        go_roundw
        case rel => exact ⟨k + 1, by omega, HL2, by go_num, HB2.out⟩
        case measure => simp [intOf]; omega
      · cases b1
        · go_wp2_with ((with_reducible refine (C _).out.mono ?_); rintro e w2 ⟨rfl, hq⟩; have HB2 := Lib.hid (hb.trans (hq.mono hb.size)); obtain ⟨hc, hf⟩ := bcell hq; clear hq)
          go_roundw
          case rel => exact ⟨k + 1, by omega, HL2, by go_num, HB2.out⟩
          case measure => simp [intOf]; omega
        · cases b2
          · go_wp2_with ((with_reducible refine (C _).out.mono ?_); rintro e w2 ⟨rfl, hq⟩; have HB2 := Lib.hid (hb.trans (hq.mono hb.size)); obtain ⟨hc, hf⟩ := bcell hq; clear hq)
            go_roundw
            case rel => exact ⟨k + 1, by omega, HL2, by go_num, HB2.out⟩
            case measure => simp [intOf]; omega
          · go_wp2_with ((with_reducible refine (C _).out.mono ?_); rintro e w2 ⟨rfl, hq⟩; have HB2 := Lib.hid (hb.trans (hq.mono hb.size)); obtain ⟨hc, hf⟩ := bcell hq; clear hq)
            go_ret
            exact ⟨ret_bool (HL2.out.symm.trans HV.out), HB2.out⟩
    · have HL2 := Lib.hid (HL.out.trans (show hasC (l.drop k) x = false by rw [List.drop_eq_nil_of_le (by have := HN.out; omega)]; rfl))
      go_wp2_with fail
      go_ret
      exact ⟨ret_bool (HL2.out.symm.trans HV.out), hb⟩
def sameC : List Rn → List Rn → Bool
  | [], [] => true
  | r :: a, t :: b => (r.fr == t.fr && r.to == t.to) && sameC a b
  | _, _ => false
theorem its_take (l : List Int) (k : Nat) : kIt.row (l.take k) = (kIt.row l).take k := by
  have := kIt.row_take l k
  rwa [show k * kIt.size = k by show k * 1 = k; omega] at this
theorem its_drop (l : List Int) (k : Nat) : kIt.row (l.drop k) = (kIt.row l).drop k := by
  have := kIt.row_drop l k
  rwa [show k * kIt.size = k by show k * 1 = k; omega] at this
theorem its_len (l : List Int) : (kIt.row l).length = l.length := by
  have := kIt.row_len l
  rwa [show l.length * kIt.size = l.length by show l.length * 1 = l.length; omega] at this
theorem cle_alloc {n : Nat} {w : World} (h : n ≤ w.heap.size) (o : Obj) : n ≤ (w.alloc o).heap.size := by simp; omega
theorem cret_slice {A : Option Addr} {n m c : Nat} (h : n = m) : Ending.returned (.slice A n c) = .returned (.slice A m c) := by rw [h]
def RetI (w : World) (N : Nat) (l : List Int) (e : Ending) (w' : World) : Prop := ∃ A c, e = .returned (.slice A N c) ∧ kIt.Rd w' w'.heap.size A c l ∧ Below w.heap.size w w'
set_option maxHeartbeats 2000000 in
theorem ref_cput (A : Option Addr) (c n : Nat) (l : List Int) (s : Int) (hn : n = l.length) (hnl : n ≤ 900000) (m : List Int) (hm : putI l s = m) (N : Nat) (hN : m.length = N) (w : World) (hr : kIt.Rd w w.heap.size A c l) :
    Calls Tryz.prog 150 #[.slice A n c, .int .i64 s] w (RetI w N m) := by
  have HN := Lib.hid hn
  have HR := Lib.hid hr
  have HM := Lib.hid hm
  have HNN := Lib.hid hN
  have hcx : n ≤ c := by rw [hn]; exact hr.room
  clear hn hr hm hN
  go_enter Tryz.func150, Tryz.ntmps150
  go_wp2_with fail
  go_loop [5] (fun i => ∃ k : Nat, k ≤ n ∧ Hid (putI l s = l.take k ++ putI (l.drop k) s) ∧ i = .int .i64 k) (fun i => n - (intOf i).toNat)
  case atStart => exact ⟨0, by omega, rfl, rfl⟩
  case round =>
    obtain ⟨k, hk, HL, rfl⟩ := hrel
    have HTK := Lib.hid (show k = (l.take k).length by rw [List.length_take]; have := HN.out; omega)
    have HL1 := Lib.hid (show ([] : List Int).length + (l.take k).length ≤ 1000000 by rw [List.length_take, List.length_nil]; omega)
    have HL2 := Lib.hid (show (l.take k).length + [s].length ≤ 1000000 by rw [List.length_take, List.length_singleton]; omega)
    have HDK := Lib.hid (show n - k = (l.drop k).length by rw [List.length_drop, ← HN.out])
    have HL3 := Lib.hid (show (l.take k ++ [s]).length + (l.drop k).length ≤ 1000000 by rw [List.length_append, List.length_take, List.length_drop, List.length_singleton]; have := HN.out; omega)
    have HRT : Hid (RowAt w w.heap.size A (kIt.row (l.take k))) := by rw [its_take]; exact HR.out.row.take k
    have HRD : Hid (RowAt w w.heap.size (cutA A k c) (kIt.row (l.drop k))) := by rw [its_drop]; exact HR.out.row.cut (by rw [its_len]; have := HN.out; omega) (by rw [its_len]; exact HR.out.room)
    have K1 := fun w : World => run_take (T := 99) (E := 3) Tryz.underlying99 int_sizeOf w A n c k (by omega)
    have K2 := fun w : World => run_cut (T := 99) (E := 3) Tryz.underlying99 int_sizeOf w A n c k (by omega)
    obtain ⟨A3, hA3⟩ : ∃ A3, cutA A k c = A3 := ⟨_, rfl⟩
    obtain ⟨c3, hc3⟩ : ∃ c3, c - k = c3 := ⟨_, rfl⟩
    obtain ⟨n3, hn3⟩ : ∃ n3, n - k = n3 := ⟨_, rfl⟩
    rw [hA3, hc3, hn3] at K2
    rw [hA3] at HRD
    rw [hn3] at HDK
    clear hA3 hc3 hn3
    by_cases hlt : k < n
    · obtain ⟨x, hg, hd, -⟩ := cnt_get (l := l) (k := k) (by have := HN.out; omega)
      obtain ⟨b, o, rfl, hb1, hcell⟩ := its_at HR.out (by have := HN.out; omega)
      have c0 := hcell k x hg
      have hkd : decide ((k : Int) < (n : Int)) = true := decide_eq_true (by omega)
      rcases Int.lt_trichotomy x s with h3 | h3 | h3
      · have HX := Lib.hid (HL.out.trans (show l.take k ++ putI (l.drop k) s = l.take (k + 1) ++ putI (l.drop (k + 1)) s by
          rw [hd, putI_less h3, List.take_add_one, hg]; simp))
        have hxd : decide (x < s) = true := decide_eq_true h3
        clear hcell hg hd HL HTK HL1 HL2 HL3 HDK HRT HRD K1 K2
        go_wp2_with fail
        go_round
        case rel => exact ⟨k + 1, by omega, HX, by go_num⟩
        case measure => simp [intOf]; omega
      · have HX := Lib.hid (show m = l by rw [← HM.out, HL.out, hd, putI_same h3, ← hd, List.take_append_drop])
        have hxd : decide (x < s) = false := decide_eq_false (by omega)
        have hxe : (x == s) = true := by rw [h3]; simp
        clear hcell hg hd HL HTK HL1 HL2 HL3 HDK HRT HRD K1 K2
        go_wp2_with fail
        go_ret
        exact ⟨_, c, cret_slice (by rw [← HNN.out, HX.out, HN.out]), by rw [HX.out]; exact HR.out, Below.refl _ _⟩
      · have HX := Lib.hid (show m = (l.take k ++ [s]) ++ l.drop k by rw [← HM.out, HL.out, hd, putI_more h3, List.append_assoc]; rfl)
        have hxd : decide (x < s) = false := decide_eq_false (by omega)
        have hxe : (x == s) = false := beq_eq_false_iff_ne.2 (by omega)
        clear hcell hg hd HL
        go_wp2_with (first
          | (at_builtin; refine wpList_app_k kIt rfl (.tmp 34) (.tmp 37) rfl w.heap.size (.slice none 0 0) [] rfl (Kind.Own.nil _ _) w.heap.size (some ⟨b, o, none⟩) c k (l.take k) HTK.out rfl HRT.out HL1.out (by decide) (Nat.le_refl _) ?_; intro v3 w3 hown3 hg3 hb3 _; replace hown3 := Lib.hid hown3; have hz3 := Lib.hid hb3.size)
          | (at_builtin; refine wpList_app_k kIt rfl (.tmp 39) (.tmp 41) rfl w.heap.size v3 (l.take k) rfl (Kind.Own.alloc hown3.out _) _ (some ⟨w3.heap.size, 0, none⟩) 1 1 [s] rfl rfl (Kind.rd_new (k := kIt) rfl rfl (by simp)).row HL2.out (by decide) (cle_alloc hz3.out _) ?_; intro v4 w4 hown4 hg4 hb4 _; replace hb4 := (hb3.alloc hb3.size _).trans hb4; have hz4 := Lib.hid hb4.size; replace hown4 := Lib.hid hown4; clear hb3)
          | (at_builtin; refine wpList_app_k kIt rfl (.tmp 43) (.tmp 46) rfl w.heap.size v4 (l.take k ++ [s]) rfl hown4.out _ A3 c3 n3 (l.drop k) HDK.out rfl (RowAt.below HRD.out hb4) HL3.out (by decide) hz4.out ?_; intro v5 w5 hown5 hg5 hb5 _; replace hb5 := hb4.trans hb5; have HO5 := Lib.hid hown5; clear hown5))
        go_ret
        obtain ⟨A5, c5, rfl, hrd⟩ := HO5.out.form
        exact ⟨A5, c5, cret_slice (by rw [← HX.out]; exact HNN.out), by rw [HX.out]; exact hrd, hb5⟩
    · have HX := Lib.hid (show m = (l.take k ++ [s]) ++ l.drop k by
        rw [← HM.out, HL.out, List.drop_eq_nil_of_le (by have := HN.out; omega), List.append_nil]; rfl)
      have hkd : decide ((k : Int) < (n : Int)) = false := decide_eq_false (by omega)
      clear HL
      go_wp2_with (first
        | (at_builtin; refine wpList_app_k kIt rfl (.tmp 34) (.tmp 37) rfl w.heap.size (.slice none 0 0) [] rfl (Kind.Own.nil _ _) w.heap.size A c k (l.take k) HTK.out rfl HRT.out HL1.out (by decide) (Nat.le_refl _) ?_; intro v3 w3 hown3 hg3 hb3 _; replace hown3 := Lib.hid hown3; have hz3 := Lib.hid hb3.size)
        | (at_builtin; refine wpList_app_k kIt rfl (.tmp 39) (.tmp 41) rfl w.heap.size v3 (l.take k) rfl (Kind.Own.alloc hown3.out _) _ (some ⟨w3.heap.size, 0, none⟩) 1 1 [s] rfl rfl (Kind.rd_new (k := kIt) rfl rfl (by simp)).row HL2.out (by decide) (cle_alloc hz3.out _) ?_; intro v4 w4 hown4 hg4 hb4 _; replace hb4 := (hb3.alloc hb3.size _).trans hb4; have hz4 := Lib.hid hb4.size; replace hown4 := Lib.hid hown4; clear hb3)
        | (at_builtin; refine wpList_app_k kIt rfl (.tmp 43) (.tmp 46) rfl w.heap.size v4 (l.take k ++ [s]) rfl hown4.out _ A3 c3 n3 (l.drop k) HDK.out rfl (RowAt.below HRD.out hb4) HL3.out (by decide) hz4.out ?_; intro v5 w5 hown5 hg5 hb5 _; replace hb5 := hb4.trans hb5; have HO5 := Lib.hid hown5; clear hown5))
      go_ret
      obtain ⟨A5, c5, rfl, hrd⟩ := HO5.out.form
      exact ⟨A5, c5, cret_slice (by rw [← HX.out]; exact HNN.out), by rw [HX.out]; exact hrd, hb5⟩
end Go.Proofs.YtopjhebhdopjpaaGreat

namespace Go.Proofs.YtopjhebhdopjpaaGreat
open Go.ChangeShapes Go.WideShapes Go.ChangeAt Go.RowKit Go.Joins

theorem rcells_int : Tryz.prog.cellsOf 3 = 1 := by kernel_rfl
set_option maxRecDepth 100000 in
theorem rn_of {H : Type} {enc : TypeId × Value → H} {W : World} (n : Nat) (cs : List Value) (y : DataW H × List MemPlace) (hl : cs.length = 2)
    (hy : DataW.trod enc Tryz.prog W 0 (fun _ => true) true n 105 cs = some y) : ∃ x : Rn, cs = rnCells x ∧ True := by
  obtain ⟨xs, n', _, rfl, -, hlen, hf⟩ := DataW.trod_struct Tryz.underlying105 hy
  match xs, hlen with
  | [y0, y1], _ =>
    have h0 := hf 0 _ rfl
    have h1 := hf 1 _ rfl
    match cs, hl with
    | [a, b], _ =>
      have h0 : DataW.trod enc Tryz.prog W 0 (fun _ => true) true n' 3 (([a, b].drop 0).take (Tryz.prog.cellsOf 3)) = some y0 := by simpa using h0
      have h1 : DataW.trod enc Tryz.prog W 0 (fun _ => true) true n' 3 (([a, b].drop 1).take (Tryz.prog.cellsOf 3)) = some y1 := by simpa using h1
      rw [rcells_int] at h0 h1
      obtain ⟨i, e0, -, w0⟩ := DataW.trod_int Tryz.underlying3 h0
      obtain ⟨j, e1, -, w1⟩ := DataW.trod_int Tryz.underlying3 h1
      simp at e0 e1
      subst e0 e1
      exact ⟨⟨i, j⟩, rfl, trivial⟩
end Go.Proofs.YtopjhebhdopjpaaGreat

namespace Go.Proofs.YtopjhebhdopjpaaGreat
open Go.RowKit

def contC : Rn → List Rn → Bool
  | _, [] => true
  | p, r :: l => oneC r && (decide (p.to + 2 ≤ r.fr) && contC r l)
theorem contC_cons (p r : Rn) (l : List Rn) : contC p (r :: l) = (oneC r && (decide (p.to + 2 ≤ r.fr) && contC r l)) := rfl
theorem rightC_cont : ∀ (r : Rn) (l : List Rn), rightC (r :: l) = (oneC r && contC r l)
  | r, [] => by show oneC r = _; rw [contC, Bool.and_true]
  | r, t :: l => by
    have h := rightC_cont t l
    rw [show rightC (r :: t :: l) = (oneC r && decide (r.to + 2 ≤ t.fr) && rightC (t :: l)) from rfl, h, contC_cons]
    cases oneC r <;> cases oneC t <;> cases decide (r.to + 2 ≤ t.fr) <;> rfl
set_option maxHeartbeats 4000000 in
theorem ref_cright (A : Option Addr) (c n : Nat) (l : List Rn) (hn : n = l.length) (v : Bool) (hv : rightC l = v) (w : World) (hr : kRn.Rd w w.heap.size A c l) :
    Calls Tryz.prog 42 #[.slice A n c] w fun e w' => e = .returned (.bool v) ∧ Below w.heap.size w w' := by
  have HN := Lib.hid hn
  have HR := Lib.hid hr
  have HV := Lib.hid hv
  have hmx := rd_maxC hr hn
  have hcx : n ≤ c := by rw [hn]; exact hr.room
  clear hn hr hv
  go_enter Tryz.func42, Tryz.ntmps42
  go_wp2_with fail
  go_loopw [3] (fun i wr => ∃ k : Nat, k ≤ n ∧ i = .int .i64 k ∧ Hid (k = 0 ∨ ∃ j p, k = j + 1 ∧ l[j]? = some p ∧ oneC p = true ∧ rightC l = contC p (l.drop k)) ∧ Below w.heap.size w wr) (fun i _ => n - (intOf i).toNat)
  case atStart => exact ⟨0, by omega, rfl, .inl rfl, Below.refl _ _⟩
  case round =>
    obtain ⟨k, hk, rfl, HL, hb⟩ := hrel
    by_cases hlt : k < n
    · obtain ⟨r, hg, hd, -⟩ := cnt_get (l := l) (k := k) (by have := HN.out; omega)
      obtain ⟨b, o, rfl, hb1, hcell⟩ := rns_at (HR.out.below hb) (by have := HN.out; omega)
      obtain ⟨c0, c1⟩ := hcell k r hg
      obtain ⟨z, hz⟩ : ∃ z, oneC r = z := ⟨_, rfl⟩
      have C := fun w => ref_one r _ _ rfl rfl z hz w
      have C := Lib.hid (fun L => cellL_of (a := wr) (l := L) C)
      obtain ⟨X, hX⟩ : ∃ X, r.fr = X := ⟨_, rfl⟩
      obtain ⟨Y, hY⟩ : ∃ Y, r.to = Y := ⟨_, rfl⟩
      rw [hX, hY] at C
      rw [hX] at c0
      rw [hY] at c1
      have hk0 : (0 : Int) ≤ (k : Int) := by omega
      have hkn : (k : Int) < (n : Int) := by omega
      rcases HL.out with h0 | ⟨j, p, hkj, hgj, hop, hcj⟩
      · have e0 : l = r :: l.drop (k + 1) := by rw [← hd, h0]; rfl
        have hg0 : decide ((0 : Int) < (k : Int)) = false := decide_eq_false (by omega)
        have hg1 : decide (0 < k) = false := decide_eq_false (by omega)
        have HC := Lib.hid (show CellL wr [(⟨b, o + k * 2, none⟩, .int .i64 X), (⟨b, o + k * 2 + 1, none⟩, .int .i64 Y)] wr from ⟨c0, c1, Below.refl _ _⟩)
        have HF := Lib.hid (fun h : z = false => show false = v by rw [← HV.out, e0, rightC_cont, hz, h]; rfl)
        have HT := Lib.hid (fun h : z = true => show k + 1 = 0 ∨ ∃ j p, k + 1 = j + 1 ∧ l[j]? = some p ∧ oneC p = true ∧ rightC l = contC p (l.drop (k + 1)) from .inr ⟨k, r, rfl, hg, hz.trans h, by
          conv => lhs; rw [e0]
          rw [rightC_cont, hz, h, Bool.true_and]⟩)
        clear hcell hg hd hX hY hz HL c0 c1 h0 e0
        cases z
        · replace HF := Lib.hid (HF.out rfl)
          clear HT
          go_wp2_with fail
          refine q_region (CellL wr [(⟨b, o + k * 2, none⟩, .int .i64 X), (⟨b, o + k * 2 + 1, none⟩, .int .i64 Y)]) (by kernel_rfl) (by kernel_rfl) (cellL_drew HC.out) ?_
          repeat (first
            | go_big_quiet_skip
            | (go_big_quiet_want; (first
              | (refine q_take (v := ?_) ?_ ?_; rotate_left; (focus (intro w hSw; (try simp only [CellL] at hSw); go_split_ands; go_simp; (try (rw [if_neg (by omega)])); (try with_reducible rfl); done)))
              | (refine q_call (C.out _) ?_ ?_; (focus (intro w hSw; (try simp only [CellL] at hSw); go_split_ands; go_simp; (try (rw [if_neg (by omega)])); done)))); (try simp only [Act.put, List.setIfInBounds_toArray, List.set_cons_zero, List.set_cons_succ]); go_big_quiet_on))
          refine wpQuiet_nil ?_
          intro w2 hw2
          have HB2 := Lib.hid (hb.trans ((cellL_size hw2).mono hb.size))
          clear hw2
          go_wp2_with fail
          go_ret
          exact ⟨ret_bool HF.out, HB2.out⟩
        · replace HT := Lib.hid (HT.out rfl)
          clear HF
          go_wp2_with fail
          refine q_region (CellL wr [(⟨b, o + k * 2, none⟩, .int .i64 X), (⟨b, o + k * 2 + 1, none⟩, .int .i64 Y)]) (by kernel_rfl) (by kernel_rfl) (cellL_drew HC.out) ?_
          repeat (first
            | go_big_quiet_skip
            | (go_big_quiet_want; (first
              | (refine q_take (v := ?_) ?_ ?_; rotate_left; (focus (intro w hSw; (try simp only [CellL] at hSw); go_split_ands; go_simp; (try (rw [if_neg (by omega)])); (try with_reducible rfl); done)))
              | (refine q_call (C.out _) ?_ ?_; (focus (intro w hSw; (try simp only [CellL] at hSw); go_split_ands; go_simp; (try (rw [if_neg (by omega)])); done)))); (try simp only [Act.put, List.setIfInBounds_toArray, List.set_cons_zero, List.set_cons_succ]); go_big_quiet_on))
          refine wpQuiet_nil ?_
          intro w2 hw2
          have HB2 := Lib.hid (hb.trans ((cellL_size hw2).mono hb.size))
          clear hw2
          go_wp2_with fail
          go_roundw
          case rel => exact ⟨k + 1, by omega, by go_num, HT, HB2.out⟩
          case measure => simp [intOf]; omega
      · obtain ⟨d0, d1⟩ := hcell j p hgj
        obtain ⟨P, hP⟩ : ∃ P, p.to = P := ⟨_, rfl⟩
        rw [hP] at d1
        have hp9 := (oneC_iff.1 hop).2.2
        have hp1 := (oneC_iff.1 hop)
        rw [hP] at hp9
        have hP1 : 1 ≤ P := by rw [← hP]; omega
        have hg0 : decide ((0 : Int) < (k : Int)) = true := decide_eq_true (by omega)
        have hg1 : decide (0 < k) = true := decide_eq_true (by omega)
        have hj0 : (0 : Int) ≤ (j : Int) := by omega
        have hjn : (j : Int) < (n : Int) := by omega
        have hjd : decide ((j : Int) < 0) = false := decide_eq_false (by omega)
        have hjw : IntKind.i64.wrap ((k : Int) - 1) = (j : Int) := by rw [show (k : Int) - 1 = (j : Int) by omega]; exact IntWalk.i64_in _ (by omega)
        have hpw : IntKind.i64.wrap (P + 2) = P + 2 := IntWalk.i64_in _ (by omega)
        obtain ⟨g, hg2⟩ : ∃ g, decide (X < P + 2) = g := ⟨_, rfl⟩
        have hgg : decide (p.to + 2 ≤ r.fr) = !g := by
          rw [hP, hX, ← hg2]
          by_cases h : X < P + 2
          · rw [decide_eq_true h, decide_eq_false (by omega)]; rfl
          · rw [decide_eq_false h, decide_eq_true (by omega)]; rfl
        have HC := Lib.hid (show CellL wr [(⟨b, o + k * 2, none⟩, .int .i64 X), (⟨b, o + k * 2 + 1, none⟩, .int .i64 Y), (⟨b, o + j * 2 + 1, none⟩, .int .i64 P)] wr from ⟨c0, c1, d1, Below.refl _ _⟩)
        have HE := Lib.hid (show rightC l = (z && (!g && contC r (l.drop (k + 1)))) by rw [hcj, hd, contC_cons, hz, hgg])
        have HG := Lib.hid hg
        have HZ := Lib.hid hz
        clear hcell hg hd hX hY hz HL c0 c1 d0 d1 hkj hgj hop hcj hgg hP hp1
        cases z
        · have HF := Lib.hid (show false = v by rw [← HV.out, HE.out]; rfl)
          go_wp2_with fail
          refine q_region (CellL wr [(⟨b, o + k * 2, none⟩, .int .i64 X), (⟨b, o + k * 2 + 1, none⟩, .int .i64 Y), (⟨b, o + j * 2 + 1, none⟩, .int .i64 P)]) (by kernel_rfl) (by kernel_rfl) (cellL_drew HC.out) ?_
          repeat (first
            | go_big_quiet_skip
            | (go_big_quiet_want; (first
              | (refine q_take (v := ?_) ?_ ?_; rotate_left; (focus (intro w hSw; (try simp only [CellL] at hSw); go_split_ands; go_simp; (try (rw [if_neg (by omega)])); (try with_reducible rfl); done)))
              | (refine q_call (C.out _) ?_ ?_; (focus (intro w hSw; (try simp only [CellL] at hSw); go_split_ands; go_simp; (try (rw [if_neg (by omega)])); done)))); (try simp only [Act.put, List.setIfInBounds_toArray, List.set_cons_zero, List.set_cons_succ]); go_big_quiet_on))
          refine wpQuiet_nil ?_
          intro w2 hw2
          have HB2 := Lib.hid (hb.trans ((cellL_size hw2).mono hb.size))
          clear hw2
          go_wp2_with fail
          go_ret
          exact ⟨ret_bool HF.out, HB2.out⟩
        · cases g
          · have HT := Lib.hid (show k + 1 = 0 ∨ ∃ j p, k + 1 = j + 1 ∧ l[j]? = some p ∧ oneC p = true ∧ rightC l = contC p (l.drop (k + 1)) from .inr ⟨k, r, rfl, HG.out, HZ.out, by rw [HE.out]; rfl⟩)
            go_wp2_with fail
            refine q_region (CellL wr [(⟨b, o + k * 2, none⟩, .int .i64 X), (⟨b, o + k * 2 + 1, none⟩, .int .i64 Y), (⟨b, o + j * 2 + 1, none⟩, .int .i64 P)]) (by kernel_rfl) (by kernel_rfl) (cellL_drew HC.out) ?_
            repeat (first
              | go_big_quiet_skip
              | (go_big_quiet_want; (first
                | (refine q_take (v := ?_) ?_ ?_; rotate_left; (focus (intro w hSw; (try simp only [CellL] at hSw); go_split_ands; go_simp; (try (rw [if_neg (by omega)])); (try with_reducible rfl); done)))
                | (refine q_call (C.out _) ?_ ?_; (focus (intro w hSw; (try simp only [CellL] at hSw); go_split_ands; go_simp; (try (rw [if_neg (by omega)])); done)))); (try simp only [Act.put, List.setIfInBounds_toArray, List.set_cons_zero, List.set_cons_succ]); go_big_quiet_on))
            refine wpQuiet_nil ?_
            intro w2 hw2
            have HB2 := Lib.hid (hb.trans ((cellL_size hw2).mono hb.size))
            clear hw2
            go_wp2_with fail
            go_roundw
            case rel => exact ⟨k + 1, by omega, by go_num, HT, HB2.out⟩
            case measure => simp [intOf]; omega
          · have HF := Lib.hid (show false = v by rw [← HV.out, HE.out]; rfl)
            go_wp2_with fail
            refine q_region (CellL wr [(⟨b, o + k * 2, none⟩, .int .i64 X), (⟨b, o + k * 2 + 1, none⟩, .int .i64 Y), (⟨b, o + j * 2 + 1, none⟩, .int .i64 P)]) (by kernel_rfl) (by kernel_rfl) (cellL_drew HC.out) ?_
            repeat (first
              | go_big_quiet_skip
              | (go_big_quiet_want; (first
                | (refine q_take (v := ?_) ?_ ?_; rotate_left; (focus (intro w hSw; (try simp only [CellL] at hSw); go_split_ands; go_simp; (try (rw [if_neg (by omega)])); (try with_reducible rfl); done)))
                | (refine q_call (C.out _) ?_ ?_; (focus (intro w hSw; (try simp only [CellL] at hSw); go_split_ands; go_simp; (try (rw [if_neg (by omega)])); done)))); (try simp only [Act.put, List.setIfInBounds_toArray, List.set_cons_zero, List.set_cons_succ]); go_big_quiet_on))
            refine wpQuiet_nil ?_
            intro w2 hw2
            have HB2 := Lib.hid (hb.trans ((cellL_size hw2).mono hb.size))
            clear hw2
            go_wp2_with fail
            go_ret
            exact ⟨ret_bool HF.out, HB2.out⟩
    · have HF := Lib.hid (show true = v by
        rw [← HV.out]
        rcases HL.out with h0 | ⟨j, p, _, _, _, hcj⟩
        · have : l = [] := List.eq_nil_of_length_eq_zero (by have := HN.out; omega)
          rw [this]; rfl
        · rw [hcj, List.drop_eq_nil_of_le (by have := HN.out; omega)]; rfl)
      clear HL
      go_wp2_with fail
      go_ret
      exact ⟨ret_bool HF.out, hb⟩
end Go.Proofs.YtopjhebhdopjpaaGreat

namespace Go.Proofs.YtopjhebhdopjpaaGreat
open Go.RowKit

set_option maxRecDepth 100000 in
set_option maxHeartbeats 4000000 in
theorem ref_cedges (A B : Option Addr) (c d n m : Nat) (a b : List Rn) (hn : n = a.length) (hm : m = b.length) (hnl : n ≤ 100000) (hml : m ≤ 100000) (N : Nat) (hN : (edgesC a b).length = N) (w : World) (ha : kRn.Rd w w.heap.size A c a) (hb : kRn.Rd w w.heap.size B d b) :
    Calls Tryz.prog 124 #[.slice A n c, .slice B m d] w (RetI w N (edgesC a b)) := by
  have HNA := Lib.hid hn
  have HNB := Lib.hid hm
  have HA := Lib.hid ha
  have HB := Lib.hid hb
  have HNN := Lib.hid hN
  have hcx : n ≤ c := by rw [hn]; exact ha.room
  have hdx : m ≤ d := by rw [hm]; exact hb.room
  have HE0 := Lib.hid (show (a.foldl addC []).length ≤ 200000 by have := edges_lenC a []; simp only [List.length_nil] at this; omega)
  clear hn hm ha hb hN
  go_enter Tryz.func124, Tryz.ntmps124
  go_wp2_with fail
  go_loopw [5, 6] (fun v i wr => ∃ (k ne c0 : Nat) (A0 : Option Addr) (E : List Int), k ≤ n ∧ Hid ((a.take k).foldl addC [] = E) ∧ v = .slice A0 ne c0 ∧ Hid (ne = E.length) ∧ Hid (kIt.Rd wr wr.heap.size A0 c0 E) ∧ i = .int .i64 k ∧ Hid (Below w.heap.size w wr)) (fun _ i _ => n - (intOf i).toNat)
  case atStart => exact ⟨0, 0, 0, none, [], by omega, rfl, rfl, rfl, Kind.Rd.nil _ _, rfl, Below.refl _ _⟩
  case round =>
    obtain ⟨k, ne, c0, A0, E, hk, HE, rfl, HV, HD, rfl, HBW⟩ := hrel
    by_cases hlt : k < n
    · obtain ⟨r, hg, -, -⟩ := cnt_get (l := a) (k := k) (by have := HNA.out; omega)
      obtain ⟨b1, o1, rfl, hb1, hcell⟩ := rns_at (HA.out.below HBW.out) (by have := HNA.out; omega)
      obtain ⟨k0, k1⟩ := hcell k r hg
      have hb2 := Nat.lt_of_lt_of_le hb1 HBW.out.size
      obtain ⟨z, hz⟩ : ∃ z, oneC r = z := ⟨_, rfl⟩
      have C := fun w => Lib.hid (ref_one r _ _ rfl rfl z hz w)
      have HX := Lib.hid (show (a.take (k + 1)).foldl addC [] = addC E r by rw [List.take_add_one, hg, Option.toList_some, List.foldl_append, HE.out]; rfl)
      have HK := Lib.hid (show E.length ≤ 500000 by
        rw [← HE.out]
        have h1 := edges_lenC (a.take k) []
        have h2 : (a.take k).length ≤ k := by rw [List.length_take]; omega
        have h3 := (List.length_nil : ([] : List Int).length = 0)
        omega)
      obtain ⟨X, hX⟩ : ∃ X, r.fr = X := ⟨_, rfl⟩
      obtain ⟨Y, hY⟩ : ∃ Y, r.to = Y := ⟨_, rfl⟩
      rw [hX, hY] at C
      rw [hX] at k0
      rw [hY] at k1
      have HZ1 := Lib.hid (fun h : z = false => show (a.take (k + 1)).foldl addC [] = E from HX.out.trans (addC_no (hz.trans h)))
      have HZ2 := Lib.hid (fun h : z = true => show (a.take (k + 1)).foldl addC [] = putI (putI E X) (Y + 1) from HX.out.trans (by rw [addC_one (hz.trans h), hX, hY]))
      have hY9 : z = true → Y ≤ 1099511627776 ∧ 1 ≤ Y := fun h => by have := oneC_iff.1 (hz.trans h); omega
      cases z
      · replace HZ1 := Lib.hid (HZ1.out rfl)
        clear hcell hg hX hY hz HX HZ2 hY9
        go_wp2_with ((with_reducible refine (C _).out.mono ?_); rintro e w2 ⟨rfl, hq⟩; have HB2 := Lib.hid (HBW.out.trans (hq.mono HBW.out.size)); have HD2 := Lib.hid (HD.out.call hq); clear hq)
        go_roundw
        case rel => exact ⟨k + 1, ne, c0, A0, E, by omega, HZ1, rfl, HV, HD2, by go_num, HB2⟩
        case measure => simp [intOf]; omega
      · replace HZ2 := Lib.hid (HZ2.out rfl)
        obtain ⟨hy9, hy1⟩ := hY9 rfl
        obtain ⟨E1, hE1⟩ : ∃ E1, putI E X = E1 := ⟨_, rfl⟩
        obtain ⟨N1, hN1⟩ : ∃ N, E1.length = N := ⟨_, rfl⟩
        obtain ⟨E2, hE2⟩ : ∃ E2, putI E1 (Y + 1) = E2 := ⟨_, rfl⟩
        obtain ⟨N2, hN2⟩ : ∃ N, E2.length = N := ⟨_, rfl⟩
        have P1 := fun w hr => Lib.hid (ref_cput A0 c0 ne E X HV.out (by have := HV.out; have := HK.out; omega) E1 hE1 N1 hN1 w hr)
        have P2 := fun A1 c1 w hr => Lib.hid (ref_cput A1 c1 N1 E1 (Y + 1) hN1.symm (by rw [← hN1, ← hE1]; have := putI_len E X; have := HK.out; omega) E2 hE2 N2 hN2 w hr)
        have HN2 := Lib.hid hN2.symm
        rw [hE1, hE2] at HZ2
        have hyw : IntKind.i64.wrap (Y + 1) = Y + 1 := IntWalk.i64_in _ (by omega)
        have hk0 : (0 : Int) ≤ (k : Int) := by omega
        have hkn : (k : Int) < (n : Int) := by omega
        clear hcell hg hX hY hz HX HZ1 hY9 hE1 hN1 hE2 hN2
        go_wp2_with ((with_reducible refine (C _).out.mono ?_); rintro e w2 ⟨rfl, hq⟩; have HB2 := Lib.hid (HBW.out.trans (hq.mono HBW.out.size)); have HD2 := Lib.hid ((HD.out.call hq).call (Below.refl _ _).drew); have e0 := ((bcell hq).1 _ _ hb2).trans k0; have e1 := ((bcell hq).1 _ _ hb2).trans k1; have hb3 := Nat.lt_of_lt_of_le hb2 hq.size; clear hq k0 k1)
        go_region_held3 (fun w' => w'.cell? ⟨b1, o1 + k * 2, none⟩ = some (.int .i64 X) ∧ w'.cell? ⟨b1, o1 + k * 2 + 1, none⟩ = some (.int .i64 Y) ∧ Below w2.heap.size w2 w') (first | (exact ⟨e0, e1, (Below.refl _ _).drew⟩) | assumption | go_keep) (first
          | ((with_reducible refine (P1 _ HD2.out).out.mono ?_); rintro e w3 ⟨A3, c3, rfl, hrd, hq⟩; have HD3 := Lib.hid hrd; have hS3 : w3.cell? ⟨b1, o1 + k * 2, none⟩ = some (.int .i64 X) ∧ w3.cell? ⟨b1, o1 + k * 2 + 1, none⟩ = some (.int .i64 Y) ∧ Below w2.heap.size w2 w3 := ⟨((bcell hq).1 _ _ hb3).trans e0, ((bcell hq).1 _ _ hb3).trans e1, (Below.refl _ _).drew.trans hq⟩; clear hrd hq)
          | ((with_reducible refine (P2 _ _ _ HD3.out).out.mono ?_); rintro e w4 ⟨A4, c4, rfl, hrd, hq⟩; have HD4 := Lib.hid hrd; have hS4 : w4.cell? ⟨b1, o1 + k * 2, none⟩ = some (.int .i64 X) ∧ w4.cell? ⟨b1, o1 + k * 2 + 1, none⟩ = some (.int .i64 Y) ∧ Below w2.heap.size w2 w4 := ⟨((bcell hq).1 _ _ (Nat.lt_of_lt_of_le hb3 hS3.2.2.size)).trans hS3.1, ((bcell hq).1 _ _ (Nat.lt_of_lt_of_le hb3 hS3.2.2.size)).trans hS3.2.1, hS3.2.2.trans (hq.mono hS3.2.2.size)⟩; clear hrd hq))
        have HB4 := Lib.hid (HB2.out.trans (hS4.2.2.mono HB2.out.size))
        clear hS3 hS4 HD3 HD2 e0 e1
        go_wp2_with fail
        go_roundw
        case rel => exact ⟨k + 1, N2, c4, A4, E2, by omega, HZ2, rfl, HN2, HD4, by go_num, HB4⟩
        case measure => simp [intOf]; omega
    · have HF1 := Lib.hid (show a.foldl addC [] = E by rw [← HE.out, List.take_of_length_le (by have := HNA.out; omega)])
      go_wp2_with fail
      go_loopw [5, 7] (fun v i wr => ∃ (k ne c0 : Nat) (A0 : Option Addr) (E : List Int), k ≤ m ∧ Hid ((b.take k).foldl addC (a.foldl addC []) = E) ∧ v = .slice A0 ne c0 ∧ Hid (ne = E.length) ∧ Hid (kIt.Rd wr wr.heap.size A0 c0 E) ∧ i = .int .i64 k ∧ Hid (Below w.heap.size w wr)) (fun _ i _ => m - (intOf i).toNat)
      case atStart => exact ⟨0, ne, c0, A0, E, by omega, HF1.out, rfl, HV.out, HD.out, rfl, HBW.out⟩
      case round =>
        clear HE HV HD HBW HF1 hlt
        obtain ⟨k, ne, c0, A0, E, hk, HE, rfl, HV, HD, rfl, HBW⟩ := hrel
        by_cases hlt : k < m
        · obtain ⟨r, hg, -, -⟩ := cnt_get (l := b) (k := k) (by have := HNB.out; omega)
          obtain ⟨b1, o1, rfl, hb1, hcell⟩ := rns_at (HB.out.below HBW.out) (by have := HNB.out; omega)
          obtain ⟨k0, k1⟩ := hcell k r hg
          have hb2 := Nat.lt_of_lt_of_le hb1 HBW.out.size
          obtain ⟨z, hz⟩ : ∃ z, oneC r = z := ⟨_, rfl⟩
          have C := fun w => Lib.hid (ref_one r _ _ rfl rfl z hz w)
          have HX := Lib.hid (show (b.take (k + 1)).foldl addC (a.foldl addC []) = addC E r by rw [List.take_add_one, hg, Option.toList_some, List.foldl_append, HE.out]; rfl)
          have HK := Lib.hid (show E.length ≤ 500000 by
            rw [← HE.out]
            have h1 := edges_lenC (b.take k) (a.foldl addC [])
            have h2 : (b.take k).length ≤ k := by rw [List.length_take]; omega
            have h3 := HE0.out
            omega)
          obtain ⟨X, hX⟩ : ∃ X, r.fr = X := ⟨_, rfl⟩
          obtain ⟨Y, hY⟩ : ∃ Y, r.to = Y := ⟨_, rfl⟩
          rw [hX, hY] at C
          rw [hX] at k0
          rw [hY] at k1
          have HZ1 := Lib.hid (fun h : z = false => show (b.take (k + 1)).foldl addC (a.foldl addC []) = E from HX.out.trans (addC_no (hz.trans h)))
          have HZ2 := Lib.hid (fun h : z = true => show (b.take (k + 1)).foldl addC (a.foldl addC []) = putI (putI E X) (Y + 1) from HX.out.trans (by rw [addC_one (hz.trans h), hX, hY]))
          have hY9 : z = true → Y ≤ 1099511627776 ∧ 1 ≤ Y := fun h => by have := oneC_iff.1 (hz.trans h); omega
          cases z
          · replace HZ1 := Lib.hid (HZ1.out rfl)
            clear hcell hg hX hY hz HX HZ2 hY9
            go_wp2_with ((with_reducible refine (C _).out.mono ?_); rintro e w2 ⟨rfl, hq⟩; have HB2 := Lib.hid (HBW.out.trans (hq.mono HBW.out.size)); have HD2 := Lib.hid (HD.out.call hq); clear hq)
            go_roundw
            case rel => exact ⟨k + 1, ne, c0, A0, E, by omega, HZ1, rfl, HV, HD2, by go_num, HB2⟩
            case measure => simp [intOf]; omega
          · replace HZ2 := Lib.hid (HZ2.out rfl)
            obtain ⟨hy9, hy1⟩ := hY9 rfl
            obtain ⟨E1, hE1⟩ : ∃ E1, putI E X = E1 := ⟨_, rfl⟩
            obtain ⟨N1, hN1⟩ : ∃ N, E1.length = N := ⟨_, rfl⟩
            obtain ⟨E2, hE2⟩ : ∃ E2, putI E1 (Y + 1) = E2 := ⟨_, rfl⟩
            obtain ⟨N2, hN2⟩ : ∃ N, E2.length = N := ⟨_, rfl⟩
            have P1 := fun w hr => Lib.hid (ref_cput A0 c0 ne E X HV.out (by have := HV.out; have := HK.out; omega) E1 hE1 N1 hN1 w hr)
            have P2 := fun A1 c1 w hr => Lib.hid (ref_cput A1 c1 N1 E1 (Y + 1) hN1.symm (by rw [← hN1, ← hE1]; have := putI_len E X; have := HK.out; omega) E2 hE2 N2 hN2 w hr)
            have HN2 := Lib.hid hN2.symm
            rw [hE1, hE2] at HZ2
            have hyw : IntKind.i64.wrap (Y + 1) = Y + 1 := IntWalk.i64_in _ (by omega)
            have hk0 : (0 : Int) ≤ (k : Int) := by omega
            have hkn : (k : Int) < (m : Int) := by omega
            clear hcell hg hX hY hz HX HZ1 hY9 hE1 hN1 hE2 hN2
            go_wp2_with ((with_reducible refine (C _).out.mono ?_); rintro e w2 ⟨rfl, hq⟩; have HB2 := Lib.hid (HBW.out.trans (hq.mono HBW.out.size)); have HD2 := Lib.hid ((HD.out.call hq).call (Below.refl _ _).drew); have e0 := ((bcell hq).1 _ _ hb2).trans k0; have e1 := ((bcell hq).1 _ _ hb2).trans k1; have hb3 := Nat.lt_of_lt_of_le hb2 hq.size; clear hq k0 k1)
            go_region_held3 (fun w' => w'.cell? ⟨b1, o1 + k * 2, none⟩ = some (.int .i64 X) ∧ w'.cell? ⟨b1, o1 + k * 2 + 1, none⟩ = some (.int .i64 Y) ∧ Below w2.heap.size w2 w') (first | (exact ⟨e0, e1, (Below.refl _ _).drew⟩) | assumption | go_keep) (first
              | ((with_reducible refine (P1 _ HD2.out).out.mono ?_); rintro e w3 ⟨A3, c3, rfl, hrd, hq⟩; have HD3 := Lib.hid hrd; have hS3 : w3.cell? ⟨b1, o1 + k * 2, none⟩ = some (.int .i64 X) ∧ w3.cell? ⟨b1, o1 + k * 2 + 1, none⟩ = some (.int .i64 Y) ∧ Below w2.heap.size w2 w3 := ⟨((bcell hq).1 _ _ hb3).trans e0, ((bcell hq).1 _ _ hb3).trans e1, (Below.refl _ _).drew.trans hq⟩; clear hrd hq)
              | ((with_reducible refine (P2 _ _ _ HD3.out).out.mono ?_); rintro e w4 ⟨A4, c4, rfl, hrd, hq⟩; have HD4 := Lib.hid hrd; have hS4 : w4.cell? ⟨b1, o1 + k * 2, none⟩ = some (.int .i64 X) ∧ w4.cell? ⟨b1, o1 + k * 2 + 1, none⟩ = some (.int .i64 Y) ∧ Below w2.heap.size w2 w4 := ⟨((bcell hq).1 _ _ (Nat.lt_of_lt_of_le hb3 hS3.2.2.size)).trans hS3.1, ((bcell hq).1 _ _ (Nat.lt_of_lt_of_le hb3 hS3.2.2.size)).trans hS3.2.1, hS3.2.2.trans (hq.mono hS3.2.2.size)⟩; clear hrd hq))
            have HB4 := Lib.hid (HB2.out.trans (hS4.2.2.mono HB2.out.size))
            clear hS3 hS4 HD3 HD2 e0 e1
            go_wp2_with fail
            go_roundw
            case rel => exact ⟨k + 1, N2, c4, A4, E2, by omega, HZ2, rfl, HN2, HD4, by go_num, HB4⟩
            case measure => simp [intOf]; omega
        · have HFIN := Lib.hid (show edgesC a b = E by rw [← HE.out, List.take_of_length_le (by have := HNB.out; omega)]; rfl)
          go_wp2_with fail
          go_ret
          exact ⟨A0, c0, cret_slice (by rw [HV.out, ← HNN.out, HFIN.out]), by rw [HFIN.out]; exact HD.out, HBW.out⟩
end Go.Proofs.YtopjhebhdopjpaaGreat

namespace Go.Proofs.YtopjhebhdopjpaaGreat
open Go.RowKit

def RetC (w : World) (N : Nat) (l : List Rn) (e : Ending) (w' : World) : Prop := ∃ A c, e = .returned (.slice A N c) ∧ kRn.Rd w' w'.heap.size A c l ∧ Below w.heap.size w w'
def RetOC (w : World) (N : Nat) (l : List Rn) (e : Ending) (w' : World) : Prop := ∃ A c, e = .returned (.slice A N c) ∧ kRn.Own w' w.heap.size (.slice A N c) l ∧ Below w.heap.size w w'
theorem RetOC.ret {w w' : World} {N : Nat} {l : List Rn} {e : Ending} (h : RetOC w N l e w') : RetC w N l e w' := by
  obtain ⟨A, c, h1, h2, h3⟩ := h
  exact ⟨A, c, h1, h2.rd, h3⟩
theorem rn_row (w : World) (x y : Int) : RowAt (w.alloc (.cells #[.int .i64 x, .int .i64 y] 105)) (w.heap.size + 1) (some ⟨w.heap.size, 0, none⟩) (kRn.row [⟨x, y⟩]) := (Kind.rd_new (k := kRn) (l := [⟨x, y⟩]) (n := 1) (by rw [kRn.row_one]; rfl) rfl (by simp)).row
theorem own_to {w : World} {base g n c D : Nat} {dn : List Rn} {r : Rn} (h : kRn.Own w base (.slice (some ⟨g, 0, none⟩) n c) (dn ++ [r])) (hn : n = (dn ++ [r]).length) (hD : dn.length = D) (y : Int) :
    kRn.Own (w.setCell ⟨g, D * 2 + 1, none⟩ (.int .i64 y)) base (.slice (some ⟨g, 0, none⟩) n c) (dn ++ [⟨r.fr, y⟩]) := by
  subst hD
  have g1 : (dn ++ [r])[dn.length]? = some r := by rw [List.getElem?_append_right (Nat.le_refl _), Nat.sub_self]; rfl
  have h1 := h.stored (j := 1) (y := ⟨r.fr, y⟩) (v := .int .i64 y) hn g1 (by decide) rfl
  rwa [show (dn ++ [r]).set dn.length ⟨r.fr, y⟩ = dn ++ [⟨r.fr, y⟩] from by simp] at h1
set_option maxRecDepth 100000 in
set_option maxHeartbeats 8000000 in
theorem ref_cmake_own (op : Int) (A B : Option Addr) (c d n m : Nat) (a b : List Rn) (hn : n = a.length) (hm : m = b.length) (hnl : n ≤ 100000) (hml : m ≤ 100000) (U : List Rn) (hU : makeC op a b = U) (N : Nat) (hN : U.length = N) (w : World) (ha : kRn.Rd w w.heap.size A c a) (hb : kRn.Rd w w.heap.size B d b) :
    Calls Tryz.prog 101 #[.int .i64 op, .slice A n c, .slice B m d] w (RetOC w N U) := by
  have HA := Lib.hid ha
  have HB := Lib.hid hb
  obtain ⟨E, hE⟩ : ∃ E, edgesC a b = E := ⟨_, rfl⟩
  obtain ⟨M, hM⟩ : ∃ M, E.length = M := ⟨_, rfl⟩
  have ED := fun w ha hb => Lib.hid (ref_cedges A B c d n m a b hn hm hnl hml M (by rw [hE]; exact hM) w ha hb)
  have HEB := Lib.hid (show ∀ x ∈ E, 0 < x ∧ x ≤ 1099511627777 from fun x hx => by
    have h := edgesC_ok a b
    rw [hE] at h
    exact ⟨upC_all h.1 x hx, h.2.1 x hx⟩)
  have hM9 : M ≤ 400000 := by
    have h1 := edges_lenC b (a.foldl addC [])
    have h2 := edges_lenC a []
    simp only [List.length_nil] at h2
    unfold edgesC at hE
    rw [hE] at h1
    omega
  obtain ⟨f, hf⟩ : ∃ f, isC op a b = f := ⟨_, rfl⟩
  have HF := Lib.hid (show ∀ x, gC op (hasC a x) (hasC b x) = f x from fun x => by rw [← hf]; rfl)
  have HU := Lib.hid (show mkC f E none = U by rw [← hU]; unfold makeC; rw [hE, hf])
  have HNN := Lib.hid hN
  have HM := Lib.hid hM
  have HNA := Lib.hid hn
  have HNB := Lib.hid hm
  rw [hE] at ED
  clear hE hf hU hn hm ha hb hN hM
  go_enter Tryz.func101, Tryz.ntmps101
  go_wp2_with ((with_reducible refine (ED _ HA.out HB.out).out.mono ?_); rintro e w1 ⟨A1, c1, rfl, hrd, hb1⟩; have HD := Lib.hid hrd; have HB1 := Lib.hid hb1; clear hrd hb1)
  clear ED
  have hmc : M ≤ c1 := by rw [← HM.out]; exact HD.out.room
  go_loopw [8, 9] (fun v i wr => ∃ (k : Nat) (o : Option Rn) (dn : List Rn), k ≤ M ∧ Hid (U = dn ++ mkC f (E.drop k) o) ∧ Hid (kRn.Own wr w1.heap.size v (dn ++ o.toList)) ∧ Hid (o = none → dn = []) ∧ (dn ++ o.toList).length ≤ k ∧ i = .int .i64 k ∧ Hid (Below w1.heap.size w1 wr)) (fun _ i _ => M - (intOf i).toNat)
  case atStart => exact ⟨0, none, [], by omega, HU.out.symm, Kind.Own.nil _ _, fun _ => rfl, by simp, rfl, Below.refl _ _⟩
  case round =>
    obtain ⟨k, o, dn, hk, HL, HO, HE0, hol, rfl, HBW⟩ := hrel
    obtain ⟨n9, hn9⟩ : ∃ n9, (dn ++ o.toList).length = n9 := ⟨_, rfl⟩
    obtain ⟨A9, c9, rfl, -⟩ := HO.out.read_n hn9.symm
    have HN9 := Lib.hid hn9
    rw [hn9] at hol
    clear hn9
    have hkw : IntKind.i64.wrap ((k : Int) + 1) = (k : Int) + 1 := IntWalk.i64_in _ (by omega)
    by_cases hlt : k + 1 < M
    · obtain ⟨X, hgx, hdx, hmx⟩ := cnt_get (l := E) (k := k) (by have := HM.out; omega)
      obtain ⟨Y, hgy, hdy, hmy⟩ := cnt_get (l := E) (k := k + 1) (by have := HM.out; omega)
      obtain ⟨b1, o1, rfl, hbl1, hcell⟩ := its_at HD.out (by have := HM.out; omega)
      have e0 := ((bcell HBW.out).1 _ _ hbl1).trans (hcell k X hgx)
      have e1 := ((bcell HBW.out).1 _ _ hbl1).trans (hcell (k + 1) Y hgy)
      have hX9 := HEB.out X hmx
      have hY9 := HEB.out Y hmy
      have hXw : IntKind.i64.wrap (X - 1) = X - 1 := IntWalk.i64_in _ (by omega)
      have hYw : IntKind.i64.wrap (Y - 1) = Y - 1 := IntWalk.i64_in _ (by omega)
      have hk0 : (0 : Int) ≤ (k : Int) := by omega
      have hkn : (k : Int) < (M : Int) := by omega
      have hk1 : (0 : Int) ≤ (k : Int) + 1 := by omega
      have hkn1 : (k : Int) + 1 < (M : Int) := by omega
      have hkd : decide ((k : Int) + 1 < (M : Int)) = true := decide_eq_true (by omega)
      have hkd2 : decide (k + 1 < M) = true := decide_eq_true hlt
      have HRW := fun W : World => Lib.hid (rn_row W X (Y - 1))
      have HLE := Lib.hid (show (dn ++ o.toList).length + [(⟨X, Y - 1⟩ : Rn)].length ≤ 1000000 by rw [HN9.out, List.length_singleton]; omega)
      obtain ⟨x, hx⟩ : ∃ x, hasC a X = x := ⟨_, rfl⟩
      obtain ⟨y, hy⟩ : ∃ y, hasC b X = y := ⟨_, rfl⟩
      obtain ⟨v, hv⟩ : ∃ v, gC op x y = v := ⟨_, rfl⟩
      have hfx : f X = v := by rw [← HF.out, hx, hy, hv]
      have CA := Lib.hid (fun (L : List (Addr × Value)) => fun (W : World) (hC : CellL wr L W) => (ref_chas A c n a X HNA.out x hx W (HA.out.call (HB1.out.trans ((HBW.out.trans ((cellL_size hC).mono HBW.out.size)).mono HB1.out.size)))).mono fun (e : Ending) (W' : World) ⟨h1, h2⟩ => (⟨h1, cellL_call h2 hC⟩ : e = Ending.returned (.bool x) ∧ CellL wr L W'))
      have CB := Lib.hid (fun (L : List (Addr × Value)) => fun (W : World) (hC : CellL wr L W) => (ref_chas B d m b X HNB.out y hy W (HB.out.call (HB1.out.trans ((HBW.out.trans ((cellL_size hC).mono HBW.out.size)).mono HB1.out.size)))).mono fun (e : Ending) (W' : World) ⟨h1, h2⟩ => (⟨h1, cellL_call h2 hC⟩ : e = Ending.returned (.bool y) ∧ CellL wr L W'))
      have HC := Lib.hid (show CellL wr [(⟨b1, o1 + k, none⟩, .int .i64 X), (⟨b1, o1 + (k + 1), none⟩, .int .i64 Y)] wr from ⟨e0, e1, Below.refl _ _⟩)
      have HV := Lib.hid hv
      have HL1 := Lib.hid (fun h : v = false => show U = dn ++ mkC f (E.drop (k + 1)) o from HL.out.trans (by rw [hdx, hdy, mkC_out (hfx.trans h)]))
      have HL2 := Lib.hid (fun h : v = true => fun h' : o = none => show U = dn ++ mkC f (E.drop (k + 1)) (some ⟨X, Y - 1⟩) from HL.out.trans (by rw [hdx, hdy, h', mkC_on (hfx.trans h)]))
      have HL3 := Lib.hid (fun h : v = true => fun (r : Rn) (h' : o = some r) (h2 : r.to = X - 1) => show U = dn ++ mkC f (E.drop (k + 1)) (some ⟨r.fr, Y - 1⟩) from HL.out.trans (by rw [hdx, hdy, h', mkC_more (hfx.trans h) h2]))
      have HL4 := Lib.hid (fun h : v = true => fun (r : Rn) (h' : o = some r) (h2 : r.to ≠ X - 1) => show U = (dn ++ [r]) ++ mkC f (E.drop (k + 1)) (some ⟨X, Y - 1⟩) from HL.out.trans (by rw [hdx, hdy, h', mkC_next (hfx.trans h) h2, List.append_assoc]; rfl))
      clear hcell hgx hgy hdx hdy hmx hmy hx hy hv hfx HL e0 e1
      go_wp2_with fail
      refine q_region (CellL wr [(⟨b1, o1 + k, none⟩, .int .i64 X), (⟨b1, o1 + (k + 1), none⟩, .int .i64 Y)]) (by kernel_rfl) (by kernel_rfl) (cellL_drew HC.out) ?_
      repeat (first
        | go_big_quiet_skip
        | (go_big_quiet_want; (first
          | (refine q_take (v := ?_) ?_ ?_; rotate_left; (focus (intro w hSw; (try simp only [CellL] at hSw); go_split_ands; go_simp; (try (rw [if_neg (by omega)])); (try with_reducible rfl); done)))
          | (refine q_call (CA.out _) ?_ ?_; (focus (intro w hSw; (try simp only [CellL] at hSw); go_split_ands; go_simp; (try (rw [if_neg (by omega)])); done)))
          | (refine q_call (CB.out _) ?_ ?_; (focus (intro w hSw; (try simp only [CellL] at hSw); go_split_ands; go_simp; (try (rw [if_neg (by omega)])); done)))); (try simp only [Act.put, List.setIfInBounds_toArray, List.set_cons_zero, List.set_cons_succ]); go_big_quiet_on))
      refine wpQuiet_nil ?_
      intro w2 hw2
      have HO2 := Lib.hid (HO.out.below (cellL_size hw2))
      have HB2 := Lib.hid (HBW.out.trans ((cellL_size hw2).mono HBW.out.size))
      simp only [CellL] at hw2
      obtain ⟨e0, e1, -⟩ := hw2
      clear CA CB HC HO HBW
      go_upto_region 7 with fail
      go_cut [63] from 15 to 107 (fun s wx => s = .bool (!v) ∧ wx = w2)
      case first =>
        have HV := HV.out
        clear HL1 HL2 HL3 HL4 HRW HLE
        by_cases p1 : op = 1
        · subst p1
          cases x <;> cases y
          all_goals
            go_wp2_with fail
            go_meet
            exact ⟨by rw [← HV]; rfl, rfl⟩
        · have n1 : (op == 1) = false := beq_eq_false_iff_ne.2 p1
          by_cases p2 : op = 2
          · subst p2
            cases x <;> cases y
            all_goals
              go_wp2_with fail
              go_meet
              exact ⟨by rw [← HV]; rfl, rfl⟩
          · have n2 : (op == 2) = false := beq_eq_false_iff_ne.2 p2
            by_cases p3 : op = 3
            · subst p3
              cases x <;> cases y
              all_goals
                go_wp2_with fail
                go_meet
                exact ⟨by rw [← HV]; rfl, rfl⟩
            · have n3 : (op == 3) = false := beq_eq_false_iff_ne.2 p3
              have HG : gC op x y = false := by unfold gC; rw [n1, n2, n3]; rfl
              have HW := Lib.hid (HV.symm.trans HG)
              clear HV HG p1 p2 p3
              cases x <;> cases y
              all_goals
                go_wp2_with fail
                go_meet
                exact ⟨by rw [HW.out]; rfl, rfl⟩
      case rest =>
        obtain ⟨rfl, rfl⟩ := hcut
        clear HV
        cases v
        · replace HL1 := Lib.hid (HL1.out rfl)
          clear HL2 HL3 HL4
          go_wp2_with fail
          go_roundw
          case rel => exact ⟨k + 1, o, dn, by omega, HL1, HO2, HE0, by rw [HN9.out]; omega, by go_num, HB2⟩
          case measure => simp [intOf]; omega
        · clear HL1
          cases o with
          | none =>
            replace HL2 := Lib.hid (HL2.out rfl rfl)
            obtain rfl := HE0.out rfl
            obtain rfl : n9 = 0 := HN9.out.symm
            clear HL3 HL4 HE0
            have HC2 := Lib.hid (show CellL wc [(⟨b1, o1 + k, none⟩, .int .i64 X), (⟨b1, o1 + (k + 1), none⟩, .int .i64 Y)] wc from ⟨e0, e1, Below.refl _ _⟩)
            go_wp2_with fail
            clear e0 e1
            refine q_region (CellL wc [(⟨b1, o1 + k, none⟩, .int .i64 X), (⟨b1, o1 + (k + 1), none⟩, .int .i64 Y)]) (by kernel_rfl) (by kernel_rfl) (cellL_drew HC2.out) ?_
            repeat (first
              | go_big_quiet_skip
              | (go_big_quiet_want; (first
                | (refine q_take (v := ?_) ?_ ?_; rotate_left; (focus (intro w hSw; (try simp only [CellL] at hSw); go_split_ands; go_simp; (try (rw [if_neg (by omega)])); (try with_reducible rfl); done)))); (try simp only [Act.put, List.setIfInBounds_toArray, List.set_cons_zero, List.set_cons_succ]); go_big_quiet_on))
            refine wpQuiet_nil ?_
            intro w3 hw3
            have HO3 := Lib.hid (HO2.out.below (cellL_size hw3))
            have HB3 := Lib.hid (HB2.out.trans ((cellL_size hw3).mono HB2.out.size))
            simp only [CellL] at hw3
            obtain ⟨e0, e1, -⟩ := hw3
            clear HC2 HO2
            go_upto_region 10 with fail
            have HCL := Lib.hid (show CellL w1 [(⟨b1, o1 + k, none⟩, .int .i64 X), (⟨b1, o1 + (k + 1), none⟩, .int .i64 Y)] w3 from ⟨e0, e1, HB3.out⟩)
            clear e0 e1
            refine wp_region_noPanic ?_
            refine wp_region_held_drew (S := CellL w1 [(⟨b1, o1 + k, none⟩, .int .i64 X), (⟨b1, o1 + (k + 1), none⟩, .int .i64 Y)]) (by kernel_rfl) (cellL_drew HCL.out) (fun hHeld => ?_)
            refine take_yes (i := 0) (v := ?_) rfl (by kernel_rfl) (by kernel_rfl) (by kernel_rfl) (fun _ _ _ h => h) (by rfl) (by assumption) ?_ ?_; rotate_left; (focus ((intro w hSw); (try simp only [CellL] at hSw); go_split_ands; go_simp; (try with_reducible rfl); done))
            (try simp only [Act.put, List.setIfInBounds_toArray, List.set_cons_zero, List.set_cons_succ])
            refine take_yes (i := 1) (v := ?_) rfl (by kernel_rfl) (by kernel_rfl) (by kernel_rfl) (fun _ _ _ h => h) (by rfl) (by assumption) ?_ ?_; rotate_left; (focus ((intro w hSw); (try simp only [CellL] at hSw); go_split_ands; go_simp; (try with_reducible rfl); done))
            (try simp only [Act.put, List.setIfInBounds_toArray, List.set_cons_zero, List.set_cons_succ])
            refine take_yes (i := 2) (v := ?_) rfl (by kernel_rfl) (by kernel_rfl) (by kernel_rfl) (fun _ _ _ h => h) (by rfl) (by assumption) ?_ ?_; rotate_left; (focus ((intro w hSw); (try simp only [CellL] at hSw); go_split_ands; go_simp; (try with_reducible rfl); done))
            (try simp only [Act.put, List.setIfInBounds_toArray, List.set_cons_zero, List.set_cons_succ])
            refine take_yes (i := 3) (v := ?_) rfl (by kernel_rfl) (by kernel_rfl) (by kernel_rfl) (fun _ _ _ h => h) (by rfl) (by assumption) ?_ ?_; rotate_left; (focus ((intro w hSw); (try simp only [CellL] at hSw); go_split_ands; go_simp; (try with_reducible rfl); done))
            (try simp only [Act.put, List.setIfInBounds_toArray, List.set_cons_zero, List.set_cons_succ])
            refine take_yes (i := 4) (v := ?_) rfl (by kernel_rfl) (by kernel_rfl) (by kernel_rfl) (fun _ _ _ h => h) (by rfl) (by assumption) ?_ ?_; rotate_left; (focus ((intro w hSw); (try simp only [CellL] at hSw); go_split_ands; go_simp; (try with_reducible rfl); done))
            (try simp only [Act.put, List.setIfInBounds_toArray, List.set_cons_zero, List.set_cons_succ])
            refine take_yes (i := 5) (v := ?_) rfl (by kernel_rfl) (by kernel_rfl) (by kernel_rfl) (fun _ _ _ h => h) (by rfl) (by assumption) ?_ ?_; rotate_left; (focus ((intro w hSw); (try simp only [CellL] at hSw); go_split_ands; go_simp; (try with_reducible rfl); done))
            (try simp only [Act.put, List.setIfInBounds_toArray, List.set_cons_zero, List.set_cons_succ])
            refine take_yes (i := 6) (v := ?_) rfl (by kernel_rfl) (by kernel_rfl) (by kernel_rfl) (fun _ _ _ h => h) (by rfl) (by assumption) ?_ ?_; rotate_left; (focus ((intro w hSw); (try simp only [CellL] at hSw); go_split_ands; go_simp; (try with_reducible rfl); done))
            (try simp only [Act.put, List.setIfInBounds_toArray, List.set_cons_zero, List.set_cons_succ])
            refine take_yes (i := 7) (v := ?_) rfl (by kernel_rfl) (by kernel_rfl) (by kernel_rfl) (fun _ _ _ h => h) (by rfl) (by assumption) ?_ ?_; rotate_left; (focus ((intro w hSw); (try simp only [CellL] at hSw); go_split_ands; go_simp; (try with_reducible rfl); done))
            (try simp only [Act.put, List.setIfInBounds_toArray, List.set_cons_zero, List.set_cons_succ])
            refine take_yes (i := 8) (v := ?_) rfl (by kernel_rfl) (by kernel_rfl) (by kernel_rfl) (fun _ _ _ h => h) (by rfl) (by assumption) ?_ ?_; rotate_left; (focus ((intro w hSw); (try simp only [CellL] at hSw); go_split_ands; go_simp; (try with_reducible rfl); done))
            (try simp only [Act.put, List.setIfInBounds_toArray, List.set_cons_zero, List.set_cons_succ])
            refine take_yes (i := 9) (v := ?_) rfl (by kernel_rfl) (by kernel_rfl) (by kernel_rfl) (fun _ _ _ h => h) (by rfl) (by assumption) ?_ ?_; rotate_left; (focus ((intro w hSw); (try simp only [CellL] at hSw); go_split_ands; go_simp; (try with_reducible rfl); done))
            (try simp only [Act.put, List.setIfInBounds_toArray, List.set_cons_zero, List.set_cons_succ])
            refine take_yes (i := 10) (v := ?_) rfl (by kernel_rfl) (by kernel_rfl) (by kernel_rfl) (fun _ _ _ h => h) (by rfl) (by assumption) ?_ ?_; rotate_left; (focus ((intro w hSw); (try simp only [CellL] at hSw); go_split_ands; go_simp; (try with_reducible rfl); done))
            (try simp only [Act.put, List.setIfInBounds_toArray, List.set_cons_zero, List.set_cons_succ])
            refine take_yes (i := 11) (v := ?_) rfl (by kernel_rfl) (by kernel_rfl) (by kernel_rfl) (fun _ _ _ h => h) (by rfl) (by assumption) ?_ ?_; rotate_left; (focus ((intro w hSw); (try simp only [CellL] at hSw); go_split_ands; go_simp; (try with_reducible rfl); done))
            (try simp only [Act.put, List.setIfInBounds_toArray, List.set_cons_zero, List.set_cons_succ])
            refine call_one (i := 12) rfl (by kernel_rfl) (by rfl) (fun K hK => ?_)
            go_simp
            refine hK.out _ _ (cellL_call (below_new _ _) (by assumption)) (fun hHeld => ?_)
            clear hK K
            (try simp only [Act.put, List.setIfInBounds_toArray, List.set_cons_zero, List.set_cons_succ])
            have HOd := Lib.hid (show kRn.Own w3.drew w1.heap.size _ _ from HO3.out)
            have HBd := Lib.hid HB3.out.drew
            refine call_one (i := 13) rfl (by kernel_rfl) (by rfl) (fun K hK => ?_)
            refine op_app_k kRn (.tmp 94) (.tmp 106) rfl w1.heap.size _ _ rfl (Kind.Own.alloc HOd.out _) _ (some ⟨w3.heap.size, 0, none⟩) 1 1 [⟨X, Y - 1⟩] rfl rfl (HRW w3.drew).out HLE.out (by decide) (cle_alloc HBd.out.size _) ?_
            intro v5 w5 hown5 hg5 hb5 _
            have HO5 := Lib.hid hown5
            have HB5 := Lib.hid ((HBd.out.alloc HBd.out.size _).trans hb5)
            refine hK.out _ _ ⟨((bcell hb5).1 _ _ hbl1).trans ((alloc_keeps w3.drew _ _ _ (Nat.lt_of_lt_of_le hbl1 HB3.out.size)).trans HCL.out.1), ((bcell hb5).1 _ _ hbl1).trans ((alloc_keeps w3.drew _ _ _ (Nat.lt_of_lt_of_le hbl1 HB3.out.size)).trans HCL.out.2.1), HB5.out⟩ (fun hHeld => ?_)
            clear hK K hown5 hg5 hb5
            (try simp only [Act.put, List.setIfInBounds_toArray, List.set_cons_zero, List.set_cons_succ])
            refine take_yes (i := 14) (v := ?_) rfl (by kernel_rfl) (by kernel_rfl) (by kernel_rfl) (fun _ _ _ h => h) (by rfl) (by assumption) ?_ ?_; rotate_left; (focus ((intro w hSw); (try simp only [CellL] at hSw); go_split_ands; go_simp; (try with_reducible rfl); done))
            (try simp only [Act.put, List.setIfInBounds_toArray, List.set_cons_zero, List.set_cons_succ])
            refine wpAnyH_done (by kernel_rfl) ?_ _
            refine NoPanic.normal ?_
            clear hHeld
            go_wp2_with fail
            go_roundw
            case rel => exact ⟨k + 1, some ⟨X, Y - 1⟩, [], by omega, HL2, HO5, (fun h => by cases h), by simp, by go_num, HB5⟩
            case measure => simp [intOf]; omega
          | some r =>
            obtain ⟨D, hD⟩ : ∃ D, dn.length = D := ⟨_, rfl⟩
            obtain rfl : n9 = D + 1 := by rw [← HN9.out, List.length_append, hD]; rfl
            have hga : (dn ++ [r])[D]? = some r := by rw [← hD, List.getElem?_append_right (Nat.le_refl _), Nat.sub_self]; rfl
            have hLn : D + 1 = (dn ++ [r]).length := HN9.out.symm
            obtain ⟨g, cp, hv9, hcp, hgb, -, -, -⟩ := HO2.out.some_ hLn (by omega)
            injection hv9 with hA9 _ hc9
            subst hA9 hc9
            obtain ⟨-, hgl, hfz, hcs⟩ := HO2.out.at_g hLn (by omega)
            have t0 := hcs D r hga 1 _ rfl
            change wc.cell? ⟨g, D * 2 + 1, none⟩ = some (.int .i64 r.to) at t0
            obtain ⟨R, hR⟩ : ∃ R, r.to = R := ⟨_, rfl⟩
            rw [hR] at t0
            have hD9 : D ≤ 500000 := by omega
            have hj0 : (0 : Int) ≤ (D : Int) := by omega
            have hjn : (D : Int) < (D : Int) + 1 := by omega
            have hjd : decide ((D : Int) < 0) = false := decide_eq_false (by omega)
            have hjp : decide ((0 : Int) < (D : Int) + 1) = true := decide_eq_true (by omega)
            have hjw : IntKind.i64.wrap ((D : Int) + 1 - 1) = (D : Int) := by rw [Int.add_sub_cancel]; exact IntWalk.i64_in _ (by omega)
            have hjw2 : IntKind.i64.wrap (D : Int) = (D : Int) := IntWalk.i64_in _ (by omega)
            have HC2 := Lib.hid (show CellL wc [(⟨b1, o1 + k, none⟩, .int .i64 X), (⟨b1, o1 + (k + 1), none⟩, .int .i64 Y), (⟨g, D * 2 + 1, none⟩, .int .i64 R)] wc from ⟨e0, e1, t0, Below.refl _ _⟩)
            obtain ⟨q, hq⟩ : ∃ q, (R == X - 1) = q := ⟨_, rfl⟩
            have HL3 := Lib.hid (fun h : q = true => HL3.out rfl r rfl (by rw [hR]; rw [h] at hq; simpa using hq))
            have HL4 := Lib.hid (fun h : q = false => HL4.out rfl r rfl (by rw [hR]; rw [h] at hq; simpa using hq))
            have HDD := Lib.hid hD
            clear HL2 HE0 hga hLn hcs hfz hD hR t0
            go_wp2_with fail
            clear e0 e1
            refine q_region (CellL wc [(⟨b1, o1 + k, none⟩, .int .i64 X), (⟨b1, o1 + (k + 1), none⟩, .int .i64 Y), (⟨g, D * 2 + 1, none⟩, .int .i64 R)]) (by kernel_rfl) (by kernel_rfl) (cellL_drew HC2.out) ?_
            repeat (first
              | go_big_quiet_skip
              | (go_big_quiet_want; (first
                | (refine q_take (v := ?_) ?_ ?_; rotate_left; (focus (intro w hSw; (try simp only [CellL] at hSw); go_split_ands; go_simp; (try (rw [if_neg (by omega)])); (try with_reducible rfl); done)))); (try simp only [Act.put, List.setIfInBounds_toArray, List.set_cons_zero, List.set_cons_succ]); go_big_quiet_on))
            refine wpQuiet_nil ?_
            intro w3 hw3
            have HO3 := Lib.hid (HO2.out.below (cellL_size hw3))
            have HB3 := Lib.hid (HB2.out.trans ((cellL_size hw3).mono HB2.out.size))
            simp only [CellL] at hw3
            obtain ⟨e0, e1, t0, -⟩ := hw3
            clear HC2 HO2
            cases q
            · replace HL4 := Lib.hid (HL4.out rfl)
              clear HL3 t0
              go_upto_region 10 with fail
              have HCL := Lib.hid (show CellL w1 [(⟨b1, o1 + k, none⟩, .int .i64 X), (⟨b1, o1 + (k + 1), none⟩, .int .i64 Y)] w3 from ⟨e0, e1, HB3.out⟩)
              clear e0 e1
              refine wp_region_noPanic ?_
              refine wp_region_held_drew (S := CellL w1 [(⟨b1, o1 + k, none⟩, .int .i64 X), (⟨b1, o1 + (k + 1), none⟩, .int .i64 Y)]) (by kernel_rfl) (cellL_drew HCL.out) (fun hHeld => ?_)
              refine take_yes (i := 0) (v := ?_) rfl (by kernel_rfl) (by kernel_rfl) (by kernel_rfl) (fun _ _ _ h => h) (by rfl) (by assumption) ?_ ?_; rotate_left; (focus ((intro w hSw); (try simp only [CellL] at hSw); go_split_ands; go_simp; (try with_reducible rfl); done))
              (try simp only [Act.put, List.setIfInBounds_toArray, List.set_cons_zero, List.set_cons_succ])
              refine take_yes (i := 1) (v := ?_) rfl (by kernel_rfl) (by kernel_rfl) (by kernel_rfl) (fun _ _ _ h => h) (by rfl) (by assumption) ?_ ?_; rotate_left; (focus ((intro w hSw); (try simp only [CellL] at hSw); go_split_ands; go_simp; (try with_reducible rfl); done))
              (try simp only [Act.put, List.setIfInBounds_toArray, List.set_cons_zero, List.set_cons_succ])
              refine take_yes (i := 2) (v := ?_) rfl (by kernel_rfl) (by kernel_rfl) (by kernel_rfl) (fun _ _ _ h => h) (by rfl) (by assumption) ?_ ?_; rotate_left; (focus ((intro w hSw); (try simp only [CellL] at hSw); go_split_ands; go_simp; (try with_reducible rfl); done))
              (try simp only [Act.put, List.setIfInBounds_toArray, List.set_cons_zero, List.set_cons_succ])
              refine take_yes (i := 3) (v := ?_) rfl (by kernel_rfl) (by kernel_rfl) (by kernel_rfl) (fun _ _ _ h => h) (by rfl) (by assumption) ?_ ?_; rotate_left; (focus ((intro w hSw); (try simp only [CellL] at hSw); go_split_ands; go_simp; (try with_reducible rfl); done))
              (try simp only [Act.put, List.setIfInBounds_toArray, List.set_cons_zero, List.set_cons_succ])
              refine take_yes (i := 4) (v := ?_) rfl (by kernel_rfl) (by kernel_rfl) (by kernel_rfl) (fun _ _ _ h => h) (by rfl) (by assumption) ?_ ?_; rotate_left; (focus ((intro w hSw); (try simp only [CellL] at hSw); go_split_ands; go_simp; (try with_reducible rfl); done))
              (try simp only [Act.put, List.setIfInBounds_toArray, List.set_cons_zero, List.set_cons_succ])
              refine take_yes (i := 5) (v := ?_) rfl (by kernel_rfl) (by kernel_rfl) (by kernel_rfl) (fun _ _ _ h => h) (by rfl) (by assumption) ?_ ?_; rotate_left; (focus ((intro w hSw); (try simp only [CellL] at hSw); go_split_ands; go_simp; (try with_reducible rfl); done))
              (try simp only [Act.put, List.setIfInBounds_toArray, List.set_cons_zero, List.set_cons_succ])
              refine take_yes (i := 6) (v := ?_) rfl (by kernel_rfl) (by kernel_rfl) (by kernel_rfl) (fun _ _ _ h => h) (by rfl) (by assumption) ?_ ?_; rotate_left; (focus ((intro w hSw); (try simp only [CellL] at hSw); go_split_ands; go_simp; (try with_reducible rfl); done))
              (try simp only [Act.put, List.setIfInBounds_toArray, List.set_cons_zero, List.set_cons_succ])
              refine take_yes (i := 7) (v := ?_) rfl (by kernel_rfl) (by kernel_rfl) (by kernel_rfl) (fun _ _ _ h => h) (by rfl) (by assumption) ?_ ?_; rotate_left; (focus ((intro w hSw); (try simp only [CellL] at hSw); go_split_ands; go_simp; (try with_reducible rfl); done))
              (try simp only [Act.put, List.setIfInBounds_toArray, List.set_cons_zero, List.set_cons_succ])
              refine take_yes (i := 8) (v := ?_) rfl (by kernel_rfl) (by kernel_rfl) (by kernel_rfl) (fun _ _ _ h => h) (by rfl) (by assumption) ?_ ?_; rotate_left; (focus ((intro w hSw); (try simp only [CellL] at hSw); go_split_ands; go_simp; (try with_reducible rfl); done))
              (try simp only [Act.put, List.setIfInBounds_toArray, List.set_cons_zero, List.set_cons_succ])
              refine take_yes (i := 9) (v := ?_) rfl (by kernel_rfl) (by kernel_rfl) (by kernel_rfl) (fun _ _ _ h => h) (by rfl) (by assumption) ?_ ?_; rotate_left; (focus ((intro w hSw); (try simp only [CellL] at hSw); go_split_ands; go_simp; (try with_reducible rfl); done))
              (try simp only [Act.put, List.setIfInBounds_toArray, List.set_cons_zero, List.set_cons_succ])
              refine take_yes (i := 10) (v := ?_) rfl (by kernel_rfl) (by kernel_rfl) (by kernel_rfl) (fun _ _ _ h => h) (by rfl) (by assumption) ?_ ?_; rotate_left; (focus ((intro w hSw); (try simp only [CellL] at hSw); go_split_ands; go_simp; (try with_reducible rfl); done))
              (try simp only [Act.put, List.setIfInBounds_toArray, List.set_cons_zero, List.set_cons_succ])
              refine take_yes (i := 11) (v := ?_) rfl (by kernel_rfl) (by kernel_rfl) (by kernel_rfl) (fun _ _ _ h => h) (by rfl) (by assumption) ?_ ?_; rotate_left; (focus ((intro w hSw); (try simp only [CellL] at hSw); go_split_ands; go_simp; (try with_reducible rfl); done))
              (try simp only [Act.put, List.setIfInBounds_toArray, List.set_cons_zero, List.set_cons_succ])
              refine call_one (i := 12) rfl (by kernel_rfl) (by rfl) (fun K hK => ?_)
              go_simp
              refine hK.out _ _ (cellL_call (below_new _ _) (by assumption)) (fun hHeld => ?_)
              clear hK K
              (try simp only [Act.put, List.setIfInBounds_toArray, List.set_cons_zero, List.set_cons_succ])
              have HOd := Lib.hid (show kRn.Own w3.drew w1.heap.size _ _ from HO3.out)
              have HBd := Lib.hid HB3.out.drew
              refine call_one (i := 13) rfl (by kernel_rfl) (by rfl) (fun K hK => ?_)
              refine op_app_k kRn (.tmp 94) (.tmp 106) rfl w1.heap.size _ _ rfl (Kind.Own.alloc HOd.out _) _ (some ⟨w3.heap.size, 0, none⟩) 1 1 [⟨X, Y - 1⟩] rfl rfl (HRW w3.drew).out HLE.out (by decide) (cle_alloc HBd.out.size _) ?_
              intro v5 w5 hown5 hg5 hb5 _
              have HO5 := Lib.hid hown5
              have HB5 := Lib.hid ((HBd.out.alloc HBd.out.size _).trans hb5)
              refine hK.out _ _ ⟨((bcell hb5).1 _ _ hbl1).trans ((alloc_keeps w3.drew _ _ _ (Nat.lt_of_lt_of_le hbl1 HB3.out.size)).trans HCL.out.1), ((bcell hb5).1 _ _ hbl1).trans ((alloc_keeps w3.drew _ _ _ (Nat.lt_of_lt_of_le hbl1 HB3.out.size)).trans HCL.out.2.1), HB5.out⟩ (fun hHeld => ?_)
              clear hK K hown5 hg5 hb5
              (try simp only [Act.put, List.setIfInBounds_toArray, List.set_cons_zero, List.set_cons_succ])
              refine take_yes (i := 14) (v := ?_) rfl (by kernel_rfl) (by kernel_rfl) (by kernel_rfl) (fun _ _ _ h => h) (by rfl) (by assumption) ?_ ?_; rotate_left; (focus ((intro w hSw); (try simp only [CellL] at hSw); go_split_ands; go_simp; (try with_reducible rfl); done))
              (try simp only [Act.put, List.setIfInBounds_toArray, List.set_cons_zero, List.set_cons_succ])
              refine wpAnyH_done (by kernel_rfl) ?_ _
              refine NoPanic.normal ?_
              clear hHeld
              go_wp2_with fail
              go_roundw
              case rel => exact ⟨k + 1, some ⟨X, Y - 1⟩, dn ++ [r], by omega, HL4, HO5, (fun h => by cases h), by show ((dn ++ [r]) ++ [_]).length ≤ k + 1; have := HN9.out; rw [List.length_append]; show (dn ++ (some r).toList).length + 1 ≤ k + 1; omega, by go_num, HB5⟩
              case measure => simp [intOf]; omega
            · replace HL3 := Lib.hid (HL3.out rfl)
              clear HL4
              obtain ⟨hg1, -, hfz, -⟩ := HO3.out.at_g HN9.out.symm (by omega)
              have HOF := Lib.hid (own_to HO3.out HN9.out.symm HDD.out (Y - 1))
              have HBF := Lib.hid (HB3.out.setCell (p := ⟨g, D * 2 + 1, none⟩) hg1 (.int .i64 (Y - 1)))
              go_wp2_with fail
              go_roundw
              case rel => exact ⟨k + 1, some ⟨r.fr, Y - 1⟩, dn, by omega, HL3, HOF, (fun h => by cases h), by show (dn ++ [_]).length ≤ k + 1; rw [List.length_append, HDD.out]; simp; omega, by go_num, HBF⟩
              case measure => simp [intOf]; omega
    · have HL2 := Lib.hid (show U = dn ++ o.toList by
        rw [HL.out]
        have h1 : (E.drop k).length ≤ 1 := by rw [List.length_drop]; have := HM.out; omega
        match E.drop k, h1 with
        | [], _ => rfl
        | [x], _ => rfl)
      have hkd : decide ((k : Int) + 1 < (M : Int)) = false := decide_eq_false (by omega)
      have hkd2 : decide (k + 1 < M) = false := decide_eq_false hlt
      go_wp2_with fail
      go_ret
      obtain rfl : n9 = N := by rw [← HN9.out, ← HL2.out]; exact HNN.out
      exact ⟨A9, c9, rfl, by rw [HL2.out]; exact HO.out.mono HB1.out.size, HB1.out.trans (HBW.out.mono HB1.out.size)⟩
end Go.Proofs.YtopjhebhdopjpaaGreat

namespace Go.Proofs.YtopjhebhdopjpaaGreat

def ltB : List UInt8 → List UInt8 → Bool
  | _, [] => false
  | [], _ :: _ => true
  | x :: a, y :: b => if x = y then ltB a b else decide (x.toNat < y.toNat)

theorem ltB_nil (a : List UInt8) : ltB a [] = false := by cases a <;> rfl
theorem ltB_nil_cons (y : UInt8) (b : List UInt8) : ltB [] (y :: b) = true := rfl
theorem ltB_same (x : UInt8) (a b : List UInt8) : ltB (x :: a) (x :: b) = ltB a b := by simp [ltB]
theorem ltB_other {x y : UInt8} (h : x ≠ y) (a b : List UInt8) : ltB (x :: a) (y :: b) = decide (x.toNat < y.toNat) := by simp [ltB, h]
theorem u8_ne {x y : UInt8} (h : x ≠ y) : x.toNat ≠ y.toNat := fun e => h (UInt8.toNat_inj.1 e)
theorem ltB_irrefl : ∀ a : List UInt8, ltB a a = false
  | [] => rfl
  | x :: a => by rw [ltB_same]; exact ltB_irrefl a
theorem ltB_asymm : ∀ {a b : List UInt8}, ltB a b = true → ltB b a = false
  | a, [], h => by rw [ltB_nil] at h; cases h
  | [], y :: b, _ => rfl
  | x :: a, y :: b, h => by
    by_cases e : x = y
    · subst e; rw [ltB_same] at h ⊢; exact ltB_asymm h
    · rw [ltB_other e, decide_eq_true_eq] at h
      rw [ltB_other (Ne.symm e), decide_eq_false_iff_not]; omega
theorem ltB_total : ∀ {a b : List UInt8}, ltB a b = false → ltB b a = false → a = b
  | [], [], _, _ => rfl
  | [], y :: b, h, _ => by cases h
  | x :: a, [], _, h => by cases h
  | x :: a, y :: b, h, h' => by
    by_cases e : x = y
    · subst e; rw [ltB_same] at h h'; rw [ltB_total h h']
    · rw [ltB_other e, decide_eq_false_iff_not] at h
      rw [ltB_other (Ne.symm e), decide_eq_false_iff_not] at h'
      have := u8_ne e
      omega
theorem ltB_trans : ∀ {a b c : List UInt8}, ltB a b = true → ltB b c = true → ltB a c = true
  | a, [], c, h, _ => by rw [ltB_nil] at h; cases h
  | a, y :: b, [], _, h => by cases h
  | [], y :: b, z :: c, _, _ => rfl
  | x :: a, y :: b, z :: c, h, h' => by
    by_cases e : x = y
    · subst e
      rw [ltB_same] at h
      by_cases e' : x = z
      · subst e'; rw [ltB_same] at h' ⊢; exact ltB_trans h h'
      · rw [ltB_other e'] at h' ⊢; exact h'
    · rw [ltB_other e, decide_eq_true_eq] at h
      by_cases e' : y = z
      · subst e'; rw [ltB_other e, decide_eq_true_eq]; exact h
      · rw [ltB_other e', decide_eq_true_eq] at h'
        have e2 : x ≠ z := fun e2 => by subst e2; omega
        rw [ltB_other e2, decide_eq_true_eq]; omega
theorem ltB_of_le_of_lt {a b c : List UInt8} (h : ltB b a = false) (h' : ltB b c = true) : ltB a c = true := by
  cases hab : ltB a b with
  | true => exact ltB_trans hab h'
  | false => rw [ltB_total hab h]; exact h'
theorem ltB_of_lt_of_le {a b c : List UInt8} (h : ltB a b = true) (h' : ltB c b = false) : ltB a c = true := by
  cases hbc : ltB b c with
  | true => exact ltB_trans h hbc
  | false => rw [← ltB_total hbc h']; exact h
theorem leB_trans {a b c : List UInt8} (h : ltB b a = false) (h' : ltB c b = false) : ltB c a = false := by
  cases hc : ltB c a with
  | false => rfl
  | true => rw [ltB_of_lt_of_le hc h] at h'; cases h'
theorem cmp_ltB : ∀ (a b : List UInt8), Lib.compareBytes a b = if ltB a b = true then -1 else if ltB b a = true then 1 else 0
  | [], [] => rfl
  | [], _ :: _ => rfl
  | _ :: _, [] => rfl
  | x :: a, y :: b => by
    unfold Lib.compareBytes
    by_cases e : x = y
    · subst e
      rw [if_neg (UInt8.lt_irrefl x), if_neg (UInt8.lt_irrefl x), ltB_same, ltB_same]; exact cmp_ltB a b
    · rw [ltB_other e, ltB_other (Ne.symm e)]
      simp only [decide_eq_true_eq, UInt8.lt_iff_toNat_lt]
      have := u8_ne e
      by_cases h : x.toNat < y.toNat
      · rw [if_pos h, if_pos h]
      · rw [if_neg h, if_neg h, if_pos (by omega), if_pos (by omega)]
theorem cmp_lt {a b : List UInt8} (h : ltB a b = true) : Lib.compareBytes a b = -1 := by rw [cmp_ltB, if_pos h]
theorem cmp_gt {a b : List UInt8} (h : ltB b a = true) : Lib.compareBytes a b = 1 := by rw [cmp_ltB, if_neg (by rw [ltB_asymm h]; exact Bool.false_ne_true), if_pos h]
theorem cmp_self (a : List UInt8) : Lib.compareBytes a a = 0 := by rw [cmp_ltB, ltB_irrefl]; rfl
theorem ltB_three (a b : List UInt8) : (ltB a b = true ∧ ltB b a = false ∧ a ≠ b) ∨ (ltB a b = false ∧ ltB b a = true ∧ a ≠ b) ∨ (ltB a b = false ∧ ltB b a = false ∧ a = b) := by
  cases h : ltB a b with
  | true => exact .inl ⟨rfl, ltB_asymm h, fun e => by rw [e, ltB_irrefl] at h; cases h⟩
  | false => cases h' : ltB b a with
    | true => exact .inr (.inl ⟨rfl, rfl, fun e => by rw [e, ltB_irrefl] at h'; cases h'⟩)
    | false => exact .inr (.inr ⟨rfl, rfl, ltB_total h h'⟩)

theorem ltB_step {a b : List UInt8} {k : Nat} (ha : k < a.length) (hb : k < b.length) (h : a.getD k 0 = b.getD k 0) : ltB (a.drop k) (b.drop k) = ltB (a.drop (k + 1)) (b.drop (k + 1)) := by
  rw [List.drop_eq_getElem_cons ha, List.drop_eq_getElem_cons hb]
  simp only [List.getD, List.getElem?_eq_getElem ha, List.getElem?_eq_getElem hb, Option.getD_some] at h
  rw [h, ltB_same]
theorem ltB_stop {a b : List UInt8} {k : Nat} (ha : k < a.length) (hb : k < b.length) (h : a.getD k 0 ≠ b.getD k 0) : ltB (a.drop k) (b.drop k) = decide ((a.getD k 0).toNat < (b.getD k 0).toNat) := by
  rw [List.drop_eq_getElem_cons ha, List.drop_eq_getElem_cons hb]
  simp only [List.getD, List.getElem?_eq_getElem ha, List.getElem?_eq_getElem hb, Option.getD_some] at h ⊢
  rw [ltB_other h]
theorem ltB_out {a b : List UInt8} {k : Nat} (h : b.length ≤ k) : ltB (a.drop k) (b.drop k) = false := by rw [List.drop_eq_nil_of_le h, ltB_nil]
theorem ltB_end {a b : List UInt8} {k : Nat} (ha : a.length = k) (hb : k ≤ b.length) : ltB (a.drop k) (b.drop k) = decide (k < b.length) := by
  rw [List.drop_eq_nil_of_le (by omega)]
  by_cases h : k < b.length
  · rw [List.drop_eq_getElem_cons h, ltB_nil_cons, decide_eq_true h]
  · rw [List.drop_eq_nil_of_le (by omega), ltB_nil, decide_eq_false h]

end Go.Proofs.YtopjhebhdopjpaaGreat

namespace Go.Proofs.YtopjhebhdopjpaaGreat

structure Vr where
  rep : Int
  cnt : Int
def rightVr (v : Vr) : Bool := decide (1 ≤ v.rep) && (decide (v.rep ≤ 16) && (decide (1 ≤ v.cnt) && decide (v.cnt ≤ 1099511627776)))
theorem rightVr_iff {v : Vr} : rightVr v = true ↔ 1 ≤ v.rep ∧ v.rep ≤ 16 ∧ 1 ≤ v.cnt ∧ v.cnt ≤ 1099511627776 := by
  unfold rightVr; simp only [Bool.and_eq_true, decide_eq_true_eq]
def lessVr (a b : Vr) : Bool := decide (a.rep < b.rep) || (decide (a.rep = b.rep) && decide (a.cnt < b.cnt))
theorem lessVr_iff {a b : Vr} : lessVr a b = true ↔ a.rep < b.rep ∨ a.rep = b.rep ∧ a.cnt < b.cnt := by
  unfold lessVr; simp only [Bool.or_eq_true, Bool.and_eq_true, decide_eq_true_eq]
theorem lessVr_irrefl (a : Vr) : lessVr a a = false := by
  cases h : lessVr a a with
  | false => rfl
  | true => rw [lessVr_iff] at h; omega
def digC (n : Nat) : UInt8 := UInt8.ofNat (48 + n)
def digF : Nat → Nat → List UInt8
  | 0, n => [digC (n % 10)]
  | f + 1, n => match decide (n < 10) with | true => [digC n] | false => digF f (n / 10) ++ [digC (n % 10)]
def digN (n : Nat) : List UInt8 := digF 20 n
theorem digF_small {f n : Nat} (h : n < 10) : digF f n = [digC n] := by
  cases f with
  | zero => rw [digF, Nat.mod_eq_of_lt h]
  | succ f => rw [digF, decide_eq_true h]
theorem digF_big {f n : Nat} (h : 10 ≤ n) : digF (f + 1) n = digF f (n / 10) ++ [digC (n % 10)] := by rw [digF, decide_eq_false (by omega)]
def DigSt (n : Nat) (s : List UInt8) (r : Nat) : Prop := ∃ f, r < 10 ^ (f + 1) ∧ ((s = [] ∧ digN n = digF f r) ∨ (s ≠ [] ∧ digN n = (match decide (r = 0) with | true => [] | false => digF f r) ++ s))
theorem DigSt.start {n : Nat} (h : n ≤ 1099511627776) : DigSt n [] n := ⟨20, by omega, .inl ⟨rfl, rfl⟩⟩
theorem DigSt.step {n r : Nat} {s : List UInt8} (h : DigSt n s r) (hc : s = [] ∨ 0 < r) : DigSt n (digC (r % 10) :: s) (r / 10) := by
  obtain ⟨f, hf, h⟩ := h
  have e : digN n = digF f r ++ s := by
    rcases h with ⟨h1, h2⟩ | ⟨h1, h2⟩
    · rw [h2, h1, List.append_nil]
    · rw [h2, decide_eq_false (by rcases hc with hc | hc; exact absurd hc h1; omega)]
  by_cases hr : r < 10
  · refine ⟨0, by omega, .inr ⟨by simp, ?_⟩⟩
    rw [decide_eq_true (show r / 10 = 0 by omega), e, digF_small hr, Nat.mod_eq_of_lt hr]; rfl
  · cases f with
    | zero => simp at hf; omega
    | succ f =>
      refine ⟨f, by rw [Nat.pow_succ] at hf; omega, .inr ⟨by simp, ?_⟩⟩
      rw [decide_eq_false (show ¬ r / 10 = 0 by omega), e, digF_big (by omega), List.append_assoc]; rfl
theorem DigSt.done {n : Nat} {s : List UInt8} (h : DigSt n s 0) (hs : s ≠ []) : s = digN n := by
  obtain ⟨f, _, h⟩ := h
  rcases h with ⟨h1, _⟩ | ⟨_, h2⟩
  · exact absurd h1 hs
  · exact h2.symm

def RiseVr (l : List Vr) : Prop := l.Pairwise fun a b => lessVr a b = true
structure SortVr (l r : List Vr) : Prop where
  rise : RiseVr r
  mem : ∀ v, v ∈ r ↔ v ∈ l ∧ rightVr v = true
theorem SortVr.one {v : Vr} {r : List Vr} (h : SortVr [v, v] r) (hv : rightVr v = true) : r = [v] := by
  have h1 : ∀ x ∈ r, x = v := fun x hx => by have := ((h.mem x).1 hx).1; simpa using this
  match r, h with
  | [], h => have := (h.mem v).2 ⟨by simp, hv⟩; cases this
  | [x], h => rw [h1 x (List.mem_singleton.2 rfl)]
  | x :: y :: r, h =>
    have h2 := (List.pairwise_cons.1 h.rise).1 y (List.mem_cons_self ..)
    rw [h1 x (List.mem_cons_self ..), h1 y (by simp), lessVr_irrefl] at h2
    cases h2
theorem SortVr.next {l r : List Vr} (h : SortVr l r) {k : Nat} {a b : Vr} (ha : r[k]? = some a) (hb : r[k + 1]? = some b) : lessVr a b = true := by
  obtain ⟨h1, rfl⟩ := List.getElem?_eq_some_iff.1 ha
  obtain ⟨h2, rfl⟩ := List.getElem?_eq_some_iff.1 hb
  exact List.pairwise_iff_getElem.1 h.rise k (k + 1) h1 h2 (by omega)
end Go.Proofs.YtopjhebhdopjpaaGreat

namespace Go.Proofs.YtopjhebhdopjpaaGreat

structure Kn where
  rep : Int
  runs : List Rn
theorem kn_ext {a b : Kn} (h1 : a.rep = b.rep) (h2 : a.runs = b.runs) : a = b := by cases a; cases b; simp_all
def partV (k : Kn) (r : Int) : List Rn := match decide (k.rep = r) with
  | true => k.runs
  | false => []
theorem partV_yes {k : Kn} {r : Int} (h : k.rep = r) : partV k r = k.runs := by unfold partV; rw [decide_eq_true h]
theorem partV_no {k : Kn} {r : Int} (h : k.rep ≠ r) : partV k r = [] := by unfold partV; rw [decide_eq_false h]
def runsV : List Kn → Int → List Rn
  | [], _ => []
  | k :: s, r => partV k r ++ runsV s r
theorem runsV_append : ∀ (a b : List Kn) (r : Int), runsV (a ++ b) r = runsV a r ++ runsV b r
  | [], _, _ => rfl
  | k :: a, b, r => by rw [List.cons_append, runsV, runsV, runsV_append a b, List.append_assoc]
theorem runsV_none : ∀ {s : List Kn} {r : Int}, (∀ k ∈ s, k.rep ≠ r) → runsV s r = []
  | [], _, _ => rfl
  | k :: s, r, h => by rw [runsV, partV_no (h k (List.mem_cons_self ..)), runsV_none fun x hx => h x (List.mem_cons_of_mem _ hx)]; rfl
def hasK (s : List Kn) (r n : Int) : Bool := decide (1 ≤ r) && (decide (r ≤ 16) && hasC (runsV s r) n)
theorem hasK_in {s : List Kn} {r n : Int} (h1 : 1 ≤ r) (h2 : r ≤ 16) : hasK s r n = hasC (runsV s r) n := by unfold hasK; rw [decide_eq_true h1, decide_eq_true h2]; rfl
theorem hasK_out {s : List Kn} {r n : Int} (h : r < 1 ∨ 16 < r) : hasK s r n = false := by
  unfold hasK
  rcases h with h | h
  · rw [decide_eq_false (by omega : ¬ 1 ≤ r)]; rfl
  · rw [decide_eq_false (by omega : ¬ r ≤ 16), Bool.false_and, Bool.and_false]
def oneK (k : Kn) : Bool := (match k.runs with | [] => false | _ :: _ => true) && rightC k.runs
theorem oneK_iff {k : Kn} : oneK k = true ↔ k.runs ≠ [] ∧ rightC k.runs = true := by
  unfold oneK
  cases k.runs <;> simp
def upS : Int → List Kn → Bool
  | _, [] => true
  | c, k :: s => decide (c < k.rep) && (decide (k.rep ≤ 16) && (oneK k && upS k.rep s))
theorem upS_cons {c : Int} {k : Kn} {s : List Kn} : upS c (k :: s) = true ↔ c < k.rep ∧ k.rep ≤ 16 ∧ oneK k = true ∧ upS k.rep s = true := by
  rw [upS]; simp only [Bool.and_eq_true, decide_eq_true_eq]
def rightS (s : List Kn) : Bool := upS 0 s
theorem upS_all : ∀ {s : List Kn} {c : Int}, upS c s = true → ∀ k ∈ s, c < k.rep ∧ k.rep ≤ 16 ∧ oneK k = true
  | k :: s, c, h, x, hx => by
    obtain ⟨h1, h2, h3, h4⟩ := upS_cons.1 h
    rcases List.mem_cons.1 hx with rfl | hx
    · exact ⟨h1, h2, h3⟩
    · have := upS_all h4 x hx
      exact ⟨by omega, this.2⟩
theorem upS_snoc : ∀ {s : List Kn} {c : Int} {k : Kn}, upS c s = true → c < k.rep → (∀ x ∈ s, x.rep < k.rep) → k.rep ≤ 16 → oneK k = true → upS c (s ++ [k]) = true
  | [], _, _, _, h1, _, h3, h4 => upS_cons.2 ⟨h1, h3, h4, rfl⟩
  | x :: s, c, k, h, h1, h2, h3, h4 => by
    obtain ⟨a1, a2, a3, a4⟩ := upS_cons.1 h
    exact upS_cons.2 ⟨a1, a2, a3, upS_snoc a4 (h2 x (List.mem_cons_self ..)) (fun y hy => h2 y (List.mem_cons_of_mem _ hy)) h3 h4⟩
theorem upS_runs : ∀ {s : List Kn} {c r : Int}, upS c s = true → rightC (runsV s r) = true
  | [], _, _, _ => rfl
  | k :: s, c, r, h => by
    obtain ⟨h1, h2, h3, h4⟩ := upS_cons.1 h
    rw [runsV]
    by_cases e : k.rep = r
    · rw [partV_yes e, runsV_none (fun x hx => by have := (upS_all h4 x hx).1; omega), List.append_nil]
      exact (oneK_iff.1 h3).2
    · rw [partV_no e]
      exact upS_runs h4
theorem upS_same : ∀ {a b : List Kn} {c d : Int}, upS c a = true → upS d b = true → (∀ r, runsV a r = runsV b r) → a = b
  | [], [], _, _, _, _, _ => rfl
  | [], k :: b, _, _, _, hb, h => by
    obtain ⟨-, -, h3, -⟩ := upS_cons.1 hb
    have h1 := h k.rep
    rw [runsV, runsV, partV_yes rfl] at h1
    exact absurd (List.append_eq_nil_iff.1 h1.symm).1 (oneK_iff.1 h3).1
  | k :: a, [], _, _, ha, _, h => by
    obtain ⟨-, -, h3, -⟩ := upS_cons.1 ha
    have h1 := h k.rep
    rw [runsV, runsV, partV_yes rfl] at h1
    exact absurd (List.append_eq_nil_iff.1 h1).1 (oneK_iff.1 h3).1
  | k :: a, x :: b, c, d, ha, hb, h => by
    obtain ⟨-, -, h3, h4⟩ := upS_cons.1 ha
    obtain ⟨-, -, g3, g4⟩ := upS_cons.1 hb
    have ua : ∀ r, r ≤ k.rep → runsV a r = [] := fun r hr => runsV_none fun y hy => by have := (upS_all h4 y hy).1; omega
    have ub : ∀ r, r ≤ x.rep → runsV b r = [] := fun r hr => runsV_none fun y hy => by have := (upS_all g4 y hy).1; omega
    have e : k.rep = x.rep := by
      rcases Int.lt_trichotomy k.rep x.rep with e | e | e
      · have h1 := h k.rep
        rw [runsV, runsV, partV_yes rfl, partV_no (by omega), ub _ (by omega)] at h1
        exact absurd (List.append_eq_nil_iff.1 h1).1 (oneK_iff.1 h3).1
      · exact e
      · have h1 := h x.rep
        rw [runsV, runsV, partV_yes (k := x) rfl, partV_no (by omega), ua _ (by omega)] at h1
        exact absurd (List.append_eq_nil_iff.1 h1.symm).1 (oneK_iff.1 g3).1
    have e2 : k.runs = x.runs := by
      have h1 := h k.rep
      rwa [runsV, runsV, partV_yes rfl, partV_yes e.symm, ua _ (by omega), ub _ (by omega), List.append_nil, List.append_nil] at h1
    rw [kn_ext e e2, upS_same h4 g4 fun r => by
      by_cases hr : r ≤ k.rep
      · rw [ua r hr, ub r (by omega)]
      · have h1 := h r
        rwa [runsV, runsV, partV_no (by omega), partV_no (by omega)] at h1]
theorem rightS_unique {a b : List Kn} (ha : rightS a = true) (hb : rightS b = true) (h : ∀ r n, hasK a r n = hasK b r n) : a = b :=
  upS_same ha hb fun r => by
    by_cases hr : 1 ≤ r ∧ r ≤ 16
    · exact rightC_unique (upS_runs ha) (upS_runs hb) fun n => by have := h r n; rwa [hasK_in hr.1 hr.2, hasK_in hr.1 hr.2] at this
    · rw [runsV_none fun k hk => by have := upS_all ha k hk; omega, runsV_none fun k hk => by have := upS_all hb k hk; omega]
def putK (n : Int) (l : List Rn) : List Kn := match l with
  | [] => []
  | _ :: _ => [⟨n, l⟩]
theorem putK_nil (n : Int) : putK n [] = [] := rfl
theorem putK_some {n : Int} {l : List Rn} (h : l ≠ []) : putK n l = [⟨n, l⟩] := by
  unfold putK
  cases l
  · exact absurd rfl h
  · rfl
def colS (f : Int → List Rn) : Nat → List Kn
  | 0 => []
  | k + 1 => colS f k ++ putK ((k : Int) + 1) (f ((k : Int) + 1))
theorem colS_succ (f : Int → List Rn) (k : Nat) : colS f (k + 1) = colS f k ++ putK ((k : Int) + 1) (f ((k : Int) + 1)) := rfl
theorem colS_reps (f : Int → List Rn) : ∀ (k : Nat), ∀ x ∈ colS f k, 1 ≤ x.rep ∧ x.rep ≤ k
  | 0, x, hx => by cases hx
  | k + 1, x, hx => by
    rw [colS_succ] at hx
    rcases List.mem_append.1 hx with hx | hx
    · have := colS_reps f k x hx; omega
    · by_cases h : f ((k : Int) + 1) = []
      · rw [h] at hx; cases hx
      · rw [putK_some h] at hx
        rcases List.mem_singleton.1 hx with rfl
        exact ⟨by show (1 : Int) ≤ (k : Int) + 1; omega, by show (k : Int) + 1 ≤ ((k + 1 : Nat) : Int); omega⟩
theorem colS_up {f : Int → List Rn} (hf : ∀ r, rightC (f r) = true) : ∀ {k : Nat}, k ≤ 16 → rightS (colS f k) = true
  | 0, _ => rfl
  | k + 1, hk => by
    rw [colS_succ]
    by_cases h : f ((k : Int) + 1) = []
    · rw [h, putK_nil, List.append_nil]
      exact colS_up hf (by omega)
    · rw [putK_some h]
      exact upS_snoc (colS_up hf (by omega)) (by show (0 : Int) < (k : Int) + 1; omega) (fun x hx => by have := colS_reps f k x hx; show x.rep < (k : Int) + 1; omega) (by show (k : Int) + 1 ≤ 16; omega) (oneK_iff.2 ⟨h, hf _⟩)
theorem putK_runs (n : Int) (l : List Rn) (r : Int) : runsV (putK n l) r = match decide (n = r) with | true => l | false => [] := by
  by_cases h : l = []
  · subst h
    cases decide (n = r) <;> rfl
  · rw [putK_some h, runsV, runsV, List.append_nil]
    rfl
theorem colS_runs (f : Int → List Rn) : ∀ (k : Nat) (r : Int), runsV (colS f k) r = match decide (1 ≤ r) && decide (r ≤ k) with | true => f r | false => []
  | 0, r => by
    have : (decide (1 ≤ r) && decide (r ≤ ((0 : Nat) : Int))) = false := by
      by_cases h : 1 ≤ r
      · rw [decide_eq_false (by omega : ¬ r ≤ ((0 : Nat) : Int)), Bool.and_false]
      · rw [decide_eq_false h]; rfl
    rw [this]; rfl
  | k + 1, r => by
    rw [colS_succ, runsV_append, colS_runs f k, putK_runs]
    by_cases h : (k : Int) + 1 = r
    · rw [decide_eq_true h, decide_eq_false (by omega : ¬ r ≤ (k : Int)), Bool.and_false, decide_eq_true (by omega : 1 ≤ r), decide_eq_true (by omega : r ≤ ((k + 1 : Nat) : Int))]
      show [] ++ f ((k : Int) + 1) = f r
      rw [h]; rfl
    · rw [decide_eq_false h, List.append_nil, show decide (r ≤ ((k + 1 : Nat) : Int)) = decide (r ≤ (k : Int)) from by
        rw [Bool.eq_iff_iff]; simp only [decide_eq_true_eq]; omega]
def makeS (op : Int) (a b : List Kn) : List Kn := colS (fun r => makeC op (runsV a r) (runsV b r)) 16
def ofS (s : List Kn) : List Kn := makeS 1 s []
theorem makeS_right (op : Int) (a b : List Kn) : rightS (makeS op a b) = true := colS_up (fun _ => makeC_right _ _ _) (Nat.le_refl _)
theorem makeS_runs {op : Int} {a b : List Kn} {r : Int} (h1 : 1 ≤ r) (h2 : r ≤ 16) : runsV (makeS op a b) r = makeC op (runsV a r) (runsV b r) := by
  unfold makeS
  rw [colS_runs, decide_eq_true h1, decide_eq_true (show r ≤ ((16 : Nat) : Int) from h2)]; rfl
theorem makeS_has (op : Int) (a b : List Kn) (r n : Int) : hasK (makeS op a b) r n = gC op (hasK a r n) (hasK b r n) := by
  by_cases hr : 1 ≤ r ∧ r ≤ 16
  · rw [hasK_in hr.1 hr.2, hasK_in hr.1 hr.2, hasK_in hr.1 hr.2, makeS_runs hr.1 hr.2, makeC_has]
  · rw [hasK_out (by omega), hasK_out (by omega), hasK_out (by omega), gC_no]
theorem makeS_unique {op : Int} {a b u : List Kn} (h : rightS u = true) (hs : ∀ r n, hasK u r n = gC op (hasK a r n) (hasK b r n)) : u = makeS op a b :=
  rightS_unique h (makeS_right op a b) fun r n => by rw [hs, makeS_has]
theorem ofS_right (s : List Kn) : rightS (ofS s) = true := makeS_right 1 s []
theorem hasK_nil (r n : Int) : hasK [] r n = false := by unfold hasK; rw [runsV, hasC_nil, Bool.and_false, Bool.and_false]
theorem ofS_has (s : List Kn) (r n : Int) : hasK (ofS s) r n = hasK s r n := by unfold ofS; rw [makeS_has, gC1, hasK_nil, Bool.or_false]
theorem ofS_unique {s u : List Kn} (h : rightS u = true) (hs : ∀ r n, hasK u r n = hasK s r n) : u = ofS s := rightS_unique h (ofS_right s) fun r n => by rw [hs, ofS_has]
theorem ofS_iff {a b : List Kn} : ofS a = ofS b ↔ ∀ r n, hasK a r n = hasK b r n :=
  ⟨fun h r n => by rw [← ofS_has a, ← ofS_has b, h], fun h => ofS_unique (ofS_right a) fun r n => by rw [ofS_has, h]⟩
theorem makeS_less {a b : List Kn} : makeS 3 a b = [] ↔ ∀ r n, hasK a r n = true → hasK b r n = true :=
  ⟨fun h r n h1 => by
    have h2 := makeS_has 3 a b r n
    rw [h, hasK_nil, gC3, h1] at h2
    cases h3 : hasK b r n
    · rw [h3] at h2; cases h2
    · rfl,
  fun h => (makeS_unique (u := []) rfl fun r n => by
    rw [hasK_nil, gC3]
    cases h1 : hasK a r n
    · rfl
    · rw [h r n h1]; rfl).symm⟩
theorem makeS_back1 (a b : List Kn) : makeS 1 b a = makeS 1 a b := (makeS_unique (makeS_right 1 a b) fun r n => by rw [makeS_has, gC1, gC1, Bool.or_comm]).symm
theorem makeS_on (a b : List Kn) : makeS 3 a (makeS 1 a b) = [] := makeS_less.2 fun r n h => by rw [makeS_has, gC1, h]; rfl
theorem colS_len (f : Int → List Rn) : ∀ k : Nat, (colS f k).length ≤ k
  | 0 => Nat.le_refl _
  | k + 1 => by
    have h1 := colS_len f k
    have h2 : (putK ((k : Int) + 1) (f ((k : Int) + 1))).length ≤ 1 := by
      by_cases h : f ((k : Int) + 1) = []
      · rw [h]; exact Nat.zero_le _
      · rw [putK_some h]; exact Nat.le_refl _
    rw [colS_succ, List.length_append]
    omega
def oneS (v : Vr) : List Kn := [⟨v.rep, [⟨v.cnt, v.cnt⟩]⟩]
def addS (s : List Kn) (v : Vr) : List Kn := match rightVr v with
  | true => makeS 1 s (oneS v)
  | false => s
theorem addS_right {s : List Kn} {v : Vr} (h : rightS s = true) : rightS (addS s v) = true := by
  unfold addS
  cases rightVr v
  · exact h
  · exact makeS_right _ _ _
def addsS (s : List Kn) (l : List Vr) : List Kn := l.foldl addS (ofS s)
end Go.Proofs.YtopjhebhdopjpaaGreat

namespace Go.Proofs.YtopjhebhdopjpaaGreat
open Go.RowKit

structure Ks where
  rep : Int
  A : Option Addr
  n : Nat
  c : Nat
def ksCells (k : Ks) : List Value := [.int .i64 k.rep, .slice k.A k.n k.c]
noncomputable def kKs : Kind Tryz.prog Ks where
  ty := 46
  el := 64
  size := 2
  bytes := 32
  zero := .agg #[.int .i64 0, .slice none 0 0]
  cells := ksCells
  len := fun _ => rfl
  one := fun r u hu => by simp [ksCells] at hu; rcases hu with rfl | rfl <;> rfl
  pos := by decide
  under := Tryz.underlying46
  info := by kernel_rfl
  zsize := rfl
def RdK (w : World) (B : Nat) (A : Option Addr) (c : Nat) (s : List Kn) : Prop := ∃ ks : List Ks, kKs.Rd w B A c ks ∧ ks.length = s.length ∧ ∀ (i : Nat) (k : Ks) (x : Kn), ks[i]? = some k → s[i]? = some x → k.rep = x.rep ∧ k.n = x.runs.length ∧ kRn.Rd w B k.A k.c x.runs
theorem RdK.below {w w' : World} {B : Nat} {A : Option Addr} {c : Nat} {s : List Kn} (h : RdK w B A c s) (hb : Below B w w') : RdK w' B A c s := by
  obtain ⟨ks, h1, h2, h3⟩ := h
  exact ⟨ks, h1.below hb, h2, fun i k x hk hx => ⟨(h3 i k x hk hx).1, (h3 i k x hk hx).2.1, (h3 i k x hk hx).2.2.below hb⟩⟩
theorem RdK.call {w w' : World} {A : Option Addr} {c : Nat} {s : List Kn} (h : RdK w w.heap.size A c s) (hb : Below w.heap.size w w') : RdK w' w'.heap.size A c s := by
  obtain ⟨ks, h1, h2, h3⟩ := h
  exact ⟨ks, h1.call hb, h2, fun i k x hk hx => ⟨(h3 i k x hk hx).1, (h3 i k x hk hx).2.1, (h3 i k x hk hx).2.2.call hb⟩⟩
theorem RdK.room {w : World} {B : Nat} {A : Option Addr} {c : Nat} {s : List Kn} (h : RdK w B A c s) : s.length ≤ c := by
  obtain ⟨ks, h1, h2, -⟩ := h
  rw [← h2]; exact h1.room
theorem rdk_max {w : World} {B : Nat} {A : Option Addr} {c n : Nat} {s : List Kn} (h : RdK w B A c s) (hn : n = s.length) : n ≤ 9223372036854775807 := by
  obtain ⟨ks, h1, h2, -⟩ := h
  exact rd_maxC h1 (hn.trans h2.symm)
theorem knowns_at {w : World} {B : Nat} {A : Option Addr} {c : Nat} {s : List Kn} (h : RdK w B A c s) (hp : 0 < s.length) :
    ∃ b o, A = some ⟨b, o, none⟩ ∧ b < B ∧ ∀ k x, s[k]? = some x → ∃ (A' : Option Addr) (n' c' : Nat), n' = x.runs.length ∧ kRn.Rd w B A' c' x.runs ∧ w.cell? ⟨b, o + k * 2, none⟩ = some (.int .i64 x.rep) ∧ w.cell? ⟨b, o + k * 2 + 1, none⟩ = some (.slice A' n' c') := by
  obtain ⟨ks, h1, h2, h3⟩ := h
  obtain ⟨b, o, e1, e2, e3⟩ := h1.at_ (by omega)
  refine ⟨b, o, e1, e2, fun k x hx => ?_⟩
  obtain ⟨y, hy⟩ : ∃ y, ks[k]? = some y := ⟨_, List.getElem?_eq_getElem (by have := (List.getElem?_eq_some_iff.1 hx).1; omega)⟩
  obtain ⟨g1, g2, g3⟩ := h3 k y x hy hx
  refine ⟨y.A, y.n, y.c, g2, g3, ?_, ?_⟩
  · have := e3 k y hy 0 _ rfl
    rw [← g1]; exact this
  · exact e3 k y hy 1 _ rfl
def sizeV (m : Nat) (s : List Kn) : Prop := s.length ≤ m ∧ ∀ k ∈ s, k.runs.length ≤ m
theorem runsV_len {m : Nat} : ∀ {s : List Kn} (r : Int), (∀ k ∈ s, k.runs.length ≤ m) → (runsV s r).length ≤ m * s.length
  | [], _, _ => Nat.zero_le _
  | k :: s, r, h => by
    have h1 := runsV_len (s := s) r fun x hx => h x (List.mem_cons_of_mem _ hx)
    have h2 : (partV k r).length ≤ m := by
      by_cases e : k.rep = r
      · rw [partV_yes e]; exact h k (List.mem_cons_self ..)
      · rw [partV_no e]; exact Nat.zero_le _
    rw [runsV, List.length_append, List.length_cons, Nat.mul_succ]
    omega
theorem runsV_take {s : List Kn} {k : Nat} {x : Kn} (r : Int) (h : s[k]? = some x) : runsV (s.take (k + 1)) r = runsV (s.take k) r ++ partV x r := by
  rw [List.take_add_one, h, runsV_append]
  show _ ++ (partV x r ++ []) = _
  rw [List.append_nil]
end Go.Proofs.YtopjhebhdopjpaaGreat

namespace Go.Proofs.YtopjhebhdopjpaaGreat
open Go.ChangeShapes Go.WideShapes Go.ChangeAt Go.RowKit

theorem kcells_runs : Tryz.prog.cellsOf 62 = 1 := by kernel_rfl
def KnIn (W : World) (x : Ks × Kn) : Prop := x.1.rep = x.2.rep ∧ x.1.n = x.2.runs.length ∧ kRn.Rd W W.heap.size x.1.A x.1.c x.2.runs
set_option maxRecDepth 100000 in
theorem kn_of {H : Type} {enc : TypeId × Value → H} {W : World} (n : Nat) (cs : List Value) (y : DataW H × List MemPlace) (hl : cs.length = 2)
    (hy : DataW.trod enc Tryz.prog W 0 (fun _ => true) true n 64 cs = some y) : ∃ x : Ks × Kn, cs = ksCells x.1 ∧ KnIn W x := by
  obtain ⟨xs, n', _, rfl, -, hlen, hf⟩ := DataW.trod_struct Tryz.underlying64 hy
  match xs, hlen with
  | [y0, y1], _ =>
    have h0 := hf 0 _ rfl
    have h1 := hf 1 _ rfl
    match cs, hl with
    | [a, b], _ =>
      have h0 : DataW.trod enc Tryz.prog W 0 (fun _ => true) true n' 3 (([a, b].drop 0).take (Tryz.prog.cellsOf 3)) = some y0 := by simpa using h0
      have h1 : DataW.trod enc Tryz.prog W 0 (fun _ => true) true n' 62 (([a, b].drop 1).take (Tryz.prog.cellsOf 62)) = some y1 := by simpa using h1
      rw [rcells_int] at h0
      rw [kcells_runs] at h1
      obtain ⟨i, e0, -, w0⟩ := DataW.trod_int Tryz.underlying3 h0
      obtain ⟨A, c, l, e1, g1, -, g2, g3⟩ := cells_slice rnCells (fun _ => True) Tryz.underlying62 (k := 2) (by kernel_rfl) (by omega) rn_of h1
      simp at e0 e1
      subst e0 e1
      exact ⟨(⟨i, A, l.length, c⟩, ⟨i, l⟩), rfl, rfl, rfl, g1, g2, g3⟩
end Go.Proofs.YtopjhebhdopjpaaGreat

namespace Go.Proofs.YtopjhebhdopjpaaGreat

structure Rng where
  lo : List UInt8
  hi : List UInt8
  op : Bool
def zeroR : Rng := ⟨[], [], false⟩
def rightR (r : Rng) : Bool := decide (r.lo.length ≤ 17) && (match r.op with | true => r.hi.isEmpty | false => decide (r.hi.length ≤ 17) && ltB r.lo r.hi)
def aheadR (r : Rng) (s : List UInt8) : Bool := r.op || ltB s r.hi
def hasR (r : Rng) (s : List UInt8) : Bool := rightR r && !ltB s r.lo && aheadR r s
theorem rightR_open {r : Rng} (h : r.op = true) : rightR r = (decide (r.lo.length ≤ 17) && r.hi.isEmpty) := by unfold rightR; rw [h]
theorem rightR_shut {r : Rng} (h : r.op = false) : rightR r = (decide (r.lo.length ≤ 17) && (decide (r.hi.length ≤ 17) && ltB r.lo r.hi)) := by unfold rightR; rw [h]
theorem rightR_lo {r : Rng} (h : rightR r = true) : r.lo.length ≤ 17 := by
  unfold rightR at h; simp only [Bool.and_eq_true, decide_eq_true_eq] at h; exact h.1
theorem rightR_hi {r : Rng} (h : rightR r = true) : r.hi.length ≤ 17 := by
  cases ho : r.op with
  | true => rw [rightR_open ho] at h; simp only [Bool.and_eq_true, List.isEmpty_iff] at h; rw [h.2]; simp
  | false => rw [rightR_shut ho] at h; simp only [Bool.and_eq_true, decide_eq_true_eq] at h; exact h.2.1
theorem rightR_op {r : Rng} (h : rightR r = true) (ho : r.op = true) : r.hi = [] := by
  rw [rightR_open ho] at h; simp only [Bool.and_eq_true, List.isEmpty_iff] at h; exact h.2
theorem rightR_lt {r : Rng} (h : rightR r = true) (ho : r.op = false) : ltB r.lo r.hi = true := by
  rw [rightR_shut ho] at h; simp only [Bool.and_eq_true, decide_eq_true_eq] at h; exact h.2.2
theorem rightR_iff {r : Rng} : rightR r = true ↔ r.lo.length ≤ 17 ∧ r.hi.length ≤ 17 ∧ (r.op = true → r.hi = []) ∧ (r.op = false → ltB r.lo r.hi = true) := by
  constructor
  · intro h; exact ⟨rightR_lo h, rightR_hi h, rightR_op h, rightR_lt h⟩
  · rintro ⟨h1, h2, h3, h4⟩
    cases ho : r.op with
    | true => rw [rightR_open ho, decide_eq_true h1, h3 ho]; rfl
    | false => rw [rightR_shut ho, decide_eq_true h1, decide_eq_true h2, h4 ho]; rfl
theorem rightR_first {r : Rng} (h : rightR r = true) : aheadR r r.lo = true := by
  unfold aheadR
  cases ho : r.op with
  | true => rfl
  | false => rw [rightR_lt h ho]; rfl
def endLt (r t : Rng) : Bool := !r.op && (t.op || ltB r.hi t.hi)
theorem end_same {r t : Rng} (hr : rightR r = true) (ht : rightR t = true) (h : endLt r t = false) (h' : endLt t r = false) : r.hi = t.hi ∧ r.op = t.op := by
  unfold endLt at h h'
  cases ho : r.op <;> cases hp : t.op <;> rw [ho, hp] at h h' <;> first | (cases h; done) | (cases h'; done) | skip
  · simp only [Bool.not_false, Bool.true_and, Bool.false_or] at h h'
    exact ⟨ltB_total h h', rfl⟩
  · exact ⟨by rw [rightR_op hr ho, rightR_op ht hp], rfl⟩
end Go.Proofs.YtopjhebhdopjpaaGreat
