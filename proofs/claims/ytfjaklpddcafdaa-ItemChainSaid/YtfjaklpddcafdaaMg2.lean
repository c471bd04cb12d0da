/-
  Several texts in one: ShelfCmp, KeyA, KeyB, RgsPure, Rgs, ItmA, ItmB, ItmC, ItmD, ItmE, ItmMk, RgsSets.
-/
import Derived.Shelf.Small.Strs
import Derived.Test.YtfjaklpddcafdaaProg
import Derived.Outline
import Derived.Deep.RegionHeld3
import Derived.Deep.RegionLaw
import Derived.Test.YtfjaklpddcafdaaMg1
namespace Go.Proofs
open Go.Shelf
def Try.lays106_ren : Go.Shelf.Ren := ⟨fun | 106 => 52 | 213 => 60 | 265 => 65 | n => n, fun | 9 => 9 | 3 => 3 | n => n, fun | n => n⟩
theorem Try.lays106 : Go.Proofs.Lays.n106 Try.prog Try.lays106_ren := {
  mixed := by kernel_rfl
  f106 := Try.func52.trans (congrArg some (by kernel_rfl))
  f213 := Try.func60.trans (congrArg some (by kernel_rfl))
  f265 := Try.func65.trans (congrArg some (by kernel_rfl))
  t3 := Try.underlying3
  a3 := Try.isAgg3
  z3 := Try.sizeOf3
  v3 := Try.zeroValue3
  t9 := Try.underlying9
  a9 := Try.isAgg9
  z9 := Try.sizeOf9
  v9 := Try.zeroValue9 }
open Go.RowKit in
theorem Try.strings_Compare (a b : ByteArray) (w : World) :
    Calls Try.prog 52 #[.string a, .string b] w fun e w' => e = .returned (.int .i64 (Lib.compareBytes a.data.toList b.data.toList)) ∧ w' = w := Any.strings_Compare Try.lays106 a b w
end Go.Proofs

namespace Go.Proofs.Ytfjaklpddcafdaa
open Go.RowKit

theorem txt_at (l : List UInt8) (k : Nat) (h : k < (str l).size) : (str l)[k] = l.getD k 0 := str_get l k (by rwa [str_size] at h)

theorem key_cmp (a b : List UInt8) (w : World) : Calls Try.prog 42 #[.string (str a), .string (str b)] w fun e w' => e = .returned (.int .i64 (Lib.compareBytes a b)) ∧ w = w' := by
  have K := Try.strings_Compare (str a) (str b) w
  rw [str_data, str_data] at K
  have K := Lib.hid K
  go_enter Try.func42, Try.ntmps42
  go_wp2_with ((with_reducible refine K.out.mono ?_); rintro e w' ⟨rfl, rfl⟩)
  go_ret
  exact ⟨rfl, rfl⟩

def rightB (k : List UInt8) : Bool := decide (1 ≤ k.length) && decide (k.length ≤ 16)
def edgeB (k : List UInt8) : Bool := decide (k.length ≤ 17)
theorem key_right (k : List UInt8) (w : World) : Calls Try.prog 26 #[.string (str k)] w fun e w' => e = .returned (.bool (rightB k)) ∧ w = w' := by
  have hz : (str k).size = k.length := str_size k
  have hE : (str k).toList = k := str_toList k
  generalize str k = S at hz hE ⊢
  by_cases h : k = []
  · have h1 : S.toList = [] := by rw [hE, h]
    have HB : Hid (rightB k = false) := by subst h; exact rfl
    clear hE hz h
    go_enter Try.func26, Try.ntmps26
    go_wp2_with fail
    go_ret
    exact ⟨ret_bool HB.out.symm, rfl⟩
  · have h1 : (S.toList == []) = false := by rw [hE]; simpa using h
    have h2 : 0 < k.length := List.length_pos_iff.2 h
    have HB : Hid (decide ((S.size : Int) ≤ 16) = rightB k) := by
      unfold rightB
      rw [decide_eq_true (show 1 ≤ k.length by omega), Bool.true_and, hz]
      exact decide_eq_decide.2 (by omega)
    clear hE h hz
    go_enter Try.func26, Try.ntmps26
    go_wp2_with fail
    go_ret
    exact ⟨ret_bool HB.out, rfl⟩
theorem ref_right (k : List UInt8) (w : World) : Calls Try.prog 28 #[.string (str k)] w fun e w' => e = .returned (.bool (rightB k)) ∧ w = w' := by
  have hz : (str k).size = k.length := str_size k
  generalize str k = S at hz ⊢
  by_cases h : 1 ≤ S.size
  · have HB : Hid (decide ((S.size : Int) ≤ 16) = rightB k) := by
      unfold rightB
      rw [decide_eq_true (show 1 ≤ k.length by omega), Bool.true_and, hz]
      exact decide_eq_decide.2 (by omega)
    clear hz
    go_enter Try.func28, Try.ntmps28
    go_wp2_with fail
    go_ret
    exact ⟨ret_bool HB.out, rfl⟩
  · have HB : Hid (false = rightB k) := by
      unfold rightB
      rw [decide_eq_false (show ¬ 1 ≤ k.length by omega), Bool.false_and]
      exact rfl
    clear hz
    go_enter Try.func28, Try.ntmps28
    go_wp2_with fail
    go_ret
    exact ⟨ret_bool HB.out, rfl⟩
theorem key_edge (k : List UInt8) (w : World) : Calls Try.prog 62 #[.string (str k)] w fun e w' => e = .returned (.bool (edgeB k)) ∧ w = w' := by
  have hz : (str k).size = k.length := str_size k
  generalize str k = S at hz ⊢
  go_enter Try.func62, Try.ntmps62
  go_wp2_with fail
  all_goals
    go_ret
    exact ⟨ret_bool (by unfold edgeB; rw [← hz]; simp; try omega), rfl⟩

end Go.Proofs.Ytfjaklpddcafdaa

namespace Go.Proofs.Ytfjaklpddcafdaa
open Go.RowKit

theorem int_eq_false {x y : UInt8} (h : x ≠ y) : ((x.toNat : Int) == (y.toNat : Int)) = false := by
  rw [beq_eq_false_iff_ne]
  intro e
  exact h (UInt8.toNat_inj.1 (by omega))
theorem ref_less (a b : List UInt8) (ha : a.length ≤ 9223372036854775807) (w : World) : Calls Try.prog 18 #[.string (str a), .string (str b)] w fun e w' => e = .returned (.bool (ltB a b)) ∧ ∃ n, w' = w.drewN n := by
  have hza : (str a).size = a.length := str_size a
  have hzb : (str b).size = b.length := str_size b
  have hA : ∀ k, (h : k < (str a).size) → (str a)[k] = a.getD k 0 := fun k h => txt_at a k h
  have hB : ∀ k, (h : k < (str b).size) → (str b)[k] = b.getD k 0 := fun k h => txt_at b k h
  generalize str a = S at hza hA ⊢
  generalize str b = T at hzb hB ⊢
  have HA := Lib.hid hA
  have HB := Lib.hid hB
  have HZA := Lib.hid hza
  have HZB := Lib.hid hzb
  have hmx : S.size ≤ 9223372036854775807 := by omega
  clear hA hB hza hzb
  go_enter Try.func18, Try.ntmps18
  go_wp2_with fail
  go_loopw [5] (fun i wr => ∃ k m : Nat, k ≤ S.size ∧ k ≤ T.size ∧ Hid (ltB a b = ltB (a.drop k) (b.drop k)) ∧ i = .int .i64 k ∧ wr = w.drewN m) (fun i _ => S.size - (intOf i).toNat)
  case atStart => exact ⟨0, 0, by omega, by omega, rfl, rfl, rfl⟩
  case round =>
    obtain ⟨k, m, hk, hk2, HL, rfl, rfl⟩ := hrel
    by_cases hlt : k < S.size
    · by_cases hlt2 : k < T.size
      · have c1 := HA.out k hlt
        have c2 := HB.out k hlt2
        have HS := fun h => Lib.hid (ltB_step (a := a) (b := b) (k := k) (by have := HZA.out; omega) (by have := HZB.out; omega) h)
        have HT := fun h => Lib.hid (ltB_stop (a := a) (b := b) (k := k) (by have := HZA.out; omega) (by have := HZB.out; omega) h)
        obtain ⟨x, hx⟩ : ∃ x, a.getD k 0 = x := ⟨_, rfl⟩
        obtain ⟨y, hy⟩ : ∃ y, b.getD k 0 = y := ⟨_, rfl⟩
        rw [hx] at c1 HS HT
        rw [hy] at c2 HS HT
        clear hx hy
        by_cases hxy : x = y
        · subst hxy
          have HN := Lib.hid (HL.out.trans (HS rfl).out)
          clear HT HS
          go_wp2_with fail
          go_quiet (fail)
          go_wp2_with fail
          go_roundw
          case rel => exact ⟨k + 1, _, by omega, by omega, HN, by go_num, rfl⟩
          case measure => simp [intOf]; omega
        · have hxy' := int_eq_false hxy
          have hxy2 : ((x.toNat : Int) != (y.toNat : Int)) = true := by simp [bne, hxy']
          have HN := Lib.hid (HL.out.trans (HT hxy).out)
          clear HT HS hxy
          go_wp2_with fail
          go_quiet (fail)
          go_wp2_with fail
          go_quiet (fail)
          go_wp2_with fail
          go_ret
          refine ⟨ret_bool (by rw [HN.out]), ?_⟩
          rw [World.drewN_drewN, World.drewN_drewN]
          exact ⟨_, rfl⟩
      · have hge : T.size ≤ k := by omega
        have HN := Lib.hid (HL.out.trans (ltB_out (by have := HZB.out; omega)))
        go_wp2_with fail
        go_ret
        exact ⟨ret_bool HN.out.symm, _, rfl⟩
    · have hke : S.size = k := by omega
      have HN := Lib.hid (HL.out.trans (ltB_end (by have := HZA.out; omega) (by have := HZB.out; omega)))
      have HE : Hid (decide (S.size < T.size) = decide (k < b.length)) := decide_eq_decide.2 (by have := HZB.out; omega)
      clear hke
      go_wp2_with fail
      go_ret
      exact ⟨ret_bool (HE.out.trans HN.out.symm), _, rfl⟩
end Go.Proofs.Ytfjaklpddcafdaa

namespace Go.Proofs.Ytfjaklpddcafdaa

def hasL (l : List Rng) (s : List UInt8) : Bool := l.any fun r => hasR r s
def gapR (r t : Rng) : Bool := !r.op && ltB r.hi t.lo
def rightL : List Rng → Bool
  | [] => true
  | [r] => rightR r
  | r :: t :: l => rightR r && gapR r t && rightL (t :: l)
theorem hasL_cons (r : Rng) (l : List Rng) (s : List UInt8) : hasL (r :: l) s = (hasR r s || hasL l s) := by simp [hasL]
theorem hasL_append (a b : List Rng) (s : List UInt8) : hasL (a ++ b) s = (hasL a s || hasL b s) := by simp [hasL]
theorem rightL_head {r : Rng} {l : List Rng} (h : rightL (r :: l) = true) : rightR r = true := by
  cases l with
  | nil => exact h
  | cons t l => unfold rightL at h; simp only [Bool.and_eq_true] at h; exact h.1.1
theorem rightL_tail {r : Rng} {l : List Rng} (h : rightL (r :: l) = true) : rightL l = true := by
  cases l with
  | nil => rfl
  | cons t l => unfold rightL at h; simp only [Bool.and_eq_true] at h; exact h.2
theorem rightL_gap {r t : Rng} {l : List Rng} (h : rightL (r :: t :: l) = true) : r.op = false ∧ ltB r.hi t.lo = true := by
  unfold rightL gapR at h; simp only [Bool.and_eq_true, Bool.not_eq_true'] at h; exact h.1.2
theorem hasR_lo {r : Rng} (h : rightR r = true) : hasR r r.lo = true := by
  unfold hasR; rw [h, ltB_irrefl, rightR_first h]; rfl
theorem hasR_ge {r : Rng} {s : List UInt8} (h : hasR r s = true) : ltB s r.lo = false := by
  unfold hasR at h; simp only [Bool.and_eq_true, Bool.not_eq_true'] at h; exact h.1.2
theorem hasR_right {r : Rng} {s : List UInt8} (h : hasR r s = true) : rightR r = true := by
  unfold hasR at h; simp only [Bool.and_eq_true] at h; exact h.1.1
theorem hasR_ahead {r : Rng} {s : List UInt8} (h : hasR r s = true) : aheadR r s = true := by
  unfold hasR at h; simp only [Bool.and_eq_true] at h; exact h.2
theorem hasL_ge : ∀ {l : List Rng} {r : Rng} {s : List UInt8}, rightL (r :: l) = true → hasL (r :: l) s = true → ltB s r.lo = false
  | [], r, s, _, hs => by
    rw [hasL_cons] at hs
    simp only [hasL, List.any_nil, Bool.or_false] at hs
    exact hasR_ge hs
  | t :: l, r, s, h, hs => by
    rw [hasL_cons] at hs
    cases hr : hasR r s with
    | true => exact hasR_ge hr
    | false =>
      rw [hr, Bool.false_or] at hs
      have h1 := hasL_ge (rightL_tail h) hs
      have h2 := rightL_gap h
      have h3 := rightR_lt (rightL_head h) h2.1
      cases hc : ltB s r.lo with
      | false => rfl
      | true => rw [ltB_trans hc (ltB_trans h3 h2.2)] at h1; cases h1
theorem hasL_apart {r : Rng} {l : List Rng} {s : List UInt8} (h : rightL (r :: l) = true) (hs : hasL l s = true) : hasR r s = false ∧ r.op = false ∧ ltB r.hi s = true := by
  cases l with
  | nil => simp [hasL] at hs
  | cons t l =>
    have h1 := hasL_ge (rightL_tail h) hs
    have h2 := rightL_gap h
    have h3 : ltB r.hi s = true := ltB_of_lt_of_le h2.2 h1
    refine ⟨?_, h2.1, h3⟩
    cases hr : hasR r s with
    | false => rfl
    | true =>
      have := hasR_ahead hr
      unfold aheadR at this
      rw [h2.1, Bool.false_or, ltB_asymm h3] at this
      cases this
theorem rng_ext {r t : Rng} (h1 : r.lo = t.lo) (h2 : r.hi = t.hi) (h3 : r.op = t.op) : r = t := by cases r; cases t; simp_all
theorem end_split {r t : Rng} {l m : List Rng} (hl : rightL (r :: l) = true) (hm : rightL (t :: m) = true) (he : r.lo = t.lo) (h : endLt r t = true) (hs : ∀ s, hasL (r :: l) s = hasL (t :: m) s) : False := by
  unfold endLt at h
  simp only [Bool.and_eq_true, Bool.not_eq_true'] at h
  obtain ⟨ho, h⟩ := h
  have h1 := hs r.hi
  have h2 : hasR t r.hi = true := by
    unfold hasR aheadR
    rw [rightL_head hm, h, ← he, ltB_asymm (rightR_lt (rightL_head hl) ho)]; rfl
  rw [hasL_cons t, h2, Bool.true_or, hasL_cons] at h1
  have h3 : hasR r r.hi = false := by
    unfold hasR aheadR; rw [ho, ltB_irrefl, Bool.false_or, Bool.and_false]
  rw [h3, Bool.false_or] at h1
  have := (hasL_apart hl h1).2.2
  rw [ltB_irrefl] at this
  cases this
theorem rightL_unique : ∀ {l m : List Rng}, rightL l = true → rightL m = true → (∀ s, hasL l s = hasL m s) → l = m
  | [], [], _, _, _ => rfl
  | [], t :: m, _, hm, h => by
    have := h t.lo
    rw [hasL_cons, hasR_lo (rightL_head hm)] at this
    simp [hasL] at this
  | r :: l, [], hl, _, h => by
    have := h r.lo
    rw [hasL_cons, hasR_lo (rightL_head hl)] at this
    simp [hasL] at this
  | r :: l, t :: m, hl, hm, h => by
    have e1 : r.lo = t.lo := by
      have h1 : hasL (t :: m) r.lo = true := by rw [← h, hasL_cons, hasR_lo (rightL_head hl)]; rfl
      have h2 : hasL (r :: l) t.lo = true := by rw [h, hasL_cons, hasR_lo (rightL_head hm)]; rfl
      exact ltB_total (hasL_ge hm h1) (hasL_ge hl h2)
    have e2 : endLt r t = false := by
      cases hc : endLt r t with
      | false => rfl
      | true => exact (end_split hl hm e1 hc h).elim
    have e3 : endLt t r = false := by
      cases hc : endLt t r with
      | false => rfl
      | true => exact (end_split hm hl e1.symm hc (fun s => (h s).symm)).elim
    obtain ⟨e4, e5⟩ := end_same (rightL_head hl) (rightL_head hm) e2 e3
    obtain rfl := rng_ext e1 e4 e5
    have key : ∀ s, hasL l s = hasL m s := fun s => by
      have hs := h s
      rw [hasL_cons, hasL_cons] at hs
      cases h1 : hasL l s with
      | true => rw [(hasL_apart hl h1).1, h1, Bool.false_or, Bool.false_or] at hs; exact hs
      | false => cases h2 : hasL m s with
        | false => rfl
        | true => rw [(hasL_apart hm h2).1, h1, h2] at hs; cases hs
    rw [rightL_unique (rightL_tail hl) (rightL_tail hm) key]

def mkR (f : List UInt8 → Bool) : List (List UInt8) → Option (List UInt8) → List Rng
  | [], none => []
  | [], some lo => [⟨lo, [], true⟩]
  | e :: es, none => match f e with | true => mkR f es (some e) | false => mkR f es none
  | e :: es, some lo => match f e with | true => mkR f es (some lo) | false => ⟨lo, e, false⟩ :: mkR f es none
def risingB : List UInt8 → List (List UInt8) → Bool
  | _, [] => true
  | e, x :: l => ltB e x && risingB x l
theorem rising_head {c x : List UInt8} {l : List (List UInt8)} (h : risingB c (x :: l) = true) : ltB c x = true ∧ risingB x l = true := by
  unfold risingB at h; simpa using h
theorem rising_all : ∀ {l : List (List UInt8)} {c : List UInt8}, risingB c l = true → ∀ x ∈ l, ltB c x = true
  | [], _, _, x, hx => by cases hx
  | y :: l, c, h, x, hx => by
    obtain ⟨h1, h2⟩ := rising_head h
    rcases List.mem_cons.1 hx with rfl | hx
    · exact h1
    · exact ltB_trans h1 (rising_all h2 x hx)
def floorV (f : List UInt8 → Bool) : Bool → List (List UInt8) → List UInt8 → Bool
  | v, [], _ => v
  | v, x :: l, s => match ltB s x with | true => v | false => floorV f (f x) l s
theorem floorV_low {f : List UInt8 → Bool} {v : Bool} {l : List (List UInt8)} {s : List UInt8} (h : ∀ x ∈ l, ltB s x = true) : floorV f v l s = v := by
  cases l with
  | nil => rfl
  | cons x l => unfold floorV; rw [h x (List.mem_cons_self ..)]
theorem hasR_open {lo s : List UInt8} (h : lo.length ≤ 17) : hasR ⟨lo, [], true⟩ s = !ltB s lo := by
  have h1 : rightR ⟨lo, [], true⟩ = true := rightR_iff.2 ⟨h, by simp, fun _ => rfl, (fun h => by cases h)⟩
  unfold hasR aheadR; rw [h1]; simp
theorem right_shut {lo e : List UInt8} (h : lo.length ≤ 17) (he : e.length ≤ 17) (hl : ltB lo e = true) : rightR ⟨lo, e, false⟩ = true :=
  rightR_iff.2 ⟨h, he, (fun h => by cases h), fun _ => hl⟩
theorem hasR_shut {lo e s : List UInt8} (h : lo.length ≤ 17) (he : e.length ≤ 17) (hl : ltB lo e = true) : hasR ⟨lo, e, false⟩ s = (!ltB s lo && ltB s e) := by
  unfold hasR aheadR; rw [right_shut h he hl]; simp
theorem mkR_low (f : List UInt8 → Bool) : ∀ (es : List (List UInt8)) (o : Option (List UInt8)) (c s : List UInt8), risingB c es = true → (∀ lo, o = some lo → ltB s lo = true) → (o = none → ltB c s = false) → (∀ lo, o = some lo → ltB c lo = false) → hasL (mkR f es o) s = false
  | [], none, _, _, _, _, _, _ => rfl
  | [], some lo, c, s, _, h, _, _ => by
    unfold mkR; rw [hasL_cons]
    have : hasR ⟨lo, [], true⟩ s = false := by unfold hasR; rw [h lo rfl]; simp
    rw [this]; rfl
  | e :: es, none, c, s, hr, _, h2, _ => by
    obtain ⟨h3, h4⟩ := rising_head hr
    have hse : ltB s e = true := ltB_of_le_of_lt (h2 rfl) h3
    unfold mkR
    cases f e with
    | true => exact mkR_low f es (some e) e s h4 (fun lo h => by injection h with h; subst h; exact hse) (fun h => by cases h) (fun lo h => by injection h with h; subst h; exact ltB_irrefl _)
    | false => exact mkR_low f es none e s h4 (fun lo h => by cases h) (fun _ => ltB_asymm hse) (fun lo h => by cases h)
  | e :: es, some lo, c, s, hr, h, _, hc => by
    obtain ⟨h3, h4⟩ := rising_head hr
    have h5 : ltB lo e = true := ltB_of_le_of_lt (hc lo rfl) h3
    have hse : ltB s e = true := ltB_trans (h lo rfl) h5
    unfold mkR
    cases f e with
    | true => exact mkR_low f es (some lo) e s h4 (fun lo' h' => by injection h' with h'; subst h'; exact h lo rfl) (fun h => by cases h) (fun lo' h' => by injection h' with h'; subst h'; exact ltB_asymm h5)
    | false =>
      show hasL (⟨lo, e, false⟩ :: mkR f es none) s = false
      rw [hasL_cons]
      have : hasR ⟨lo, e, false⟩ s = false := by unfold hasR; rw [h lo rfl]; simp
      rw [this, Bool.false_or]
      exact mkR_low f es none e s h4 (fun lo h => by cases h) (fun _ => ltB_asymm hse) (fun lo h => by cases h)
theorem mkR_has (f : List UInt8 → Bool) : ∀ (es : List (List UInt8)) (o : Option (List UInt8)) (c s : List UInt8), risingB c es = true → (∀ x ∈ es, x.length ≤ 17) → (∀ lo, o = some lo → lo.length ≤ 17 ∧ ltB c lo = false ∧ ltB s lo = false) → hasL (mkR f es o) s = floorV f o.isSome es s
  | [], none, _, _, _, _, _ => rfl
  | [], some lo, c, s, _, _, h => by
    obtain ⟨h1, _, h3⟩ := h lo rfl
    unfold mkR; rw [hasL_cons, hasR_open h1, h3]; rfl
  | e :: es, none, c, s, hr, hl, _ => by
    obtain ⟨h3, h4⟩ := rising_head hr
    have hl' : ∀ x ∈ es, x.length ≤ 17 := fun x hx => hl x (List.mem_cons_of_mem _ hx)
    have he := hl e (List.mem_cons_self ..)
    unfold mkR floorV
    cases hse : ltB s e with
    | true =>
      cases f e with
      | true => exact mkR_low f es (some e) e s h4 (fun lo h => by injection h with h; subst h; exact hse) (fun h => by cases h) (fun lo h => by injection h with h; subst h; exact ltB_irrefl _)
      | false => exact mkR_low f es none e s h4 (fun lo h => by cases h) (fun _ => ltB_asymm hse) (fun lo h => by cases h)
    | false =>
      cases f e with
      | true => exact mkR_has f es (some e) e s h4 hl' (fun lo h => by injection h with h; subst h; exact ⟨he, ltB_irrefl _, hse⟩)
      | false => exact mkR_has f es none e s h4 hl' (fun lo h => by cases h)
  | e :: es, some lo, c, s, hr, hl, h => by
    obtain ⟨h3, h4⟩ := rising_head hr
    obtain ⟨k1, k2, k3⟩ := h lo rfl
    have hl' : ∀ x ∈ es, x.length ≤ 17 := fun x hx => hl x (List.mem_cons_of_mem _ hx)
    have he := hl e (List.mem_cons_self ..)
    have h5 : ltB lo e = true := ltB_of_le_of_lt k2 h3
    unfold mkR floorV
    cases hf : f e with
    | true =>
      have := mkR_has f es (some lo) e s h4 hl' (fun lo' h' => by injection h' with h'; subst h'; exact ⟨k1, ltB_asymm h5, k3⟩)
      show hasL (mkR f es (some lo)) s = _
      rw [this]
      cases hse : ltB s e with
      | true => exact floorV_low fun x hx => ltB_trans hse (rising_all h4 x hx)
      | false => rfl
    | false =>
      show hasL (⟨lo, e, false⟩ :: mkR f es none) s = _
      rw [hasL_cons, hasR_shut k1 he h5, k3]
      cases hse : ltB s e with
      | true => rfl
      | false => exact mkR_has f es none e s h4 hl' (fun lo h => by cases h)
theorem mkR_first (f : List UInt8 → Bool) : ∀ (es : List (List UInt8)) (o : Option (List UInt8)) (c : List UInt8) (t : Rng) (m : List Rng), risingB c es = true → mkR f es o = t :: m → (∀ lo, o = some lo → t.lo = lo) ∧ (o = none → ltB c t.lo = true)
  | [], none, _, _, _, _, h => by cases h
  | [], some lo, _, t, m, _, h => by
    unfold mkR at h; injection h with h h'; subst h
    exact ⟨(fun lo' e => by injection e), (fun e => by cases e)⟩
  | e :: es, none, c, t, m, hr, h => by
    obtain ⟨h3, h4⟩ := rising_head hr
    refine ⟨(fun lo e => by cases e), fun _ => ?_⟩
    unfold mkR at h
    cases hf : f e with
    | true => rw [hf] at h; rw [(mkR_first f es (some e) e t m h4 h).1 e rfl]; exact h3
    | false => rw [hf] at h; exact ltB_trans h3 ((mkR_first f es none e t m h4 h).2 rfl)
  | e :: es, some lo, c, t, m, hr, h => by
    obtain ⟨h3, h4⟩ := rising_head hr
    refine ⟨fun lo' e' => ?_, (fun e => by cases e)⟩
    injection e' with e'; subst e'
    unfold mkR at h
    cases hf : f e with
    | true => rw [hf] at h; exact (mkR_first f es (some lo) e t m h4 h).1 lo rfl
    | false => rw [hf] at h; injection h with h h'; subst h; rfl
theorem mkR_right (f : List UInt8 → Bool) : ∀ (es : List (List UInt8)) (o : Option (List UInt8)) (c : List UInt8), risingB c es = true → (∀ x ∈ es, x.length ≤ 17) → (∀ lo, o = some lo → lo.length ≤ 17 ∧ ltB c lo = false) → rightL (mkR f es o) = true
  | [], none, _, _, _, _ => rfl
  | [], some lo, _, _, _, h => rightR_iff.2 ⟨(h lo rfl).1, by simp, fun _ => rfl, (fun h => by cases h)⟩
  | e :: es, none, c, hr, hl, _ => by
    obtain ⟨h3, h4⟩ := rising_head hr
    have hl' : ∀ x ∈ es, x.length ≤ 17 := fun x hx => hl x (List.mem_cons_of_mem _ hx)
    have he := hl e (List.mem_cons_self ..)
    unfold mkR
    cases f e with
    | true => exact mkR_right f es (some e) e h4 hl' (fun lo h => by injection h with h; subst h; exact ⟨he, ltB_irrefl _⟩)
    | false => exact mkR_right f es none e h4 hl' (fun lo h => by cases h)
  | e :: es, some lo, c, hr, hl, h => by
    obtain ⟨h3, h4⟩ := rising_head hr
    obtain ⟨k1, k2⟩ := h lo rfl
    have hl' : ∀ x ∈ es, x.length ≤ 17 := fun x hx => hl x (List.mem_cons_of_mem _ hx)
    have he := hl e (List.mem_cons_self ..)
    have h5 : ltB lo e = true := ltB_of_le_of_lt k2 h3
    unfold mkR
    cases f e with
    | true => exact mkR_right f es (some lo) e h4 hl' (fun lo' h' => by injection h' with h'; subst h'; exact ⟨k1, ltB_asymm h5⟩)
    | false =>
      have h6 := mkR_right f es none e h4 hl' (fun lo h => by cases h)
      show rightL (⟨lo, e, false⟩ :: mkR f es none) = true
      cases hm : mkR f es none with
      | nil => exact right_shut k1 he h5
      | cons t m =>
        rw [hm] at h6
        have h7 := (mkR_first f es none e t m h4 hm).2 rfl
        unfold rightL gapR
        rw [right_shut k1 he h5, h6, h7]; rfl
def Det (f : List UInt8 → Bool) (E : List (List UInt8)) : Prop := ∀ s c, (∀ x ∈ E, ltB s x = ltB c x) → f s = f c
theorem floorV_det (f : List UInt8 → Bool) (s : List UInt8) : ∀ (es D : List (List UInt8)) (c : List UInt8), risingB c es = true → (∀ x ∈ D, ltB c x = false) → ltB s c = false → Det f (D ++ es) → floorV f (f c) es s = f s
  | [], D, c, _, hD, hs, h => by
    refine (h s c fun x hx => ?_).symm
    rw [List.append_nil] at hx
    rw [hD x hx]
    exact leB_trans (hD x hx) hs
  | x :: l, D, c, hr, hD, hs, h => by
    obtain ⟨h3, h4⟩ := rising_head hr
    unfold floorV
    cases hx : ltB s x with
    | true =>
      refine (h s c fun y hy => ?_).symm
      rcases List.mem_append.1 hy with hy | hy
      · rw [hD y hy]; exact leB_trans (hD y hy) hs
      · have h5 := rising_all hr y hy
        rw [h5]
        rcases List.mem_cons.1 hy with rfl | hy
        · exact hx
        · exact ltB_trans hx (rising_all h4 y hy)
    | false =>
      refine floorV_det f s l (D ++ [x]) x h4 (fun y hy => ?_) hx (by rw [List.append_assoc]; exact h)
      rcases List.mem_append.1 hy with hy | hy
      · exact ltB_asymm (ltB_of_le_of_lt (hD y hy) h3)
      · rw [List.mem_singleton.1 hy]; exact ltB_irrefl _
theorem mkR_all {f : List UInt8 → Bool} {es : List (List UInt8)} (hr : risingB [] es = true) (hl : ∀ x ∈ es, x.length ≤ 17) (hd : Det f ([] :: es)) :
    rightL (mkR f ([] :: es) none) = true ∧ ∀ s, hasL (mkR f ([] :: es) none) s = f s := by
  have hn : ∀ s, ltB s [] = false := ltB_nil
  constructor
  · unfold mkR
    cases f [] with
    | true => exact mkR_right f es (some []) [] hr hl (fun lo h => by injection h with h; subst h; exact ⟨by simp, ltB_nil _⟩)
    | false => exact mkR_right f es none [] hr hl (fun lo h => by cases h)
  · intro s
    have h1 : hasL (mkR f ([] :: es) none) s = floorV f (f []) es s := by
      unfold mkR
      cases hf : f [] with
      | true => exact mkR_has f es (some []) [] s hr hl (fun lo h => by injection h with h; subst h; exact ⟨by simp, ltB_nil _, ltB_nil _⟩)
      | false => exact mkR_has f es none [] s hr hl (fun lo h => by cases h)
    rw [h1]
    exact floorV_det f s es [[]] [] hr (fun x hx => by rw [List.mem_singleton.1 hx]; exact ltB_nil _) (ltB_nil _) hd

def putL : List (List UInt8) → List UInt8 → List (List UInt8)
  | [], s => [s]
  | x :: l, s => match ltB x s with | true => x :: putL l s | false => match decide (x = s) with | true => x :: l | false => s :: x :: l
theorem putL_behind {x : List UInt8} {l : List (List UInt8)} {s : List UInt8} (h : ltB x s = true) : putL (x :: l) s = x :: putL l s := by rw [putL, h]
theorem putL_there {x : List UInt8} {l : List (List UInt8)} : putL (x :: l) x = x :: l := by rw [putL, ltB_irrefl, decide_eq_true rfl]
theorem putL_here {x : List UInt8} {l : List (List UInt8)} {s : List UInt8} (h : ltB x s = false) (h' : x ≠ s) : putL (x :: l) s = s :: x :: l := by rw [putL, h, decide_eq_false h']
theorem putL_mem : ∀ {l : List (List UInt8)} {s x : List UInt8}, x ∈ putL l s ↔ x = s ∨ x ∈ l
  | [], s, x => by simp [putL]
  | y :: l, s, x => by
    cases h : ltB y s with
    | true => rw [putL_behind h, List.mem_cons, List.mem_cons, putL_mem]; constructor <;> (rintro (h | h | h) <;> simp [h])
    | false =>
      by_cases h' : y = s
      · subst h'; rw [putL_there]; constructor
        · exact .inr
        · rintro (rfl | h)
          · exact List.mem_cons_self ..
          · exact h
      · rw [putL_here h h', List.mem_cons]
theorem putL_rising : ∀ {l : List (List UInt8)} {c s : List UInt8}, risingB c l = true → ltB c s = true → risingB c (putL l s) = true
  | [], c, s, _, h => by simp [putL, risingB, h]
  | x :: l, c, s, hr, hs => by
    obtain ⟨h1, h2⟩ := rising_head hr
    cases h : ltB x s with
    | true => rw [putL_behind h]; unfold risingB; rw [h1, putL_rising h2 h]; rfl
    | false =>
      by_cases h' : x = s
      · subst h'; rw [putL_there]; exact hr
      · have h3 : ltB s x = true := by
          cases hc : ltB s x with
          | true => rfl
          | false => exact absurd (ltB_total h hc) h'
        rw [putL_here h h']; unfold risingB risingB; rw [hs, h3, h2]; rfl
theorem putL_first {l : List (List UInt8)} {s : List UInt8} (h : risingB [] l = true) : ∃ m, putL ([] :: l) s = [] :: m ∧ risingB [] m = true := by
  cases s with
  | nil => exact ⟨l, putL_there, h⟩
  | cons x s => exact ⟨putL l (x :: s), putL_behind (ltB_nil_cons x s), putL_rising h (ltB_nil_cons x s)⟩
def addE (E : List (List UInt8)) (r : Rng) : List (List UInt8) := match rightR r with
  | true => (match r.op with | true => putL E r.lo | false => putL (putL E r.lo) r.hi)
  | false => E
def edgesL (l : List Rng) : List (List UInt8) := l.foldl addE [[]]
def EdgesOk (E : List (List UInt8)) : Prop := ∃ m, E = [] :: m ∧ risingB [] m = true ∧ ∀ x ∈ m, x.length ≤ 17
theorem EdgesOk.put {E : List (List UInt8)} (h : EdgesOk E) {s : List UInt8} (hs : s.length ≤ 17) : EdgesOk (putL E s) := by
  obtain ⟨m, rfl, h1, h2⟩ := h
  obtain ⟨m', h3, h4⟩ := putL_first (s := s) h1
  refine ⟨m', h3, h4, fun x hx => ?_⟩
  have h5 : x ∈ putL ([] :: m) s := by rw [h3]; exact List.mem_cons_of_mem _ hx
  rcases putL_mem.1 h5 with rfl | h5
  · exact hs
  · rcases List.mem_cons.1 h5 with rfl | h5
    · simp
    · exact h2 x h5
theorem EdgesOk.add {E : List (List UInt8)} (h : EdgesOk E) (r : Rng) : EdgesOk (addE E r) := by
  unfold addE
  cases hr : rightR r with
  | false => exact h
  | true => cases r.op with
    | true => exact h.put (rightR_lo hr)
    | false => exact (h.put (rightR_lo hr)).put (rightR_hi hr)
theorem edges_ok : ∀ (l : List Rng) (E : List (List UInt8)), EdgesOk E → EdgesOk (l.foldl addE E)
  | [], _, h => h
  | r :: l, E, h => edges_ok l (addE E r) (h.add r)
theorem addE_keep {E : List (List UInt8)} {r : Rng} {x : List UInt8} (h : x ∈ E) : x ∈ addE E r := by
  unfold addE
  cases rightR r with
  | false => exact h
  | true => cases r.op with
    | true => exact putL_mem.2 (.inr h)
    | false => exact putL_mem.2 (.inr (putL_mem.2 (.inr h)))
theorem edges_keep : ∀ (l : List Rng) (E : List (List UInt8)) {x : List UInt8}, x ∈ E → x ∈ l.foldl addE E
  | [], _, _, h => h
  | r :: l, E, _, h => edges_keep l (addE E r) (addE_keep h)
theorem edges_mem : ∀ (l : List Rng) (E : List (List UInt8)) {r : Rng}, r ∈ l → rightR r = true → r.lo ∈ l.foldl addE E ∧ (r.op = false → r.hi ∈ l.foldl addE E)
  | [], _, _, h, _ => by cases h
  | t :: l, E, r, h, hr => by
    rcases List.mem_cons.1 h with rfl | h
    · constructor
      · refine edges_keep l _ ?_
        unfold addE; rw [hr]
        cases r.op with
        | true => exact putL_mem.2 (.inl rfl)
        | false => exact putL_mem.2 (.inr (putL_mem.2 (.inl rfl)))
      · intro ho
        refine edges_keep l _ ?_
        unfold addE; rw [hr, ho]
        exact putL_mem.2 (.inl rfl)
    · exact edges_mem l (addE E t) h hr
theorem edgesL_ok (l : List Rng) : EdgesOk (edgesL l) := edges_ok l [[]] ⟨[], rfl, rfl, by simp⟩
theorem hasR_det {r : Rng} {E : List (List UInt8)} (h : rightR r = true → r.lo ∈ E ∧ (r.op = false → r.hi ∈ E)) : Det (hasR r) E := fun s c hs => by
  cases hr : rightR r with
  | false => unfold hasR; rw [hr]; rfl
  | true =>
    obtain ⟨h1, h2⟩ := h hr
    unfold hasR aheadR
    rw [hs _ h1]
    cases ho : r.op with
    | true => rfl
    | false => rw [hs _ (h2 ho)]
theorem hasL_det : ∀ {l : List Rng} {E : List (List UInt8)}, (∀ r ∈ l, rightR r = true → r.lo ∈ E ∧ (r.op = false → r.hi ∈ E)) → Det (hasL l) E
  | [], _, _ => fun _ _ _ => rfl
  | r :: l, E, h => fun s c hs => by
    rw [hasL_cons, hasL_cons, hasR_det (h r (List.mem_cons_self ..)) s c hs, hasL_det (fun t ht => h t (List.mem_cons_of_mem _ ht)) s c hs]
theorem make_ok (a b : List Rng) (g : Bool → Bool → Bool) : rightL (mkR (fun s => g (hasL a s) (hasL b s)) (edgesL (a ++ b)) none) = true ∧ ∀ s, hasL (mkR (fun s => g (hasL a s) (hasL b s)) (edgesL (a ++ b)) none) s = g (hasL a s) (hasL b s) := by
  obtain ⟨m, hm, h1, h2⟩ := edgesL_ok (a ++ b)
  have ha : Det (hasL a) (edgesL (a ++ b)) := hasL_det fun r hr hR => edges_mem (a ++ b) [[]] (List.mem_append.2 (.inl hr)) hR
  have hb : Det (hasL b) (edgesL (a ++ b)) := hasL_det fun r hr hR => edges_mem (a ++ b) [[]] (List.mem_append.2 (.inr hr)) hR
  rw [hm] at ha hb ⊢
  exact mkR_all h1 h2 fun s c hs => by simp only [ha s c hs, hb s c hs]
end Go.Proofs.Ytfjaklpddcafdaa

namespace Go.Proofs.Ytfjaklpddcafdaa
open Go.RowKit

def rngCells (r : Rng) : List Value := [.string (str r.lo), .string (str r.hi), .bool r.op]
noncomputable def kRng : Kind Try.prog Rng where
  ty := 41
  el := 56
  size := 3
  bytes := 40
  zero := .agg #[.string ⟨#[]⟩, .string ⟨#[]⟩, .bool false]
  cells := rngCells
  len := fun _ => rfl
  one := fun r u hu => by simp [rngCells] at hu; rcases hu with rfl | rfl | rfl <;> rfl
  pos := by decide
  under := Try.underlying41
  info := by kernel_rfl
  zsize := rfl
theorem rngs_at {w : World} {B : Nat} {A : Option Addr} {c : Nat} {l : List Rng} (h : kRng.Rd w B A c l) (hp : 0 < l.length) :
    ∃ b o, A = some ⟨b, o, none⟩ ∧ b < B ∧ ∀ k r, l[k]? = some r → w.cell? ⟨b, o + k * 3, none⟩ = some (.string (str r.lo)) ∧ w.cell? ⟨b, o + k * 3 + 1, none⟩ = some (.string (str r.hi)) ∧ w.cell? ⟨b, o + k * 3 + 2, none⟩ = some (.bool r.op) := by
  obtain ⟨b, o, h1, h2, h3⟩ := h.at_ hp
  exact ⟨b, o, h1, h2, fun k r hr => ⟨h3 k r hr 0 _ rfl, h3 k r hr 1 _ rfl, h3 k r hr 2 _ rfl⟩⟩
theorem get_some {α : Type} {l : List α} {k : Nat} (h : k < l.length) : ∃ x, l[k]? = some x ∧ l.drop k = x :: l.drop (k + 1) ∧ x ∈ l := ⟨l[k], List.getElem?_eq_getElem h, List.drop_eq_getElem_cons h, List.getElem_mem h⟩
end Go.Proofs.Ytfjaklpddcafdaa

namespace Go.Proofs.Ytfjaklpddcafdaa
open Go.RowKit

def itmCells (x : Itm) : List Value := [.string (str x.key), .int .i64 x.ver.rep, .int .i64 x.ver.cnt, .int .i64 x.rank, .int .i64 x.prio, .bool x.dead, .string (str x.body)]
noncomputable def kItm : Kind Try.prog Itm where
  ty := 22
  el := 26
  size := 7
  bytes := 72
  zero := .agg #[.string ⟨#[]⟩, .int .i64 0, .int .i64 0, .int .i64 0, .int .i64 0, .bool false, .string ⟨#[]⟩]
  cells := itmCells
  len := fun _ => rfl
  one := fun r u hu => by simp [itmCells] at hu; rcases hu with rfl | rfl | rfl | rfl | rfl | rfl | rfl <;> rfl
  pos := by decide
  under := Try.underlying22
  info := by kernel_rfl
  zsize := rfl
structure IsI (x : Itm) (K : ByteArray) (r c k p : Int) (d : Bool) (B : ByteArray) : Prop where
  key : str x.key = K
  rep : x.ver.rep = r
  cnt : x.ver.cnt = c
  rank : x.rank = k
  prio : x.prio = p
  dead : x.dead = d
  body : str x.body = B
theorem IsI.mk' (x : Itm) : IsI x (str x.key) x.ver.rep x.ver.cnt x.rank x.prio x.dead (str x.body) := ⟨rfl, rfl, rfl, rfl, rfl, rfl, rfl⟩
theorem itms_at {w : World} {B : Nat} {A : Option Addr} {c : Nat} {l : List Itm} (h : kItm.Rd w B A c l) (hp : 0 < l.length) :
    ∃ b o, A = some ⟨b, o, none⟩ ∧ b < B ∧ ∀ k x, l[k]? = some x → w.cell? ⟨b, o + k * 7, none⟩ = some (.string (str x.key)) ∧ w.cell? ⟨b, o + k * 7 + 1, none⟩ = some (.int .i64 x.ver.rep) ∧ w.cell? ⟨b, o + k * 7 + 2, none⟩ = some (.int .i64 x.ver.cnt) ∧ w.cell? ⟨b, o + k * 7 + 3, none⟩ = some (.int .i64 x.rank) ∧ w.cell? ⟨b, o + k * 7 + 4, none⟩ = some (.int .i64 x.prio) ∧ w.cell? ⟨b, o + k * 7 + 5, none⟩ = some (.bool x.dead) ∧ w.cell? ⟨b, o + k * 7 + 6, none⟩ = some (.string (str x.body)) := by
  obtain ⟨b, o, h1, h2, h3⟩ := h.at_ hp
  exact ⟨b, o, h1, h2, fun k x hx => ⟨h3 k x hx 0 _ rfl, h3 k x hx 1 _ rfl, h3 k x hx 2 _ rfl, h3 k x hx 3 _ rfl, h3 k x hx 4 _ rfl, h3 k x hx 5 _ rfl, h3 k x hx 6 _ rfl⟩⟩
theorem rd_maxI {w : World} {B : Nat} {A : Option Addr} {c n : Nat} {l : List Itm} (h : kItm.Rd w B A c l) (hn : n = l.length) : n ≤ 9223372036854775807 := by
  have h1 := h.room
  have h2 := h.cap
  unfold maxLen at h2
  omega
end Go.Proofs.Ytfjaklpddcafdaa

namespace Go.Proofs.Ytfjaklpddcafdaa
open Go.RowKit

abbrev itO (K : ByteArray) (r c k p : Int) (d : Bool) (B : ByteArray) : Obj := .cells #[.string K, .int .i64 r, .int .i64 c, .int .i64 k, .int .i64 p, .bool d, .string B] 26
abbrev itV (K : ByteArray) (r c k p : Int) (d : Bool) (B : ByteArray) : Value := .agg #[.string K, .int .i64 r, .int .i64 c, .int .i64 k, .int .i64 p, .bool d, .string B]
def ItAt (w : World) (g : Nat) (K : ByteArray) (r c k p : Int) (d : Bool) (B : ByteArray) : Prop := w.cell? ⟨g, 0, none⟩ = some (.string K) ∧ w.cell? ⟨g, 1, none⟩ = some (.int .i64 r) ∧ w.cell? ⟨g, 2, none⟩ = some (.int .i64 c) ∧ w.cell? ⟨g, 3, none⟩ = some (.int .i64 k) ∧ w.cell? ⟨g, 4, none⟩ = some (.int .i64 p) ∧ w.cell? ⟨g, 5, none⟩ = some (.bool d) ∧ w.cell? ⟨g, 6, none⟩ = some (.string B)
theorem ItAt.below {w w' : World} {g : Nat} {K : ByteArray} {r c k p : Int} {d : Bool} {B : ByteArray} (h : ItAt w g K r c k p d B) (hb : Below w.heap.size w w') : ItAt w' g K r c k p d B := by
  obtain ⟨h0, h1, h2, h3, h4, h5, h6⟩ := h
  have hc := (bcell hb).1
  have hl := World.block_lt_of_cell? w _ h0
  exact ⟨(hc _ _ hl).trans h0, (hc _ _ hl).trans h1, (hc _ _ hl).trans h2, (hc _ _ hl).trans h3, (hc _ _ hl).trans h4, (hc _ _ hl).trans h5, (hc _ _ hl).trans h6⟩
theorem itAt_new (w : World) (K : ByteArray) (r c k p : Int) (d : Bool) (B : ByteArray) : ItAt (w.alloc (itO K r c k p d B)) w.heap.size K r c k p d B := by
  have hb := heap_new w (itO K r c k p d B) _ rfl
  refine ⟨?_, ?_, ?_, ?_, ?_, ?_, ?_⟩ <;> (rw [cell_of_row _ _ _ _ _ _ hb]; rfl)
theorem ref_ibeats (x y : Itm) (K : ByteArray) (r c k p : Int) (d : Bool) (B : ByteArray) (hx : IsI x K r c k p d B) (K' : ByteArray) (r' c' k' p' : Int) (d' : Bool) (B' : ByteArray) (hy : IsI y K' r' c' k' p' d' B') (v : Bool) (hv : beatsI x y = v) (w : World) :
    Calls Try.prog 9 #[itV K r c k p d B, itV K' r' c' k' p' d' B'] w fun e w' => e = .returned (.bool v) ∧ Below w.heap.size w w' := by
  have hb : Below w.heap.size w ((w.alloc (itO K r c k p d B)).alloc (itO K' r' c' k' p' d' B')) := (below_new w _).trans ((below_new _ _).mono (by simp))
  have HB := Lib.hid hb
  unfold beatsI at hv
  rw [hx.rank, hy.rank] at hv
  by_cases h : k = k'
  · rw [decide_eq_true h] at hv
    have hv : lessVr y.ver x.ver = v := hv
    have hk : (k == k') = true := beq_iff_eq.2 h
    have hk2 : (k != k') = false := by rw [bne, hk]; rfl
    have C := Lib.hid (ref_vrless y.ver x.ver r' c' r c hy.rep hy.cnt hx.rep hx.cnt v hv ((w.alloc (itO K r c k p d B)).alloc (itO K' r' c' k' p' d' B')))
    clear hx hy hv h hb
    go_enter Try.func9, Try.ntmps9
    go_wp2_with ((with_reducible refine C.out.mono ?_); rintro e w1 ⟨rfl, hq⟩; have HQ := Lib.hid (HB.out.trans (hq.mono HB.out.size)); clear hq)
    go_ret
    exact ⟨rfl, HQ.out⟩
  · rw [decide_eq_false h] at hv
    have hv : decide (k' < k) = v := hv
    have hk : (k == k') = false := beq_eq_false_iff_ne.2 h
    have hk2 : (k != k') = true := by rw [bne, hk]; rfl
    have hv2 : decide (k > k') = v := hv
    clear hx hy h hb
    go_enter Try.func9, Try.ntmps9
    go_wp2_with fail
    go_ret
    exact ⟨by first | rfl | rw [hv2] | rw [hv], HB.out⟩
theorem rightI_parts (x : Itm) : rightI x = (rightB x.key && (rightVr x.ver && ((!decide (x.rank < 1)) && ((!decide (x.rank > 1099511627776)) && ((!decide (x.prio < 0)) && ((!decide (x.prio > 255)) && (decide (x.body.length ≤ 64) && !(x.dead && decide (0 < x.body.length))))))))) := by
  have e1 : decide (1 ≤ x.rank) = !decide (x.rank < 1) := by rw [← decide_not]; exact decide_eq_decide.2 (by omega)
  have e2 : decide (x.rank ≤ 1099511627776) = !decide (x.rank > 1099511627776) := by rw [← decide_not]; exact decide_eq_decide.2 (by omega)
  have e3 : decide (0 ≤ x.prio) = !decide (x.prio < 0) := by rw [← decide_not]; exact decide_eq_decide.2 (by omega)
  have e4 : decide (x.prio ≤ 255) = !decide (x.prio > 255) := by rw [← decide_not]; exact decide_eq_decide.2 (by omega)
  unfold rightI rightB
  rw [e1, e2, e3, e4, Bool.and_assoc]
set_option maxRecDepth 100000 in
set_option maxHeartbeats 2000000 in
theorem ref_iright (x : Itm) (K : ByteArray) (r c k p : Int) (d : Bool) (B : ByteArray) (hx : IsI x K r c k p d B) (v : Bool) (hv : rightI x = v) (w : World) :
    Calls Try.prog 11 #[itV K r c k p d B] w fun e w' => e = .returned (.bool v) ∧ Below w.heap.size w w' := by
  have HB := Lib.hid (below_new w (itO K r c k p d B))
  rw [rightI_parts, hx.rank, hx.prio, hx.dead] at hv
  have hz : B.size = x.body.length := by rw [← hx.body]; exact str_size _
  obtain ⟨b1, h1⟩ : ∃ b, rightB x.key = b := ⟨_, rfl⟩
  obtain ⟨b2, h2⟩ : ∃ b, rightVr x.ver = b := ⟨_, rfl⟩
  obtain ⟨c1, g1⟩ : ∃ b, decide (k < 1) = b := ⟨_, rfl⟩
  obtain ⟨c2, g2⟩ : ∃ b, decide (k > 1099511627776) = b := ⟨_, rfl⟩
  obtain ⟨c3, g3⟩ : ∃ b, decide (p < 0) = b := ⟨_, rfl⟩
  obtain ⟨c4, g4⟩ : ∃ b, decide (p > 255) = b := ⟨_, rfl⟩
  obtain ⟨c5, g5⟩ : ∃ b, decide ((B.size : Int) ≤ 64) = b := ⟨_, rfl⟩
  obtain ⟨c6, g6⟩ : ∃ b, decide ((B.size : Int) > 0) = b := ⟨_, rfl⟩
  have e5 : decide (x.body.length ≤ 64) = c5 := by rw [← g5, ← hz]; exact decide_eq_decide.2 (by omega)
  have e6 : decide (0 < x.body.length) = c6 := by rw [← g6, ← hz]; exact decide_eq_decide.2 (by omega)
  have f2 : decide ((1099511627776 : Int) < k) = c2 := g2
  have f4 : decide ((255 : Int) < p) = c4 := g4
  have f6 : decide ((0 : Int) < (B.size : Int)) = c6 := g6
  have f5 : decide (B.size ≤ 64) = c5 := by rw [← g5]; exact decide_eq_decide.2 (by omega)
  have f7 : decide (0 < B.size) = c6 := by rw [← g6]; exact decide_eq_decide.2 (by omega)
  rw [h1, h2, g1, g2, g3, g4, e5, e6] at hv
  have C1 := fun w => Lib.hid (ref_right x.key w)
  rw [h1, hx.key] at C1
  have C2 := fun w => Lib.hid (ref_vrright x.ver r c hx.rep hx.cnt b2 h2 w)
  have HV := Lib.hid hv
  have HI := Lib.hid (itAt_new w K r c k p d B)
  clear hx hz h1 h2 e5 e6 hv
  cases b1
  case' true =>
    cases b2
    case' true =>
      cases c1
      case' false =>
        cases c2
        case' false =>
          cases c3
          case' false =>
            cases c4
            case' false =>
              cases c5
              case' true =>
                cases d
                case' true =>
                  cases c6
  all_goals
    go_enter Try.func11, Try.ntmps11
    go_wp2_with (first
      | ((with_reducible refine (C1 _).out.mono ?_); rintro e w1 ⟨rfl, rfl⟩)
      | ((with_reducible refine (C2 _).out.mono ?_); rintro e w1 ⟨rfl, hq⟩; replace HB := Lib.hid (HB.out.trans (hq.mono HB.out.size)); obtain ⟨-, -, -, t3, t4, t5, t6⟩ := HI.out.below hq; clear hq))
    go_ret
    exact ⟨ret_bool HV.out, HB.out⟩
end Go.Proofs.Ytfjaklpddcafdaa

namespace Go.Proofs.Ytfjaklpddcafdaa
open Go.RowKit

def upI : Option (List UInt8) → List Itm → Bool
  | _, [] => true
  | none, x :: l => rightI x && upI (some x.key) l
  | some c, x :: l => rightI x && (ltB c x.key && upI (some x.key) l)
theorem upI_list : ∀ (l : List Itm), listI l = upI none l
  | [] => rfl
  | [x] => by rw [upI, upI, Bool.and_true]; rfl
  | x :: y :: l => by
    have h := upI_list (y :: l)
    rw [upI] at h
    rw [listI, h, upI, upI]
    cases rightI x <;> cases rightI y <;> cases ltB x.key y.key <;> rfl
set_option maxRecDepth 100000 in
set_option maxHeartbeats 8000000 in
theorem ref_ilist (A : Option Addr) (c n : Nat) (l : List Itm) (hn : n = l.length) (hkl : ∀ x ∈ l, x.key.length ≤ 1000000) (v : Bool) (hv : listI l = v) (w : World) (hr : kItm.Rd w w.heap.size A c l) :
    Calls Try.prog 17 #[.slice A n c] w fun e w' => e = .returned (.bool v) ∧ Below w.heap.size w w' := by
  have HN := Lib.hid hn
  have HR := Lib.hid hr
  have HV := Lib.hid ((upI_list l).symm.trans hv)
  have HK := Lib.hid hkl
  have hmx := rd_maxI hr hn
  have hcx : n ≤ c := by rw [hn]; exact hr.room
  clear hn hr hv hkl
  go_enter Try.func17, Try.ntmps17
  go_wp2_with fail
  go_loopw [3] (fun i wr => ∃ k : Nat, k ≤ n ∧ i = .int .i64 k ∧ Hid ((k = 0 ∧ upI none l = v) ∨ ∃ j p, k = j + 1 ∧ l[j]? = some p ∧ upI (some p.key) (l.drop k) = v) ∧ Hid (Below w.heap.size w wr)) (fun i _ => n - (intOf i).toNat)
  case atStart => exact ⟨0, by omega, rfl, .inl ⟨rfl, HV.out⟩, Below.refl _ _⟩
  case round =>
    obtain ⟨k, hk, rfl, HL, HW⟩ := hrel
    by_cases hlt : k < n
    · obtain ⟨x, hg, hd, hxm⟩ := get_some (l := l) (k := k) (by have := HN.out; omega)
      obtain ⟨b, o, rfl, hb1, hcell⟩ := itms_at (HR.out.below HW.out) (by have := HN.out; omega)
      obtain ⟨q0, q1, q2, q3, q4, q5, q6⟩ := hcell k x hg
      obtain ⟨K, r, c', rk, p', d, B, hI⟩ : ∃ K r c k p d B, IsI x K r c k p d B := ⟨_, _, _, _, _, _, _, IsI.mk' x⟩
      rw [hI.key] at q0
      rw [hI.rep] at q1
      rw [hI.cnt] at q2
      rw [hI.rank] at q3
      rw [hI.prio] at q4
      rw [hI.dead] at q5
      rw [hI.body] at q6
      obtain ⟨z, hz⟩ : ∃ z, rightI x = z := ⟨_, rfl⟩
      have CS := Lib.hid (fun (L : List (Addr × Value)) => fun (W : World) (hC : CellL wr L W) => (ref_iright x K r c' rk p' d B hI z hz W).mono fun (e' : Ending) (W' : World) ⟨h1, h2⟩ => (⟨h1, cellL_call h2 hC⟩ : e' = Ending.returned (.bool z) ∧ CellL wr L W'))
      have hk0 : (0 : Int) ≤ (k : Int) := by omega
      have hkn : (k : Int) < (n : Int) := by omega
      rcases HL.out with ⟨h0, hL⟩ | ⟨j, p, hj, hgj, hL⟩
      · subst h0
        rw [List.drop_zero] at hd
        have HF := Lib.hid (show (z && upI (some x.key) (l.drop (0 + 1))) = v by rw [hd, upI, hz] at hL; exact hL)
        have HNX := Lib.hid (fun (h : upI (some x.key) (l.drop (0 + 1)) = v) => show (0 + 1 = 0 ∧ upI none l = v) ∨ ∃ j p, 0 + 1 = j + 1 ∧ l[j]? = some p ∧ upI (some p.key) (l.drop (0 + 1)) = v from .inr ⟨0, x, rfl, hg, h⟩)
        rw [Nat.zero_mul, Nat.add_zero] at q0 q1 q2 q3 q4 q5 q6
        have HC := Lib.hid (show CellL wr [(⟨b, o, none⟩, .string K), (⟨b, o + 1, none⟩, .int .i64 r), (⟨b, o + 2, none⟩, .int .i64 c'), (⟨b, o + 3, none⟩, .int .i64 rk), (⟨b, o + 4, none⟩, .int .i64 p'), (⟨b, o + 5, none⟩, .bool d), (⟨b, o + 6, none⟩, .string B)] wr from ⟨q0, q1, q2, q3, q4, q5, q6, Below.refl _ _⟩)
        clear hcell hg hd hz hL HL hI hxm q0 q1 q2 q3 q4 q5 q6
        cases z
        all_goals
          go_wp2_with fail
          refine q_region (CellL wr [(⟨b, o, none⟩, .string K), (⟨b, o + 1, none⟩, .int .i64 r), (⟨b, o + 2, none⟩, .int .i64 c'), (⟨b, o + 3, none⟩, .int .i64 rk), (⟨b, o + 4, none⟩, .int .i64 p'), (⟨b, o + 5, none⟩, .bool d), (⟨b, o + 6, none⟩, .string B)]) (by kernel_rfl) (by kernel_rfl) (cellL_drew HC.out) ?_
          repeat (first
            | go_big_quiet_skip
            | (go_big_quiet_want; (first
              | (refine q_take (v := ?_) ?_ ?_; rotate_left; (focus (intro w hSw; (try simp only [CellL] at hSw); go_split_ands; go_simp; (try (rw [if_neg (by omega)])); (try with_reducible rfl); done)))
              | (refine q_call (CS.out _) ?_ ?_; (focus (intro w hSw; (try simp only [CellL] at hSw); go_split_ands; go_simp; (try (rw [if_neg (by omega)])); done)))); (try simp only [Act.put, List.setIfInBounds_toArray, List.set_cons_zero, List.set_cons_succ]); go_big_quiet_on))
          refine wpQuiet_nil ?_
          intro w2 hw2
          have HB2 := Lib.hid (HW.out.trans ((cellL_size hw2).mono HW.out.size))
          clear hw2
          go_wp2_with fail
          first
            | (go_ret; exact ⟨ret_bool (show false = v from HF.out), HB2.out⟩)
            | (go_roundw
               case rel => exact ⟨0 + 1, by omega, by go_num, HNX.out HF.out, HB2⟩
               case measure => simp [intOf]; omega)
      · subst hj
        obtain ⟨u0, -⟩ := hcell j p hgj
        obtain ⟨T, hT⟩ : ∃ T, str p.key = T := ⟨_, rfl⟩
        rw [hT] at u0
        obtain ⟨y, hy⟩ : ∃ y, ltB p.key x.key = y := ⟨_, rfl⟩
        have CL := Lib.hid (fun (L : List (Addr × Value)) => fun (W : World) (hC : CellL wr L W) => (ref_less p.key x.key (by have := HK.out p (List.mem_of_getElem? hgj); omega) W).mono fun (e' : Ending) (W' : World) ⟨h1, _, h2⟩ => (⟨h1.trans (by rw [hy]), cellL_call (h2 ▸ below_drewN (Below.refl _ _) _) hC⟩ : e' = Ending.returned (.bool y) ∧ CellL wr L W'))
        rw [hT, hI.key] at CL
        have HF := Lib.hid (show (z && (y && upI (some x.key) (l.drop (j + 1 + 1)))) = v by rw [hd, upI, hz, hy] at hL; exact hL)
        have HNX := Lib.hid (fun (h : upI (some x.key) (l.drop (j + 1 + 1)) = v) => show (j + 1 + 1 = 0 ∧ upI none l = v) ∨ ∃ j' p, j + 1 + 1 = j' + 1 ∧ l[j']? = some p ∧ upI (some p.key) (l.drop (j + 1 + 1)) = v from .inr ⟨j + 1, x, rfl, hg, h⟩)
        have hk1 : (0 : Int) ≤ (j : Int) + 1 := by omega
        have hkn1 : (j : Int) + 1 < (n : Int) := by omega
        have hj0 : (0 : Int) ≤ (j : Int) := by omega
        have hjn : (j : Int) < (n : Int) := by omega
        have hjd : decide ((j : Int) < 0) = false := decide_eq_false (by omega)
        have hjg : decide ((0 : Int) < (j : Int) + 1) = true := decide_eq_true (by omega)
        have hjg2 : decide ((j : Int) + 1 > 0) = true := hjg
        have hjw : IntKind.i64.wrap ((j : Int) + 1 - 1) = (j : Int) := by rw [Int.add_sub_cancel]; exact IntWalk.i64_in _ (by omega)
        have hjw2 : IntKind.i64.wrap (j : Int) = (j : Int) := IntWalk.i64_in _ (by omega)
        have HC := Lib.hid (show CellL wr [(⟨b, o + (j + 1) * 7, none⟩, .string K), (⟨b, o + (j + 1) * 7 + 1, none⟩, .int .i64 r), (⟨b, o + (j + 1) * 7 + 2, none⟩, .int .i64 c'), (⟨b, o + (j + 1) * 7 + 3, none⟩, .int .i64 rk), (⟨b, o + (j + 1) * 7 + 4, none⟩, .int .i64 p'), (⟨b, o + (j + 1) * 7 + 5, none⟩, .bool d), (⟨b, o + (j + 1) * 7 + 6, none⟩, .string B), (⟨b, o + j * 7, none⟩, .string T)] wr from ⟨q0, q1, q2, q3, q4, q5, q6, u0, Below.refl _ _⟩)
        clear hcell hg hgj hd hz hy hT hL HL hI hxm q0 q1 q2 q3 q4 q5 q6 u0
        cases z <;> cases y
        all_goals
          go_wp2_with fail
          refine q_region (CellL wr [(⟨b, o + (j + 1) * 7, none⟩, .string K), (⟨b, o + (j + 1) * 7 + 1, none⟩, .int .i64 r), (⟨b, o + (j + 1) * 7 + 2, none⟩, .int .i64 c'), (⟨b, o + (j + 1) * 7 + 3, none⟩, .int .i64 rk), (⟨b, o + (j + 1) * 7 + 4, none⟩, .int .i64 p'), (⟨b, o + (j + 1) * 7 + 5, none⟩, .bool d), (⟨b, o + (j + 1) * 7 + 6, none⟩, .string B), (⟨b, o + j * 7, none⟩, .string T)]) (by kernel_rfl) (by kernel_rfl) (cellL_drew HC.out) ?_
          repeat (first
            | go_big_quiet_skip
            | (go_big_quiet_want; (first
              | (refine q_take (v := ?_) ?_ ?_; rotate_left; (focus (intro w hSw; (try simp only [CellL] at hSw); go_split_ands; go_simp; (try (rw [if_neg (by omega)])); (try with_reducible rfl); done)))
              | (refine q_call (CS.out _) ?_ ?_; (focus (intro w hSw; (try simp only [CellL] at hSw); go_split_ands; go_simp; (try (rw [if_neg (by omega)])); done)))
              | (refine q_call (CL.out _) ?_ ?_; (focus (intro w hSw; (try simp only [CellL] at hSw); go_split_ands; go_simp; (try (rw [if_neg (by omega)])); done)))); (try simp only [Act.put, List.setIfInBounds_toArray, List.set_cons_zero, List.set_cons_succ]); go_big_quiet_on))
          refine wpQuiet_nil ?_
          intro w2 hw2
          have HB2 := Lib.hid (HW.out.trans ((cellL_size hw2).mono HW.out.size))
          clear hw2
          go_wp2_with fail
          first
            | (go_ret; exact ⟨ret_bool (show false = v from HF.out), HB2.out⟩)
            | (go_roundw
               case rel => exact ⟨j + 1 + 1, by omega, by go_num, HNX.out HF.out, HB2⟩
               case measure => simp [intOf]; omega)
    · have HF := Lib.hid (show true = v by
        rcases HL.out with ⟨h0, hL⟩ | ⟨j, p, hj, hgj, hL⟩
        · have : l = [] := List.eq_nil_of_length_eq_zero (by have := HN.out; omega)
          rw [← hL, this]; rfl
        · rw [← hL, List.drop_eq_nil_of_le (by have := HN.out; omega)]; rfl)
      go_wp2_with fail
      go_ret
      exact ⟨ret_bool HF.out, HW.out⟩
end Go.Proofs.Ytfjaklpddcafdaa

namespace Go.Proofs.Ytfjaklpddcafdaa
open Go.RowKit

theorem eq_itm (a b a' b' : ByteArray) (r c k p r' c' k' p' : Int) (d d' : Bool) (w : World) : (Op.equalIn 10000 26 (itV a r c k p d b) (itV a' r' c' k' p' d' b')).run Try.prog w = .ok (a.toList == a'.toList && ((r == r' && c == c') && (k == k' && (p == p' && (d == d' && b.toList == b'.toList))))) w := by
  have u3 := Try.underlying9
  have a3 := Try.isAgg9
  have z3 := Try.sizeOf9
  have u4 := Try.underlying4
  have a4 := Try.isAgg4
  have z4 := Try.sizeOf4
  have u5 := Try.underlying3
  have a5 := Try.isAgg3
  have z5 := Try.sizeOf3
  have a6 := Try.isAgg24
  have z6 := Try.sizeOf24
  have hS : Try.prog.underlying 26 = some (.struct (Try.prog.fieldsOf 26)) := by kernel_rfl
  have hp : Try.prog.stoodInHeld 26 = false := by kernel_rfl
  have hS2 : Try.prog.underlying 24 = some (.struct (Try.prog.fieldsOf 24)) := by kernel_rfl
  have hp2 : Try.prog.stoodInHeld 24 = false := by kernel_rfl
  have hV : ∀ (w : World) (x y x' y' : Int), (Op.equalIn 9999 24 (.agg #[.int .i64 x, .int .i64 y]) (.agg #[.int .i64 x', .int .i64 y'])).run Try.prog w = .ok (x == x' && y == y') w := fun w x y x' y' => by
    rw [show (9999 : Nat) = 9998 + 1 from rfl, run_equalIn_agg w 9998 24 _ _ hS2 hp2]
    simp only [Program.fieldsOf, Try.underlying24]
    go_simp
    by_cases h1 : x = x' <;> by_cases h2 : y = y' <;> simp [h1, h2]
  rw [show (10000 : Nat) = 9999 + 1 from rfl, run_equalIn_agg w 9999 26 _ _ hS hp]
  simp only [Program.fieldsOf, Try.underlying26]
  clear hS hp hS2 hp2
  go_simp
  by_cases h1 : a.toList = a'.toList <;> by_cases h2 : r = r' <;> by_cases h3 : c = c' <;> by_cases h4 : k = k' <;> by_cases h5 : p = p' <;> by_cases h6 : b.toList = b'.toList <;> cases d <;> cases d' <;> simp [h1, h2, h3, h4, h5, h6]
def eqI (x y : Itm) : Bool := decide (x.key = y.key) && ((x.ver.rep == y.ver.rep && x.ver.cnt == y.ver.cnt) && (x.rank == y.rank && (x.prio == y.prio && (x.dead == y.dead && decide (x.body = y.body)))))
theorem eqI_iff {x y : Itm} : eqI x y = true ↔ x = y := by
  unfold eqI
  simp only [Bool.and_eq_true, decide_eq_true_eq, beq_iff_eq]
  constructor
  · rintro ⟨h1, ⟨h2, h3⟩, h4, h5, h6, h7⟩
    exact itm_ext h1 (vr_ext h2 h3) h4 h5 h6 h7
  · rintro rfl; simp
theorem eq_itms (x y : Itm) (K : ByteArray) (r c k p : Int) (d : Bool) (B : ByteArray) (hx : IsI x K r c k p d B) (K' : ByteArray) (r' c' k' p' : Int) (d' : Bool) (B' : ByteArray) (hy : IsI y K' r' c' k' p' d' B') (v : Bool) (hv : eqI x y = v) (w : World) :
    (Op.equalIn 10000 26 (itV K r c k p d B) (itV K' r' c' k' p' d' B')).run Try.prog w = .ok v w := by
  rw [eq_itm]
  have e : ∀ a b : List UInt8, (a == b) = decide (a = b) := fun a b => by by_cases h : a = b <;> simp [h]
  rw [← hv, ← hx.key, ← hy.key, ← hx.body, ← hy.body, ← hx.rep, ← hx.cnt, ← hx.rank, ← hx.prio, ← hx.dead, ← hy.rep, ← hy.cnt, ← hy.rank, ← hy.prio, ← hy.dead, str_toList, str_toList, str_toList, str_toList, e, e]
  rfl
def sameI : List Itm → List Itm → Bool
  | [], [] => true
  | x :: a, y :: b => eqI x y && sameI a b
  | _, _ => false
theorem sameI_iff : ∀ {a b : List Itm}, sameI a b = true ↔ a = b
  | [], [] => by simp [sameI]
  | [], _ :: _ => by simp [sameI]
  | _ :: _, [] => by simp [sameI]
  | r :: a, t :: b => by rw [sameI, Bool.and_eq_true, eqI_iff, sameI_iff (a := a), List.cons.injEq]
theorem sameI_cons (x y : Itm) (a b : List Itm) : sameI (x :: a) (y :: b) = (eqI x y && sameI a b) := rfl
theorem sameI_len {a b : List Itm} (h : a.length ≠ b.length) : sameI a b = false := by
  cases h1 : sameI a b
  · rfl
  · exact absurd (congrArg List.length (sameI_iff.1 h1)) h
set_option maxRecDepth 100000 in
set_option maxHeartbeats 2000000 in
theorem ref_isame (A B : Option Addr) (c d n m : Nat) (a b : List Itm) (hn : n = a.length) (hm : m = b.length) (v : Bool) (hv : sameI a b = v) (w : World) (ha : kItm.Rd w w.heap.size A c a) (hb : kItm.Rd w w.heap.size B d b) :
    Calls Try.prog 21 #[.slice A n c, .slice B m d] w fun e w' => e = .returned (.bool v) ∧ Below w.heap.size w w' := by
  have HN := Lib.hid hn
  have HM := Lib.hid hm
  have HA := Lib.hid ha
  have HB := Lib.hid hb
  have hmx := rd_maxI ha hn
  have hmy := rd_maxI hb hm
  have hcx : n ≤ c := by rw [hn]; exact ha.room
  have hcy : m ≤ d := by rw [hm]; exact hb.room
  subst hv
  by_cases hnm : n = m
  · subst hnm
    clear hn hm ha hb
    go_enter Try.func21, Try.ntmps21
    go_wp2_with fail
    go_loopw [5] (fun i wr => ∃ k : Nat, k ≤ n ∧ Hid (sameI a b = sameI (a.drop k) (b.drop k)) ∧ i = .int .i64 k ∧ Hid (Below w.heap.size w wr)) (fun i _ => n - (intOf i).toNat)
    case atStart => exact ⟨0, by omega, rfl, rfl, Below.refl _ _⟩
    case round =>
      obtain ⟨k, hk, HL, rfl, HW⟩ := hrel
      by_cases hlt : k < n
      · obtain ⟨x, hg, hd, -⟩ := get_some (l := a) (k := k) (by have := HN.out; omega)
        obtain ⟨y, hg', hd', -⟩ := get_some (l := b) (k := k) (by have := HM.out; omega)
        obtain ⟨b1, o1, rfl, hb1, hcell1⟩ := itms_at (HA.out.below HW.out) (by have := HN.out; omega)
        obtain ⟨b2, o2, rfl, hb2, hcell2⟩ := itms_at (HB.out.below HW.out) (by have := HM.out; omega)
        obtain ⟨p0, p1, p2, p3, p4, p5, p6⟩ := hcell1 k x hg
        obtain ⟨q0, q1, q2, q3, q4, q5, q6⟩ := hcell2 k y hg'
        obtain ⟨K, r, cc, rk, pp, dd, BB, hI⟩ : ∃ K r c k p d B, IsI x K r c k p d B := ⟨_, _, _, _, _, _, _, IsI.mk' x⟩
        obtain ⟨K', r', cc', rk', pp', dd', BB', hJ⟩ : ∃ K r c k p d B, IsI y K r c k p d B := ⟨_, _, _, _, _, _, _, IsI.mk' y⟩
        rw [hI.key] at p0
        rw [hI.rep] at p1
        rw [hI.cnt] at p2
        rw [hI.rank] at p3
        rw [hI.prio] at p4
        rw [hI.dead] at p5
        rw [hI.body] at p6
        rw [hJ.key] at q0
        rw [hJ.rep] at q1
        rw [hJ.cnt] at q2
        rw [hJ.rank] at q3
        rw [hJ.prio] at q4
        rw [hJ.dead] at q5
        rw [hJ.body] at q6
        obtain ⟨z, hz⟩ : ∃ z, eqI x y = z := ⟨_, rfl⟩
        have EQ := fun w => eq_itms x y K r cc rk pp dd BB hI K' r' cc' rk' pp' dd' BB' hJ z hz w
        have HL2 := Lib.hid (HL.out.trans (show sameI (a.drop k) (b.drop k) = (z && sameI (a.drop (k + 1)) (b.drop (k + 1))) by rw [hd, hd', sameI_cons, hz]))
        have hk0 : (0 : Int) ≤ (k : Int) := by omega
        have hkn : (k : Int) < (n : Int) := by omega
        clear hcell1 hcell2 hg hg' hd hd' hz hI hJ
        cases z
        all_goals
          go_wp2_with fail
          go_quiet (fail)
          go_wp2_with fail
        · go_ret
          exact ⟨ret_bool HL2.out.symm, below_drewN HW.out _⟩
        · go_roundw
          case rel => exact ⟨k + 1, by omega, HL2, by go_num, below_drewN HW.out _⟩
          case measure => simp [intOf]; omega
      · have HL2 := Lib.hid (HL.out.trans (show sameI (a.drop k) (b.drop k) = true by rw [List.drop_eq_nil_of_le (by have := HN.out; omega), List.drop_eq_nil_of_le (by have := HM.out; omega)]; rfl))
        go_wp2_with fail
        go_ret
        exact ⟨ret_bool HL2.out.symm, HW.out⟩
  · have HE := Lib.hid (sameI_len (a := a) (b := b) (by omega))
    have hne : ((n : Int) == (m : Int)) = false := beq_eq_false_iff_ne.2 (by omega)
    have hne2 : ((n : Int) != (m : Int)) = true := by rw [bne, hne]; rfl
    clear hn hm ha hb hnm
    go_enter Try.func21, Try.ntmps21
    go_wp2_with fail
    go_ret
    exact ⟨ret_bool HE.out.symm, Below.refl _ _⟩
def longIt (x : Itm) : Bool := decide (60 < x.key.length) || decide (200 < x.body.length)
def longI (m : Nat) (l : List Itm) : Bool := decide (m < l.length) || l.any longIt
theorem longI_no {m : Nat} {l : List Itm} (h : longI m l = false) : l.length ≤ m ∧ ∀ x ∈ l, x.key.length ≤ 60 ∧ x.body.length ≤ 200 := by
  unfold longI at h
  rw [Bool.or_eq_false_iff, decide_eq_false_iff_not, List.any_eq_false] at h
  refine ⟨by omega, fun x hx => ?_⟩
  have h1 := h.2 x hx
  unfold longIt at h1
  simp only [Bool.or_eq_true, decide_eq_true_eq, not_or] at h1
  omega
set_option maxRecDepth 100000 in
set_option maxHeartbeats 2000000 in
theorem ref_ilong (m : Nat) (y : Int) (hy : (m : Int) = y) (hml : m ≤ 1000) (A : Option Addr) (c n : Nat) (l : List Itm) (hn : n = l.length) (v : Bool) (hv : longI m l = v) (w : World) (hr : kItm.Rd w w.heap.size A c l) :
    Calls Try.prog 8 #[.slice A n c, .int .i64 y] w fun e w' => e = .returned (.bool v) ∧ Below w.heap.size w w' := by
  subst hy
  have HN := Lib.hid hn
  have HR := Lib.hid hr
  have hmx := rd_maxI hr hn
  have hcx : n ≤ c := by rw [hn]; exact hr.room
  by_cases h1 : m < n
  · have HE : Hid (true = v) := by rw [← hv]; unfold longI; rw [decide_eq_true (by omega)]; rfl
    clear hn hr hv
    go_enter Try.func8, Try.ntmps8
    go_wp2_with fail
    go_ret
    exact ⟨ret_bool HE.out, Below.refl _ _⟩
  · have hdm : decide (m < n) = false := decide_eq_false h1
    have HE : Hid (l.any longIt = v) := by rw [← hv]; unfold longI; rw [decide_eq_false (by omega), Bool.false_or]; rfl
    clear hn hr hv
    go_enter Try.func8, Try.ntmps8
    go_wp2_with fail
    go_loopw [5] (fun i wr => ∃ j : Nat, j ≤ n ∧ Hid ((l.drop j).any longIt = v) ∧ i = .int .i64 j ∧ Hid (Below w.heap.size w wr)) (fun i _ => n - (intOf i).toNat)
    case atStart => exact ⟨0, by omega, HE, rfl, Below.refl _ _⟩
    case round =>
      obtain ⟨j, hj, HL, rfl, HW⟩ := hrel
      by_cases hlt : j < n
      · obtain ⟨x, hg, hd, -⟩ := get_some (l := l) (k := j) (by have := HN.out; omega)
        obtain ⟨b, o, rfl, hb1, hcell⟩ := itms_at (HR.out.below HW.out) (by have := HN.out; omega)
        obtain ⟨q0, -, -, -, -, -, q6⟩ := hcell j x hg
        obtain ⟨S, hS⟩ : ∃ S, str x.key = S := ⟨_, rfl⟩
        obtain ⟨T, hT⟩ : ∃ T, str x.body = T := ⟨_, rfl⟩
        rw [hS] at q0
        rw [hT] at q6
        have HL2 := Lib.hid (show (longIt x || (l.drop (j + 1)).any longIt) = v from by rw [← List.any_cons, ← hd]; exact HL.out)
        have hz1 : S.size = x.key.length := by rw [← hS]; exact str_size _
        have hz2 : T.size = x.body.length := by rw [← hT]; exact str_size _
        clear hcell hg hd HE hS hT
        by_cases g1 : x.key.length ≤ 60
        · by_cases g2 : x.body.length ≤ 200
          · have k1 : S.size ≤ 60 := by omega
            have k2 : T.size ≤ 200 := by omega
            have HE := Lib.hid (show (l.drop (j + 1)).any longIt = v from by
              rw [← HL2.out]
              unfold longIt
              rw [decide_eq_false (show ¬ 60 < x.key.length by omega), decide_eq_false (show ¬ 200 < x.body.length by omega)]; rfl)
            clear hz1 hz2 g1 g2 HL2
            go_wp2_with fail
            go_roundw
            case rel => exact ⟨j + 1, by omega, HE, by go_num, HW⟩
            case measure => simp [intOf]; omega
          · have k1 : S.size ≤ 60 := by omega
            have k2 : 200 < T.size := by omega
            have HE := Lib.hid (show true = v from by
              rw [← HL2.out]
              unfold longIt
              rw [decide_eq_true (show 200 < x.body.length by omega), Bool.or_true]; rfl)
            clear hz1 hz2 g1 g2 HL2
            go_wp2_with fail
            go_ret
            exact ⟨ret_bool HE.out, HW.out⟩
        · have k1 : 60 < S.size := by omega
          have HE := Lib.hid (show true = v from by
            rw [← HL2.out]
            unfold longIt
            rw [decide_eq_true (show 60 < x.key.length by omega), Bool.true_or]; rfl)
          clear hz1 hz2 g1 HL2
          go_wp2_with fail
          go_ret
          exact ⟨ret_bool HE.out, HW.out⟩
      · have HE2 := Lib.hid (show false = v by rw [← HL.out, List.drop_eq_nil_of_le (by have := HN.out; omega)]; rfl)
        go_wp2_with fail
        go_ret
        exact ⟨ret_bool HE2.out, HW.out⟩
end Go.Proofs.Ytfjaklpddcafdaa

namespace Go.Proofs.Ytfjaklpddcafdaa
open Go.RowKit

def pickI (all : Bool) (k : List UInt8) (x : Itm) : Bool := rightI x && (all || decide (x.key = k))
theorem pickI_all (k : List UInt8) : pickI true k = rightI := funext fun x => by unfold pickI; rw [Bool.true_or, Bool.and_true]
theorem pickI_key (k : List UInt8) : pickI false k = ofK k := funext fun x => by unfold pickI ofK; rw [Bool.false_or]
def BestAt (p : Itm → Bool) (l : List Itm) (k : Nat) (z : Int) : Prop := (z = -1 ∧ bestF p (l.take k) = none) ∨ ∃ (j : Nat) (x : Itm), z = (j : Int) ∧ j < k ∧ l[j]? = some x ∧ bestF p (l.take k) = some x
theorem BestAt.skip {p : Itm → Bool} {l : List Itm} {k : Nat} {z : Int} {x : Itm} (h : BestAt p l k z) (hx : l[k]? = some x) (hp : p x = false) : BestAt p l (k + 1) z := by
  have e : bestF p (l.take (k + 1)) = bestF p (l.take k) := by rw [bestF_take hx, keepO_no hp, combO_none]
  rcases h with ⟨h1, h2⟩ | ⟨j, y, h1, h2, h3, h4⟩
  · exact .inl ⟨h1, by rw [e]; exact h2⟩
  · exact .inr ⟨j, y, h1, by omega, h3, by rw [e]; exact h4⟩
theorem BestAt.first {p : Itm → Bool} {l : List Itm} {k : Nat} {x : Itm} (h : bestF p (l.take k) = none) (hx : l[k]? = some x) (hp : p x = true) : BestAt p l (k + 1) (k : Int) :=
  .inr ⟨k, x, rfl, by omega, hx, by rw [bestF_take hx, keepO_yes hp, h]; rfl⟩
theorem BestAt.next {p : Itm → Bool} {l : List Itm} {k : Nat} {x y : Itm} (h : bestF p (l.take k) = some y) (hx : l[k]? = some x) (hp : p x = true) (hb : beatsI x y = true) : BestAt p l (k + 1) (k : Int) :=
  .inr ⟨k, x, rfl, by omega, hx, by rw [bestF_take hx, keepO_yes hp, h, combO_yes hb]⟩
theorem BestAt.stay {p : Itm → Bool} {l : List Itm} {k j : Nat} {x y : Itm} (h : bestF p (l.take k) = some y) (hj : j < k) (hy : l[j]? = some y) (hx : l[k]? = some x) (hp : p x = true) (hb : beatsI x y = false) : BestAt p l (k + 1) (j : Int) :=
  .inr ⟨j, y, rfl, by omega, hy, by rw [bestF_take hx, keepO_yes hp, h, combO_no hb]⟩
set_option maxRecDepth 100000 in
set_option maxHeartbeats 8000000 in
theorem ref_ibest (A : Option Addr) (c n : Nat) (l : List Itm) (key : List UInt8) (T : ByteArray) (hT : str key = T) (all : Bool) (hn : n = l.length) (w : World) (hr : kItm.Rd w w.heap.size A c l) :
    Calls Try.prog 14 #[.slice A n c, .string T, .bool all] w fun e w' => ∃ z : Int, e = .returned (.int .i64 z) ∧ BestAt (pickI all key) l n z ∧ Below w.heap.size w w' := by
  have HN := Lib.hid hn
  have HR := Lib.hid hr
  have HT := Lib.hid hT
  have hmx := rd_maxI hr hn
  have hcx : n ≤ c := by rw [hn]; exact hr.room
  clear hn hr hT
  go_enter Try.func14, Try.ntmps14
  go_wp2_with fail
  go_loopw [7, 8] (fun v i wr => ∃ (k : Nat) (z : Int), k ≤ n ∧ v = .int .i64 z ∧ i = .int .i64 k ∧ Hid (BestAt (pickI all key) l k z) ∧ Hid (Below w.heap.size w wr)) (fun _ i _ => n - (intOf i).toNat)
  case atStart => exact ⟨0, -1, by omega, rfl, rfl, .inl ⟨rfl, rfl⟩, Below.refl _ _⟩
  case round =>
    obtain ⟨k, z, hk, rfl, rfl, HBA, HW⟩ := hrel
    by_cases hlt : k < n
    · obtain ⟨x, hg, hd, -⟩ := get_some (l := l) (k := k) (by have := HN.out; omega)
      obtain ⟨b, o, rfl, hb1, hcell⟩ := itms_at (HR.out.below HW.out) (by have := HN.out; omega)
      obtain ⟨p0, p1, p2, p3, p4, p5, p6⟩ := hcell k x hg
      obtain ⟨K, r, cc, rk, pp, dd, BB, hI⟩ : ∃ K r c k p d B, IsI x K r c k p d B := ⟨_, _, _, _, _, _, _, IsI.mk' x⟩
      rw [hI.key] at p0
      rw [hI.rep] at p1
      rw [hI.cnt] at p2
      rw [hI.rank] at p3
      rw [hI.prio] at p4
      rw [hI.dead] at p5
      rw [hI.body] at p6
      obtain ⟨y, hy⟩ : ∃ y, rightI x = y := ⟨_, rfl⟩
      have C1 := Lib.hid (ref_iright x K r cc rk pp dd BB hI y hy wr)
      obtain ⟨q, hq⟩ : ∃ q, decide (x.key = key) = q := ⟨_, rfl⟩
      have hkl : (K.toList == T.toList) = q := by
        rw [← hq, ← hI.key, ← HT.out, str_toList, str_toList]
        by_cases h : x.key = key <;> simp [h]
      have HP := Lib.hid (show pickI all key x = (y && (all || q)) by unfold pickI; rw [hy, hq])
      have HX := Lib.hid hg
      have HI := Lib.hid hI
      have hk0 : (0 : Int) ≤ (k : Int) := by omega
      have hkn : (k : Int) < (n : Int) := by omega
      clear hg hd hy hq hI
      cases y with
      | false =>
        have HS := Lib.hid (HBA.out.skip HX.out HP.out)
        clear hcell HP
        go_wp2_with ((with_reducible refine C1.out.mono ?_); rintro e w1 ⟨rfl, hq⟩; have HW1 := Lib.hid (HW.out.trans (hq.mono HW.out.size)); clear hq)
        go_roundw
        case rel => exact ⟨k + 1, z, by omega, rfl, by go_num, HS, HW1⟩
        case measure => simp [intOf]; omega
      | true =>
        cases all with
        | false =>
          cases q with
          | false =>
            have HS := Lib.hid (HBA.out.skip HX.out HP.out)
            clear hcell HP
            go_wp2_with ((with_reducible refine C1.out.mono ?_); rintro e w1 ⟨rfl, hq⟩; have HW1 := Lib.hid (HW.out.trans (hq.mono HW.out.size)); have p0 := ((bcell hq).1 _ _ (World.block_lt_of_cell? _ _ p0)).trans p0; clear hq)
            go_roundw
            case rel => exact ⟨k + 1, z, by omega, rfl, by go_num, HS, HW1⟩
            case measure => simp [intOf]; omega
          | true =>
            have hp : pickI false key x = true := HP.out
            rcases HBA.out with ⟨h1, h2⟩ | ⟨j, yb, h1, h2, h3, h4⟩
            · subst h1
              have HS := Lib.hid (BestAt.first h2 HX.out hp)
              clear hcell HP hp h2 HBA
              go_wp2_with ((with_reducible refine C1.out.mono ?_); rintro e w1 ⟨rfl, hq⟩; have HW1 := Lib.hid (HW.out.trans (hq.mono HW.out.size)); have p0' := ((bcell hq).1 _ _ (World.block_lt_of_cell? _ _ p0)).trans p0; have HC := Lib.hid (show CellL w1 [(⟨b, o + k * 7, none⟩, .string K), (⟨b, o + k * 7 + 1, none⟩, .int .i64 r), (⟨b, o + k * 7 + 2, none⟩, .int .i64 cc), (⟨b, o + k * 7 + 3, none⟩, .int .i64 rk), (⟨b, o + k * 7 + 4, none⟩, .int .i64 pp), (⟨b, o + k * 7 + 5, none⟩, .bool dd), (⟨b, o + k * 7 + 6, none⟩, .string BB)] w1 from ⟨((bcell hq).1 _ _ (World.block_lt_of_cell? _ _ p0)).trans p0, ((bcell hq).1 _ _ (World.block_lt_of_cell? _ _ p1)).trans p1, ((bcell hq).1 _ _ (World.block_lt_of_cell? _ _ p2)).trans p2, ((bcell hq).1 _ _ (World.block_lt_of_cell? _ _ p3)).trans p3, ((bcell hq).1 _ _ (World.block_lt_of_cell? _ _ p4)).trans p4, ((bcell hq).1 _ _ (World.block_lt_of_cell? _ _ p5)).trans p5, ((bcell hq).1 _ _ (World.block_lt_of_cell? _ _ p6)).trans p6, Below.refl _ _⟩); clear hq)
              refine q_region (CellL w1 [(⟨b, o + k * 7, none⟩, .string K), (⟨b, o + k * 7 + 1, none⟩, .int .i64 r), (⟨b, o + k * 7 + 2, none⟩, .int .i64 cc), (⟨b, o + k * 7 + 3, none⟩, .int .i64 rk), (⟨b, o + k * 7 + 4, none⟩, .int .i64 pp), (⟨b, o + k * 7 + 5, none⟩, .bool dd), (⟨b, o + k * 7 + 6, none⟩, .string BB)]) (by kernel_rfl) (by kernel_rfl) (cellL_drew HC.out) ?_
              repeat (first
                | go_big_quiet_skip
                | (go_big_quiet_want; (first
                  | (refine q_take (v := ?_) ?_ ?_; rotate_left; (focus (intro w hSw; (try simp only [CellL] at hSw); go_split_ands; go_simp; (try (rw [if_neg (by omega)])); (try with_reducible rfl); done)))); (try simp only [Act.put, List.setIfInBounds_toArray, List.set_cons_zero, List.set_cons_succ]); go_big_quiet_on))
              refine wpQuiet_nil ?_
              intro w2 hw2
              have HB2 := Lib.hid (HW1.out.trans ((cellL_size hw2).mono HW1.out.size))
              clear hw2
              go_wp2_with fail
              go_roundw
              case rel => exact ⟨k + 1, (k : Int), by omega, rfl, by go_num, HS, HB2⟩
              case measure => simp [intOf]; omega
            · subst h1
              obtain ⟨q0, q1, q2, q3, q4, q5, q6⟩ := hcell j yb h3
              obtain ⟨K', r', cc', rk', pp', dd', BB', hJ⟩ : ∃ K r c k p d B, IsI yb K r c k p d B := ⟨_, _, _, _, _, _, _, IsI.mk' yb⟩
              rw [hJ.key] at q0
              rw [hJ.rep] at q1
              rw [hJ.cnt] at q2
              rw [hJ.rank] at q3
              rw [hJ.prio] at q4
              rw [hJ.dead] at q5
              rw [hJ.body] at q6
              obtain ⟨t, ht⟩ : ∃ t, beatsI x yb = t := ⟨_, rfl⟩
              have CB := fun (w1 : World) => Lib.hid (fun (L : List (Addr × Value)) => fun (W : World) (hC : CellL w1 L W) => (ref_ibeats x yb K r cc rk pp dd BB HI.out K' r' cc' rk' pp' dd' BB' hJ t ht W).mono fun (e' : Ending) (W' : World) ⟨h1, h2⟩ => (⟨h1, cellL_call h2 hC⟩ : e' = Ending.returned (.bool t) ∧ CellL w1 L W'))
              have HS := Lib.hid (show t = true → BestAt (pickI false key) l (k + 1) (k : Int) from fun e => BestAt.next h4 HX.out hp (ht.trans e))
              have HS2 := Lib.hid (show t = false → BestAt (pickI false key) l (k + 1) (j : Int) from fun e => BestAt.stay h4 h2 h3 HX.out hp (ht.trans e))
              have hj0 : (0 : Int) ≤ (j : Int) := by omega
              have hjn : (j : Int) < (n : Int) := by omega
              have hjd : decide ((j : Int) < 0) = false := decide_eq_false (by omega)
              clear hcell HP hp h2 h3 h4 HBA hJ ht
              go_wp2_with ((with_reducible refine C1.out.mono ?_); rintro e w1 ⟨rfl, hq⟩; have HW1 := Lib.hid (HW.out.trans (hq.mono HW.out.size)); have p0' := ((bcell hq).1 _ _ (World.block_lt_of_cell? _ _ p0)).trans p0; have HC := Lib.hid (show CellL w1 [(⟨b, o + k * 7, none⟩, .string K), (⟨b, o + k * 7 + 1, none⟩, .int .i64 r), (⟨b, o + k * 7 + 2, none⟩, .int .i64 cc), (⟨b, o + k * 7 + 3, none⟩, .int .i64 rk), (⟨b, o + k * 7 + 4, none⟩, .int .i64 pp), (⟨b, o + k * 7 + 5, none⟩, .bool dd), (⟨b, o + k * 7 + 6, none⟩, .string BB), (⟨b, o + j * 7, none⟩, .string K'), (⟨b, o + j * 7 + 1, none⟩, .int .i64 r'), (⟨b, o + j * 7 + 2, none⟩, .int .i64 cc'), (⟨b, o + j * 7 + 3, none⟩, .int .i64 rk'), (⟨b, o + j * 7 + 4, none⟩, .int .i64 pp'), (⟨b, o + j * 7 + 5, none⟩, .bool dd'), (⟨b, o + j * 7 + 6, none⟩, .string BB')] w1 from ⟨((bcell hq).1 _ _ (World.block_lt_of_cell? _ _ p0)).trans p0, ((bcell hq).1 _ _ (World.block_lt_of_cell? _ _ p1)).trans p1, ((bcell hq).1 _ _ (World.block_lt_of_cell? _ _ p2)).trans p2, ((bcell hq).1 _ _ (World.block_lt_of_cell? _ _ p3)).trans p3, ((bcell hq).1 _ _ (World.block_lt_of_cell? _ _ p4)).trans p4, ((bcell hq).1 _ _ (World.block_lt_of_cell? _ _ p5)).trans p5, ((bcell hq).1 _ _ (World.block_lt_of_cell? _ _ p6)).trans p6, ((bcell hq).1 _ _ (World.block_lt_of_cell? _ _ q0)).trans q0, ((bcell hq).1 _ _ (World.block_lt_of_cell? _ _ q1)).trans q1, ((bcell hq).1 _ _ (World.block_lt_of_cell? _ _ q2)).trans q2, ((bcell hq).1 _ _ (World.block_lt_of_cell? _ _ q3)).trans q3, ((bcell hq).1 _ _ (World.block_lt_of_cell? _ _ q4)).trans q4, ((bcell hq).1 _ _ (World.block_lt_of_cell? _ _ q5)).trans q5, ((bcell hq).1 _ _ (World.block_lt_of_cell? _ _ q6)).trans q6, Below.refl _ _⟩); clear hq)
              have CB1 := CB w1
              clear CB
              cases t
              all_goals
                refine q_region (CellL w1 [(⟨b, o + k * 7, none⟩, .string K), (⟨b, o + k * 7 + 1, none⟩, .int .i64 r), (⟨b, o + k * 7 + 2, none⟩, .int .i64 cc), (⟨b, o + k * 7 + 3, none⟩, .int .i64 rk), (⟨b, o + k * 7 + 4, none⟩, .int .i64 pp), (⟨b, o + k * 7 + 5, none⟩, .bool dd), (⟨b, o + k * 7 + 6, none⟩, .string BB), (⟨b, o + j * 7, none⟩, .string K'), (⟨b, o + j * 7 + 1, none⟩, .int .i64 r'), (⟨b, o + j * 7 + 2, none⟩, .int .i64 cc'), (⟨b, o + j * 7 + 3, none⟩, .int .i64 rk'), (⟨b, o + j * 7 + 4, none⟩, .int .i64 pp'), (⟨b, o + j * 7 + 5, none⟩, .bool dd'), (⟨b, o + j * 7 + 6, none⟩, .string BB')]) (by kernel_rfl) (by kernel_rfl) (cellL_drew HC.out) ?_
                repeat (first
                  | go_big_quiet_skip
                  | (go_big_quiet_want; (first
                    | (refine q_take (v := ?_) ?_ ?_; rotate_left; (focus (intro w hSw; (try simp only [CellL] at hSw); go_split_ands; go_simp; (try (rw [if_neg (by omega)])); (try with_reducible rfl); done)))
                    | (refine q_call (CB1.out _) ?_ ?_; (focus (intro w hSw; (try simp only [CellL] at hSw); go_split_ands; go_simp; (try (rw [if_neg (by omega)])); done)))); (try simp only [Act.put, List.setIfInBounds_toArray, List.set_cons_zero, List.set_cons_succ]); go_big_quiet_on))
                refine wpQuiet_nil ?_
                intro w2 hw2
                have HB2 := Lib.hid (HW1.out.trans ((cellL_size hw2).mono HW1.out.size))
                clear hw2
                go_wp2_with fail
                go_roundw
                case rel => first | exact ⟨k + 1, (k : Int), by omega, rfl, by go_num, HS.out (by first | rfl | trivial), HB2⟩ | exact ⟨k + 1, (j : Int), by omega, rfl, by go_num, HS2.out (by first | rfl | trivial), HB2⟩
                case measure => simp [intOf]; omega
        | true =>
          have hp : pickI true key x = true := HP.out
          rcases HBA.out with ⟨h1, h2⟩ | ⟨j, yb, h1, h2, h3, h4⟩
          · subst h1
            have HS := Lib.hid (BestAt.first h2 HX.out hp)
            clear hcell HP hp h2 HBA
            go_wp2_with ((with_reducible refine C1.out.mono ?_); rintro e w1 ⟨rfl, hq⟩; have HW1 := Lib.hid (HW.out.trans (hq.mono HW.out.size)); have p0' := ((bcell hq).1 _ _ (World.block_lt_of_cell? _ _ p0)).trans p0; have HC := Lib.hid (show CellL w1 [(⟨b, o + k * 7, none⟩, .string K), (⟨b, o + k * 7 + 1, none⟩, .int .i64 r), (⟨b, o + k * 7 + 2, none⟩, .int .i64 cc), (⟨b, o + k * 7 + 3, none⟩, .int .i64 rk), (⟨b, o + k * 7 + 4, none⟩, .int .i64 pp), (⟨b, o + k * 7 + 5, none⟩, .bool dd), (⟨b, o + k * 7 + 6, none⟩, .string BB)] w1 from ⟨((bcell hq).1 _ _ (World.block_lt_of_cell? _ _ p0)).trans p0, ((bcell hq).1 _ _ (World.block_lt_of_cell? _ _ p1)).trans p1, ((bcell hq).1 _ _ (World.block_lt_of_cell? _ _ p2)).trans p2, ((bcell hq).1 _ _ (World.block_lt_of_cell? _ _ p3)).trans p3, ((bcell hq).1 _ _ (World.block_lt_of_cell? _ _ p4)).trans p4, ((bcell hq).1 _ _ (World.block_lt_of_cell? _ _ p5)).trans p5, ((bcell hq).1 _ _ (World.block_lt_of_cell? _ _ p6)).trans p6, Below.refl _ _⟩); clear hq)
            refine q_region (CellL w1 [(⟨b, o + k * 7, none⟩, .string K), (⟨b, o + k * 7 + 1, none⟩, .int .i64 r), (⟨b, o + k * 7 + 2, none⟩, .int .i64 cc), (⟨b, o + k * 7 + 3, none⟩, .int .i64 rk), (⟨b, o + k * 7 + 4, none⟩, .int .i64 pp), (⟨b, o + k * 7 + 5, none⟩, .bool dd), (⟨b, o + k * 7 + 6, none⟩, .string BB)]) (by kernel_rfl) (by kernel_rfl) (cellL_drew HC.out) ?_
            repeat (first
              | go_big_quiet_skip
              | (go_big_quiet_want; (first
                | (refine q_take (v := ?_) ?_ ?_; rotate_left; (focus (intro w hSw; (try simp only [CellL] at hSw); go_split_ands; go_simp; (try (rw [if_neg (by omega)])); (try with_reducible rfl); done)))); (try simp only [Act.put, List.setIfInBounds_toArray, List.set_cons_zero, List.set_cons_succ]); go_big_quiet_on))
            refine wpQuiet_nil ?_
            intro w2 hw2
            have HB2 := Lib.hid (HW1.out.trans ((cellL_size hw2).mono HW1.out.size))
            clear hw2
            go_wp2_with fail
            go_roundw
            case rel => exact ⟨k + 1, (k : Int), by omega, rfl, by go_num, HS, HB2⟩
            case measure => simp [intOf]; omega
          · subst h1
            obtain ⟨q0, q1, q2, q3, q4, q5, q6⟩ := hcell j yb h3
            obtain ⟨K', r', cc', rk', pp', dd', BB', hJ⟩ : ∃ K r c k p d B, IsI yb K r c k p d B := ⟨_, _, _, _, _, _, _, IsI.mk' yb⟩
            rw [hJ.key] at q0
            rw [hJ.rep] at q1
            rw [hJ.cnt] at q2
            rw [hJ.rank] at q3
            rw [hJ.prio] at q4
            rw [hJ.dead] at q5
            rw [hJ.body] at q6
            obtain ⟨t, ht⟩ : ∃ t, beatsI x yb = t := ⟨_, rfl⟩
            have CB := fun (w1 : World) => Lib.hid (fun (L : List (Addr × Value)) => fun (W : World) (hC : CellL w1 L W) => (ref_ibeats x yb K r cc rk pp dd BB HI.out K' r' cc' rk' pp' dd' BB' hJ t ht W).mono fun (e' : Ending) (W' : World) ⟨h1, h2⟩ => (⟨h1, cellL_call h2 hC⟩ : e' = Ending.returned (.bool t) ∧ CellL w1 L W'))
            have HS := Lib.hid (show t = true → BestAt (pickI true key) l (k + 1) (k : Int) from fun e => BestAt.next h4 HX.out hp (ht.trans e))
            have HS2 := Lib.hid (show t = false → BestAt (pickI true key) l (k + 1) (j : Int) from fun e => BestAt.stay h4 h2 h3 HX.out hp (ht.trans e))
            have hj0 : (0 : Int) ≤ (j : Int) := by omega
            have hjn : (j : Int) < (n : Int) := by omega
            have hjd : decide ((j : Int) < 0) = false := decide_eq_false (by omega)
            clear hcell HP hp h2 h3 h4 HBA hJ ht
            go_wp2_with ((with_reducible refine C1.out.mono ?_); rintro e w1 ⟨rfl, hq⟩; have HW1 := Lib.hid (HW.out.trans (hq.mono HW.out.size)); have p0' := ((bcell hq).1 _ _ (World.block_lt_of_cell? _ _ p0)).trans p0; have HC := Lib.hid (show CellL w1 [(⟨b, o + k * 7, none⟩, .string K), (⟨b, o + k * 7 + 1, none⟩, .int .i64 r), (⟨b, o + k * 7 + 2, none⟩, .int .i64 cc), (⟨b, o + k * 7 + 3, none⟩, .int .i64 rk), (⟨b, o + k * 7 + 4, none⟩, .int .i64 pp), (⟨b, o + k * 7 + 5, none⟩, .bool dd), (⟨b, o + k * 7 + 6, none⟩, .string BB), (⟨b, o + j * 7, none⟩, .string K'), (⟨b, o + j * 7 + 1, none⟩, .int .i64 r'), (⟨b, o + j * 7 + 2, none⟩, .int .i64 cc'), (⟨b, o + j * 7 + 3, none⟩, .int .i64 rk'), (⟨b, o + j * 7 + 4, none⟩, .int .i64 pp'), (⟨b, o + j * 7 + 5, none⟩, .bool dd'), (⟨b, o + j * 7 + 6, none⟩, .string BB')] w1 from ⟨((bcell hq).1 _ _ (World.block_lt_of_cell? _ _ p0)).trans p0, ((bcell hq).1 _ _ (World.block_lt_of_cell? _ _ p1)).trans p1, ((bcell hq).1 _ _ (World.block_lt_of_cell? _ _ p2)).trans p2, ((bcell hq).1 _ _ (World.block_lt_of_cell? _ _ p3)).trans p3, ((bcell hq).1 _ _ (World.block_lt_of_cell? _ _ p4)).trans p4, ((bcell hq).1 _ _ (World.block_lt_of_cell? _ _ p5)).trans p5, ((bcell hq).1 _ _ (World.block_lt_of_cell? _ _ p6)).trans p6, ((bcell hq).1 _ _ (World.block_lt_of_cell? _ _ q0)).trans q0, ((bcell hq).1 _ _ (World.block_lt_of_cell? _ _ q1)).trans q1, ((bcell hq).1 _ _ (World.block_lt_of_cell? _ _ q2)).trans q2, ((bcell hq).1 _ _ (World.block_lt_of_cell? _ _ q3)).trans q3, ((bcell hq).1 _ _ (World.block_lt_of_cell? _ _ q4)).trans q4, ((bcell hq).1 _ _ (World.block_lt_of_cell? _ _ q5)).trans q5, ((bcell hq).1 _ _ (World.block_lt_of_cell? _ _ q6)).trans q6, Below.refl _ _⟩); clear hq)
            have CB1 := CB w1
            clear CB
            cases t
            all_goals
              refine q_region (CellL w1 [(⟨b, o + k * 7, none⟩, .string K), (⟨b, o + k * 7 + 1, none⟩, .int .i64 r), (⟨b, o + k * 7 + 2, none⟩, .int .i64 cc), (⟨b, o + k * 7 + 3, none⟩, .int .i64 rk), (⟨b, o + k * 7 + 4, none⟩, .int .i64 pp), (⟨b, o + k * 7 + 5, none⟩, .bool dd), (⟨b, o + k * 7 + 6, none⟩, .string BB), (⟨b, o + j * 7, none⟩, .string K'), (⟨b, o + j * 7 + 1, none⟩, .int .i64 r'), (⟨b, o + j * 7 + 2, none⟩, .int .i64 cc'), (⟨b, o + j * 7 + 3, none⟩, .int .i64 rk'), (⟨b, o + j * 7 + 4, none⟩, .int .i64 pp'), (⟨b, o + j * 7 + 5, none⟩, .bool dd'), (⟨b, o + j * 7 + 6, none⟩, .string BB')]) (by kernel_rfl) (by kernel_rfl) (cellL_drew HC.out) ?_
              repeat (first
                | go_big_quiet_skip
                | (go_big_quiet_want; (first
                  | (refine q_take (v := ?_) ?_ ?_; rotate_left; (focus (intro w hSw; (try simp only [CellL] at hSw); go_split_ands; go_simp; (try (rw [if_neg (by omega)])); (try with_reducible rfl); done)))
                  | (refine q_call (CB1.out _) ?_ ?_; (focus (intro w hSw; (try simp only [CellL] at hSw); go_split_ands; go_simp; (try (rw [if_neg (by omega)])); done)))); (try simp only [Act.put, List.setIfInBounds_toArray, List.set_cons_zero, List.set_cons_succ]); go_big_quiet_on))
              refine wpQuiet_nil ?_
              intro w2 hw2
              have HB2 := Lib.hid (HW1.out.trans ((cellL_size hw2).mono HW1.out.size))
              clear hw2
              go_wp2_with fail
              go_roundw
              case rel => first | exact ⟨k + 1, (k : Int), by omega, rfl, by go_num, HS.out (by first | rfl | trivial), HB2⟩ | exact ⟨k + 1, (j : Int), by omega, rfl, by go_num, HS2.out (by first | rfl | trivial), HB2⟩
              case measure => simp [intOf]; omega
    · obtain rfl : k = n := by omega
      go_wp2_with fail
      go_ret
      exact ⟨z, rfl, HBA.out, HW.out⟩
end Go.Proofs.Ytfjaklpddcafdaa

namespace Go.Proofs.Ytfjaklpddcafdaa

theorem putIm_len (l : List Itm) (x : Itm) : (putIm l x).length ≤ l.length + 1 := by
  induction l with
  | nil => simp [putIm]
  | cons z l ih =>
    rw [putIm]
    cases ltB x.key z.key
    · show (match decide (x.key = z.key) with | true => (match beatsI x z with | true => x :: l | false => z :: l) | false => z :: putIm l x).length ≤ _
      cases decide (x.key = z.key)
      · show (z :: putIm l x).length ≤ _
        rw [List.length_cons, List.length_cons]; omega
      · show (match beatsI x z with | true => x :: l | false => z :: l).length ≤ _
        cases beatsI x z
        · exact Nat.le_succ _
        · exact Nat.le_succ _
    · exact Nat.le_refl _
theorem mergeI_len (l : List Itm) : (mergeI l).length ≤ l.length := by
  have h : ∀ (l u : List Itm), (l.foldl addI u).length ≤ u.length + l.length := by
    intro l
    induction l with
    | nil => intro u; exact Nat.le_refl _
    | cons x l ih =>
      intro u
      rw [List.foldl_cons, List.length_cons]
      have h1 := ih (addI u x)
      have h2 : (addI u x).length ≤ u.length + 1 := by
        unfold addI
        cases rightI x
        · exact Nat.le_succ _
        · exact putIm_len u x
      omega
  have := h l []
  rwa [List.length_nil, Nat.zero_add] at this
theorem mergeI_mem {l : List Itm} {m : Itm} (h : m ∈ mergeI l) : m ∈ l ∧ rightI m = true ∧ bestK l m.key = some m := by
  have h1 := findK_has (mergeI_list l) h
  rw [mergeI_find] at h1
  have h2 := bestF_mem h1
  exact ⟨h2.1, (ofK_iff.1 h2.2).1, h1⟩
theorem bestK_some {l : List Itm} {x : Itm} (hx : x ∈ l) (hr : rightI x = true) : ∃ m, bestK l x.key = some m := by
  have hp : ofK x.key x = true := ofK_iff.2 ⟨hr, rfl⟩
  unfold bestK
  generalize hk : x.key = k at hp
  clear hk
  induction l with
  | nil => cases hx
  | cons y l ih =>
    rw [show y :: l = [y] ++ l from rfl, bestF_append, bestF_one]
    rcases List.mem_cons.1 hx with rfl | hx
    · rw [keepO_yes hp]
      cases bestF (ofK k) l with
      | none => exact ⟨_, rfl⟩
      | some z =>
        cases h : beatsI z x
        · exact ⟨_, combO_no h⟩
        · exact ⟨_, combO_yes h⟩
    · obtain ⟨m, hm⟩ := ih hx
      rw [hm]
      cases keepO (ofK k) y with
      | none => exact ⟨_, rfl⟩
      | some z =>
        cases h : beatsI m z
        · exact ⟨_, combO_no h⟩
        · exact ⟨_, combO_yes h⟩
theorem mergeI_key {l : List Itm} {x : Itm} (hx : x ∈ l) (hr : rightI x = true) : ∃ m ∈ mergeI l, m.key = x.key := by
  obtain ⟨m, hm⟩ := bestK_some hx hr
  rw [← mergeI_find] at hm
  exact ⟨m, (findK_mem hm).1, (findK_mem hm).2⟩
def aboveI (c : Option (List UInt8)) (x : Itm) : Bool := match c with
  | none => true
  | some k => ltB k x.key
def candI (c : Option (List UInt8)) (x : Itm) : Bool := rightI x && aboveI c x
theorem candI_iff {c : Option (List UInt8)} {x : Itm} : candI c x = true ↔ rightI x = true ∧ aboveI c x = true := by unfold candI; rw [Bool.and_eq_true]
def LeastAt (c : Option (List UInt8)) (l : List Itm) (k : Nat) (z : Int) : Prop := (z = -1 ∧ ∀ x ∈ l.take k, candI c x = false) ∨ ∃ (j : Nat) (x : Itm), z = (j : Int) ∧ j < k ∧ l[j]? = some x ∧ candI c x = true ∧ ∀ y ∈ l.take k, candI c y = true → ltB y.key x.key = false
theorem itake_mem {l : List Itm} {k : Nat} {x y : Itm} (hx : l[k]? = some x) (hy : y ∈ l.take (k + 1)) : y ∈ l.take k ∨ y = x := by
  rw [List.take_add_one, hx, Option.toList_some, List.mem_append, List.mem_singleton] at hy
  exact hy
theorem LeastAt.skip {c : Option (List UInt8)} {l : List Itm} {k : Nat} {z : Int} {x : Itm} (h : LeastAt c l k z) (hx : l[k]? = some x) (hp : candI c x = false) : LeastAt c l (k + 1) z := by
  rcases h with ⟨h1, h2⟩ | ⟨j, y, h1, h2, h3, h4, h5⟩
  · exact .inl ⟨h1, fun y hy => (itake_mem hx hy).elim (h2 y) fun e => e ▸ hp⟩
  · exact .inr ⟨j, y, h1, by omega, h3, h4, fun u hu hc => (itake_mem hx hu).elim (fun m => h5 u m hc) fun e => by rw [e, hp] at hc; cases hc⟩
theorem LeastAt.first {c : Option (List UInt8)} {l : List Itm} {k : Nat} {x : Itm} (h : ∀ x ∈ l.take k, candI c x = false) (hx : l[k]? = some x) (hp : candI c x = true) : LeastAt c l (k + 1) (k : Int) :=
  .inr ⟨k, x, rfl, by omega, hx, hp, fun u hu hc => (itake_mem hx hu).elim (fun m => by rw [h u m] at hc; cases hc) fun e => by rw [e]; exact ltB_irrefl _⟩
theorem LeastAt.next {c : Option (List UInt8)} {l : List Itm} {k : Nat} {x y : Itm} (h : ∀ u ∈ l.take k, candI c u = true → ltB u.key y.key = false) (hx : l[k]? = some x) (hp : candI c x = true) (hb : ltB x.key y.key = true) : LeastAt c l (k + 1) (k : Int) :=
  .inr ⟨k, x, rfl, by omega, hx, hp, fun u hu hc => (itake_mem hx hu).elim (fun m => by
    cases hux : ltB u.key x.key with
    | false => rfl
    | true => rw [← h u m hc, ltB_trans hux hb]) fun e => by rw [e]; exact ltB_irrefl _⟩
theorem LeastAt.stay {c : Option (List UInt8)} {l : List Itm} {k j : Nat} {x y : Itm} (h : ∀ u ∈ l.take k, candI c u = true → ltB u.key y.key = false) (hj : j < k) (hy : l[j]? = some y) (hcy : candI c y = true) (hx : l[k]? = some x) (hb : ltB x.key y.key = false) : LeastAt c l (k + 1) (j : Int) :=
  .inr ⟨j, y, rfl, by omega, hy, hcy, fun u hu hc => (itake_mem hx hu).elim (fun m => h u m hc) fun e => by rw [e]; exact hb⟩
def lastK (M : List Itm) : Nat → Option (List UInt8)
  | 0 => none
  | j + 1 => (M[j]?).map Itm.key
theorem lastK_succ (M : List Itm) (j : Nat) : lastK M (j + 1) = (M[j]?).map Itm.key := rfl
theorem list_rise {M : List Itm} : ∀ {i j : Nat} {x y : Itm}, listI M = true → M[i]? = some x → M[j]? = some y → i < j → ltB x.key y.key = true := by
  induction M with
  | nil => intro i j x y _ h; simp at h
  | cons m M ih =>
    intro i j x y h hx hy hij
    cases j with
    | zero => omega
    | succ j =>
      rw [List.getElem?_cons_succ] at hy
      cases i with
      | zero =>
        rw [List.getElem?_cons_zero] at hx
        injection hx with hx
        subst hx
        exact listI_above h (List.mem_of_getElem? hy)
      | succ i =>
        rw [List.getElem?_cons_succ] at hx
        exact ih (listI_tail h) hx hy (by omega)
theorem last_above {M : List Itm} {j : Nat} {m : Itm} (h : listI M = true) (hm : M[j]? = some m) : aboveI (lastK M j) m = true := by
  cases j with
  | zero => rfl
  | succ j =>
    have hl := (List.getElem?_eq_some_iff.1 hm).1
    have hp : M[j]? = some M[j] := List.getElem?_eq_getElem (by omega)
    rw [lastK_succ, hp]
    exact list_rise h hp hm (by omega)
theorem merge_end {l : List Itm} {j : Nat} (h : ∀ x ∈ l, candI (lastK (mergeI l) j) x = false) : (mergeI l).take j = mergeI l := by
  refine List.take_of_length_le (Nat.le_of_not_lt fun hlt => ?_)
  have hm : (mergeI l)[j]? = some (mergeI l)[j] := List.getElem?_eq_getElem hlt
  obtain ⟨h1, h2, -⟩ := mergeI_mem (List.mem_of_getElem? hm)
  have := h _ h1
  rw [candI_iff.2 ⟨h2, last_above (mergeI_list l) hm⟩] at this
  cases this
theorem merge_next {l : List Itm} {j : Nat} {x : Itm} (hx : x ∈ l) (hc : candI (lastK (mergeI l) j) x = true) (hmin : ∀ y ∈ l, candI (lastK (mergeI l) j) y = true → ltB y.key x.key = false) (hj : j ≤ (mergeI l).length) :
    ∃ m, (mergeI l)[j]? = some m ∧ bestK l x.key = some m := by
  obtain ⟨hr, ha⟩ := candI_iff.1 hc
  obtain ⟨m, hm, hk⟩ := mergeI_key hx hr
  obtain ⟨i, hi⟩ := List.getElem?_of_mem hm
  have hlt : j ≤ i := Nat.le_of_not_lt fun h => by
    cases j with
    | zero => omega
    | succ j =>
      have hp : (mergeI l)[j]? = some (mergeI l)[j] := List.getElem?_eq_getElem (by omega)
      rw [lastK_succ, hp] at ha
      have ha : ltB (mergeI l)[j].key x.key = true := ha
      by_cases e : i = j
      · subst e
        rw [hp] at hi
        injection hi with hi
        rw [hi, hk, ltB_irrefl] at ha; cases ha
      · have h2 := list_rise (mergeI_list l) hi hp (by omega)
        rw [hk] at h2
        rw [ltB_asymm h2] at ha; cases ha
  have hl := (List.getElem?_eq_some_iff.1 hi).1
  have hq : (mergeI l)[j]? = some (mergeI l)[j] := List.getElem?_eq_getElem (by omega)
  obtain ⟨q1, q2, q3⟩ := mergeI_mem (List.mem_of_getElem? hq)
  have h1 := hmin _ q1 (candI_iff.2 ⟨q2, last_above (mergeI_list l) hq⟩)
  have h2 : ltB x.key (mergeI l)[j].key = false := by
    by_cases e : i = j
    · subst e
      rw [hq] at hi
      injection hi with hi
      rw [hi, hk]; exact ltB_irrefl _
    · have h3 := list_rise (mergeI_list l) hq hi (by omega)
      rw [hk] at h3
      exact ltB_asymm h3
  refine ⟨_, hq, ?_⟩
  rw [← ltB_total h1 h2]; exact q3
def inI (l : List Itm) (r : List UInt8 → Bool) : List Itm := l.filter fun x => r x.key
end Go.Proofs.Ytfjaklpddcafdaa

namespace Go.Proofs.Ytfjaklpddcafdaa

def gV (op : Int) (x y : Bool) : Bool :=
  match decide (op = 1) with
  | true => x || y
  | false => match decide (op = 2) with
    | true => x && y
    | false => match decide (op = 3) with
      | true => x && !y
      | false => !x && !y
def inV (op : Int) (a b : List Rng) (s : List UInt8) : Bool := gV op (hasL a s) (hasL b s)
def makeV (op : Int) (a b : List Rng) : List Rng := mkR (inV op a b) (edgesL (a ++ b)) none
theorem makeV_right (op : Int) (a b : List Rng) : rightL (makeV op a b) = true := (make_ok a b (gV op)).1
theorem makeV_has (op : Int) (a b : List Rng) (s : List UInt8) : hasL (makeV op a b) s = gV op (hasL a s) (hasL b s) := (make_ok a b (gV op)).2 s
theorem makeV_unique {op : Int} {a b u : List Rng} (h : rightL u = true) (hs : ∀ s, hasL u s = gV op (hasL a s) (hasL b s)) : u = makeV op a b :=
  rightL_unique h (makeV_right op a b) fun s => by rw [hs, makeV_has]
theorem gV1 (x y : Bool) : gV 1 x y = (x || y) := rfl
theorem hasL_nil (s : List UInt8) : hasL [] s = false := rfl
def normV (a : List Rng) : List Rng := makeV 1 a []
theorem normV_has (a : List Rng) (s : List UInt8) : hasL (normV a) s = hasL a s := by rw [normV, makeV_has, gV1, hasL_nil, Bool.or_false]
instance : DecidableEq Rng := fun r t => match decEq r.lo t.lo, decEq r.hi t.hi, decEq r.op t.op with
  | .isTrue h1, .isTrue h2, .isTrue h3 => .isTrue (rng_ext h1 h2 h3)
  | .isFalse h, _, _ => .isFalse fun e => h (by rw [e])
  | _, .isFalse h, _ => .isFalse fun e => h (by rw [e])
  | _, _, .isFalse h => .isFalse fun e => h (by rw [e])
def SmallL (n : Nat) (l : List Rng) : Prop := l.length ≤ n ∧ ∀ r ∈ l, r.lo.length ≤ 1000 ∧ r.hi.length ≤ 1000
theorem rightL_all : ∀ {l : List Rng}, rightL l = true → ∀ r ∈ l, rightR r = true
  | [], _, _, h => by cases h
  | t :: l, h, r, hr => by
    rcases List.mem_cons.1 hr with rfl | hr
    · exact rightL_head h
    · exact rightL_all (rightL_tail h) r hr
theorem mkR_len (f : List UInt8 → Bool) : ∀ (es : List (List UInt8)) (o : Option (List UInt8)), (mkR f es o).length ≤ es.length + 1
  | [], none => by simp [mkR]
  | [], some lo => by simp [mkR]
  | e :: es, none => by
    rw [mkR]
    cases f e
    · have := mkR_len f es none; simp; omega
    · have := mkR_len f es (some e); simp; omega
  | e :: es, some lo => by
    rw [mkR]
    cases f e
    · have := mkR_len f es none; simp; omega
    · have := mkR_len f es (some lo); simp; omega
theorem putL_len : ∀ (l : List (List UInt8)) (s : List UInt8), (putL l s).length ≤ l.length + 1
  | [], s => by simp [putL]
  | x :: l, s => by
    have := putL_len l s
    rw [putL]
    cases ltB x s with
    | true => simp; omega
    | false => cases decide (x = s) <;> simp
theorem addE_len (E : List (List UInt8)) (r : Rng) : (addE E r).length ≤ E.length + 2 := by
  unfold addE
  have h1 := putL_len E r.lo
  have h2 := putL_len (putL E r.lo) r.hi
  cases rightR r with
  | false => simp
  | true => cases r.op <;> simp <;> omega
theorem edges_len : ∀ (l : List Rng) (E : List (List UInt8)), (l.foldl addE E).length ≤ E.length + 2 * l.length
  | [], E => by simp
  | r :: l, E => by
    have h1 := edges_len l (addE E r)
    have h2 := addE_len E r
    simp only [List.foldl_cons, List.length_cons]
    omega
theorem edgesL_len (l : List Rng) : (edgesL l).length ≤ 1 + 2 * l.length := edges_len l [[]]
theorem SmallL.mono {n m : Nat} {l : List Rng} (h : SmallL n l) (hm : n ≤ m) : SmallL m l := ⟨Nat.le_trans h.1 hm, h.2⟩
end Go.Proofs.Ytfjaklpddcafdaa
