/-
  Layer 8 (ranges), the document's words: are two lists the same; is one too long to be looked at.
-/
import Derived.Test.YtgoenmgkhdibnaaRgsB
namespace Go.Proofs.Ytgoenmgkhdibnaa
open Go.RowKit

def eqR (r t : Rng) : Bool := decide (r.lo = t.lo) && decide (r.hi = t.hi) && decide (r.op = t.op)
theorem eqR_iff {r t : Rng} : eqR r t = true ↔ r = t := by
  unfold eqR
  simp only [Bool.and_eq_true, decide_eq_true_eq]
  exact ⟨fun ⟨⟨h1, h2⟩, h3⟩ => rng_ext h1 h2 h3, fun h => by subst h; exact ⟨⟨rfl, rfl⟩, rfl⟩⟩
def sameL : List Rng → List Rng → Bool
  | [], [] => true
  | r :: a, t :: b => eqR r t && sameL a b
  | _, _ => false
theorem sameL_cons (r t : Rng) (a b : List Rng) : sameL (r :: a) (t :: b) = (eqR r t && sameL a b) := rfl
theorem sameL_iff : ∀ {a b : List Rng}, sameL a b = true ↔ a = b
  | [], [] => by simp [sameL]
  | [], t :: b => by simp [sameL]
  | r :: a, [] => by simp [sameL]
  | r :: a, t :: b => by
    unfold sameL
    rw [Bool.and_eq_true, eqR_iff, sameL_iff, List.cons.injEq]
theorem sameL_len {a b : List Rng} (h : a.length ≠ b.length) : sameL a b = false := by
  cases hs : sameL a b with
  | false => rfl
  | true => rw [sameL_iff.1 hs] at h; exact absurd rfl h
theorem eq_rngs (r t : Rng) (d : Bool) (hd : eqR r t = d) (w : World) : (Op.equalIn 10000 35 (.agg #[.string (str r.lo), .string (str r.hi), .bool r.op]) (.agg #[.string (str t.lo), .string (str t.hi), .bool t.op])).run Try.prog w = .ok d w := by
  refine eq_rng_is _ _ _ _ _ _ d ?_ w
  rw [← hd, str_toList, str_toList, str_toList, str_toList]
  have e : ∀ a b : List UInt8, (a == b) = decide (a = b) := fun a b => by by_cases h : a = b <;> simp [h]
  unfold eqR
  rw [e, e]
  cases r.op <;> cases t.op <;> rfl
set_option maxHeartbeats 1000000 in
theorem ref_same (A B : Option Addr) (c d n m : Nat) (a b : List Rng) (hn : n = a.length) (hm : m = b.length) (v : Bool) (hv : sameL a b = v) (w : World) (ha : kRng.Rd w w.heap.size A c a) (hb : kRng.Rd w w.heap.size B d b) :
    Calls Try.prog 14 #[.slice A n c, .slice B m d] w fun e w' => e = .returned (.bool v) ∧ ∃ q, w' = w.drewN q := by
  have HN := Lib.hid hn
  have HM := Lib.hid hm
  have HA := Lib.hid ha
  have HB := Lib.hid hb
  have hmx : n ≤ 9223372036854775807 := rd_max ha hn
  have hmy : m ≤ 9223372036854775807 := rd_max hb hm
  have hcx : n ≤ c := by rw [hn]; exact ha.room
  have hcy : m ≤ d := by rw [hm]; exact hb.room
  subst hv
  by_cases hnm : n = m
  · subst hnm
    clear hn hm ha hb
    go_enter Try.func14, Try.ntmps14
    go_wp2_with fail
    go_loopw [5] (fun i wr => ∃ k q : Nat, k ≤ n ∧ Hid (sameL a b = sameL (a.drop k) (b.drop k)) ∧ i = .int .i64 k ∧ wr = w.drewN q) (fun i _ => n - (intOf i).toNat)
    case atStart => exact ⟨0, 0, by omega, rfl, rfl, rfl⟩
    case round =>
      obtain ⟨k, q, hk, HL, rfl, rfl⟩ := hrel
      by_cases hlt : k < n
      · obtain ⟨r, hg, hd, -⟩ := get_some (l := a) (k := k) (by have := HN.out; omega)
        obtain ⟨t, hg', hd', -⟩ := get_some (l := b) (k := k) (by have := HM.out; omega)
        obtain ⟨b1, o1, rfl, hb1, hcell1⟩ := rngs_at HA.out (by have := HN.out; omega)
        obtain ⟨b2, o2, rfl, hb2, hcell2⟩ := rngs_at HB.out (by have := HM.out; omega)
        obtain ⟨a0, a1, a2⟩ := hcell1 k r hg
        obtain ⟨c0, c1, c2⟩ := hcell2 k t hg'
        obtain ⟨x, hx⟩ : ∃ x, eqR r t = x := ⟨_, rfl⟩
        have EQ := fun w => eq_rngs r t x hx w
        have HL2 := Lib.hid (HL.out.trans (show sameL (a.drop k) (b.drop k) = (x && sameL (a.drop (k + 1)) (b.drop (k + 1))) by rw [hd, hd', sameL_cons, hx]))
        have hk0 : (0 : Int) ≤ (k : Int) := by omega
        have hkn : (k : Int) < (n : Int) := by omega
        clear hcell1 hcell2 hg hg' hd hd' hx
        cases x
        all_goals
          go_wp2_with fail
          go_quiet (fail)
          go_wp2_with fail
        · go_ret
          exact ⟨ret_bool HL2.out.symm, drewN2 _ _ _⟩
        · go_roundw
          case rel => exact ⟨k + 1, _, by omega, HL2, by go_num, rfl⟩
          case measure => simp [intOf]; omega
      · have HL2 := Lib.hid (HL.out.trans (show sameL (a.drop k) (b.drop k) = true by rw [List.drop_eq_nil_of_le (by have := HN.out; omega), List.drop_eq_nil_of_le (by have := HM.out; omega)]; rfl))
        go_wp2_with fail
        go_ret
        exact ⟨ret_bool HL2.out.symm, _, rfl⟩
  · have HE := Lib.hid (sameL_len (a := a) (b := b) (by omega))
    have hne : ((n : Int) == (m : Int)) = false := beq_eq_false_iff_ne.2 (by omega)
    have hne2 : ((n : Int) != (m : Int)) = true := by rw [bne, hne]; rfl
    clear hn hm ha hb hnm
    go_enter Try.func14, Try.ntmps14
    go_wp2_with fail
    go_ret
    exact ⟨ret_bool HE.out.symm, 0, rfl⟩
/-- Has a list too many ranges, or one of them too long an edge? -/
def longL (most : Nat) (l : List Rng) : Bool := decide (most < l.length) || l.any fun r => decide (40 < r.lo.length) || decide (40 < r.hi.length)
set_option maxHeartbeats 1000000 in
theorem ref_long (A : Option Addr) (c n most : Nat) (l : List Rng) (hn : n = l.length) (hm : most ≤ 1000) (v : Bool) (hv : longL most l = v) (w : World) (hr : kRng.Rd w w.heap.size A c l) :
    Calls Try.prog 8 #[.slice A n c, .int .i64 most] w fun e w' => e = .returned (.bool v) ∧ w = w' := by
  have HN := Lib.hid hn
  have HR := Lib.hid hr
  have hmx : n ≤ 9223372036854775807 := rd_max hr hn
  have hcx : n ≤ c := by rw [hn]; exact hr.room
  subst hv
  by_cases h1 : most < n
  · have HE : Hid (longL most l = true) := by unfold longL; rw [decide_eq_true (by omega)]; rfl
    clear hn hr
    go_enter Try.func8, Try.ntmps8
    go_wp2_with fail
    go_ret
    exact ⟨ret_bool HE.out.symm, rfl⟩
  · have h1' : n ≤ most := by omega
    have HE : Hid (longL most l = l.any fun r => decide (40 < r.lo.length) || decide (40 < r.hi.length)) := by unfold longL; rw [decide_eq_false (by omega), Bool.false_or]; rfl
    clear hn hr h1
    go_enter Try.func8, Try.ntmps8
    go_wp2_with fail
    go_loop [5] (fun i => ∃ k : Nat, k ≤ n ∧ Hid (longL most l = (l.drop k).any fun r => decide (40 < r.lo.length) || decide (40 < r.hi.length)) ∧ i = .int .i64 k) (fun i => n - (intOf i).toNat)
    case atStart => exact ⟨0, by omega, HE, rfl⟩
    case round =>
      obtain ⟨k, hk, HL, rfl⟩ := hrel
      by_cases hlt : k < n
      · obtain ⟨r, hg, hd, -⟩ := get_some (l := l) (k := k) (by have := HN.out; omega)
        obtain ⟨b1, o1, rfl, hb1, hcell1⟩ := rngs_at HR.out (by have := HN.out; omega)
        obtain ⟨a0, a1, a2⟩ := hcell1 k r hg
        have HL2 := Lib.hid (HL.out.trans (by rw [hd, List.any_cons]))
        have hz1 : (str r.lo).size = r.lo.length := str_size _
        have hz2 : (str r.hi).size = r.hi.length := str_size _
        clear hcell1 hg hd HE
        obtain ⟨S, hS⟩ : ∃ S, str r.lo = S := ⟨_, rfl⟩
        obtain ⟨T, hT⟩ : ∃ T, str r.hi = T := ⟨_, rfl⟩
        rw [hS] at a0 hz1
        rw [hT] at a1 hz2
        by_cases g1 : r.lo.length ≤ 40
        · by_cases g2 : r.hi.length ≤ 40
          · have k1 : S.size ≤ 40 := by omega
            have k2 : T.size ≤ 40 := by omega
            have HE := Lib.hid (HL2.out.trans (by rw [decide_eq_false (show ¬ 40 < r.lo.length by omega), decide_eq_false (show ¬ 40 < r.hi.length by omega), Bool.or_self, Bool.false_or]))
            clear hz1 hz2 hS hT g1 g2 HL2
            go_wp2_with fail
            go_round
            case rel => exact ⟨k + 1, by omega, HE, by go_num⟩
            case measure => simp [intOf]; omega
          · have k1 : S.size ≤ 40 := by omega
            have k2 : 40 < T.size := by omega
            have HE := Lib.hid (HL2.out.trans (by rw [decide_eq_true (show 40 < r.hi.length by omega), Bool.or_true, Bool.true_or]))
            clear hz1 hz2 hS hT g1 g2 HL2
            go_wp2_with fail
            go_ret
            exact ⟨ret_bool HE.out.symm, rfl⟩
        · have k1 : 40 < S.size := by omega
          have HE := Lib.hid (HL2.out.trans (by rw [decide_eq_true (show 40 < r.lo.length by omega), Bool.true_or, Bool.true_or]))
          clear hz1 hz2 hS hT g1 HL2
          go_wp2_with fail
          go_ret
          exact ⟨ret_bool HE.out.symm, rfl⟩
      · have HL2 := Lib.hid (HL.out.trans (by rw [List.drop_eq_nil_of_le (by have := HN.out; omega), List.any_nil]))
        clear HE
        go_wp2_with fail
        go_ret
        exact ⟨ret_bool HL2.out.symm, rfl⟩
end Go.Proofs.Ytgoenmgkhdibnaa
