/-
  Layer 13 (counts), the program: a swept list from a count on; the next edge of two.
-/
import Derived.Test.YtnfhkmlggajhaaaCntI
namespace Go.Proofs.Ytnfhkmlggajhaaa
open Go.RowKit

/-- The edges' row behind a count. -/
def passN (x : Int) (A : Option Addr) (n c : Nat) : List Int → Value
  | [] => .slice A n c
  | y :: _ => match decide (y = x) with | true => .slice (cutA A 1 c) (n - 1) (c - 1) | false => .slice A n c
theorem passN_same {x : Int} {A : Option Addr} {n c : Nat} {l : List Int} : passN x A n c (x :: l) = .slice (cutA A 1 c) (n - 1) (c - 1) := by rw [passN, decide_eq_true rfl]
theorem passN_other {x y : Int} {A : Option Addr} {n c : Nat} {l : List Int} (h : y ≠ x) : passN x A n c (y :: l) = .slice A n c := by rw [passN, decide_eq_false h]
/-- A row of counts that reads, as a value. -/
def SliceI (w : World) (v : Value) (l : List Int) : Prop := ∃ A c, v = .slice A l.length c ∧ kIt.Rd w w.heap.size A c l
theorem passN_reads {x : Int} {A : Option Addr} {c : Nat} {l : List Int} {w : World} (hr : kIt.Rd w w.heap.size A c l) : SliceI w (passN x A l.length c l) (dropI x l) := by
  cases l with
  | nil => exact ⟨A, c, rfl, hr⟩
  | cons y l =>
    by_cases hy : y = x
    · subst hy
      rw [passN_same, dropI_same]
      refine ⟨_, _, rfl, ?_, by have := hr.room; simp only [List.length_cons] at this; omega, by have := hr.cap; omega⟩
      have h1 := RowAt.cut hr.row (k := 1) (c := c) (by rw [its_len]; simp) (by rw [its_len]; exact hr.room)
      rwa [← its_drop, List.drop_one, List.tail_cons] at h1
    · rw [passN_other hy, dropI_other hy]
      exact ⟨_, _, rfl, hr⟩
set_option maxHeartbeats 1000000 in
theorem cn_pass (A : Option Addr) (c n : Nat) (l : List Int) (x : Int) (v : Bool) (hn : n = l.length) (v' : Bool) (hv : passI x v l = v') (s' : Value) (hs : passN x A n c l = s') (w : World) (hr : kIt.Rd w w.heap.size A c l) :
    Calls Try.prog 38 #[.agg #[.bool v, .slice A n c], .int .i64 x] w fun e w' => e = .returned (.agg #[.bool v', s']) ∧ Below w.heap.size w w' := by
  have HB := Lib.hid (((Below.refl w.heap.size w).alloc (Nat.le_refl _) (.cells #[.bool v', s'] 47)).alloc (by simp) (.cells #[.bool v', s'] 47))
  cases l with
  | nil =>
    obtain rfl : n = 0 := hn
    obtain rfl : v' = v := hv.symm
    obtain rfl : s' = .slice A 0 c := hs.symm
    clear hr hv hs
    go_enter Try.func38, Try.ntmps38
    go_wp2_with fail
    exact bodyPost_ret (v := .agg #[.bool v', .slice A 0 c]) (by simp [results, Try.results38, go_sem]) rfl ⟨rfl, HB.out⟩
  | cons y l =>
    obtain ⟨b, o, rfl, hb1, hcell⟩ := its_at hr (by simp)
    have c0 := hcell 0 y rfl
    rw [Nat.add_zero] at c0
    have hn0 : 0 < n := by rw [hn]; simp
    have hnc : n ≤ c := by rw [hn]; exact hr.room
    have hnd : decide ((0 : Int) < (n : Int)) = true := decide_eq_true (by omega)
    by_cases hy : y = x
    · have hE : (y == x) = true := by rw [hy]; simp
      have K : ∀ w : World, (Instr.slice 23 (.slice (some ⟨b, o, none⟩) n c) (some (.int .i64 1)) none none).run Try.prog w = .ok (.slice (cutA (some ⟨b, o, none⟩) 1 c) (n - 1) (c - 1)) w := fun w => run_cut (T := 23) (E := 3) Try.underlying23 int_sizeOf w (some ⟨b, o, none⟩) n c 1 (by omega)
      obtain rfl : v' = !v := by rw [← hv, hy, passI_same]
      obtain ⟨q, hq⟩ : ∃ q, cutA (some ⟨b, o, none⟩) 1 c = q := ⟨_, rfl⟩
      obtain ⟨n1, hn1⟩ : ∃ n1, n - 1 = n1 := ⟨_, rfl⟩
      obtain ⟨c1, hc1⟩ : ∃ c1, c - 1 = c1 := ⟨_, rfl⟩
      rw [hq, hn1, hc1] at K
      obtain rfl : s' = .slice q n1 c1 := by rw [← hs, ← hq, ← hn1, ← hc1, hy, passN_same]
      clear hcell hv hs hn hq hn1 hc1 hy hr
      go_enter Try.func38, Try.ntmps38
      go_wp2_with fail
      go_region
      go_wp2_with fail
      exact bodyPost_ret (v := .agg #[.bool (!v), .slice q n1 c1]) (by simp [results, Try.results38, go_sem]) rfl ⟨rfl, HB.out.drew⟩
    · have hE : (y == x) = false := beq_eq_false_iff_ne.2 hy
      obtain rfl : v' = v := by rw [← hv, passI_other hy]
      obtain rfl : s' = .slice (some ⟨b, o, none⟩) n c := by rw [← hs, passN_other hy]
      clear hcell hv hs hn hr
      go_enter Try.func38, Try.ntmps38
      go_wp2_with fail
      exact bodyPost_ret (v := .agg #[.bool v', .slice (some ⟨b, o, none⟩) n c]) (by simp [results, Try.results38, go_sem]) rfl ⟨rfl, HB.out⟩
/-- The next edge, as it is handed back. -/
def curI : Option Int → Int
  | none => 0
  | some e => e
set_option maxHeartbeats 1000000 in
theorem cn_nearest (A B : Option Addr) (c d n m : Nat) (a b : List Int) (x y : Bool) (hn : n = a.length) (hm : m = b.length) (z : Int) (hz : curI (nearI a b) = z) (v : Bool) (hv : (nearI a b).isSome = v) (w : World) (ha : kIt.Rd w w.heap.size A c a) (hb : kIt.Rd w w.heap.size B d b) :
    Calls Try.prog 37 #[.agg #[.bool x, .slice A n c], .agg #[.bool y, .slice B m d]] w fun e w' => e = .returned (.tuple #[.int .i64 z, .bool v]) ∧ Below w.heap.size w w' := by
  have HB := Lib.hid (((Below.refl w.heap.size w).alloc (Nat.le_refl _) (.cells #[.bool x, .slice A n c] 47)).alloc (by simp) (.cells #[.bool y, .slice B m d] 47))
  have hna : n ≤ c := by rw [hn]; exact ha.room
  have hmb : m ≤ d := by rw [hm]; exact hb.room
  cases a with
  | nil =>
    obtain rfl : n = 0 := hn
    cases b with
    | nil =>
      obtain rfl : m = 0 := hm
      obtain rfl : v = false := hv.symm
      obtain rfl : z = 0 := hz.symm
      clear ha hb hv hz
      go_enter Try.func37, Try.ntmps37
      go_wp2_with fail
      go_ret2
      exact ⟨rfl, HB.out⟩
    | cons t b =>
      obtain ⟨b1, o1, rfl, hb1, hcell⟩ := its_at hb (by simp)
      have c0 := hcell 0 t rfl
      rw [Nat.add_zero] at c0
      have hm0 : 0 < m := by rw [hm]; simp
      have hmd : ((m : Int) == 0) = false := beq_eq_false_iff_ne.2 (by omega)
      obtain rfl : v = true := hv.symm
      obtain rfl : z = t := hz.symm
      clear ha hb hv hcell hm hz
      go_enter Try.func37, Try.ntmps37
      go_wp2_with fail
      go_ret2
      exact ⟨rfl, HB.out⟩
  | cons s a =>
    obtain ⟨b2, o2, rfl, hb2, hcell2⟩ := its_at ha (by simp)
    have e0 := hcell2 0 s rfl
    rw [Nat.add_zero] at e0
    have hn0 : 0 < n := by rw [hn]; simp
    have hnd : ((n : Int) == 0) = false := beq_eq_false_iff_ne.2 (by omega)
    cases b with
    | nil =>
      obtain rfl : m = 0 := hm
      obtain rfl : v = true := hv.symm
      obtain rfl : z = s := hz.symm
      clear ha hb hv hcell2 hn hz
      go_enter Try.func37, Try.ntmps37
      go_wp2_with fail
      go_ret2
      exact ⟨rfl, HB.out⟩
    | cons t b =>
      obtain ⟨b1, o1, rfl, hb1, hcell⟩ := its_at hb (by simp)
      have c0 := hcell 0 t rfl
      rw [Nat.add_zero] at c0
      have hm0 : 0 < m := by rw [hm]; simp
      have hmd : ((m : Int) == 0) = false := beq_eq_false_iff_ne.2 (by omega)
      obtain rfl : v = true := hv.symm
      have hz1 : min s t = z := hz
      have hz2 : (if t < s then t else s) = z := by rw [← hz1]; split <;> omega
      have hz3 : (if s < t then s else t) = z := by rw [← hz1]; split <;> omega
      clear ha hb hv hz hcell hcell2 hn hm
      go_enter Try.func37, Try.ntmps37
      go_wp2_with fail
      go_region
      go_wp2_with fail
      go_ret2
      exact ⟨rfl, HB.out.drew⟩
end Go.Proofs.Ytnfhkmlggajhaaa
