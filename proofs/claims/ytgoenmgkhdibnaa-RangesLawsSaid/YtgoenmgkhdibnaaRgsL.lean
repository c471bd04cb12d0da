/-
  Layer 8 (ranges), the program: a swept list from a text on; the next edge of two.
-/
import Derived.Test.YtgoenmgkhdibnaaRgsK
namespace Go.Proofs.Ytgoenmgkhdibnaa
open Go.RowKit

/-- The edges' row behind a text. -/
def passS (x : List UInt8) (A : Option Addr) (n c : Nat) : List (List UInt8) → Value
  | [] => .slice A n c
  | y :: _ => match decide (y = x) with | true => .slice (cutA A 1 c) (n - 1) (c - 1) | false => .slice A n c
theorem passS_same {x : List UInt8} {A : Option Addr} {n c : Nat} {l : List (List UInt8)} : passS x A n c (x :: l) = .slice (cutA A 1 c) (n - 1) (c - 1) := by rw [passS, decide_eq_true rfl]
theorem passS_other {x y : List UInt8} {A : Option Addr} {n c : Nat} {l : List (List UInt8)} (h : y ≠ x) : passS x A n c (y :: l) = .slice A n c := by rw [passS, decide_eq_false h]
/-- A row of texts that reads, as a value. -/
def SliceS (w : World) (v : Value) (l : List (List UInt8)) : Prop := ∃ A c, v = .slice A l.length c ∧ kStr.Rd w w.heap.size A c l
theorem SliceS.call {w w' : World} {v : Value} {l : List (List UInt8)} (h : SliceS w v l) (hb : Below w.heap.size w w') : SliceS w' v l := by
  obtain ⟨A, c, rfl, hr⟩ := h
  exact ⟨A, c, rfl, hr.call hb⟩
theorem passS_reads {x : List UInt8} {A : Option Addr} {c : Nat} {l : List (List UInt8)} {w : World} (hr : kStr.Rd w w.heap.size A c l) : SliceS w (passS x A l.length c l) (dropE x l) := by
  cases l with
  | nil => exact ⟨A, c, rfl, hr⟩
  | cons y l =>
    by_cases hy : y = x
    · subst hy
      rw [passS_same, dropE_same]
      refine ⟨_, _, rfl, ?_, by have := hr.room; simp only [List.length_cons] at this; omega, by have := hr.cap; omega⟩
      have h1 := RowAt.cut hr.row (k := 1) (c := c) (by rw [strs_len]; simp) (by rw [strs_len]; exact hr.room)
      rwa [← strs_drop, List.drop_one, List.tail_cons] at h1
    · rw [passS_other hy, dropE_other hy]
      exact ⟨_, _, rfl, hr⟩
set_option maxHeartbeats 1000000 in
theorem rgs_pass (A : Option Addr) (c n : Nat) (l : List (List UInt8)) (x : List UInt8) (v : Bool) (U : ByteArray) (hU : str x = U) (hn : n = l.length) (v' : Bool) (hv : passB x v l = v') (s' : Value) (hs : passS x A n c l = s') (w : World) (hr : kStr.Rd w w.heap.size A c l) :
    Calls Try.prog 46 #[.agg #[.bool v, .slice A n c], .string U] w fun e w' => e = .returned (.agg #[.bool v', s']) ∧ Below w.heap.size w w' := by
  have HB := Lib.hid (((Below.refl w.heap.size w).alloc (Nat.le_refl _) (.cells #[.bool v', s'] 51)).alloc (by simp) (.cells #[.bool v', s'] 51))
  cases l with
  | nil =>
    obtain rfl : n = 0 := hn
    obtain rfl : v' = v := hv.symm
    obtain rfl : s' = .slice A 0 c := hs.symm
    clear hr hv hs
    go_enter Try.func46, Try.ntmps46
    go_wp2_with fail
    exact bodyPost_ret (v := .agg #[.bool v', .slice A 0 c]) (by simp [results, Try.results46, go_sem]) rfl ⟨rfl, HB.out⟩
  | cons y l =>
    obtain ⟨b, o, rfl, hb1, hcell⟩ := texts_at hr (by simp)
    have c0 := hcell 0 y rfl
    rw [Nat.add_zero] at c0
    have hn0 : 0 < n := by rw [hn]; simp
    have hnc : n ≤ c := by rw [hn]; exact hr.room
    have hnd : decide ((0 : Int) < (n : Int)) = true := decide_eq_true (by omega)
    by_cases hy : y = x
    · have hE : ((str y).toList == U.toList) = true := by rw [hy, hU]; simp
      have K : ∀ w : World, (Instr.slice 43 (.slice (some ⟨b, o, none⟩) n c) (some (.int .i64 1)) none none).run Try.prog w = .ok (.slice (cutA (some ⟨b, o, none⟩) 1 c) (n - 1) (c - 1)) w := fun w => run_cut (T := 43) (E := 9) Try.underlying43 str_sizeOf w (some ⟨b, o, none⟩) n c 1 (by omega)
      obtain rfl : v' = !v := by rw [← hv, hy, passB_same]
      obtain ⟨q, hq⟩ : ∃ q, cutA (some ⟨b, o, none⟩) 1 c = q := ⟨_, rfl⟩
      obtain ⟨n1, hn1⟩ : ∃ n1, n - 1 = n1 := ⟨_, rfl⟩
      obtain ⟨c1, hc1⟩ : ∃ c1, c - 1 = c1 := ⟨_, rfl⟩
      rw [hq, hn1, hc1] at K
      obtain rfl : s' = .slice q n1 c1 := by rw [← hs, ← hq, ← hn1, ← hc1, hy, passS_same]
      obtain ⟨S, hS⟩ : ∃ S, str y = S := ⟨_, rfl⟩
      rw [hS] at c0 hE
      clear hcell hv hs hn hq hn1 hc1 hS hy hU hr
      go_enter Try.func46, Try.ntmps46
      go_wp2_with fail
      go_region
      go_wp2_with fail
      exact bodyPost_ret (v := .agg #[.bool (!v), .slice q n1 c1]) (by simp [results, Try.results46, go_sem]) rfl ⟨rfl, HB.out.drew⟩
    · have hE : ((str y).toList == U.toList) = false := txt_ne rfl hU hy
      obtain rfl : v' = v := by rw [← hv, passB_other hy]
      obtain rfl : s' = .slice (some ⟨b, o, none⟩) n c := by rw [← hs, passS_other hy]
      obtain ⟨S, hS⟩ : ∃ S, str y = S := ⟨_, rfl⟩
      rw [hS] at c0 hE
      clear hcell hv hs hn hS hy hU hr
      go_enter Try.func46, Try.ntmps46
      go_wp2_with fail
      exact bodyPost_ret (v := .agg #[.bool v', .slice (some ⟨b, o, none⟩) n c]) (by simp [results, Try.results46, go_sem]) rfl ⟨rfl, HB.out⟩
/-- The next edge, as it is handed back. -/
def nearU (a b : List (List UInt8)) : ByteArray := match nearE a b with | some e => str e | none => ⟨#[]⟩
set_option maxHeartbeats 1000000 in
theorem rgs_nearest (A B : Option Addr) (c d n m : Nat) (a b : List (List UInt8)) (x y : Bool) (hn : n = a.length) (hm : m = b.length) (U : ByteArray) (hU : nearU a b = U) (v : Bool) (hv : (nearE a b).isSome = v) (w : World) (ha : kStr.Rd w w.heap.size A c a) (hb : kStr.Rd w w.heap.size B d b) :
    Calls Try.prog 45 #[.agg #[.bool x, .slice A n c], .agg #[.bool y, .slice B m d]] w fun e w' => e = .returned (.tuple #[.string U, .bool v]) ∧ Below w.heap.size w w' := by
  have HB := Lib.hid (((Below.refl w.heap.size w).alloc (Nat.le_refl _) (.cells #[.bool x, .slice A n c] 51)).alloc (by simp) (.cells #[.bool y, .slice B m d] 51))
  have hna : n ≤ c := by rw [hn]; exact ha.room
  have hmb : m ≤ d := by rw [hm]; exact hb.room
  cases a with
  | nil =>
    obtain rfl : n = 0 := hn
    cases b with
    | nil =>
      obtain rfl : m = 0 := hm
      obtain rfl : v = false := hv.symm
      obtain rfl : U = ⟨#[]⟩ := hU.symm
      clear ha hb hv hU
      go_enter Try.func45, Try.ntmps45
      go_wp2_with fail
      go_ret2
      exact ⟨rfl, HB.out⟩
    | cons t b =>
      obtain ⟨b1, o1, rfl, hb1, hcell⟩ := texts_at hb (by simp)
      have c0 := hcell 0 t rfl
      rw [Nat.add_zero] at c0
      have hm0 : 0 < m := by rw [hm]; simp
      have hmd : ((m : Int) == 0) = false := beq_eq_false_iff_ne.2 (by omega)
      obtain rfl : v = true := hv.symm
      obtain rfl : U = str t := hU.symm
      obtain ⟨S, hS⟩ : ∃ S, str t = S := ⟨_, rfl⟩
      rw [hS] at c0 ⊢
      clear ha hb hv hcell hm hS
      go_enter Try.func45, Try.ntmps45
      go_wp2_with fail
      go_ret2
      exact ⟨rfl, HB.out⟩
  | cons s a =>
    obtain ⟨b2, o2, rfl, hb2, hcell2⟩ := texts_at ha (by simp)
    have e0 := hcell2 0 s rfl
    rw [Nat.add_zero] at e0
    have hn0 : 0 < n := by rw [hn]; simp
    have hnd : ((n : Int) == 0) = false := beq_eq_false_iff_ne.2 (by omega)
    cases b with
    | nil =>
      obtain rfl : m = 0 := hm
      obtain rfl : v = true := hv.symm
      obtain rfl : U = str s := hU.symm
      obtain ⟨S, hS⟩ : ∃ S, str s = S := ⟨_, rfl⟩
      rw [hS] at e0 ⊢
      clear ha hb hv hcell2 hn hS
      go_enter Try.func45, Try.ntmps45
      go_wp2_with fail
      go_quiet (fail)
      go_wp2_with fail
      go_ret2
      exact ⟨rfl, below_drewN HB.out _⟩
    | cons t b =>
      obtain ⟨b1, o1, rfl, hb1, hcell⟩ := texts_at hb (by simp)
      have c0 := hcell 0 t rfl
      rw [Nat.add_zero] at c0
      have hm0 : 0 < m := by rw [hm]; simp
      have hmd : ((m : Int) == 0) = false := beq_eq_false_iff_ne.2 (by omega)
      obtain rfl : v = true := by
        rw [← hv]
        cases hl : ltB s t with
        | true => rw [nearE_lt hl]; rfl
        | false => rw [nearE_ge hl]; rfl
      obtain ⟨z, hz, hz1, -⟩ := cmp_test s t
      have C := fun w => Lib.hid (cmp_is s t _ _ rfl rfl z hz w)
      have HU1 := Lib.hid (fun h : ltB s t = true => show U = str s by rw [← hU]; unfold nearU; rw [nearE_lt h])
      have HU2 := Lib.hid (fun h : ltB s t = false => show U = str t by rw [← hU]; unfold nearU; rw [nearE_ge h])
      obtain ⟨l, hl⟩ : ∃ l, ltB s t = l := ⟨_, rfl⟩
      rw [hl] at hz1 HU1 HU2
      obtain ⟨S, hS⟩ : ∃ S, str s = S := ⟨_, rfl⟩
      obtain ⟨T, hT⟩ : ∃ T, str t = T := ⟨_, rfl⟩
      rw [hS] at e0 C HU1
      rw [hT] at c0 C HU2
      clear ha hb hv hU hcell hcell2 hn hm hz hl hS hT
      cases l
      · obtain rfl := HU2.out rfl
        clear HU1 HU2
        go_enter Try.func45, Try.ntmps45
        go_wp2_with fail
        go_quiet ((go_at_call 41; exact Calls.quiet_of_same ((C _).out.mono fun _ _ ⟨h1, h2⟩ => ⟨h1, h2.symm⟩)))
        go_wp2_with fail
        go_ret2
        exact ⟨rfl, below_drewN HB.out _⟩
      · obtain rfl := HU1.out rfl
        clear HU1 HU2
        go_enter Try.func45, Try.ntmps45
        go_wp2_with fail
        go_quiet ((go_at_call 41; exact Calls.quiet_of_same ((C _).out.mono fun _ _ ⟨h1, h2⟩ => ⟨h1, h2.symm⟩)))
        go_wp2_with fail
        go_ret2
        exact ⟨rfl, below_drewN HB.out _⟩
end Go.Proofs.Ytgoenmgkhdibnaa
