/-
  The laws of layer 8: the chapter's examples.
-/
import Derived.Test.YtgoenmgkhdibnaaLaw08A
namespace Go.Proofs.Ytgoenmgkhdibnaa
open Go.RowKit

theorem row_two (w : World) (r t : Rng) : kRng.Rd (w.alloc (.cells #[.string (str r.lo), .string (str r.hi), .bool r.op, .string (str t.lo), .string (str t.hi), .bool t.op] 35)) (w.alloc (.cells #[.string (str r.lo), .string (str r.hi), .bool r.op, .string (str t.lo), .string (str t.hi), .bool t.op] 35)).heap.size (some ⟨w.heap.size, 0, none⟩) 2 [r, t] := by
  rw [size1]; exact Kind.rd_new rfl rfl (by simp)
theorem ex_of : makeV 1 [⟨[99], [100], false⟩, ⟨[97], [99], false⟩] [] = [⟨[97], [100], false⟩] := by decide +kernel
theorem ex_not : makeV 4 [] [] = [⟨[], [], true⟩] := by decide +kernel
theorem ex_all : makeV 4 [⟨[], [], true⟩] [] = [] := by decide +kernel
set_option maxHeartbeats 1000000 in
theorem awake08 (HOF : OneC 9 1) (HNO : OneC 19 4) (w : World) : Calls Try.prog 7 #[] w fun e w' => e = .returned (.bool true) ∧ Below w.heap.size w w' := by
  have OF := fun A w ha => Lib.hid (one_is HOF A 2 2 [⟨[99], [100], false⟩, ⟨[97], [99], false⟩] _ ex_of rfl ⟨by simp, by simp⟩ w ha)
  have N1 := fun w ha => Lib.hid (one_is HNO none 0 0 [] _ ex_not rfl (smallL_nil _) w ha)
  have N2 := fun A c w ha => Lib.hid (one_is HNO A c 1 [⟨[], [], true⟩] _ ex_all rfl ⟨by simp, by simp⟩ w ha)
  have E1 := fun w => Lib.hid (eq_rng_is ⟨#[97]⟩ ⟨#[100]⟩ ⟨#[97]⟩ ⟨#[100]⟩ false false true (by simp) w)
  have E2 := fun w => Lib.hid (eq_rng_is ⟨#[]⟩ ⟨#[]⟩ ⟨#[]⟩ ⟨#[]⟩ true true true (by simp) w)
  have R0 := Lib.hid (row_two w ⟨[99], [100], false⟩ ⟨[97], [99], false⟩)
  clear HOF HNO
  go_enter Try.func7, Try.ntmps7
  go_wp2_with fail
  refine (OF _ _ R0.out).out.mono ?_
  rintro e w1 ⟨A1, c1, rfl, hrd, hq⟩
  have HA := Lib.hid hrd
  have HW := Lib.hid ((below_new w _).trans (hq.mono (by simp)))
  clear hrd hq
  go_wp2_with fail
  refine (N1 _ (Kind.Rd.nil _ _)).out.mono ?_
  rintro e w2 ⟨A2, c2, rfl, hrd, hq⟩
  replace HA := Lib.hid (HA.out.call hq)
  replace HW := Lib.hid (HW.out.trans (hq.mono HW.out.size))
  have HB := Lib.hid hrd
  obtain ⟨b1, o1, rfl, hb1, hc1⟩ := rngs_at HA.out (by simp)
  obtain ⟨b2, o2, rfl, hb2, hc2⟩ := rngs_at HB.out (by simp)
  obtain ⟨k0, k1, k2⟩ := hc1 0 _ rfl
  obtain ⟨m0, m1, m2⟩ := hc2 0 _ rfl
  simp only [Nat.zero_mul, Nat.add_zero] at k0 k1 k2 m0 m1 m2
  have hr1 := HA.out.room
  have hr2 := HB.out.room
  simp only [List.length_singleton] at hr1 hr2
  change w2.cell? _ = some (.string ⟨#[97]⟩) at k0
  change w2.cell? _ = some (.string ⟨#[100]⟩) at k1
  change w2.cell? _ = some (.string ⟨#[]⟩) at m0
  change w2.cell? _ = some (.string ⟨#[]⟩) at m1
  have E1 := fun w => (E1 w).out
  have E2 := fun w => (E2 w).out
  clear hrd hq hc1 hc2
  go_wp2_with ((with_reducible refine (N2 _ _ _ HB.out).out.mono ?_); rintro e w3 ⟨A3, c3, rfl, hrd, hq⟩; replace HW := Lib.hid (HW.out.trans (hq.mono HW.out.size)); clear hrd hq)
  go_ret
  exact ⟨rfl, HW.out⟩
end Go.Proofs.Ytgoenmgkhdibnaa
