/-
  The laws of layer 8: what the program's functions do, as they ask it.
-/
import Derived.Test.YtgoenmgkhdibnaaLaw08G
import Derived.Test.YtgoenmgkhdibnaaRgsM
namespace Go.Proofs.Ytgoenmgkhdibnaa
open Go.RowKit

theorem clo_union (x y : Bool) (w : World) : Calls Try.prog 32 #[.bool x, .bool y] w fun e w' => e = .returned (.bool (x || y)) ∧ w = w' := by
  cases x <;> cases y
  all_goals
    go_enter Try.func32, Try.ntmps32
    go_wp2_with fail
    go_ret
    exact ⟨rfl, rfl⟩
theorem clo_meet (x y : Bool) (w : World) : Calls Try.prog 33 #[.bool x, .bool y] w fun e w' => e = .returned (.bool (x && y)) ∧ w = w' := by
  cases x <;> cases y
  all_goals
    go_enter Try.func33, Try.ntmps33
    go_wp2_with fail
    go_ret
    exact ⟨rfl, rfl⟩
theorem clo_less (x y : Bool) (w : World) : Calls Try.prog 34 #[.bool x, .bool y] w fun e w' => e = .returned (.bool (x && !y)) ∧ w = w' := by
  cases x <;> cases y
  all_goals
    go_enter Try.func34, Try.ntmps34
    go_wp2_with fail
    go_ret
    exact ⟨rfl, rfl⟩
theorem clo_not (x y : Bool) (w : World) : Calls Try.prog 35 #[.bool x, .bool y] w fun e w' => e = .returned (.bool (!x)) ∧ w = w' := by
  go_enter Try.func35, Try.ntmps35
  go_wp2_with fail
  go_ret
  exact ⟨rfl, rfl⟩
theorem k_of : OneC 9 1 := fun A c n a hn hs w ha => rgs_of A c n a hn (by have := hs.1; omega) w ha
theorem k_right : RightC 10 := fun A c n a hn _ v hv w ha => rgs_right A c n a hn v hv w ha
theorem k_has : HasC 12 := fun A c n a s hn _ _ v hv w ha => rgs_has A c n a s _ hn rfl v hv w ha
theorem k_union : SetC 16 1 := fun A B c d n m a b hn hm ha' hb' w ha hb => by
  have K := Lib.hid (rgs_sweep 32 (fun x y => x || y) clo_union (enters_of Try.func32 (by kernel_rfl) rfl) 1 A B c d n m a b (fun _ => rfl) hn hm (by have := ha'.1; omega) (by have := hb'.1; omega) w ha hb)
  clear hn hm ha' hb' ha hb
  go_enter Try.func16, Try.ntmps16
  go_wp2_with ((with_reducible refine K.out.mono ?_); rintro e w1 ⟨A1, c1, rfl, hrd, hq⟩; have HR := Lib.hid hrd; clear hrd)
  go_ret
  exact ⟨A1, c1, rfl, HR.out, hq⟩
theorem k_meet : SetC 17 2 := fun A B c d n m a b hn hm ha' hb' w ha hb => by
  have K := Lib.hid (rgs_sweep 33 (fun x y => x && y) clo_meet (enters_of Try.func33 (by kernel_rfl) rfl) 2 A B c d n m a b (fun _ => rfl) hn hm (by have := ha'.1; omega) (by have := hb'.1; omega) w ha hb)
  clear hn hm ha' hb' ha hb
  go_enter Try.func17, Try.ntmps17
  go_wp2_with ((with_reducible refine K.out.mono ?_); rintro e w1 ⟨A1, c1, rfl, hrd, hq⟩; have HR := Lib.hid hrd; clear hrd)
  go_ret
  exact ⟨A1, c1, rfl, HR.out, hq⟩
theorem k_less : SetC 18 3 := fun A B c d n m a b hn hm ha' hb' w ha hb => by
  have K := Lib.hid (rgs_sweep 34 (fun x y => x && !y) clo_less (enters_of Try.func34 (by kernel_rfl) rfl) 3 A B c d n m a b (fun _ => rfl) hn hm (by have := ha'.1; omega) (by have := hb'.1; omega) w ha hb)
  clear hn hm ha' hb' ha hb
  go_enter Try.func18, Try.ntmps18
  go_wp2_with ((with_reducible refine K.out.mono ?_); rintro e w1 ⟨A1, c1, rfl, hrd, hq⟩; have HR := Lib.hid hrd; clear hrd)
  go_ret
  exact ⟨A1, c1, rfl, HR.out, hq⟩
theorem k_not : OneC 19 4 := fun A c n a hn ha' w ha => by
  have K := Lib.hid (rgs_sweep 35 (fun x _ => !x) clo_not (enters_of Try.func35 (by kernel_rfl) rfl) 4 A none c 0 n 0 a [] (fun s => by unfold inV; rw [gV4, hasL_nil, Bool.not_false, Bool.and_true]) hn rfl (by have := ha'.1; omega) (by omega) w ha (Kind.Rd.nil _ _))
  clear hn ha' ha
  go_enter Try.func19, Try.ntmps19
  go_wp2_with ((with_reducible refine K.out.mono ?_); rintro e w1 ⟨A1, c1, rfl, hrd, hq⟩; have HR := Lib.hid hrd; clear hrd)
  go_ret
  exact ⟨A1, c1, rfl, HR.out, hq⟩
theorem same_L (a b : List Rng) : sameL (normV a) (normV b) = sameV a b := by
  unfold sameV
  rw [Bool.eq_iff_iff, sameL_iff, decide_eq_true_eq]
theorem k_same : TellC 21 sameV := fun A B c d n m a b hn hm ha' hb' v hv w ha hb => by
  have C1 := Lib.hid (rgs_of A c n a hn (by have := ha'.1; omega) w ha)
  have C2 := fun w' (h : Below w.heap.size w w') => Lib.hid (rgs_of B d m b hm (by have := hb'.1; omega) w' (hb.call h))
  have HE := Lib.hid ((same_L a b).trans hv)
  clear hn hm ha' hb' ha hb hv
  go_enter Try.func21, Try.ntmps21
  go_wp2_with (first
    | ((with_reducible refine C1.out.mono ?_); rintro e w1 ⟨A1, c1, rfl, hrd, hq⟩; have H1 := Lib.hid hrd; have hb0 := Lib.hid hq; clear hrd hq)
    | ((with_reducible refine (C2 _ hb0.out).out.mono ?_); rintro e w2 ⟨A2, c2, rfl, hrd, hq⟩; have H2 := Lib.hid hrd; replace H1 := Lib.hid (H1.out.call hq); have hb1 := Lib.hid (hb0.out.trans (hq.mono hb0.out.size)); clear hrd hq)
    | ((with_reducible refine (rgs_equal A1 A2 c1 c2 _ _ _ _ rfl rfl v HE.out _ H1.out H2.out).mono ?_); rintro e w3 ⟨rfl, q, rfl⟩))
  go_ret
  exact ⟨rfl, below_drewN hb1.out _⟩
theorem k_within : TellC 22 withinV := fun A B c d n m a b hn hm ha' hb' v hv w ha hb => by
  have K := Lib.hid (k_less A B c d n m a b hn hm ha' hb' w ha hb)
  obtain ⟨u, hu⟩ : ∃ u, makeV 3 a b = u := ⟨_, rfl⟩
  rw [hu] at K
  unfold withinV at hv
  rw [hu] at hv
  clear hn hm ha' hb' ha hb hu
  cases u with
  | nil =>
    obtain rfl : v = true := hv.symm
    go_enter Try.func22, Try.ntmps22
    go_wp2_with ((with_reducible refine K.out.mono ?_); rintro e w1 ⟨A1, c1, rfl, -, hq⟩)
    go_ret
    exact ⟨rfl, hq⟩
  | cons r u =>
    obtain rfl : v = false := hv.symm
    obtain ⟨N, hN⟩ : ∃ N, (r :: u).length = N := ⟨_, rfl⟩
    have hN0 : ((N : Int) == 0) = false := beq_eq_false_iff_ne.2 (by rw [← hN]; simp; omega)
    replace K := Lib.hid (K.out.mono fun (e : Ending) (w1 : World) h => show ∃ A1 c1, e = .returned (.slice A1 N c1) ∧ Below w.heap.size w w1 from by obtain ⟨A1, c1, h1, -, h2⟩ := h; rw [hN] at h1; exact ⟨A1, c1, h1, h2⟩)
    go_enter Try.func22, Try.ntmps22
    go_wp2_with ((with_reducible refine K.out.mono ?_); rintro e w1 ⟨A1, c1, rfl, hq⟩)
    go_ret
    exact ⟨rfl, hq⟩
end Go.Proofs.Ytgoenmgkhdibnaa
