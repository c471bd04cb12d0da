/-
  Layer 12 (version), the program: a version's text, and back.
-/
import Derived.Test.YtddamcmbgbefpaaDoorVrC
import Derived.Test.YtddamcmbgbefpaaDoorLaw12B
import Derived.Test.YtddamcmbgbefpaaDoorVrConv
import Derived.Test.YtddamcmbgbefpaaDoorShelfConv
import Derived.Lib.AtoiErrMem
namespace Go.Proofs.YtddamcmbgbefpaaDoor
open Go.RowKit

theorem vbelow_grow (w : World) (k : Nat) (os : Array Obj) : Below w.heap.size w (Go.Sort.grow (w.drewN k) os) :=
  ⟨rfl, rfl, rfl, by simp [Go.Sort.grow], fun j hj => Go.Sort.heap_grow_old (w := w.drewN k) os hj⟩
theorem vr_itoa (p : Nat) (hp : p ≤ 1099511627776) (X : ByteArray) (hX : str (digN p) = X) (w : World) (hsy : SysAt w) : Calls Tryd.prog 17 #[.int .i64 (p : Int)] w fun e w' => e = .returned (.string X) ∧ Below w.heap.size w w' := by
  refine (Tryd.strconv_Itoa (p : Int) (by omega) (by omega) w hsy.pow).mono ?_
  rintro e w' ⟨rfl, k, os, rfl⟩
  refine ⟨?_, vbelow_grow w k os⟩
  rw [itoa_dig hp, ← hX]; rfl
theorem vr_cut (s : List UInt8) (U X Y : ByteArray) (hU : str s = U) (hs : s.length ≤ 20000) (hX : str (Lib.cut s [46]).1 = X) (hY : str (Lib.cut s [46]).2.1 = Y) (w : World) (hsy : SysAt w) :
    Calls Tryd.prog 18 #[.string U, .string ⟨#[46]⟩] w fun e w' => (∃ b, e = .returned (.tuple #[.string X, .string Y, .bool b])) ∧ Below w.heap.size w w' := by
  obtain ⟨m, hm⟩ := hsy.max
  have hz : U.size < 4294967281 := by rw [← hU, str_size]; omega
  refine (Tryd.strings_Cut U ⟨#[46]⟩ m w hz hm).mono ?_
  rintro e w' ⟨rfl, n, rfl⟩
  have hd : U.data.toList = s := by subst hU; exact str_data s
  rw [hd]
  exact ⟨⟨_, by rw [← hX, ← hY]; rfl⟩, ⟨rfl, rfl, rfl, Nat.le_refl _, fun _ _ => rfl⟩⟩
set_option maxRecDepth 100000 in
theorem vr_guess (s : List UInt8) (U : ByteArray) (hU : str s = U) (hs : s.length ≤ 20000) (g : Int) (hg : gV s = g) (w : World) (hsy : SysAt w) :
    Calls Tryd.prog 19 #[.string U] w fun e w' => e = .returned (.int .i64 g) ∧ Below w.heap.size w w' := by
  have hz : U.size ≤ 20000 := by rw [← hU, str_size]; exact hs
  have hd : U.data.toList = s := by subst hU; exact str_data s
  unfold gV at hg
  cases h : Lib.atoiAll s with
  | ok v =>
    rw [h] at hg
    obtain rfl : v = g := hg
    have C := fun w => Lib.hid (Tryd.strconv_Atoi_ok U (by omega) v (by rw [hd]; exact h) w)
    clear hsy h hd hU hz hs
    go_enter Tryd.func19, Tryd.ntmps19
    go_wp2_with ((with_reducible refine (C _).out.mono ?_); rintro e w1 ⟨rfl, hq⟩; have HQ := Lib.hid hq; clear hq)
    go_ret
    rcases HQ.out with rfl | ⟨t, rfl⟩
    · exact ⟨rfl, Below.refl _ _⟩
    · exact ⟨rfl, Lib.bytesWorld_below _ _ _⟩
  | «syntax» =>
    rw [h] at hg
    obtain rfl : 0 = g := hg
    obtain ⟨tp, p, hv⟩ := hsy.syn
    have C := Lib.hid (Tryd.strconv_Atoi_syntax_var U (by omega) (by rw [hd]; exact h) tp p w hv)
    clear hsy h hd hU hz hs hv
    go_enter Tryd.func19, Tryd.ntmps19
    go_wp2_with ((with_reducible refine C.out.mono ?_); rintro e w1 ⟨N, rfl, -, -, hq⟩; have HQ := Lib.hid hq; clear hq)
    go_ret
    exact ⟨rfl, HQ.out⟩
  | range =>
    rw [h] at hg
    obtain rfl : 0 = g := hg
    obtain ⟨tp, p, hv⟩ := hsy.rng
    have C := Lib.hid (Tryd.strconv_Atoi_range_var U (by omega) (by rw [hd]; exact h) tp p w hv)
    clear hsy h hd hU hz hs hv
    go_enter Tryd.func19, Tryd.ntmps19
    go_wp2_with ((with_reducible refine C.out.mono ?_); rintro e w1 ⟨N, rfl, -, -, hq⟩; have HQ := Lib.hid hq; clear hq)
    go_ret
    exact ⟨rfl, HQ.out⟩
set_option maxRecDepth 100000 in
set_option maxHeartbeats 1000000 in
theorem k_vtext : VTextC 12 := by
  intro v x y hx hy
  constructor
  · intro hv0 V hV w hsy
    have CR := fun w => Lib.hid (k_vright v x y hx hy true hv0 w)
    have hv := hv0
    rw [rightVr_iff, hx, hy] at hv
    obtain ⟨p, rfl⟩ : ∃ p : Nat, x = (p : Int) := ⟨x.toNat, by omega⟩
    obtain ⟨q, rfl⟩ : ∃ q : Nat, y = (q : Int) := ⟨y.toNat, by omega⟩
    obtain ⟨X, hX⟩ : ∃ X, str (digN p) = X := ⟨_, rfl⟩
    obtain ⟨Y, hY⟩ : ∃ Y, str (digN q) = Y := ⟨_, rfl⟩
    have zX : X.size ≤ 21 := by rw [← hX, str_size]; exact digF_len 20 p
    have zY : Y.size ≤ 21 := by rw [← hY, str_size]; exact digF_len 20 q
    have HV := Lib.hid (show X ++ (⟨#[46]⟩ : ByteArray) ++ Y = V by
      rw [← hV]
      unfold textVr
      rw [hx, hy, Int.toNat_natCast, Int.toNat_natCast, show digN p ++ 46 :: digN q = (digN p ++ [46]) ++ digN q by simp, ← vstr2, ← vstr2, hX, hY]
      rfl)
    obtain ⟨WB, hWB⟩ : ∃ WB, w.alloc (.cells #[.int .i64 (p : Int), .int .i64 (q : Int)] 23) = WB := ⟨_, rfl⟩
    have HB := Lib.hid (show Below w.heap.size w WB from hWB ▸ below_new w (.cells #[.int .i64 (p : Int), .int .i64 (q : Int)] 23))
    have SB := Lib.hid (hsy.below HB.out (Nat.le_refl _))
    have CX := Lib.hid (fun (L : List (Addr × Value)) => fun (W : World) (hC : CellL WB L W) => (vr_itoa p (by omega) X hX W (SB.out.call (cellL_size hC))).mono fun (e : Ending) (W' : World) ⟨h1, h2⟩ => (⟨h1, cellL_call h2 hC⟩ : e = Ending.returned (.string X) ∧ CellL WB L W'))
    have CY := Lib.hid (fun (L : List (Addr × Value)) => fun (W : World) (hC : CellL WB L W) => (vr_itoa q (by omega) Y hY W (SB.out.call (cellL_size hC))).mono fun (e : Ending) (W' : World) ⟨h1, h2⟩ => (⟨h1, cellL_call h2 hC⟩ : e = Ending.returned (.string Y) ∧ CellL WB L W'))
    obtain ⟨g0, g1⟩ := vr_new w (p : Int) (q : Int)
    rw [hWB] at g0 g1
    have HC := Lib.hid (show CellL WB [(⟨w.heap.size, 0, none⟩, .int .i64 (p : Int)), (⟨w.heap.size, 1, none⟩, .int .i64 (q : Int))] WB from ⟨g0, g1, Below.refl _ _⟩)
    clear hx hy hv hv0 hV hX hY hsy
    go_enter Tryd.func12, Tryd.ntmps12
    go_wp2_with ((with_reducible refine (CR _).out.mono ?_); rintro e w1 ⟨rfl, hq⟩; replace HC := Lib.hid (cellL_call hq HC.out); clear hq g0 g1)
    clear hWB
    refine q_region (CellL WB [(⟨w.heap.size, 0, none⟩, .int .i64 (p : Int)), (⟨w.heap.size, 1, none⟩, .int .i64 (q : Int))]) (by kernel_rfl) (by kernel_rfl) (cellL_drew HC.out) ?_
    repeat (first
      | go_big_quiet_skip
      | (go_big_quiet_want; (first
        | (refine q_take (v := ?_) ?_ ?_; rotate_left; (focus (intro w hSw; (try simp only [CellL] at hSw); go_split_ands; go_simp; (try (rw [if_neg (by omega)])); (try with_reducible rfl); done)))
        | (refine q_call (CX.out _) ?_ ?_; (focus (intro w hSw; (try simp only [CellL] at hSw); go_split_ands; go_simp; (try (rw [if_neg (by omega)])); done)))
        | (refine q_call (CY.out _) ?_ ?_; (focus (intro w hSw; (try simp only [CellL] at hSw); go_split_ands; go_simp; (try (rw [if_neg (by omega)])); done)))); (try simp only [Act.put, List.setIfInBounds_toArray, List.set_cons_zero, List.set_cons_succ]); go_big_quiet_on))
    refine wpQuiet_nil ?_
    intro w2 hw2
    have HB2 := Lib.hid (HB.out.trans ((cellL_size hw2).mono HB.out.size))
    clear hw2
    go_wp2_with fail
    go_ret2
    refine ⟨?_, HB2.out⟩
    rw [HV.out]; rfl
  · intro hv w hsy
    have CR := fun w => Lib.hid (k_vright v x y hx hy false hv w)
    have HB := Lib.hid (below_new w (.cells #[.int .i64 x, .int .i64 y] 23))
    clear hx hy hv hsy
    go_enter Tryd.func12, Tryd.ntmps12
    go_wp2_with ((with_reducible refine (CR _).out.mono ?_); rintro e w1 ⟨rfl, hq⟩; have HB2 := Lib.hid (HB.out.trans (hq.mono HB.out.size)); clear hq)
    go_ret2
    exact ⟨rfl, HB2.out⟩
end Go.Proofs.YtddamcmbgbefpaaDoor
