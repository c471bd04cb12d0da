/-
  Layer 12 (version), the document's words: a number's digits; a version's text.
-/
import Derived.Test.YtddamcmbgbefpaaDoorVrA
import Derived.Test.YtddamcmbgbefpaaDoorCut
import Derived.Test.YtddamcmbgbefpaaDoorRegion
namespace Go.Proofs.YtddamcmbgbefpaaDoor
open Go.RowKit

theorem vstr2 (a b : List UInt8) : str a ++ str b = str (a ++ b) := by
  apply ByteArray.ext
  rw [ByteArray.data_append]
  simp [str]
theorem DigSt.len {n r : Nat} {s : List UInt8} (h : DigSt n s r) : s.length ≤ 21 := by
  obtain ⟨f, _, h⟩ := h
  rcases h with ⟨h1, _⟩ | ⟨_, h2⟩
  · rw [h1]; simp
  · have h3 := digF_len 20 n
    unfold digN at h2
    rw [h2, List.length_append] at h3
    omega
def emptyW : Value → Nat
  | .string S => if S.size = 0 then 1 else 0
  | _ => 0
theorem vret_str {a b : ByteArray} (h : a = b) : Ending.returned (.string a) = .returned (.string b) := by rw [h]
set_option maxRecDepth 100000 in
set_option maxHeartbeats 2000000 in
theorem ref_digits (n : Nat) (hn : n ≤ 1099511627776) (w : World) :
    Calls Tryd.prog 20 #[.int .i64 (n : Int)] w fun e w' => e = .returned (.string (str (digN n))) ∧ Below w.heap.size w w' := by
  have HS := Lib.hid (DigSt.start hn)
  go_enter Tryd.func20, Tryd.ntmps20
  go_wp2_with fail
  go_loopw [0, 3] (fun a s wr => ∃ (r : Nat) (t : List UInt8), r ≤ 1099511627776 ∧ Hid (DigSt n t r) ∧ a = .int .i64 r ∧ s = .string (str t) ∧ Below w.heap.size w wr) (fun a s _ => 2 * (intOf a).toNat + emptyW s)
  case atStart => exact ⟨n, [], hn, HS.out, rfl, rfl, Below.refl _ _⟩
  case round =>
    obtain ⟨r, t, hr9, HD, rfl, rfl, hb⟩ := hrel
    have htl := HD.out.len
    have hzt : (str t).size ≤ 21 := by rw [str_size]; exact htl
    obtain ⟨m, hm⟩ : ∃ m, r % 10 = m := ⟨_, rfl⟩
    obtain ⟨q, hq⟩ : ∃ q, r / 10 = q := ⟨_, rfl⟩
    have hm9 : m < 10 := by omega
    have e1 : ((r : Int)).tmod 10 = (m : Int) := by rw [Int.tmod_eq_emod_of_nonneg (by omega)]; omega
    have e2 : ((r : Int)).tdiv 10 = (q : Int) := by rw [Int.tdiv_eq_ediv_of_nonneg (by omega)]; omega
    have e5 : wrap64 (q : Int) = (q : Int) := by unfold wrap64; omega
    have hq9 : q ≤ 1099511627776 := by omega
    have e3 : IntKind.u8.wrap (48 + (m : Int)) = ((digC m).toNat : Int) := by
      have h1 := (digC_val m hm9).1
      have h2 := (digC_val m hm9).2.1
      rw [show (48 + (m : Int)) = ((digC m).toNat : Int) by omega]
      exact IntWalk.u8_in _ (by have := (digC m).toNat_lt; omega)
    have HST := Lib.hid (fun h => HD.out.step h)
    rw [hm, hq] at HST
    have K1 : ∀ W : World, (convert 50 9 (.slice (some ⟨W.heap.size, 0, none⟩) 1 1)).run Tryd.prog (W.alloc (.cells #[.int .u8 ((digC m).toNat : Int)] 5)) = .ok (.string (str [digC m])) (W.alloc (.cells #[.int .u8 ((digC m).toNat : Int)] 5)) :=
      fun W => conv_str (w := W.alloc (.cells #[.int .u8 ((digC m).toNat : Int)] 5)) (P := Tryd.prog) 1 50 5 9 Tryd.underlying50 Tryd.underlying5 Tryd.underlying9 (byte_row W _ (digC m) rfl)
    have hz1 : (str [digC m]).size ≤ 1 := by rw [str_size]; simp
    have HV := Lib.hid (vstr2 [digC m] t)
    have hem : (str t).toList.isEmpty = t.isEmpty := by rw [str_toList]
    have hem2 : ((str t).toList == []) = t.isEmpty := by rw [str_toList]; cases t <;> rfl
    have hsz0 : t ≠ [] → (str t).size ≠ 0 := fun h e => h (List.eq_nil_of_length_eq_zero (by rw [← str_size]; exact e))
    have hwz : ∀ a : List UInt8, emptyW (.string (str (digC m :: a))) = 0 := fun a => by
      show (if (str (digC m :: a)).size = 0 then 1 else 0) = 0
      rw [if_neg (by rw [str_size]; simp)]
    obtain ⟨D, hD⟩ : ∃ D, str [digC m] = D := ⟨_, rfl⟩
    rw [hD] at K1 hz1 HV
    have hw0 : t = [] → emptyW (.string (str t)) = 1 := fun h => by subst h; rfl
    have HWZ := Lib.hid hwz
    have HW0 := Lib.hid hw0
    have HDN := Lib.hid (fun h : r = 0 => fun h2 : t ≠ [] => (by subst h; exact HD.out.done h2 : t = digN n))
    obtain ⟨S, hS⟩ : ∃ S, str t = S := ⟨_, rfl⟩
    rw [hS] at hzt HV hem hem2 hsz0 ⊢
    have HSS := Lib.hid hS
    clear hD hS hwz hw0
    by_cases ht : t = []
    · have HX := Lib.hid (HST.out (.inl ht))
      have hE : t.isEmpty = true := by rw [ht]; rfl
      rw [hE] at hem hem2
      have hwt := Lib.hid (HW0.out ht)
      rw [HSS.out] at hwt
      clear HD HST htl hsz0 hE
      go_wp2_with fail
      go_roundw
      case rel => exact ⟨q, digC m :: t, hq9, HX, rfl, by rw [HV.out]; rfl, hb.alloc hb.size _⟩
      case measure =>
        rw [HV.out]
        have h1 := HWZ.out t
        have h2 := hwt.out
        simp only [intOf, List.singleton_append]
        rw [h1, h2]
        omega
    · have hE : t.isEmpty = false := by simpa using ht
      rw [hE] at hem hem2
      by_cases hr0 : 0 < r
      · have HX := Lib.hid (HST.out (.inr hr0))
        clear HD HST htl hsz0 hE
        go_wp2_with fail
        go_roundw
        case rel => exact ⟨q, digC m :: t, hq9, HX, rfl, by rw [HV.out]; rfl, hb.alloc hb.size _⟩
        case measure =>
          rw [HV.out]
          have h1 := HWZ.out t
          simp only [intOf, List.singleton_append]
          rw [h1]
          omega
      · obtain rfl : r = 0 := by omega
        have HF := Lib.hid (HDN.out rfl ht)
        clear HD HST htl hsz0 hE hm hq e1 e2 e5
        go_wp2_with fail
        go_ret
        exact ⟨vret_str (by rw [← HSS.out, HF.out]), hb⟩
set_option maxRecDepth 100000 in
set_option maxHeartbeats 1000000 in
theorem ref_vrtextN (v : Vr) (x y : Int) (hx : v.rep = x) (hy : v.cnt = y) (hv : rightVr v = true) (V : ByteArray) (hV : str (textVr v) = V) (w : World) :
    Calls Tryd.prog 14 #[.agg #[.int .i64 x, .int .i64 y]] w fun e w' => e = .returned (.string V) ∧ Below w.heap.size w w' := by
  rw [rightVr_iff, hx, hy] at hv
  obtain ⟨p, rfl⟩ : ∃ p : Nat, x = (p : Int) := ⟨x.toNat, by omega⟩
  obtain ⟨q, rfl⟩ : ∃ q : Nat, y = (q : Int) := ⟨y.toNat, by omega⟩
  obtain ⟨X, hX⟩ : ∃ X, str (digN p) = X := ⟨_, rfl⟩
  obtain ⟨Y, hY⟩ : ∃ Y, str (digN q) = Y := ⟨_, rfl⟩
  have C1 := fun w => ref_digits p (by omega) w
  have C2 := fun w => ref_digits q (by omega) w
  rw [hX] at C1
  rw [hY] at C2
  have zX : X.size ≤ 21 := by rw [← hX, str_size]; exact digF_len 20 p
  have zY : Y.size ≤ 21 := by rw [← hY, str_size]; exact digF_len 20 q
  have HV := Lib.hid (show X ++ (⟨#[46]⟩ : ByteArray) ++ Y = V by
    rw [← hV]
    unfold textVr
    rw [hx, hy, Int.toNat_natCast, Int.toNat_natCast, show digN p ++ 46 :: digN q = (digN p ++ [46]) ++ digN q by simp, ← vstr2, ← vstr2, hX, hY]
    rfl)
  obtain ⟨WB, hWB⟩ : ∃ WB, w.alloc (.cells #[.int .i64 (p : Int), .int .i64 (q : Int)] 23) = WB := ⟨_, rfl⟩
  have HB := Lib.hid (hWB ▸ below_new w (.cells #[.int .i64 (p : Int), .int .i64 (q : Int)] 23))
  have CX := Lib.hid (fun L => cellL_of (a := WB) (l := L) C1)
  have CY := Lib.hid (fun L => cellL_of (a := WB) (l := L) C2)
  have hg := heap_new w (.cells #[.int .i64 (p : Int), .int .i64 (q : Int)] 23) _ rfl
  rw [hWB] at hg
  have g0 : WB.cell? ⟨w.heap.size, 0, none⟩ = some (.int .i64 (p : Int)) := by rw [cell_of_row _ _ _ _ _ _ hg]; rfl
  have g1 : WB.cell? ⟨w.heap.size, 1, none⟩ = some (.int .i64 (q : Int)) := by rw [cell_of_row _ _ _ _ _ _ hg]; rfl
  have HC := Lib.hid (show CellL WB [(⟨w.heap.size, 0, none⟩, .int .i64 (p : Int)), (⟨w.heap.size, 1, none⟩, .int .i64 (q : Int))] WB from ⟨g0, g1, Below.refl _ _⟩)
  clear hx hy hv hV hX hY C1 C2 hg
  go_enter Tryd.func14, Tryd.ntmps14
  go_wp2_with fail
  clear hWB g0 g1
  refine q_region (CellL WB [(⟨w.heap.size, 0, none⟩, .int .i64 (p : Int)), (⟨w.heap.size, 1, none⟩, .int .i64 (q : Int))]) (by kernel_rfl) (by kernel_rfl) (cellL_drew HC.out) ?_
  repeat (first
    | go_big_quiet_skip
    | (go_big_quiet_want; (first
      | (refine q_take (v := ?_) ?_ ?_; rotate_left; (focus (intro w hSw; (try simp only [CellL] at hSw); go_split_ands; go_simp; (try (rw [if_neg (by omega)])); (try with_reducible rfl); done)))
      | (refine q_call (CX.out _) ?_ ?_; (focus (intro w hSw; (try simp only [CellL] at hSw); go_split_ands; go_simp; (try (rw [if_neg (by omega)])); done)))
      | (refine q_call (CY.out _) ?_ ?_; (focus (intro w hSw; (try simp only [CellL] at hSw); go_split_ands; go_simp; (try (rw [if_neg (by omega)])); done)))); (try simp only [Act.put, List.setIfInBounds_toArray, List.set_cons_zero, List.set_cons_succ]); go_big_quiet_on))
  refine wpQuiet_nil ?_
  intro w2 hw2
  have HB2 := Lib.hid (HB.out.trans ((cellL_size hw2).mono HB.out.size))
  clear hw2
  go_wp2_with fail
  go_ret
  exact ⟨vret_str HV.out, HB2.out⟩
end Go.Proofs.YtddamcmbgbefpaaDoor
