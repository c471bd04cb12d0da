/-
  Layer 12 (version), the document's words: versions as values; is one right, is one ahead, is one among some; a number's digits, a version's text.
-/
import Derived.Test.YtddamcmbgbefpaaDoorRng
import Derived.Test.YtddamcmbgbefpaaDoorKind
import Derived.Test.YtddamcmbgbefpaaDoorQuiet
import Derived.Test.YtddamcmbgbefpaaDoorVrPure
import Derived.BigQuiet
namespace Go.Proofs.YtddamcmbgbefpaaDoor
open Go.RowKit

def vrCells (v : Vr) : List Value := [.int .i64 v.rep, .int .i64 v.cnt]
noncomputable def kVr : Kind Tryd.prog Vr where
  ty := 35
  el := 23
  size := 2
  bytes := 16
  zero := .agg #[.int .i64 0, .int .i64 0]
  cells := vrCells
  len := fun _ => rfl
  one := fun r u hu => by simp [vrCells] at hu; rcases hu with rfl | rfl <;> rfl
  pos := by decide
  under := Tryd.underlying35
  info := by kernel_rfl
  zsize := rfl
theorem vrs_at {w : World} {B : Nat} {A : Option Addr} {c : Nat} {l : List Vr} (h : kVr.Rd w B A c l) (hp : 0 < l.length) :
    ∃ b o, A = some ⟨b, o, none⟩ ∧ b < B ∧ ∀ k v, l[k]? = some v → w.cell? ⟨b, o + k * 2, none⟩ = some (.int .i64 v.rep) ∧ w.cell? ⟨b, o + k * 2 + 1, none⟩ = some (.int .i64 v.cnt) := by
  obtain ⟨b, o, h1, h2, h3⟩ := h.at_ hp
  exact ⟨b, o, h1, h2, fun k n hn => ⟨h3 k n hn 0 _ rfl, h3 k n hn 1 _ rfl⟩⟩
theorem eq_vr (i j k m : Int) (q : Bool) (hq : (i == k && j == m) = q) (w : World) :
    (Op.equalIn 10000 23 (.agg #[.int .i64 i, .int .i64 j]) (.agg #[.int .i64 k, .int .i64 m])).run Tryd.prog w = .ok q w := by
  subst hq
  have u2 := Tryd.underlying3
  have a2 := Tryd.isAgg3
  have z2 := Tryd.sizeOf3
  have hS : Tryd.prog.underlying 23 = some (.struct (Tryd.prog.fieldsOf 23)) := by kernel_rfl
  have hp : Tryd.prog.stoodInHeld 23 = false := by kernel_rfl
  rw [show (10000 : Nat) = 9999 + 1 from rfl, run_equalIn_agg w 9999 23 _ _ hS hp]
  simp only [Program.fieldsOf, Tryd.underlying23]
  go_simp
  by_cases h1 : i = k <;> by_cases h2 : j = m <;> simp [h1, h2]
theorem ref_vrright (v : Vr) (x y : Int) (hx : v.rep = x) (hy : v.cnt = y) (z : Bool) (hz : rightVr v = z) (w : World) :
    Calls Tryd.prog 10 #[.agg #[.int .i64 x, .int .i64 y]] w fun e w' => e = .returned (.bool z) ∧ Below w.heap.size w w' := by
  unfold rightVr at hz
  rw [hx, hy] at hz
  have HB := Lib.hid (below_new w (.cells #[.int .i64 x, .int .i64 y] 23))
  obtain ⟨b1, h1⟩ : ∃ b, decide (1 ≤ x) = b := ⟨_, rfl⟩
  obtain ⟨b2, h2⟩ : ∃ b, decide (x ≤ 16) = b := ⟨_, rfl⟩
  obtain ⟨b3, h3⟩ : ∃ b, decide (1 ≤ y) = b := ⟨_, rfl⟩
  obtain ⟨b4, h4⟩ : ∃ b, decide (y ≤ 1099511627776) = b := ⟨_, rfl⟩
  rw [h1, h2, h3, h4] at hz
  subst hz
  clear hx hy
  cases b1
  case' true =>
    cases b2
    case' true =>
      cases b3
      case' true =>
        cases b4
  all_goals
    go_enter Tryd.func10, Tryd.ntmps10
    go_wp2_with fail
    go_ret
    exact ⟨rfl, HB.out⟩
theorem ref_vrless (a b : Vr) (x y u v : Int) (hx : a.rep = x) (hy : a.cnt = y) (hu : b.rep = u) (hv : b.cnt = v) (z : Bool) (hz : lessVr a b = z) (w : World) :
    Calls Tryd.prog 8 #[.agg #[.int .i64 x, .int .i64 y], .agg #[.int .i64 u, .int .i64 v]] w fun e w' => e = .returned (.bool z) ∧ Below w.heap.size w w' := by
  unfold lessVr at hz
  rw [hx, hy, hu, hv] at hz
  have HB := Lib.hid ((below_new w (.cells #[.int .i64 x, .int .i64 y] 23)).alloc (by simp) (.cells #[.int .i64 u, .int .i64 v] 23))
  obtain ⟨b1, h1⟩ : ∃ b, decide (x < u) = b := ⟨_, rfl⟩
  obtain ⟨b2, h2⟩ : ∃ b, (x == u) = b := ⟨_, rfl⟩
  obtain ⟨b3, h3⟩ : ∃ b, decide (y < v) = b := ⟨_, rfl⟩
  have h2' : decide (x = u) = b2 := by rw [← h2]; rfl
  rw [h1, h2', h3] at hz
  subst hz
  clear hx hy hu hv h2'
  cases b1
  case' false =>
    cases b2
    case' true =>
      cases b3
  all_goals
    go_enter Tryd.func8, Tryd.ntmps8
    go_wp2_with fail
    go_ret
    exact ⟨rfl, HB.out⟩
theorem hasVr_cons (x v : Vr) (l : List Vr) : hasVr (x :: l) v = ((x.rep == v.rep && x.cnt == v.cnt) || hasVr l v) := rfl
set_option maxHeartbeats 1000000 in
theorem ref_vrhas (A : Option Addr) (c n : Nat) (l : List Vr) (v : Vr) (x y : Int) (hx : v.rep = x) (hy : v.cnt = y) (hn : n = l.length) (z : Bool) (hz : hasVr l v = z) (w : World) (hr : kVr.Rd w w.heap.size A c l) :
    Calls Tryd.prog 16 #[.slice A n c, .agg #[.int .i64 x, .int .i64 y]] w fun e w' => e = .returned (.bool z) ∧ Below w.heap.size w w' := by
  have HB := Lib.hid (below_new w (.cells #[.int .i64 x, .int .i64 y] 23))
  have HN := Lib.hid hn
  have HR := Lib.hid (hr.call HB.out)
  have hmx : n ≤ 9223372036854775807 := by
    have h1 := hr.room; have h2 := hr.cap; unfold maxLen at h2; omega
  have hcx : n ≤ c := by rw [hn]; exact hr.room
  have HZ := Lib.hid hz
  have hg := heap_new w (.cells #[.int .i64 x, .int .i64 y] 23) _ rfl
  obtain ⟨WB, hWB⟩ : ∃ WB, w.alloc (.cells #[.int .i64 x, .int .i64 y] 23) = WB := ⟨_, rfl⟩
  rw [hWB] at hg HB HR
  have g0 : WB.cell? ⟨w.heap.size, 0, none⟩ = some (.int .i64 x) := by rw [cell_of_row _ _ _ _ _ _ hg]; rfl
  have g1 : WB.cell? ⟨w.heap.size, 1, none⟩ = some (.int .i64 y) := by rw [cell_of_row _ _ _ _ _ _ hg]; rfl
  clear hn hr hz hg
  go_enter Tryd.func16, Tryd.ntmps16
  go_wp2_with fail
  go_loopw [5] (fun i wr => ∃ k q : Nat, k ≤ n ∧ Hid (hasVr l v = hasVr (l.drop k) v) ∧ i = .int .i64 k ∧ wr = WB.drewN q) (fun i _ => n - (intOf i).toNat)
  case atStart => exact ⟨0, 0, by omega, rfl, rfl, rfl⟩
  case round =>
    obtain ⟨k, q, hk, HL, rfl, rfl⟩ := hrel
    by_cases hlt : k < n
    · obtain ⟨r, hg, hd, -⟩ : ∃ r, l[k]? = some r ∧ l.drop k = r :: l.drop (k + 1) ∧ r ∈ l := by
        have hk' : k < l.length := by have := HN.out; omega
        exact ⟨l[k], List.getElem?_eq_getElem hk', List.drop_eq_getElem_cons hk', List.getElem_mem hk'⟩
      obtain ⟨b, o, rfl, hb1, hcell⟩ := vrs_at HR.out (by have := HN.out; omega)
      obtain ⟨c0, c1⟩ := hcell k r hg
      obtain ⟨d, hdv⟩ : ∃ d, (r.rep == x && r.cnt == y) = d := ⟨_, rfl⟩
      have EQ := fun w => eq_vr r.rep r.cnt x y d hdv w
      have HL2 := Lib.hid (HL.out.trans (show hasVr (l.drop k) v = (d || hasVr (l.drop (k + 1)) v) by rw [hd, hasVr_cons, hx, hy, hdv]))
      have hk0 : (0 : Int) ≤ (k : Int) := by omega
      have hkn : (k : Int) < (n : Int) := by omega
      obtain ⟨X, hX⟩ : ∃ X, r.rep = X := ⟨_, rfl⟩
      obtain ⟨Y, hY⟩ : ∃ Y, r.cnt = Y := ⟨_, rfl⟩
      rw [hX, hY] at EQ
      rw [hX] at c0
      rw [hY] at c1
      clear hcell hg hd hX hY hdv HL
      cases d
      · go_wp2_with fail
        go_quiet (fail)
        go_wp2_with fail
        go_roundw
        case rel => exact ⟨k + 1, _, by omega, HL2, by go_num, rfl⟩
        case measure => simp [intOf]; omega
      · go_wp2_with fail
        go_quiet (fail)
        go_wp2_with fail
        go_ret
        exact ⟨ret_bool (HL2.out.symm.trans HZ.out), below_drewN (below_drewN HB.out _) _⟩
    · have HL2 := Lib.hid (HL.out.trans (show hasVr (l.drop k) v = false by rw [List.drop_eq_nil_of_le (by have := HN.out; omega)]; rfl))
      go_wp2_with fail
      go_ret
      exact ⟨ret_bool (HL2.out.symm.trans HZ.out), below_drewN HB.out _⟩
end Go.Proofs.YtddamcmbgbefpaaDoor
