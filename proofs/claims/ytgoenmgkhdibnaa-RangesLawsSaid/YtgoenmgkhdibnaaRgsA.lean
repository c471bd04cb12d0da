/-
  Layer 8 (ranges), the document's words: which texts a list has; is it right; is a text of what is meant.
-/
import Derived.Test.YtgoenmgkhdibnaaRgs
import Derived.Test.YtgoenmgkhdibnaaRgsSets
import Derived.Test.YtgoenmgkhdibnaaSpanB
import Derived.Deep.RegionHeld3
namespace Go.Proofs.Ytgoenmgkhdibnaa
open Go.RowKit

theorem rd_max {P : Program} {α : Type} {k : Kind P α} {w : World} {B : Nat} {A : Option Addr} {c n : Nat} {l : List α} (h : k.Rd w B A c l) (hn : n = l.length) : n ≤ 9223372036854775807 := by
  have h1 := h.room
  have h2 := h.cap
  unfold maxLen at h2
  omega
set_option maxHeartbeats 400000 in
theorem ref_lhas (A : Option Addr) (c n : Nat) (l : List Rng) (s : List UInt8) (U : ByteArray) (hn : n = l.length) (hU : str s = U) (hs : s.length ≤ 1000000) (v : Bool) (hv : hasL l s = v) (w : World) (hr : kRng.Rd w w.heap.size A c l) :
    Calls Try.prog 13 #[.slice A n c, .string U] w fun e w' => e = .returned (.bool v) ∧ Below w.heap.size w w' := by
  have HN := Lib.hid hn
  have HR := Lib.hid hr
  have hmx : n ≤ 9223372036854775807 := by exact rd_max hr hn
  have hcx : n ≤ c := by rw [hn]; exact hr.room
  subst hv
  clear hn hr
  go_enter Try.func13, Try.ntmps13
  go_wp2_with fail
  go_loopw [5] (fun i wr => ∃ k : Nat, k ≤ n ∧ Hid (hasL l s = hasL (l.drop k) s) ∧ i = .int .i64 k ∧ Below w.heap.size w wr) (fun i _ => n - (intOf i).toNat)
  case atStart => exact ⟨0, by omega, rfl, rfl, Below.refl _ _⟩
  case round =>
    obtain ⟨k, hk, HL, rfl, hb⟩ := hrel
    by_cases hlt : k < n
    · obtain ⟨r, hg, hd, -⟩ := get_some (l := l) (k := k) (by have := HN.out; omega)
      obtain ⟨b, o, rfl, hb1, hcell⟩ := rngs_at (HR.out.below hb) (by have := HN.out; omega)
      obtain ⟨c0, c1, c2⟩ := hcell k r hg
      obtain ⟨d, hdv⟩ : ∃ d, hasR r s = d := ⟨_, rfl⟩
      have C := fun w => Lib.hid (ref_has r s _ _ U _ d (IsR.mk' r) hU hs hdv w)
      have HL2 := Lib.hid (HL.out.trans (by rw [hd, hasL_cons, hdv]))
      clear hcell hg hd hdv
      obtain ⟨S, hS⟩ : ∃ S, str r.lo = S := ⟨_, rfl⟩
      obtain ⟨T, hT⟩ : ∃ T, str r.hi = T := ⟨_, rfl⟩
      obtain ⟨q, hq⟩ : ∃ q, r.op = q := ⟨_, rfl⟩
      rw [hS, hT, hq] at C
      rw [hS] at c0
      rw [hT] at c1
      rw [hq] at c2
      clear hS hT hq
      cases d
      · go_wp2_with ((with_reducible refine (C _).out.mono ?_); rintro e w2 ⟨rfl, hq⟩; replace hb := hb.trans (hq.mono hb.size); clear hq)
        go_roundw
        case rel => exact ⟨k + 1, by omega, HL2, by go_num, hb⟩
        case measure => simp [intOf]; omega
      · go_wp2_with ((with_reducible refine (C _).out.mono ?_); rintro e w2 ⟨rfl, hq⟩; replace hb := hb.trans (hq.mono hb.size); clear hq)
        go_ret
        exact ⟨ret_bool HL2.out.symm, hb⟩
    · have HL2 := Lib.hid (HL.out.trans (show hasL (l.drop k) s = false by rw [List.drop_eq_nil_of_le (by have := HN.out; omega)]; rfl))
      go_wp2_with fail
      go_ret
      exact ⟨ret_bool HL2.out.symm, hb⟩
theorem lhas_is (A : Option Addr) (c n : Nat) (l : List Rng) (s : List UInt8) (U : ByteArray) (hn : n = l.length) (hU : str s = U) (hs : s.length ≤ 1000000) (v : Bool) (hv : hasL l s = v) (w0 w : World) (hr : kRng.Rd w0 w0.heap.size A c l) (hb : Below w0.heap.size w0 w) :
    Calls Try.prog 13 #[.slice A n c, .string U] w fun e w' => e = .returned (.bool v) ∧ Below w0.heap.size w0 w' :=
  (ref_lhas A c n l s U hn hU hs v hv w ((hr.below hb).more hb.size)).mono fun _ _ ⟨h1, h2⟩ => ⟨h1, hb.trans (h2.mono hb.size)⟩
set_option maxHeartbeats 400000 in
theorem ref_in (op : Int) (A B : Option Addr) (c d n m : Nat) (a b : List Rng) (s : List UInt8) (U : ByteArray) (hn : n = a.length) (hm : m = b.length) (hU : str s = U) (hs : s.length ≤ 1000000) (v : Bool) (hv : inV op a b s = v) (w : World)
    (ha : kRng.Rd w w.heap.size A c a) (hb : kRng.Rd w w.heap.size B d b) :
    Calls Try.prog 37 #[.int .i64 op, .slice A n c, .slice B m d, .string U] w fun e w' => e = .returned (.bool v) ∧ Below w.heap.size w w' := by
  obtain ⟨x, hx⟩ : ∃ x, hasL a s = x := ⟨_, rfl⟩
  obtain ⟨y, hy⟩ : ∃ y, hasL b s = y := ⟨_, rfl⟩
  have C1 := fun w' h => Lib.hid (lhas_is A c n a s U hn hU hs x hx w w' ha h)
  have C2 := fun w' h => Lib.hid (lhas_is B d m b s U hm hU hs y hy w w' hb h)
  have hb0 := Lib.hid (Below.refl w.heap.size w)
  unfold inV at hv
  rw [hx, hy] at hv
  unfold gV at hv
  clear hx hy hn hm hU hs ha hb
  by_cases h1 : op = 1
  · subst h1
    obtain rfl : v = (x || y) := hv.symm
    clear hv
    cases x <;> cases y
    all_goals
      go_enter Try.func37, Try.ntmps37
      go_wp2_with (first | ((with_reducible refine (C1 _ hb0.out).out.mono ?_); rintro e w1 ⟨rfl, hq⟩; replace hb0 := Lib.hid hq; clear hq) | ((with_reducible refine (C2 _ hb0.out).out.mono ?_); rintro e w1 ⟨rfl, hq⟩; replace hb0 := Lib.hid hq; clear hq))
      go_ret
      exact ⟨rfl, hb0.out⟩
  · by_cases h2 : op = 2
    · subst h2
      obtain rfl : v = (x && y) := hv.symm
      clear hv h1
      cases x <;> cases y
      all_goals
        go_enter Try.func37, Try.ntmps37
        go_wp2_with (first | ((with_reducible refine (C1 _ hb0.out).out.mono ?_); rintro e w1 ⟨rfl, hq⟩; replace hb0 := Lib.hid hq; clear hq) | ((with_reducible refine (C2 _ hb0.out).out.mono ?_); rintro e w1 ⟨rfl, hq⟩; replace hb0 := Lib.hid hq; clear hq))
        go_ret
        exact ⟨rfl, hb0.out⟩
    · by_cases h3 : op = 3
      · subst h3
        obtain rfl : v = (x && !y) := hv.symm
        clear hv h1 h2
        cases x <;> cases y
        all_goals
          go_enter Try.func37, Try.ntmps37
          go_wp2_with (first | ((with_reducible refine (C1 _ hb0.out).out.mono ?_); rintro e w1 ⟨rfl, hq⟩; replace hb0 := Lib.hid hq; clear hq) | ((with_reducible refine (C2 _ hb0.out).out.mono ?_); rintro e w1 ⟨rfl, hq⟩; replace hb0 := Lib.hid hq; clear hq))
          go_ret
          exact ⟨rfl, hb0.out⟩
      · obtain rfl : v = (!x && !y) := by rw [← hv, decide_eq_false h1, decide_eq_false h2, decide_eq_false h3]
        have g1 : (op == 1) = false := beq_eq_false_iff_ne.2 h1
        have g2 : (op == 2) = false := beq_eq_false_iff_ne.2 h2
        have g3 : (op == 3) = false := beq_eq_false_iff_ne.2 h3
        clear hv h1 h2 h3
        cases x <;> cases y
        all_goals
          go_enter Try.func37, Try.ntmps37
          go_wp2_with (first | ((with_reducible refine (C1 _ hb0.out).out.mono ?_); rintro e w1 ⟨rfl, hq⟩; replace hb0 := Lib.hid hq; clear hq) | ((with_reducible refine (C2 _ hb0.out).out.mono ?_); rintro e w1 ⟨rfl, hq⟩; replace hb0 := Lib.hid hq; clear hq))
          go_ret
          exact ⟨rfl, hb0.out⟩
end Go.Proofs.Ytgoenmgkhdibnaa
