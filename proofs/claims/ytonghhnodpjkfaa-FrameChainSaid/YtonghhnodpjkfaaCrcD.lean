/-
  The walk of the document's own answer for Whole.
-/
import Derived.Test.YtonghhnodpjkfaaCrcC
namespace Go.Proofs.Ytonghhnodpjkfaa
open Go.RowKit

/-- How many bytes stand ahead of their sum; -1: they don't end in it. -/
def aheadC (l : List UInt8) : Int := if endsC l then (l.length : Int) - 4 else -1
def AheadPost (w : World) (l : List UInt8) (e : Ending) (w' : World) : Prop := e = .returned (.int .i64 (aheadC l)) ∧ Below w.heap.size w w'
theorem AheadPost.no {w w' : World} {l : List UInt8} (h : endsC l = false) (hb : Below w.heap.size w w') : AheadPost w l (.returned (.int .i64 (-1))) w' := ⟨by simp [aheadC, h], hb⟩
theorem AheadPost.yes {w w' : World} {l : List UInt8} {m : Nat} (h : endsC l = true) (hm : l.length = m + 4) (hb : Below w.heap.size w w') : AheadPost w l (.returned (.int .i64 (m : Int))) w' := by
  refine ⟨?_, hb⟩
  have : (l.length : Int) - 4 = m := by omega
  rw [aheadC, h, if_pos rfl, this]

set_option maxHeartbeats 1000000 in
set_option maxRecDepth 100000 in
theorem ref_whole (A : Option Addr) (c n B : Nat) (l : List UInt8) (w : World) (hn : n = l.length) (h : RdB w B A c l) (hB : B ≤ w.heap.size) (hm : n ≤ 1000000) :
    Calls Try.prog 25 #[.slice A n c] w (AheadPost w l) := by
  by_cases h4 : n < 4
  · have fin := Lib.hid (AheadPost.no (endsC_short (l := l) (by omega)) (Below.refl w.heap.size w))
    have hn4 : (n : Int) - 4 < 0 := by omega
    clear hn
    go_enter Try.func25, Try.ntmps25
    go_wp2
    go_ret
    exact fin.out
  · obtain ⟨m, hnm⟩ : ∃ m, n = m + 4 := ⟨n - 4, by omega⟩
    have HE := Lib.hid (endsC_is (l := l) (m := m) (by omega))
    have hroom := h.room
    have e1 : (n : Int) - 4 = (m : Int) := by omega
    have K1 := fun w : World => run_take (T := 25) (E := 5) Try.underlying25 byte_size w A n c m (by omega)
    have HN := Lib.hid hn
    have HNM := Lib.hid hnm
    have HL : Hid (l.length = m + 4) := Lib.hid (by omega)
    have hlt := sumC_lt (l.take m)
    have hr1 := h.take m
    have HT1 : Hid (m = (l.take m).length) := Lib.hid (by rw [List.length_take]; omega)
    have HT2 : Hid ((l.drop m).length = 4) := Lib.hid (by rw [List.length_drop]; omega)
    have hmx : m ≤ 1000000 := by omega
    have HD : Hid (∀ k, k < 4 → l.getD (m + k) 0 = (l.drop m).getD k 0) := by
      intro k _
      simp [List.getD]
    generalize l.take m = t1 at *
    generalize l.drop m = t2 at *
    have HTL := Lib.hid (tailC_len (sumC t1))
    clear hn hnm
    go_enter Try.func25, Try.ntmps25
    go_wp2_with fail
    refine (ref_sum A c m B t1 _ HT1.out (by omega) hr1).mono ?_; rintro e w1 ⟨rfl, rfl⟩
    go_wp2_with fail
    refine (ref_tail _ _ hlt).mono ?_; rintro e w2 ⟨v2, rfl, hown2, hb2⟩
    obtain ⟨A2, c2, rfl, hr3⟩ := hown2.read
    have hr := h.quiet (grown_of_below hb2 none) hB
    generalize tailC (sumC t1) = tl at *
    clear h hown2 hr1 hlt
    have HTL' := HTL.out
    go_wp2_with fail
    go_loopw [5] (fun i wr => ∃ k d : Nat, k ≤ 4 ∧ t2.take k = tl.take k ∧ i = .int .i64 k ∧ wr = w2.drewN d) (fun i _ => 4 - (intOf i).toNat)
    case atStart => exact ⟨0, 0, by omega, rfl, rfl, rfl⟩
    case round =>
      obtain ⟨k, d, hk, heq, rfl, rfl⟩ := hrel
      have HEQ := Lib.hid heq
      clear heq
      by_cases hlt : k < 4
      · obtain ⟨j, hj⟩ : ∃ j, m + k = j := ⟨_, rfl⟩
        have ej : (m : Int) + (k : Int) = (j : Int) := by omega
        obtain ⟨b1, o1, rfl, _, hc1⟩ := hr.row.bytes_at (by rw [HL.out]; omega)
        obtain ⟨b2, o2, rfl, _, hc2⟩ := hr3.row.bytes_at (by rw [HTL.out]; omega)
        have c1 := hc1 j (by rw [HL.out]; omega)
        have c2 := hc2 k (by rw [HTL.out]; omega)
        have hjn : j < n := by rw [HN.out, HL.out]; omega
        rw [← hj, HD.out k hlt, hj] at c1
        have HX1 := Lib.hid (take_snoc_getD t2 k (by rw [HT2.out]; omega))
        have HX2 := Lib.hid (take_snoc_getD tl k (by rw [HTL.out]; omega))
        have HNE : Hid (t2.getD k 0 ≠ tl.getD k 0 → t2 ≠ tl) := take_ne
        clear hc1 hc2 hj
        obtain ⟨x, hx⟩ : ∃ x, t2.getD k 0 = x := ⟨_, rfl⟩
        obtain ⟨y, hy⟩ : ∃ y, tl.getD k 0 = y := ⟨_, rfl⟩
        rw [hx] at c1 HX1 HNE
        rw [hy] at c2 HX2 HNE
        clear hx hy
        by_cases hxy : x = y
        · subst hxy
          have nx : Hid (t2.take (k + 1) = tl.take (k + 1)) := by rw [HX1.out, HX2.out, HEQ.out]; exact rfl
          clear HNE
          go_wp2
          go_quiet (fail)
          go_wp2
          go_roundw
          case rel => exact ⟨k + 1, _, by omega, nx.out, by go_num, rfl⟩
          case measure => simp [intOf]; omega
        · have hno : t2 ≠ tl := HNE.out hxy
          have fin : Hid (endsC l = false) := Lib.hid (by rw [HE.out]; exact decide_eq_false hno)
          have hxy' : ((x.toNat : Int) == y.toNat) = false := by
            simp only [beq_eq_false_iff_ne, ne_eq]
            intro h
            exact hxy (UInt8.toNat_inj.1 (by omega))
          clear HNE hxy hno
          go_wp2
          go_quiet (fail)
          go_wp2
          go_ret
          exact .no fin.out (below_drewN (below_drewN hb2 _) _)
      · obtain rfl : k = 4 := by omega
        have fin : Hid (endsC l = true) := Lib.hid (by
          rw [HE.out]
          refine decide_eq_true ?_
          have h := HEQ.out
          rw [List.take_of_length_le (by rw [HT2.out]; omega), List.take_of_length_le (by rw [HTL.out]; omega)] at h
          exact h)
        go_wp2
        go_ret
        exact .yes fin.out HL.out (below_drewN hb2 _)

theorem ref_whole_yes (A : Option Addr) (c n B : Nat) (l : List UInt8) (w : World) (hn : n = l.length) (h : RdB w B A c l) (hB : B ≤ w.heap.size) (hm : n ≤ 1000000) (he : endsC l = true) (m : Nat) (hnm : n = m + 4) :
    Calls Try.prog 25 #[.slice A n c] w fun e w' => e = .returned (.int .i64 (m : Int)) ∧ Below w.heap.size w w' :=
  (ref_whole A c n B l w hn h hB hm).mono fun e w' ⟨h1, h2⟩ => ⟨by rw [h1, aheadC, he, if_pos rfl]; congr 2; omega, h2⟩
theorem ref_whole_no (A : Option Addr) (c n B : Nat) (l : List UInt8) (w : World) (hn : n = l.length) (h : RdB w B A c l) (hB : B ≤ w.heap.size) (hm : n ≤ 1000000) (he : endsC l = false) :
    Calls Try.prog 25 #[.slice A n c] w fun e w' => e = .returned (.int .i64 (-1)) ∧ Below w.heap.size w w' :=
  (ref_whole A c n B l w hn h hB hm).mono fun e w' ⟨h1, h2⟩ => ⟨by rw [h1, aheadC, he]; rfl, h2⟩
end Go.Proofs.Ytonghhnodpjkfaa
