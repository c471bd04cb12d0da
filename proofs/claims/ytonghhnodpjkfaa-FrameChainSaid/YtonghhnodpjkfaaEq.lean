/-
  The document's own answer whether two lists of bytes are the same (winnowerref01.Bytes), walked.
-/
import Derived.Test.YtonghhnodpjkfaaMore
import Derived.Deep.QuietTactic
import Derived.BigQuiet
namespace Go.Proofs.Ytonghhnodpjkfaa
open Go.RowKit

def EqPost (a b : List UInt8) (w : World) (e : Ending) (w' : World) : Prop := e = .returned (.bool (decide (a = b))) ∧ ∃ n, w' = w.drewN n
theorem EqPost.no {a b : List UInt8} {w : World} {n : Nat} (h : a ≠ b) : EqPost a b w (.returned (.bool false)) (w.drewN n) := ⟨by simp [h], n, rfl⟩
theorem EqPost.yes {a b : List UInt8} {w : World} {n : Nat} (h : a = b) : EqPost a b w (.returned (.bool true)) (w.drewN n) := ⟨by simp [h], n, rfl⟩
set_option maxHeartbeats 400000 in
theorem ref_eq (A A2 : Option Addr) (c c2 n1 n2 B B2 : Nat) (a b : List UInt8) (w : World) (hn1 : n1 = a.length) (hn2 : n2 = b.length) (ha : RowAt w B A (bytes a)) (hb : RowAt w B2 A2 (bytes b)) (hl : a.length ≤ 9223372036854775807) :
    Calls Try.prog 9 #[.slice A n1 c, .slice A2 n2 c2] w (EqPost a b w) := by
  subst hn1 hn2
  by_cases hne : a.length = b.length
  · have HNE := Lib.hid hne
    have hne2 : b.length = a.length := by omega
    obtain ⟨n, hn⟩ : ∃ n, a.length = n := ⟨_, rfl⟩
    have hbn : b.length = n := by omega
    rw [hbn, hn]
    have HA := Lib.hid hn
    have HB := Lib.hid hbn
    rw [hn] at hl
    clear hne hne2 hn hbn
    go_enter Try.func9, Try.ntmps9
    go_wp2
    go_loopw [5] (fun i wr => ∃ k m : Nat, k ≤ n ∧ a.take k = b.take k ∧ i = .int .i64 k ∧ wr = w.drewN m) (fun i _ => n - (intOf i).toNat)
    case atStart => exact ⟨0, 0, by omega, rfl, rfl, rfl⟩
    case round =>
      obtain ⟨k, m, hk, heq, rfl, rfl⟩ := hrel
      have HEQ := Lib.hid heq
      clear heq
      by_cases hlt : k < n
      · obtain ⟨b1, o1, rfl, _, hc1⟩ := ha.bytes_at (by rw [HA.out]; omega)
        obtain ⟨b2, o2, rfl, _, hc2⟩ := hb.bytes_at (by rw [HB.out]; omega)
        have c1 := hc1 k (by rw [HA.out]; omega)
        have c2 := hc2 k (by rw [HB.out]; omega)
        have HT1 := Lib.hid (take_snoc_getD a k (by rw [HA.out]; omega))
        have HT2 := Lib.hid (take_snoc_getD b k (by rw [HB.out]; omega))
        have HN : Hid (a.getD k 0 ≠ b.getD k 0 → a ≠ b) := take_ne
        clear hc1 hc2
        obtain ⟨x, hx⟩ : ∃ x, a.getD k 0 = x := ⟨_, rfl⟩
        obtain ⟨y, hy⟩ : ∃ y, b.getD k 0 = y := ⟨_, rfl⟩
        rw [hx] at c1 HT1 HN
        rw [hy] at c2 HT2 HN
        clear hx hy
        by_cases hxy : x = y
        · subst hxy
          have nx : Hid (a.take (k + 1) = b.take (k + 1)) := by rw [HT1.out, HT2.out, HEQ.out]; exact rfl
          clear HN
          go_wp2
          go_quiet (fail)
          go_wp2
          go_roundw
          case rel => exact ⟨k + 1, _, by omega, nx.out, by go_num, rfl⟩
          case measure => simp [intOf]; omega
        · have fin := Lib.hid (HN.out hxy)
          have hxy' : ((x.toNat : Int) == y.toNat) = false := by
            simp only [beq_eq_false_iff_ne, ne_eq]
            intro h
            exact hxy (UInt8.toNat_inj.1 (by omega))
          clear HN hxy
          go_wp2
          go_quiet (fail)
          go_wp2
          go_ret
          exact ⟨by rw [decide_eq_false fin.out]; rfl, _, World.drewN_drewN ..⟩
      · obtain rfl : k = n := by omega
        have fin : Hid (a = b) := by
          have h := HEQ.out
          rw [List.take_of_length_le (by rw [HA.out]; omega), List.take_of_length_le (by rw [HB.out]; omega)] at h
          exact h
        go_wp2
        go_ret
        exact .yes fin.out
  · have fin : a ≠ b := fun e => hne (by rw [e])
    have FIN := Lib.hid fin
    have hne' : ((a.length : Int) == b.length) = false := by simp; omega
    clear fin hne
    go_enter Try.func9, Try.ntmps9
    go_wp2
    go_ret
    exact EqPost.no (n := 0) FIN.out
theorem eq_same (w : World) (A : Option Addr) (c n B g : Nat) (l : List UInt8) (cs : Array Value) (t : TypeId) (h : RdB w B A c l) (hg : w.heap[g]? = some (.cells cs t (0, 0))) (hl : cs.toList = bytes l) (hn : n = l.length) (hm : l.length ≤ 1000000) :
    Calls Try.prog 9 #[.slice A n c, .slice (some ⟨g, 0, none⟩) n n] w fun e w' => e = .returned (.bool true) ∧ w.grownBy w' none := by
  refine (ref_eq A (some ⟨g, 0, none⟩) c n n n B w.heap.size l l w hn hn h.row (rdB_block (n := n) hg hl hn hm).row (by omega)).mono fun e w' hp => ?_
  obtain ⟨h1, k, h2⟩ := hp
  exact ⟨by rw [h1]; simp, grown_quiet h2⟩
theorem ref_eq_same (A A2 : Option Addr) (c c2 m1 m2 B B2 : Nat) (a : List UInt8) (w : World) (hn1 : m1 = a.length) (hn2 : m2 = a.length) (ha : RowAt w B A (bytes a)) (hb : RowAt w B2 A2 (bytes a)) (hl : a.length ≤ 9223372036854775807) :
    Calls Try.prog 9 #[.slice A m1 c, .slice A2 m2 c2] w fun e w' => e = .returned (.bool true) ∧ w.grownBy w' none :=
  (ref_eq A A2 c c2 m1 m2 B B2 a a w hn1 hn2 ha hb hl).mono fun _ _ ⟨h1, _, h2⟩ => ⟨by rw [h1]; simp, grown_quiet h2⟩
end Go.Proofs.Ytonghhnodpjkfaa
