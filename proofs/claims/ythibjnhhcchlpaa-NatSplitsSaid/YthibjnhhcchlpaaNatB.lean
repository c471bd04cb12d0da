/-
  The walks of the layer of small numbers over lists: Sum, Least, and the document's own Sum.
-/
import Derived.Test.YthibjnhhcchlpaaNatA
namespace Go.Proofs.Ythibjnhhcchlpaa
open Go.RowKit

theorem sumGo_drop (most s : Int) (l : List Int) (k : Nat) (h : k < l.length) : sumGo most s (l.drop k) = if l.getD k 0 < 0 then (0, 2) else if most - s < l.getD k 0 then (0, 20) else sumGo most (s + l.getD k 0) (l.drop (k + 1)) := by
  rw [drop_cons_getD l k h, sumGo]
theorem sumGo_end (most s : Int) (l : List Int) : sumGo most s (l.drop l.length) = (s, 0) := by rw [List.drop_length]; rfl
/-- What the loop keeps: what lies together so far, and that going on from here is going on from the start. -/
def SumInv (most : Int) (l : List Int) (k : Nat) (s : Int) : Prop := sumGo most s (l.drop k) = sumGo most 0 l ∧ 0 ≤ s ∧ (s ≤ most ∨ s = 0)
theorem SumInv.start (most : Int) (l : List Int) : SumInv most l 0 0 := ⟨rfl, by omega, .inr rfl⟩
theorem SumInv.neg {most s : Int} {l : List Int} {k : Nat} (h : SumInv most l k s) (hk : k < l.length) (hx : l.getD k 0 < 0) : sumGo most 0 l = (0, 2) := by
  rw [← h.1, sumGo_drop most s l k hk, if_pos hx]
theorem SumInv.over {most s : Int} {l : List Int} {k : Nat} (h : SumInv most l k s) (hk : k < l.length) (hx : 0 ≤ l.getD k 0) (ho : most - s < l.getD k 0) : sumGo most 0 l = (0, 20) := by
  rw [← h.1, sumGo_drop most s l k hk, if_neg (by omega), if_pos ho]
theorem SumInv.next {most s : Int} {l : List Int} {k : Nat} (h : SumInv most l k s) (hk : k < l.length) (hx : 0 ≤ l.getD k 0) (ho : l.getD k 0 ≤ most - s) : SumInv most l (k + 1) (s + l.getD k 0) := by
  refine ⟨?_, by have := h.2.1; omega, .inl (by omega)⟩
  rw [← h.1, sumGo_drop most s l k hk, if_neg (by omega), if_neg (by omega)]
theorem SumInv.done {most s : Int} {l : List Int} (h : SumInv most l l.length s) : sumGo most 0 l = (s, 0) := by
  rw [← h.1, sumGo_end]

theorem ret_two {a b c d : Int} (h : (a, b) = (c, d)) : Ending.returned (.tuple #[.int .i64 a, .int .i64 b]) = .returned (.tuple #[.int .i64 c, .int .i64 d]) := by
  injection h with h1 h2; rw [h1, h2]
theorem ret_pair {p : Int × Int} {a b : Int} (h : p = (a, b)) : Ending.returned (.tuple #[.int .i64 a, .int .i64 b]) = .returned (.tuple #[.int .i64 p.1, .int .i64 p.2]) := by rw [h]
/-- Two numbers as a call's results. -/
def Pair (p : Int × Int) (w : World) (e : Ending) (w' : World) : Prop := e = .returned (.tuple #[.int .i64 p.1, .int .i64 p.2]) ∧ w = w'
theorem Pair.mk {p : Int × Int} {a b : Int} {w : World} (h : p = (a, b)) : Pair p w (.returned (.tuple #[.int .i64 a, .int .i64 b])) w := ⟨ret_pair h, rfl⟩

set_option maxHeartbeats 400000 in
theorem nat_sum_none (most : Int) (A : Option Addr) (c : Nat) (w : World) :
    Calls Try.prog 12 #[.int .i64 most, .slice A 0 c] w (Pair (sumV most []) w) := by
  by_cases h1 : most < 0
  · have hs : sumV most [] = (0, 20) := by unfold sumV; rw [if_pos ⟨h1, rfl⟩]
    rw [hs]
    clear hs
    go_enter Try.func12, Try.ntmps12
    go_wp2
    go_ret2
    exact ⟨rfl, rfl⟩
  · have hs : sumV most [] = (0, 0) := by unfold sumV; rw [if_neg (by simp [h1])]; rfl
    rw [hs]
    clear hs
    go_enter Try.func12, Try.ntmps12
    go_wp2
    go_loop [6, 18] (fun a b => a = .int .i64 0 ∧ b = .int .i64 0) (fun _ _ => 0)
    case atStart => exact ⟨rfl, rfl⟩
    case round =>
      obtain ⟨rfl, rfl⟩ := hrel
      go_wp2
      go_ret2
      exact ⟨rfl, rfl⟩

set_option maxHeartbeats 400000 in
theorem nat_sum_some (most : Int) (hm1 : -9223372036854775808 ≤ most) (hm2 : most ≤ 9223372036854775807) (b o c : Nat) (l : List Int) (w : World)
    (hpos : 0 < l.length) (hr : ∀ k, k < l.length → w.cell? ⟨b, o + k, none⟩ = some (.int .i64 (l.getD k 0))) (hall : AllI64 l) (hl : l.length ≤ 9223372036854775807) :
    Calls Try.prog 12 #[.int .i64 most, .slice (some ⟨b, o, none⟩) l.length c] w (Pair (sumV most l) w) := by
  have hne : l ≠ [] := by intro h; subst h; simp at hpos
  have hs : sumV most l = sumGo most 0 l := by unfold sumV; rw [if_neg (fun h => hne h.2)]
  rw [hs]
  clear hs
  have hnz : ((l.length : Int) == 0) = false := by simp; exact hne
  clear hne
  have HC := Lib.hid hr
  clear hr
  go_enter Try.func12, Try.ntmps12
  go_wp2
  all_goals
    go_loop [6, 18] (fun a b => ∃ (k : Nat) (s : Int), k ≤ l.length ∧ SumInv most l k s ∧ a = .int .i64 s ∧ b = .int .i64 k) (fun _ b => l.length - (intOf b).toNat)
    case atStart => exact ⟨0, 0, by omega, SumInv.start most l, rfl, rfl⟩
    case round =>
      obtain ⟨k, s, hk, inv, rfl, rfl⟩ := hrel
      by_cases hlt : k < l.length
      · have hcell := HC.out k hlt
        have hb := hall.at_ hlt
        have hs0 := inv.2.1
        have hs1 := inv.2.2
        obtain ⟨x, hx⟩ : ∃ x, l.getD k 0 = x := ⟨_, rfl⟩
        rw [hx] at hcell hb
        by_cases hneg : x < 0
        · have fin := Lib.hid (inv.neg hlt (by rw [hx]; exact hneg))
          clear hx
          go_wp2
          go_ret2
          exact Pair.mk fin.out
        · by_cases hov : most - s < x
          · have fin := Lib.hid (inv.over hlt (by rw [hx]; omega) (by rw [hx]; exact hov))
            clear hx
            go_wp2
            go_ret2
            exact Pair.mk fin.out
          · have nx := inv.next hlt (by rw [hx]; omega) (by rw [hx]; omega)
            rw [hx] at nx
            clear hx
            go_wp2
            go_round
            case rel => exact ⟨k + 1, s + x, by omega, nx, rfl, by go_num⟩
            case measure => simp [intOf]; omega
      · obtain rfl : k = l.length := by omega
        have fin := Lib.hid inv.done
        go_wp2
        go_ret2
        exact Pair.mk fin.out

theorem RowAt.ints_at {w : World} {B : Nat} {A : Option Addr} {l : List Int} (h : RowAt w B A (ints l)) (hp : 0 < l.length) :
    ∃ b o, A = some ⟨b, o, none⟩ ∧ b < B ∧ ∀ k, k < l.length → w.cell? ⟨b, o + k, none⟩ = some (.int .i64 (l.getD k 0)) := by
  rcases h with h | ⟨b, o, h1, h2, h3⟩
  · have : l = [] := by simpa [ints] using h
    subst this; simp at hp
  · exact ⟨b, o, h1, h2, fun k hk => h3 k _ (ints_get hk)⟩

theorem nat_sum (most : Int) (hm1 : -9223372036854775808 ≤ most) (hm2 : most ≤ 9223372036854775807) (A : Option Addr) (n c B : Nat) (l : List Int) (w : World)
    (hn : n = l.length) (hr : RowAt w B A (ints l)) (hall : AllI64 l) (hl : n ≤ 9223372036854775807) :
    Calls Try.prog 12 #[.int .i64 most, .slice A n c] w (Pair (sumV most l) w) := by
  subst hn
  rcases Nat.eq_zero_or_pos l.length with h | h
  · have : l = [] := List.eq_nil_of_length_eq_zero h
    subst this
    exact nat_sum_none most A c w
  · obtain ⟨b, o, rfl, _, hc⟩ := hr.ints_at h
    exact nat_sum_some most hm1 hm2 b o c l w h hc hall hl

set_option maxHeartbeats 400000 in
theorem ref_sum_none (most : Int) (A : Option Addr) (c : Nat) (w : World) :
    Calls Try.prog 13 #[.int .i64 most, .slice A 0 c] w (Pair (sumV most []) w) := by
  by_cases h1 : most < 0
  · have hs : sumV most [] = (0, 20) := by unfold sumV; rw [if_pos ⟨h1, rfl⟩]
    rw [hs]
    clear hs
    go_enter Try.func13, Try.ntmps13
    go_wp2
    go_ret2
    exact ⟨rfl, rfl⟩
  · have hs : sumV most [] = (0, 0) := by unfold sumV; rw [if_neg (by simp [h1])]; rfl
    rw [hs]
    clear hs
    go_enter Try.func13, Try.ntmps13
    go_wp2
    go_loop [6, 7] (fun a b => a = .int .i64 most ∧ b = .int .i64 0) (fun _ _ => 0)
    case atStart => exact ⟨rfl, rfl⟩
    case round =>
      obtain ⟨rfl, rfl⟩ := hrel
      go_wp2
      go_ret2
      exact Pair.mk (by simp)

set_option maxHeartbeats 400000 in
theorem ref_sum_some (most : Int) (hm1 : -9223372036854775808 ≤ most) (hm2 : most ≤ 9223372036854775807) (b o c : Nat) (l : List Int) (w : World)
    (hpos : 0 < l.length) (hr : ∀ k, k < l.length → w.cell? ⟨b, o + k, none⟩ = some (.int .i64 (l.getD k 0))) (hall : AllI64 l) (hl : l.length ≤ 9223372036854775807) :
    Calls Try.prog 13 #[.int .i64 most, .slice (some ⟨b, o, none⟩) l.length c] w (Pair (sumV most l) w) := by
  have hne : l ≠ [] := by intro h; subst h; simp at hpos
  have hs : sumV most l = sumGo most 0 l := by unfold sumV; rw [if_neg (fun h => hne h.2)]
  rw [hs]
  clear hs
  have hnz : ((l.length : Int) == 0) = false := by simp; exact hne
  clear hne
  have HC := Lib.hid hr
  clear hr
  go_enter Try.func13, Try.ntmps13
  go_wp2
  go_loop [6, 7] (fun a b => ∃ (k : Nat) (s : Int), k ≤ l.length ∧ SumInv most l k s ∧ a = .int .i64 (most - s) ∧ b = .int .i64 k) (fun _ b => l.length - (intOf b).toNat)
  case atStart => exact ⟨0, 0, by omega, SumInv.start most l, by simp, rfl⟩
  case round =>
    obtain ⟨k, s, hk, inv, rfl, rfl⟩ := hrel
    by_cases hlt : k < l.length
    · have hcell := HC.out k hlt
      have hb := hall.at_ hlt
      have hs0 := inv.2.1
      have hs1 := inv.2.2
      obtain ⟨x, hx⟩ : ∃ x, l.getD k 0 = x := ⟨_, rfl⟩
      rw [hx] at hcell hb
      by_cases hneg : x < 0
      · have fin := Lib.hid (inv.neg hlt (by rw [hx]; exact hneg))
        clear hx
        go_wp2
        go_ret2
        exact Pair.mk fin.out
      · by_cases hov : most - s < x
        · have fin := Lib.hid (inv.over hlt (by rw [hx]; omega) (by rw [hx]; exact hov))
          clear hx
          go_wp2
          go_ret2
          exact Pair.mk fin.out
        · have nx := inv.next hlt (by rw [hx]; omega) (by rw [hx]; omega)
          rw [hx] at nx
          clear hx
          go_wp2
          go_round
          case rel => exact ⟨k + 1, s + x, by omega, nx, by go_num, by go_num⟩
          case measure => simp [intOf]; omega
    · obtain rfl : k = l.length := by omega
      have hs0 := inv.2.1
      have hs1 := inv.2.2
      have fin := Lib.hid inv.done
      go_wp2
      go_ret2
      exact Pair.mk (by rw [fin.out]; congr 1; omega)

theorem ref_sum (most : Int) (hm1 : -9223372036854775808 ≤ most) (hm2 : most ≤ 9223372036854775807) (A : Option Addr) (n c B : Nat) (l : List Int) (w : World)
    (hn : n = l.length) (hr : RowAt w B A (ints l)) (hall : AllI64 l) (hl : n ≤ 9223372036854775807) :
    Calls Try.prog 13 #[.int .i64 most, .slice A n c] w (Pair (sumV most l) w) := by
  subst hn
  rcases Nat.eq_zero_or_pos l.length with h | h
  · have : l = [] := List.eq_nil_of_length_eq_zero h
    subst this
    exact ref_sum_none most A c w
  · obtain ⟨b, o, rfl, _, hc⟩ := hr.ints_at h
    exact ref_sum_some most hm1 hm2 b o c l w h hc hall hl

/-- What the loop keeps: the least of those before is the least so far. -/
def LeastInv (l : List Int) (k : Nat) (m : Int) : Prop := leastGo m (l.drop (k + 1)) = leastV l ∧ -9223372036854775808 ≤ m ∧ m ≤ 9223372036854775807
theorem LeastInv.start (l : List Int) (h : 0 < l.length) (hall : AllI64 l) : LeastInv l 0 (l.getD 0 0) := by
  cases l with
  | nil => simp at h
  | cons x r => exact ⟨rfl, (hall.at_ (k := 0) h)⟩
theorem LeastInv.next {l : List Int} {k : Nat} {m : Int} (h : LeastInv l k m) (hk : k + 1 < l.length) (hall : AllI64 l) : LeastInv l (k + 1) (min m (l.getD (k + 1) 0)) := by
  obtain ⟨h1, h2⟩ := h
  rw [drop_cons_getD l (k + 1) hk, leastGo] at h1
  have := hall.at_ hk
  exact ⟨h1, by omega⟩
theorem LeastInv.done {l : List Int} {k : Nat} {m : Int} (h : LeastInv l k m) (hk : k + 1 = l.length) : leastV l = m := by
  rw [← h.1, hk, List.drop_length]; rfl

set_option maxHeartbeats 400000 in
theorem nat_least_some (b o c : Nat) (l : List Int) (w : World)
    (hpos : 0 < l.length) (hr : ∀ k, k < l.length → w.cell? ⟨b, o + k, none⟩ = some (.int .i64 (l.getD k 0))) (hall : AllI64 l) (hl : l.length ≤ 9223372036854775807) (hc : l.length ≤ c) :
    Calls Try.prog 9 #[.slice (some ⟨b, o, none⟩) l.length c] w fun e w' => e = .returned (.int .i64 (leastV l)) ∧ w = w' := by
  have hnz : ((l.length : Int) == 0) = false := by simp; intro h; subst h; simp at hpos
  have hc0 := hr 0 hpos
  rw [Nat.add_zero] at hc0
  have HC := Lib.hid hr
  clear hr
  have st := LeastInv.start l hpos hall
  obtain ⟨x, hx⟩ : ∃ x, l.getD 0 0 = x := ⟨_, rfl⟩
  rw [hx] at hc0 st
  clear hx
  by_cases hcap : c = 1
  · subst hcap
    have fin := Lib.hid (st.done (by omega))
    go_enter Try.func9, Try.ntmps9
    go_wp2
    go_loop [3, 15] (fun a b => a = .int .i64 x ∧ b = .int .i64 0) (fun _ _ => 0)
    case atStart => exact ⟨rfl, rfl⟩
    case round =>
      obtain ⟨rfl, rfl⟩ := hrel
      go_wp2
      go_ret
      exact ⟨ret_int fin.out.symm, rfl⟩
  · go_enter Try.func9, Try.ntmps9
    go_wp2
    go_loop [3, 15] (fun a b => ∃ (k : Nat) (m : Int), k + 1 ≤ l.length ∧ LeastInv l k m ∧ a = .int .i64 m ∧ b = .int .i64 k) (fun _ b => l.length - (intOf b).toNat)
    case atStart => exact ⟨0, x, by omega, st, rfl, rfl⟩
    case round =>
      obtain ⟨k, m, hk, inv, rfl, rfl⟩ := hrel
      by_cases hlt : k < l.length - 1
      · have hcell := HC.out (k + 1) (by omega)
        rw [show o + (k + 1) = o + 1 + k by omega] at hcell
        have nx := inv.next (by omega) hall
        obtain ⟨y, hy⟩ : ∃ y, l.getD (k + 1) 0 = y := ⟨_, rfl⟩
        rw [hy] at hcell nx
        clear hy
        go_wp2
        go_round
        case rel => exact ⟨k + 1, min m y, by omega, nx, rfl, by go_num⟩
        case measure => simp [intOf]; omega
      · have fin := Lib.hid (inv.done (by omega))
        go_wp2
        go_ret
        exact ⟨ret_int fin.out.symm, rfl⟩

set_option maxHeartbeats 400000 in
theorem nat_least_none (A : Option Addr) (c : Nat) (w : World) :
    Calls Try.prog 9 #[.slice A 0 c] w fun e w' => e = .returned (.int .i64 (leastV [])) ∧ w = w' := by
  go_enter Try.func9, Try.ntmps9
  go_wp2
  go_ret
  exact ⟨rfl, rfl⟩

theorem nat_least (A : Option Addr) (n c B : Nat) (l : List Int) (w : World)
    (hn : n = l.length) (hr : RowAt w B A (ints l)) (hall : AllI64 l) (hl : n ≤ 9223372036854775807) (hc : n ≤ c) :
    Calls Try.prog 9 #[.slice A n c] w fun e w' => e = .returned (.int .i64 (leastV l)) ∧ w = w' := by
  subst hn
  rcases Nat.eq_zero_or_pos l.length with h | h
  · have : l = [] := List.eq_nil_of_length_eq_zero h
    subst this
    exact nat_least_none A c w
  · obtain ⟨b, o, rfl, _, hcell⟩ := hr.ints_at h
    exact nat_least_some b o c l w h hcell hall hl hc
end Go.Proofs.Ythibjnhhcchlpaa
