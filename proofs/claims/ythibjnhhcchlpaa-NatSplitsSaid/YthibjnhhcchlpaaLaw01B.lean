/-
  The walk of the first layer's law on sums in two goes.
-/
import Derived.Test.YthibjnhhcchlpaaLaw01
import Derived.Test.YthibjnhhcchlpaaAppend
namespace Go.Proofs.Ythibjnhhcchlpaa
open Go.RowKit

theorem sumV_pos (most : Int) (l : List Int) (h : 0 ≤ most) : sumV most l = sumGo most 0 l := by unfold sumV; rw [if_neg (by omega)]
theorem sumV_two_bad (most : Int) (a b : List Int) (h : 0 ≤ most) (n e : Int) (he : e ≠ 0) (hs : sumV most a = (n, e)) : n = 0 ∧ sumV most (a ++ b) = (0, e) := by
  rw [sumV_pos most _ h] at hs ⊢
  have ok := (sumGo_ok most a 0 (by omega) h).2.2
  rw [hs] at ok
  have hn := ok he
  subst hn
  rw [sumGo_append, hs, if_neg he]
  exact ⟨rfl, rfl⟩
theorem sumV_two_ok (most : Int) (a b : List Int) (h : 0 ≤ most) (n m g : Int) (hs : sumV most a = (n, 0)) (ht : sumV (most - n) b = (m, g)) :
    0 ≤ n ∧ n ≤ most ∧ 0 ≤ m ∧ m ≤ most - n ∧ (g = 0 ∨ g = 2 ∨ g = 20) ∧ (g = 0 → sumV most (a ++ b) = (n + m, 0)) ∧ (g ≠ 0 → sumV most (a ++ b) = (0, g)) := by
  rw [sumV_pos most _ h] at hs
  rw [sumV_pos most _ h]
  have ok := sumGo_ok most a 0 (by omega) h
  rw [hs] at ok
  have hn0 : 0 ≤ n := ok.1
  have hn1 : n ≤ most := ok.2.1
  rw [sumV_pos _ _ (by omega)] at ht
  have ok2 := sumGo_ok (most - n) b 0 (by omega) (by omega)
  have cd := sumGo_code (most - n) b 0
  have sh := sumGo_shift most b 0 n
  rw [ht] at ok2 cd sh
  rw [Int.zero_add] at sh
  refine ⟨hn0, hn1, ok2.1, ok2.2.1, cd, fun hg => ?_, fun hg => ?_⟩
  · rw [sumGo_append, hs, if_pos rfl]
    subst hg
    show sumGo most n b = _
    by_cases hc : (sumGo most n b).2 = 0
    · rw [if_pos hc] at sh
      injection sh with s1 s2
      rw [← hc]
      have : (sumGo most n b).1 = n + m := by omega
      rw [← this]
    · rw [if_neg hc] at sh
      rw [← sh] at hc
      exact absurd rfl hc
  · rw [sumGo_append, hs, if_pos rfl]
    show sumGo most n b = _
    by_cases hc : (sumGo most n b).2 = 0
    · rw [if_pos hc] at sh
      injection sh with s1 s2
      exact absurd s2 hg
    · rw [if_neg hc] at sh
      have hm := ok2.2.2 hg
      rw [← sh]
      simp at hm
      rw [hm]

theorem int_info : (Try.prog.info? 3).map (fun i => (i.zero, i.size, i.bytes)) = some (some (.int .i64 0), 1, 8) := by kernel_rfl
theorem ints_len (l : List Int) : (ints l).length = l.length * 1 := by simp
theorem ints_one (l : List Int) : ∀ u ∈ ints l, u.oneCell' = true := by
  intro u hu
  obtain ⟨x, _, rfl⟩ := List.mem_map.1 hu
  rfl
theorem allI64_append {a b : List Int} (ha : AllI64 a) (hb : AllI64 b) : AllI64 (a ++ b) := by
  intro x hx
  rcases List.mem_append.1 hx with h | h
  · exact ha x h
  · exact hb x h

theorem own_none (w : World) (e : TypeId) (size : Nat) : (w.alloc (.cells #[] e)).ownsRow w.heap.size e size (.slice (some ⟨w.heap.size, 0, none⟩) 0 0) 0 [] :=
  ⟨by simp, .inr ⟨w.heap.size, 0, #[], rfl, Nat.le_refl _, heap_alloc_new w _, Nat.le_refl _, Nat.zero_le _, by simp, by simp⟩⟩
theorem own_base {w : World} {base : Nat} {e : TypeId} {size n : Nat} {v : Value} {xs : List Value} (h : w.ownsRow base e size v n xs) : ∀ k, v.ownBlock = some k → base ≤ k := by
  intro k hk
  rcases h.2 with ⟨rfl, _⟩ | ⟨g, cap, cur, rfl, hb, _⟩
  · simp [Value.ownBlock] at hk
  · simp [Value.ownBlock] at hk
    omega
theorem own_above {B g n c : Nat} (h : B ≤ g) : ∀ k, (Value.slice (some ⟨g, 0, none⟩) n c).ownBlock = some k → B ≤ k := by
  intro k hk
  simp [Value.ownBlock] at hk
  omega

set_option maxHeartbeats 1000000 in
/-- The walk up to the second sum, whatever the sums come to: K says what is left to show of the rest. -/
theorem natSplits_ok (most : Int) (h1 : 0 ≤ most) (h2 : most ≤ 9223372036854775807) (A B : Option Addr) (c d : Nat) (la lb : List Int) (w : World)
    (hra : RowAt w w.heap.size A (ints la)) (halla : AllI64 la) (hna : la.length ≤ 100) (hrb : RowAt w w.heap.size B (ints lb)) (hallb : AllI64 lb) (hnb : lb.length ≤ 100)
    (n e x f m g : Int) (hA : sumV most la = (n, e)) (hAB : sumV most (la ++ lb) = (x, f)) (hB : sumV (most - n) lb = (m, g)) (hn0 : 0 ≤ n) (hn1 : n ≤ most)
    (hend : (e ≠ 0 ∧ f = e ∧ x = 0 ∧ n = 0) ∨ (e = 0 ∧ f = g ∧ (g ≠ 0 ∧ x = 0 ∨ g = 0 ∧ x = n + m ∧ 0 ≤ m ∧ m ≤ most - n))) :
    Calls Try.prog 7 #[.int .i64 most, .slice A la.length c, .slice B lb.length d] w fun e w' => e = .returned (.bool true) ∧ Below w.heap.size w w' := by
  obtain ⟨i0, hi0, hz0, hz1, hz2⟩ := info_parts int_info
  have c1 := fun (w1 : World) (hb : Below w.heap.size w w1) => nat_sum most (by omega) h2 A la.length c _ la w1 rfl (hra.below hb) halla (by omega)
  have c2 := fun (w1 : World) (E : Option Addr) (k : Nat) (hk : RowAt w1 w1.heap.size E (ints (la ++ lb))) => nat_sum most (by omega) h2 E (la.length + lb.length) k _ (la ++ lb) w1 (by simp) hk (allI64_append halla hallb) (by omega)
  have c3 := fun (w1 : World) (hb : Below w.heap.size w w1) => nat_sum (most - n) (by omega) (by omega) B lb.length d _ lb w1 rfl (hrb.below hb) hallb (by omega)
  have hm1 : 0 + la.length ≤ maxLen := by unfold maxLen; omega
  have hm2 : 0 + la.length + lb.length ≤ maxLen := by unfold maxLen; omega
  have hs1 : (0 + la.length) * 8 ≤ 140737488355328 := by omega
  have hs2 : (0 + la.length + lb.length) * 8 ≤ 140737488355328 := by omega
  rw [hA] at c1
  rw [hAB] at c2
  rw [hB] at c3
  clear hA hAB hB
  go_enter Try.func7, Try.ntmps7
  go_wp2_with fail
  refine (awake01 _).mono ?_; rintro e' w1 ⟨rfl, hb⟩
  go_wp2_with fail
  refine (c1 _ hb).mono ?_; rintro e' w' ⟨rfl, rfl⟩
  have hz := own_none w1 3 1
  have hbz : Below w.heap.size w (w1.alloc (.cells #[] 3)) := hb.alloc hb.size _
  have hra1 := hra.below hbz
  have hle : w1.heap.size ≤ (w1.alloc (.cells #[] 3)).heap.size := by simp
  have HZ := Lib.hid hz
  clear hz
  go_wp2_with (first
    | (at_builtin; refine wpList_append_row _ rfl (.tmp 35) (.tmp 36) _ rfl w1.heap.size 3 i0 _ 1 8 Try.underlying23 hi0 hz0 hz1 hz2 rfl Nat.one_pos (.slice (some ⟨w1.heap.size, 0, none⟩) 0 0) 0 [] rfl HZ.out w.heap.size A la.length c (ints la) rfl (ints_len la) hra1 (ints_one la) hm1 hs1 hle ?_; intro v2 w2 hown2 hg2 _; have hbz2 : Below w.heap.size w w2 := hbz.grown hg2 hbz.size (own_above hb.size); have hle2 : w1.heap.size ≤ w2.heap.size := Nat.le_trans hle hg2.size; have hrb2 := hrb.below hbz2)
    | (at_builtin; refine wpList_append_row _ rfl (.tmp 37) (.tmp 38) _ rfl w1.heap.size 3 i0 _ 1 8 Try.underlying23 hi0 hz0 hz1 hz2 rfl Nat.one_pos v2 (0 + la.length) ([] ++ ints la) rfl hown2 w.heap.size B lb.length d (ints lb) rfl (ints_len lb) hrb2 (ints_one lb) hm2 hs2 hle2 ?_; intro v3 w3 hown3 hg3 _)
    | fail)
  have hbz3 : Below w.heap.size w w3 := hbz2.grown hg3 hbz2.size (fun k hk => Nat.le_trans hb.size (own_base hown2 k hk))
  simp only [Nat.zero_add, List.nil_append] at hown3
  have hform := own_form hown3
  obtain ⟨E, k, hv3, _⟩ := hform
  rw [hv3] at hown3 ⊢
  have hr3 := RowAt.of_own hown3
  have e3 : ints la ++ ints lb = ints (la ++ lb) := by simp
  rw [e3] at hr3
  refine (c2 _ E k hr3).mono ?_; rintro e' w' ⟨rfl, rfl⟩
  clear hown2 hown3 hg2 hg3 hv3 HZ hra1 hrb2 hr3 e3 c1 c2 hm1 hm2 hs1 hs2 hbz hbz2 hle hle2 hz0 hz1 hz2 hi0
  rcases hend with ⟨he, rfl, rfl, rfl⟩ | ⟨rfl, rfl, hrest⟩
  · go_wp2
    all_goals go_ret
    all_goals exact ⟨rfl, hbz3⟩
  · go_wp2_with fail
    refine (c3 _ hbz3).mono ?_; rintro e' w' ⟨rfl, rfl⟩
    rcases hrest with ⟨hg, rfl⟩ | ⟨rfl, rfl, hm0, hm1⟩
    · go_wp2
      all_goals go_ret
      all_goals exact ⟨rfl, hbz3⟩
    · go_wp2
      all_goals go_ret
      all_goals exact ⟨rfl, hbz3⟩

set_option maxHeartbeats 400000 in
theorem natSplits_out (most : Int) (A B : Option Addr) (c d n m : Nat) (w : World) (hn : n ≤ maxLen) (hm : m ≤ maxLen) (h : 100 < n ∨ 100 < m ∨ most < 0) :
    Calls Try.prog 7 #[.int .i64 most, .slice A n c, .slice B m d] w fun e w' => e = .returned (.bool true) ∧ Below w.heap.size w w' := by
  unfold maxLen at hn hm
  by_cases h1 : 100 < n
  · go_enter Try.func7, Try.ntmps7
    go_wp2_with fail
    refine (awake01 _).mono ?_; rintro e w1 ⟨rfl, hb⟩
    go_wp2
    go_ret
    exact ⟨rfl, hb⟩
  · by_cases h2 : 100 < m
    · go_enter Try.func7, Try.ntmps7
      go_wp2_with fail
      refine (awake01 _).mono ?_; rintro e w1 ⟨rfl, hb⟩
      go_wp2
      go_ret
      exact ⟨rfl, hb⟩
    · have h3 : most < 0 := by omega
      go_enter Try.func7, Try.ntmps7
      go_wp2_with fail
      refine (awake01 _).mono ?_; rintro e w1 ⟨rfl, hb⟩
      go_wp2
      go_ret
      exact ⟨rfl, hb⟩

theorem natSplits_walk (most : Int) (h2 : most ≤ 9223372036854775807) (A B : Option Addr) (c d : Nat) (la lb : List Int) (w : World)
    (hra : RowAt w w.heap.size A (ints la)) (halla : AllI64 la) (hna : la.length ≤ maxLen) (hrb : RowAt w w.heap.size B (ints lb)) (hallb : AllI64 lb) (hnb : lb.length ≤ maxLen) :
    Calls Try.prog 7 #[.int .i64 most, .slice A la.length c, .slice B lb.length d] w fun e w' => e = .returned (.bool true) ∧ Below w.heap.size w w' := by
  by_cases h : 100 < la.length ∨ 100 < lb.length ∨ most < 0
  · exact natSplits_out most A B c d _ _ w hna hnb h
  · have h1 : 0 ≤ most := by omega
    obtain ⟨n, e, hA⟩ : ∃ n e, sumV most la = (n, e) := ⟨_, _, rfl⟩
    obtain ⟨x, f, hAB⟩ : ∃ x f, sumV most (la ++ lb) = (x, f) := ⟨_, _, rfl⟩
    obtain ⟨m, g, hB⟩ : ∃ m g, sumV (most - n) lb = (m, g) := ⟨_, _, rfl⟩
    have ok := sumGo_ok most la 0 (by omega) h1
    rw [← sumV_pos most la h1, hA] at ok
    refine natSplits_ok most h1 h2 A B c d la lb w hra halla (by omega) hrb hallb (by omega) n e x f m g hA hAB hB ok.1 ok.2.1 ?_
    by_cases he : e = 0
    · subst he
      have t := sumV_two_ok most la lb h1 n m g hA hB
      obtain ⟨_, _, t3, t4, _, t6, t7⟩ := t
      rw [hAB] at t6 t7
      by_cases hg : g = 0
      · have := t6 hg
        injection this with t8 t9
        exact .inr ⟨rfl, by omega, .inr ⟨hg, t8, t3, t4⟩⟩
      · have := t7 hg
        injection this with t8 t9
        exact .inr ⟨rfl, t9, .inl ⟨hg, t8⟩⟩
    · have t := sumV_two_bad most la lb h1 n e he hA
      rw [hAB] at t
      injection t.2 with t1 t2
      exact .inl ⟨he, t2, t1, t.1⟩
end Go.Proofs.Ythibjnhhcchlpaa
