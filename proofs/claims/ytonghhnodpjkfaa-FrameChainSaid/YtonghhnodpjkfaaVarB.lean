/-
  The walks of the layer of numbers as bytes: what cuts a number off, and the reader.
-/
import Derived.Test.YtonghhnodpjkfaaVarA
import Derived.Deep.QuietTactic
import Derived.BigQuiet
namespace Go.Proofs.Ytonghhnodpjkfaa
open Go.RowKit

theorem get_str (l : List UInt8) (k : Nat) (h : k < (str l).size) : (str l)[k] = l.getD k 0 := str_get l k (by rw [← str_size]; exact h)

theorem pow_seven (k : Nat) : (2 : Int) ^ (7 * k) = ((128 ^ k : Nat) : Int) := by
  have e : (128 : Nat) ^ k = 2 ^ (7 * k) := by rw [Nat.pow_mul]
  rw [e]; simp

set_option maxHeartbeats 1000000 in
set_option maxRecDepth 100000 in
theorem varint_cut (l : List UInt8) (w : World) (hl : l.length ≤ 9223372036854775807) :
    Calls Try.prog 38 #[.string (str l)] w fun e w' => e = .returned (.tuple #[.int .i64 (cutV l).1, .int .i64 (cutV l).2.1, .int .i64 (cutV l).2.2]) ∧ w = w' := by
  have hsz := str_size l
  have hl2 : (str l).size ≤ 9223372036854775807 := by omega
  obtain ⟨s, hs⟩ : ∃ s, str l = s := ⟨_, rfl⟩
  have HG := Lib.hid (get_str l)
  rw [hs] at hsz hl2 HG
  rw [hs]
  have HSZ := Lib.hid hsz
  clear hsz hs
  by_cases h8 : s.size < 8
  all_goals
    go_enter Try.func38, Try.ntmps38
    go_wp2
  all_goals
    go_loop [5, 10] (fun n i => ∃ k : Nat, k ≤ s.size ∧ k ≤ 8 ∧ Lead l k ∧ i = .int .i64 k ∧ n = .int .i64 (valV (l.take k) : Nat)) (fun _ i => 8 - (intOf i).toNat)
    case atStart => exact ⟨0, by omega, by omega, Lead.zero l, rfl, rfl⟩
    case round =>
      obtain ⟨k, hk, hk8, hlead, rfl, rfl⟩ := hrel
      by_cases hlt : k < s.size ∧ k < 8
      · obtain ⟨hlt1, hlt2⟩ := hlt
        have hltl : k < l.length := by rw [← HSZ.out]; exact hlt1
        have hg := HG.out k hlt1
        have hv := valV_take_lt l k hk8
        have hvn := valV_take l k hltl
        have hv2 := valV_take_lt l (k + 1) (by omega)
        have NX := fun h => Lib.hid (hlead.next hltl h)
        have FB := fun h1 h2 => Lib.hid (cut_bad hlead hltl hlt2 h1 h2)
        have FG := fun h1 h2 => Lib.hid (cut_good hlead hltl hlt2 h1 h2)
        obtain ⟨c, hc⟩ : ∃ c, l.getD k 0 = c := ⟨_, rfl⟩
        have hsh : ((c.toNat : Int) % 128) * 2 ^ (7 * k) = ((c.toNat % 128 * 128 ^ k : Nat) : Int) := by rw [pow_seven]; simp
        obtain ⟨m, hm⟩ : ∃ m : Nat, c.toNat % 128 * 128 ^ k = m := ⟨_, rfl⟩
        rw [hc] at hg hvn NX FB FG
        rw [hm] at hvn hsh
        obtain ⟨n', hn'⟩ : ∃ n' : Nat, valV (l.take (k + 1)) = n' := ⟨_, rfl⟩
        rw [hn'] at hv2 hvn FB FG
        have HN' := Lib.hid hn'
        clear hc hm hlead hn'
        generalize valV (l.take k) = n at *
        have e2 : (n : Int) + m = (n' : Int) := by omega
        clear hvn
        by_cases h1 : 128 ≤ c.toNat
        · have nx := NX h1
          go_wp2
          go_round
          case rel => exact ⟨k + 1, by omega, by omega, nx.out, by go_num, by rw [HN'.out]⟩
          case measure => simp [intOf]; omega
        · by_cases h2 : 0 < k
          · by_cases h3 : c.toNat = 0
            · have fin := FB (by omega) (.inl ⟨h2, h3⟩)
              obtain rfl : c = 0 := UInt8.toNat_inj.1 h3
              clear hsh FB FG NX h3
              go_wp2
              go_ret3
              exact ⟨by rw [fin.out]; rfl, rfl⟩
            · have h3' : ((c.toNat : Int) == 0) = false := by simpa using h3
              by_cases h4 : 281474976710656 < n'
              · have fin := FB (by omega) (.inr h4)
                clear FB FG NX
                go_wp2
                go_ret3
                exact ⟨by rw [fin.out]; rfl, rfl⟩
              · have fin := FG (by omega) (by omega)
                clear FB FG NX
                go_wp2
                go_ret3
                exact ⟨by rw [fin.out]; rfl, rfl⟩
          · by_cases h4 : 281474976710656 < n'
            · have fin := FB (by omega) (.inr h4)
              clear FB FG NX
              go_wp2
              go_ret3
              exact ⟨by rw [fin.out]; rfl, rfl⟩
            · have fin := FG (by omega) (by omega)
              clear FB FG NX
              go_wp2
              go_ret3
              exact ⟨by rw [fin.out]; rfl, rfl⟩
      · by_cases h9 : s.size < 8
        · first
            | exact absurd h9 h8
            | (have fin := Lib.hid (cut_short (l := l) (by rw [← HSZ.out]; rwa [show k = s.size by omega] at hlead) (by rw [← HSZ.out]; exact h9))
               go_wp2
               go_ret3
               exact ⟨by rw [fin.out]; rfl, rfl⟩)
        · first
            | exact absurd h8 h9
            | (have fin := Lib.hid (cut_eight (l := l) (by rwa [show k = 8 by omega] at hlead))
               go_wp2
               go_ret3
               exact ⟨by rw [fin.out]; rfl, rfl⟩)

end Go.Proofs.Ytonghhnodpjkfaa
