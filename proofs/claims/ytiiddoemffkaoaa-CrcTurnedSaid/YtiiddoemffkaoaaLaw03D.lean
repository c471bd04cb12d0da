/-
  The walk of the third layer's law on turned bits.
-/
import Derived.Test.YtiiddoemffkaoaaLaw03A
import Derived.BigRegion
import Derived.Laws.OwnMore
namespace Go.Proofs.Ytiiddoemffkaoaa
open Go.RowKit

theorem OwnB.read_n {w : World} {base n : Nat} {v : Value} {l : List UInt8} (h : OwnB w base v l) (hn : n = l.length) : ∃ A c, v = .slice A n c ∧ RdB w w.heap.size A c l := by
  subst hn; exact h.read
/-- What the loop of turning keeps, and whether a bit was turned. -/
structure TurnSt (b : List UInt8) (f t i : Nat) (c : List UInt8) (r : Bool) : Prop where
  inv : TurnInv b f t i c
  was : r = true ↔ t % 2 ^ i ≠ 0
theorem TurnSt.start (b : List UInt8) (f t : Nat) : TurnSt b f t 0 b false := ⟨.start b f t, by simp [Nat.mod_one]⟩
theorem TurnSt.skip {b c : List UInt8} {f t i : Nat} {r : Bool} (h : TurnSt b f t i c r) (h0 : t / 2 ^ i % 2 = 0) : TurnSt b f t (i + 1) c r := ⟨h.inv.skip h0, by rw [low_same h0]; exact h.was⟩
theorem TurnSt.turn {b c : List UInt8} {f t i q : Nat} {r : Bool} {x : UInt8} (h : TurnSt b f t i c r) (h1 : t / 2 ^ i % 2 = 1) (hk : f + i < 8 * b.length) (hq : (f + i) / 8 = q) (hx : c.getD q 0 = x) :
    TurnSt b f t (i + 1) (c.set q (flipB x (f + i))) true := by
  subst hq hx
  exact ⟨h.inv.turn h1 hk, by simp [low_some h1]⟩
theorem flip_int (x : UInt8) {k s : Nat} (h : k % 8 = s) : bits .xor .u8 (x.toNat : Int) (2 ^ s % 256) = ((flipB x k).toNat : Int) := by
  subst h
  have h1 : 2 ^ (k % 8) < 2 ^ 8 := Nat.pow_lt_pow_right (by decide) (Nat.mod_lt _ (by decide))
  have e : ((2 ^ (k % 8) : Nat) : Int) = (2 : Int) ^ (k % 8) := by simp
  have hf := flipB_toNat x k
  rw [← e]
  generalize 2 ^ (k % 8) = p at *
  have h2 : (p : Int) % 256 = (p : Int) := by omega
  rw [h2, u8_xor_nat _ _ (byte_lt x) h1, hf]
theorem below_store {B g : Nat} {w wr : World} (h : Below B w wr) (hg : B ≤ g) (hs : B ≤ wr.heap.size) (q : Nat) (u : Value) : Below B w (wr.setCell ⟨g, q, none⟩ u).drew := (below_row h (grownBy_set wr g q u) hg hs).drew
theorem own_some {w : World} {base n : Nat} {v : Value} {l : List UInt8} (h : OwnB w base v l) (hn : n = l.length) (hp : 0 < n) : ∃ g c, v = .slice (some ⟨g, 0, none⟩) n c ∧ n ≤ c ∧ base ≤ g := by
  subst hn
  rcases h.2 with ⟨_, h0⟩ | ⟨g, cap, cur, hv, hg, _, hc, _⟩
  · omega
  · exact ⟨g, cap, hv, hc, hg⟩
theorem own_free {w : World} {base g n c : Nat} {l : List UInt8} (h : OwnB w base (.slice (some ⟨g, 0, none⟩) n c) l) : ∀ k, w.frozen? ⟨g, k, none⟩ = false := by
  rcases h.2 with ⟨h0, _⟩ | ⟨g', cap, cur, hv, _, hg, _⟩
  · cases h0
  · injection hv with hA _ _
    injection hA with hA
    injection hA with hA _ _
    subst hA
    intro k
    simp [World.frozen?, hg]
theorem own_cells {w : World} {base g n c : Nat} {l : List UInt8} (h : OwnB w base (.slice (some ⟨g, 0, none⟩) n c) l) : ∀ k, k < l.length → w.cell? ⟨g, k, none⟩ = some (.int .u8 ((l.getD k 0).toNat : Int)) := by
  rcases h.2 with ⟨h0, _⟩ | ⟨g', cap, cur, hv, _, hg, _, _, _, ht⟩
  · cases h0
  · injection hv with hA _ _
    injection hA with hA
    injection hA with hA _ _
    subst hA
    intro k hk
    rw [cell_of_row _ _ _ cur _ (0, 0) hg, ← Array.getElem?_toList]
    have h1 := bytes_get hk
    rw [← ht, List.getElem?_take] at h1
    split at h1
    · exact h1
    · cases h1
theorem OwnB.stored {w : World} {base g n c : Nat} {l : List UInt8} (h : OwnB w base (.slice (some ⟨g, 0, none⟩) n c) l) (hn : n = l.length) (j : Nat) (x : UInt8) :
    OwnB (w.setCell ⟨g, j, none⟩ (.int .u8 (x.toNat : Int))) base (.slice (some ⟨g, 0, none⟩) n c) (l.set j x) := by
  subst hn
  have := (World.ownsRow.stored h j (.int .u8 (x.toNat : Int))).1
  rw [show (bytes l).set j (.int .u8 (x.toNat : Int)) = bytes (l.set j x) by simp [bytes, List.map_set]] at this
  exact OwnB.of_row this

set_option maxHeartbeats 2000000 in
set_option maxRecDepth 100000 in
theorem crcTurned_walk (A : Option Addr) (c : Nat) (b : List UInt8) (a t : Nat) (w : World) (h : RdB w w.heap.size A c b) (ha : a < 65536) (ht : t < 4294967296) :
    Calls Try.prog 5 #[.slice A b.length c, .int .u16 (a : Int), .int .u32 (t : Int)] w fun e w' => e = .returned (.bool true) ∧ Below w.heap.size w w' := by
  have hcap := h.cap
  have hroom := h.room
  unfold maxLen at hcap
  obtain ⟨n, hn⟩ : ∃ n, b.length = n := ⟨_, rfl⟩
  rw [hn] at hroom ⊢
  have HN := Lib.hid hn.symm
  have HNL := Lib.hid hn
  by_cases h400 : 400 < n
  · clear hn
    go_enter Try.func5, Try.ntmps5
    go_wp2_with fail
    refine (awake03 _).mono ?_; rintro e w1 ⟨rfl, hb⟩
    go_wp2
    go_ret
    exact ⟨rfl, hb⟩
  · by_cases ht0 : t = 0
    · subst ht0
      clear hn
      go_enter Try.func5, Try.ntmps5
      go_wp2_with fail
      refine (awake03 _).mono ?_; rintro e w1 ⟨rfl, hb⟩
      go_wp2
      go_ret
      exact ⟨rfl, hb⟩
    · have ht0' : ((t : Int) == 0) = false := by simpa using ht0
      have hlen0 : ([] : List UInt8).length + b.length ≤ 140737488355328 := by simp; omega
      clear hn
      go_enter Try.func5, Try.ntmps5
      go_wp2_with fail
      refine (awake03 _).mono ?_; rintro e w1 ⟨rfl, hb1⟩
      have hr := h.below hb1
      have hs := hb1.size
      have hown0 : OwnB (w1.alloc (.cells #[] 5)) w1.heap.size (.slice (some ⟨w1.heap.size, 0, none⟩) 0 0) [] := own_none w1 5 1
      replace hr := hr.quiet (World.grownBy_alloc w1 (.cells #[] 5) none) hs
      replace hb1 := hb1.alloc hs (.cells #[] 5)
      have hle : w1.heap.size ≤ (w1.alloc (.cells #[] 5)).heap.size := by simp
      by_cases hn0 : n = 0
      · subst hn0
        go_wp2_with (at_builtin; refine wpList_app_row rfl (.tmp 21) (.tmp 22) rfl w1.heap.size _ [] rfl hown0 w.heap.size A c _ b HN.out rfl hr.row hlen0 hle ?_; intro v5 w5 hown5 _ hb5 _; rw [List.nil_append] at hown5; obtain ⟨A5, c5, rfl, hr5⟩ := OwnB.read_n hown5 HN.out)
        replace hb1 := hb1.trans (hb5.mono hs)
        replace hb1 := hb1.alloc hb1.size (.cells #[.slice A5 0 c5] 24)
        replace hr5 := hr5.quiet (World.grownBy_alloc w5 (.cells #[.slice A5 0 c5] 24) none) (Nat.le_refl _)
        have hb0 : b = [] := List.eq_nil_of_length_eq_zero HNL.out
        have hsum : sumC b = 0 := by rw [hb0]; decide
        have hcs := fun w' h1 h2 => crc_sum1 A5 c5 0 w5.heap.size w5.heap.size b w' HN.out h1 h2
        rw [hsum] at hcs
        clear hown5 hb5 hown0 hr hle hb0 hsum
        refine (hcs _ hr5 (heap_new _ _ _ rfl)).mono ?_; rintro e w6 ⟨rfl, rfl⟩
        have fin := Lib.hid hb1
        clear hb1 hr5 hcs
        go_wp2
        go_ret
        exact ⟨rfl, fin.out⟩
      · have hn0' : 0 < n := by omega
        obtain ⟨f, hf⟩ : ∃ f, a % (8 * n) = f := ⟨_, rfl⟩
        have hfl : f < 8 * n := by rw [← hf]; exact Nat.mod_lt _ (by omega)
        have hfi : (a : Int) % (8 * (n : Int)) = (f : Int) := by rw [← hf]; simp
        go_wp2_with (at_builtin; refine wpList_app_row rfl (.tmp 21) (.tmp 22) rfl w1.heap.size _ [] rfl hown0 w.heap.size A c _ b HN.out rfl hr.row hlen0 hle ?_; intro v5 w5 hown5 _ hb5 _; rw [List.nil_append] at hown5; obtain ⟨g, c5, rfl, hc5, hg5⟩ := own_some hown5 HN.out hn0')
        have hfree := own_free hown5
        replace hr := hr.below (hb5.mono hs)
        replace hb1 := hb1.trans (hb5.mono hs)
        have HF := Lib.hid hf
        have HSW := Lib.hid hs
        have hgw : w.heap.size ≤ g := by omega
        clear hown0 hb5 hle hlen0 hf hfree
        have h8 : (8 * (n : Int) == 0) = false := by simp; omega
        rw [hfi, h8]
        go_loopw [9, 10] (fun tv i wr => ∃ (k : Nat) (cl : List UInt8) (r : Bool), k ≤ 32 ∧ f + k ≤ 8 * n ∧ i = .int .i64 (k : Int) ∧ tv = .bool r ∧ TurnSt b f t k cl r ∧ OwnB wr w1.heap.size (.slice (some ⟨g, 0, none⟩) n c5) cl ∧ Below w.heap.size w wr ∧ RdB wr w.heap.size A c b) (fun _ i _ => 32 - (intOf i).toNat)
        case atStart => exact ⟨0, b, false, by omega, by omega, rfl, rfl, .start b f t, hown5, hb1, hr⟩
        case round =>
          obtain ⟨k, cl, r, hk, hfk, rfl, rfl, st, hown, hbw, hrw⟩ := hrel
          have ST := Lib.hid st
          have HOW := Lib.hid hown
          have HBW := Lib.hid hbw
          have HRW := Lib.hid hrw
          clear hown5 hb1 hr
          by_cases hgo : k < 32 ∧ f + k < 8 * n
          · obtain ⟨hk32, hfk8⟩ := hgo
            obtain ⟨kk, hkk⟩ : ∃ kk, f + k = kk := ⟨_, rfl⟩
            have hkki : (f : Int) + (k : Int) = (kk : Int) := by omega
            have hkk8 : (kk : Int) < 8 * (n : Int) := by omega
            have HKK := Lib.hid hkk
            have hand := u32_and_nat (t / 2 ^ k) 1 (Nat.lt_of_le_of_lt (Nat.div_le_self _ _) ht) (by decide)
            rw [nat_mask1] at hand
            have hpow : ((t / 2 ^ k : Nat) : Int) = (t : Int) / 2 ^ k := by simp
            by_cases hbit : t / 2 ^ k % 2 = 1
            · have hnd : bits .and .u32 ((t : Int) / 2 ^ k) 1 = 1 := by rw [← hpow]; rw [hbit] at hand; exact hand
              obtain ⟨q, hq⟩ : ∃ q, kk / 8 = q := ⟨_, rfl⟩
              obtain ⟨s, hs8⟩ : ∃ s, kk % 8 = s := ⟨_, rfl⟩
              have hqi : (kk : Int) / 8 = (q : Int) := by omega
              have hsi : (kk : Int) % 8 = (s : Int) := by omega
              have hs8l : s < 8 := by omega
              have hqn : q < n := by omega
              have hlen := st.inv.len
              have HCL : Hid (n = cl.length) := Lib.hid (by rw [hlen, HNL.out])
              have hcell := own_cells hown q (by rw [hlen, HNL.out]; exact hqn)
              have hfree := own_free hown q
              have HTN : Hid (∀ x, cl.getD q 0 = x → TurnSt b f t (k + 1) (cl.set q (flipB x kk)) true) := fun x hx => by
                have := st.turn hbit (by rw [HNL.out]; exact hfk8) (by rw [hkk]; exact hq) hx
                rwa [hkk] at this
              obtain ⟨x, hx⟩ : ∃ x, cl.getD q 0 = x := ⟨_, rfl⟩
              rw [hx] at hcell
              have HX := Lib.hid (HTN.out x hx)
              have hxor := flip_int x (k := kk) hs8
              clear hown hbw hrw st hx HTN hlen hand hpow hbit hq hs8 hkk hfk hfk8
              go_wp2
              go_region
              go_wp2
              go_roundw
              case rel => exact ⟨k + 1, _, true, by omega, by omega, by go_num, rfl, HX.out, World.ownsRow.drew (OwnB.stored HOW.out HCL.out q (flipB x kk)), below_store HBW.out hgw HBW.out.size q _, HRW.out.below (below_store (Below.refl _ _) hgw HBW.out.size q _)⟩
              case measure => simp [intOf]; omega
            · have hnd : bits .and .u32 ((t : Int) / 2 ^ k) 1 = 0 := by
                rw [← hpow]
                rw [show t / 2 ^ k % 2 = 0 by omega] at hand
                exact hand
              have HST := Lib.hid (ST.out.skip (by omega))
              clear hown hbw hrw st
              go_wp2
              go_roundw
              case rel =>
                exact ⟨k + 1, cl, r, by omega, by omega, by go_num, rfl, HST.out, HOW.out, HBW.out, HRW.out⟩
              case measure => simp [intOf]; omega
          · have hend : k = 32 ∨ (k < 32 ∧ f + k = 8 * n) := by omega
            have HS := Lib.hid (st.inv.sums hk (by rw [HNL.out]; omega))
            have HW := Lib.hid st.was
            have HCL : Hid (n = cl.length) := Lib.hid (by rw [st.inv.len, HNL.out])
            obtain ⟨A5, c6, hv5, hrc⟩ := OwnB.read_n hown HCL.out
            injection hv5 with hA5 _ hc6
            subst hA5 hc6
            have hsw := hbw.size
            have hrb := hrw.quiet (World.grownBy_alloc wr (.cells #[.slice A n c] 24) none) hsw
            have hrc2 := hrc.quiet (World.grownBy_alloc wr (.cells #[.slice A n c] 24) none) (Nat.le_refl _)
            have hb2 := hbw.alloc hsw (.cells #[.slice A n c] 24)
            have hs2 : wr.heap.size ≤ (wr.alloc (.cells #[.slice A n c] 24)).heap.size := by simp
            clear hown hbw hrw st hrc HOW HBW HRW hsw
            have hk2 : k = 32 ∨ (k < 32 ∧ (f : Int) + (k : Int) = 8 * (n : Int)) := by omega
            rcases hk2 with rfl | ⟨hk32, hfk2⟩
            all_goals
              clear hend
              go_wp2_with fail
              refine (crc_sum1 A c n w.heap.size _ b _ HN.out hrb (heap_new _ _ _ rfl)).mono ?_; rintro e w6 ⟨rfl, rfl⟩
              replace hrc2 := hrc2.quiet (World.grownBy_alloc (wr.alloc (.cells #[.slice A n c] 24)) (.cells #[.slice (some ⟨g, 0, none⟩) n c5] 24) none) hs2
              replace hb2 := hb2.alloc hb2.size (.cells #[.slice (some ⟨g, 0, none⟩) n c5] 24)
              have fin := Lib.hid hb2
              clear hb2 hrb
              go_wp2_with fail
              refine (crc_sum1 _ c5 n wr.heap.size _ cl _ HCL.out hrc2 (heap_new _ _ (wr.heap.size + 1) (by simp))).mono ?_; rintro e w7 ⟨rfl, rfl⟩
              cases r with
              | false =>
                have heq : sumC b = sumC cl := HS.out.2 (Decidable.byContradiction fun h => by have := HW.out.2 h; cases this)
                clear hrc2 HS HW
                generalize sumC b = s1 at *
                generalize sumC cl = s2 at *
                subst heq
                go_wp2
                go_ret
                exact ⟨rfl, fin.out⟩
              | true =>
                have hne : sumC b ≠ sumC cl := fun e => HW.out.1 rfl (HS.out.1 e)
                have HNE : Hid (((sumC b : Int) != (sumC cl : Int)) = true) := Lib.hid (by simp; omega)
                clear hrc2 HS HW hne
                go_wp2
                go_ret
                exact ⟨congrArg (fun x => Ending.returned (.bool x)) HNE.out, fin.out⟩
end Go.Proofs.Ytiiddoemffkaoaa
