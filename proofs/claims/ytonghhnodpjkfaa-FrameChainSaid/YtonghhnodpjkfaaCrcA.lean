/-
  The walks of the layer of the sum: one byte, all bytes, the four bytes of a sum.
-/
import Derived.Test.YtonghhnodpjkfaaEq
import Derived.Test.YtonghhnodpjkfaaCrcPure
import Derived.Test.YtonghhnodpjkfaaPieces
import Derived.Laws.BitsAllLaws
import Derived.Lib.SliceRun
namespace Go.Proofs.Ytonghhnodpjkfaa
open Go.RowKit

theorem step_int {s : Nat} (h : s < 4294967296) :
    bits .and .u32 (s : Int) 1 = ((s % 2 : Nat) : Int) ∧ bits .xor .u32 ((s : Int) / 2) ((s : Int) % 2 * 3988292384) = ((stepN s : Nat) : Int) := by
  constructor
  · have := u32_and_nat s 1 h (by decide)
    rw [nat_mask1] at this
    exact this
  · have e1 : (s : Int) / 2 = ((s / 2 : Nat) : Int) := by omega
    have e2 : (s : Int) % 2 * 3988292384 = ((s % 2 * 3988292384 : Nat) : Int) := by omega
    rw [e1, e2, u32_xor_nat _ _ (by omega) (by omega)]
    rfl

set_option maxHeartbeats 400000 in
theorem crc_take (s : Nat) (b : UInt8) (w : World) (hs : s < 4294967296) :
    Calls Try.prog 28 #[.int .u32 (s : Int), .int .u8 (b.toNat : Int)] w fun e w' => e = .returned (.int .u32 ((stepsN 8 (s ^^^ b.toNat) : Nat) : Int)) ∧ w = w' := by
  have hx := u32_xor_nat s b.toNat hs (by have := byte_lt b; omega)
  have hxl := xor_byte_lt hs b
  have hb := byte_lt b
  obtain ⟨x, hx0⟩ : ∃ x, s ^^^ b.toNat = x := ⟨_, rfl⟩
  rw [hx0] at hx hxl
  rw [hx0]
  clear hx0
  go_enter Try.func28, Try.ntmps28
  go_wp2
  go_loop [0, 9] (fun v i => ∃ k : Nat, k ≤ 8 ∧ i = .int .i64 (k : Int) ∧ v = .int .u32 ((stepsN k x : Nat) : Int)) (fun _ i => 8 - (intOf i).toNat)
  case atStart => exact ⟨0, by omega, rfl, rfl⟩
  case round =>
    obtain ⟨k, hk, rfl, rfl⟩ := hrel
    by_cases hlt : k < 8
    · have hl := stepsN_lt k hxl
      have HN := Lib.hid (stepsN_succ k x)
      obtain ⟨y, hy⟩ : ∃ y, stepsN k x = y := ⟨_, rfl⟩
      rw [hy] at hl HN
      rw [hy]
      clear hy
      obtain ⟨h1, h2⟩ := step_int hl
      go_wp2
      go_round
      case rel => exact ⟨k + 1, by omega, by go_num, by rw [HN.out]⟩
      case measure => simp [intOf]; omega
    · obtain rfl : k = 8 := by omega
      go_wp2
      go_ret
      exact ⟨rfl, rfl⟩

set_option maxHeartbeats 1000000 in
set_option maxRecDepth 100000 in
theorem crc_sum (A : Option Addr) (c n B B2 : Nat) (l : List Piece) (w : World) (hn : n = l.length) (hm : n ≤ 1000000) (h : RdP w B B2 A l) :
    Calls Try.prog 18 #[.slice A n c] w fun e w' => e = .returned (.int .u32 ((sumC (allP l) : Nat) : Int)) ∧ w = w' := by
  have HN := Lib.hid hn
  go_enter Try.func18, Try.ntmps18
  go_wp2
  go_loop [3, 10] (fun v i => ∃ k : Nat, k ≤ n ∧ i = .int .i64 (k : Int) ∧ v = .int .u32 ((foldC 4294967295 (allP (l.take k)) : Nat) : Int)) (fun _ i => n - (intOf i).toNat)
  case atStart => exact ⟨0, by omega, rfl, rfl⟩
  case round =>
    obtain ⟨k, hk, rfl, rfl⟩ := hrel
    by_cases hlt : k < n
    · have hkl : k < l.length := by omega
      obtain ⟨b0, o0, rfl, hb0, hc⟩ := h.row.pieces_at (by omega)
      have hcell := hc k hkl
      have hp := h.each _ (getD_mem hkl)
      have HT := Lib.hid (take_snoc_piece l k hkl)
      have HA := Lib.hid (allP_snoc (l.take k) (l.getD k (none, 0, [])))
      obtain ⟨p, hpe⟩ : ∃ p, l.getD k (none, 0, []) = p := ⟨_, rfl⟩
      rw [hpe] at hcell hp HT HA
      obtain ⟨s, hse⟩ : ∃ s, foldC 4294967295 (allP (l.take k)) = s := ⟨_, rfl⟩
      have HS := Lib.hid hse
      have hs : s < 4294967296 := by rw [← hse]; exact foldC_lt _ (by decide)
      rw [hse]
      clear hc hpe hse
      obtain ⟨A1, c1, l1⟩ := p
      have hcap := hp.cap
      have hroom := hp.room
      unfold maxLen at hcap
      simp only [pieceV] at hcell
      obtain ⟨m, hm1⟩ : ∃ m, l1.length = m := ⟨_, rfl⟩
      have HM := Lib.hid hm1
      simp only [hm1] at hcell hcap hroom
      clear hm1
      go_wp2
      go_loop [3, 16] (fun v i => ∃ j : Nat, j ≤ m ∧ i = .int .i64 (j : Int) ∧ v = .int .u32 ((foldC s (l1.take j) : Nat) : Int)) (fun _ i => m - (intOf i).toNat)
      case atStart => exact ⟨0, by omega, rfl, rfl⟩
      case round =>
        obtain ⟨j, hj, rfl, rfl⟩ := hrel
        by_cases hjl : j < m
        · obtain ⟨b1, o1, rfl, hb1, hc1⟩ := hp.row.bytes_at (by rw [HM.out]; omega)
          have hcell1 := hc1 j (by rw [HM.out]; omega)
          have HT1 := Lib.hid (take_snoc_getD l1 j (by rw [HM.out]; omega))
          obtain ⟨x, hx⟩ : ∃ x, l1.getD j 0 = x := ⟨_, rfl⟩
          rw [hx] at hcell1 HT1
          have HF := Lib.hid (foldC_snoc s (l1.take j) x)
          have hs1 := foldC_lt (l1.take j) hs
          obtain ⟨s1, hs1e⟩ : ∃ s1, foldC s (l1.take j) = s1 := ⟨_, rfl⟩
          rw [hs1e] at HF hs1
          rw [hs1e]
          have htake := crc_take s1 x w hs1
          clear hc1 hx hs1e hs1
          go_wp2_with fail
          refine htake.mono ?_; rintro e w1 ⟨rfl, rfl⟩
          go_wp2
          go_round
          case rel => exact ⟨j + 1, by omega, by go_num, by rw [HT1.out, HF.out]⟩
          case measure => simp [intOf]; omega
        · obtain rfl : j = m := by omega
          go_wp2
          go_round
          case rel => exact ⟨_, _, _, _, ⟨k + 1, by omega, by go_num, by rw [HT.out, HA.out, foldC_append, HS.out, ← HM.out, List.take_length]⟩, rfl, rfl, rfl, rfl⟩
          case measure => simp [intOf]; omega
    · obtain rfl : k = n := by omega
      rw [show l.take k = l by rw [HN.out, List.take_length]]
      have fin : Hid (bits .xor .u32 IntKind.u32.max ((foldC 4294967295 (allP l) : Nat) : Int) = ((sumC (allP l) : Nat) : Int)) := u32_xor_nat 4294967295 _ (by decide) (foldC_lt (allP l) (s := 4294967295) (by decide))
      go_wp2
      go_ret
      exact ⟨congrArg (fun x => Ending.returned (.int .u32 x)) fin.out, rfl⟩

/-- The four bytes of a sum, as cells. -/
theorem tail_cells {s : Nat} (hs : s < 4294967296) :
    (#[.int .u8 ((s : Int) % 256), .int .u8 ((s : Int) / 256 % 256), .int .u8 ((s : Int) / 65536 % 256), .int .u8 ((s : Int) / 16777216)] : Array Value).toList = bytes (tailC s) := by
  have e (x : Nat) : (((UInt8.ofNat (x % 256)).toNat : Nat) : Int) = (x : Int) % 256 := by simp
  have h4 : (s : Int) / 16777216 = ((s / 16777216 : Nat) : Int) % 256 := by omega
  simp only [bytes, tailC, List.map_cons, List.map_nil, e, h4]
  rfl
set_option maxHeartbeats 400000 in
theorem crc_tail (s : Nat) (w : World) (hs : s < 4294967296) :
    Calls Try.prog 17 #[.int .u32 (s : Int)] w (RetB w.heap.size w (tailC s)) := by
  have HC := Lib.hid (tail_cells hs)
  go_enter Try.func17, Try.ntmps17
  go_wp2_with fail
  go_ret
  exact ⟨_, rfl, own_block HC.out rfl (by simp [tailC_len]), (Below.refl _ _).alloc (Nat.le_refl _) _⟩

set_option maxHeartbeats 400000 in
theorem bytes_equal (A A2 : Option Addr) (c c2 n1 n2 B B2 : Nat) (a b : List UInt8) (w : World) (hn1 : n1 = a.length) (hn2 : n2 = b.length) (ha : RowAt w B A (bytes a)) (hb : RowAt w B2 A2 (bytes b)) :
    Calls Try.prog 33 #[.slice A n1 c, .slice A2 n2 c2] w fun e w' => e = .returned (.bool (decide (a = b))) ∧ w = w' := by
  subst hn1 hn2
  have K1 := conv_str (P := Try.prog) c 25 5 9 Try.underlying25 Try.underlying5 Try.underlying9 ha
  have K2 := conv_str (P := Try.prog) c2 25 5 9 Try.underlying25 Try.underlying5 Try.underlying9 hb
  have fin : Hid (((str a).toList == (str b).toList) = decide (a = b)) := Lib.hid (by rw [str_toList, str_toList]; exact Bool.eq_iff_iff.2 (by simp))
  go_enter Try.func33, Try.ntmps33
  go_wp2
  go_ret
  exact ⟨by rw [← fin.out]; rfl, rfl⟩

set_option maxHeartbeats 400000 in
theorem bytes_clone (A : Option Addr) (c n B : Nat) (l : List UInt8) (w : World) (hn : n = l.length) (h : RdB w B A c l) (hB : B ≤ w.heap.size) (hl : l.length ≤ 140737488355328) :
    Calls Try.prog 34 #[.slice A n c] w (RetB w.heap.size w l) := by
  have K1 := fun w : World => Lib.run_eql_slice_nil (P := Try.prog) w 25 5 A l.length c 0 0 Try.underlying25
  subst hn
  cases A with
  | none =>
    have hnil : l = [] := by
      rcases h.row with h | ⟨b, o, h, _⟩
      · simpa [bytes] using h
      · cases h
    have fin : RetB w.heap.size w l (.returned (.slice none 0 0)) w := ⟨_, rfl, by subst hnil; exact World.ownsRow_nil w _ _ _, Below.refl _ _⟩
    have FIN := Lib.hid fin
    clear fin hnil
    go_enter Try.func34, Try.ntmps34
    go_wp2
    go_ret
    exact FIN.out
  | some a =>
    have hz : OwnB (w.alloc (.cells #[] 5)) w.heap.size (.slice (some ⟨w.heap.size, 0, none⟩) 0 0) [] := own_none w 5 1
    have hle : w.heap.size ≤ (w.alloc (.cells #[] 5)).heap.size := by simp
    have hrow := h.row.keep (w' := w.alloc (.cells #[] 5)) (fun p hp => World.cell?_alloc_lt w _ p (by omega))
    have hm : ([] : List UInt8).length + l.length ≤ 140737488355328 := by simpa using hl
    have hbz : Below w.heap.size w (w.alloc (.cells #[] 5)) := (Below.refl _ _).alloc (Nat.le_refl _) _
    clear hl
    go_enter Try.func34, Try.ntmps34
    go_wp2_with (at_builtin; refine wpList_app_row rfl (.tmp 5) (.tmp 6) rfl w.heap.size (.slice (some ⟨w.heap.size, 0, none⟩) 0 0) [] rfl hz B (some a) c l.length l rfl rfl hrow hm hle ?_; intro v2 w2 hown2 _ hb2 _)
    go_ret
    exact ⟨v2, rfl, hown2, hbz.trans hb2⟩
end Go.Proofs.Ytonghhnodpjkfaa
