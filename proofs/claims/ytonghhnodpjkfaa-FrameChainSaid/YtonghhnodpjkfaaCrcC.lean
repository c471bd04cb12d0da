/-
  The walks of the four bytes as the document has them, and of both answers for Whole.
-/
import Derived.Test.YtonghhnodpjkfaaCrcB
import Derived.Test.YtonghhnodpjkfaaCut
namespace Go.Proofs.Ytonghhnodpjkfaa
open Go.RowKit

theorem byte_row' (w : World) (s : Nat) : RowAt (w.alloc (.cells #[.int .u8 ((s : Int) % 256)] 5)) (w.heap.size + 1) (some ⟨w.heap.size, 0, none⟩) (bytes [UInt8.ofNat (s % 256)]) :=
  byte_row w _ _ (by simp)
theorem tail_step (s k : Nat) (h : k < 4) : (tailC s).take (k + 1) = (tailC s).take k ++ [UInt8.ofNat (s / 256 ^ k % 256)] := by
  match k, h with
  | 0, _ => simp [tailC]
  | 1, _ => simp [tailC]
  | 2, _ => simp [tailC]
  | 3, _ => simp [tailC]

set_option maxHeartbeats 1000000 in
set_option maxRecDepth 100000 in
theorem ref_tail (s : Nat) (w : World) (hs : s < 4294967296) :
    Calls Try.prog 20 #[.int .u32 (s : Int)] w (RetB w.heap.size w (tailC s)) := by
  have hown0 : OwnB w w.heap.size (.slice none 0 0) [] := World.ownsRow_nil _ _ _ _
  go_enter Try.func20, Try.ntmps20
  go_wp2
  go_loopw [0, 3, 4] (fun x v i wr => ∃ k : Nat, k ≤ 4 ∧ i = .int .i64 (k : Int) ∧ x = .int .u32 ((s / 256 ^ k : Nat) : Int) ∧ OwnB wr w.heap.size v ((tailC s).take k) ∧ Below w.heap.size w wr) (fun _ _ i _ => 4 - (intOf i).toNat)
  case atStart => exact ⟨0, by omega, rfl, by simp, hown0, Below.refl _ _⟩
  case round =>
    obtain ⟨k, hk, rfl, rfl, hown, hbw⟩ := hrel
    by_cases hlt : k < 4
    · have HT := Lib.hid (tail_step s k hlt)
      have hpl : ((tailC s).take k).length + 1 ≤ 140737488355328 := by rw [List.length_take]; omega
      have hz : Hid (s / 256 ^ (k + 1) = s / 256 ^ k / 256) := Lib.hid (by rw [Nat.pow_succ, Nat.div_div_eq_div_mul])
      have hx : s / 256 ^ k < 4294967296 := Nat.lt_of_le_of_lt (Nat.div_le_self _ _) hs
      obtain ⟨x, hxe⟩ : ∃ x, s / 256 ^ k = x := ⟨_, rfl⟩
      rw [hxe] at HT hz hx
      rw [hxe]
      clear hxe hown0
      obtain ⟨ys, hys⟩ : ∃ ys, (tailC s).take k = ys := ⟨_, rfl⟩
      rw [hys] at hown HT hpl
      clear hys
      have hrow := byte_row' wr x
      have hown := hown.alloc (.cells #[.int .u8 ((x : Int) % 256)] 5)
      have hbw := hbw.alloc hbw.size (.cells #[.int .u8 ((x : Int) % 256)] 5)
      have hs2 := hbw.size
      have HB := Lib.hid hbw
      clear hbw
      go_wp2_with (at_builtin; refine wpList_app_row rfl (.tmp 9) (.tmp 13) rfl w.heap.size _ ys rfl hown _ _ 1 1 [UInt8.ofNat (x % 256)] rfl rfl hrow hpl hs2 ?_; intro v3 w3 hown3 _ hb3 _)
      go_roundw
      case rel => exact ⟨k + 1, by omega, by go_num, by rw [hz.out]; go_num, by rw [HT.out]; exact hown3, HB.out.trans hb3⟩
      case measure => simp [intOf]; omega
    · obtain rfl : k = 4 := by omega
      go_wp2
      go_ret
      exact ⟨_, rfl, hown, hbw⟩

/-- What Whole answers. -/
def WholePost (w : World) (l : List UInt8) (e : Ending) (w' : World) : Prop :=
  ∃ v, e = .returned (.tuple #[v, .bool (endsC l)]) ∧ OwnB w' w.heap.size v (if endsC l then l.take (l.length - 4) else []) ∧ Below w.heap.size w w'
theorem WholePost.no {w w' : World} {l : List UInt8} (h : endsC l = false) (hb : Below w.heap.size w w') : WholePost w l (.returned (.tuple #[.slice none 0 0, .bool false])) w' :=
  ⟨_, by rw [h], by rw [h]; exact World.ownsRow_nil _ _ _ _, hb⟩
theorem WholePost.yes {w w' : World} {l : List UInt8} {v : Value} (h : endsC l = true) (ho : OwnB w' w.heap.size v (l.take (l.length - 4))) (hb : Below w.heap.size w w') : WholePost w l (.returned (.tuple #[v, .bool true])) w' :=
  ⟨_, by rw [h], by rw [h]; exact ho, hb⟩
theorem endsC_short {l : List UInt8} (h : l.length < 4) : endsC l = false := by
  rw [endsC, decide_eq_false]
  omega
theorem endsC_is {l : List UInt8} {m : Nat} (h : l.length = m + 4) : endsC l = decide (l.drop m = tailC (sumC (l.take m))) := by
  have e : l.length - 4 = m := by omega
  rw [endsC, e]
  exact decide_eq_decide.2 ⟨fun h => h.2, fun h' => ⟨by omega, h'⟩⟩
theorem crc_sum1 (A : Option Addr) (c n B g : Nat) (l : List UInt8) (w : World) (hn : n = l.length) (h : RdB w B A c l) (hg : w.heap[g]? = some (.cells #[.slice A n c] 25 (0, 0))) :
    Calls Try.prog 18 #[.slice (some ⟨g, 0, none⟩) 1 1] w fun e w' => e = .returned (.int .u32 ((sumC l : Nat) : Int)) ∧ w = w' := by
  subst hn
  have := crc_sum (some ⟨g, 0, none⟩) 1 1 (g + 1) B [(A, c, l)] w rfl (by omega) ⟨RowAt.of_block hg, fun p hp => by
    obtain rfl : p = (A, c, l) := by simpa using hp
    exact h⟩
  rwa [show allP [(A, c, l)] = l by simp [allP]] at this

set_option maxHeartbeats 1000000 in
set_option maxRecDepth 100000 in
theorem crc_whole (A : Option Addr) (c n B : Nat) (l : List UInt8) (w : World) (hn : n = l.length) (h : RdB w B A c l) (hB : B ≤ w.heap.size) (hm : n ≤ 1000000) :
    Calls Try.prog 23 #[.slice A n c] w (WholePost w l) := by
  by_cases h4 : n < 4
  · have fin := Lib.hid (WholePost.no (endsC_short (l := l) (by omega)) (Below.refl w.heap.size w))
    go_enter Try.func23, Try.ntmps23
    go_wp2
    go_ret2
    exact fin.out
  · obtain ⟨m, hnm⟩ : ∃ m, n = m + 4 := ⟨n - 4, by omega⟩
    have hE := endsC_is (l := l) (m := m) (by omega)
    have hroom := h.room
    have e1 : (n : Int) - 4 = (m : Int) := by omega
    have K1 := fun w : World => run_take (T := 25) (E := 5) Try.underlying25 byte_size w A n c m (by omega)
    have K2 := fun w : World => run_cut (T := 25) (E := 5) Try.underlying25 byte_size w A n c m (by omega)
    have HNM := Lib.hid hnm
    have HN := Lib.hid hn
    have hn4 : n - m = 4 := by omega
    clear hn hnm
    go_enter Try.func23, Try.ntmps23
    go_wp2
    go_quiet (fail)
    have hn := HN.out
    have hnm := HNM.out
    have hr1 := (h.take m).quiet (grown_quiet (w := w) (n := nq) rfl) hB
    have hr2 := (h.cut (k := m) (by omega)).quiet (grown_quiet (w := w) (n := nq) rfl) hB
    have hb0 : Below w.heap.size w (w.drewN nq) := below_quiet rfl
    have hB0 : B ≤ (w.drewN nq).heap.size := hB
    have hlt := sumC_lt (l.take m)
    have HT1 : Hid (m = (l.take m).length) := Lib.hid (by rw [List.length_take]; omega)
    have HT2 : Hid (4 = (l.drop m).length) := Lib.hid (by rw [List.length_drop]; omega)
    have HT3 : Hid (l.take m = l.take (l.length - 4)) := Lib.hid (by congr 1; omega)
    have hl1 : (l.take m).length ≤ 140737488355328 := by rw [List.length_take]; omega
    have HE := Lib.hid hE
    generalize l.take m = t1 at *
    generalize l.drop m = t2 at *
    generalize w.drewN nq = w0 at *
    clear hn hnm hE h hroom
    replace hr1 := hr1.quiet (World.grownBy_alloc w0 (.cells #[.slice A m c] 25) none) hB0
    replace hr2 := hr2.quiet (World.grownBy_alloc w0 (.cells #[.slice A m c] 25) none) hB0
    replace hb0 := hb0.alloc hb0.size (.cells #[.slice A m c] 25)
    replace hB0 : B ≤ (w0.alloc (.cells #[.slice A m c] 25)).heap.size := by simp; omega
    go_wp2_with fail
    refine (crc_sum1 A c m B _ t1 _ HT1.out hr1 (heap_new _ _ _ rfl)).mono ?_; rintro e w1 ⟨rfl, rfl⟩
    go_wp2_with fail
    refine (crc_tail _ _ hlt).mono ?_; rintro e w2 ⟨v2, rfl, hown2, hb2⟩
    obtain ⟨A2, c2, rfl, hr3⟩ := hown2.read
    replace hr1 := hr1.quiet (grown_of_below hb2 none) hB0
    replace hr2 := hr2.quiet (grown_of_below hb2 none) hB0
    replace hB0 := Nat.le_trans hB0 hb2.size
    replace hb0 := hb0.trans (hb2.mono hb0.size)
    clear hown2 hb2
    go_wp2_with fail
    refine (bytes_equal (cutA A m c) A2 (c - m) c2 4 4 B w2.heap.size t2 (tailC (sumC t1)) _ HT2.out rfl hr2.row hr3.row).mono ?_; rintro e w3 ⟨rfl, rfl⟩
    by_cases heq : t2 = tailC (sumC t1)
    · have hends : endsC l = true := by rw [HE.out]; exact decide_eq_true heq
      have HEN := Lib.hid hends
      have hd := decide_eq_true heq
      clear hends heq
      go_wp2_with fail
      refine (bytes_clone A c m B t1 _ HT1.out hr1 hB0 hl1).mono ?_; rintro e w4 ⟨v4, rfl, hown4, hb4⟩
      go_wp2
      go_ret2
      exact .yes HEN.out (by rw [← HT3.out]; exact hown4.mono hb0.size) (hb0.trans (hb4.mono hb0.size))
    · have hends : endsC l = false := by rw [HE.out]; exact decide_eq_false heq
      have HEN := Lib.hid hends
      have hd := decide_eq_false heq
      clear hends heq
      go_wp2
      go_ret2
      exact .no HEN.out hb0

theorem crc_whole_yes (A : Option Addr) (c n B : Nat) (l : List UInt8) (w : World) (hn : n = l.length) (h : RdB w B A c l) (hB : B ≤ w.heap.size) (hm : n ≤ 1000000) (he : endsC l = true) (t : List UInt8) (ht : t = l.take (l.length - 4)) :
    Calls Try.prog 23 #[.slice A n c] w fun e w' => ∃ v, e = .returned (.tuple #[v, .bool true]) ∧ OwnB w' w.heap.size v t ∧ Below w.heap.size w w' :=
  (crc_whole A c n B l w hn h hB hm).mono fun e w' ⟨v, h1, h2, h3⟩ => ⟨v, by rw [h1, he], by rw [he, if_pos rfl, ← ht] at h2; exact h2, h3⟩
theorem crc_whole_no (A : Option Addr) (c n B : Nat) (l : List UInt8) (w : World) (hn : n = l.length) (h : RdB w B A c l) (hB : B ≤ w.heap.size) (hm : n ≤ 1000000) (he : endsC l = false) :
    Calls Try.prog 23 #[.slice A n c] w fun e w' => ∃ v, e = .returned (.tuple #[v, .bool false]) ∧ OwnB w' w.heap.size v [] ∧ Below w.heap.size w w' :=
  (crc_whole A c n B l w hn h hB hm).mono fun e w' ⟨v, h1, h2, h3⟩ => ⟨v, by rw [h1, he], by rw [he] at h2; exact h2, h3⟩
theorem endsC_long {l : List UInt8} (h : endsC l = true) : 4 ≤ l.length := (of_decide_eq_true h).1

end Go.Proofs.Ytonghhnodpjkfaa
