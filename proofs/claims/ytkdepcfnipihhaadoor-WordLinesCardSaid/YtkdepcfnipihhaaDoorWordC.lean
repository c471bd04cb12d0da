/-
  Layer 5 (word): a text's word.
-/
import Derived.Test.YtkdepcfnipihhaaDoorWordB
import Derived.Test.YtkdepcfnipihhaaDoorMore
namespace Go.Proofs.YtkdepcfnipihhaaDoor
open Go.RowKit

/-- The builder at block b holds l. -/
def BldAt (B b : Nat) (l : List UInt8) (w : World) : Prop := Lib.IsBuilder 37 5 B b (Lib.byteCells l) w
theorem byteCells_snoc (l : List UInt8) (c : UInt8) : Lib.byteCells l ++ [.int .u8 (c.toNat : Int)] = Lib.byteCells (l ++ [c]) := by simp [Lib.byteCells]
theorem byteCells_len (l : List UInt8) : (Lib.byteCells l).length = l.length := by simp [Lib.byteCells]
theorem bld_put {B b : Nat} {l : List UInt8} {w : World} (h : BldAt B b l w) (hl : l.length + 1 ≤ 140737488355328) (hB : B ≤ w.heap.size) (c : UInt8) :
    Calls Tryd.prog 14 #[.pointer (some ⟨b, 0, none⟩), .int .u8 (c.toNat : Int)] w fun e w' => e = .returned .nilIface ∧ BldAt B b (l ++ [c]) w' ∧ Below B w w' ∧ B ≤ w'.heap.size := by
  refine (Tryd.Builder_WriteByte B b _ (c.toNat : Int) w h (by rw [byteCells_len]; exact hl) hB).mono ?_
  rintro e w' ⟨rfl, h1, h2⟩
  rw [byteCells_snoc] at h1
  exact ⟨rfl, .inr h1, h2, Nat.le_trans hB h2.size⟩
theorem bld_text {B b : Nat} {l : List UInt8} {w : World} (h : BldAt B b l w) (hB : B ≤ w.heap.size) :
    Calls Tryd.prog 15 #[.pointer (some ⟨b, 0, none⟩)] w fun e w' => e = .returned (.string (str l)) ∧ Below B w w' :=
  Tryd.Builder_String_any B b l w h hB
theorem bld_new (w : World) : BldAt w.heap.size w.heap.size [] (w.alloc (.cells #[.pointer none, .slice none 0 0] 37)) :=
  .inl ⟨Nat.le_refl _, .slice none 0 0, heap_new w _ _ rfl, ⟨rfl, .inl ⟨rfl, rfl⟩⟩, by simp [Value.ownBlock]⟩
theorem bld_grow (w : World) (n : Nat) (hn : n ≤ 281474976710656) :
    Calls Tryd.prog 16 #[.pointer (some ⟨w.heap.size, 0, none⟩), .int .i64 (n : Int)] (w.alloc (.cells #[.pointer none, .slice none 0 0] 37)) fun e w' => e = .returned (.tuple #[]) ∧ BldAt w.heap.size w.heap.size [] w' ∧ Below w.heap.size w w' ∧ w.heap.size ≤ w'.heap.size := by
  refine (Tryd.Builder_Grow_fresh w.heap.size w.heap.size n _ (Nat.le_refl _) (heap_new w _ _ rfl) (by simp) hn).mono ?_
  rintro e w' ⟨rfl, h1, h2⟩
  have hb := (Below.refl w.heap.size w).alloc (Nat.le_refl _) (.cells #[.pointer none, .slice none 0 0] 37)
  exact ⟨rfl, .inr h1, hb.trans h2, (hb.trans h2).size⟩

theorem ret_str {a b : ByteArray} (h : a = b) : Ending.returned (.string a) = .returned (.string b) := by rw [h]
theorem dig_get (n : Nat) (h : n < 16) : (⟨#[48, 49, 50, 51, 52, 53, 54, 55, 56, 57, 97, 98, 99, 100, 101, 102]⟩ : ByteArray)[n]'h = hexD n := by
  have : ∀ n, (h : n < 16) → (⟨#[48, 49, 50, 51, 52, 53, 54, 55, 56, 57, 97, 98, 99, 100, 101, 102]⟩ : ByteArray)[n]'h = hexD n := by decide +kernel
  exact this n h

set_option maxHeartbeats 400000 in
theorem wrd_of (s : List UInt8) (hs : s.length ≤ 1000000) (w : World) : Calls Tryd.prog 7 #[.string (str s)] w fun e w' => e = .returned (.string (str (ofV s))) ∧ Below w.heap.size w w' := by
  by_cases hn : s = []
  · subst hn
    obtain ⟨S, hS⟩ : ∃ S, str [] = S := ⟨_, rfl⟩
    have h1 : S.toList = [] := by rw [← hS]; exact str_toList []
    have h2 : S.toList.isEmpty = true := by rw [h1]; rfl
    rw [hS]
    clear hS
    go_enter Tryd.func7, Tryd.ntmps7
    go_wp2_with fail
    go_ret
    exact ⟨rfl, Below.refl _ _⟩
  · have hz : (str s).size = s.length := str_size s
    have h1 : (!(str s).toList.isEmpty) = true := by rw [str_toList]; simpa using hn
    have h2 : (str s).toList.isEmpty = false := by rw [str_toList]; simpa using hn
    have hL : ∀ k, (h : k < (str s).size) → (str s)[k] = s.getD k 0 := fun k h => str_at s k h
    have hne := Lib.hid hn
    clear hn
    generalize str s = S at hz h1 h2 hL ⊢
    obtain ⟨N, hN⟩ : ∃ N, s.length = N := ⟨_, rfl⟩
    have HL := Lib.hid hL
    clear hL
    have HN := Lib.hid hN
    rw [hN] at hs hz
    clear hN
    have hsz1 : S.size ≤ N := by omega
    have hsz2 : N ≤ S.size := by omega
    have HZ := Lib.hid hz
    clear hz
    go_enter Tryd.func7, Tryd.ntmps7
    go_wp2_with (go_at_call 16; refine (bld_grow w _ (by omega)).mono ?_; rintro e w1 ⟨rfl, hb1, hbel1, hsz1⟩)
    go_loopw [13] (fun i wr => ∃ k : Nat, k ≤ N ∧ i = .int .i64 k ∧ BldAt w.heap.size w.heap.size (spells (s.take k)) wr ∧ Below w.heap.size w wr ∧ w.heap.size ≤ wr.heap.size) (fun i _ => N - (intOf i).toNat)
    case atStart => exact ⟨0, by omega, rfl, by simpa [spells] using hb1, hbel1, hsz1⟩
    case round =>
      obtain ⟨k, hk, rfl, hbk, hbelk, hszk⟩ := hrel
      clear hb1 hbel1 hsz1
      have hln := (spells_len (s.take k)).2
      have htk : (s.take k).length ≤ k := by rw [List.length_take]; omega
      by_cases hlt : k < N
      · have hx := HL.out k (by omega)
        have hsn := take_snoc_getD s k (by have := HN.out; omega)
        have HS := Lib.hid hsn
        clear hsn
        obtain ⟨c, hc⟩ : ∃ c, s.getD k 0 = c := ⟨_, rfl⟩
        rw [hc] at hx HS
        clear hc
        cases hp : plainB c with
        | true =>
          go_wp2_with (first | (go_at_call 17; refine (wrd_plain c _).mono ?_; rintro e w' ⟨rfl, rfl⟩) | (go_at_call 14; refine (bld_put hbk (by omega) hszk c).mono ?_; rintro e w2 ⟨rfl, hb2, hbel2, hsz2⟩))
          go_roundw
          case rel => exact ⟨k + 1, by omega, by go_num, by rw [HS.out, spells_snoc, spell_plain hp]; exact hb2, hbelk.trans hbel2, hsz2⟩
          case measure => simp [intOf]; omega
        | false =>
          go_wp2_with (go_at_call 17; refine (wrd_plain c _).mono ?_; rintro e w' ⟨rfl, rfl⟩)
          refine (bld_put hbk (by omega) hszk 45).mono ?_
          rintro e w2 ⟨rfl, hb2, hbel2, hsz2⟩
          have hc1 : (c.toNat : Int) / 16 < 16 := by have := c.toNat_lt; omega
          have hc2 : (0 : Int) ≤ (c.toNat : Int) / 16 := by omega
          go_wp2_with fail
          refine (bld_put hb2 (by simp; omega) hsz2 _).mono ?_
          rintro e w3 ⟨rfl, hb3, hbel3, hsz3⟩
          have hc3 : (c.toNat : Int) % 16 < 16 := by omega
          have hc4 : (0 : Int) ≤ (c.toNat : Int) % 16 := by omega
          go_wp2_with fail
          refine (bld_put hb3 (by simp; omega) hsz3 _).mono ?_
          rintro e w4 ⟨rfl, hb4, hbel4, hsz4⟩
          rw [dig_get _ (by omega), dig_get _ (by omega)] at hb4
          go_wp2_with fail
          go_roundw
          case rel => exact ⟨k + 1, by omega, by go_num, by rw [HS.out, spells_snoc, spell_other hp]; simpa using hb4, ((hbelk.trans hbel2).trans hbel3).trans hbel4, hsz4⟩
          case measure => simp [intOf]; omega
      · have hk' : k = N := by omega
        have hfin : s.take k = s := List.take_of_length_le (by have := HN.out; omega)
        have HF := Lib.hid hfin
        clear hfin hk'
        go_wp2_with (go_at_call 15; refine (bld_text hbk hszk).mono ?_; rintro e w2 ⟨rfl, hbel2⟩)
        go_ret
        exact ⟨ret_str (by rw [HF.out, ofV_some hne.out]), hbelk.trans hbel2⟩

/-! ### A word's text -/
/-- What comes back of a word: its text; or nothing, if it is none's. -/
def ReadV (w : List UInt8) (e : Ending) : Prop :=
  (∃ t, ofV t = w ∧ e = .returned (.tuple #[.string (str t), .bool true])) ∨ ((∀ t, ofV t ≠ w) ∧ e = .returned (.tuple #[.string (str []), .bool false]))
theorem BldAt.drewN {B b : Nat} {l : List UInt8} {w : World} (h : BldAt B b l w) (n : Nat) : BldAt B b l (w.drewN n) := h
theorem str_nil : str [] = ⟨#[]⟩ := rfl
theorem list_ne {a b : List UInt8} (h : a ≠ b) : (a == b) = false := by simpa using h
theorem list_empty {a : List UInt8} (h : a ≠ []) : a.isEmpty = false := by simpa using h
theorem str_cut (r a : List UInt8) (n : Nat) (h : r.drop n = a) : (str r).extract n (str r).size = str a := by rw [str_size, str_drop, h]
set_option maxHeartbeats 1000000 in
theorem wrd_read (s : List UInt8) (hs : s.length ≤ 1000000) (w : World) : Calls Tryd.prog 6 #[.string (str s)] w fun e w' => ReadV s e ∧ Below w.heap.size w w' := by
  by_cases h95 : s = [95]
  · subst h95
    obtain ⟨S, hS⟩ : ∃ S, str [95] = S := ⟨_, rfl⟩
    have h1 : S.toList = [95] := by rw [← hS]; exact str_toList [95]
    rw [hS]
    clear hS
    go_enter Tryd.func6, Tryd.ntmps6
    go_wp2_with fail
    go_ret2
    exact ⟨.inl ⟨[], rfl, rfl⟩, Below.refl _ _⟩
  · have hn95 : ((str s).toList == [95]) = false := by rw [str_toList]; exact list_ne h95
    have H95 := Lib.hid h95
    clear h95
    by_cases hnil : s = []
    · subst hnil
      have h1 : (str []).toList = [] := str_toList []
      generalize str [] = S at hn95 h1 ⊢
      have h2 : S.toList.isEmpty = true := by rw [h1]; rfl
      go_enter Tryd.func6, Tryd.ntmps6
      go_wp2_with fail
      go_ret2
      exact ⟨.inr ⟨fun t => ofV_ne t, rfl⟩, Below.refl _ _⟩
    · have hne : (str s).toList.isEmpty = false := by rw [str_toList]; exact list_empty hnil
      have HN := Lib.hid hnil
      clear hnil
      have hb0 := bld_new w
      obtain ⟨S, hS⟩ : ∃ S, str s = S := ⟨_, rfl⟩
      rw [hS] at hn95 hne ⊢
      have HS := Lib.hid hS
      clear hS
      go_enter Tryd.func6, Tryd.ntmps6
      go_wp2_with fail
      go_loopw [0] (fun v wr => ∃ t r : List UInt8, s = spells t ++ r ∧ v = .string (str r) ∧ BldAt w.heap.size w.heap.size t wr ∧ Below w.heap.size w wr ∧ w.heap.size ≤ wr.heap.size) (fun v _ => match v with | .string x => x.size | _ => 0)
      case atStart => exact ⟨[], s, rfl, by rw [HS.out], hb0, (Below.refl _ _).alloc (Nat.le_refl _) _, by simp⟩
      case round =>
        obtain ⟨t, r, hsr, rfl, hbt, hbelt, hszt⟩ := hrel
        have hlt : t.length ≤ 1000000 := by
          have := (spells_len t).1
          have : s.length = (spells t).length + r.length := by rw [hsr, List.length_append]
          omega
        have HSR := Lib.hid hsr
        clear hsr hb0
        by_cases hr : r = []
        · subst hr
          have h1 : (str []).toList = [] := str_toList []
          generalize str [] = R at h1 ⊢
          have h2 : R.toList.isEmpty = true := by rw [h1]; rfl
          go_wp2_with (go_at_call 15; refine (bld_text hbt hszt).mono ?_; rintro e w2 ⟨rfl, hbel2⟩)
          go_ret2
          exact ⟨.inl ⟨t, word_of HN.out (by simpa using HSR.out), rfl⟩, hbelt.trans hbel2⟩
        · have hRe : (str r).toList.isEmpty = false := by rw [str_toList]; exact list_empty hr
          have C := wrd_first r hr wr
          have hrl := str_size r
          obtain ⟨R, hR⟩ : ∃ R, str r = R := ⟨_, rfl⟩
          rw [hR] at hRe C hrl ⊢
          have HR := Lib.hid hR
          have HRL := Lib.hid hrl
          have HRN := Lib.hid hr
          clear hR hrl hr
          go_wp2_with fail
          refine C.mono ?_
          rintro e w2 ⟨h | h, n0, rfl⟩
          · obtain ⟨c, a, hra, rfl⟩ := h
            obtain ⟨hn1, hn3⟩ := spell_len c
            have hra' : r.length = (spell c).length + a.length := by rw [hra, List.length_append]
            have hdr : r.drop (spell c).length = a := by rw [hra]; simp
            have hsz : (spell c).length ≤ R.size := by have := HRL.out; omega
            have hcut : R.extract (spell c).length R.size = str a := by rw [← HR.out]; exact str_cut r a _ hdr
            have hsa : R.size = (spell c).length + a.length := by have := HRL.out; omega
            have HSA := Lib.hid hsa
            have HC := Lib.hid hcut
            have HRA := Lib.hid hra
            clear hcut hsa hra hra' hdr C
            obtain ⟨n, hn⟩ : ∃ n, (spell c).length = n := ⟨_, rfl⟩
            rw [hn] at hn1 hn3 hsz HSA HC ⊢
            clear hn
            go_wp2_with (go_at_call 14; refine (bld_put (hbt.drewN n0) (by omega) hszt c).mono ?_; rintro e w3 ⟨rfl, hb3, hbel3, hsz3⟩)
            go_roundw
            case rel => exact ⟨t ++ [c], a, by rw [HSR.out, HRA.out, spells_snoc, List.append_assoc], by rw [HC.out], hb3, (below_drewN hbelt n0).trans hbel3, hsz3⟩
            case measure =>
              rw [HC.out]
              show (str a).size < R.size
              rw [str_size]
              have := HSA.out
              omega
          · obtain ⟨hno, rfl⟩ := h
            go_wp2_with fail
            go_ret2
            exact ⟨.inr ⟨no_word H95.out HSR.out HRN.out hno, rfl⟩, below_drewN hbelt n0⟩
end Go.Proofs.YtkdepcfnipihhaaDoor
