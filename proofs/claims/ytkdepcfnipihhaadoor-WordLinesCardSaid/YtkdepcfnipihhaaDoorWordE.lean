/-
  Layer 5 (word): Split; may a word be in a line?
-/
import Derived.Test.YtkdepcfnipihhaaDoorWordD
namespace Go.Proofs.YtkdepcfnipihhaaDoor
open Go.RowKit

/-- The library's own variable holds some number. -/
def MaxAt (w : World) : Prop := ∃ m, w.cell? ⟨0, 0, none⟩ = some (.int .i64 m)
theorem MaxAt.lt {w : World} (h : MaxAt w) : 0 < w.heap.size := by
  obtain ⟨m, h⟩ := h
  rcases Nat.lt_or_ge 0 w.heap.size with hlt | hge
  · exact hlt
  · exfalso
    simp [World.cell?, Array.getElem?_eq_none hge] at h
theorem MaxAt.below {w w' : World} {B : Nat} (h : MaxAt w) (hb : Below B w w') (hB : w.heap.size ≤ B) : MaxAt w' := by
  have hl := h.lt
  obtain ⟨m, h⟩ := h
  exact ⟨m, (hb.cell (p := ⟨0, 0, none⟩) (by show 0 < B; omega)).trans h⟩

theorem wrd_has (S : ByteArray) (c : UInt8) (b : Bool) (hb : S.data.toList.contains c = b) (w : World) : Calls Tryd.prog 20 #[.string S, .string ⟨#[c]⟩] w fun e w' => e = .returned (.bool b) ∧ w = w' := by
  refine (Tryd.strings_Contains_one S c w).mono ?_
  rintro e w' ⟨rfl, rfl⟩
  exact ⟨ret_bool (by rw [indexByte_mem, hb]), rfl⟩
theorem wrd_two (S : ByteArray) (b : Bool) (hb : Lib.contains S.data.toList [32, 32] = b) (w : World) (hs : S.size < 4294967281) (hm : MaxAt w) : Calls Tryd.prog 20 #[.string S, .string ⟨#[32, 32]⟩] w fun e w' => e = .returned (.bool b) ∧ w = w' := by
  obtain ⟨m, hm⟩ := hm
  refine (Tryd.strings_Contains S ⟨#[32, 32]⟩ m w hs hm).mono ?_
  rintro e w' ⟨rfl, rfl⟩
  exact ⟨ret_bool hb, rfl⟩
theorem wrd_pre (S : ByteArray) (b : Bool) (hb : Lib.hasPrefix S.data.toList [32] = b) (w : World) : Calls Tryd.prog 22 #[.string S, .string ⟨#[32]⟩] w fun e w' => e = .returned (.bool b) ∧ w = w' := by
  refine (Tryd.strings_HasPrefix S ⟨#[32]⟩ w).mono ?_
  rintro e w' ⟨rfl, rfl⟩
  exact ⟨ret_bool hb, rfl⟩
theorem wrd_suf (S : ByteArray) (b : Bool) (hb : Lib.hasSuffix S.data.toList [32] = b) (w : World) (hs : S.size < 4294967281) : Calls Tryd.prog 23 #[.string S, .string ⟨#[32]⟩] w fun e w' => e = .returned (.bool b) ∧ w = w' := by
  refine (Tryd.strings_HasSuffix S ⟨#[32]⟩ w (by omega)).mono ?_
  rintro e w' ⟨rfl, rfl⟩
  exact ⟨ret_bool hb, rfl⟩

/-- What Split hands back: no words; or those of the line. -/
def SplitV (s : List UInt8) (w : World) (e : Ending) (w' : World) : Prop :=
  (s = [] ∧ e = .returned (.tuple #[.slice none 0 0, .bool true]) ∧ w = w') ∨
  (s ≠ [] ∧ badB s = true ∧ e = .returned (.tuple #[.slice none 0 0, .bool false]) ∧ w = w') ∨
  (s ≠ [] ∧ badB s = false ∧ ∃ A, e = .returned (.tuple #[.slice A (cutsV s).length (cutsV s).length, .bool true]) ∧ RowAt w' w'.heap.size A (strs (cutsV s)) ∧ Below w.heap.size w w')
theorem strs_map (l : List ByteArray) : strs (l.map (·.data.toList)) = l.map Value.string := by
  simp [strs, List.map_map, Function.comp_def, str_of]
theorem wrd_cut (s : List UInt8) (S : ByteArray) (hS : str s = S) (w : World) (hs : s.length < 4294967281) (hm : MaxAt w) : Calls Tryd.prog 24 #[.string S, .string ⟨#[32]⟩] w fun e w' =>
    ∃ A, e = .returned (.slice A (cutsV s).length (cutsV s).length) ∧ RowAt w' w'.heap.size A (strs (cutsV s)) ∧ Below w.heap.size w w' := by
  subst hS
  obtain ⟨m, hm⟩ := hm
  have h1 : (1 : Nat) ≤ (⟨#[32]⟩ : ByteArray).size := by decide
  have e1 : (Lib.splitB ⟨#[32]⟩ 0 (Lib.countB (str s) ⟨#[32]⟩) (str s)).map (·.data.toList) = cutsV s := by
    rw [Lib.splitB_data, ← split_cuts _ s (Nat.le_refl _)]
    unfold Lib.split
    simp only [Lib.countB, str_data]
  have e2 : Lib.countB (str s) ⟨#[32]⟩ + 1 = (cutsV s).length := by
    rw [← Lib.splitB_all ⟨#[32]⟩ h1 0 _ (str s) rfl, ← e1, List.length_map]
  refine (Tryd.strings_Split (str s) ⟨#[32]⟩ m w (by rw [str_size]; exact hs) hm h1).mono ?_
  rintro e w' ⟨rfl, rfl⟩
  rw [e2]
  refine ⟨_, rfl, ?_, (Below.refl _ _).alloc (Nat.le_refl _) _⟩
  have hr := RowAt.of_block (heap_new w (.cells ((Lib.splitB ⟨#[32]⟩ 0 (Lib.countB (str s) ⟨#[32]⟩) (str s)).map Value.string).toArray 9) w.heap.size rfl)
  rw [← e1, strs_map]
  simpa using hr

set_option maxHeartbeats 1000000 in
theorem wrd_split (s : List UInt8) (hs : s.length ≤ 1000000) (w : World) (hm : MaxAt w) : Calls Tryd.prog 12 #[.string (str s)] w (SplitV s w) := by
  by_cases hnil : s = []
  · subst hnil
    obtain ⟨S, hS⟩ : ∃ S, str [] = S := ⟨_, rfl⟩
    have h1 : S.toList = [] := by rw [← hS]; exact str_toList []
    have h2 : S.toList.isEmpty = true := by rw [h1]; rfl
    rw [hS]
    clear hS
    go_enter Tryd.func12, Tryd.ntmps12
    go_wp2_with fail
    go_ret2
    exact .inl ⟨rfl, rfl, rfl⟩
  · have hne : (str s).toList.isEmpty = false := by rw [str_toList]; exact list_empty hnil
    obtain ⟨S, hS⟩ : ∃ S, str s = S := ⟨_, rfl⟩
    have hsz : S.size < 4294967281 := by rw [← hS, str_size]; omega
    have hd : S.data.toList = s := by rw [← hS]; exact str_data s
    have hbad : badB s = (S.data.toList.contains 10 || Lib.contains S.data.toList [32, 32] || Lib.hasPrefix S.data.toList [32] || Lib.hasSuffix S.data.toList [32]) := by rw [hd]; rfl
    have Hcut := wrd_cut s S hS w (by omega) hm
    rw [hS] at hne ⊢
    have K1 := wrd_has S 10
    have K2 := wrd_two S
    have K3 := wrd_pre S
    have K4 := wrd_suf S
    have HN := Lib.hid hnil
    clear hnil hd hS hs
    obtain ⟨b1, h1⟩ : ∃ b, S.data.toList.contains 10 = b := ⟨_, rfl⟩
    obtain ⟨b2, h2⟩ : ∃ b, Lib.contains S.data.toList [32, 32] = b := ⟨_, rfl⟩
    obtain ⟨b3, h3⟩ : ∃ b, Lib.hasPrefix S.data.toList [32] = b := ⟨_, rfl⟩
    obtain ⟨b4, h4⟩ : ∃ b, Lib.hasSuffix S.data.toList [32] = b := ⟨_, rfl⟩
    rw [h1, h2, h3, h4] at hbad
    have K1 := Lib.hid (K1 _ h1 w)
    have K2 := Lib.hid (K2 _ h2 w hsz hm)
    have K3 := Lib.hid (K3 _ h3 w)
    have K4 := Lib.hid (K4 _ h4 w hsz)
    have HB := Lib.hid hbad
    have HC := Lib.hid Hcut
    clear h1 h2 h3 h4 hbad Hcut
    cases b1 <;> cases b2 <;> cases b3 <;> cases b4
    case false.false.false.false =>
      go_enter Tryd.func12, Tryd.ntmps12
      go_wp2_with (first | ((with_reducible refine K1.out.mono ?_); rintro e w' ⟨rfl, rfl⟩) | ((with_reducible refine K2.out.mono ?_); rintro e w' ⟨rfl, rfl⟩) | ((with_reducible refine K3.out.mono ?_); rintro e w' ⟨rfl, rfl⟩) | ((with_reducible refine K4.out.mono ?_); rintro e w' ⟨rfl, rfl⟩) | ((with_reducible refine HC.out.mono ?_); rintro e w' ⟨A, rfl, hrow, hbel⟩))
      go_ret2
      exact .inr (.inr ⟨HN.out, HB.out, A, rfl, hrow, hbel⟩)
    all_goals
      go_enter Tryd.func12, Tryd.ntmps12
      go_wp2_with (first | ((with_reducible refine K1.out.mono ?_); rintro e w' ⟨rfl, rfl⟩) | ((with_reducible refine K2.out.mono ?_); rintro e w' ⟨rfl, rfl⟩) | ((with_reducible refine K3.out.mono ?_); rintro e w' ⟨rfl, rfl⟩) | ((with_reducible refine K4.out.mono ?_); rintro e w' ⟨rfl, rfl⟩))
      go_ret2
      exact .inr (.inl ⟨HN.out, HB.out, rfl, rfl⟩)

theorem may_stop {x : List UInt8} {k : Nat} (hk : k < x.length) (h : x.getD k 0 = 32 ∨ x.getD k 0 = 10) : mayB x = false := by
  have hmem : x.getD k 0 ∈ x := by
    simp only [List.getD, List.getElem?_eq_getElem hk, Option.getD_some]
    exact List.getElem_mem hk
  cases hb : mayB x
  · rfl
  · exfalso
    obtain ⟨_, h2, h3⟩ := (mayB_iff x).1 hb
    rcases h with h | h
    · exact h2 (h ▸ hmem)
    · exact h3 (h ▸ hmem)
theorem may_end {x : List UInt8} (h : ∀ j, j < x.length → x.getD j 0 ≠ 32 ∧ x.getD j 0 ≠ 10) : mayB x = !x.isEmpty := by
  have hm : ∀ c ∈ x, c ≠ 32 ∧ c ≠ 10 := by
    intro c hc
    obtain ⟨j, hj, rfl⟩ := List.getElem_of_mem hc
    have := h j hj
    simpa [List.getD, List.getElem?_eq_getElem hj] using this
  unfold mayB
  have h1 : x.contains 32 = false := by
    rw [List.contains_eq_mem, decide_eq_false_iff_not]
    exact fun hc => (hm 32 hc).1 rfl
  have h2 : x.contains 10 = false := by
    rw [List.contains_eq_mem, decide_eq_false_iff_not]
    exact fun hc => (hm 10 hc).2 rfl
  rw [h1, h2]; simp
theorem byte_ne {c : UInt8} {n : Nat} (hn : n < 256) (h : ((c.toNat : Int) == (n : Int)) = false) : c ≠ UInt8.ofNat n := by
  intro e
  subst e
  simp at h
  omega
set_option maxHeartbeats 1000000 in
theorem rwd_may (x : List UInt8) (hx : x.length ≤ 1000000) (w : World) : Calls Tryd.prog 9 #[.string (str x)] w fun e w' => e = .returned (.bool (mayB x)) ∧ w = w' := by
  have hz : (str x).size = x.length := str_size x
  have hL : ∀ k, (h : k < (str x).size) → (str x)[k] = x.getD k 0 := fun k h => str_at x k h
  have hE : (str x).toList.isEmpty = x.isEmpty := by rw [str_toList]
  generalize str x = S at hz hL hE ⊢
  obtain ⟨N, hN⟩ : ∃ N, x.length = N := ⟨_, rfl⟩
  have HL := Lib.hid hL
  clear hL
  have HN := Lib.hid hN
  rw [hN] at hx hz
  clear hN
  have hsz1 : S.size ≤ N := by omega
  have hsz2 : N ≤ S.size := by omega
  have HZ := Lib.hid hz
  clear hz
  have HE := Lib.hid hE
  clear hE
  go_enter Tryd.func9, Tryd.ntmps9
  go_wp2_with fail
  go_loop [3] (fun i => ∃ k : Nat, k ≤ N ∧ i = .int .i64 k ∧ ∀ j, j < k → x.getD j 0 ≠ 32 ∧ x.getD j 0 ≠ 10) (fun i => N - (intOf i).toNat)
  case atStart => exact ⟨0, by omega, rfl, fun j hj => absurd hj (Nat.not_lt_zero _)⟩
  case round =>
    obtain ⟨k, hk, rfl, hal⟩ := hrel
    have HA := Lib.hid hal
    clear hal
    by_cases hlt : k < N
    · have hc := HL.out k (by omega)
      have hcc := hc
      obtain ⟨c, hcx⟩ : ∃ c, x.getD k 0 = c := ⟨_, rfl⟩
      rw [hcx] at hc
      have HCX := Lib.hid hcx
      clear hcx hcc
      have hk2 : k < S.size := by omega
      cases h1 : ((c.toNat : Int) == 32)
      · cases h2 : ((c.toNat : Int) == 10)
        · go_wp2_with fail
          go_round
          case rel =>
            refine ⟨k + 1, by omega, by go_num, fun j hj => ?_⟩
            by_cases hjk : j < k
            · exact HA.out j hjk
            · obtain rfl : j = k := by omega
              rw [HCX.out]
              exact ⟨byte_ne (n := 32) (by omega) h1, byte_ne (n := 10) (by omega) h2⟩
          case measure => simp [intOf]; omega
        · have hf : mayB x = false := may_stop (k := k) (by have := HN.out; omega) (.inr (by rw [HCX.out]; exact UInt8.toNat_inj.1 (by show c.toNat = 10; have := beq_iff_eq.1 h2; omega)))
          have HF := Lib.hid hf
          clear hf
          go_wp2_with fail
          go_ret
          exact ⟨ret_bool HF.out.symm, rfl⟩
      · have hf : mayB x = false := may_stop (k := k) (by have := HN.out; omega) (.inl (by rw [HCX.out]; exact UInt8.toNat_inj.1 (by show c.toNat = 32; have := beq_iff_eq.1 h1; omega)))
        have HF := Lib.hid hf
        clear hf
        go_wp2_with fail
        go_ret
        exact ⟨ret_bool HF.out.symm, rfl⟩
    · have hme := may_end (x := x) fun j hj => HA.out j (by have := HN.out; omega)
      have HM := Lib.hid hme
      clear hme
      cases he : x.isEmpty
      · have h1 : S.toList.isEmpty = false := HE.out.trans he
        rw [he] at HM
        clear he
        go_wp2_with fail
        go_ret
        exact ⟨ret_bool HM.out.symm, rfl⟩
      · have h1 : S.toList.isEmpty = true := HE.out.trans he
        have h2 : S.toList = [] := by simpa using h1
        rw [he] at HM
        clear he
        go_wp2_with fail
        go_ret
        exact ⟨ret_bool HM.out.symm, rfl⟩
end Go.Proofs.YtkdepcfnipihhaaDoor
