/-
  Layer 5 (word): lines of words: the document's, and Join's.
-/
import Derived.Test.YtkdepcfnipihhaaDoorWordE
namespace Go.Proofs.YtkdepcfnipihhaaDoor
open Go.RowKit

theorem take_snoc_strs (l : List (List UInt8)) (k : Nat) (h : k < l.length) : l.take (k + 1) = l.take k ++ [l.getD k []] := by
  rw [List.take_succ_eq_append_getElem h]; simp [List.getD, List.getElem?_eq_getElem h]
theorem line_take_zero {l : List (List UInt8)} (h : 0 < l.length) : lineV (l.take 1) = l.getD 0 [] := by
  rw [show (1 : Nat) = 0 + 1 from rfl, take_snoc_strs l 0 h]
  exact lineV_first _
theorem line_take_succ {l : List (List UInt8)} {k : Nat} (hk : k < l.length) (h0 : 0 < k) : lineV (l.take (k + 1)) = lineV (l.take k) ++ [32] ++ l.getD k [] := by
  rw [take_snoc_strs l k hk, lineV_snoc]
  intro e
  have := congrArg List.length e
  rw [List.length_take, List.length_nil] at this
  omega
theorem str_append (a b : List UInt8) : str a ++ str b = str (a ++ b) := by
  apply ByteArray.ext
  rw [ByteArray.data_append]
  simp [str]
theorem str_line {l : List (List UInt8)} {k : Nat} {x : List UInt8} (h : lineV (l.take (k + 1)) = lineV (l.take k) ++ [32] ++ x) : str (lineV (l.take k)) ++ (⟨#[32]⟩ : ByteArray) ++ str x = str (lineV (l.take (k + 1))) := by
  rw [h, ← str_append, ← str_append]
  rfl
theorem val_str {a b : ByteArray} (h : a = b) : Value.string a = .string b := by rw [h]
set_option maxHeartbeats 1000000 in
theorem rwd_line (A : Option Addr) (c B n m : Nat) (l : List (List UInt8)) (hn : n = l.length) (hl : l.length ≤ 1000) (hm : ∀ x ∈ l, x.length ≤ m) (hmm : m ≤ 100000) (w : World) (hr : RowAt w B A (strs l)) :
    Calls Tryd.prog 11 #[.slice A n c] w fun e w' => e = .returned (.string (str (lineV l))) ∧ w = w' := by
  have hS : ∀ k, k ≤ n → (lineV (l.take k)).length ≤ 1000 * 100001 := by
    intro k hk
    have h1 := lineV_len (l.take k) m fun x hx => hm x (List.mem_of_mem_take hx)
    have h2 : (l.take k).length ≤ 1000 := by rw [List.length_take]; omega
    have h3 := Nat.mul_le_mul h2 (show m + 1 ≤ 100001 by omega)
    omega
  have HS := Lib.hid hS
  have HN := Lib.hid hn
  have HM := Lib.hid hm
  have hn2 : n ≤ 1000 := by omega
  clear hS hm hn hl
  go_enter Tryd.func11, Tryd.ntmps11
  go_wp2_with fail
  go_loop [3, 4] (fun v i => ∃ k : Nat, k ≤ n ∧ i = .int .i64 k ∧ v = .string (str (lineV (l.take k)))) (fun _ i => n - (intOf i).toNat)
  case atStart => exact ⟨0, by omega, rfl, rfl⟩
  case round =>
    obtain ⟨k, hk, rfl, rfl⟩ := hrel
    by_cases hlt : k < n
    · obtain ⟨b0, o0, rfl, _, hc⟩ := hr.strs_at (by have := HN.out; omega)
      have hcell := hc k (by have := HN.out; omega)
      have hx1 : (l.getD k []).length ≤ m := by
        have hk' : k < l.length := by have := HN.out; omega
        have := HM.out l[k] (List.getElem_mem hk')
        simpa [List.getD, List.getElem?_eq_getElem hk'] using this
      have hs1 := HS.out k (by omega)
      have L0 := fun h => Lib.hid (line_take_zero (l := l) h)
      have LS := fun h1 h2 => Lib.hid (line_take_succ (l := l) (k := k) h1 h2)
      obtain ⟨x, hx⟩ : ∃ x, l.getD k [] = x := ⟨_, rfl⟩
      rw [hx] at hcell hx1 LS
      have HX := Lib.hid hx
      clear hc hx
      have hb1 : (str x).size ≤ 100000 := by rw [str_size]; omega
      have hb2 : (str (lineV (l.take k))).size ≤ 1000 * 100001 := by rw [str_size]; exact hs1
      by_cases hk0 : k = 0
      · subst hk0
        have hcell0 : w.cell? ⟨b0, o0, none⟩ = some (.string (str x)) := by simpa using hcell
        have H1 := L0 (by have := HN.out; omega)
        have HV := Lib.hid (show (⟨#[]⟩ : ByteArray) ++ str x = str (lineV (l.take (0 + 1))) by
          rw [H1.out, HX.out]
          exact str_append [] x)
        have hb3 : (str (lineV (l.take 0))) = ⟨#[]⟩ := rfl
        rw [hb3]
        clear hb3 hb2 L0 LS H1
        go_wp2_with fail
        go_round
        case rel => exact ⟨0 + 1, by omega, by go_num, val_str HV.out⟩
        case measure => simp [intOf]; omega
      · have hk1 : 0 < k := by omega
        clear hk0
        have H1 := LS (by have := HN.out; omega) hk1
        have HV := Lib.hid (str_line H1.out)
        clear L0 LS H1
        go_wp2_with fail
        go_round
        case rel => exact ⟨k + 1, by omega, by go_num, val_str HV.out⟩
        case measure => simp [intOf]; omega
    · have hfin : l.take k = l := List.take_of_length_le (by have := HN.out; omega)
      rw [hfin]
      clear hfin
      go_wp2_with fail
      go_ret
      exact ⟨rfl, rfl⟩

/-- May all of these words stand in a line? -/
def allMay (l : List (List UInt8)) : Bool := l.all mayB
theorem allMay_bad {l : List (List UInt8)} {k : Nat} (hk : k < l.length) (h : mayB (l.getD k []) = false) : allMay l = false := by
  rw [allMay, List.all_eq_false]
  refine ⟨l[k], List.getElem_mem hk, ?_⟩
  simpa [List.getD, List.getElem?_eq_getElem hk] using h
theorem allMay_good {l : List (List UInt8)} (h : ∀ j, j < l.length → mayB (l.getD j []) = true) : allMay l = true := by
  rw [allMay, List.all_eq_true]
  intro x hx
  obtain ⟨j, hj, rfl⟩ := List.getElem_of_mem hx
  simpa [List.getD, List.getElem?_eq_getElem hj] using h j hj
/-- What Join hands back. -/
def JoinV (l : List (List UInt8)) (e : Ending) : Prop :=
  (allMay l = true ∧ e = .returned (.tuple #[.string (str (lineV l)), .bool true])) ∨ (allMay l = false ∧ e = .returned (.tuple #[.string (str []), .bool false]))
theorem map_str_data (l : List (List UInt8)) : (l.map str).map (·.data.toList) = l := by
  rw [List.map_map]
  conv => rhs; rw [← List.map_id l]
  exact List.map_congr_left fun x _ => str_data x
theorem wrd_glue (A : Option Addr) (c : Nat) (l : List (List UInt8)) (w : World) (hr : RowAt w w.heap.size A (strs l)) (hl : l.length ≤ 1000) (hc : l.length ≤ c) (hm : (lineV l).length ≤ 140737488355328) :
    Calls Tryd.prog 21 #[.slice A l.length c, .string ⟨#[32]⟩] w fun e w' => e = .returned (.string (str (lineV l))) ∧ Below w.heap.size w w' := by
  rcases hr with h | ⟨b, o, rfl, hb, hcell⟩
  · have : l = [] := by simpa [strs] using h
    subst this
    refine (Tryd.strings_Join_none A c ⟨#[32]⟩ w).mono ?_
    rintro e w' ⟨rfl, rfl⟩
    exact ⟨rfl, Below.refl _ _⟩
  · have e1 : Lib.join ((l.map str).map (·.data.toList)) (⟨#[32]⟩ : ByteArray).data.toList = lineV l := by rw [map_str_data]; rfl
    have K := Tryd.strings_Join b o c (l.map str) ⟨#[32]⟩ w (fun j x hx => hcell j _ (by rw [List.getElem?_map] at hx ⊢; cases hj : l[j]? with | none => rw [hj] at hx; cases hx | some y => rw [hj] at hx; simp at hx; subst hx; rfl)) hb (by rw [List.length_map]; omega) (by rw [List.length_map]; exact hc) (by rw [e1]; exact hm)
    rw [List.length_map, e1] at K
    exact K
theorem may_parts {x : List UInt8} (S : ByteArray) (hS : str x = S) : mayB x = (!S.toList.isEmpty && !(S.data.toList.contains 32) && !(S.data.toList.contains 10)) := by
  subst hS
  rw [str_data, str_toList]
  rfl
set_option maxHeartbeats 1000000 in
theorem wrd_join (A : Option Addr) (c n : Nat) (l : List (List UInt8)) (hn : n = l.length) (hc : n ≤ c) (hl : n ≤ 1000) (hm : ∀ x ∈ l, x.length ≤ 100000) (w : World) (hr : RowAt w w.heap.size A (strs l)) :
    Calls Tryd.prog 10 #[.slice A n c] w fun e w' => JoinV l e ∧ Below w.heap.size w w' := by
  have hglue : (lineV l).length ≤ 140737488355328 := by
    have h1 := lineV_len l 100000 hm
    have h3 := Nat.mul_le_mul (show l.length ≤ 1000 by omega) (Nat.le_refl 100001)
    omega
  have G := wrd_glue A c l w hr (by omega) (by omega) hglue
  rw [← hn] at G
  have HG := Lib.hid G
  have HN := Lib.hid hn
  have HM := Lib.hid hm
  clear hm hn G hglue
  go_enter Tryd.func10, Tryd.ntmps10
  go_wp2_with fail
  go_loop [8] (fun i => ∃ k : Nat, k ≤ n ∧ i = .int .i64 k ∧ ∀ j, j < k → mayB (l.getD j []) = true) (fun i => n - (intOf i).toNat)
  case atStart => exact ⟨0, by omega, rfl, fun j hj => absurd hj (Nat.not_lt_zero _)⟩
  case round =>
    obtain ⟨k, hk, rfl, hal⟩ := hrel
    have HA := Lib.hid hal
    clear hal
    by_cases hlt : k < n
    · obtain ⟨b0, o0, rfl, _, hcl⟩ := hr.strs_at (by have := HN.out; omega)
      have hcell := hcl k (by have := HN.out; omega)
      have hbad := fun h => Lib.hid (allMay_bad (l := l) (k := k) (by have := HN.out; omega) h)
      obtain ⟨x, hx⟩ : ∃ x, l.getD k [] = x := ⟨_, rfl⟩
      rw [hx] at hcell hbad
      have HX := Lib.hid hx
      obtain ⟨S, hS⟩ : ∃ S, str x = S := ⟨_, rfl⟩
      rw [hS] at hcell
      have hpar := may_parts S hS
      have K1 := wrd_has S 32
      have K2 := wrd_has S 10
      obtain ⟨b1, h1⟩ : ∃ b, S.data.toList.contains 32 = b := ⟨_, rfl⟩
      obtain ⟨b2, h2⟩ : ∃ b, S.data.toList.contains 10 = b := ⟨_, rfl⟩
      rw [h1, h2] at hpar
      have K1 := Lib.hid (K1 _ h1 w)
      have K2 := Lib.hid (K2 _ h2 w)
      clear h1 h2 hS hcl hx
      cases he : S.toList.isEmpty
      · rw [he] at hpar
        have HP := Lib.hid hpar
        clear hpar
        cases b1 <;> cases b2
        case false.false =>
          have hgood : mayB x = true := HP.out
          have HGD := Lib.hid hgood
          clear hgood hbad
          go_wp2_with (first | ((with_reducible refine K1.out.mono ?_); rintro e w' ⟨rfl, rfl⟩) | ((with_reducible refine K2.out.mono ?_); rintro e w' ⟨rfl, rfl⟩))
          go_round
          case rel =>
            refine ⟨k + 1, by omega, by go_num, fun j hj => ?_⟩
            by_cases hjk : j < k
            · exact HA.out j hjk
            · obtain rfl : j = k := by omega
              rw [HX.out]
              exact HGD.out
          case measure => simp [intOf]; omega
        all_goals
          have HF := hbad HP.out
          clear hbad
          go_wp2_with (first | ((with_reducible refine K1.out.mono ?_); rintro e w' ⟨rfl, rfl⟩) | ((with_reducible refine K2.out.mono ?_); rintro e w' ⟨rfl, rfl⟩))
          go_ret2
          exact ⟨.inr ⟨HF.out, rfl⟩, Below.refl _ _⟩
      · have h3 : S.toList = [] := by simpa using he
        rw [he] at hpar
        have HF := hbad (by simpa using hpar)
        clear hbad hpar
        go_wp2_with fail
        go_ret2
        exact ⟨.inr ⟨HF.out, rfl⟩, Below.refl _ _⟩
    · have hg : allMay l = true := allMay_good fun j hj => HA.out j (by have := HN.out; omega)
      have HGD := Lib.hid hg
      clear hg
      go_wp2_with ((with_reducible refine HG.out.mono ?_); rintro e w' ⟨rfl, hbel⟩)
      go_ret2
      exact ⟨.inl ⟨HGD.out, rfl⟩, hbel⟩
end Go.Proofs.YtkdepcfnipihhaaDoor
