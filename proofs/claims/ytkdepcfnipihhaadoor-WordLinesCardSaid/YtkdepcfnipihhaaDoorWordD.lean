/-
  Layer 5 (word): the document's own answers: a text's word; lines.
-/
import Derived.Test.YtkdepcfnipihhaaDoorWordC
namespace Go.Proofs.YtkdepcfnipihhaaDoor
open Go.RowKit

theorem rwd_hex_int (x : Int) (n : Nat) (hx : x = n) (hn : n < 16) (w : World) : Calls Tryd.prog 19 #[.int .i64 x] w fun e w' => e = .returned (.int .u8 ((hexD n).toNat : Int)) ∧ w = w' := by
  subst hx; exact rwd_hex n hn w
set_option maxHeartbeats 1000000 in
theorem rwd_of (s : List UInt8) (hs : s.length ≤ 1000000) (w : World) : Calls Tryd.prog 8 #[.string (str s)] w fun e w' => e = .returned (.string (str (ofV s))) ∧ Below w.heap.size w w' := by
  by_cases hn : s = []
  · subst hn
    obtain ⟨S, hS⟩ : ∃ S, str [] = S := ⟨_, rfl⟩
    have h1 : S.toList = [] := by rw [← hS]; exact str_toList []
    have h2 : S.toList.isEmpty = true := by rw [h1]; rfl
    rw [hS]
    clear hS
    go_enter Tryd.func8, Tryd.ntmps8
    go_wp2_with fail
    go_ret
    exact ⟨rfl, Below.refl _ _⟩
  · have hz : (str s).size = s.length := str_size s
    have h2 : (str s).toList.isEmpty = false := by rw [str_toList]; simpa using hn
    have hL : ∀ k, (h : k < (str s).size) → (str s)[k] = s.getD k 0 := fun k h => str_at s k h
    have hne := Lib.hid hn
    clear hn
    generalize str s = S at hz h2 hL ⊢
    obtain ⟨N, hN⟩ : ∃ N, s.length = N := ⟨_, rfl⟩
    have HL := Lib.hid hL
    clear hL
    have HN := Lib.hid hN
    rw [hN] at hs hz
    clear hN
    have hsz1 : S.size ≤ N := by omega
    have hsz2 : N ≤ S.size := by omega
    have HZ := Lib.hid hz
    clear hz
    go_enter Tryd.func8, Tryd.ntmps8
    go_wp2_with fail
    go_loopw [3, 4] (fun v i wr => ∃ k : Nat, k ≤ N ∧ i = .int .i64 k ∧ OwnB wr w.heap.size v (spells (s.take k)) ∧ Below w.heap.size w wr ∧ w.heap.size ≤ wr.heap.size) (fun _ i _ => N - (intOf i).toNat)
    case atStart => exact ⟨0, by omega, rfl, ⟨rfl, .inl ⟨rfl, rfl⟩⟩, Below.refl _ _, Nat.le_refl _⟩
    case round =>
      obtain ⟨k, hk, rfl, hown, hbelk, hszk⟩ := hrel
      have hln := (spells_len (s.take k)).2
      have htk : (s.take k).length ≤ k := by rw [List.length_take]; omega
      by_cases hlt : k < N
      · have hx := HL.out k (by omega)
        have hsn := take_snoc_getD s k (by have := HN.out; omega)
        have HS := Lib.hid hsn
        clear hsn
        obtain ⟨c, hc⟩ : ∃ c, s.getD k 0 = c := ⟨_, rfl⟩
        rw [hc] at hx HS
        clear hc
        obtain ⟨M, hM⟩ : ∃ M, spells (s.take k) = M := ⟨_, rfl⟩
        rw [hM] at hown hln
        have HM := Lib.hid hM
        clear hM
        have hc1 : (c.toNat : Int) / 16 < 16 := by have := c.toNat_lt; omega
        have hc2 : (0 : Int) ≤ (c.toNat : Int) / 16 := by omega
        have hc3 : (c.toNat : Int) % 16 < 16 := by omega
        have hc4 : (0 : Int) ≤ (c.toNat : Int) % 16 := by omega
        cases hp : plainB c with
        | true =>
          have hrow := byte_row wr _ c rfl
          have HA := fun o => Lib.hid (hown.alloc o)
          have HB := fun o => Lib.hid (hbelk.alloc hszk o)
          have hle (o : Obj) : w.heap.size ≤ (wr.alloc o).heap.size := by simp; omega
          have hl1 : M.length + [c].length ≤ 140737488355328 := by simp; omega
          go_wp2_with (first | (go_at_call 18; refine (rwd_plain c _).mono ?_; rintro e w' ⟨rfl, rfl⟩) | (at_builtin; refine wpList_app_row rfl (.tmp 17) (.tmp 21) rfl w.heap.size _ M rfl (HA _).out _ _ 1 1 [c] rfl rfl hrow hl1 (hle _) ?_; intro v2 w2 hown2 _ hb2 _))
          go_roundw
          case rel => exact ⟨k + 1, by omega, by go_num, by rw [HS.out, spells_snoc, spell_plain hp, HM.out]; exact hown2, (HB _).out.trans hb2, ((HB _).out.trans hb2).size⟩
          case measure => simp [intOf]; omega
        | false =>
          have hrow := byte_row wr 45 45 rfl
          have HA := fun o => Lib.hid (hown.alloc o)
          have HB := fun o => Lib.hid (hbelk.alloc hszk o)
          have hle (o : Obj) : w.heap.size ≤ (wr.alloc o).heap.size := by simp; omega
          have hl1 : M.length + [45].length ≤ 140737488355328 := by simp; omega
          go_wp2_with (first | (go_at_call 18; refine (rwd_plain c _).mono ?_; rintro e w' ⟨rfl, rfl⟩) | (at_builtin; refine wpList_app_row rfl (.tmp 23) (.tmp 24) rfl w.heap.size _ M rfl (HA _).out _ _ 1 1 [45] rfl rfl hrow hl1 (hle _) ?_; intro v2 w2 hown2 _ hb2 _) | fail)
          have hbel2 := (HB _).out.trans hb2
          have hsz2 := hbel2.size
          have hrow3 := byte_row w2 _ (hexD (c.toNat / 16)) rfl
          have HA3 := fun o => Lib.hid (hown2.alloc o)
          have HB3 := fun o => Lib.hid (hbel2.alloc hsz2 o)
          have hle3 (o : Obj) : w.heap.size ≤ (w2.alloc o).heap.size := by simp; omega
          have hl3 : (M ++ [45]).length + [hexD (c.toNat / 16)].length ≤ 140737488355328 := by simp; omega
          have H16 := rwd_hex_int ((c.toNat : Int) / 16) (c.toNat / 16) (by omega) (by omega) w2
          refine H16.mono ?_
          rintro e w' ⟨rfl, rfl⟩
          clear H16 HA HB hrow hl1 hle hb2
          go_wp2_with (first | (at_builtin; refine wpList_app_row rfl (.tmp 26) (.tmp 33) rfl w.heap.size _ (M ++ [45]) rfl (HA3 _).out _ _ 1 1 [hexD (c.toNat / 16)] rfl rfl hrow3 hl3 (hle3 _) ?_; intro v3 w3 hown3 _ hb3 _) | fail)
          have hbel3 := (HB3 _).out.trans hb3
          have hsz3 := hbel3.size
          have hrow4 := byte_row w3 _ (hexD (c.toNat % 16)) rfl
          have HA4 := fun o => Lib.hid (hown3.alloc o)
          have HB4 := fun o => Lib.hid (hbel3.alloc hsz3 o)
          have hle4 (o : Obj) : w.heap.size ≤ (w3.alloc o).heap.size := by simp; omega
          have hl4 : (M ++ [45] ++ [hexD (c.toNat / 16)]).length + [hexD (c.toNat % 16)].length ≤ 140737488355328 := by simp; omega
          have H16 := rwd_hex_int ((c.toNat : Int) % 16) (c.toNat % 16) (by omega) (by omega) w3
          refine H16.mono ?_
          rintro e w' ⟨rfl, rfl⟩
          clear H16 HA3 HB3 hrow3 hl3 hle3 hb3
          go_wp2_with (first | (at_builtin; refine wpList_app_row rfl (.tmp 35) (.tmp 42) rfl w.heap.size _ (M ++ [45] ++ [hexD (c.toNat / 16)]) rfl (HA4 _).out _ _ 1 1 [hexD (c.toNat % 16)] rfl rfl hrow4 hl4 (hle4 _) ?_; intro v4 w4 hown4 _ hb4 _) | fail)
          go_roundw
          case rel => exact ⟨k + 1, by omega, by go_num, by rw [HS.out, spells_snoc, spell_other hp, HM.out]; simpa using hown4, (HB4 _).out.trans hb4, ((HB4 _).out.trans hb4).size⟩
          case measure => simp [intOf]; omega
      · have hk' : k = N := by omega
        have hfin : s.take k = s := List.take_of_length_le (by have := HN.out; omega)
        rw [hfin] at hown
        have HF := Lib.hid hfin
        clear hfin hk'
        obtain ⟨A, c, rfl, hrd⟩ := hown.read
        have K1 := conv_str (P := Tryd.prog) c 35 5 9 Tryd.underlying35 Tryd.underlying5 Tryd.underlying9 hrd.row
        go_wp2_with fail
        go_ret
        exact ⟨ret_str (by rw [ofV_some hne.out]), hbelk⟩
end Go.Proofs.YtkdepcfnipihhaaDoor
