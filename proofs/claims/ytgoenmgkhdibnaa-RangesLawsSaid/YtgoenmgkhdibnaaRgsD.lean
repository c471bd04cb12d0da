/-
  Layer 8 (ranges), the document's words: a text put among rising ones.
-/
import Derived.Test.YtgoenmgkhdibnaaRgsC
import Derived.Test.YtgoenmgkhdibnaaCut
namespace Go.Proofs.Ytgoenmgkhdibnaa
open Go.RowKit

theorem str_sizeOf (w : World) : (sizeOf 9).run Try.prog w = .ok 1 w := by kernel_rfl
theorem strs_take (l : List (List UInt8)) (k : Nat) : kStr.row (l.take k) = (kStr.row l).take k := by
  have := kStr.row_take l k
  rwa [show k * kStr.size = k by show k * 1 = k; omega] at this
theorem strs_drop (l : List (List UInt8)) (k : Nat) : kStr.row (l.drop k) = (kStr.row l).drop k := by
  have := kStr.row_drop l k
  rwa [show k * kStr.size = k by show k * 1 = k; omega] at this
theorem strs_len (l : List (List UInt8)) : (kStr.row l).length = l.length := by
  have := kStr.row_len l
  rwa [show l.length * kStr.size = l.length by show l.length * 1 = l.length; omega] at this
theorem le_alloc {n : Nat} {w : World} (h : n ≤ w.heap.size) (o : Obj) : n ≤ (w.alloc o).heap.size := by simp; omega
/-- What put hands back: a row that reads. -/
def RetS (w : World) (l : List (List UInt8)) (e : Ending) (w' : World) : Prop := ∃ A c, e = .returned (.slice A l.length c) ∧ kStr.Rd w' w'.heap.size A c l ∧ Below w.heap.size w w'
set_option maxHeartbeats 1000000 in
theorem ref_put (A : Option Addr) (c n : Nat) (l : List (List UInt8)) (s : List UInt8) (hn : n = l.length) (hnl : n ≤ 100000) (hl : ∀ x ∈ l, x.length ≤ 9223372036854775807) (w : World) (hr : kStr.Rd w w.heap.size A c l) :
    Calls Try.prog 47 #[.slice A n c, .string (str s)] w (RetS w (putL l s)) := by
  have HN := Lib.hid hn
  have HR := Lib.hid hr
  have HLN := Lib.hid hl
  have hcx : n ≤ c := by rw [hn]; exact hr.room
  clear hn hr hl
  go_enter Try.func47, Try.ntmps47
  go_wp2_with fail
  go_loopw [5] (fun i wr => ∃ k q : Nat, k ≤ n ∧ Hid (putL l s = l.take k ++ putL (l.drop k) s) ∧ i = .int .i64 k ∧ wr = w.drewN q) (fun i _ => n - (intOf i).toNat)
  case atStart => exact ⟨0, 0, by omega, rfl, rfl, rfl⟩
  case round =>
    obtain ⟨k, q, hk, HL, rfl, rfl⟩ := hrel
    by_cases hlt : k < n
    · obtain ⟨x, hg, hd, hm⟩ := get_some (l := l) (k := k) (by have := HN.out; omega)
      obtain ⟨b, o, hA, hb1, hcell⟩ := texts_at HR.out (by have := HN.out; omega)
      have c0 := hcell k x hg
      obtain ⟨v, hv⟩ : ∃ v, ltB x s = v := ⟨_, rfl⟩
      have C := fun w => Lib.hid (less_q x s _ _ rfl rfl (HLN.out x hm) v hv w)
      have hkd : decide ((k : Int) < (n : Int)) = true := decide_eq_true (by omega)
      cases v
      · by_cases hxs : x = s
        · have HL2 := Lib.hid (HL.out.trans (show l.take k ++ putL (l.drop k) s = l by rw [hd, hxs, putL_there, ← hxs, ← hd, List.take_append_drop]))
          have hxU : ((str x).toList == (str s).toList) = true := by rw [hxs]; simp
          subst hA
          clear hcell hg hd hm hv hxs
          obtain ⟨S, hS⟩ : ∃ S, str x = S := ⟨_, rfl⟩
          rw [hS] at c0 C hxU
          clear hS
          go_wp2_with ((with_reducible refine (C _).out.mono ?_); rintro e w2 ⟨rfl, q2, rfl⟩)
          go_ret
          refine ⟨some ⟨b, o, none⟩, c, ?_, ?_, below_drewN (Below.refl _ _) _⟩
          · rw [HL2.out, ← HN.out]; rfl
          · rw [HL2.out]; exact HR.out.drewN _
        · have hnU : ((str x).toList == (str s).toList) = false := txt_ne rfl rfl hxs
          have HT := Lib.hid (HL.out.trans (show l.take k ++ putL (l.drop k) s = (l.take k ++ [s]) ++ l.drop k by rw [hd, putL_here hv hxs, List.append_assoc]; rfl))
          clear hcell hg hd hm hv hxs
          obtain ⟨S, hS⟩ : ∃ S, str x = S := ⟨_, rfl⟩
          rw [hS] at c0 C hnU
          clear hS
          have HTK := Lib.hid (show k = (l.take k).length by rw [List.length_take]; have := HN.out; omega)
          have HL1 := Lib.hid (show ([] : List (List UInt8)).length + (l.take k).length ≤ 1000000 by rw [List.length_take, List.length_nil]; omega)
          have HL2 := Lib.hid (show (l.take k).length + [s].length ≤ 1000000 by rw [List.length_take, List.length_singleton]; omega)
          have HDK := Lib.hid (show n - k = (l.drop k).length by rw [List.length_drop, ← HN.out])
          have HL3 := Lib.hid (show (l.take k ++ [s]).length + (l.drop k).length ≤ 1000000 by rw [List.length_append, List.length_take, List.length_drop, List.length_singleton]; have := HN.out; omega)
          have HRT : Hid (RowAt w w.heap.size A (kStr.row (l.take k))) := by rw [strs_take]; exact HR.out.row.take k
          have HRD : Hid (RowAt w w.heap.size (cutA A k c) (kStr.row (l.drop k))) := by rw [strs_drop]; exact HR.out.row.cut (by rw [strs_len]; have := HN.out; omega) (by rw [strs_len]; exact HR.out.room)
          have K1 := fun w : World => run_take (T := 43) (E := 9) Try.underlying43 str_sizeOf w A n c k (by omega)
          have K2 := fun w : World => run_cut (T := 43) (E := 9) Try.underlying43 str_sizeOf w A n c k (by omega)
          subst hA
          go_wp2_with (first
            | ((with_reducible refine (C _).out.mono ?_); rintro e w2 ⟨rfl, q2, rfl⟩)
            | (at_builtin; refine wpList_app_k kStr rfl (.tmp 34) (.tmp 37) rfl w.heap.size (.slice none 0 0) [] rfl (Kind.Own.nil _ _) w.heap.size (some ⟨b, o, none⟩) c k (l.take k) HTK.out rfl (RowAt.drewN HRT.out _) HL1.out (by decide) (Nat.le_refl _) ?_; intro v3 w3 hown3 hg3 hb3 _; replace hown3 := Lib.hid hown3; replace hb3 := (below_drewN (Below.refl w.heap.size w) _).trans hb3; have hz3 := Lib.hid hb3.size)
            | (at_builtin; refine wpList_app_k kStr rfl (.tmp 39) (.tmp 41) rfl w.heap.size v3 (l.take k) rfl (Kind.Own.alloc hown3.out _) _ (some ⟨w3.heap.size, 0, none⟩) 1 1 [s] rfl rfl (Kind.rd_new (k := kStr) rfl rfl (by simp)).row HL2.out (by decide) (le_alloc hz3.out _) ?_; intro v4 w4 hown4 hg4 hb4 _; replace hb4 := (hb3.alloc hb3.size _).trans hb4; have hz4 := Lib.hid hb4.size; replace hown4 := Lib.hid hown4; clear hb3)
            | (at_builtin; refine wpList_app_k kStr rfl (.tmp 43) (.tmp 46) rfl w.heap.size v4 (l.take k ++ [s]) rfl hown4.out _ (cutA (some ⟨b, o, none⟩) k c) (c - k) (n - k) (l.drop k) HDK.out rfl (RowAt.below HRD.out hb4) HL3.out (by decide) hz4.out ?_; intro v5 w5 hown5 hg5 hb5 _; replace hb5 := hb4.trans hb5; have HO5 := Lib.hid hown5; clear hown5))
          go_ret
          obtain ⟨A5, c5, rfl, hrd⟩ := HO5.out.form
          refine ⟨A5, c5, ?_, ?_, hb5⟩
          · rw [HT.out]; rfl
          · rw [HT.out]; exact hrd
      · have HL2 := Lib.hid (HL.out.trans (show l.take k ++ putL (l.drop k) s = l.take (k + 1) ++ putL (l.drop (k + 1)) s by
          rw [hd, putL_behind hv, List.take_add_one, hg]; simp))
        subst hA
        clear hcell hg hd hm hv
        obtain ⟨S, hS⟩ : ∃ S, str x = S := ⟨_, rfl⟩
        rw [hS] at c0 C
        clear hS
        go_wp2_with ((with_reducible refine (C _).out.mono ?_); rintro e w2 ⟨rfl, q2, rfl⟩)
        go_roundw
        case rel => exact ⟨k + 1, _, by omega, HL2, by go_num, rfl⟩
        case measure => simp [intOf]; omega
    · have hkn : k = n := by omega
      have HT := Lib.hid (HL.out.trans (show l.take k ++ putL (l.drop k) s = (l.take k ++ [s]) ++ l.drop k by rw [List.drop_eq_nil_of_le (by have := HN.out; omega), List.append_nil]; rfl))
      have hkd : decide ((k : Int) < (n : Int)) = false := decide_eq_false (by omega)
      have HTK := Lib.hid (show k = (l.take k).length by rw [List.length_take]; have := HN.out; omega)
      have HL1 := Lib.hid (show ([] : List (List UInt8)).length + (l.take k).length ≤ 1000000 by rw [List.length_take, List.length_nil]; omega)
      have HL2 := Lib.hid (show (l.take k).length + [s].length ≤ 1000000 by rw [List.length_take, List.length_singleton]; omega)
      have HDK := Lib.hid (show n - k = (l.drop k).length by rw [List.length_drop, ← HN.out])
      have HL3 := Lib.hid (show (l.take k ++ [s]).length + (l.drop k).length ≤ 1000000 by rw [List.length_append, List.length_take, List.length_drop, List.length_singleton]; have := HN.out; omega)
      have HRT : Hid (RowAt w w.heap.size A (kStr.row (l.take k))) := by rw [strs_take]; exact HR.out.row.take k
      have HRD : Hid (RowAt w w.heap.size (cutA A k c) (kStr.row (l.drop k))) := by rw [strs_drop]; exact HR.out.row.cut (by rw [strs_len]; have := HN.out; omega) (by rw [strs_len]; exact HR.out.room)
      have K1 := fun w : World => run_take (T := 43) (E := 9) Try.underlying43 str_sizeOf w A n c k (by omega)
      have K2 := fun w : World => run_cut (T := 43) (E := 9) Try.underlying43 str_sizeOf w A n c k (by omega)
      clear hkn
      go_wp2_with (first
        | (at_builtin; refine wpList_app_k kStr rfl (.tmp 34) (.tmp 37) rfl w.heap.size (.slice none 0 0) [] rfl (Kind.Own.nil _ _) w.heap.size A c k (l.take k) HTK.out rfl (RowAt.drewN HRT.out _) HL1.out (by decide) (Nat.le_refl _) ?_; intro v3 w3 hown3 hg3 hb3 _; replace hown3 := Lib.hid hown3; replace hb3 := (below_drewN (Below.refl w.heap.size w) _).trans hb3; have hz3 := Lib.hid hb3.size)
        | (at_builtin; refine wpList_app_k kStr rfl (.tmp 39) (.tmp 41) rfl w.heap.size v3 (l.take k) rfl (Kind.Own.alloc hown3.out _) _ (some ⟨w3.heap.size, 0, none⟩) 1 1 [s] rfl rfl (Kind.rd_new (k := kStr) rfl rfl (by simp)).row HL2.out (by decide) (le_alloc hz3.out _) ?_; intro v4 w4 hown4 hg4 hb4 _; replace hb4 := (hb3.alloc hb3.size _).trans hb4; have hz4 := Lib.hid hb4.size; replace hown4 := Lib.hid hown4; clear hb3)
        | (at_builtin; refine wpList_app_k kStr rfl (.tmp 43) (.tmp 46) rfl w.heap.size v4 (l.take k ++ [s]) rfl hown4.out _ (cutA A k c) (c - k) (n - k) (l.drop k) HDK.out rfl (RowAt.below HRD.out hb4) HL3.out (by decide) hz4.out ?_; intro v5 w5 hown5 hg5 hb5 _; replace hb5 := hb4.trans hb5; have HO5 := Lib.hid hown5; clear hown5))
      go_ret
      obtain ⟨A5, c5, rfl, hrd⟩ := HO5.out.form
      refine ⟨A5, c5, ?_, ?_, hb5⟩
      · rw [HT.out]; rfl
      · rw [HT.out]; exact hrd
end Go.Proofs.Ytgoenmgkhdibnaa
