/-
  The laws of layer 7: SpanMeets, where two have some, the text in the first one.
-/
import Derived.Test.YtmdalbglekjcjaaLaw07D
import Derived.Test.YtmdalbglekjcjaaRegion
namespace Go.Proofs.Ytmdalbglekjcjaa
open Go.RowKit

set_option maxHeartbeats 4000000 in
theorem spanMeets_w3 (a b m : Rng) (s : List UInt8) (S T U V W X Y : ByteArray) (o p q : Bool) (ia : IsR a S T o) (ib : IsR b U V p) (im : IsR m X Y q) (hW : str s = W) (hm : meetR a b = some m) (h1 : hasR a s = true) (hx : (X.toList == S.toList) = true)
    (hs : S.size ≤ 300 ∧ T.size ≤ 300 ∧ U.size ≤ 300 ∧ V.size ≤ 300 ∧ W.size ≤ 300) (w : World) :
    Calls Try.prog 4 #[.agg #[.string S, .string T, .bool o], .agg #[.string U, .string V, .bool p], .string W] w fun e w' => e = .returned (.bool true) ∧ Below w.heap.size w w' := by
  have A0 := fun w => Lib.hid (awake07 w)
  have LG := fun w => Lib.hid (long_new w [S, T, U, V, W] #[.string S, .string T, .string U, .string V, .string W] 9 5 false rfl rfl (by omega) (shortT5 hs))
  have H0 := Lib.hid (heldL_two w S T U V o p 23)
  have hv : MeetIs a b m true := .inl ⟨hm, rfl⟩
  have M1 := fun w => Lib.hid (span_meet a b m S T U V X Y o p q true ia ib im hv w)
  have M2 := fun w => Lib.hid (span_meet b a m U V S T X Y p o q true ib ia im (meetIs_comm hv) w)
  have hzs : s.length ≤ 1000000 := by have := str_size s; rw [hW] at this; omega
  obtain ⟨d2, e2⟩ : ∃ c, hasR b s = c := ⟨_, rfl⟩
  have e3 := meetR_has hm s
  rw [h1, e2] at e3
  have RM := fun w => Lib.hid (ref_rright m X Y q true im (meetR_some hm).2.2.1 w)
  have C1 := fun w => Lib.hid (ref_has a s S T W o true ia hW hzs h1 w)
  have C2 := fun w => Lib.hid (ref_has b s U V W p d2 ib hW hzs e2 w)
  obtain ⟨d, e4⟩ : ∃ d, hasR m s = d := ⟨_, rfl⟩
  rw [e4] at e3
  have C3 := fun w => Lib.hid (ref_has m s X Y W q d im hW hzs e4 w)
  have EQ := fun w => Lib.hid (eq_rng_is X Y X Y q q true (by simp) w)
  obtain rfl : d = d2 := by rw [e3, Bool.true_and]
  clear ia ib im hW hm hs hzs e2 e4 hv h1 e3
  go_enter Try.func4, Try.ntmps4
  go_wp2_with (first
    | ((with_reducible refine (A0 _).out.mono ?_); rintro e w0 ⟨rfl, hb⟩; (try clear a0 a1 a2 a3 b0 b1 b2 b3 hbb); replace H0 := Lib.hid (heldL_call hb H0.out); obtain ⟨⟨a0, a1, a2, a3⟩, ⟨b0, b1, b2, b3⟩, hbb⟩ := H0.out; have l0 := RgAt.lt H0.out.1; have l1 := RgAt.lt H0.out.2.1; clear hb)
    | ((with_reducible refine (LG _).out.mono ?_); rintro e w' ⟨rfl, rfl⟩; replace H0 := Lib.hid (heldL_alloc (.cells #[.string S, .string T, .string U, .string V, .string W] 9) H0.out))
    | ((with_reducible refine (M1 _).out.mono ?_); rintro e w2 ⟨rfl, hb⟩; (try clear a0 a1 a2 a3 b0 b1 b2 b3 hbb); replace H0 := Lib.hid (heldL_call hb H0.out); obtain ⟨⟨a0, a1, a2, a3⟩, ⟨b0, b1, b2, b3⟩, hbb⟩ := H0.out; have l0 := RgAt.lt H0.out.1; have l1 := RgAt.lt H0.out.2.1; clear hb; have H3 : Hid (HeldL w [(w.heap.size, S, T, o), (w.heap.size + 1, U, V, p), (w2.heap.size, X, Y, q)] (w2.alloc (.cells #[.string X, .string Y, .bool q] 23))) := ⟨RgAt.keep H0.out.1 _, RgAt.keep H0.out.2.1 _, rgAt_new w2 _ _ _ _, Below.alloc hbb (Below.size hbb) _⟩)
    | ((with_reducible refine (M2 _).out.mono ?_); rintro e w3 ⟨rfl, hb⟩; clear a0 a1 a2 a3 b0 b1 b2 b3 hbb; replace H3 := Lib.hid (heldL_call hb H3.out); obtain ⟨⟨a0, a1, a2, a3⟩, ⟨b0, b1, b2, b3⟩, ⟨m0, m1, m2, m3⟩, hbb⟩ := H3.out; have l0 := RgAt.lt H3.out.1; have l1 := RgAt.lt H3.out.2.1; have l2 := RgAt.lt H3.out.2.2.1; clear hb))
  have HS0 : Hid (HeldL w [(w.heap.size, S, T, o), (w.heap.size + 1, U, V, p), (w2.heap.size, X, Y, q), (w3.heap.size, X, Y, q)] (w3.alloc (.cells #[.string X, .string Y, .bool q] 23))) := ⟨RgAt.keep H3.out.1 _, RgAt.keep H3.out.2.1 _, RgAt.keep H3.out.2.2.1 _, rgAt_new w3 _ _ _ _, Below.alloc hbb (Below.size hbb) _⟩
  clear a0 a1 a2 a3 b0 b1 b2 b3 m0 m1 m2 m3 hbb
  have EQ := fun w => (EQ w).out
  clear A0 LG M1 M2 H0 H3 l0 l1 l2
  refine wp_region_noPanic ?_
  refine wp_region_held_drew (S := (fun w' => (w'.cell? ⟨w.heap.size, 0, none⟩ = some (.string S) ∧ w'.cell? ⟨w.heap.size, 1, none⟩ = some (.string T) ∧ w'.cell? ⟨w.heap.size, 2, none⟩ = some (.bool o) ∧ ∀ k, w'.frozen? ⟨w.heap.size, k, none⟩ = false) ∧ (w'.cell? ⟨w.heap.size + 1, 0, none⟩ = some (.string U) ∧ w'.cell? ⟨w.heap.size + 1, 1, none⟩ = some (.string V) ∧ w'.cell? ⟨w.heap.size + 1, 2, none⟩ = some (.bool p) ∧ ∀ k, w'.frozen? ⟨w.heap.size + 1, k, none⟩ = false) ∧ (w'.cell? ⟨w2.heap.size, 0, none⟩ = some (.string X) ∧ w'.cell? ⟨w2.heap.size, 1, none⟩ = some (.string Y) ∧ w'.cell? ⟨w2.heap.size, 2, none⟩ = some (.bool q) ∧ ∀ k, w'.frozen? ⟨w2.heap.size, k, none⟩ = false) ∧ (w'.cell? ⟨w3.heap.size, 0, none⟩ = some (.string X) ∧ w'.cell? ⟨w3.heap.size, 1, none⟩ = some (.string Y) ∧ w'.cell? ⟨w3.heap.size, 2, none⟩ = some (.bool q) ∧ ∀ k, w'.frozen? ⟨w3.heap.size, k, none⟩ = false) ∧ Below w.heap.size w w')) (by kernel_rfl) (by first | exact heldL_drew (l := [(w.heap.size, S, T, o), (w.heap.size + 1, U, V, p), (w2.heap.size, X, Y, q), (w3.heap.size, X, Y, q)]) HS0.out) (fun hHeld => ?_)
  first | (refine take_yes (i := 0) (v := ?_) rfl (by kernel_rfl) (by kernel_rfl) (by kernel_rfl) (fun _ _ _ h => h) (by rfl) (by assumption) ?_ ?_; rotate_left; (focus ((intro w hSw); (try dsimp only at hSw); go_split_ands; go_simp; (try with_reducible rfl); done))) | (refine take_no (i := 0) rfl (by kernel_rfl) (by kernel_rfl) (by kernel_rfl) (fun _ _ _ h => h) (by rfl) (by assumption) ?_) | fail
  (try simp only [Act.put, List.setIfInBounds_toArray, List.set_cons_zero, List.set_cons_succ])
  first | (refine take_no (i := 1) rfl (by kernel_rfl) (by kernel_rfl) (by kernel_rfl) (fun _ _ _ h => h) (by rfl) (by assumption) ?_) | (refine call_one (i := 1) rfl (by kernel_rfl) (by rfl) (fun K hK => ?_); go_simp; (first | ((with_reducible refine (RM _).out.mono ?_); rintro e w4 ⟨rfl, hb⟩; have hS := heldL_call hb (l := [(w.heap.size, S, T, o), (w.heap.size + 1, U, V, p), (w2.heap.size, X, Y, q), (w3.heap.size, X, Y, q)]) (by assumption)) | ((with_reducible refine (C3 _).out.mono ?_); rintro e w4 ⟨rfl, hb⟩; have hS := heldL_call hb (l := [(w.heap.size, S, T, o), (w.heap.size + 1, U, V, p), (w2.heap.size, X, Y, q), (w3.heap.size, X, Y, q)]) (by assumption)) | ((with_reducible refine (C1 _).out.mono ?_); rintro e w4 ⟨rfl, hb⟩; have hS := heldL_call hb (l := [(w.heap.size, S, T, o), (w.heap.size + 1, U, V, p), (w2.heap.size, X, Y, q), (w3.heap.size, X, Y, q)]) (by assumption)) | ((with_reducible refine (C2 _).out.mono ?_); rintro e w4 ⟨rfl, hb⟩; have hS := heldL_call hb (l := [(w.heap.size, S, T, o), (w.heap.size + 1, U, V, p), (w2.heap.size, X, Y, q), (w3.heap.size, X, Y, q)]) (by assumption))); refine hK.out _ _ ?_ (fun hHeld => ?_); (focus ((first | assumption); done)); clear hK K) | fail
  (try simp only [Act.put, List.setIfInBounds_toArray, List.set_cons_zero, List.set_cons_succ])
  first | (refine take_yes (i := 2) (v := ?_) rfl (by kernel_rfl) (by kernel_rfl) (by kernel_rfl) (fun _ _ _ h => h) (by rfl) (by assumption) ?_ ?_; rotate_left; (focus ((intro w hSw); (try dsimp only at hSw); go_split_ands; go_simp; (try with_reducible rfl); done))) | (refine take_no (i := 2) rfl (by kernel_rfl) (by kernel_rfl) (by kernel_rfl) (fun _ _ _ h => h) (by rfl) (by assumption) ?_) | fail
  (try simp only [Act.put, List.setIfInBounds_toArray, List.set_cons_zero, List.set_cons_succ])
  first | (refine take_yes (i := 3) (v := ?_) rfl (by kernel_rfl) (by kernel_rfl) (by kernel_rfl) (fun _ _ _ h => h) (by rfl) (by assumption) ?_ ?_; rotate_left; (focus ((intro w hSw); (try dsimp only at hSw); go_split_ands; go_simp; (try with_reducible rfl); done))) | (refine take_no (i := 3) rfl (by kernel_rfl) (by kernel_rfl) (by kernel_rfl) (fun _ _ _ h => h) (by rfl) (by assumption) ?_) | fail
  (try simp only [Act.put, List.setIfInBounds_toArray, List.set_cons_zero, List.set_cons_succ])
  first | (refine take_yes (i := 4) (v := ?_) rfl (by kernel_rfl) (by kernel_rfl) (by kernel_rfl) (fun _ _ _ h => h) (by rfl) (by assumption) ?_ ?_; rotate_left; (focus ((intro w hSw); (try dsimp only at hSw); go_split_ands; go_simp; (try with_reducible rfl); done))) | (refine take_no (i := 4) rfl (by kernel_rfl) (by kernel_rfl) (by kernel_rfl) (fun _ _ _ h => h) (by rfl) (by assumption) ?_) | fail
  (try simp only [Act.put, List.setIfInBounds_toArray, List.set_cons_zero, List.set_cons_succ])
  first | (refine take_yes (i := 6) (v := ?_) rfl (by kernel_rfl) (by kernel_rfl) (by kernel_rfl) (fun _ _ _ h => h) (by rfl) (by assumption) ?_ ?_; rotate_left; (focus ((intro w hSw); (try dsimp only at hSw); go_split_ands; go_simp; (try with_reducible rfl); done))) | (refine take_no (i := 6) rfl (by kernel_rfl) (by kernel_rfl) (by kernel_rfl) (fun _ _ _ h => h) (by rfl) (by assumption) ?_) | fail
  (try simp only [Act.put, List.setIfInBounds_toArray, List.set_cons_zero, List.set_cons_succ])
  first | (refine take_yes (i := 7) (v := ?_) rfl (by kernel_rfl) (by kernel_rfl) (by kernel_rfl) (fun _ _ _ h => h) (by rfl) (by assumption) ?_ ?_; rotate_left; (focus ((intro w hSw); (try dsimp only at hSw); go_split_ands; go_simp; (try with_reducible rfl); done))) | (refine take_no (i := 7) rfl (by kernel_rfl) (by kernel_rfl) (by kernel_rfl) (fun _ _ _ h => h) (by rfl) (by assumption) ?_) | fail
  (try simp only [Act.put, List.setIfInBounds_toArray, List.set_cons_zero, List.set_cons_succ])
  first | (refine take_no (i := 5) rfl (by kernel_rfl) (by kernel_rfl) (by kernel_rfl) (fun _ _ _ h => h) (by rfl) (by assumption) ?_) | (refine call_one (i := 5) rfl (by kernel_rfl) (by rfl) (fun K hK => ?_); go_simp; (first | ((with_reducible refine (RM _).out.mono ?_); rintro e w4 ⟨rfl, hb⟩; have hS := heldL_call hb (l := [(w.heap.size, S, T, o), (w.heap.size + 1, U, V, p), (w2.heap.size, X, Y, q), (w3.heap.size, X, Y, q)]) (by assumption)) | ((with_reducible refine (C3 _).out.mono ?_); rintro e w4 ⟨rfl, hb⟩; have hS := heldL_call hb (l := [(w.heap.size, S, T, o), (w.heap.size + 1, U, V, p), (w2.heap.size, X, Y, q), (w3.heap.size, X, Y, q)]) (by assumption)) | ((with_reducible refine (C1 _).out.mono ?_); rintro e w4 ⟨rfl, hb⟩; have hS := heldL_call hb (l := [(w.heap.size, S, T, o), (w.heap.size + 1, U, V, p), (w2.heap.size, X, Y, q), (w3.heap.size, X, Y, q)]) (by assumption)) | ((with_reducible refine (C2 _).out.mono ?_); rintro e w4 ⟨rfl, hb⟩; have hS := heldL_call hb (l := [(w.heap.size, S, T, o), (w.heap.size + 1, U, V, p), (w2.heap.size, X, Y, q), (w3.heap.size, X, Y, q)]) (by assumption))); refine hK.out _ _ ?_ (fun hHeld => ?_); (focus ((first | assumption); done)); clear hK K) | fail
  (try simp only [Act.put, List.setIfInBounds_toArray, List.set_cons_zero, List.set_cons_succ])
  first | (refine take_no (i := 8) rfl (by kernel_rfl) (by kernel_rfl) (by kernel_rfl) (fun _ _ _ h => h) (by rfl) (by assumption) ?_) | (refine call_one (i := 8) rfl (by kernel_rfl) (by rfl) (fun K hK => ?_); go_simp; (first | ((with_reducible refine (RM _).out.mono ?_); rintro e w4 ⟨rfl, hb⟩; have hS := heldL_call hb (l := [(w.heap.size, S, T, o), (w.heap.size + 1, U, V, p), (w2.heap.size, X, Y, q), (w3.heap.size, X, Y, q)]) (by assumption)) | ((with_reducible refine (C3 _).out.mono ?_); rintro e w4 ⟨rfl, hb⟩; have hS := heldL_call hb (l := [(w.heap.size, S, T, o), (w.heap.size + 1, U, V, p), (w2.heap.size, X, Y, q), (w3.heap.size, X, Y, q)]) (by assumption)) | ((with_reducible refine (C1 _).out.mono ?_); rintro e w4 ⟨rfl, hb⟩; have hS := heldL_call hb (l := [(w.heap.size, S, T, o), (w.heap.size + 1, U, V, p), (w2.heap.size, X, Y, q), (w3.heap.size, X, Y, q)]) (by assumption)) | ((with_reducible refine (C2 _).out.mono ?_); rintro e w4 ⟨rfl, hb⟩; have hS := heldL_call hb (l := [(w.heap.size, S, T, o), (w.heap.size + 1, U, V, p), (w2.heap.size, X, Y, q), (w3.heap.size, X, Y, q)]) (by assumption))); refine hK.out _ _ ?_ (fun hHeld => ?_); (focus ((first | assumption); done)); clear hK K) | fail
  (try simp only [Act.put, List.setIfInBounds_toArray, List.set_cons_zero, List.set_cons_succ])
  first | (refine take_yes (i := 9) (v := ?_) rfl (by kernel_rfl) (by kernel_rfl) (by kernel_rfl) (fun _ _ _ h => h) (by rfl) (by assumption) ?_ ?_; rotate_left; (focus ((intro w hSw); (try dsimp only at hSw); go_split_ands; go_simp; (try with_reducible rfl); done))) | (refine take_no (i := 9) rfl (by kernel_rfl) (by kernel_rfl) (by kernel_rfl) (fun _ _ _ h => h) (by rfl) (by assumption) ?_) | fail
  (try simp only [Act.put, List.setIfInBounds_toArray, List.set_cons_zero, List.set_cons_succ])
  first | (refine take_yes (i := 10) (v := ?_) rfl (by kernel_rfl) (by kernel_rfl) (by kernel_rfl) (fun _ _ _ h => h) (by rfl) (by assumption) ?_ ?_; rotate_left; (focus ((intro w hSw); (try dsimp only at hSw); go_split_ands; go_simp; (try with_reducible rfl); done))) | (refine take_no (i := 10) rfl (by kernel_rfl) (by kernel_rfl) (by kernel_rfl) (fun _ _ _ h => h) (by rfl) (by assumption) ?_) | fail
  (try simp only [Act.put, List.setIfInBounds_toArray, List.set_cons_zero, List.set_cons_succ])
  first | (refine take_yes (i := 11) (v := ?_) rfl (by kernel_rfl) (by kernel_rfl) (by kernel_rfl) (fun _ _ _ h => h) (by rfl) (by assumption) ?_ ?_; rotate_left; (focus ((intro w hSw); (try dsimp only at hSw); go_split_ands; go_simp; (try with_reducible rfl); done))) | (refine take_no (i := 11) rfl (by kernel_rfl) (by kernel_rfl) (by kernel_rfl) (fun _ _ _ h => h) (by rfl) (by assumption) ?_) | fail
  (try simp only [Act.put, List.setIfInBounds_toArray, List.set_cons_zero, List.set_cons_succ])
  first | (refine take_no (i := 12) rfl (by kernel_rfl) (by kernel_rfl) (by kernel_rfl) (fun _ _ _ h => h) (by rfl) (by assumption) ?_) | (refine call_one (i := 12) rfl (by kernel_rfl) (by rfl) (fun K hK => ?_); go_simp; (first | ((with_reducible refine (RM _).out.mono ?_); rintro e w4 ⟨rfl, hb⟩; have hS := heldL_call hb (l := [(w.heap.size, S, T, o), (w.heap.size + 1, U, V, p), (w2.heap.size, X, Y, q), (w3.heap.size, X, Y, q)]) (by assumption)) | ((with_reducible refine (C3 _).out.mono ?_); rintro e w4 ⟨rfl, hb⟩; have hS := heldL_call hb (l := [(w.heap.size, S, T, o), (w.heap.size + 1, U, V, p), (w2.heap.size, X, Y, q), (w3.heap.size, X, Y, q)]) (by assumption)) | ((with_reducible refine (C1 _).out.mono ?_); rintro e w4 ⟨rfl, hb⟩; have hS := heldL_call hb (l := [(w.heap.size, S, T, o), (w.heap.size + 1, U, V, p), (w2.heap.size, X, Y, q), (w3.heap.size, X, Y, q)]) (by assumption)) | ((with_reducible refine (C2 _).out.mono ?_); rintro e w4 ⟨rfl, hb⟩; have hS := heldL_call hb (l := [(w.heap.size, S, T, o), (w.heap.size + 1, U, V, p), (w2.heap.size, X, Y, q), (w3.heap.size, X, Y, q)]) (by assumption))); refine hK.out _ _ ?_ (fun hHeld => ?_); (focus ((first | assumption); done)); clear hK K) | fail
  (try simp only [Act.put, List.setIfInBounds_toArray, List.set_cons_zero, List.set_cons_succ])
  first | (refine take_yes (i := 13) (v := ?_) rfl (by kernel_rfl) (by kernel_rfl) (by kernel_rfl) (fun _ _ _ h => h) (by rfl) (by assumption) ?_ ?_; rotate_left; (focus ((intro w hSw); (try dsimp only at hSw); go_split_ands; go_simp; (try with_reducible rfl); done))) | (refine take_no (i := 13) rfl (by kernel_rfl) (by kernel_rfl) (by kernel_rfl) (fun _ _ _ h => h) (by rfl) (by assumption) ?_) | fail
  (try simp only [Act.put, List.setIfInBounds_toArray, List.set_cons_zero, List.set_cons_succ])
  first | (refine take_yes (i := 14) (v := ?_) rfl (by kernel_rfl) (by kernel_rfl) (by kernel_rfl) (fun _ _ _ h => h) (by rfl) (by assumption) ?_ ?_; rotate_left; (focus ((intro w hSw); (try dsimp only at hSw); go_split_ands; go_simp; (try with_reducible rfl); done))) | (refine take_no (i := 14) rfl (by kernel_rfl) (by kernel_rfl) (by kernel_rfl) (fun _ _ _ h => h) (by rfl) (by assumption) ?_) | fail
  (try simp only [Act.put, List.setIfInBounds_toArray, List.set_cons_zero, List.set_cons_succ])
  first | (refine take_yes (i := 15) (v := ?_) rfl (by kernel_rfl) (by kernel_rfl) (by kernel_rfl) (fun _ _ _ h => h) (by rfl) (by assumption) ?_ ?_; rotate_left; (focus ((intro w hSw); (try dsimp only at hSw); go_split_ands; go_simp; (try with_reducible rfl); done))) | (refine take_no (i := 15) rfl (by kernel_rfl) (by kernel_rfl) (by kernel_rfl) (fun _ _ _ h => h) (by rfl) (by assumption) ?_) | fail
  (try simp only [Act.put, List.setIfInBounds_toArray, List.set_cons_zero, List.set_cons_succ])
  first | (refine take_yes (i := 16) (v := ?_) rfl (by kernel_rfl) (by kernel_rfl) (by kernel_rfl) (fun _ _ _ h => h) (by rfl) (by assumption) ?_ ?_; rotate_left; (focus ((intro w hSw); (try dsimp only at hSw); go_split_ands; go_simp; (try with_reducible rfl); done))) | (refine take_no (i := 16) rfl (by kernel_rfl) (by kernel_rfl) (by kernel_rfl) (fun _ _ _ h => h) (by rfl) (by assumption) ?_) | fail
  (try simp only [Act.put, List.setIfInBounds_toArray, List.set_cons_zero, List.set_cons_succ])
  first | (refine take_yes (i := 17) (v := ?_) rfl (by kernel_rfl) (by kernel_rfl) (by kernel_rfl) (fun _ _ _ h => h) (by rfl) (by assumption) ?_ ?_; rotate_left; (focus ((intro w hSw); (try dsimp only at hSw); go_split_ands; go_simp; (try with_reducible rfl); done))) | (refine take_no (i := 17) rfl (by kernel_rfl) (by kernel_rfl) (by kernel_rfl) (fun _ _ _ h => h) (by rfl) (by assumption) ?_) | fail
  (try simp only [Act.put, List.setIfInBounds_toArray, List.set_cons_zero, List.set_cons_succ])
  first | (refine take_yes (i := 18) (v := ?_) rfl (by kernel_rfl) (by kernel_rfl) (by kernel_rfl) (fun _ _ _ h => h) (by rfl) (by assumption) ?_ ?_; rotate_left; (focus ((intro w hSw); (try dsimp only at hSw); go_split_ands; go_simp; (try with_reducible rfl); done))) | (refine take_no (i := 18) rfl (by kernel_rfl) (by kernel_rfl) (by kernel_rfl) (fun _ _ _ h => h) (by rfl) (by assumption) ?_) | fail
  (try simp only [Act.put, List.setIfInBounds_toArray, List.set_cons_zero, List.set_cons_succ])
  first | (refine take_yes (i := 19) (v := ?_) rfl (by kernel_rfl) (by kernel_rfl) (by kernel_rfl) (fun _ _ _ h => h) (by rfl) (by assumption) ?_ ?_; rotate_left; (focus ((intro w hSw); (try dsimp only at hSw); go_split_ands; go_simp; (try with_reducible rfl); done))) | (refine take_no (i := 19) rfl (by kernel_rfl) (by kernel_rfl) (by kernel_rfl) (fun _ _ _ h => h) (by rfl) (by assumption) ?_) | fail
  (try simp only [Act.put, List.setIfInBounds_toArray, List.set_cons_zero, List.set_cons_succ])
  first | (refine take_yes (i := 20) (v := ?_) rfl (by kernel_rfl) (by kernel_rfl) (by kernel_rfl) (fun _ _ _ h => h) (by rfl) (by assumption) ?_ ?_; rotate_left; (focus ((intro w hSw); (try dsimp only at hSw); go_split_ands; go_simp; (try with_reducible rfl); done))) | (refine take_no (i := 20) rfl (by kernel_rfl) (by kernel_rfl) (by kernel_rfl) (fun _ _ _ h => h) (by rfl) (by assumption) ?_) | fail
  (try simp only [Act.put, List.setIfInBounds_toArray, List.set_cons_zero, List.set_cons_succ])
  first | (refine take_yes (i := 21) (v := ?_) rfl (by kernel_rfl) (by kernel_rfl) (by kernel_rfl) (fun _ _ _ h => h) (by rfl) (by assumption) ?_ ?_; rotate_left; (focus ((intro w hSw); (try dsimp only at hSw); go_split_ands; go_simp; (try with_reducible rfl); done))) | (refine take_no (i := 21) rfl (by kernel_rfl) (by kernel_rfl) (by kernel_rfl) (fun _ _ _ h => h) (by rfl) (by assumption) ?_) | fail
  (try simp only [Act.put, List.setIfInBounds_toArray, List.set_cons_zero, List.set_cons_succ])
  first | (refine take_yes (i := 22) (v := ?_) rfl (by kernel_rfl) (by kernel_rfl) (by kernel_rfl) (fun _ _ _ h => h) (by rfl) (by assumption) ?_ ?_; rotate_left; (focus ((intro w hSw); (try dsimp only at hSw); go_split_ands; go_simp; (try with_reducible rfl); done))) | (refine take_no (i := 22) rfl (by kernel_rfl) (by kernel_rfl) (by kernel_rfl) (fun _ _ _ h => h) (by rfl) (by assumption) ?_) | fail
  (try simp only [Act.put, List.setIfInBounds_toArray, List.set_cons_zero, List.set_cons_succ])
  first | (refine take_yes (i := 23) (v := ?_) rfl (by kernel_rfl) (by kernel_rfl) (by kernel_rfl) (fun _ _ _ h => h) (by rfl) (by assumption) ?_ ?_; rotate_left; (focus ((intro w hSw); (try dsimp only at hSw); go_split_ands; go_simp; (try with_reducible rfl); done))) | (refine take_no (i := 23) rfl (by kernel_rfl) (by kernel_rfl) (by kernel_rfl) (fun _ _ _ h => h) (by rfl) (by assumption) ?_) | fail
  (try simp only [Act.put, List.setIfInBounds_toArray, List.set_cons_zero, List.set_cons_succ])
  first | (refine take_yes (i := 24) (v := ?_) rfl (by kernel_rfl) (by kernel_rfl) (by kernel_rfl) (fun _ _ _ h => h) (by rfl) (by assumption) ?_ ?_; rotate_left; (focus ((intro w hSw); (try dsimp only at hSw); go_split_ands; go_simp; (try with_reducible rfl); done))) | (refine take_no (i := 24) rfl (by kernel_rfl) (by kernel_rfl) (by kernel_rfl) (fun _ _ _ h => h) (by rfl) (by assumption) ?_) | fail
  (try simp only [Act.put, List.setIfInBounds_toArray, List.set_cons_zero, List.set_cons_succ])
  first | (refine take_yes (i := 25) (v := ?_) rfl (by kernel_rfl) (by kernel_rfl) (by kernel_rfl) (fun _ _ _ h => h) (by rfl) (by assumption) ?_ ?_; rotate_left; (focus ((intro w hSw); (try dsimp only at hSw); go_split_ands; go_simp; (try with_reducible rfl); done))) | (refine take_no (i := 25) rfl (by kernel_rfl) (by kernel_rfl) (by kernel_rfl) (fun _ _ _ h => h) (by rfl) (by assumption) ?_) | fail
  (try simp only [Act.put, List.setIfInBounds_toArray, List.set_cons_zero, List.set_cons_succ])
  first | (refine take_yes (i := 26) (v := ?_) rfl (by kernel_rfl) (by kernel_rfl) (by kernel_rfl) (fun _ _ _ h => h) (by rfl) (by assumption) ?_ ?_; rotate_left; (focus ((intro w hSw); (try dsimp only at hSw); go_split_ands; go_simp; (try with_reducible rfl); done))) | (refine take_no (i := 26) rfl (by kernel_rfl) (by kernel_rfl) (by kernel_rfl) (fun _ _ _ h => h) (by rfl) (by assumption) ?_) | fail
  (try simp only [Act.put, List.setIfInBounds_toArray, List.set_cons_zero, List.set_cons_succ])
  first | (refine take_yes (i := 27) (v := ?_) rfl (by kernel_rfl) (by kernel_rfl) (by kernel_rfl) (fun _ _ _ h => h) (by rfl) (by assumption) ?_ ?_; rotate_left; (focus ((intro w hSw); (try dsimp only at hSw); go_split_ands; go_simp; (try with_reducible rfl); done))) | (refine take_no (i := 27) rfl (by kernel_rfl) (by kernel_rfl) (by kernel_rfl) (fun _ _ _ h => h) (by rfl) (by assumption) ?_) | fail
  (try simp only [Act.put, List.setIfInBounds_toArray, List.set_cons_zero, List.set_cons_succ])
  first | (refine take_yes (i := 28) (v := ?_) rfl (by kernel_rfl) (by kernel_rfl) (by kernel_rfl) (fun _ _ _ h => h) (by rfl) (by assumption) ?_ ?_; rotate_left; (focus ((intro w hSw); (try dsimp only at hSw); go_split_ands; go_simp; (try with_reducible rfl); done))) | (refine take_no (i := 28) rfl (by kernel_rfl) (by kernel_rfl) (by kernel_rfl) (fun _ _ _ h => h) (by rfl) (by assumption) ?_) | fail
  (try simp only [Act.put, List.setIfInBounds_toArray, List.set_cons_zero, List.set_cons_succ])
  first | (refine take_yes (i := 29) (v := ?_) rfl (by kernel_rfl) (by kernel_rfl) (by kernel_rfl) (fun _ _ _ h => h) (by rfl) (by assumption) ?_ ?_; rotate_left; (focus ((intro w hSw); (try dsimp only at hSw); go_split_ands; go_simp; (try with_reducible rfl); done))) | (refine take_no (i := 29) rfl (by kernel_rfl) (by kernel_rfl) (by kernel_rfl) (fun _ _ _ h => h) (by rfl) (by assumption) ?_) | fail
  (try simp only [Act.put, List.setIfInBounds_toArray, List.set_cons_zero, List.set_cons_succ])
  first | (refine take_yes (i := 30) (v := ?_) rfl (by kernel_rfl) (by kernel_rfl) (by kernel_rfl) (fun _ _ _ h => h) (by rfl) (by assumption) ?_ ?_; rotate_left; (focus ((intro w hSw); (try dsimp only at hSw); go_split_ands; go_simp; (try with_reducible rfl); done))) | (refine take_no (i := 30) rfl (by kernel_rfl) (by kernel_rfl) (by kernel_rfl) (fun _ _ _ h => h) (by rfl) (by assumption) ?_) | fail
  (try simp only [Act.put, List.setIfInBounds_toArray, List.set_cons_zero, List.set_cons_succ])
  first | (refine take_yes (i := 31) (v := ?_) rfl (by kernel_rfl) (by kernel_rfl) (by kernel_rfl) (fun _ _ _ h => h) (by rfl) (by assumption) ?_ ?_; rotate_left; (focus ((intro w hSw); (try dsimp only at hSw); go_split_ands; go_simp; (try with_reducible rfl); done))) | (refine take_no (i := 31) rfl (by kernel_rfl) (by kernel_rfl) (by kernel_rfl) (fun _ _ _ h => h) (by rfl) (by assumption) ?_) | fail
  (try simp only [Act.put, List.setIfInBounds_toArray, List.set_cons_zero, List.set_cons_succ])
  first | (refine take_yes (i := 32) (v := ?_) rfl (by kernel_rfl) (by kernel_rfl) (by kernel_rfl) (fun _ _ _ h => h) (by rfl) (by assumption) ?_ ?_; rotate_left; (focus ((intro w hSw); (try dsimp only at hSw); go_split_ands; go_simp; (try with_reducible rfl); done))) | (refine take_no (i := 32) rfl (by kernel_rfl) (by kernel_rfl) (by kernel_rfl) (fun _ _ _ h => h) (by rfl) (by assumption) ?_) | fail
  (try simp only [Act.put, List.setIfInBounds_toArray, List.set_cons_zero, List.set_cons_succ])
  first | (refine take_yes (i := 33) (v := ?_) rfl (by kernel_rfl) (by kernel_rfl) (by kernel_rfl) (fun _ _ _ h => h) (by rfl) (by assumption) ?_ ?_; rotate_left; (focus ((intro w hSw); (try dsimp only at hSw); go_split_ands; go_simp; (try with_reducible rfl); done))) | (refine take_no (i := 33) rfl (by kernel_rfl) (by kernel_rfl) (by kernel_rfl) (fun _ _ _ h => h) (by rfl) (by assumption) ?_) | fail
  (try simp only [Act.put, List.setIfInBounds_toArray, List.set_cons_zero, List.set_cons_succ])
  first | (refine take_yes (i := 34) (v := ?_) rfl (by kernel_rfl) (by kernel_rfl) (by kernel_rfl) (fun _ _ _ h => h) (by rfl) (by assumption) ?_ ?_; rotate_left; (focus ((intro w hSw); (try dsimp only at hSw); go_split_ands; go_simp; (try with_reducible rfl); done))) | (refine take_no (i := 34) rfl (by kernel_rfl) (by kernel_rfl) (by kernel_rfl) (fun _ _ _ h => h) (by rfl) (by assumption) ?_) | fail
  (try simp only [Act.put, List.setIfInBounds_toArray, List.set_cons_zero, List.set_cons_succ])
  first | (refine take_yes (i := 35) (v := ?_) rfl (by kernel_rfl) (by kernel_rfl) (by kernel_rfl) (fun _ _ _ h => h) (by rfl) (by assumption) ?_ ?_; rotate_left; (focus ((intro w hSw); (try dsimp only at hSw); go_split_ands; go_simp; (try with_reducible rfl); done))) | (refine take_no (i := 35) rfl (by kernel_rfl) (by kernel_rfl) (by kernel_rfl) (fun _ _ _ h => h) (by rfl) (by assumption) ?_) | fail
  (try simp only [Act.put, List.setIfInBounds_toArray, List.set_cons_zero, List.set_cons_succ])
  first | (refine take_yes (i := 36) (v := ?_) rfl (by kernel_rfl) (by kernel_rfl) (by kernel_rfl) (fun _ _ _ h => h) (by rfl) (by assumption) ?_ ?_; rotate_left; (focus ((intro w hSw); (try dsimp only at hSw); go_split_ands; go_simp; (try with_reducible rfl); done))) | (refine take_no (i := 36) rfl (by kernel_rfl) (by kernel_rfl) (by kernel_rfl) (fun _ _ _ h => h) (by rfl) (by assumption) ?_) | fail
  (try simp only [Act.put, List.setIfInBounds_toArray, List.set_cons_zero, List.set_cons_succ])
  first | (refine take_yes (i := 37) (v := ?_) rfl (by kernel_rfl) (by kernel_rfl) (by kernel_rfl) (fun _ _ _ h => h) (by rfl) (by assumption) ?_ ?_; rotate_left; (focus ((intro w hSw); (try dsimp only at hSw); go_split_ands; go_simp; (try with_reducible rfl); done))) | (refine take_no (i := 37) rfl (by kernel_rfl) (by kernel_rfl) (by kernel_rfl) (fun _ _ _ h => h) (by rfl) (by assumption) ?_) | fail
  (try simp only [Act.put, List.setIfInBounds_toArray, List.set_cons_zero, List.set_cons_succ])
  first | (refine take_yes (i := 38) (v := ?_) rfl (by kernel_rfl) (by kernel_rfl) (by kernel_rfl) (fun _ _ _ h => h) (by rfl) (by assumption) ?_ ?_; rotate_left; (focus ((intro w hSw); (try dsimp only at hSw); go_split_ands; go_simp; (try with_reducible rfl); done))) | (refine take_no (i := 38) rfl (by kernel_rfl) (by kernel_rfl) (by kernel_rfl) (fun _ _ _ h => h) (by rfl) (by assumption) ?_) | fail
  (try simp only [Act.put, List.setIfInBounds_toArray, List.set_cons_zero, List.set_cons_succ])
  refine wpAnyH_done (by kernel_rfl) ?_ _
  refine NoPanic.normal ?_
  go_wp2_with fail
  go_ret
  exact ⟨rfl, heldL_size hS⟩

set_option maxHeartbeats 4000000 in
theorem spanMeets_w4 (a b m : Rng) (s : List UInt8) (S T U V W X Y : ByteArray) (o p q : Bool) (ia : IsR a S T o) (ib : IsR b U V p) (im : IsR m X Y q) (hW : str s = W) (hm : meetR a b = some m) (h1 : hasR a s = true) (hx : (X.toList == S.toList) = false)
    (hs : S.size ≤ 300 ∧ T.size ≤ 300 ∧ U.size ≤ 300 ∧ V.size ≤ 300 ∧ W.size ≤ 300) (w : World) :
    Calls Try.prog 4 #[.agg #[.string S, .string T, .bool o], .agg #[.string U, .string V, .bool p], .string W] w fun e w' => e = .returned (.bool true) ∧ Below w.heap.size w w' := by
  have A0 := fun w => Lib.hid (awake07 w)
  have LG := fun w => Lib.hid (long_new w [S, T, U, V, W] #[.string S, .string T, .string U, .string V, .string W] 9 5 false rfl rfl (by omega) (shortT5 hs))
  have H0 := Lib.hid (heldL_two w S T U V o p 23)
  have hv : MeetIs a b m true := .inl ⟨hm, rfl⟩
  have M1 := fun w => Lib.hid (span_meet a b m S T U V X Y o p q true ia ib im hv w)
  have M2 := fun w => Lib.hid (span_meet b a m U V S T X Y p o q true ib ia im (meetIs_comm hv) w)
  have hzs : s.length ≤ 1000000 := by have := str_size s; rw [hW] at this; omega
  obtain ⟨d2, e2⟩ : ∃ c, hasR b s = c := ⟨_, rfl⟩
  have e3 := meetR_has hm s
  rw [h1, e2] at e3
  have RM := fun w => Lib.hid (ref_rright m X Y q true im (meetR_some hm).2.2.1 w)
  have C1 := fun w => Lib.hid (ref_has a s S T W o true ia hW hzs h1 w)
  have C2 := fun w => Lib.hid (ref_has b s U V W p d2 ib hW hzs e2 w)
  obtain ⟨d, e4⟩ : ∃ d, hasR m s = d := ⟨_, rfl⟩
  rw [e4] at e3
  have C3 := fun w => Lib.hid (ref_has m s X Y W q d im hW hzs e4 w)
  have EQ := fun w => Lib.hid (eq_rng_is X Y X Y q q true (by simp) w)
  have g' : (X.toList == U.toList) = true := by
    refine txt_eqB im.lo ib.lo ?_
    rcases meetR_lo hm with h' | h'
    · rw [txt_eqB im.lo ia.lo h'] at hx; cases hx
    · exact h'
  obtain rfl : d = d2 := by rw [e3, Bool.true_and]
  clear ia ib im hW hm hs hzs e2 e4 hv h1 e3
  go_enter Try.func4, Try.ntmps4
  go_wp2_with (first
    | ((with_reducible refine (A0 _).out.mono ?_); rintro e w0 ⟨rfl, hb⟩; (try clear a0 a1 a2 a3 b0 b1 b2 b3 hbb); replace H0 := Lib.hid (heldL_call hb H0.out); obtain ⟨⟨a0, a1, a2, a3⟩, ⟨b0, b1, b2, b3⟩, hbb⟩ := H0.out; have l0 := RgAt.lt H0.out.1; have l1 := RgAt.lt H0.out.2.1; clear hb)
    | ((with_reducible refine (LG _).out.mono ?_); rintro e w' ⟨rfl, rfl⟩; replace H0 := Lib.hid (heldL_alloc (.cells #[.string S, .string T, .string U, .string V, .string W] 9) H0.out))
    | ((with_reducible refine (M1 _).out.mono ?_); rintro e w2 ⟨rfl, hb⟩; (try clear a0 a1 a2 a3 b0 b1 b2 b3 hbb); replace H0 := Lib.hid (heldL_call hb H0.out); obtain ⟨⟨a0, a1, a2, a3⟩, ⟨b0, b1, b2, b3⟩, hbb⟩ := H0.out; have l0 := RgAt.lt H0.out.1; have l1 := RgAt.lt H0.out.2.1; clear hb; have H3 : Hid (HeldL w [(w.heap.size, S, T, o), (w.heap.size + 1, U, V, p), (w2.heap.size, X, Y, q)] (w2.alloc (.cells #[.string X, .string Y, .bool q] 23))) := ⟨RgAt.keep H0.out.1 _, RgAt.keep H0.out.2.1 _, rgAt_new w2 _ _ _ _, Below.alloc hbb (Below.size hbb) _⟩)
    | ((with_reducible refine (M2 _).out.mono ?_); rintro e w3 ⟨rfl, hb⟩; clear a0 a1 a2 a3 b0 b1 b2 b3 hbb; replace H3 := Lib.hid (heldL_call hb H3.out); obtain ⟨⟨a0, a1, a2, a3⟩, ⟨b0, b1, b2, b3⟩, ⟨m0, m1, m2, m3⟩, hbb⟩ := H3.out; have l0 := RgAt.lt H3.out.1; have l1 := RgAt.lt H3.out.2.1; have l2 := RgAt.lt H3.out.2.2.1; clear hb))
  have HS0 : Hid (HeldL w [(w.heap.size, S, T, o), (w.heap.size + 1, U, V, p), (w2.heap.size, X, Y, q), (w3.heap.size, X, Y, q)] (w3.alloc (.cells #[.string X, .string Y, .bool q] 23))) := ⟨RgAt.keep H3.out.1 _, RgAt.keep H3.out.2.1 _, RgAt.keep H3.out.2.2.1 _, rgAt_new w3 _ _ _ _, Below.alloc hbb (Below.size hbb) _⟩
  clear a0 a1 a2 a3 b0 b1 b2 b3 m0 m1 m2 m3 hbb
  have EQ := fun w => (EQ w).out
  clear A0 LG M1 M2 H0 H3 l0 l1 l2
  go_region_held3 (fun w' => (w'.cell? ⟨w.heap.size, 0, none⟩ = some (.string S) ∧ w'.cell? ⟨w.heap.size, 1, none⟩ = some (.string T) ∧ w'.cell? ⟨w.heap.size, 2, none⟩ = some (.bool o) ∧ ∀ k, w'.frozen? ⟨w.heap.size, k, none⟩ = false) ∧ (w'.cell? ⟨w.heap.size + 1, 0, none⟩ = some (.string U) ∧ w'.cell? ⟨w.heap.size + 1, 1, none⟩ = some (.string V) ∧ w'.cell? ⟨w.heap.size + 1, 2, none⟩ = some (.bool p) ∧ ∀ k, w'.frozen? ⟨w.heap.size + 1, k, none⟩ = false) ∧ (w'.cell? ⟨w2.heap.size, 0, none⟩ = some (.string X) ∧ w'.cell? ⟨w2.heap.size, 1, none⟩ = some (.string Y) ∧ w'.cell? ⟨w2.heap.size, 2, none⟩ = some (.bool q) ∧ ∀ k, w'.frozen? ⟨w2.heap.size, k, none⟩ = false) ∧ (w'.cell? ⟨w3.heap.size, 0, none⟩ = some (.string X) ∧ w'.cell? ⟨w3.heap.size, 1, none⟩ = some (.string Y) ∧ w'.cell? ⟨w3.heap.size, 2, none⟩ = some (.bool q) ∧ ∀ k, w'.frozen? ⟨w3.heap.size, k, none⟩ = false) ∧ Below w.heap.size w w')
    (first | assumption | exact heldL_drew (l := [(w.heap.size, S, T, o), (w.heap.size + 1, U, V, p), (w2.heap.size, X, Y, q), (w3.heap.size, X, Y, q)]) HS0.out | go_keep)
    (first | ((with_reducible refine (RM _).out.mono ?_); rintro e w4 ⟨rfl, hb⟩; have hS := heldL_call hb (l := [(w.heap.size, S, T, o), (w.heap.size + 1, U, V, p), (w2.heap.size, X, Y, q), (w3.heap.size, X, Y, q)]) (by assumption)) | ((with_reducible refine (C3 _).out.mono ?_); rintro e w4 ⟨rfl, hb⟩; have hS := heldL_call hb (l := [(w.heap.size, S, T, o), (w.heap.size + 1, U, V, p), (w2.heap.size, X, Y, q), (w3.heap.size, X, Y, q)]) (by assumption)) | ((with_reducible refine (C1 _).out.mono ?_); rintro e w4 ⟨rfl, hb⟩; have hS := heldL_call hb (l := [(w.heap.size, S, T, o), (w.heap.size + 1, U, V, p), (w2.heap.size, X, Y, q), (w3.heap.size, X, Y, q)]) (by assumption)) | ((with_reducible refine (C2 _).out.mono ?_); rintro e w4 ⟨rfl, hb⟩; have hS := heldL_call hb (l := [(w.heap.size, S, T, o), (w.heap.size + 1, U, V, p), (w2.heap.size, X, Y, q), (w3.heap.size, X, Y, q)]) (by assumption)))
  go_wp2_with fail
  go_ret
  exact ⟨rfl, heldL_size hS⟩
end Go.Proofs.Ytmdalbglekjcjaa
