/-
  The laws of layer 7: which texts are too long to be looked at; the chapter's examples.
-/
import Derived.Test.YtmdalbglekjcjaaSpanE
import Derived.Deep.RegionHeld3
import Derived.Deep.DeepCutAuto
namespace Go.Proofs.Ytmdalbglekjcjaa
open Go.RowKit

/-- Texts as cells. -/
abbrev txts (l : List ByteArray) : List Value := l.map Value.string
theorem txts_get {l : List ByteArray} {k : Nat} (h : k < l.length) : (txts l)[k]? = some (.string (l.getD k ⟨#[]⟩)) := by
  simp [txts, List.getD, List.getElem?_eq_getElem h]
/-- Is one of them too long? -/
def longT (l : List ByteArray) : Bool := l.any fun s => decide (300 < s.size)
theorem longT_drop {l : List ByteArray} {k : Nat} (h : k < l.length) : longT (l.drop k) = (decide (300 < (l.getD k ⟨#[]⟩).size) || longT (l.drop (k + 1))) := by
  unfold longT
  rw [List.drop_eq_getElem_cons h, List.any_cons]
  simp [List.getD, List.getElem?_eq_getElem h]
set_option maxHeartbeats 400000 in
theorem law_long (b c n : Nat) (l : List ByteArray) (hn : n = l.length) (hs : n ≤ 1000) (w : World) (hr : ∀ k u, (txts l)[k]? = some u → w.cell? ⟨b, k, none⟩ = some u) :
    Calls Try.prog 7 #[.slice (some ⟨b, 0, none⟩) n c] w fun e w' => e = .returned (.bool (longT l)) ∧ w = w' := by
  have HN := Lib.hid hn
  have HR : Hid (∀ k, k < n → w.cell? ⟨b, k, none⟩ = some (.string (l.getD k ⟨#[]⟩))) := fun k hk => hr k _ (txts_get (by omega))
  have HS := fun k (hk : k < n) => Lib.hid (longT_drop (l := l) (k := k) (by omega))
  clear hr hn
  go_enter Try.func7, Try.ntmps7
  go_wp2_with fail
  go_loop [7] (fun i => ∃ k : Nat, k ≤ n ∧ Hid (longT l = longT (l.drop k)) ∧ i = .int .i64 k) (fun i => n - (intOf i).toNat)
  case atStart => exact ⟨0, by omega, by rw [List.drop_zero]; exact rfl, rfl⟩
  case round =>
    obtain ⟨k, hk, HL, rfl⟩ := hrel
    by_cases hlt : k < n
    · have c1 := HR.out k hlt
      have HS1 := HS k hlt
      obtain ⟨S, hS⟩ : ∃ S, l.getD k ⟨#[]⟩ = S := ⟨_, rfl⟩
      rw [hS] at c1 HS1
      clear hS HS
      by_cases h3 : 300 < S.size
      · have HE := Lib.hid (HL.out.trans (HS1.out.trans (by rw [decide_eq_true h3, Bool.true_or])))
        go_wp2_with fail
        go_ret
        exact ⟨ret_bool HE.out.symm, rfl⟩
      · have h3' : S.size ≤ 300 := by omega
        have HE := Lib.hid (HL.out.trans (HS1.out.trans (by rw [decide_eq_false h3, Bool.false_or])))
        go_wp2_with fail
        go_round
        case rel => exact ⟨k + 1, by omega, HE, by go_num⟩
        case measure => simp [intOf]; omega
    · have HE := Lib.hid (HL.out.trans (show longT (l.drop k) = false by rw [List.drop_eq_nil_of_le (by have := HN.out; omega)]; rfl))
      clear HS
      go_wp2_with fail
      go_ret
      exact ⟨ret_bool HE.out.symm, rfl⟩
theorem txts_new (w : World) (l : List ByteArray) (cs : Array Value) (t : TypeId) (h : cs.toList = txts l) : ∀ k u, (txts l)[k]? = some u → (w.alloc (.cells cs t)).cell? ⟨w.heap.size, k, none⟩ = some u := fun k u hu => by
  rw [cell_of_row _ _ _ cs t (0, 0) (heap_new w _ _ rfl), ← Array.getElem?_toList, h]; exact hu
/-- Texts in a block that has just been made: are some too long? -/
theorem long_new (w : World) (l : List ByteArray) (cs : Array Value) (t : TypeId) (n : Nat) (v : Bool) (h : cs.toList = txts l) (hn : n = l.length) (hs : n ≤ 1000) (hv : longT l = v) :
    Calls Try.prog 7 #[.slice (some ⟨w.heap.size, 0, none⟩) n n] (w.alloc (.cells cs t)) fun e w' => e = .returned (.bool v) ∧ w.alloc (.cells cs t) = w' := by
  subst hv
  exact law_long w.heap.size n n l hn hs _ (txts_new w l cs t h)
theorem is_lit (a b : List UInt8) (o : Bool) : IsR ⟨a, b, o⟩ (str a) (str b) o := ⟨rfl, rfl, rfl⟩
set_option maxHeartbeats 2000000 in
theorem awake07 (w : World) : Calls Try.prog 6 #[] w fun e w' => e = .returned (.bool true) ∧ Below w.heap.size w w' := by
  have P1 := fun w => Lib.hid (span_prefix [97] ⟨[97], [98], false⟩ ⟨#[97]⟩ ⟨#[97]⟩ ⟨#[98]⟩ false rfl (by simp) rfl ⟨rfl, rfl, rfl⟩ w)
  have P2 := fun w => Lib.hid (span_prefix [255] ⟨[255], [], true⟩ ⟨#[255]⟩ ⟨#[255]⟩ ⟨#[]⟩ true rfl (by simp) rfl ⟨rfl, rfl, rfl⟩ w)
  have O1 := fun w => Lib.hid (span_of [97, 98] ⟨[97, 98], [97, 98, 0], false⟩ ⟨#[97, 98]⟩ ⟨#[97, 98]⟩ ⟨#[97, 98, 0]⟩ false rfl (by simp) rfl ⟨rfl, rfl, rfl⟩ w)
  have M1 := fun w => Lib.hid (span_meet ⟨[97], [98], false⟩ ⟨[97, 98], [97, 98, 0], false⟩ ⟨[97, 98], [97, 98, 0], false⟩ ⟨#[97]⟩ ⟨#[98]⟩ ⟨#[97, 98]⟩ ⟨#[97, 98, 0]⟩ ⟨#[97, 98]⟩ ⟨#[97, 98, 0]⟩ false false false true ⟨rfl, rfl, rfl⟩ ⟨rfl, rfl, rfl⟩ ⟨rfl, rfl, rfl⟩ (.inl ⟨rfl, rfl⟩) w)
  have H1 := fun w => Lib.hid (span_has ⟨[97, 98], [97, 98, 0], false⟩ [97, 98] ⟨#[97, 98]⟩ ⟨#[97, 98, 0]⟩ ⟨#[97, 98]⟩ false true ⟨rfl, rfl, rfl⟩ rfl rfl w)
  have H2 := fun w => Lib.hid (span_has ⟨[97, 98], [97, 98, 0], false⟩ [97, 98, 97] ⟨#[97, 98]⟩ ⟨#[97, 98, 0]⟩ ⟨#[97, 98, 97]⟩ false false ⟨rfl, rfl, rfl⟩ rfl rfl w)
  have E1 := fun w => Lib.hid (eq_rng_is ⟨#[97]⟩ ⟨#[98]⟩ ⟨#[97]⟩ ⟨#[98]⟩ false false true (by simp) w)
  have E2 := fun w => Lib.hid (eq_rng_is ⟨#[97, 98]⟩ ⟨#[97, 98, 0]⟩ ⟨#[97, 98]⟩ ⟨#[97, 98, 0]⟩ false false true (by simp) w)
  have E3 := fun w => Lib.hid (eq_rng_is ⟨#[255]⟩ ⟨#[]⟩ ⟨#[255]⟩ ⟨#[]⟩ true true true (by simp) w)
  go_enter Try.func6, Try.ntmps6
  go_upto_region 2 with ((with_reducible refine (P1 _).out.mono ?_); rintro e w1 ⟨rfl, hb1⟩)
  go_cut [1, 2, 3] (fun s1 s2 s3 wx => ∃ g h : Nat, s1 = .pointer (some ⟨g, 0, none⟩) ∧ s2 = .pointer (some ⟨h, 0, none⟩) ∧ s3 = .bool true ∧ HeldL w [(g, ⟨#[97]⟩, ⟨#[98]⟩, false), (h, ⟨#[97, 98]⟩, ⟨#[97, 98, 0]⟩, false)] wx)
  case first =>
    have HR := Lib.hid (rgAt_new w1 ⟨#[97]⟩ ⟨#[98]⟩ false 23)
    have l0 := hb1.size
    have hB := Lib.hid (hb1.alloc hb1.size (.cells #[.string ⟨#[97]⟩, .string ⟨#[98]⟩, .bool false] 23))
    go_region_held3 (fun w' => (w'.cell? ⟨w1.heap.size, 0, none⟩ = some (.string ⟨#[97]⟩) ∧ w'.cell? ⟨w1.heap.size, 1, none⟩ = some (.string ⟨#[98]⟩) ∧ w'.cell? ⟨w1.heap.size, 2, none⟩ = some (.bool false) ∧ ∀ k, w'.frozen? ⟨w1.heap.size, k, none⟩ = false) ∧ Below w.heap.size w w')
      (first | assumption | ((with_reducible refine heldR_alloc ?_ _); assumption) | ((with_reducible refine heldR_set3 ?_ (by first | omega | (simp; done) | (simp; omega)) (by first | omega | (simp; done) | (simp; omega)) _ _ _); assumption) | (with_reducible exact heldR_drew (RgAt.keep HR.out _) (Below.alloc hB.out (Below.size hB.out) _)) | exact heldR_drew HR.out hB.out | go_keep)
      (first
        | ((with_reducible refine (O1 _).out.mono ?_); rintro e w2 ⟨rfl, hb2⟩; have hS := heldR_call (by assumption) hb2; have q2 := RgAt.lt (w := w2) hS.1; (first | (have HN := Lib.hid (RgAt.below (rgAt_new1 w1 _ ⟨#[]⟩ ⟨#[]⟩ false _) hb2)) | (have HN := Lib.hid (RgAt.below (RgAt.drew (rgAt_new1 w1 _ ⟨#[]⟩ ⟨#[]⟩ false _)) hb2)) | skip))
        | ((with_reducible refine (M1 _).out.mono ?_); rintro e w3 ⟨rfl, hb3⟩; have hS := heldR_call (by assumption) hb3; have q3 := RgAt.lt (w := w3) hS.1; (first | (replace HN := Lib.hid (HN.out.below hb3); obtain ⟨n0, n1, n2, n3⟩ := HN.out) | (have HN := Lib.hid (RgAt.below (rgAt_new _ ⟨#[]⟩ ⟨#[]⟩ false _) hb3); obtain ⟨n0, n1, n2, n3⟩ := HN.out) | skip)))
    all_goals
      go_wp2_with fail
      go_meet
      first
        | exact ⟨_, _, rfl, rfl, rfl, RgAt.other3 (w := w3) hS.1 (by omega) _ _ _, HN.out.set3 _ _ _, below_set3 hS.2 (by omega) _ _ _⟩
        | exact ⟨_, _, rfl, rfl, rfl, RgAt.keep (w := w3) hS.1 _, rgAt_new w3 _ _ _ _, hS.2.alloc hS.2.size _⟩
  case rest =>
    obtain ⟨g, h, rfl, rfl, rfl, hL⟩ := hcut
    have HL := Lib.hid hL
    clear hL
    have E1 := fun w => (E1 w).out
    have E2 := fun w => (E2 w).out
    have E3 := fun w => (E3 w).out
    go_wp2_with fail
    go_region_held3 (fun w' => (w'.cell? ⟨g, 0, none⟩ = some (.string ⟨#[97]⟩) ∧ w'.cell? ⟨g, 1, none⟩ = some (.string ⟨#[98]⟩) ∧ w'.cell? ⟨g, 2, none⟩ = some (.bool false) ∧ ∀ k, w'.frozen? ⟨g, k, none⟩ = false) ∧ (w'.cell? ⟨h, 0, none⟩ = some (.string ⟨#[97, 98]⟩) ∧ w'.cell? ⟨h, 1, none⟩ = some (.string ⟨#[97, 98, 0]⟩) ∧ w'.cell? ⟨h, 2, none⟩ = some (.bool false) ∧ ∀ k, w'.frozen? ⟨h, k, none⟩ = false) ∧ Below w.heap.size w w')
      (first | assumption | exact heldL_drew (l := [(g, ⟨#[97]⟩, ⟨#[98]⟩, false), (h, ⟨#[97, 98]⟩, ⟨#[97, 98, 0]⟩, false)]) HL.out | go_keep)
      (first
        | ((with_reducible refine (O1 _).out.mono ?_); rintro e w2 ⟨rfl, hb2⟩; have hS := heldL_call hb2 (l := [(g, ⟨#[97]⟩, ⟨#[98]⟩, false), (h, ⟨#[97, 98]⟩, ⟨#[97, 98, 0]⟩, false)]) (by assumption))
        | ((with_reducible refine (H1 _).out.mono ?_); rintro e w2 ⟨rfl, hb2⟩; have hS := heldL_call hb2 (l := [(g, ⟨#[97]⟩, ⟨#[98]⟩, false), (h, ⟨#[97, 98]⟩, ⟨#[97, 98, 0]⟩, false)]) (by assumption))
        | ((with_reducible refine (H2 _).out.mono ?_); rintro e w2 ⟨rfl, hb2⟩; have hS := heldL_call hb2 (l := [(g, ⟨#[97]⟩, ⟨#[98]⟩, false), (h, ⟨#[97, 98]⟩, ⟨#[97, 98, 0]⟩, false)]) (by assumption))
        | ((with_reducible refine (P2 _).out.mono ?_); rintro e w2 ⟨rfl, hb2⟩; have hS := heldL_call hb2 (l := [(g, ⟨#[97]⟩, ⟨#[98]⟩, false), (h, ⟨#[97, 98]⟩, ⟨#[97, 98, 0]⟩, false)]) (by assumption)))
    all_goals
      go_wp2_with fail
      go_ret
      exact ⟨rfl, heldL_size hS⟩
end Go.Proofs.Ytmdalbglekjcjaa
