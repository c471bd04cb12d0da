/-
  The walks of the layer of numbers as bytes: what puts.
-/
import Derived.Test.YtonghhnodpjkfaaBytes
import Derived.Test.YtonghhnodpjkfaaVarPure
import Derived.Lib.SliceRun
import Derived.Outline
namespace Go.Proofs.Ytonghhnodpjkfaa
open Go.RowKit

set_option maxHeartbeats 400000 in
theorem clone_bytes (A : Option Addr) (c B : Nat) (l : List UInt8) (w : World) (h : RdB w B A c l) (hB : B ≤ w.heap.size) (hl : l.length ≤ 140737488355328) :
    Calls Try.prog 26 #[.slice A l.length c] w (RetB w.heap.size w l) := by
  have K1 := fun w : World => Lib.run_eql_slice_nil (P := Try.prog) w 25 5 A l.length c 0 0 Try.underlying25
  cases A with
  | none =>
    have hnil : l = [] := by
      rcases h.row with h | ⟨b, o, h, _⟩
      · simpa [bytes] using h
      · cases h
    have fin : RetB w.heap.size w l (.returned (.slice none 0 0)) w := ⟨_, rfl, by subst hnil; exact World.ownsRow_nil w _ _ _, Below.refl _ _⟩
    have FIN := Lib.hid fin
    clear fin hnil
    go_enter Try.func26, Try.ntmps26
    go_wp2
    go_ret
    exact FIN.out
  | some a =>
    have hz : OwnB (w.alloc (.cells #[] 5)) w.heap.size (.slice (some ⟨w.heap.size, 0, none⟩) 0 0) [] := own_none w 5 1
    have hle : w.heap.size ≤ (w.alloc (.cells #[] 5)).heap.size := by simp
    have hrow := h.row.keep (w' := w.alloc (.cells #[] 5)) (fun p hp => World.cell?_alloc_lt w _ p (by omega))
    have hm : ([] : List UInt8).length + l.length ≤ 140737488355328 := by simpa using hl
    have hbz : Below w.heap.size w (w.alloc (.cells #[] 5)) := (Below.refl _ _).alloc (Nat.le_refl _) _
    clear hl
    go_enter Try.func26, Try.ntmps26
    go_wp2_with (at_builtin; refine wpList_app_row rfl (.tmp 5) (.tmp 6) rfl w.heap.size (.slice (some ⟨w.heap.size, 0, none⟩) 0 0) [] rfl hz B (some a) c l.length l rfl rfl hrow hm hle ?_; intro v2 w2 hown2 _ hb2 _)
    go_ret
    exact ⟨v2, rfl, hown2, hbz.trans hb2⟩

set_option maxHeartbeats 400000 in
set_option maxRecDepth 100000 in
theorem put_own (base : Nat) (v : Value) (xs : List UInt8) (n : Nat) (w : World) (hn : n ≤ 9223372036854775807) (ho : OwnB w base v xs) (hb : base ≤ w.heap.size) (hl : xs.length + (putV n).length ≤ 140737488355328) :
    Calls Try.prog 27 #[v, .int .i64 (n : Int)] w (RetB base w (xs ++ putV n)) := by
  go_enter Try.func27, Try.ntmps27
  go_wp2
  go_loopw [0, 1] (fun a b wr => ∃ (ys : List UInt8) (m : Nat), m ≤ n ∧ OwnB wr base a ys ∧ ys ++ putV m = xs ++ putV n ∧ b = .int .i64 (m : Int) ∧ Below base w wr) (fun _ b _ => (intOf b).toNat)
  case atStart => exact ⟨xs, n, Nat.le_refl _, ho, rfl, rfl, Below.refl _ _⟩
  case round =>
    obtain ⟨ys, m, hmn, hown, heq, rfl, hbw⟩ := hrel
    have hbs : base ≤ wr.heap.size := Nat.le_trans hb hbw.size
    have hlen : ys.length + (putV m).length ≤ 140737488355328 := by rw [← List.length_append, heq, List.length_append]; exact hl
    have hm0 := putV_pos m
    have hle (o : Obj) : base ≤ (wr.alloc o).heap.size := by simp; omega
    by_cases hlt : m < 128
    · have hrow := byte_row wr (m : Int) (UInt8.ofNat m) (by simp; omega)
      have hl1 : ys.length + [UInt8.ofNat m].length ≤ 140737488355328 := by rw [putV_small hlt] at hlen; exact hlen
      rw [putV_small hlt] at heq
      have HEQ := Lib.hid heq
      have HA := fun o => Lib.hid (hown.alloc o)
      have HB := fun o => Lib.hid (hbw.alloc hbs o)
      clear heq hn hl ho hlen
      go_wp2_with (at_builtin; refine wpList_app_row rfl (.tmp 16) (.tmp 19) rfl base _ ys rfl (HA _).out _ _ 1 1 [UInt8.ofNat m] rfl rfl hrow hl1 (hle _) ?_; intro v2 w2 hown2 _ hb2 _)
      go_ret
      exact ⟨v2, rfl, by rw [← HEQ.out]; exact hown2, (HB _).out.trans hb2⟩
    · have hrow := byte_row wr ((m : Int) % 128 + 128) (UInt8.ofNat (m % 128 + 128)) (by simp; omega)
      have hl1 : ys.length + [UInt8.ofNat (m % 128 + 128)].length ≤ 140737488355328 := by simp; omega
      rw [putV_big hlt] at heq
      have HEQ := Lib.hid heq
      have HA := fun o => Lib.hid (hown.alloc o)
      have HB := fun o => Lib.hid (hbw.alloc hbs o)
      clear heq hl ho hlen
      go_wp2_with (at_builtin; refine wpList_app_row rfl (.tmp 7) (.tmp 12) rfl base _ ys rfl (HA _).out _ _ 1 1 [UInt8.ofNat (m % 128 + 128)] rfl rfl hrow hl1 (hle _) ?_; intro v2 w2 hown2 _ hb2 _)
      go_roundw
      case rel => exact ⟨ys ++ [UInt8.ofNat (m % 128 + 128)], m / 128, by omega, hown2, by rw [← HEQ.out]; simp, by go_num, (HB _).out.trans hb2⟩
      case measure => simp [intOf]; omega

/-- Is it a number that has bytes? -/
def okN (n : Int) : Bool := decide (0 ≤ n ∧ n ≤ 281474976710656)
def okL (l : List Int) : Bool := l.all okN
theorem okL_bad {l : List Int} {k : Nat} (hk : k < l.length) (h : okN (l.getD k 0) = false) : okL l = false := by
  rw [okL, List.all_eq_false]
  refine ⟨l[k], List.getElem_mem hk, ?_⟩
  simpa [List.getD, List.getElem?_eq_getElem hk] using h
theorem okL_good {l : List Int} (h : ∀ j, j < l.length → okN (l.getD j 0) = true) : okL l = true := by
  rw [okL, List.all_eq_true]
  intro x hx
  obtain ⟨j, hj, rfl⟩ := List.getElem_of_mem hx
  simpa [List.getD, List.getElem?_eq_getElem hj] using h j hj
theorem okL_at {l : List Int} (h : okL l = true) {k : Nat} (hk : k < l.length) : 0 ≤ l.getD k 0 ∧ l.getD k 0 ≤ 281474976710656 := by
  rw [okL, List.all_eq_true] at h
  have := h l[k] (List.getElem_mem hk)
  simpa [okN, List.getD, List.getElem?_eq_getElem hk] using this
theorem take_snoc_int (l : List Int) (k : Nat) (h : k < l.length) : l.take (k + 1) = l.take k ++ [l.getD k 0] := by
  rw [List.take_succ_eq_append_getElem h]; simp [List.getD, List.getElem?_eq_getElem h]
theorem take_snoc_list (l : List (List UInt8)) (k : Nat) (h : k < l.length) : l.take (k + 1) = l.take k ++ [l.getD k []] := by
  rw [List.take_succ_eq_append_getElem h]; simp [List.getD, List.getElem?_eq_getElem h]
/-- A row of the call's own and no error. -/
def RetB2 (base : Nat) (w : World) (l : List UInt8) (e : Ending) (w' : World) : Prop := ∃ v, e = .returned (.tuple #[v, .int .i64 0]) ∧ OwnB w' base v l ∧ Below base w w'
def PutPost (w : World) (b : List UInt8) (l : List Int) (e : Ending) (w' : World) : Prop :=
  (okL l = true ∧ RetB2 w.heap.size w (b ++ putsV l) e w') ∨ (okL l = false ∧ e = .returned (.tuple #[.slice none 0 0, .int .i64 2]) ∧ w = w')

set_option maxHeartbeats 1000000 in
set_option maxRecDepth 100000 in
theorem varint_put (A : Option Addr) (c B : Nat) (b : List UInt8) (A2 : Option Addr) (n2 c2 : Nat) (l : List Int) (w : World) (hn2 : n2 = l.length) (hb : RdB w B A c b) (hr : RowAt w B A2 (ints l)) (hall : AllI64 l) (hB : B ≤ w.heap.size)
    (hlen : b.length + 9 * l.length ≤ 140737488355328) :
    Calls Try.prog 15 #[.slice A b.length c, .slice A2 n2 c2] w (PutPost w b l) := by
  subst hn2
  have hb9 := putsV_len
  go_enter Try.func15, Try.ntmps15
  go_wp2
  go_loop [13] (fun i => ∃ k : Nat, k ≤ l.length ∧ (∀ j, j < k → okN (l.getD j 0) = true) ∧ i = .int .i64 k) (fun i => l.length - (intOf i).toNat)
  case atStart => exact ⟨0, by omega, fun j hj => by omega, rfl⟩
  case round =>
    obtain ⟨k, hk, hok, rfl⟩ := hrel
    have HOK := Lib.hid hok
    clear hok
    by_cases hlt : k < l.length
    · obtain ⟨b0, o0, rfl, _, hc⟩ := hr.ints_at (by omega)
      have hcell := hc k hlt
      have hbd := hall.at_ hlt
      have HBAD := fun h => Lib.hid (okL_bad hlt h)
      have HK : Hid (okN (l.getD k 0) = true → ∀ j, j < k + 1 → okN (l.getD j 0) = true) := fun h j hj => by
        rcases Nat.lt_or_ge j k with h' | h'
        · exact HOK.out j h'
        · obtain rfl : j = k := by omega
          exact h
      clear hc hall hb9
      obtain ⟨x, hx⟩ : ∃ x, l.getD k 0 = x := ⟨_, rfl⟩
      rw [hx] at hcell hbd HBAD HK
      clear hx
      by_cases h1 : x < 0
      · have fin := HBAD (by simp [okN]; omega)
        go_wp2
        go_ret2
        exact .inr ⟨fin.out, rfl, rfl⟩
      · by_cases h2 : 281474976710656 < x
        · have fin := HBAD (by simp [okN]; omega)
          go_wp2
          go_ret2
          exact .inr ⟨fin.out, rfl, rfl⟩
        · have nx := Lib.hid (HK.out (by simp [okN]; omega))
          clear HBAD HK HOK
          go_wp2
          go_round
          case rel => exact ⟨k + 1, by omega, nx.out, by go_num⟩
          case measure => simp [intOf]; omega
    · obtain rfl : k = l.length := by omega
      have HG := Lib.hid (okL_good HOK.out)
      have hcl := clone_bytes A c B b w hb hB (by omega)
      clear HOK hlt hk
      go_wp2_with fail
      refine hcl.mono ?_; rintro e w1 ⟨v1, rfl, hown1, hb1⟩
      clear hcl
      go_wp2_with fail
      go_loopw [8, 28] (fun v i wr => ∃ k : Nat, k ≤ l.length ∧ i = .int .i64 k ∧ OwnB wr w.heap.size v (b ++ putsV (l.take k)) ∧ Below w.heap.size w wr) (fun _ i _ => l.length - (intOf i).toNat)
      case atStart => exact ⟨0, by omega, rfl, by simpa [putsV] using hown1, hb1⟩
      case round =>
        obtain ⟨k, hk, rfl, hown, hbw⟩ := hrel
        by_cases hlt : k < l.length
        · obtain ⟨b0, o0, rfl, hb0, hc⟩ := hr.ints_at (by omega)
          have hcell := hc k hlt
          rw [← hbw.cell (p := ⟨b0, o0 + k, none⟩) (by show b0 < w.heap.size; omega)] at hcell
          have hx0 := okL_at HG.out hlt
          obtain ⟨m, hm⟩ := Int.eq_ofNat_of_zero_le hx0.1
          have hts := take_snoc_int l k hlt
          have hpl : (b ++ putsV (l.take k)).length + (putV m).length ≤ 140737488355328 := by
            have h1 := hb9 (l.take (k + 1)) (fun n hn => by have := hall n (List.mem_of_mem_take hn); omega)
            rw [hts, putsV_snoc, hm, Int.toNat_natCast, List.length_append, List.length_append, List.length_singleton, List.length_take] at h1
            rw [List.length_append]
            omega
          have hput := put_own w.heap.size _ (b ++ putsV (l.take k)) m wr (by omega) hown hbw.size hpl
          have HN : Hid (b ++ putsV (l.take (k + 1)) = b ++ putsV (l.take k) ++ putV m) := by
            rw [hts, putsV_snoc, hm, Int.toNat_natCast, List.append_assoc]; exact rfl
          rw [hm] at hcell
          clear hc hall hb9 hm hts hown1 hpl hx0 hown
          go_wp2_with fail
          refine hput.mono ?_; rintro e w2 ⟨v2, rfl, hown2, hb2⟩
          clear hput
          go_wp2_with fail
          go_roundw
          case rel => exact ⟨k + 1, by omega, by go_num, by rw [HN.out]; exact hown2, hbw.trans hb2⟩
          case measure => simp [intOf]; omega
        · obtain rfl : k = l.length := by omega
          rw [List.take_length] at hown
          clear hall hb9 hown1
          go_wp2
          go_ret2
          exact .inl ⟨HG.out, _, rfl, hown, hbw⟩

/-- The bytes of texts, one behind the other. -/
def textsV (l : List (List UInt8)) : List UInt8 := l.flatMap fun s => putV s.length ++ s
theorem textsV_snoc (l : List (List UInt8)) (s : List UInt8) : textsV (l ++ [s]) = textsV l ++ (putV s.length ++ s) := by simp [textsV]
theorem textsV_cons (s : List UInt8) (l : List (List UInt8)) : textsV (s :: l) = putV s.length ++ (s ++ textsV l) := by simp [textsV]
theorem textsV_append (a b : List (List UInt8)) : textsV (a ++ b) = textsV a ++ textsV b := by simp [textsV]
theorem textsV_take (l : List (List UInt8)) (k : Nat) : (textsV (l.take k)).length ≤ (textsV l).length := by
  have := congrArg (fun t => (textsV t).length) (List.take_append_drop k l)
  simp only [textsV_append, List.length_append] at this
  omega

end Go.Proofs.Ytonghhnodpjkfaa
