/-
  Several texts in one: VarA, VarB, VarC, VarD, Eq, VarE, VarF, VarG, Rng, Rgs, ShelfCmp, KeyA.
-/
import Derived.Lib.SliceRun
import Derived.Outline
import Derived.Deep.QuietTactic
import Derived.BigQuiet
import Derived.Laws.StructEq
import Derived.Laws.Tables
import Derived.Shelf.Small.Strs
import Derived.Test.YtfklochgciijkaaProg
import Derived.Test.YtfklochgciijkaaMg4
/-
  The walks of the layer of numbers as bytes: what puts.
-/
namespace Go.Proofs.Ytfklochgciijkaa
open Go.RowKit

set_option maxHeartbeats 400000 in
theorem clone_bytes (A : Option Addr) (c B : Nat) (l : List UInt8) (w : World) (h : RdB w B A c l) (hB : B ≤ w.heap.size) (hl : l.length ≤ 140737488355328) :
    Calls Try.prog 45 #[.slice A l.length c] w (RetB w.heap.size w l) := by
  have K1 := fun w : World => Lib.run_eql_slice_nil (P := Try.prog) w 25 5 A l.length c 0 0 Try.underlying25
  cases A with
  | none =>
    have hnil : l = [] := by
      rcases h.row with h | ⟨b, o, h, _⟩
      · simpa [bytes] using h
      · cases h
    have fin : RetB w.heap.size w l (.returned (.slice none 0 0)) w := ⟨_, rfl, by subst hnil; exact World.ownsRow_nil w _ _ _, Below.refl _ _⟩
    have FIN := Lib.hid fin
    clear fin hnil
    go_enter Try.func45, Try.ntmps45
    go_wp2
    go_ret
    exact FIN.out
  | some a =>
    have hz : OwnB (w.alloc (.cells #[] 5)) w.heap.size (.slice (some ⟨w.heap.size, 0, none⟩) 0 0) [] := own_none w 5 1
    have hle : w.heap.size ≤ (w.alloc (.cells #[] 5)).heap.size := by simp
    have hrow := h.row.keep (w' := w.alloc (.cells #[] 5)) (fun p hp => World.cell?_alloc_lt w _ p (by omega))
    have hm : ([] : List UInt8).length + l.length ≤ 140737488355328 := by simpa using hl
    have hbz : Below w.heap.size w (w.alloc (.cells #[] 5)) := (Below.refl _ _).alloc (Nat.le_refl _) _
    clear hl
    go_enter Try.func45, Try.ntmps45
    go_wp2_with (at_builtin; refine wpList_app_row rfl (.tmp 5) (.tmp 6) rfl w.heap.size (.slice (some ⟨w.heap.size, 0, none⟩) 0 0) [] rfl hz B (some a) c l.length l rfl rfl hrow hm hle ?_; intro v2 w2 hown2 _ hb2 _)
    go_ret
    exact ⟨v2, rfl, hown2, hbz.trans hb2⟩

set_option maxHeartbeats 400000 in
set_option maxRecDepth 100000 in
theorem put_own (base : Nat) (v : Value) (xs : List UInt8) (n : Nat) (w : World) (hn : n ≤ 9223372036854775807) (ho : OwnB w base v xs) (hb : base ≤ w.heap.size) (hl : xs.length + (putV n).length ≤ 140737488355328) :
    Calls Try.prog 46 #[v, .int .i64 (n : Int)] w (RetB base w (xs ++ putV n)) := by
  go_enter Try.func46, Try.ntmps46
  go_wp2
  go_loopw [0, 1] (fun a b wr => ∃ (ys : List UInt8) (m : Nat), m ≤ n ∧ OwnB wr base a ys ∧ ys ++ putV m = xs ++ putV n ∧ b = .int .i64 (m : Int) ∧ Below base w wr) (fun _ b _ => (intOf b).toNat)
  case atStart => exact ⟨xs, n, Nat.le_refl _, ho, rfl, rfl, Below.refl _ _⟩
  case round =>
    obtain ⟨ys, m, hmn, hown, heq, rfl, hbw⟩ := hrel
    have hbs : base ≤ wr.heap.size := Nat.le_trans hb hbw.size
    have hlen : ys.length + (putV m).length ≤ 140737488355328 := by rw [← List.length_append, heq, List.length_append]; exact hl
    have hm0 := putV_pos m
    have hle (o : Obj) : base ≤ (wr.alloc o).heap.size := by simp; omega
    by_cases hlt : m < 128
    · have hrow := byte_row wr (m : Int) (UInt8.ofNat m) (by simp; omega)
      have hl1 : ys.length + [UInt8.ofNat m].length ≤ 140737488355328 := by rw [putV_small hlt] at hlen; exact hlen
      rw [putV_small hlt] at heq
      have HEQ := Lib.hid heq
      have HA := fun o => Lib.hid (hown.alloc o)
      have HB := fun o => Lib.hid (hbw.alloc hbs o)
      clear heq hn hl ho hlen
      go_wp2_with (at_builtin; refine wpList_app_row rfl (.tmp 16) (.tmp 19) rfl base _ ys rfl (HA _).out _ _ 1 1 [UInt8.ofNat m] rfl rfl hrow hl1 (hle _) ?_; intro v2 w2 hown2 _ hb2 _)
      go_ret
      exact ⟨v2, rfl, by rw [← HEQ.out]; exact hown2, (HB _).out.trans hb2⟩
    · have hrow := byte_row wr ((m : Int) % 128 + 128) (UInt8.ofNat (m % 128 + 128)) (by simp; omega)
      have hl1 : ys.length + [UInt8.ofNat (m % 128 + 128)].length ≤ 140737488355328 := by simp; omega
      rw [putV_big hlt] at heq
      have HEQ := Lib.hid heq
      have HA := fun o => Lib.hid (hown.alloc o)
      have HB := fun o => Lib.hid (hbw.alloc hbs o)
      clear heq hl ho hlen
      go_wp2_with (at_builtin; refine wpList_app_row rfl (.tmp 7) (.tmp 12) rfl base _ ys rfl (HA _).out _ _ 1 1 [UInt8.ofNat (m % 128 + 128)] rfl rfl hrow hl1 (hle _) ?_; intro v2 w2 hown2 _ hb2 _)
      go_roundw
      case rel => exact ⟨ys ++ [UInt8.ofNat (m % 128 + 128)], m / 128, by omega, hown2, by rw [← HEQ.out]; simp, by go_num, (HB _).out.trans hb2⟩
      case measure => simp [intOf]; omega

/-- Is it a number that has bytes? -/
def okN (n : Int) : Bool := decide (0 ≤ n ∧ n ≤ 281474976710656)
def okL (l : List Int) : Bool := l.all okN
theorem okL_bad {l : List Int} {k : Nat} (hk : k < l.length) (h : okN (l.getD k 0) = false) : okL l = false := by
  rw [okL, List.all_eq_false]
  refine ⟨l[k], List.getElem_mem hk, ?_⟩
  simpa [List.getD, List.getElem?_eq_getElem hk] using h
theorem okL_good {l : List Int} (h : ∀ j, j < l.length → okN (l.getD j 0) = true) : okL l = true := by
  rw [okL, List.all_eq_true]
  intro x hx
  obtain ⟨j, hj, rfl⟩ := List.getElem_of_mem hx
  simpa [List.getD, List.getElem?_eq_getElem hj] using h j hj
theorem okL_at {l : List Int} (h : okL l = true) {k : Nat} (hk : k < l.length) : 0 ≤ l.getD k 0 ∧ l.getD k 0 ≤ 281474976710656 := by
  rw [okL, List.all_eq_true] at h
  have := h l[k] (List.getElem_mem hk)
  simpa [okN, List.getD, List.getElem?_eq_getElem hk] using this
theorem take_snoc_int (l : List Int) (k : Nat) (h : k < l.length) : l.take (k + 1) = l.take k ++ [l.getD k 0] := by
  rw [List.take_succ_eq_append_getElem h]; simp [List.getD, List.getElem?_eq_getElem h]
theorem take_snoc_list (l : List (List UInt8)) (k : Nat) (h : k < l.length) : l.take (k + 1) = l.take k ++ [l.getD k []] := by
  rw [List.take_succ_eq_append_getElem h]; simp [List.getD, List.getElem?_eq_getElem h]
/-- A row of the call's own and no error. -/
def RetB2 (base : Nat) (w : World) (l : List UInt8) (e : Ending) (w' : World) : Prop := ∃ v, e = .returned (.tuple #[v, .int .i64 0]) ∧ OwnB w' base v l ∧ Below base w w'
def PutPost (w : World) (b : List UInt8) (l : List Int) (e : Ending) (w' : World) : Prop :=
  (okL l = true ∧ RetB2 w.heap.size w (b ++ putsV l) e w') ∨ (okL l = false ∧ e = .returned (.tuple #[.slice none 0 0, .int .i64 2]) ∧ w = w')

set_option maxHeartbeats 1000000 in
set_option maxRecDepth 100000 in
theorem varint_put (A : Option Addr) (c B : Nat) (b : List UInt8) (A2 : Option Addr) (n2 c2 : Nat) (l : List Int) (w : World) (hn2 : n2 = l.length) (hb : RdB w B A c b) (hr : RowAt w B A2 (ints l)) (hall : AllI64 l) (hB : B ≤ w.heap.size)
    (hlen : b.length + 9 * l.length ≤ 140737488355328) :
    Calls Try.prog 24 #[.slice A b.length c, .slice A2 n2 c2] w (PutPost w b l) := by
  subst hn2
  have hb9 := putsV_len
  go_enter Try.func24, Try.ntmps24
  go_wp2
  go_loop [13] (fun i => ∃ k : Nat, k ≤ l.length ∧ (∀ j, j < k → okN (l.getD j 0) = true) ∧ i = .int .i64 k) (fun i => l.length - (intOf i).toNat)
  case atStart => exact ⟨0, by omega, fun j hj => by omega, rfl⟩
  case round =>
    obtain ⟨k, hk, hok, rfl⟩ := hrel
    have HOK := Lib.hid hok
    clear hok
    by_cases hlt : k < l.length
    · obtain ⟨b0, o0, rfl, _, hc⟩ := hr.ints_at (by omega)
      have hcell := hc k hlt
      have hbd := hall.at_ hlt
      have HBAD := fun h => Lib.hid (okL_bad hlt h)
      have HK : Hid (okN (l.getD k 0) = true → ∀ j, j < k + 1 → okN (l.getD j 0) = true) := fun h j hj => by
        rcases Nat.lt_or_ge j k with h' | h'
        · exact HOK.out j h'
        · obtain rfl : j = k := by omega
          exact h
      clear hc hall hb9
      obtain ⟨x, hx⟩ : ∃ x, l.getD k 0 = x := ⟨_, rfl⟩
      rw [hx] at hcell hbd HBAD HK
      clear hx
      by_cases h1 : x < 0
      · have fin := HBAD (by simp [okN]; omega)
        go_wp2
        go_ret2
        exact .inr ⟨fin.out, rfl, rfl⟩
      · by_cases h2 : 281474976710656 < x
        · have fin := HBAD (by simp [okN]; omega)
          go_wp2
          go_ret2
          exact .inr ⟨fin.out, rfl, rfl⟩
        · have nx := Lib.hid (HK.out (by simp [okN]; omega))
          clear HBAD HK HOK
          go_wp2
          go_round
          case rel => exact ⟨k + 1, by omega, nx.out, by go_num⟩
          case measure => simp [intOf]; omega
    · obtain rfl : k = l.length := by omega
      have HG := Lib.hid (okL_good HOK.out)
      have hcl := clone_bytes A c B b w hb hB (by omega)
      clear HOK hlt hk
      go_wp2_with fail
      refine hcl.mono ?_; rintro e w1 ⟨v1, rfl, hown1, hb1⟩
      clear hcl
      go_wp2_with fail
      go_loopw [8, 28] (fun v i wr => ∃ k : Nat, k ≤ l.length ∧ i = .int .i64 k ∧ OwnB wr w.heap.size v (b ++ putsV (l.take k)) ∧ Below w.heap.size w wr) (fun _ i _ => l.length - (intOf i).toNat)
      case atStart => exact ⟨0, by omega, rfl, by simpa [putsV] using hown1, hb1⟩
      case round =>
        obtain ⟨k, hk, rfl, hown, hbw⟩ := hrel
        by_cases hlt : k < l.length
        · obtain ⟨b0, o0, rfl, hb0, hc⟩ := hr.ints_at (by omega)
          have hcell := hc k hlt
          rw [← hbw.cell (p := ⟨b0, o0 + k, none⟩) (by show b0 < w.heap.size; omega)] at hcell
          have hx0 := okL_at HG.out hlt
          obtain ⟨m, hm⟩ := Int.eq_ofNat_of_zero_le hx0.1
          have hts := take_snoc_int l k hlt
          have hpl : (b ++ putsV (l.take k)).length + (putV m).length ≤ 140737488355328 := by
            have h1 := hb9 (l.take (k + 1)) (fun n hn => by have := hall n (List.mem_of_mem_take hn); omega)
            rw [hts, putsV_snoc, hm, Int.toNat_natCast, List.length_append, List.length_append, List.length_singleton, List.length_take] at h1
            rw [List.length_append]
            omega
          have hput := put_own w.heap.size _ (b ++ putsV (l.take k)) m wr (by omega) hown hbw.size hpl
          have HN : Hid (b ++ putsV (l.take (k + 1)) = b ++ putsV (l.take k) ++ putV m) := by
            rw [hts, putsV_snoc, hm, Int.toNat_natCast, List.append_assoc]; exact rfl
          rw [hm] at hcell
          clear hc hall hb9 hm hts hown1 hpl hx0 hown
          go_wp2_with fail
          refine hput.mono ?_; rintro e w2 ⟨v2, rfl, hown2, hb2⟩
          clear hput
          go_wp2_with fail
          go_roundw
          case rel => exact ⟨k + 1, by omega, by go_num, by rw [HN.out]; exact hown2, hbw.trans hb2⟩
          case measure => simp [intOf]; omega
        · obtain rfl : k = l.length := by omega
          rw [List.take_length] at hown
          clear hall hb9 hown1
          go_wp2
          go_ret2
          exact .inl ⟨HG.out, _, rfl, hown, hbw⟩

/-- The bytes of texts, one behind the other. -/
def textsV (l : List (List UInt8)) : List UInt8 := l.flatMap fun s => putV s.length ++ s
theorem textsV_snoc (l : List (List UInt8)) (s : List UInt8) : textsV (l ++ [s]) = textsV l ++ (putV s.length ++ s) := by simp [textsV]
theorem textsV_cons (s : List UInt8) (l : List (List UInt8)) : textsV (s :: l) = putV s.length ++ (s ++ textsV l) := by simp [textsV]
theorem textsV_append (a b : List (List UInt8)) : textsV (a ++ b) = textsV a ++ textsV b := by simp [textsV]
theorem textsV_take (l : List (List UInt8)) (k : Nat) : (textsV (l.take k)).length ≤ (textsV l).length := by
  have := congrArg (fun t => (textsV t).length) (List.take_append_drop k l)
  simp only [textsV_append, List.length_append] at this
  omega

set_option maxHeartbeats 1000000 in
set_option maxRecDepth 100000 in
theorem varint_text (A : Option Addr) (c B : Nat) (b : List UInt8) (A2 : Option Addr) (n2 c2 : Nat) (l : List (List UInt8)) (w : World) (hn2 : n2 = l.length) (hl2 : l.length ≤ 9223372036854775807) (hb : RdB w B A c b) (hr : RowAt w B A2 (strs l)) (hB : B ≤ w.heap.size)
    (hlen : b.length + (textsV l).length ≤ 140737488355328) :
    Calls Try.prog 53 #[.slice A b.length c, .slice A2 n2 c2] w (RetB w.heap.size w (b ++ textsV l)) := by
  subst hn2
  have hcl := clone_bytes A c B b w hb hB (by omega)
  have HLEN := Lib.hid hlen
  clear hlen
  go_enter Try.func53, Try.ntmps53
  go_wp2_with fail
  refine hcl.mono ?_; rintro e w1 ⟨v1, rfl, hown1, hb1⟩
  clear hcl
  go_wp2_with fail
  go_loopw [5, 12] (fun v i wr => ∃ k : Nat, k ≤ l.length ∧ i = .int .i64 k ∧ OwnB wr w.heap.size v (b ++ textsV (l.take k)) ∧ Below w.heap.size w wr) (fun _ i _ => l.length - (intOf i).toNat)
  case atStart => exact ⟨0, by omega, rfl, by simpa [textsV] using hown1, hb1⟩
  case round =>
    obtain ⟨k, hk, rfl, hown, hbw⟩ := hrel
    by_cases hlt : k < l.length
    · obtain ⟨b0, o0, rfl, hb0, hc⟩ := hr.strs_at (by omega)
      have hcell := hc k hlt
      rw [← hbw.cell (p := ⟨b0, o0 + k, none⟩) (by show b0 < w.heap.size; omega)] at hcell
      have hts := take_snoc_list l k hlt
      have hpl : (b ++ textsV (l.take k)).length + ((putV (l.getD k []).length).length + (l.getD k []).length) ≤ 140737488355328 := by
        have h1 := textsV_take l (k + 1)
        have h2 := HLEN.out
        rw [hts, textsV_snoc, List.length_append, List.length_append] at h1
        rw [List.length_append]
        omega
      have HN : Hid (b ++ textsV (l.take (k + 1)) = (b ++ textsV (l.take k) ++ putV (l.getD k []).length) ++ l.getD k []) := by
        rw [hts, textsV_snoc]; simp [Hid]
      obtain ⟨x, hx⟩ : ∃ x, l.getD k [] = x := ⟨_, rfl⟩
      rw [hx] at hcell hpl HN
      have hput := put_own w.heap.size _ (b ++ textsV (l.take k)) x.length wr (by omega) hown hbw.size (by omega)
      have hl3 : (b ++ textsV (l.take k) ++ putV x.length).length + (str x).data.toList.length ≤ 140737488355328 := by rw [str_data, List.length_append]; omega
      have hsz := str_size x
      rw [← hsz] at hput
      have HSZ := Lib.hid hsz
      have hx63 : (str x).size ≤ 9223372036854775807 := by rw [hsz]; omega
      clear hc hx hts hown1 hpl hown hsz
      go_wp2_with fail
      refine hput.mono ?_; rintro e w2 ⟨v2, rfl, hown2, hb2⟩
      clear hput
      rw [HSZ.out] at hown2
      have hs2 : w.heap.size ≤ w2.heap.size := Nat.le_trans hbw.size hb2.size
      go_wp2_with (at_builtin; refine wpList_app_str rfl (.tmp 19) (.tmp 20) rfl w.heap.size v2 _ rfl hown2 (str x) rfl hl3 hs2 ?_; intro v3 w3 hown3 _ hb3)
      go_roundw
      case rel => exact ⟨k + 1, by omega, by go_num, by rw [HN.out]; rw [str_data] at hown3; exact hown3, (hbw.trans hb2).trans hb3⟩
      case measure => simp [intOf]; omega
    · obtain rfl : k = l.length := by omega
      rw [List.take_length] at hown
      clear hown1
      go_wp2
      go_ret
      exact ⟨_, rfl, hown, hbw⟩
end Go.Proofs.Ytfklochgciijkaa

/-
  The walks of the layer of numbers as bytes: what cuts a number off, and the reader.
-/
namespace Go.Proofs.Ytfklochgciijkaa
open Go.RowKit

theorem get_str (l : List UInt8) (k : Nat) (h : k < (str l).size) : (str l)[k] = l.getD k 0 := str_get l k (by rw [← str_size]; exact h)

theorem pow_seven (k : Nat) : (2 : Int) ^ (7 * k) = ((128 ^ k : Nat) : Int) := by
  have e : (128 : Nat) ^ k = 2 ^ (7 * k) := by rw [Nat.pow_mul]
  rw [e]; simp

set_option maxHeartbeats 1000000 in
set_option maxRecDepth 100000 in
theorem varint_cut (l : List UInt8) (w : World) (hl : l.length ≤ 9223372036854775807) :
    Calls Try.prog 83 #[.string (str l)] w fun e w' => e = .returned (.tuple #[.int .i64 (cutV l).1, .int .i64 (cutV l).2.1, .int .i64 (cutV l).2.2]) ∧ w = w' := by
  have hsz := str_size l
  have hl2 : (str l).size ≤ 9223372036854775807 := by omega
  obtain ⟨s, hs⟩ : ∃ s, str l = s := ⟨_, rfl⟩
  have HG := Lib.hid (get_str l)
  rw [hs] at hsz hl2 HG
  rw [hs]
  have HSZ := Lib.hid hsz
  clear hsz hs
  by_cases h8 : s.size < 8
  all_goals
    go_enter Try.func83, Try.ntmps83
    go_wp2
  all_goals
    go_loop [5, 10] (fun n i => ∃ k : Nat, k ≤ s.size ∧ k ≤ 8 ∧ Lead l k ∧ i = .int .i64 k ∧ n = .int .i64 (valV (l.take k) : Nat)) (fun _ i => 8 - (intOf i).toNat)
    case atStart => exact ⟨0, by omega, by omega, Lead.zero l, rfl, rfl⟩
    case round =>
      obtain ⟨k, hk, hk8, hlead, rfl, rfl⟩ := hrel
      by_cases hlt : k < s.size ∧ k < 8
      · obtain ⟨hlt1, hlt2⟩ := hlt
        have hltl : k < l.length := by rw [← HSZ.out]; exact hlt1
        have hg := HG.out k hlt1
        have hv := valV_take_lt l k hk8
        have hvn := valV_take l k hltl
        have hv2 := valV_take_lt l (k + 1) (by omega)
        have NX := fun h => Lib.hid (hlead.next hltl h)
        have FB := fun h1 h2 => Lib.hid (cut_bad hlead hltl hlt2 h1 h2)
        have FG := fun h1 h2 => Lib.hid (cut_good hlead hltl hlt2 h1 h2)
        obtain ⟨c, hc⟩ : ∃ c, l.getD k 0 = c := ⟨_, rfl⟩
        have hsh : ((c.toNat : Int) % 128) * 2 ^ (7 * k) = ((c.toNat % 128 * 128 ^ k : Nat) : Int) := by rw [pow_seven]; simp
        obtain ⟨m, hm⟩ : ∃ m : Nat, c.toNat % 128 * 128 ^ k = m := ⟨_, rfl⟩
        rw [hc] at hg hvn NX FB FG
        rw [hm] at hvn hsh
        obtain ⟨n', hn'⟩ : ∃ n' : Nat, valV (l.take (k + 1)) = n' := ⟨_, rfl⟩
        rw [hn'] at hv2 hvn FB FG
        have HN' := Lib.hid hn'
        clear hc hm hlead hn'
        generalize valV (l.take k) = n at *
        have e2 : (n : Int) + m = (n' : Int) := by omega
        clear hvn
        by_cases h1 : 128 ≤ c.toNat
        · have nx := NX h1
          go_wp2
          go_round
          case rel => exact ⟨k + 1, by omega, by omega, nx.out, by go_num, by rw [HN'.out]⟩
          case measure => simp [intOf]; omega
        · by_cases h2 : 0 < k
          · by_cases h3 : c.toNat = 0
            · have fin := FB (by omega) (.inl ⟨h2, h3⟩)
              obtain rfl : c = 0 := UInt8.toNat_inj.1 h3
              clear hsh FB FG NX h3
              go_wp2
              go_ret3
              exact ⟨by rw [fin.out]; rfl, rfl⟩
            · have h3' : ((c.toNat : Int) == 0) = false := by simpa using h3
              by_cases h4 : 281474976710656 < n'
              · have fin := FB (by omega) (.inr h4)
                clear FB FG NX
                go_wp2
                go_ret3
                exact ⟨by rw [fin.out]; rfl, rfl⟩
              · have fin := FG (by omega) (by omega)
                clear FB FG NX
                go_wp2
                go_ret3
                exact ⟨by rw [fin.out]; rfl, rfl⟩
          · by_cases h4 : 281474976710656 < n'
            · have fin := FB (by omega) (.inr h4)
              clear FB FG NX
              go_wp2
              go_ret3
              exact ⟨by rw [fin.out]; rfl, rfl⟩
            · have fin := FG (by omega) (by omega)
              clear FB FG NX
              go_wp2
              go_ret3
              exact ⟨by rw [fin.out]; rfl, rfl⟩
      · by_cases h9 : s.size < 8
        · first
            | exact absurd h9 h8
            | (have fin := Lib.hid (cut_short (l := l) (by rw [← HSZ.out]; rwa [show k = s.size by omega] at hlead) (by rw [← HSZ.out]; exact h9))
               go_wp2
               go_ret3
               exact ⟨by rw [fin.out]; rfl, rfl⟩)
        · first
            | exact absurd h8 h9
            | (have fin := Lib.hid (cut_eight (l := l) (by rwa [show k = 8 by omega] at hlead))
               go_wp2
               go_ret3
               exact ⟨by rw [fin.out]; rfl, rfl⟩)

end Go.Proofs.Ytfklochgciijkaa

/-
  The walks of the layer of numbers as bytes: the reader.
-/
namespace Go.Proofs.Ytfklochgciijkaa
open Go.RowKit

/-- The reader at block b has the bytes l left, and the error e. -/
def RdAt (w : World) (b : Nat) (l : List UInt8) (e : Int) : Prop := w.heap[b]? = some (.cells #[.string (str l), .int .i64 e] 92 (0, 0))
theorem RdAt.lt {w : World} {b : Nat} {l : List UInt8} {e : Int} (h : RdAt w b l e) : b < w.heap.size := lt_of_block h
theorem RdAt.cells {w : World} {b : Nat} {l : List UInt8} {e : Int} (h : RdAt w b l e) :
    w.cell? ⟨b, 0, none⟩ = some (.string (str l)) ∧ w.cell? ⟨b, 1, none⟩ = some (.int .i64 e) ∧ w.frozen? ⟨b, 0, none⟩ = false ∧ w.frozen? ⟨b, 1, none⟩ = false := by
  have h : w.heap[b]? = _ := h
  refine ⟨?_, ?_, ?_, ?_⟩ <;> simp [World.cell?, World.frozen?, h]
theorem RdAt.kept {w w' : World} {b : Nat} {l : List UInt8} {e : Int} {row : Option Nat} (h : RdAt w b l e) (hg : w.grownBy w' row) (hne : some b ≠ row) : RdAt w' b l e := (hg.block b h.lt hne).trans h
theorem RdAt.below {w w' : World} {b B : Nat} {l : List UInt8} {e : Int} (h : RdAt w b l e) (hb : Below B w w') (hB : b < B) : RdAt w' b l e := (hb.block b hB).trans h
theorem RdAt.setText {w : World} {b : Nat} {l : List UInt8} {e : Int} (h : RdAt w b l e) (l' : List UInt8) : RdAt (w.setCell ⟨b, 0, none⟩ (.string (str l'))) b l' e := heap_setCell_self h _
theorem RdAt.setErr {w : World} {b : Nat} {l : List UInt8} {e : Int} (h : RdAt w b l e) (e' : Int) : RdAt (w.setCell ⟨b, 1, none⟩ (.int .i64 e')) b l e' := heap_setCell_self h _

/-- What a call leaves that works on the reader at b alone. -/
def RdPost (w : World) (b : Nat) (v : Value) (l : List UInt8) (e : Int) (x : Ending) (w' : World) : Prop := x = .returned v ∧ RdAt w' b l e ∧ w.grownBy w' (some b)
theorem RdPost.mk {w w' : World} {b : Nat} {v v' : Value} {l l' : List UInt8} {e e' : Int} (h : RdAt w' b l' e') (hg : w.grownBy w' (some b)) (hv : v' = v) (hl : l' = l) (he : e' = e) : RdPost w b v l e (.returned v') w' := by
  subst hv hl he; exact ⟨rfl, h, hg⟩

set_option maxHeartbeats 400000 in
theorem varint_new (A : Option Addr) (c B : Nat) (l : List UInt8) (w : World) (h : RdB w B A c l) :
    Calls Try.prog 26 #[.slice A l.length c] w fun e w' => e = .returned (.pointer (some ⟨w.heap.size, 0, none⟩)) ∧ RdAt w' w.heap.size l 0 ∧ Below w.heap.size w w' := by
  have K1 := conv_str (P := Try.prog) c 25 5 9 Try.underlying25 Try.underlying5 Try.underlying9 h.row
  go_enter Try.func26, Try.ntmps26
  go_wp2
  go_ret
  exact ⟨rfl, heap_new _ _ _ rfl, (Below.refl _ _).alloc (Nat.le_refl _) _⟩

set_option maxHeartbeats 400000 in
theorem given_some (a : Addr) (w : World) :
    Calls Try.prog 60 #[.pointer (some a)] w fun e w' => e = .returned (.pointer (some a)) ∧ w = w' := by
  go_enter Try.func60, Try.ntmps60
  go_wp2
  go_ret
  exact ⟨rfl, rfl⟩
set_option maxHeartbeats 400000 in
theorem given_none (w : World) :
    Calls Try.prog 60 #[.pointer none] w fun e w' => e = .returned (.pointer (some ⟨w.heap.size, 0, none⟩)) ∧ RdAt w' w.heap.size [] 1 ∧ Below w.heap.size w w' := by
  go_enter Try.func60, Try.ntmps60
  go_wp2
  go_ret
  exact ⟨rfl, heap_new _ _ _ rfl, (Below.refl _ _).alloc (Nat.le_refl _) _⟩

set_option maxHeartbeats 400000 in
theorem numbers_fail (b : Nat) (l : List UInt8) (e x e2 : Int) (w : World) (h : RdAt w b l e) (h2 : e2 = if e = 0 then x else e) :
    Calls Try.prog 84 #[.pointer (some ⟨b, 0, none⟩), .int .i64 x] w (RdPost w b (.tuple #[]) l e2) := by
  obtain ⟨c0, c1, z0, z1⟩ := h.cells
  have H := Lib.hid h
  clear h
  by_cases he : e = 0
  · subst he
    rw [if_pos rfl] at h2
    subst h2
    go_enter Try.func84, Try.ntmps84
    go_wp2
    go_end0
    exact ⟨rfl, H.out.setErr _, grownBy_set _ _ _ _⟩
  · rw [if_neg he] at h2
    subst h2
    go_enter Try.func84, Try.ntmps84
    go_wp2
    go_end0
    exact ⟨rfl, H.out, World.grownBy.refl _ _⟩

set_option maxHeartbeats 400000 in
theorem numbers_undo (b : Nat) (l l' : List UInt8) (e x e2 : Int) (w : World) (h : RdAt w b l e) (h2 : e2 = if e = 0 then x else e) :
    Calls Try.prog 72 #[.pointer (some ⟨b, 0, none⟩), .string (str l'), .int .i64 x] w (RdPost w b (.tuple #[]) l' e2) := by
  obtain ⟨c0, c1, z0, z1⟩ := h.cells
  have hf := numbers_fail b l' e x e2 _ (h.setText l') h2
  clear h h2
  go_enter Try.func72, Try.ntmps72
  go_wp2_with fail
  refine hf.mono ?_; rintro y w1 ⟨rfl, hr, hg⟩
  clear hf
  go_wp2
  go_end0
  exact ⟨rfl, hr, (grownBy_set _ _ _ _).trans hg⟩

set_option maxHeartbeats 400000 in
theorem numbers_number (b : Nat) (l : List UInt8) (e : Int) (w : World) (h : RdAt w b l e) (hl : l.length ≤ 9223372036854775807) :
    Calls Try.prog 71 #[.pointer (some ⟨b, 0, none⟩)] w (RdPost w b (.int .i64 (numR l e).1) (numR l e).2.1 (numR l e).2.2) := by
  obtain ⟨c0, c1, z0, z1⟩ := h.cells
  by_cases he : e = 0
  · subst he
    have hcut := varint_cut l w hl
    have hle := cutV_le l
    have hnum : numR l 0 = ((cutV l).1, l.drop (cutV l).2.1, ((cutV l).2.2 : Int)) := by
      unfold numR
      by_cases hx : (cutV l).2.2 = 0
      · rw [if_pos rfl, if_pos hx, hx]; rfl
      · have := cutV_err hx
        rw [if_pos rfl, if_neg hx, this.1, this.2]; simp
    obtain ⟨n, hn⟩ : ∃ n, (cutV l).1 = n := ⟨_, rfl⟩
    obtain ⟨k, hk⟩ : ∃ k, (cutV l).2.1 = k := ⟨_, rfl⟩
    obtain ⟨x, hx⟩ : ∃ x, (cutV l).2.2 = x := ⟨_, rfl⟩
    rw [hn, hk, hx] at hcut hnum
    rw [hk] at hle
    rw [hnum]
    have hsz := str_size l
    have hdrop := str_drop l k
    rw [← hsz] at hle hdrop
    have hf := numbers_fail b l 0 x x w h (by rw [if_pos rfl])
    have HD := Lib.hid hdrop
    have hs63 : (str l).size ≤ 9223372036854775807 := by omega
    clear h hn hk hx hnum hdrop hsz
    go_enter Try.func71, Try.ntmps71
    go_wp2_with fail
    refine hcut.mono ?_; rintro y w1 ⟨rfl, rfl⟩
    clear hcut
    go_wp2_with fail
    refine hf.mono ?_; rintro y w1 ⟨rfl, hr, hg⟩
    clear hf c0 c1 z0 z1
    obtain ⟨c0, c1, z0, z1⟩ := hr.cells
    have H := Lib.hid hr
    clear hr
    go_wp2
    go_ret
    exact ⟨rfl, by rw [HD.out]; exact H.out.setText _, hg.trans (grownBy_set _ _ _ _)⟩
  · rw [numR_err he]
    have H := Lib.hid h
    clear h
    go_enter Try.func71, Try.ntmps71
    go_wp2
    go_ret
    exact ⟨rfl, H.out, World.grownBy.refl _ _⟩
end Go.Proofs.Ytfklochgciijkaa

/-
  The walks of the layer of numbers as bytes: the reader's calls, of one that is there and of one that is none.
-/
namespace Go.Proofs.Ytfklochgciijkaa
open Go.RowKit

/-- The reader that pv points to (a new one that failed, if it points to none) lies at block b, and has the bytes l left, and the error e. -/
def GivenAt (pv : Value) (w : World) (b : Nat) (l : List UInt8) (e : Int) : Prop := Calls Try.prog 60 #[pv] w (RdPost w b (.pointer (some ⟨b, 0, none⟩)) l e)
theorem givenAt_some {w : World} {b : Nat} {l : List UInt8} {e : Int} (h : RdAt w b l e) : GivenAt (.pointer (some ⟨b, 0, none⟩)) w b l e :=
  (given_some _ w).mono fun _ _ ⟨hy, hw⟩ => by subst hw; exact ⟨hy, h, World.grownBy.refl _ _⟩
theorem givenAt_none (w : World) : GivenAt (.pointer none) w w.heap.size [] 1 :=
  (given_none w).mono fun _ _ ⟨hy, hr, hb⟩ => ⟨hy, hr, grown_of_below hb _⟩

set_option maxHeartbeats 400000 in
theorem rd_number {pv : Value} {w : World} {b : Nat} {l : List UInt8} {e : Int} (hv : GivenAt pv w b l e) (hl : l.length ≤ 9223372036854775807) :
    Calls Try.prog 75 #[pv] w (RdPost w b (.int .i64 (numR l e).1) (numR l e).2.1 (numR l e).2.2) := by
  go_enter Try.func75, Try.ntmps75
  go_wp2_with fail
  refine Calls.mono hv ?_; rintro y w1 ⟨rfl, hr, hg⟩
  clear hv
  go_wp2_with fail
  refine (numbers_number b l e w1 hr hl).mono ?_; rintro y w2 ⟨rfl, hr2, hg2⟩
  go_wp2
  go_ret
  exact ⟨rfl, hr2, hg.trans hg2⟩

set_option maxHeartbeats 400000 in
theorem rd_err {pv : Value} {w : World} {b : Nat} {l : List UInt8} {e : Int} (hv : GivenAt pv w b l e) :
    Calls Try.prog 62 #[pv] w (RdPost w b (.int .i64 e) l e) := by
  go_enter Try.func62, Try.ntmps62
  go_wp2_with fail
  refine Calls.mono hv ?_; rintro y w1 ⟨rfl, hr, hg⟩
  clear hv
  obtain ⟨c0, c1, z0, z1⟩ := hr.cells
  have H := Lib.hid hr
  clear hr
  go_wp2
  go_ret
  exact ⟨rfl, H.out, hg⟩

set_option maxHeartbeats 400000 in
theorem rd_end {pv : Value} {w : World} {b : Nat} {l : List UInt8} {e : Int} (hv : GivenAt pv w b l e) :
    Calls Try.prog 48 #[pv] w (RdPost w b (.int .i64 (endR l e)) l e) := by
  have hsz := str_toList l
  by_cases he : e = 0
  · by_cases hl : l = []
    · have fin : endR l e = 0 := by unfold endR; rw [if_neg (by simp [hl])]; exact he
      subst he
      rw [fin]
      have h1 : (str l).toList = [] := by rw [hsz]; exact hl
      have h2 : (str l).toList.isEmpty = true := by rw [h1]; rfl
      clear hl fin hsz
      go_enter Try.func48, Try.ntmps48
      go_wp2_with fail
      refine Calls.mono hv ?_; rintro y w1 ⟨rfl, hr, hg⟩
      clear hv
      obtain ⟨c0, c1, z0, z1⟩ := hr.cells
      have H := Lib.hid hr
      clear hr
      go_wp2
      go_ret
      exact ⟨rfl, H.out, hg⟩
    · have fin : endR l e = 14 := by unfold endR; rw [if_pos ⟨he, hl⟩]
      subst he
      rw [fin]
      have h1 : ((str l).toList == []) = false := by rw [hsz]; simp [hl]
      have h2 : (str l).toList.isEmpty = false := by rw [hsz]; simp [hl]
      clear hl fin hsz
      go_enter Try.func48, Try.ntmps48
      go_wp2_with fail
      refine Calls.mono hv ?_; rintro y w1 ⟨rfl, hr, hg⟩
      clear hv
      obtain ⟨c0, c1, z0, z1⟩ := hr.cells
      have H := Lib.hid hr
      clear hr
      go_wp2
      go_ret
      exact ⟨rfl, H.out, hg⟩
  · have fin : endR l e = e := by unfold endR; rw [if_neg (by simp [he])]
    rw [fin]
    have h1 : (e == 0) = false := by simpa using he
    clear fin hsz
    go_enter Try.func48, Try.ntmps48
    go_wp2_with fail
    refine Calls.mono hv ?_; rintro y w1 ⟨rfl, hr, hg⟩
    clear hv
    obtain ⟨c0, c1, z0, z1⟩ := hr.cells
    have H := Lib.hid hr
    clear hr
    go_wp2
    go_ret
    exact ⟨rfl, H.out, hg⟩

set_option maxHeartbeats 1000000 in
theorem rd_within {pv : Value} {w : World} {b : Nat} {l : List UInt8} {e : Int} (hv : GivenAt pv w b l e) (lo hi : Int) (hl : l.length ≤ 9223372036854775807) :
    Calls Try.prog 61 #[pv, .int .i64 lo, .int .i64 hi] w (RdPost w b (.int .i64 (withinR lo hi l e).1) (withinR lo hi l e).2.1 (withinR lo hi l e).2.2) := by
  obtain ⟨n, hn⟩ : ∃ n, (numR l e).1 = n := ⟨_, rfl⟩
  obtain ⟨l1, hl1⟩ : ∃ l1, (numR l e).2.1 = l1 := ⟨_, rfl⟩
  obtain ⟨e1, he1⟩ : ∃ e1, (numR l e).2.2 = e1 := ⟨_, rfl⟩
  have hnum := fun w1 hr => numbers_number b l e w1 hr hl
  rw [hn, hl1, he1] at hnum
  by_cases hin : (n : Int) < lo ∨ hi < (n : Int)
  · have fin : withinR lo hi l e = (0, l, if e1 = 0 then 11 else e1) := by unfold withinR; rw [hn, he1, if_pos hin]
    obtain ⟨e2, he2⟩ : ∃ e2, e2 = if e1 = 0 then 11 else e1 := ⟨_, rfl⟩
    rw [fin, ← he2]
    have HE2 := Lib.hid he2
    clear hn hl1 he1 fin he2
    by_cases h1 : (n : Int) < lo
    all_goals
      go_enter Try.func61, Try.ntmps61
      go_wp2_with fail
      refine Calls.mono hv ?_; rintro y w1 ⟨rfl, hr, hg⟩
      clear hv
      obtain ⟨c0, c1, z0, z1⟩ := hr.cells
      have H := Lib.hid hr
      clear hr
      go_wp2_with fail
      refine (hnum w1 H.out).mono ?_; rintro y w2 ⟨rfl, hr2, hg2⟩
      clear hnum c0 c1 z0 z1
      have HU := Lib.hid (numbers_undo b l1 l e1 11 e2 w2 hr2 HE2.out)
      clear hr2
      have h2 : ¬ (n : Int) < lo → hi < (n : Int) := fun h => by omega
      go_wp2_with fail
      refine HU.out.mono ?_; rintro y w3 ⟨rfl, hr3, hg3⟩
      go_wp2
      go_ret
      exact ⟨rfl, hr3, (hg.trans hg2).trans hg3⟩
  · have fin : withinR lo hi l e = (n, l1, e1) := by unfold withinR; rw [hn, if_neg hin, ← hn, ← hl1, ← he1]
    rw [fin]
    clear hn hl1 he1 fin
    have h1 : ¬ (n : Int) < lo := by omega
    have h2 : ¬ hi < (n : Int) := by omega
    clear hin
    go_enter Try.func61, Try.ntmps61
    go_wp2_with fail
    refine Calls.mono hv ?_; rintro y w1 ⟨rfl, hr, hg⟩
    clear hv
    obtain ⟨c0, c1, z0, z1⟩ := hr.cells
    have H := Lib.hid hr
    clear hr
    go_wp2_with fail
    refine (hnum w1 H.out).mono ?_; rintro y w2 ⟨rfl, hr2, hg2⟩
    clear hnum c0 c1 z0 z1
    have H2 := Lib.hid hr2
    clear hr2
    go_wp2
    go_ret
    exact ⟨rfl, H2.out, hg.trans hg2⟩

def boolR (l : List UInt8) (e : Int) : Bool := decide ((withinR 0 1 l e).1 = 1)
set_option maxHeartbeats 400000 in
theorem rd_bool {pv : Value} {w : World} {b : Nat} {l : List UInt8} {e : Int} (hv : GivenAt pv w b l e) (hl : l.length ≤ 9223372036854775807) :
    Calls Try.prog 82 #[pv] w (RdPost w b (.bool (boolR l e)) (withinR 0 1 l e).2.1 (withinR 0 1 l e).2.2) := by
  have hw := rd_within hv 0 1 hl
  have hb : boolR l e = decide ((withinR 0 1 l e).1 = 1) := rfl
  generalize boolR l e = r at *
  obtain ⟨n, hn⟩ : ∃ n, (withinR 0 1 l e).1 = n := ⟨_, rfl⟩
  rw [hn] at hw hb
  generalize (withinR 0 1 l e).2.1 = l1 at *
  generalize (withinR 0 1 l e).2.2 = e1 at *
  clear hn hv
  by_cases h1 : n = 1
  · subst h1
    obtain rfl : r = true := by rw [hb]; rfl
    clear hb
    go_enter Try.func82, Try.ntmps82
    go_wp2_with fail
    refine hw.mono ?_; rintro y w1 ⟨rfl, hr, hg⟩
    clear hw
    go_wp2
    go_ret
    exact ⟨rfl, hr, hg⟩
  · obtain rfl : r = false := by rw [hb]; simpa using h1
    clear hb
    have h2 : ((n : Int) == 1) = false := by simp; omega
    go_enter Try.func82, Try.ntmps82
    go_wp2_with fail
    refine hw.mono ?_; rintro y w1 ⟨rfl, hr, hg⟩
    clear hw
    go_wp2
    go_ret
    exact ⟨rfl, hr, hg⟩

set_option maxHeartbeats 1000000 in
theorem rd_text {pv : Value} {w : World} {b : Nat} {l : List UInt8} {e : Int} (hv : GivenAt pv w b l e) (most : Int) (hl : l.length ≤ 9223372036854775807) :
    Calls Try.prog 81 #[pv, .int .i64 most] w (RdPost w b (.string (str (textR most l e).1)) (textR most l e).2.1 (textR most l e).2.2) := by
  have hlen1 := withinR_len 0 most l e
  obtain ⟨n, hn⟩ : ∃ n, (withinR 0 most l e).1 = n := ⟨_, rfl⟩
  obtain ⟨l1, hl1⟩ : ∃ l1, (withinR 0 most l e).2.1 = l1 := ⟨_, rfl⟩
  obtain ⟨e1, he1⟩ : ∃ e1, (withinR 0 most l e).2.2 = e1 := ⟨_, rfl⟩
  have hwi := fun w1 (hr : RdAt w1 b l e) => rd_within (givenAt_some hr) 0 most hl
  have hdef : textR most l e = if l1.length < n then ([], l, if e1 = 0 then 10 else e1) else (l1.take n, l1.drop n, e1) := by unfold textR; rw [hn, hl1, he1]
  rw [hn, hl1, he1] at hwi
  rw [hl1] at hlen1
  rw [hdef]
  clear hdef hn hl1 he1
  have hsz := str_size l1
  have hs63 : (str l1).size ≤ 9223372036854775807 := by omega
  by_cases hin : l1.length < n
  · rw [if_pos hin]
    obtain ⟨e2, he2⟩ : ∃ e2, e2 = if e1 = 0 then 10 else e1 := ⟨_, rfl⟩
    rw [← he2]
    have HE2 := Lib.hid he2
    have h1 : (str l1).size < n := by omega
    clear he2 hin hsz
    go_enter Try.func81, Try.ntmps81
    go_wp2_with fail
    refine Calls.mono hv ?_; rintro y w1 ⟨rfl, hr, hg⟩
    clear hv
    obtain ⟨c0, c1, z0, z1⟩ := hr.cells
    have H := Lib.hid hr
    clear hr
    go_wp2_with fail
    refine (hwi w1 H.out).mono ?_; rintro y w2 ⟨rfl, hr2, hg2⟩
    clear hwi c0 c1 z0 z1
    obtain ⟨c0, c1, z0, z1⟩ := hr2.cells
    have HU := Lib.hid (numbers_undo b l1 l e1 10 e2 w2 hr2 HE2.out)
    clear hr2
    go_wp2_with fail
    refine HU.out.mono ?_; rintro y w3 ⟨rfl, hr3, hg3⟩
    clear c0 c1 z0 z1
    go_wp2
    go_ret
    exact ⟨rfl, hr3, (hg.trans hg2).trans hg3⟩
  · rw [if_neg hin]
    have h1 : n ≤ (str l1).size := by omega
    have HT := Lib.hid (str_take l1 n)
    have hd := str_drop l1 n
    rw [← hsz] at hd
    have HD := Lib.hid hd
    clear hd hin hsz
    go_enter Try.func81, Try.ntmps81
    go_wp2_with fail
    refine Calls.mono hv ?_; rintro y w1 ⟨rfl, hr, hg⟩
    clear hv
    obtain ⟨c0, c1, z0, z1⟩ := hr.cells
    have H := Lib.hid hr
    clear hr
    go_wp2_with fail
    refine (hwi w1 H.out).mono ?_; rintro y w2 ⟨rfl, hr2, hg2⟩
    clear hwi c0 c1 z0 z1
    obtain ⟨c0, c1, z0, z1⟩ := hr2.cells
    have H2 := Lib.hid hr2
    clear hr2
    go_wp2
    go_ret
    refine ⟨?_, ?_, (hg.trans hg2).trans (grownBy_set _ _ _ _)⟩
    · rw [← HT.out]; rfl
    · rw [HD.out]; exact H2.out.setText _
end Go.Proofs.Ytfklochgciijkaa

/-
  The document's own answer whether two lists of bytes are the same (winnowerref01.Bytes), walked.
-/
namespace Go.Proofs.Ytfklochgciijkaa
open Go.RowKit

def EqPost (a b : List UInt8) (w : World) (e : Ending) (w' : World) : Prop := e = .returned (.bool (decide (a = b))) ∧ ∃ n, w' = w.drewN n
theorem EqPost.no {a b : List UInt8} {w : World} {n : Nat} (h : a ≠ b) : EqPost a b w (.returned (.bool false)) (w.drewN n) := ⟨by simp [h], n, rfl⟩
theorem EqPost.yes {a b : List UInt8} {w : World} {n : Nat} (h : a = b) : EqPost a b w (.returned (.bool true)) (w.drewN n) := ⟨by simp [h], n, rfl⟩
set_option maxHeartbeats 400000 in
theorem ref_eq (A A2 : Option Addr) (c c2 n1 n2 B B2 : Nat) (a b : List UInt8) (w : World) (hn1 : n1 = a.length) (hn2 : n2 = b.length) (ha : RowAt w B A (bytes a)) (hb : RowAt w B2 A2 (bytes b)) (hl : a.length ≤ 9223372036854775807) :
    Calls Try.prog 11 #[.slice A n1 c, .slice A2 n2 c2] w (EqPost a b w) := by
  subst hn1 hn2
  by_cases hne : a.length = b.length
  · have HNE := Lib.hid hne
    have hne2 : b.length = a.length := by omega
    obtain ⟨n, hn⟩ : ∃ n, a.length = n := ⟨_, rfl⟩
    have hbn : b.length = n := by omega
    rw [hbn, hn]
    have HA := Lib.hid hn
    have HB := Lib.hid hbn
    rw [hn] at hl
    clear hne hne2 hn hbn
    go_enter Try.func11, Try.ntmps11
    go_wp2
    go_loopw [5] (fun i wr => ∃ k m : Nat, k ≤ n ∧ a.take k = b.take k ∧ i = .int .i64 k ∧ wr = w.drewN m) (fun i _ => n - (intOf i).toNat)
    case atStart => exact ⟨0, 0, by omega, rfl, rfl, rfl⟩
    case round =>
      obtain ⟨k, m, hk, heq, rfl, rfl⟩ := hrel
      have HEQ := Lib.hid heq
      clear heq
      by_cases hlt : k < n
      · obtain ⟨b1, o1, rfl, _, hc1⟩ := ha.bytes_at (by rw [HA.out]; omega)
        obtain ⟨b2, o2, rfl, _, hc2⟩ := hb.bytes_at (by rw [HB.out]; omega)
        have c1 := hc1 k (by rw [HA.out]; omega)
        have c2 := hc2 k (by rw [HB.out]; omega)
        have HT1 := Lib.hid (take_snoc_getD a k (by rw [HA.out]; omega))
        have HT2 := Lib.hid (take_snoc_getD b k (by rw [HB.out]; omega))
        have HN : Hid (a.getD k 0 ≠ b.getD k 0 → a ≠ b) := take_ne
        clear hc1 hc2
        obtain ⟨x, hx⟩ : ∃ x, a.getD k 0 = x := ⟨_, rfl⟩
        obtain ⟨y, hy⟩ : ∃ y, b.getD k 0 = y := ⟨_, rfl⟩
        rw [hx] at c1 HT1 HN
        rw [hy] at c2 HT2 HN
        clear hx hy
        by_cases hxy : x = y
        · subst hxy
          have nx : Hid (a.take (k + 1) = b.take (k + 1)) := by rw [HT1.out, HT2.out, HEQ.out]; exact rfl
          clear HN
          go_wp2
          go_quiet (fail)
          go_wp2
          go_roundw
          case rel => exact ⟨k + 1, _, by omega, nx.out, by go_num, rfl⟩
          case measure => simp [intOf]; omega
        · have fin := Lib.hid (HN.out hxy)
          have hxy' : ((x.toNat : Int) == y.toNat) = false := by
            simp only [beq_eq_false_iff_ne, ne_eq]
            intro h
            exact hxy (UInt8.toNat_inj.1 (by omega))
          clear HN hxy
          go_wp2
          go_quiet (fail)
          go_wp2
          go_ret
          exact ⟨by rw [decide_eq_false fin.out]; rfl, _, World.drewN_drewN ..⟩
      · obtain rfl : k = n := by omega
        have fin : Hid (a = b) := by
          have h := HEQ.out
          rw [List.take_of_length_le (by rw [HA.out]; omega), List.take_of_length_le (by rw [HB.out]; omega)] at h
          exact h
        go_wp2
        go_ret
        exact .yes fin.out
  · have fin : a ≠ b := fun e => hne (by rw [e])
    have FIN := Lib.hid fin
    have hne' : ((a.length : Int) == b.length) = false := by simp; omega
    clear fin hne
    go_enter Try.func11, Try.ntmps11
    go_wp2
    go_ret
    exact EqPost.no (n := 0) FIN.out
theorem eq_same (w : World) (A : Option Addr) (c n B g : Nat) (l : List UInt8) (cs : Array Value) (t : TypeId) (h : RdB w B A c l) (hg : w.heap[g]? = some (.cells cs t (0, 0))) (hl : cs.toList = bytes l) (hn : n = l.length) (hm : l.length ≤ 1000000) :
    Calls Try.prog 11 #[.slice A n c, .slice (some ⟨g, 0, none⟩) n n] w fun e w' => e = .returned (.bool true) ∧ w.grownBy w' none := by
  refine (ref_eq A (some ⟨g, 0, none⟩) c n n n B w.heap.size l l w hn hn h.row (rdB_block (n := n) hg hl hn hm).row (by omega)).mono fun e w' hp => ?_
  obtain ⟨h1, k, h2⟩ := hp
  exact ⟨by rw [h1]; simp, grown_quiet h2⟩
theorem ref_eq_same (A A2 : Option Addr) (c c2 m1 m2 B B2 : Nat) (a : List UInt8) (w : World) (hn1 : m1 = a.length) (hn2 : m2 = a.length) (ha : RowAt w B A (bytes a)) (hb : RowAt w B2 A2 (bytes a)) (hl : a.length ≤ 9223372036854775807) :
    Calls Try.prog 11 #[.slice A m1 c, .slice A2 m2 c2] w fun e w' => e = .returned (.bool true) ∧ w.grownBy w' none :=
  (ref_eq A A2 c c2 m1 m2 B B2 a a w hn1 hn2 ha hb hl).mono fun _ _ ⟨h1, _, h2⟩ => ⟨by rw [h1]; simp, grown_quiet h2⟩
end Go.Proofs.Ytfklochgciijkaa

/-
  The walks of the document's own answers for numbers as bytes.
-/
namespace Go.Proofs.Ytfklochgciijkaa
open Go.RowKit

theorem ref_vright (n : Int) (w : World) : Calls Try.prog 68 #[.int .i64 n] w fun e w' => e = .returned (.bool (okN n)) ∧ w = w' := by
  have hd : okN n = decide (0 ≤ n ∧ n ≤ 281474976710656) := rfl
  generalize okN n = r at *
  by_cases h1 : 0 ≤ n
  · by_cases h2 : n ≤ 281474976710656
    · obtain rfl : r = true := by rw [hd]; simp [h1, h2]
      clear hd
      go_enter Try.func68, Try.ntmps68
      go_wp2
      go_ret
      exact ⟨rfl, rfl⟩
    · obtain rfl : r = false := by rw [hd]; simp [h2]
      clear hd
      go_enter Try.func68, Try.ntmps68
      go_wp2
      go_ret
      exact ⟨rfl, rfl⟩
  · obtain rfl : r = false := by rw [hd]; simp [h1]
    clear hd
    go_enter Try.func68, Try.ntmps68
    go_wp2
    go_ret
    exact ⟨rfl, rfl⟩

set_option maxHeartbeats 400000 in
set_option maxRecDepth 100000 in
theorem ref_bytes (k : Nat) : ∀ (n : Nat) (w : World), n ≤ k → n ≤ 9223372036854775807 → Calls Try.prog 29 #[.int .i64 (n : Int)] w (RetB w.heap.size w (putV n)) := by
  induction k with
  | zero =>
    intro n w hk hn
    obtain rfl : n = 0 := by omega
    have ho := own_one w 0 0 rfl
    have HO := Lib.hid ho
    have HP := Lib.hid (putV_small (n := 0) (by omega))
    clear ho
    go_enter Try.func29, Try.ntmps29
    go_wp2_with fail
    go_ret
    exact ⟨_, rfl, by rw [HP.out]; exact HO.out, (Below.refl _ _).alloc (Nat.le_refl _) _⟩
  | succ k ih =>
    intro n w hk hn
    by_cases hlt : n < 128
    · have HO := Lib.hid (own_one w (n : Int) (UInt8.ofNat n) (by simp; omega))
      have HP := Lib.hid (putV_small hlt)
      go_enter Try.func29, Try.ntmps29
      go_wp2_with fail
      go_ret
      exact ⟨_, rfl, by rw [HP.out]; exact HO.out, (Below.refl _ _).alloc (Nat.le_refl _) _⟩
    · have HO := Lib.hid (own_one w (128 + (n : Int) % 128) (UInt8.ofNat (n % 128 + 128)) (by simp; omega))
      have HP := Lib.hid (putV_big hlt)
      have hlen := putV_len10 (n / 128) (by omega)
      have hih := fun w1 => ih (n / 128) w1 (by omega) (by omega)
      have e1 : ((n / 128 : Nat) : Int) = (n : Int) / 128 := by omega
      rw [e1] at hih
      clear e1 hk
      go_enter Try.func29, Try.ntmps29
      go_wp2_with fail
      refine (hih _).mono ?_; rintro e w1 ⟨v1, rfl, hown1, hb1⟩
      clear hih
      have ho1 := HO.out.below hb1
      obtain ⟨A1, c1, rfl, hr1⟩ := hown1.read
      have hl1 : [UInt8.ofNat (n % 128 + 128)].length + (putV (n / 128)).length ≤ 140737488355328 := by simp; omega
      have hbb := ((Below.refl w.heap.size w).alloc (Nat.le_refl _) (.cells #[.int .u8 (128 + (n : Int) % 128)] 5)).trans (hb1.mono (by simp))
      have hs1 := hbb.size
      have HB := Lib.hid hbb
      clear hown1 hbb hb1 HO
      go_wp2_with (at_builtin; refine wpList_app_row rfl (.tmp 12) (.tmp 15) rfl w.heap.size _ [UInt8.ofNat (n % 128 + 128)] rfl ho1 _ A1 c1 _ (putV (n / 128)) rfl rfl hr1.row hl1 hs1 ?_; intro v2 w2 hown2 _ hb2 _)
      go_ret
      exact ⟨v2, rfl, by rw [HP.out]; exact hown2, HB.out.trans hb2⟩

set_option maxHeartbeats 1000000 in
set_option maxRecDepth 100000 in
theorem ref_vput (A : Option Addr) (n c : Nat) (l : List Int) (w : World) (hn : n = l.length) (hr : RowAt w w.heap.size A (ints l)) (hok : okL l = true) (hlen : l.length ≤ 1000000) :
    Calls Try.prog 30 #[.slice A n c] w (RetB w.heap.size w (putsV l)) := by
  subst hn
  have HK := Lib.hid hok
  have hown0 : OwnB w w.heap.size (.slice none 0 0) [] := World.ownsRow_nil _ _ _ _
  clear hok
  go_enter Try.func30, Try.ntmps30
  go_wp2
  go_loopw [3, 4] (fun v i wr => ∃ k : Nat, k ≤ l.length ∧ i = .int .i64 k ∧ OwnB wr w.heap.size v (putsV (l.take k)) ∧ Below w.heap.size w wr) (fun _ i _ => l.length - (intOf i).toNat)
  case atStart => exact ⟨0, by omega, rfl, hown0, Below.refl _ _⟩
  case round =>
    obtain ⟨k, hk, rfl, hown, hbw⟩ := hrel
    by_cases hlt : k < l.length
    · obtain ⟨b0, o0, rfl, hb0, hc⟩ := hr.ints_at (by omega)
      have hcell := hc k hlt
      rw [← hbw.cell (p := ⟨b0, o0 + k, none⟩) hb0] at hcell
      have hx0 := okL_at HK.out hlt
      obtain ⟨m, hm⟩ := Int.eq_ofNat_of_zero_le hx0.1
      have hts := take_snoc_int l k hlt
      have HN : Hid (putsV (l.take (k + 1)) = putsV (l.take k) ++ putV m) := by
        rw [hts, putsV_snoc, hm]; exact rfl
      have hmax : m ≤ 9223372036854775807 := by omega
      have h9 := putV_len10 m hmax
      have hp := putsV_len (l.take k) (fun x hx => by
        obtain ⟨j, hj, rfl⟩ := List.getElem_of_mem (List.mem_of_mem_take hx)
        have := (okL_at HK.out hj).2
        rw [List.getD, List.getElem?_eq_getElem hj] at this
        simp at this
        omega)
      have hpl : (putsV (l.take k)).length + (putV m).length ≤ 140737488355328 := by
        rw [List.length_take] at hp
        omega
      rw [hm] at hcell
      have hb := fun w1 => ref_bytes m m w1 (Nat.le_refl _) hmax
      clear hc hm hts hx0 hp h9 hown0
      go_wp2_with fail
      refine (hb _).mono ?_; rintro e w2 ⟨v2, rfl, hown2, hb2⟩
      clear hb
      have ho2 := hown.below hb2
      have hbw2 := hbw.trans (hb2.mono hbw.size)
      have hs2 := hbw2.size
      have HB := Lib.hid hbw2
      obtain ⟨A2, c2, rfl, hr2⟩ := hown2.read
      clear hown2 hown hb2 hbw2
      go_wp2_with (at_builtin; refine wpList_app_row rfl (.tmp 11) (.tmp 16) rfl w.heap.size _ _ rfl ho2 _ A2 c2 _ (putV m) rfl rfl hr2.row hpl hs2 ?_; intro v3 w3 hown3 _ hb3 _)
      go_roundw
      case rel => exact ⟨k + 1, by omega, by go_num, by rw [HN.out]; exact hown3, HB.out.trans hb3⟩
      case measure => simp [intOf]; omega
    · obtain rfl : k = l.length := by omega
      rw [List.take_length] at hown
      go_wp2
      go_ret
      exact ⟨_, rfl, hown, hbw⟩
end Go.Proofs.Ytfklochgciijkaa

/-
  The walks of the document's own reader.
-/
namespace Go.Proofs.Ytfklochgciijkaa
open Go.RowKit

theorem right_no (n : Int) (w : World) (h : okN n = false) : Calls Try.prog 68 #[.int .i64 n] w fun e w' => e = .returned (.bool false) ∧ w = w' := by rw [← h]; exact ref_vright n w
theorem right_yes (n : Int) (w : World) (h : okN n = true) : Calls Try.prog 68 #[.int .i64 n] w fun e w' => e = .returned (.bool true) ∧ w = w' := by rw [← h]; exact ref_vright n w

def CutPost (l : List UInt8) (w : World) (e : Ending) (w' : World) : Prop := e = .returned (.tuple #[.int .i64 (cutV l).1, .int .i64 (cutV l).2.1, .int .i64 (cutV l).2.2]) ∧ w = w'
theorem CutPost.mk {l : List UInt8} {w : World} {a b c : Nat} (h : cutV l = (a, b, c)) : CutPost l w (.returned (.tuple #[.int .i64 a, .int .i64 b, .int .i64 c])) w := by unfold CutPost; rw [h]; exact ⟨rfl, rfl⟩

set_option maxHeartbeats 1000000 in
set_option maxRecDepth 100000 in
theorem ref_number (A : Option Addr) (n c B : Nat) (l : List UInt8) (w : World) (hn : n = l.length) (hr : RowAt w B A (bytes l)) (hl : l.length ≤ 9223372036854775807) :
    Calls Try.prog 57 #[.slice A n c] w (CutPost l w) := by
  subst hn
  go_enter Try.func57, Try.ntmps57
  go_wp2
  go_loop [5] (fun i => ∃ k : Nat, k ≤ l.length ∧ k ≤ 8 ∧ Lead l k ∧ i = .int .i64 k) (fun i => 8 - (intOf i).toNat)
  case atStart => exact ⟨0, by omega, by omega, Lead.zero l, rfl⟩
  case round =>
    obtain ⟨k, hk, hk8, hlead, rfl⟩ := hrel
    have HL := Lib.hid hlead
    clear hlead
    by_cases h8 : k = 8
    · subst h8
      have fin := Lib.hid (cut_eight HL.out)
      by_cases h9 : l.length = 8
      · have h9' : l.length ≤ 8 := by omega
        clear h9
        go_wp2
        go_ret3
        exact CutPost.mk (a := 0) (b := 0) (c := 11) fin.out
      · have h9' : 8 < l.length := by omega
        clear h9
        go_wp2
        go_ret3
        exact CutPost.mk (a := 0) (b := 0) (c := 11) fin.out
    · by_cases hlt : k < l.length
      · have hk7 : k < 8 := by omega
        obtain ⟨b0, o0, rfl, _, hc⟩ := hr.bytes_at (by omega)
        have hcell := hc k hlt
        have NX := fun h => Lib.hid (HL.out.next hlt h)
        have FB := fun h1 h2 => Lib.hid (cut_bad HL.out hlt hk7 h1 h2)
        have FG := fun h1 h2 => Lib.hid (cut_good HL.out hlt hk7 h1 h2)
        have HC := Lib.hid hc
        obtain ⟨x, hx⟩ : ∃ x, l.getD k 0 = x := ⟨_, rfl⟩
        rw [hx] at hcell NX FB FG
        clear hc hx h8
        by_cases h1 : 128 ≤ x.toNat
        · have nx := NX h1
          clear NX FB FG
          go_wp2
          go_round
          case rel => exact ⟨k + 1, by omega, by omega, nx.out, by go_num⟩
          case measure => simp [intOf]; omega
        · have HLEN : (l.take (k + 1)).length = k + 1 := by rw [List.length_take]; omega
          have HLEN := Lib.hid HLEN
          have hkl : ((k : Int) == l.length) = false := by simp; omega
          have hk8' : ((k : Int) == 8) = false := by simp; omega
          clear NX
          go_wp2
          go_loop [6, 7] (fun n i => ∃ j : Nat, j ≤ k + 1 ∧ i = .int .i64 ((j : Int) - 1) ∧ n = .int .i64 (valV ((l.take (k + 1)).drop j) : Nat)) (fun _ i => (intOf i + 1).toNat)
          case atStart =>
            refine ⟨k + 1, by omega, by go_num, ?_⟩
            rw [List.drop_of_length_le (by rw [HLEN.out]; omega)]
            rfl
          case round =>
            obtain ⟨j, hj, rfl, rfl⟩ := hrel
            cases j with
            | zero =>
              have hv0 := valV_take_lt l (k + 1) (by omega)
              rw [List.drop_zero]
              generalize valV (l.take (k + 1)) = v at *
              by_cases h2 : 0 < k
              · by_cases h3 : x.toNat = 0
                · have fin := FB (by omega) (.inl ⟨h2, h3⟩)
                  obtain rfl : x = 0 := UInt8.toNat_inj.1 h3
                  clear FB FG h3
                  by_cases h4 : okN (v : Int) = true
                  · go_wp2_with (go_at_call 68; refine (right_yes _ _ h4).mono ?_; rintro e w' ⟨rfl, rfl⟩)
                    go_ret3
                    exact CutPost.mk (a := 0) (b := 0) (c := 11) fin.out
                  · have h4 : okN (v : Int) = false := by simpa using h4
                    go_wp2_with (go_at_call 68; refine (right_no _ _ h4).mono ?_; rintro e w' ⟨rfl, rfl⟩)
                    go_ret3
                    exact CutPost.mk (a := 0) (b := 0) (c := 11) fin.out
                · have h3' : ((x.toNat : Int) == 0) = false := by simpa using h3
                  by_cases h4 : v ≤ 281474976710656
                  · have fin := FG (by omega) (by omega)
                    have h5 : okN (v : Int) = true := by simp [okN]; omega
                    clear FB FG h3
                    go_wp2_with (go_at_call 68; refine (right_yes _ _ h5).mono ?_; rintro e w' ⟨rfl, rfl⟩)
                    go_ret3
                    exact CutPost.mk (a := v) (b := k + 1) (c := 0) fin.out
                  · have fin := FB (by omega) (.inr (by omega))
                    have h5 : okN (v : Int) = false := by simp [okN]; omega
                    clear FB FG h3
                    go_wp2_with (go_at_call 68; refine (right_no _ _ h5).mono ?_; rintro e w' ⟨rfl, rfl⟩)
                    go_ret3
                    exact CutPost.mk (a := 0) (b := 0) (c := 11) fin.out
              · by_cases h4 : v ≤ 281474976710656
                · have fin := FG (by omega) (by omega)
                  have h5 : okN (v : Int) = true := by simp [okN]; omega
                  clear FB FG
                  go_wp2_with (go_at_call 68; refine (right_yes _ _ h5).mono ?_; rintro e w' ⟨rfl, rfl⟩)
                  go_ret3
                  exact CutPost.mk (a := v) (b := k + 1) (c := 0) fin.out
                · have fin := FB (by omega) (.inr (by omega))
                  have h5 : okN (v : Int) = false := by simp [okN]; omega
                  clear FB FG
                  go_wp2_with (go_at_call 68; refine (right_no _ _ h5).mono ?_; rintro e w' ⟨rfl, rfl⟩)
                  go_ret3
                  exact CutPost.mk (a := 0) (b := 0) (c := 11) fin.out
            | succ j =>
              have hcj := HC.out j (by omega)
              have hvd := valV_drop (l.take (k + 1)) j (by rw [HLEN.out]; omega)
              have hg : (l.take (k + 1)).getD j 0 = l.getD j 0 := by
                rw [List.getD, List.getD, List.getElem?_take, if_pos (by omega)]
              have hlt2 : valV ((l.take (k + 1)).drop j) < 72057594037927936 := by
                have h1 := valV_lt ((l.take (k + 1)).drop j)
                have h2 : 128 ^ ((l.take (k + 1)).drop j).length ≤ 128 ^ 8 := Nat.pow_le_pow_right (by decide) (by rw [List.length_drop, HLEN.out]; omega)
                have h3 : 128 ^ 8 = 72057594037927936 := by decide
                omega
              rw [hg] at hvd
              have ej : (((j + 1 : Nat) : Int) - 1) = (j : Int) := by omega
              rw [ej]
              obtain ⟨y, hy⟩ : ∃ y, l.getD j 0 = y := ⟨_, rfl⟩
              obtain ⟨u, hu⟩ : ∃ u, valV ((l.take (k + 1)).drop (j + 1)) = u := ⟨_, rfl⟩
              obtain ⟨v, hv⟩ : ∃ v, valV ((l.take (k + 1)).drop j) = v := ⟨_, rfl⟩
              rw [hu]
              rw [hy] at hcj hvd
              rw [hu, hv] at hvd
              rw [hv] at hlt2
              have HV := Lib.hid hv
              have e2 : 128 * (u : Int) + (y.toNat : Int) % 128 = (v : Int) := by omega
              have hb1 : 128 * (u : Int) ≤ 72057594037927936 := by omega
              have hy0 : (0 : Int) ≤ y.toNat := by omega
              have hy1 : (y.toNat : Int) < 256 := by have := y.toNat_lt; omega
              clear hu hv hy hg hvd FB FG ej
              go_wp2
              go_round
              case rel => exact ⟨j, by omega, by go_num, by rw [HV.out]⟩
              case measure => simp [intOf]
      · obtain rfl : k = l.length := by omega
        have fin := Lib.hid (cut_short HL.out (by omega))
        have h8' : ((l.length : Int) == 8) = false := by simp; omega
        clear h8
        go_wp2
        go_ret3
        exact CutPost.mk (a := 0) (b := 0) (c := 10) fin.out
end Go.Proofs.Ytfklochgciijkaa

/-
  The walks of the document's own reader: its calls.
-/
namespace Go.Proofs.Ytfklochgciijkaa
open Go.RowKit

/-- The document's reader at block m: the bytes, where it stands, and the error. -/
def RfAt (w : World) (m : Nat) (A : Option Addr) (n c at' : Nat) (e : Int) : Prop := w.heap[m]? = some (.cells #[.slice A n c, .int .i64 (at' : Int), .int .i64 e] 81 (0, 0))
theorem RfAt.lt {w : World} {m n c a : Nat} {A : Option Addr} {e : Int} (h : RfAt w m A n c a e) : m < w.heap.size := lt_of_block h
theorem RfAt.cells {w : World} {m n c a : Nat} {A : Option Addr} {e : Int} (h : RfAt w m A n c a e) :
    w.cell? ⟨m, 0, none⟩ = some (.slice A n c) ∧ w.cell? ⟨m, 1, none⟩ = some (.int .i64 (a : Int)) ∧ w.cell? ⟨m, 2, none⟩ = some (.int .i64 e) ∧ w.frozen? ⟨m, 0, none⟩ = false ∧ w.frozen? ⟨m, 1, none⟩ = false ∧ w.frozen? ⟨m, 2, none⟩ = false := by
  have h : w.heap[m]? = _ := h
  refine ⟨?_, ?_, ?_, ?_, ?_, ?_⟩ <;> simp [World.cell?, World.frozen?, h]
theorem RfAt.kept {w w' : World} {m n c a : Nat} {A : Option Addr} {e : Int} {row : Option Nat} (h : RfAt w m A n c a e) (hg : w.grownBy w' row) (hne : some m ≠ row) : RfAt w' m A n c a e := (hg.block m h.lt hne).trans h
theorem RfAt.setPos {w : World} {m n c a : Nat} {A : Option Addr} {e : Int} (h : RfAt w m A n c a e) (a' : Nat) : RfAt (w.setCell ⟨m, 1, none⟩ (.int .i64 (a' : Int))) m A n c a' e := heap_setCell_self h _
theorem RfAt.setErr {w : World} {m n c a : Nat} {A : Option Addr} {e : Int} (h : RfAt w m A n c a e) (e' : Int) : RfAt (w.setCell ⟨m, 2, none⟩ (.int .i64 e')) m A n c a e' := heap_setCell_self h _
theorem RfAt.drewN {w : World} {m n c a : Nat} {A : Option Addr} {e : Int} (h : RfAt w m A n c a e) (k : Nat) : RfAt (w.drewN k) m A n c a e := h

/-- What a call leaves that works on the document's reader alone: its answer, what it has left, and its error. -/
def RfPost (w : World) (m : Nat) (A : Option Addr) (c : Nat) (b : List UInt8) (v : Value) (l : List UInt8) (e : Int) (x : Ending) (w' : World) : Prop :=
  x = .returned v ∧ ∃ a, a ≤ b.length ∧ l = b.drop a ∧ RfAt w' m A b.length c a e ∧ w.grownBy w' (some m)

set_option maxHeartbeats 1000000 in
set_option maxRecDepth 100000 in
theorem rf_within {w : World} {m B a c : Nat} {A : Option Addr} {b : List UInt8} {e : Int} (h : RfAt w m A b.length c a e) (hr : RdB w B A c b) (ha : a ≤ b.length) (lo hi : Int) (hl : b.length ≤ 1000000) :
    Calls Try.prog 42 #[.pointer (some ⟨m, 0, none⟩), .int .i64 lo, .int .i64 hi] w
      (RfPost w m A c b (.int .i64 (withinR lo hi (b.drop a) e).1) (withinR lo hi (b.drop a) e).2.1 (withinR lo hi (b.drop a) e).2.2) := by
  obtain ⟨c0, c1, c2, z0, z1, z2⟩ := h.cells
  have H := Lib.hid h
  clear h
  by_cases he : e = 0
  · subst he
    have K1 := fun w : World => run_cut (T := 25) (E := 5) Try.underlying25 byte_size w A b.length c a ha
    obtain ⟨n, k, x, hcut⟩ : ∃ n k x, cutV (b.drop a) = (n, k, x) := ⟨_, _, _, rfl⟩
    have hn : ∀ w1 : World, RowAt w1 B (cutA A a c) (bytes (b.drop a)) → Calls Try.prog 57 #[.slice (cutA A a c) (b.length - a) (c - a)] w1 fun e w' => e = .returned (.tuple #[.int .i64 n, .int .i64 k, .int .i64 x]) ∧ w' = w1 := fun w1 hrr =>
      (ref_number (cutA A a c) (b.length - a) (c - a) B (b.drop a) w1 (by simp) hrr (by simp; omega)).mono fun _ _ ⟨h1, h2⟩ => ⟨by rw [h1, hcut], h2.symm⟩
    have hrr := (hr.cut ha).row
    obtain ⟨hk1, hk8, hn48, F1, F2, F3⟩ := withinR_cut (lo := lo) (hi := hi) hcut
    have HK := Lib.hid hk1
    clear hcut hk1
    generalize withinR lo hi (b.drop a) 0 = W at *
    generalize cutA A a c = A' at *
    by_cases hx : x = 0
    · subst hx
      by_cases hlo : (n : Int) < lo
      · have fin := F2 rfl (.inl hlo)
        subst fin
        clear F1 F2 F3
        go_enter Try.func42, Try.ntmps42
        go_wp2
        go_quiet ((go_at_call 57; exact Calls.quiet_of_same (hn _ (hrr.drewN _))))
        clear hn hrr K1
        go_wp2
        go_ret
        exact ⟨rfl, a, ha, rfl, (H.out.drewN _).setErr _, (grownBy_drewN' _ _ _).trans (grownBy_set _ _ _ _)⟩
      · by_cases hhi : hi < (n : Int)
        · have fin := F2 rfl (.inr hhi)
          subst fin
          clear F1 F2 F3
          go_enter Try.func42, Try.ntmps42
          go_wp2
          go_quiet ((go_at_call 57; exact Calls.quiet_of_same (hn _ (hrr.drewN _))))
          clear hn hrr K1
          go_wp2
          go_ret
          exact ⟨rfl, a, ha, rfl, (H.out.drewN _).setErr _, (grownBy_drewN' _ _ _).trans (grownBy_set _ _ _ _)⟩
        · have fin := F3 rfl (by omega)
          subst fin
          have FD : Hid (a + k ≤ b.length ∧ List.drop k (b.drop a) = b.drop (a + k)) := ⟨by have := HK.out; simp at this; omega, by rw [List.drop_drop]⟩
          have EK := Lib.hid (show ((a : Int) + (k : Int)) = ((a + k : Nat) : Int) by omega)
          clear F1 F2 F3
          go_enter Try.func42, Try.ntmps42
          go_wp2
          go_quiet ((go_at_call 57; exact Calls.quiet_of_same (hn _ (hrr.drewN _))))
          clear hn hrr K1
          go_wp2
          go_ret
          exact ⟨rfl, a + k, FD.out.1, FD.out.2, by rw [EK.out]; exact (H.out.drewN _).setPos _, (grownBy_drewN' _ _ _).trans (grownBy_set _ _ _ _)⟩
    · have fin := F1 hx
      have hx' : ((x : Int) == 0) = false := by simpa using hx
      subst fin
      clear F1 F2 F3
      go_enter Try.func42, Try.ntmps42
      go_wp2
      go_quiet ((go_at_call 57; exact Calls.quiet_of_same (hn _ (hrr.drewN _))))
      clear hn hrr K1
      go_wp2
      go_ret
      exact ⟨rfl, a, ha, rfl, (H.out.drewN _).setErr _, (grownBy_drewN' _ _ _).trans (grownBy_set _ _ _ _)⟩
  · rw [withinR_err he]
    go_enter Try.func42, Try.ntmps42
    go_wp2
    go_ret
    exact ⟨rfl, a, ha, rfl, H.out, World.grownBy.refl _ _⟩

set_option maxHeartbeats 400000 in
theorem rf_number {w : World} {m B a c : Nat} {A : Option Addr} {b : List UInt8} {e : Int} (h : RfAt w m A b.length c a e) (hr : RdB w B A c b) (ha : a ≤ b.length) (hl : b.length ≤ 1000000) :
    Calls Try.prog 56 #[.pointer (some ⟨m, 0, none⟩)] w
      (RfPost w m A c b (.int .i64 (numR (b.drop a) e).1) (numR (b.drop a) e).2.1 (numR (b.drop a) e).2.2) := by
  have hw := rf_within h hr ha 0 281474976710656 hl
  rw [withinR_num] at hw
  clear h
  go_enter Try.func56, Try.ntmps56
  go_wp2_with fail
  refine hw.mono ?_; rintro y w1 ⟨rfl, hy⟩
  clear hw
  have HY := Lib.hid hy
  clear hy
  go_wp2
  go_ret
  exact ⟨rfl, HY.out⟩

set_option maxHeartbeats 400000 in
theorem rf_end {w : World} {m a c : Nat} {A : Option Addr} {b : List UInt8} {e : Int} (h : RfAt w m A b.length c a e) (ha : a ≤ b.length) :
    Calls Try.prog 41 #[.pointer (some ⟨m, 0, none⟩)] w (RfPost w m A c b (.int .i64 (endR (b.drop a) e)) (b.drop a) e) := by
  obtain ⟨c0, c1, c2, z0, z1, z2⟩ := h.cells
  have H := Lib.hid h
  clear h
  by_cases he : e = 0
  · subst he
    by_cases hlt : a < b.length
    · have fin : endR (b.drop a) 0 = 14 := by unfold endR; rw [if_pos ⟨rfl, by simp; omega⟩]
      rw [fin]
      clear fin
      go_enter Try.func41, Try.ntmps41
      go_wp2
      go_quiet (fail)
      go_wp2
      go_ret
      exact ⟨rfl, a, ha, rfl, H.out.drewN _, grownBy_drewN' _ _ _⟩
    · have fin : endR (b.drop a) 0 = 0 := by unfold endR; rw [if_neg (by simp; omega)]
      rw [fin]
      have hlt' : decide (a < b.length) = false := by simp; omega
      clear fin hlt
      go_enter Try.func41, Try.ntmps41
      go_wp2
      go_quiet (fail)
      go_wp2
      go_ret
      exact ⟨rfl, a, ha, rfl, H.out.drewN _, grownBy_drewN' _ _ _⟩
  · have fin : endR (b.drop a) e = e := by unfold endR; rw [if_neg (by simp [he])]
    have he' : (e == 0) = false := by simpa using he
    rw [fin]
    clear fin he
    go_enter Try.func41, Try.ntmps41
    go_wp2
    go_quiet (fail)
    go_wp2
    go_ret
    exact ⟨rfl, a, ha, rfl, H.out.drewN _, grownBy_drewN' _ _ _⟩

theorem RdB.drewN {w : World} {B : Nat} {A : Option Addr} {c : Nat} {l : List UInt8} (h : RdB w B A c l) (k : Nat) : RdB (w.drewN k) B A c l := ⟨h.row.drewN k, h.room, h.cap⟩
theorem RdB.grown {w w' : World} {B m c : Nat} {A : Option Addr} {l : List UInt8} (h : RdB w B A c l) (hg : w.grownBy w' (some m)) (hm : B ≤ m) (hB : B ≤ w.heap.size) : RdB w' B A c l :=
  h.keep fun p hp => World.cell?_of_block (hg.block p.block (by omega) (fun e => by injection e with e; omega))

set_option maxHeartbeats 1000000 in
set_option maxRecDepth 100000 in
theorem rf_text {w : World} {m B a c : Nat} {A : Option Addr} {b : List UInt8} {e : Int} (h : RfAt w m A b.length c a e) (hr : RdB w B A c b) (ha : a ≤ b.length) (hm : B ≤ m) (most : Int) (hl : b.length ≤ 1000000) :
    Calls Try.prog 43 #[.pointer (some ⟨m, 0, none⟩), .int .i64 most] w
      (RfPost w m A c b (.string (str (textR most (b.drop a) e).1)) (textR most (b.drop a) e).2.1 (textR most (b.drop a) e).2.2) := by
  obtain ⟨c0, c1, c2, z0, z1, z2⟩ := h.cells
  have hwi := rf_within h hr ha 0 most hl
  have hBw : B ≤ w.heap.size := by have := h.lt; omega
  have hsame := withinR_same 0 most (b.drop a) e
  obtain ⟨n, hn⟩ : ∃ n, (withinR 0 most (b.drop a) e).1 = n := ⟨_, rfl⟩
  obtain ⟨l1, hl1⟩ : ∃ l1, (withinR 0 most (b.drop a) e).2.1 = l1 := ⟨_, rfl⟩
  obtain ⟨e1, he1⟩ : ∃ e1, (withinR 0 most (b.drop a) e).2.2 = e1 := ⟨_, rfl⟩
  have hdef : textR most (b.drop a) e = if l1.length < n then ([], b.drop a, if e1 = 0 then 10 else e1) else (l1.take n, l1.drop n, e1) := by unfold textR; rw [hn, hl1, he1]
  rw [hn, hl1, he1] at hwi hsame
  generalize textR most (b.drop a) e = T at *
  have H := Lib.hid h
  have HS := Lib.hid hsame
  have HDEF := Lib.hid hdef
  clear hn hl1 he1 h hsame hdef
  go_enter Try.func43, Try.ntmps43
  go_wp2_with fail
  refine hwi.mono ?_; rintro y w1 ⟨rfl, a1, ha1, hla, hf1, hg1⟩
  clear hwi c0 c1 c2 z0 z1 z2
  obtain ⟨c0, c1, c2, z0, z1, z2⟩ := hf1.cells
  have HF := Lib.hid hf1
  have HG := Lib.hid hg1
  have hr1 := hr.grown hg1 hm hBw
  clear hf1 hg1 hr
  by_cases he : e1 = 0
  · subst he
    have hll : l1.length = b.length - a1 := by rw [hla]; simp
    by_cases hlt : l1.length < n
    · have fin : T = ([], b.drop a, 10) := by rw [HDEF.out, if_pos hlt, if_pos rfl]
      subst fin
      have hlt2 : (b.length : Int) - a1 < n := by omega
      clear HDEF hla hll hlt
      go_wp2
      go_quiet (fail)
      go_wp2
      go_ret
      exact ⟨rfl, a, ha, rfl, ((HF.out.drewN _).setPos _).setErr _, ((HG.out.trans (grownBy_drewN' _ _ _)).trans (grownBy_set _ _ _ _)).trans (grownBy_set _ _ _ _)⟩
    · have fin : T = (l1.take n, l1.drop n, 0) := by rw [HDEF.out, if_neg hlt]
      subst fin
      have hlt2 : ¬ (b.length : Int) - a1 < n := by omega
      have hroom := hr1.room
      have hcap := hr1.cap
      have K1 := fun w : World => run_cut2 (T := 25) (E := 5) Try.underlying25 byte_size w A b.length c a1 ((a1 : Int) + (n : Int)) (by omega) (by omega)
      have htn : ((a1 : Int) + (n : Int)).toNat - a1 = (l1.take n).length := by rw [List.length_take]; omega
      rw [htn] at K1
      have hrow2 := (hr1.cut ha1).take n
      rw [← hla] at hrow2
      have K2 := fun j : Nat => conv_str (P := Try.prog) (c - a1) 25 5 9 Try.underlying25 Try.underlying5 Try.underlying9 (hrow2.drewN j).row
      have FD : Hid (a1 + n ≤ b.length ∧ List.drop n l1 = b.drop (a1 + n)) := ⟨by omega, by rw [hla, List.drop_drop]⟩
      have EK := Lib.hid (show ((a1 : Int) + (n : Int)) = ((a1 + n : Nat) : Int) by omega)
      have hb63 : (a1 : Int) + n ≤ 1000000 := by omega
      generalize cutA A a1 c = A' at *
      generalize (l1.take n).length = q at *
      clear HDEF hla hll hlt htn hrow2 hroom hcap
      go_wp2
      go_quiet (fail)
      go_wp2
      go_quiet (fail)
      go_wp2
      go_ret
      exact ⟨rfl, a1 + n, FD.out.1, FD.out.2, by rw [EK.out]; exact (HF.out.drewN _).setPos _, (HG.out.trans (grownBy_drewN' _ _ _)).trans (grownBy_set _ _ _ _)⟩
  · have hs := HS.out he
    have fin : T = ([], b.drop a, e1) := by
      rw [HDEF.out, hs.1, if_neg (by omega), hs.2]; simp
    subst fin
    have he' : (e1 == 0) = false := by simpa using he
    have HL := Lib.hid (hs.2.symm.trans hla)
    clear HDEF hs he hla
    go_wp2
    go_ret
    exact ⟨rfl, a1, ha1, HL.out, HF.out, HG.out⟩
end Go.Proofs.Ytfklochgciijkaa

/-
  Ranges as values of the program: named texts, a block that holds one, two held against each other, one that came in.
-/
namespace Go.Proofs.Ytfklochgciijkaa
open Go.RowKit

/-- A range as a value, its texts named. -/
structure IsR (r : Rng) (S T : ByteArray) (o : Bool) : Prop where
  lo : str r.lo = S
  hi : str r.hi = T
  op : r.op = o
theorem IsR.mk' (r : Rng) : IsR r (str r.lo) (str r.hi) r.op := ⟨rfl, rfl, rfl⟩
theorem below_set3 {B g : Nat} {a w : World} (h : Below B a w) (hg : B ≤ g) (u v x : Value) : Below B a (((w.setCell ⟨g, 0, none⟩ u).setCell ⟨g, 1, none⟩ v).setCell ⟨g, 2, none⟩ x) :=
  ((h.setCell (p := ⟨g, 0, none⟩) hg u).setCell (p := ⟨g, 1, none⟩) hg v).setCell (p := ⟨g, 2, none⟩) hg x
/-- A range lies in block g. -/
def RgAt (w : World) (g : Nat) (S T : ByteArray) (o : Bool) : Prop := w.cell? ⟨g, 0, none⟩ = some (.string S) ∧ w.cell? ⟨g, 1, none⟩ = some (.string T) ∧ w.cell? ⟨g, 2, none⟩ = some (.bool o) ∧ ∀ k, w.frozen? ⟨g, k, none⟩ = false
theorem RgAt.lt {w : World} {g : Nat} {S T : ByteArray} {o : Bool} (h : RgAt w g S T o) : g < w.heap.size := World.block_lt_of_cell? w _ h.1
theorem RgAt.drew {w : World} {g : Nat} {S T : ByteArray} {o : Bool} (h : RgAt w g S T o) : RgAt w.drew g S T o := h
theorem RgAt.below {w w' : World} {g : Nat} {S T : ByteArray} {o : Bool} (h : RgAt w g S T o) (hb : Below w.heap.size w w') : RgAt w' g S T o := by
  obtain ⟨hc, hf⟩ := bcell hb
  have hl := h.lt
  obtain ⟨h0, h1, h2, h3⟩ := h
  exact ⟨(hc _ _ hl).trans h0, (hc _ _ hl).trans h1, (hc _ _ hl).trans h2, fun k => (hf _ _ hl).trans (h3 k)⟩
theorem RgAt.grown {w w' : World} {row : Option Nat} {g : Nat} {S T : ByteArray} {o : Bool} (h : RgAt w g S T o) (hg : w.grownBy w' row) (hne : some g ≠ row) : RgAt w' g S T o :=
  ⟨hg.cell h.1 hne, hg.cell h.2.1 hne, hg.cell h.2.2.1 hne, fun k => (hg.frozen_far ⟨g, k, none⟩ h.lt hne).trans (h.2.2.2 k)⟩
theorem RgAt.keep {w : World} {g : Nat} {S T : ByteArray} {o : Bool} (h : RgAt w g S T o) (x : Obj) : RgAt (w.alloc x) g S T o := h.below ((Below.refl _ _).alloc (Nat.le_refl _) x)
theorem rgAt_new (w : World) (S T : ByteArray) (o : Bool) (t : TypeId) : RgAt (w.alloc (.cells #[.string S, .string T, .bool o] t)) w.heap.size S T o := by
  have h := heap_new w (.cells #[.string S, .string T, .bool o] t) _ rfl
  refine ⟨?_, ?_, ?_, fun k => ?_⟩
  · rw [cell_of_row _ _ _ _ _ _ h]; rfl
  · rw [cell_of_row _ _ _ _ _ _ h]; rfl
  · rw [cell_of_row _ _ _ _ _ _ h]; rfl
  · unfold World.frozen?; rw [h]; simp
theorem set_other {w : World} {a b : Addr} {u : Value} (h : w.cell? b = some u) (hne : a ≠ b) (v : Value) : (w.setCell a v).cell? b = some u := (World.cell?_setCell_other w a b v hne).trans h
theorem set_same {w : World} {a : Addr} {u : Value} (h : w.cell? a = some u) (v : Value) : (w.setCell a v).cell? a = some v := World.cell?_setCell_same w a v h
theorem addr_block {g g' i j : Nat} (h : g ≠ g') : (⟨g, i, none⟩ : Addr) ≠ ⟨g', j, none⟩ := fun e => h (by injection e)
theorem addr_off {g i j : Nat} (h : i ≠ j) : (⟨g, i, none⟩ : Addr) ≠ ⟨g, j, none⟩ := fun e => h (by injection e)
theorem RgAt.other {w : World} {g : Nat} {S T : ByteArray} {o : Bool} (h : RgAt w g S T o) {g' k : Nat} (hne : g' ≠ g) (v : Value) : RgAt (w.setCell ⟨g', k, none⟩ v) g S T o :=
  ⟨set_other h.1 (addr_block hne) v, set_other h.2.1 (addr_block hne) v, set_other h.2.2.1 (addr_block hne) v, fun j => by rw [World.frozen?_setCell]; exact h.2.2.2 j⟩
theorem RgAt.set0 {w : World} {g : Nat} {S T : ByteArray} {o : Bool} (h : RgAt w g S T o) (X : ByteArray) : RgAt (w.setCell ⟨g, 0, none⟩ (.string X)) g X T o :=
  ⟨set_same h.1 _, set_other h.2.1 (addr_off (i := 0) (j := 1) (by decide)) _, set_other h.2.2.1 (addr_off (i := 0) (j := 2) (by decide)) _, fun j => by rw [World.frozen?_setCell]; exact h.2.2.2 j⟩
theorem RgAt.set1 {w : World} {g : Nat} {S T : ByteArray} {o : Bool} (h : RgAt w g S T o) (X : ByteArray) : RgAt (w.setCell ⟨g, 1, none⟩ (.string X)) g S X o :=
  ⟨set_other h.1 (addr_off (i := 1) (j := 0) (by decide)) _, set_same h.2.1 _, set_other h.2.2.1 (addr_off (i := 1) (j := 2) (by decide)) _, fun j => by rw [World.frozen?_setCell]; exact h.2.2.2 j⟩
theorem RgAt.set2 {w : World} {g : Nat} {S T : ByteArray} {o : Bool} (h : RgAt w g S T o) (p : Bool) : RgAt (w.setCell ⟨g, 2, none⟩ (.bool p)) g S T p :=
  ⟨set_other h.1 (addr_off (i := 2) (j := 0) (by decide)) _, set_other h.2.1 (addr_off (i := 2) (j := 1) (by decide)) _, set_same h.2.2.1 _, fun j => by rw [World.frozen?_setCell]; exact h.2.2.2 j⟩
theorem RgAt.set3 {w : World} {g : Nat} {S T : ByteArray} {o : Bool} (h : RgAt w g S T o) (X Y : ByteArray) (p : Bool) : RgAt (((w.setCell ⟨g, 0, none⟩ (.string X)).setCell ⟨g, 1, none⟩ (.string Y)).setCell ⟨g, 2, none⟩ (.bool p)) g X Y p := ((h.set0 X).set1 Y).set2 p
theorem RgAt.other3 {w : World} {g : Nat} {S T : ByteArray} {o : Bool} (h : RgAt w g S T o) {g' : Nat} (hne : g' ≠ g) (x y z : Value) : RgAt (((w.setCell ⟨g', 0, none⟩ x).setCell ⟨g', 1, none⟩ y).setCell ⟨g', 2, none⟩ z) g S T o := ((h.other hne x).other hne y).other hne z
theorem size1 (w : World) (o : Obj) : (w.alloc o).heap.size = w.heap.size + 1 := by simp

theorem rgAt_new1 (w : World) (x : Obj) (S T : ByteArray) (o : Bool) (t : TypeId) : RgAt ((w.alloc x).alloc (.cells #[.string S, .string T, .bool o] t)) (w.heap.size + 1) S T o := by
  have := rgAt_new (w.alloc x) S T o t
  rwa [size1] at this
theorem rgAt_new2 (w : World) (x y : Obj) (S T : ByteArray) (o : Bool) (t : TypeId) : RgAt (((w.alloc x).alloc y).alloc (.cells #[.string S, .string T, .bool o] t)) (w.heap.size + 1 + 1) S T o := by
  have := rgAt_new ((w.alloc x).alloc y) S T o t
  rwa [size1, size1] at this
/-- A range lies in block g, and below the first block of a call all is as it was: what stays so through a drawn statement. -/
abbrev HeldR (a : World) (g : Nat) (S T : ByteArray) (o : Bool) (w : World) : Prop := (w.cell? ⟨g, 0, none⟩ = some (.string S) ∧ w.cell? ⟨g, 1, none⟩ = some (.string T) ∧ w.cell? ⟨g, 2, none⟩ = some (.bool o) ∧ ∀ k, w.frozen? ⟨g, k, none⟩ = false) ∧ Below a.heap.size a w
theorem heldR_call {a w w' : World} {g : Nat} {S T : ByteArray} {o : Bool} (h : HeldR a g S T o w) (hb : Below w.heap.size w w') : HeldR a g S T o w' :=
  ⟨RgAt.below (w := w) h.1 hb, h.2.trans (hb.mono h.2.size)⟩
theorem heldR_alloc {a w : World} {g : Nat} {S T : ByteArray} {o : Bool} (h : HeldR a g S T o w) (x : Obj) : HeldR a g S T o (w.alloc x) := ⟨RgAt.keep (w := w) h.1 x, h.2.alloc h.2.size x⟩
theorem heldR_drew {a w : World} {g : Nat} {S T : ByteArray} {o : Bool} (h : RgAt w g S T o) (hb : Below a.heap.size a w) : HeldR a g S T o w.drew := ⟨h, hb.drew⟩
theorem heldR_set3 {a w : World} {g g' : Nat} {S T : ByteArray} {o : Bool} (h : HeldR a g S T o w) (hg : g < g') (ha : a.heap.size ≤ g') (x y z : Value) : HeldR a g S T o (((w.setCell ⟨g', 0, none⟩ x).setCell ⟨g', 1, none⟩ y).setCell ⟨g', 2, none⟩ z) :=
  ⟨RgAt.other3 (w := w) h.1 (by omega) x y z, below_set3 h.2 ha x y z⟩
/-- The same for some ranges, each in its block. -/
def HeldL (a : World) : List (Nat × ByteArray × ByteArray × Bool) → World → Prop
  | [], w => Below a.heap.size a w
  | (g, S, T, o) :: l, w => RgAt w g S T o ∧ HeldL a l w
theorem heldL_size {a w : World} : ∀ {l : List (Nat × ByteArray × ByteArray × Bool)}, HeldL a l w → Below a.heap.size a w
  | [], h => h
  | _ :: _, h => heldL_size h.2
theorem heldL_call {a w w' : World} (hb : Below w.heap.size w w') : ∀ {l : List (Nat × ByteArray × ByteArray × Bool)}, HeldL a l w → HeldL a l w'
  | [], h => Below.trans h (hb.mono (Below.size h))
  | _ :: _, h => ⟨h.1.below hb, heldL_call hb h.2⟩
theorem heldL_drew {a w : World} : ∀ {l : List (Nat × ByteArray × ByteArray × Bool)}, HeldL a l w → HeldL a l w.drew
  | [], h => Below.drew h
  | _ :: _, h => ⟨h.1.drew, heldL_drew h.2⟩
theorem heldL_alloc {a w : World} (x : Obj) : ∀ {l : List (Nat × ByteArray × ByteArray × Bool)}, HeldL a l w → HeldL a l (w.alloc x)
  | [], h => Below.alloc h (Below.size h) x
  | _ :: _, h => ⟨h.1.keep x, heldL_alloc x h.2⟩
/-- Two that came in, as a call boxes them. -/
theorem heldL_two (w : World) (S T U V : ByteArray) (o p : Bool) (t : TypeId) : HeldL w [(w.heap.size, S, T, o), (w.heap.size + 1, U, V, p)] ((w.alloc (.cells #[.string S, .string T, .bool o] t)).alloc (.cells #[.string U, .string V, .bool p] t)) :=
  ⟨(rgAt_new w S T o t).keep _, rgAt_new1 w _ U V p t, ((Below.refl w.heap.size w).alloc (Nat.le_refl _) _).alloc (by simp) _⟩
theorem heldL_one (w : World) (S T : ByteArray) (o : Bool) (t : TypeId) : HeldL w [(w.heap.size, S, T, o)] (w.alloc (.cells #[.string S, .string T, .bool o] t)) :=
  ⟨rgAt_new w S T o t, (Below.refl w.heap.size w).alloc (Nat.le_refl _) _⟩

/-- Two ranges held against each other. -/
theorem eq_rng (a b c d : ByteArray) (o p : Bool) (w : World) : (Op.equalIn 10000 67 (.agg #[.string a, .string b, .bool o]) (.agg #[.string c, .string d, .bool p])).run Try.prog w = .ok (a.toList == c.toList && b.toList == d.toList && o == p) w := by
  have u3 := Try.underlying9
  have a3 := Try.isAgg9
  have z3 := Try.sizeOf9
  have u4 := Try.underlying4
  have a4 := Try.isAgg4
  have z4 := Try.sizeOf4
  have hS : Try.prog.underlying 67 = some (.struct (Try.prog.fieldsOf 67)) := by kernel_rfl
  have hp : Try.prog.stoodInHeld 67 = false := by kernel_rfl
  rw [show (10000 : Nat) = 9999 + 1 from rfl, run_equalIn_agg w 9999 67 _ _ hS hp]
  simp only [Program.fieldsOf, Try.underlying67]
  go_simp
  by_cases h1 : a.toList = c.toList <;> by_cases h2 : b.toList = d.toList <;> cases o <;> cases p <;> simp [h1, h2]
theorem eq_rng_is (a b c d : ByteArray) (o p q : Bool) (hq : (a.toList == c.toList && b.toList == d.toList && o == p) = q) (w : World) : (Op.equalIn 10000 67 (.agg #[.string a, .string b, .bool o]) (.agg #[.string c, .string d, .bool p])).run Try.prog w = .ok q w := by
  subst hq; exact eq_rng a b c d o p w
end Go.Proofs.Ytfklochgciijkaa

/-
  Lists of ranges, and of texts, as values of the program.
-/
namespace Go.Proofs.Ytfklochgciijkaa
open Go.RowKit

/-- A range's cells. -/
def rngCells (r : Rng) : List Value := [.string (str r.lo), .string (str r.hi), .bool r.op]
noncomputable def kStr : Kind Try.prog (List UInt8) where
  ty := 107
  el := 9
  size := 1
  bytes := 16
  zero := .string ⟨#[]⟩
  cells := fun s => [.string (str s)]
  len := fun _ => rfl
  one := fun s u hu => by simp at hu; subst hu; rfl
  pos := by decide
  under := Try.underlying107
  info := by kernel_rfl
  zsize := rfl
theorem texts_at {w : World} {B : Nat} {A : Option Addr} {c : Nat} {l : List (List UInt8)} (h : kStr.Rd w B A c l) (hp : 0 < l.length) :
    ∃ b o, A = some ⟨b, o, none⟩ ∧ b < B ∧ ∀ k s, l[k]? = some s → w.cell? ⟨b, o + k, none⟩ = some (.string (str s)) := by
  obtain ⟨b, o, h1, h2, h3⟩ := h.at_ hp
  refine ⟨b, o, h1, h2, fun k s hs => ?_⟩
  have := h3 k s hs 0 _ rfl
  rwa [show o + (k * kStr.size + 0) = o + k by show o + (k * 1 + 0) = o + k; omega] at this
theorem get_some {α : Type} {l : List α} {k : Nat} (h : k < l.length) : ∃ x, l[k]? = some x ∧ l.drop k = x :: l.drop (k + 1) ∧ x ∈ l := ⟨l[k], List.getElem?_eq_getElem h, List.drop_eq_getElem_cons h, List.getElem_mem h⟩
end Go.Proofs.Ytfklochgciijkaa

/-
  The shelf's contracts at this program, in plain words (made by wip/tools/shelf.py).
-/
namespace Go.Proofs
open Go.Shelf
def Try.lays106_ren : Go.Shelf.Ren := ⟨fun | 106 => 77 | 213 => 85 | 265 => 86 | n => n, fun | 9 => 9 | 3 => 3 | n => n, fun | n => n⟩
theorem Try.lays106 : Go.Proofs.Lays.n106 Try.prog Try.lays106_ren := {
  mixed := by kernel_rfl
  f106 := Try.func77.trans (congrArg some (by kernel_rfl))
  f213 := Try.func85.trans (congrArg some (by kernel_rfl))
  f265 := Try.func86.trans (congrArg some (by kernel_rfl))
  t3 := Try.underlying3
  a3 := Try.isAgg3
  z3 := Try.sizeOf3
  v3 := Try.zeroValue3
  t9 := Try.underlying9
  a9 := Try.isAgg9
  z9 := Try.sizeOf9
  v9 := Try.zeroValue9 }
open Go.RowKit in
theorem Try.strings_Compare (a b : ByteArray) (w : World) :
    Calls Try.prog 77 #[.string a, .string b] w fun e w' => e = .returned (.int .i64 (Lib.compareBytes a.data.toList b.data.toList)) ∧ w' = w := Any.strings_Compare Try.lays106 a b w
end Go.Proofs

/-
  Layer 6 (key): which are keys, and edges; which of two stands ahead; what stands behind.
-/
namespace Go.Proofs.Ytfklochgciijkaa
open Go.RowKit

theorem ret_txt {a b : ByteArray} (h : a = b) : Ending.returned (.string a) = .returned (.string b) := by rw [h]
theorem txt_app (a b : List UInt8) : str a ++ str b = str (a ++ b) := by
  apply ByteArray.ext
  rw [ByteArray.data_append]
  simp [str]
theorem txt_at (l : List UInt8) (k : Nat) (h : k < (str l).size) : (str l)[k] = l.getD k 0 := str_get l k (by rwa [str_size] at h)

theorem key_cmp (a b : List UInt8) (w : World) : Calls Try.prog 65 #[.string (str a), .string (str b)] w fun e w' => e = .returned (.int .i64 (Lib.compareBytes a b)) ∧ w = w' := by
  have K := Try.strings_Compare (str a) (str b) w
  rw [str_data, str_data] at K
  have K := Lib.hid K
  go_enter Try.func65, Try.ntmps65
  go_wp2_with ((with_reducible refine K.out.mono ?_); rintro e w' ⟨rfl, rfl⟩)
  go_ret
  exact ⟨rfl, rfl⟩

/-- Is a text a key? -/
def rightB (k : List UInt8) : Bool := decide (1 ≤ k.length) && decide (k.length ≤ 16)
/-- Is a text an edge? -/
def edgeB (k : List UInt8) : Bool := decide (k.length ≤ 17)
theorem key_edge (k : List UInt8) (w : World) : Calls Try.prog 76 #[.string (str k)] w fun e w' => e = .returned (.bool (edgeB k)) ∧ w = w' := by
  have hz : (str k).size = k.length := str_size k
  generalize str k = S at hz ⊢
  go_enter Try.func76, Try.ntmps76
  go_wp2_with fail
  all_goals
    go_ret
    exact ⟨ret_bool (by unfold edgeB; rw [← hz]; simp; try omega), rfl⟩

end Go.Proofs.Ytfklochgciijkaa
