/-
  Several texts in one: Law06A, Law06B, SpanA, SpanB, RgsA, ItmF, ItmG, FcdFlt, VarA, VarB, VarC, VarD.
-/
import Derived.Deep.RegionHeld3
import Derived.Lib.SliceRun
import Derived.Outline
import Derived.Deep.QuietTactic
import Derived.BigQuiet
import Derived.Test.YtfpgklpnpplnnaaMg4
namespace Go.Proofs.Ytfpgklpnpplnnaa
open Go.RowKit

end Go.Proofs.Ytfpgklpnpplnnaa

namespace Go.Proofs.Ytfpgklpnpplnnaa
open Go.RowKit

end Go.Proofs.Ytfpgklpnpplnnaa

namespace Go.Proofs.Ytfpgklpnpplnnaa
open Go.RowKit

end Go.Proofs.Ytfpgklpnpplnnaa

namespace Go.Proofs.Ytfpgklpnpplnnaa
open Go.RowKit

end Go.Proofs.Ytfpgklpnpplnnaa

namespace Go.Proofs.Ytfpgklpnpplnnaa
open Go.RowKit

end Go.Proofs.Ytfpgklpnpplnnaa

namespace Go.Proofs.Ytfpgklpnpplnnaa
open Go.RowKit

theorem it_alloc {n : Nat} {w : World} (h : n ≤ w.heap.size) (o : Obj) : n ≤ (w.alloc o).heap.size := by simp; omega
theorem itm_row (w : World) (x : Itm) (K : ByteArray) (r c k p : Int) (d : Bool) (B : ByteArray) (hx : IsI x K r c k p d B) : RowAt (w.alloc (itO K r c k p d B)) (w.heap.size + 1) (some ⟨w.heap.size, 0, none⟩) (kItm.row [x]) := by
  obtain ⟨rfl, rfl, rfl, rfl, rfl, rfl, rfl⟩ := hx
  exact (Kind.rd_new (k := kItm) (l := [x]) (n := 1) (by rw [kItm.row_one]; rfl) rfl (by simp)).row
end Go.Proofs.Ytfpgklpnpplnnaa

namespace Go.Proofs.Ytfpgklpnpplnnaa
open Go.RowKit

end Go.Proofs.Ytfpgklpnpplnnaa

namespace Go.Proofs.Ytfpgklpnpplnnaa

end Go.Proofs.Ytfpgklpnpplnnaa

namespace Go.Proofs.Ytfpgklpnpplnnaa
open Go.RowKit

set_option maxHeartbeats 400000 in
theorem clone_bytes (A : Option Addr) (c B : Nat) (l : List UInt8) (w : World) (h : RdB w B A c l) (hB : B ≤ w.heap.size) (hl : l.length ≤ 140737488355328) :
    Calls Try.prog 52 #[.slice A l.length c] w (RetB w.heap.size w l) := by
  have K1 := fun w : World => Lib.run_eql_slice_nil (P := Try.prog) w 29 5 A l.length c 0 0 Try.underlying29
  cases A with
  | none =>
    have hnil : l = [] := by
      rcases h.row with h | ⟨b, o, h, _⟩
      · simpa [bytes] using h
      · cases h
    have fin : RetB w.heap.size w l (.returned (.slice none 0 0)) w := ⟨_, rfl, by subst hnil; exact World.ownsRow_nil w _ _ _, Below.refl _ _⟩
    have FIN := Lib.hid fin
    clear fin hnil
    go_enter Try.func52, Try.ntmps52
    go_wp2
    go_ret
    exact FIN.out
  | some a =>
    have hz : OwnB (w.alloc (.cells #[] 5)) w.heap.size (.slice (some ⟨w.heap.size, 0, none⟩) 0 0) [] := own_none w 5 1
    have hle : w.heap.size ≤ (w.alloc (.cells #[] 5)).heap.size := by simp
    have hrow := h.row.keep (w' := w.alloc (.cells #[] 5)) (fun p hp => World.cell?_alloc_lt w _ p (by omega))
    have hm : ([] : List UInt8).length + l.length ≤ 140737488355328 := by simpa using hl
    have hbz : Below w.heap.size w (w.alloc (.cells #[] 5)) := (Below.refl _ _).alloc (Nat.le_refl _) _
    clear hl
    go_enter Try.func52, Try.ntmps52
    go_wp2_with (at_builtin; refine wpList_app_row rfl (.tmp 5) (.tmp 6) rfl w.heap.size (.slice (some ⟨w.heap.size, 0, none⟩) 0 0) [] rfl hz B (some a) c l.length l rfl rfl hrow hm hle ?_; intro v2 w2 hown2 _ hb2 _)
    go_ret
    exact ⟨v2, rfl, hown2, hbz.trans hb2⟩

set_option maxHeartbeats 400000 in
set_option maxRecDepth 100000 in
theorem put_own (base : Nat) (v : Value) (xs : List UInt8) (n : Nat) (w : World) (hn : n ≤ 9223372036854775807) (ho : OwnB w base v xs) (hb : base ≤ w.heap.size) (hl : xs.length + (putV n).length ≤ 140737488355328) :
    Calls Try.prog 53 #[v, .int .i64 (n : Int)] w (RetB base w (xs ++ putV n)) := by
  go_enter Try.func53, Try.ntmps53
  go_wp2
  go_loopw [0, 1] (fun a b wr => ∃ (ys : List UInt8) (m : Nat), m ≤ n ∧ OwnB wr base a ys ∧ ys ++ putV m = xs ++ putV n ∧ b = .int .i64 (m : Int) ∧ Below base w wr) (fun _ b _ => (intOf b).toNat)
  case atStart => exact ⟨xs, n, Nat.le_refl _, ho, rfl, rfl, Below.refl _ _⟩
  case round =>
    obtain ⟨ys, m, hmn, hown, heq, rfl, hbw⟩ := hrel
    have hbs : base ≤ wr.heap.size := Nat.le_trans hb hbw.size
    have hlen : ys.length + (putV m).length ≤ 140737488355328 := by rw [← List.length_append, heq, List.length_append]; exact hl
    have hm0 := putV_pos m
    have hle (o : Obj) : base ≤ (wr.alloc o).heap.size := by simp; omega
    by_cases hlt : m < 128
    · have hrow := byte_row wr (m : Int) (UInt8.ofNat m) (by simp; omega)
      have hl1 : ys.length + [UInt8.ofNat m].length ≤ 140737488355328 := by rw [putV_small hlt] at hlen; exact hlen
      rw [putV_small hlt] at heq
      have HEQ := Lib.hid heq
      have HA := fun o => Lib.hid (hown.alloc o)
      have HB := fun o => Lib.hid (hbw.alloc hbs o)
      clear heq hn hl ho hlen
      go_wp2_with (at_builtin; refine wpList_app_row rfl (.tmp 16) (.tmp 19) rfl base _ ys rfl (HA _).out _ _ 1 1 [UInt8.ofNat m] rfl rfl hrow hl1 (hle _) ?_; intro v2 w2 hown2 _ hb2 _)
      go_ret
      exact ⟨v2, rfl, by rw [← HEQ.out]; exact hown2, (HB _).out.trans hb2⟩
    · have hrow := byte_row wr ((m : Int) % 128 + 128) (UInt8.ofNat (m % 128 + 128)) (by simp; omega)
      have hl1 : ys.length + [UInt8.ofNat (m % 128 + 128)].length ≤ 140737488355328 := by simp; omega
      rw [putV_big hlt] at heq
      have HEQ := Lib.hid heq
      have HA := fun o => Lib.hid (hown.alloc o)
      have HB := fun o => Lib.hid (hbw.alloc hbs o)
      clear heq hl ho hlen
      go_wp2_with (at_builtin; refine wpList_app_row rfl (.tmp 7) (.tmp 12) rfl base _ ys rfl (HA _).out _ _ 1 1 [UInt8.ofNat (m % 128 + 128)] rfl rfl hrow hl1 (hle _) ?_; intro v2 w2 hown2 _ hb2 _)
      go_roundw
      case rel => exact ⟨ys ++ [UInt8.ofNat (m % 128 + 128)], m / 128, by omega, hown2, by rw [← HEQ.out]; simp, by go_num, (HB _).out.trans hb2⟩
      case measure => simp [intOf]; omega

def okN (n : Int) : Bool := decide (0 ≤ n ∧ n ≤ 281474976710656)
def okL (l : List Int) : Bool := l.all okN
theorem okL_bad {l : List Int} {k : Nat} (hk : k < l.length) (h : okN (l.getD k 0) = false) : okL l = false := by
  rw [okL, List.all_eq_false]
  refine ⟨l[k], List.getElem_mem hk, ?_⟩
  simpa [List.getD, List.getElem?_eq_getElem hk] using h
theorem okL_good {l : List Int} (h : ∀ j, j < l.length → okN (l.getD j 0) = true) : okL l = true := by
  rw [okL, List.all_eq_true]
  intro x hx
  obtain ⟨j, hj, rfl⟩ := List.getElem_of_mem hx
  simpa [List.getD, List.getElem?_eq_getElem hj] using h j hj
theorem okL_at {l : List Int} (h : okL l = true) {k : Nat} (hk : k < l.length) : 0 ≤ l.getD k 0 ∧ l.getD k 0 ≤ 281474976710656 := by
  rw [okL, List.all_eq_true] at h
  have := h l[k] (List.getElem_mem hk)
  simpa [okN, List.getD, List.getElem?_eq_getElem hk] using this
theorem take_snoc_int (l : List Int) (k : Nat) (h : k < l.length) : l.take (k + 1) = l.take k ++ [l.getD k 0] := by
  rw [List.take_succ_eq_append_getElem h]; simp [List.getD, List.getElem?_eq_getElem h]
theorem take_snoc_list (l : List (List UInt8)) (k : Nat) (h : k < l.length) : l.take (k + 1) = l.take k ++ [l.getD k []] := by
  rw [List.take_succ_eq_append_getElem h]; simp [List.getD, List.getElem?_eq_getElem h]
def RetB2 (base : Nat) (w : World) (l : List UInt8) (e : Ending) (w' : World) : Prop := ∃ v, e = .returned (.tuple #[v, .int .i64 0]) ∧ OwnB w' base v l ∧ Below base w w'
def PutPost (w : World) (b : List UInt8) (l : List Int) (e : Ending) (w' : World) : Prop :=
  (okL l = true ∧ RetB2 w.heap.size w (b ++ putsV l) e w') ∨ (okL l = false ∧ e = .returned (.tuple #[.slice none 0 0, .int .i64 2]) ∧ w = w')

set_option maxHeartbeats 1000000 in
set_option maxRecDepth 100000 in
theorem varint_put (A : Option Addr) (c B : Nat) (b : List UInt8) (A2 : Option Addr) (n2 c2 : Nat) (l : List Int) (w : World) (hn2 : n2 = l.length) (hb : RdB w B A c b) (hr : RowAt w B A2 (ints l)) (hall : AllI64 l) (hB : B ≤ w.heap.size)
    (hlen : b.length + 9 * l.length ≤ 140737488355328) :
    Calls Try.prog 47 #[.slice A b.length c, .slice A2 n2 c2] w (PutPost w b l) := by
  subst hn2
  have hb9 := putsV_len
  go_enter Try.func47, Try.ntmps47
  go_wp2
  go_loop [13] (fun i => ∃ k : Nat, k ≤ l.length ∧ (∀ j, j < k → okN (l.getD j 0) = true) ∧ i = .int .i64 k) (fun i => l.length - (intOf i).toNat)
  case atStart => exact ⟨0, by omega, fun j hj => by omega, rfl⟩
  case round =>
    obtain ⟨k, hk, hok, rfl⟩ := hrel
    have HOK := Lib.hid hok
    clear hok
    by_cases hlt : k < l.length
    · obtain ⟨b0, o0, rfl, _, hc⟩ := hr.ints_at (by omega)
      have hcell := hc k hlt
      have hbd := hall.at_ hlt
      have HBAD := fun h => Lib.hid (okL_bad hlt h)
      have HK : Hid (okN (l.getD k 0) = true → ∀ j, j < k + 1 → okN (l.getD j 0) = true) := fun h j hj => by
        rcases Nat.lt_or_ge j k with h' | h'
        · exact HOK.out j h'
        · obtain rfl : j = k := by omega
          exact h
      clear hc hall hb9
      obtain ⟨x, hx⟩ : ∃ x, l.getD k 0 = x := ⟨_, rfl⟩
      rw [hx] at hcell hbd HBAD HK
      clear hx
      by_cases h1 : x < 0
      · have fin := HBAD (by simp [okN]; omega)
        go_wp2
        go_ret2
        exact .inr ⟨fin.out, rfl, rfl⟩
      · by_cases h2 : 281474976710656 < x
        · have fin := HBAD (by simp [okN]; omega)
          go_wp2
          go_ret2
          exact .inr ⟨fin.out, rfl, rfl⟩
        · have nx := Lib.hid (HK.out (by simp [okN]; omega))
          clear HBAD HK HOK
          go_wp2
          go_round
          case rel => exact ⟨k + 1, by omega, nx.out, by go_num⟩
          case measure => simp [intOf]; omega
    · obtain rfl : k = l.length := by omega
      have HG := Lib.hid (okL_good HOK.out)
      have hcl := clone_bytes A c B b w hb hB (by omega)
      clear HOK hlt hk
      go_wp2_with fail
      refine hcl.mono ?_; rintro e w1 ⟨v1, rfl, hown1, hb1⟩
      clear hcl
      go_wp2_with fail
      go_loopw [8, 28] (fun v i wr => ∃ k : Nat, k ≤ l.length ∧ i = .int .i64 k ∧ OwnB wr w.heap.size v (b ++ putsV (l.take k)) ∧ Below w.heap.size w wr) (fun _ i _ => l.length - (intOf i).toNat)
      case atStart => exact ⟨0, by omega, rfl, by simpa [putsV] using hown1, hb1⟩
      case round =>
        obtain ⟨k, hk, rfl, hown, hbw⟩ := hrel
        by_cases hlt : k < l.length
        · obtain ⟨b0, o0, rfl, hb0, hc⟩ := hr.ints_at (by omega)
          have hcell := hc k hlt
          rw [← hbw.cell (p := ⟨b0, o0 + k, none⟩) (by show b0 < w.heap.size; omega)] at hcell
          have hx0 := okL_at HG.out hlt
          obtain ⟨m, hm⟩ := Int.eq_ofNat_of_zero_le hx0.1
          have hts := take_snoc_int l k hlt
          have hpl : (b ++ putsV (l.take k)).length + (putV m).length ≤ 140737488355328 := by
            have h1 := hb9 (l.take (k + 1)) (fun n hn => by have := hall n (List.mem_of_mem_take hn); omega)
            rw [hts, putsV_snoc, hm, Int.toNat_natCast, List.length_append, List.length_append, List.length_singleton, List.length_take] at h1
            rw [List.length_append]
            omega
          have hput := put_own w.heap.size _ (b ++ putsV (l.take k)) m wr (by omega) hown hbw.size hpl
          have HN : Hid (b ++ putsV (l.take (k + 1)) = b ++ putsV (l.take k) ++ putV m) := by
            rw [hts, putsV_snoc, hm, Int.toNat_natCast, List.append_assoc]; exact rfl
          rw [hm] at hcell
          clear hc hall hb9 hm hts hown1 hpl hx0 hown
          go_wp2_with fail
          refine hput.mono ?_; rintro e w2 ⟨v2, rfl, hown2, hb2⟩
          clear hput
          go_wp2_with fail
          go_roundw
          case rel => exact ⟨k + 1, by omega, by go_num, by rw [HN.out]; exact hown2, hbw.trans hb2⟩
          case measure => simp [intOf]; omega
        · obtain rfl : k = l.length := by omega
          rw [List.take_length] at hown
          clear hall hb9 hown1
          go_wp2
          go_ret2
          exact .inl ⟨HG.out, _, rfl, hown, hbw⟩

def textsV (l : List (List UInt8)) : List UInt8 := l.flatMap fun s => putV s.length ++ s
theorem textsV_snoc (l : List (List UInt8)) (s : List UInt8) : textsV (l ++ [s]) = textsV l ++ (putV s.length ++ s) := by simp [textsV]
theorem textsV_append (a b : List (List UInt8)) : textsV (a ++ b) = textsV a ++ textsV b := by simp [textsV]
theorem textsV_take (l : List (List UInt8)) (k : Nat) : (textsV (l.take k)).length ≤ (textsV l).length := by
  have := congrArg (fun t => (textsV t).length) (List.take_append_drop k l)
  simp only [textsV_append, List.length_append] at this
  omega

set_option maxHeartbeats 1000000 in
set_option maxRecDepth 100000 in
theorem varint_text (A : Option Addr) (c B : Nat) (b : List UInt8) (A2 : Option Addr) (n2 c2 : Nat) (l : List (List UInt8)) (w : World) (hn2 : n2 = l.length) (hl2 : l.length ≤ 9223372036854775807) (hb : RdB w B A c b) (hr : RowAt w B A2 (strs l)) (hB : B ≤ w.heap.size)
    (hlen : b.length + (textsV l).length ≤ 140737488355328) :
    Calls Try.prog 40 #[.slice A b.length c, .slice A2 n2 c2] w (RetB w.heap.size w (b ++ textsV l)) := by
  subst hn2
  have hcl := clone_bytes A c B b w hb hB (by omega)
  have HLEN := Lib.hid hlen
  clear hlen
  go_enter Try.func40, Try.ntmps40
  go_wp2_with fail
  refine hcl.mono ?_; rintro e w1 ⟨v1, rfl, hown1, hb1⟩
  clear hcl
  go_wp2_with fail
  go_loopw [5, 12] (fun v i wr => ∃ k : Nat, k ≤ l.length ∧ i = .int .i64 k ∧ OwnB wr w.heap.size v (b ++ textsV (l.take k)) ∧ Below w.heap.size w wr) (fun _ i _ => l.length - (intOf i).toNat)
  case atStart => exact ⟨0, by omega, rfl, by simpa [textsV] using hown1, hb1⟩
  case round =>
    obtain ⟨k, hk, rfl, hown, hbw⟩ := hrel
    by_cases hlt : k < l.length
    · obtain ⟨b0, o0, rfl, hb0, hc⟩ := hr.strs_at (by omega)
      have hcell := hc k hlt
      rw [← hbw.cell (p := ⟨b0, o0 + k, none⟩) (by show b0 < w.heap.size; omega)] at hcell
      have hts := take_snoc_list l k hlt
      have hpl : (b ++ textsV (l.take k)).length + ((putV (l.getD k []).length).length + (l.getD k []).length) ≤ 140737488355328 := by
        have h1 := textsV_take l (k + 1)
        have h2 := HLEN.out
        rw [hts, textsV_snoc, List.length_append, List.length_append] at h1
        rw [List.length_append]
        omega
      have HN : Hid (b ++ textsV (l.take (k + 1)) = (b ++ textsV (l.take k) ++ putV (l.getD k []).length) ++ l.getD k []) := by
        rw [hts, textsV_snoc]; simp [Hid]
      obtain ⟨x, hx⟩ : ∃ x, l.getD k [] = x := ⟨_, rfl⟩
      rw [hx] at hcell hpl HN
      have hput := put_own w.heap.size _ (b ++ textsV (l.take k)) x.length wr (by omega) hown hbw.size (by omega)
      have hl3 : (b ++ textsV (l.take k) ++ putV x.length).length + (str x).data.toList.length ≤ 140737488355328 := by rw [str_data, List.length_append]; omega
      have hsz := str_size x
      rw [← hsz] at hput
      have HSZ := Lib.hid hsz
      have hx63 : (str x).size ≤ 9223372036854775807 := by rw [hsz]; omega
      clear hc hx hts hown1 hpl hown hsz
      go_wp2_with fail
      refine hput.mono ?_; rintro e w2 ⟨v2, rfl, hown2, hb2⟩
      clear hput
      rw [HSZ.out] at hown2
      have hs2 : w.heap.size ≤ w2.heap.size := Nat.le_trans hbw.size hb2.size
      go_wp2_with (at_builtin; refine wpList_app_str rfl (.tmp 19) (.tmp 20) rfl w.heap.size v2 _ rfl hown2 (str x) rfl hl3 hs2 ?_; intro v3 w3 hown3 _ hb3)
      go_roundw
      case rel => exact ⟨k + 1, by omega, by go_num, by rw [HN.out]; rw [str_data] at hown3; exact hown3, (hbw.trans hb2).trans hb3⟩
      case measure => simp [intOf]; omega
    · obtain rfl : k = l.length := by omega
      rw [List.take_length] at hown
      clear hown1
      go_wp2
      go_ret
      exact ⟨_, rfl, hown, hbw⟩
end Go.Proofs.Ytfpgklpnpplnnaa

namespace Go.Proofs.Ytfpgklpnpplnnaa
open Go.RowKit

theorem get_str (l : List UInt8) (k : Nat) (h : k < (str l).size) : (str l)[k] = l.getD k 0 := str_get l k (by rw [← str_size]; exact h)

theorem pow_seven (k : Nat) : (2 : Int) ^ (7 * k) = ((128 ^ k : Nat) : Int) := by
  have e : (128 : Nat) ^ k = 2 ^ (7 * k) := by rw [Nat.pow_mul]
  rw [e]; simp

set_option maxHeartbeats 1000000 in
set_option maxRecDepth 100000 in
theorem varint_cut (l : List UInt8) (w : World) (hl : l.length ≤ 9223372036854775807) :
    Calls Try.prog 60 #[.string (str l)] w fun e w' => e = .returned (.tuple #[.int .i64 (cutV l).1, .int .i64 (cutV l).2.1, .int .i64 (cutV l).2.2]) ∧ w = w' := by
  have hsz := str_size l
  have hl2 : (str l).size ≤ 9223372036854775807 := by omega
  obtain ⟨s, hs⟩ : ∃ s, str l = s := ⟨_, rfl⟩
  have HG := Lib.hid (get_str l)
  rw [hs] at hsz hl2 HG
  rw [hs]
  have HSZ := Lib.hid hsz
  clear hsz hs
  by_cases h8 : s.size < 8
  all_goals
    go_enter Try.func60, Try.ntmps60
    go_wp2
  all_goals
    go_loop [5, 10] (fun n i => ∃ k : Nat, k ≤ s.size ∧ k ≤ 8 ∧ Lead l k ∧ i = .int .i64 k ∧ n = .int .i64 (valV (l.take k) : Nat)) (fun _ i => 8 - (intOf i).toNat)
    case atStart => exact ⟨0, by omega, by omega, Lead.zero l, rfl, rfl⟩
    case round =>
      obtain ⟨k, hk, hk8, hlead, rfl, rfl⟩ := hrel
      by_cases hlt : k < s.size ∧ k < 8
      · obtain ⟨hlt1, hlt2⟩ := hlt
        have hltl : k < l.length := by rw [← HSZ.out]; exact hlt1
        have hg := HG.out k hlt1
        have hv := valV_take_lt l k hk8
        have hvn := valV_take l k hltl
        have hv2 := valV_take_lt l (k + 1) (by omega)
        have NX := fun h => Lib.hid (hlead.next hltl h)
        have FB := fun h1 h2 => Lib.hid (cut_bad hlead hltl hlt2 h1 h2)
        have FG := fun h1 h2 => Lib.hid (cut_good hlead hltl hlt2 h1 h2)
        obtain ⟨c, hc⟩ : ∃ c, l.getD k 0 = c := ⟨_, rfl⟩
        have hsh : ((c.toNat : Int) % 128) * 2 ^ (7 * k) = ((c.toNat % 128 * 128 ^ k : Nat) : Int) := by rw [pow_seven]; simp
        obtain ⟨m, hm⟩ : ∃ m : Nat, c.toNat % 128 * 128 ^ k = m := ⟨_, rfl⟩
        rw [hc] at hg hvn NX FB FG
        rw [hm] at hvn hsh
        obtain ⟨n', hn'⟩ : ∃ n' : Nat, valV (l.take (k + 1)) = n' := ⟨_, rfl⟩
        rw [hn'] at hv2 hvn FB FG
        have HN' := Lib.hid hn'
        clear hc hm hlead hn'
        generalize valV (l.take k) = n at *
        have e2 : (n : Int) + m = (n' : Int) := by omega
        clear hvn
        by_cases h1 : 128 ≤ c.toNat
        · have nx := NX h1
          go_wp2
          go_round
          case rel => exact ⟨k + 1, by omega, by omega, nx.out, by go_num, by rw [HN'.out]⟩
          case measure => simp [intOf]; omega
        · by_cases h2 : 0 < k
          · by_cases h3 : c.toNat = 0
            · have fin := FB (by omega) (.inl ⟨h2, h3⟩)
              obtain rfl : c = 0 := UInt8.toNat_inj.1 h3
              clear hsh FB FG NX h3
              go_wp2
              go_ret3
              exact ⟨by rw [fin.out]; rfl, rfl⟩
            · have h3' : ((c.toNat : Int) == 0) = false := by simpa using h3
              by_cases h4 : 281474976710656 < n'
              · have fin := FB (by omega) (.inr h4)
                clear FB FG NX
                go_wp2
                go_ret3
                exact ⟨by rw [fin.out]; rfl, rfl⟩
              · have fin := FG (by omega) (by omega)
                clear FB FG NX
                go_wp2
                go_ret3
                exact ⟨by rw [fin.out]; rfl, rfl⟩
          · by_cases h4 : 281474976710656 < n'
            · have fin := FB (by omega) (.inr h4)
              clear FB FG NX
              go_wp2
              go_ret3
              exact ⟨by rw [fin.out]; rfl, rfl⟩
            · have fin := FG (by omega) (by omega)
              clear FB FG NX
              go_wp2
              go_ret3
              exact ⟨by rw [fin.out]; rfl, rfl⟩
      · by_cases h9 : s.size < 8
        · first
            | exact absurd h9 h8
            | (have fin := Lib.hid (cut_short (l := l) (by rw [← HSZ.out]; rwa [show k = s.size by omega] at hlead) (by rw [← HSZ.out]; exact h9))
               go_wp2
               go_ret3
               exact ⟨by rw [fin.out]; rfl, rfl⟩)
        · first
            | exact absurd h8 h9
            | (have fin := Lib.hid (cut_eight (l := l) (by rwa [show k = 8 by omega] at hlead))
               go_wp2
               go_ret3
               exact ⟨by rw [fin.out]; rfl, rfl⟩)

end Go.Proofs.Ytfpgklpnpplnnaa

namespace Go.Proofs.Ytfpgklpnpplnnaa
open Go.RowKit

def RdAt (w : World) (b : Nat) (l : List UInt8) (e : Int) : Prop := w.heap[b]? = some (.cells #[.string (str l), .int .i64 e] 79 (0, 0))
theorem RdAt.lt {w : World} {b : Nat} {l : List UInt8} {e : Int} (h : RdAt w b l e) : b < w.heap.size := lt_of_block h
theorem RdAt.cells {w : World} {b : Nat} {l : List UInt8} {e : Int} (h : RdAt w b l e) :
    w.cell? ⟨b, 0, none⟩ = some (.string (str l)) ∧ w.cell? ⟨b, 1, none⟩ = some (.int .i64 e) ∧ w.frozen? ⟨b, 0, none⟩ = false ∧ w.frozen? ⟨b, 1, none⟩ = false := by
  have h : w.heap[b]? = _ := h
  refine ⟨?_, ?_, ?_, ?_⟩ <;> simp [World.cell?, World.frozen?, h]
theorem RdAt.kept {w w' : World} {b : Nat} {l : List UInt8} {e : Int} {row : Option Nat} (h : RdAt w b l e) (hg : w.grownBy w' row) (hne : some b ≠ row) : RdAt w' b l e := (hg.block b h.lt hne).trans h
theorem RdAt.below {w w' : World} {b B : Nat} {l : List UInt8} {e : Int} (h : RdAt w b l e) (hb : Below B w w') (hB : b < B) : RdAt w' b l e := (hb.block b hB).trans h
theorem RdAt.setText {w : World} {b : Nat} {l : List UInt8} {e : Int} (h : RdAt w b l e) (l' : List UInt8) : RdAt (w.setCell ⟨b, 0, none⟩ (.string (str l'))) b l' e := heap_setCell_self h _
theorem RdAt.setErr {w : World} {b : Nat} {l : List UInt8} {e : Int} (h : RdAt w b l e) (e' : Int) : RdAt (w.setCell ⟨b, 1, none⟩ (.int .i64 e')) b l e' := heap_setCell_self h _

def RdPost (w : World) (b : Nat) (v : Value) (l : List UInt8) (e : Int) (x : Ending) (w' : World) : Prop := x = .returned v ∧ RdAt w' b l e ∧ w.grownBy w' (some b)
theorem RdPost.mk {w w' : World} {b : Nat} {v v' : Value} {l l' : List UInt8} {e e' : Int} (h : RdAt w' b l' e') (hg : w.grownBy w' (some b)) (hv : v' = v) (hl : l' = l) (he : e' = e) : RdPost w b v l e (.returned v') w' := by
  subst hv hl he; exact ⟨rfl, h, hg⟩

set_option maxHeartbeats 400000 in
theorem varint_new (A : Option Addr) (c B : Nat) (l : List UInt8) (w : World) (h : RdB w B A c l) :
    Calls Try.prog 24 #[.slice A l.length c] w fun e w' => e = .returned (.pointer (some ⟨w.heap.size, 0, none⟩)) ∧ RdAt w' w.heap.size l 0 ∧ Below w.heap.size w w' := by
  have K1 := conv_str (P := Try.prog) c 29 5 9 Try.underlying29 Try.underlying5 Try.underlying9 h.row
  go_enter Try.func24, Try.ntmps24
  go_wp2
  go_ret
  exact ⟨rfl, heap_new _ _ _ rfl, (Below.refl _ _).alloc (Nat.le_refl _) _⟩

set_option maxHeartbeats 400000 in
theorem given_some (a : Addr) (w : World) :
    Calls Try.prog 54 #[.pointer (some a)] w fun e w' => e = .returned (.pointer (some a)) ∧ w = w' := by
  go_enter Try.func54, Try.ntmps54
  go_wp2
  go_ret
  exact ⟨rfl, rfl⟩
set_option maxHeartbeats 400000 in
theorem numbers_fail (b : Nat) (l : List UInt8) (e x e2 : Int) (w : World) (h : RdAt w b l e) (h2 : e2 = if e = 0 then x else e) :
    Calls Try.prog 59 #[.pointer (some ⟨b, 0, none⟩), .int .i64 x] w (RdPost w b (.tuple #[]) l e2) := by
  obtain ⟨c0, c1, z0, z1⟩ := h.cells
  have H := Lib.hid h
  clear h
  by_cases he : e = 0
  · subst he
    rw [if_pos rfl] at h2
    subst h2
    go_enter Try.func59, Try.ntmps59
    go_wp2
    go_end0
    exact ⟨rfl, H.out.setErr _, grownBy_set _ _ _ _⟩
  · rw [if_neg he] at h2
    subst h2
    go_enter Try.func59, Try.ntmps59
    go_wp2
    go_end0
    exact ⟨rfl, H.out, World.grownBy.refl _ _⟩

set_option maxHeartbeats 400000 in
theorem numbers_undo (b : Nat) (l l' : List UInt8) (e x e2 : Int) (w : World) (h : RdAt w b l e) (h2 : e2 = if e = 0 then x else e) :
    Calls Try.prog 55 #[.pointer (some ⟨b, 0, none⟩), .string (str l'), .int .i64 x] w (RdPost w b (.tuple #[]) l' e2) := by
  obtain ⟨c0, c1, z0, z1⟩ := h.cells
  have hf := numbers_fail b l' e x e2 _ (h.setText l') h2
  clear h h2
  go_enter Try.func55, Try.ntmps55
  go_wp2_with fail
  refine hf.mono ?_; rintro y w1 ⟨rfl, hr, hg⟩
  clear hf
  go_wp2
  go_end0
  exact ⟨rfl, hr, (grownBy_set _ _ _ _).trans hg⟩

set_option maxHeartbeats 400000 in
theorem numbers_number (b : Nat) (l : List UInt8) (e : Int) (w : World) (h : RdAt w b l e) (hl : l.length ≤ 9223372036854775807) :
    Calls Try.prog 56 #[.pointer (some ⟨b, 0, none⟩)] w (RdPost w b (.int .i64 (numR l e).1) (numR l e).2.1 (numR l e).2.2) := by
  obtain ⟨c0, c1, z0, z1⟩ := h.cells
  by_cases he : e = 0
  · subst he
    have hcut := varint_cut l w hl
    have hle := cutV_le l
    have hnum : numR l 0 = ((cutV l).1, l.drop (cutV l).2.1, ((cutV l).2.2 : Int)) := by
      unfold numR
      by_cases hx : (cutV l).2.2 = 0
      · rw [if_pos rfl, if_pos hx, hx]; rfl
      · have := cutV_err hx
        rw [if_pos rfl, if_neg hx, this.1, this.2]; simp
    obtain ⟨n, hn⟩ : ∃ n, (cutV l).1 = n := ⟨_, rfl⟩
    obtain ⟨k, hk⟩ : ∃ k, (cutV l).2.1 = k := ⟨_, rfl⟩
    obtain ⟨x, hx⟩ : ∃ x, (cutV l).2.2 = x := ⟨_, rfl⟩
    rw [hn, hk, hx] at hcut hnum
    rw [hk] at hle
    rw [hnum]
    have hsz := str_size l
    have hdrop := str_drop l k
    rw [← hsz] at hle hdrop
    have hf := numbers_fail b l 0 x x w h (by rw [if_pos rfl])
    have HD := Lib.hid hdrop
    have hs63 : (str l).size ≤ 9223372036854775807 := by omega
    clear h hn hk hx hnum hdrop hsz
    go_enter Try.func56, Try.ntmps56
    go_wp2_with fail
    refine hcut.mono ?_; rintro y w1 ⟨rfl, rfl⟩
    clear hcut
    go_wp2_with fail
    refine hf.mono ?_; rintro y w1 ⟨rfl, hr, hg⟩
    clear hf c0 c1 z0 z1
    obtain ⟨c0, c1, z0, z1⟩ := hr.cells
    have H := Lib.hid hr
    clear hr
    go_wp2
    go_ret
    exact ⟨rfl, by rw [HD.out]; exact H.out.setText _, hg.trans (grownBy_set _ _ _ _)⟩
  · rw [numR_err he]
    have H := Lib.hid h
    clear h
    go_enter Try.func56, Try.ntmps56
    go_wp2
    go_ret
    exact ⟨rfl, H.out, World.grownBy.refl _ _⟩
end Go.Proofs.Ytfpgklpnpplnnaa

namespace Go.Proofs.Ytfpgklpnpplnnaa
open Go.RowKit

def GivenAt (pv : Value) (w : World) (b : Nat) (l : List UInt8) (e : Int) : Prop := Calls Try.prog 54 #[pv] w (RdPost w b (.pointer (some ⟨b, 0, none⟩)) l e)
theorem givenAt_some {w : World} {b : Nat} {l : List UInt8} {e : Int} (h : RdAt w b l e) : GivenAt (.pointer (some ⟨b, 0, none⟩)) w b l e :=
  (given_some _ w).mono fun _ _ ⟨hy, hw⟩ => by subst hw; exact ⟨hy, h, World.grownBy.refl _ _⟩
set_option maxHeartbeats 400000 in
theorem rd_err {pv : Value} {w : World} {b : Nat} {l : List UInt8} {e : Int} (hv : GivenAt pv w b l e) :
    Calls Try.prog 49 #[pv] w (RdPost w b (.int .i64 e) l e) := by
  go_enter Try.func49, Try.ntmps49
  go_wp2_with fail
  refine Calls.mono hv ?_; rintro y w1 ⟨rfl, hr, hg⟩
  clear hv
  obtain ⟨c0, c1, z0, z1⟩ := hr.cells
  have H := Lib.hid hr
  clear hr
  go_wp2
  go_ret
  exact ⟨rfl, H.out, hg⟩

set_option maxHeartbeats 400000 in
theorem rd_end {pv : Value} {w : World} {b : Nat} {l : List UInt8} {e : Int} (hv : GivenAt pv w b l e) :
    Calls Try.prog 45 #[pv] w (RdPost w b (.int .i64 (endR l e)) l e) := by
  have hsz := str_toList l
  by_cases he : e = 0
  · by_cases hl : l = []
    · have fin : endR l e = 0 := by unfold endR; rw [if_neg (by simp [hl])]; exact he
      subst he
      rw [fin]
      have h1 : (str l).toList = [] := by rw [hsz]; exact hl
      have h2 : (str l).toList.isEmpty = true := by rw [h1]; rfl
      clear hl fin hsz
      go_enter Try.func45, Try.ntmps45
      go_wp2_with fail
      refine Calls.mono hv ?_; rintro y w1 ⟨rfl, hr, hg⟩
      clear hv
      obtain ⟨c0, c1, z0, z1⟩ := hr.cells
      have H := Lib.hid hr
      clear hr
      go_wp2
      go_ret
      exact ⟨rfl, H.out, hg⟩
    · have fin : endR l e = 14 := by unfold endR; rw [if_pos ⟨he, hl⟩]
      subst he
      rw [fin]
      have h1 : ((str l).toList == []) = false := by rw [hsz]; simp [hl]
      have h2 : (str l).toList.isEmpty = false := by rw [hsz]; simp [hl]
      clear hl fin hsz
      go_enter Try.func45, Try.ntmps45
      go_wp2_with fail
      refine Calls.mono hv ?_; rintro y w1 ⟨rfl, hr, hg⟩
      clear hv
      obtain ⟨c0, c1, z0, z1⟩ := hr.cells
      have H := Lib.hid hr
      clear hr
      go_wp2
      go_ret
      exact ⟨rfl, H.out, hg⟩
  · have fin : endR l e = e := by unfold endR; rw [if_neg (by simp [he])]
    rw [fin]
    have h1 : (e == 0) = false := by simpa using he
    clear fin hsz
    go_enter Try.func45, Try.ntmps45
    go_wp2_with fail
    refine Calls.mono hv ?_; rintro y w1 ⟨rfl, hr, hg⟩
    clear hv
    obtain ⟨c0, c1, z0, z1⟩ := hr.cells
    have H := Lib.hid hr
    clear hr
    go_wp2
    go_ret
    exact ⟨rfl, H.out, hg⟩

set_option maxHeartbeats 1000000 in
theorem rd_within {pv : Value} {w : World} {b : Nat} {l : List UInt8} {e : Int} (hv : GivenAt pv w b l e) (lo hi : Int) (hl : l.length ≤ 9223372036854775807) :
    Calls Try.prog 43 #[pv, .int .i64 lo, .int .i64 hi] w (RdPost w b (.int .i64 (withinR lo hi l e).1) (withinR lo hi l e).2.1 (withinR lo hi l e).2.2) := by
  obtain ⟨n, hn⟩ : ∃ n, (numR l e).1 = n := ⟨_, rfl⟩
  obtain ⟨l1, hl1⟩ : ∃ l1, (numR l e).2.1 = l1 := ⟨_, rfl⟩
  obtain ⟨e1, he1⟩ : ∃ e1, (numR l e).2.2 = e1 := ⟨_, rfl⟩
  have hnum := fun w1 hr => numbers_number b l e w1 hr hl
  rw [hn, hl1, he1] at hnum
  by_cases hin : (n : Int) < lo ∨ hi < (n : Int)
  · have fin : withinR lo hi l e = (0, l, if e1 = 0 then 11 else e1) := by unfold withinR; rw [hn, he1, if_pos hin]
    obtain ⟨e2, he2⟩ : ∃ e2, e2 = if e1 = 0 then 11 else e1 := ⟨_, rfl⟩
    rw [fin, ← he2]
    have HE2 := Lib.hid he2
    clear hn hl1 he1 fin he2
    by_cases h1 : (n : Int) < lo
    all_goals
      go_enter Try.func43, Try.ntmps43
      go_wp2_with fail
      refine Calls.mono hv ?_; rintro y w1 ⟨rfl, hr, hg⟩
      clear hv
      obtain ⟨c0, c1, z0, z1⟩ := hr.cells
      have H := Lib.hid hr
      clear hr
      go_wp2_with fail
      refine (hnum w1 H.out).mono ?_; rintro y w2 ⟨rfl, hr2, hg2⟩
      clear hnum c0 c1 z0 z1
      have HU := Lib.hid (numbers_undo b l1 l e1 11 e2 w2 hr2 HE2.out)
      clear hr2
      have h2 : ¬ (n : Int) < lo → hi < (n : Int) := fun h => by omega
      go_wp2_with fail
      refine HU.out.mono ?_; rintro y w3 ⟨rfl, hr3, hg3⟩
      go_wp2
      go_ret
      exact ⟨rfl, hr3, (hg.trans hg2).trans hg3⟩
  · have fin : withinR lo hi l e = (n, l1, e1) := by unfold withinR; rw [hn, if_neg hin, ← hn, ← hl1, ← he1]
    rw [fin]
    clear hn hl1 he1 fin
    have h1 : ¬ (n : Int) < lo := by omega
    have h2 : ¬ hi < (n : Int) := by omega
    clear hin
    go_enter Try.func43, Try.ntmps43
    go_wp2_with fail
    refine Calls.mono hv ?_; rintro y w1 ⟨rfl, hr, hg⟩
    clear hv
    obtain ⟨c0, c1, z0, z1⟩ := hr.cells
    have H := Lib.hid hr
    clear hr
    go_wp2_with fail
    refine (hnum w1 H.out).mono ?_; rintro y w2 ⟨rfl, hr2, hg2⟩
    clear hnum c0 c1 z0 z1
    have H2 := Lib.hid hr2
    clear hr2
    go_wp2
    go_ret
    exact ⟨rfl, H2.out, hg.trans hg2⟩

def boolR (l : List UInt8) (e : Int) : Bool := decide ((withinR 0 1 l e).1 = 1)
set_option maxHeartbeats 400000 in
theorem rd_bool {pv : Value} {w : World} {b : Nat} {l : List UInt8} {e : Int} (hv : GivenAt pv w b l e) (hl : l.length ≤ 9223372036854775807) :
    Calls Try.prog 44 #[pv] w (RdPost w b (.bool (boolR l e)) (withinR 0 1 l e).2.1 (withinR 0 1 l e).2.2) := by
  have hw := rd_within hv 0 1 hl
  have hb : boolR l e = decide ((withinR 0 1 l e).1 = 1) := rfl
  generalize boolR l e = r at *
  obtain ⟨n, hn⟩ : ∃ n, (withinR 0 1 l e).1 = n := ⟨_, rfl⟩
  rw [hn] at hw hb
  generalize (withinR 0 1 l e).2.1 = l1 at *
  generalize (withinR 0 1 l e).2.2 = e1 at *
  clear hn hv
  by_cases h1 : n = 1
  · subst h1
    obtain rfl : r = true := by rw [hb]; rfl
    clear hb
    go_enter Try.func44, Try.ntmps44
    go_wp2_with fail
    refine hw.mono ?_; rintro y w1 ⟨rfl, hr, hg⟩
    clear hw
    go_wp2
    go_ret
    exact ⟨rfl, hr, hg⟩
  · obtain rfl : r = false := by rw [hb]; simpa using h1
    clear hb
    have h2 : ((n : Int) == 1) = false := by simp; omega
    go_enter Try.func44, Try.ntmps44
    go_wp2_with fail
    refine hw.mono ?_; rintro y w1 ⟨rfl, hr, hg⟩
    clear hw
    go_wp2
    go_ret
    exact ⟨rfl, hr, hg⟩

set_option maxHeartbeats 1000000 in
theorem rd_text {pv : Value} {w : World} {b : Nat} {l : List UInt8} {e : Int} (hv : GivenAt pv w b l e) (most : Int) (hl : l.length ≤ 9223372036854775807) :
    Calls Try.prog 42 #[pv, .int .i64 most] w (RdPost w b (.string (str (textR most l e).1)) (textR most l e).2.1 (textR most l e).2.2) := by
  have hlen1 := withinR_len 0 most l e
  obtain ⟨n, hn⟩ : ∃ n, (withinR 0 most l e).1 = n := ⟨_, rfl⟩
  obtain ⟨l1, hl1⟩ : ∃ l1, (withinR 0 most l e).2.1 = l1 := ⟨_, rfl⟩
  obtain ⟨e1, he1⟩ : ∃ e1, (withinR 0 most l e).2.2 = e1 := ⟨_, rfl⟩
  have hwi := fun w1 (hr : RdAt w1 b l e) => rd_within (givenAt_some hr) 0 most hl
  have hdef : textR most l e = if l1.length < n then ([], l, if e1 = 0 then 10 else e1) else (l1.take n, l1.drop n, e1) := by unfold textR; rw [hn, hl1, he1]
  rw [hn, hl1, he1] at hwi
  rw [hl1] at hlen1
  rw [hdef]
  clear hdef hn hl1 he1
  have hsz := str_size l1
  have hs63 : (str l1).size ≤ 9223372036854775807 := by omega
  by_cases hin : l1.length < n
  · rw [if_pos hin]
    obtain ⟨e2, he2⟩ : ∃ e2, e2 = if e1 = 0 then 10 else e1 := ⟨_, rfl⟩
    rw [← he2]
    have HE2 := Lib.hid he2
    have h1 : (str l1).size < n := by omega
    clear he2 hin hsz
    go_enter Try.func42, Try.ntmps42
    go_wp2_with fail
    refine Calls.mono hv ?_; rintro y w1 ⟨rfl, hr, hg⟩
    clear hv
    obtain ⟨c0, c1, z0, z1⟩ := hr.cells
    have H := Lib.hid hr
    clear hr
    go_wp2_with fail
    refine (hwi w1 H.out).mono ?_; rintro y w2 ⟨rfl, hr2, hg2⟩
    clear hwi c0 c1 z0 z1
    obtain ⟨c0, c1, z0, z1⟩ := hr2.cells
    have HU := Lib.hid (numbers_undo b l1 l e1 10 e2 w2 hr2 HE2.out)
    clear hr2
    go_wp2_with fail
    refine HU.out.mono ?_; rintro y w3 ⟨rfl, hr3, hg3⟩
    clear c0 c1 z0 z1
    go_wp2
    go_ret
    exact ⟨rfl, hr3, (hg.trans hg2).trans hg3⟩
  · rw [if_neg hin]
    have h1 : n ≤ (str l1).size := by omega
    have HT := Lib.hid (str_take l1 n)
    have hd := str_drop l1 n
    rw [← hsz] at hd
    have HD := Lib.hid hd
    clear hd hin hsz
    go_enter Try.func42, Try.ntmps42
    go_wp2_with fail
    refine Calls.mono hv ?_; rintro y w1 ⟨rfl, hr, hg⟩
    clear hv
    obtain ⟨c0, c1, z0, z1⟩ := hr.cells
    have H := Lib.hid hr
    clear hr
    go_wp2_with fail
    refine (hwi w1 H.out).mono ?_; rintro y w2 ⟨rfl, hr2, hg2⟩
    clear hwi c0 c1 z0 z1
    obtain ⟨c0, c1, z0, z1⟩ := hr2.cells
    have H2 := Lib.hid hr2
    clear hr2
    go_wp2
    go_ret
    refine ⟨?_, ?_, (hg.trans hg2).trans (grownBy_set _ _ _ _)⟩
    · rw [← HT.out]; rfl
    · rw [HD.out]; exact H2.out.setText _
end Go.Proofs.Ytfpgklpnpplnnaa
