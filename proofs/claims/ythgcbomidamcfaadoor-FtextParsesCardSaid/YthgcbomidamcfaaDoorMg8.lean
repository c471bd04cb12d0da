/-
  Several texts in one: Full, FltH, FltI, FltJ, FtpE, WordE, WordF, FtpF, FtpG.
-/
import Derived.ArgAppend
import Derived.Deep.RegionLaw
import Derived.Test.YthgcbomidamcfaaDoorMg7
/-
  append of one thing to a slice that has no room: always a row of the call's own. Slices cut out of rows whose things take a cell each.
-/
namespace Go.Proofs.YthgcbomidamcfaaDoor
open Go.RowKit

theorem run_take3 {T E : TypeId} (ht : Tryd.prog.underlying T = some (.slice E)) (hs : ∀ w, (sizeOf E).run Tryd.prog w = .ok 1 w) (w : World) (A : Option Addr) (n c m : Nat) (h2 : m ≤ c) :
    (Instr.slice T (.slice A n c) none (some (.int .i64 (m : Int))) (some (.int .i64 (m : Int)))).run Tryd.prog w = .ok (.slice A m m) w := by
  have ht' : Tryd.prog.underlying T = some (.slice (Tryd.prog.elem T)) := by simp [Program.elem, ht]
  have he : Tryd.prog.elem T = E := by simp [Program.elem, ht]
  rw [run_slice_hm w T _ _ _ ht' .i64 .i64 _ _ (by omega) (by omega) (by omega), he, hs]
  cases A <;> simp [Result.andThen, sliced, Addr.add]
namespace Kind
variable {P : Program} {α : Type} {k : Kind P α}
theorem Rd.take {w : World} {B : Nat} {A : Option Addr} {c : Nat} {l : List α} (h : k.Rd w B A c l) {j : Nat} (hj : j ≤ l.length) : k.Rd w B A j (l.take j) :=
  ⟨by rw [k.row_take]; exact h.row.take _, by rw [List.length_take]; omega, by have := h.room; have := h.cap; omega⟩
theorem Rd.cut1 {w : World} {B : Nat} {A : Option Addr} {c : Nat} {l : List α} (h1 : k.size = 1) (h : k.Rd w B A c l) {j : Nat} (hj : j ≤ l.length) : k.Rd w B (cutA A j c) (c - j) (l.drop j) := by
  refine ⟨?_, by have := h.room; rw [List.length_drop]; omega, by have := h.cap; omega⟩
  have e : (k.row l).length = l.length := by rw [k.row_len, h1, Nat.mul_one]
  have h2 := RowAt.cut h.row (k := j) (c := c) (by rw [e]; exact hj) (by rw [e]; exact h.room)
  rw [k.row_drop, h1, Nat.mul_one]
  exact h2
/-- A row of no address has nothing in it. -/
theorem Rd.none {w : World} {B : Nat} {c : Nat} {l : List α} (h : k.Rd w B none c l) : l = [] := by
  rcases h.row with h0 | ⟨b, o, h1, _⟩
  · have e := congrArg List.length h0
    rw [k.row_len, List.length_nil] at e
    cases l with
    | nil => rfl
    | cons x l =>
      rw [List.length_cons] at e
      exact absurd e (Nat.ne_of_gt (Nat.mul_pos (Nat.succ_pos l.length) k.pos))
  · cases h1
end Kind
theorem wpList_app_full {P : Program} {α : Type} (k : Kind P α) {w : World} {ops : Array Oper} {rest : List Oper} {o : Oper} {a : Act} {Q : Exit → Act → World → Prop} (hgd : o.guard = none) (s x : Operand)
    (ho : o.op = .call { callee := .builtin .append, args := #[s, x], argTypes := #[k.ty, k.ty] })
    (B : Nat) (A : Option Addr) (n : Nat) (xs : List α) (hn : n = xs.length) (hs : a.eval s = .slice A n n) (hr : k.Rd w B A n xs)
    (B' g : Nat) (y : α) (hx : a.eval x = .slice (some ⟨g, 0, none⟩) 1 1) (hy : RowAt w B' (some ⟨g, 0, none⟩) (k.row [y])) (hlen : n ≤ 100000) (hby : k.bytes ≤ 1000)
    (h : ∀ v' w', k.Own w' w.heap.size v' (xs ++ [y]) → Below w.heap.size w w' → wpList P ops Q rest (a.put o.dst v') w') : wpList P ops Q (o :: rest) a w := by
  obtain ⟨i0, hi0, hz0, hz1, hz2⟩ := info_parts k.info
  refine wpList_append_grows w hgd s x k.ty ho k.el i0 _ k.size k.bytes k.under hi0 hz0 hz1 hz2 k.zsize k.pos A n n (k.row xs) hs ?_ ?_ ?_ ⟨g, 0, none⟩ 1 1 (k.row [y]) hx (k.row_len [y]) ?_ (k.row_cells [y]) (by omega) (by unfold maxLen; omega) ?_ ?_
  · intro e
    subst e
    have := hr.none
    subst this
    exact ⟨hn, hn⟩
  · rw [hn]; exact k.row_len xs
  · intro b hb j u hj
    rcases hr.row with h0 | ⟨b1, o1, rfl, h2, h3⟩
    · rw [h0] at hj; simp at hj
    · injection hb with hb
      subst hb
      rw [Addr.add_lit]
      exact h3 j u hj
  · intro j u hj
    rcases hy with h0 | ⟨b1, o1, h1, h2, h3⟩
    · rw [h0] at hj; simp at hj
    · injection h1 with h1
      injection h1 with h1 h1o
      subst h1 h1o
      rw [Addr.add_lit]
      exact h3 j u hj
  · have := Nat.mul_le_mul (show n + 1 ≤ 100001 by omega) hby
    omega
  · intro v' w' h1 h2
    rw [← k.row_append] at h1
    exact h v' w' (Kind.Own.of_row h1) ((Below.refl _ _).grown h2 (Nat.le_refl _) (fun g hg => by cases hg))
end Go.Proofs.YthgcbomidamcfaaDoor

/-
  Layer 9 (filter), the program: what a list of nodes comes to, where each comes to a truth.
-/
namespace Go.Proofs.YthgcbomidamcfaaDoor
open Go.RowKit

theorem bool_sizeOf (w : World) : (sizeOf 4).run Tryd.prog w = .ok 1 w := by kernel_rfl
end Go.Proofs.YthgcbomidamcfaaDoor

/-
  Layer 9 (filter), the program: is a truth among some; what a node comes to; has a filter a text.
-/
namespace Go.Proofs.YthgcbomidamcfaaDoor
open Go.RowKit

theorem ret_i64 {a b : Int} (h : a = b) : Ending.returned (.int .i64 a) = .returned (.int .i64 b) := by rw [h]
/-- Where a truth stands first. -/
def idxB (x : Bool) : List Bool → Int → Int
  | [], _ => -1
  | y :: l, k => match x == y with | true => k | false => idxB x l (k + 1)
theorem idxB_is (x : Bool) : ∀ (l : List Bool) (k : Int), 0 ≤ k → decide (0 ≤ idxB x l k) = l.contains x
  | [], k, _ => rfl
  | y :: l, k, hk => by
    rw [List.contains_cons, idxB]
    cases h : x == y with
    | true => rw [decide_eq_true hk]; rfl
    | false => rw [idxB_is x l (k + 1) (by omega)]; rfl
end Go.Proofs.YthgcbomidamcfaaDoor

/-
  Layer 9 (filter), the program: has a filter a text.
-/
namespace Go.Proofs.YthgcbomidamcfaaDoor
open Go.RowKit

theorem k_nright : NRightC 12 := fun A c n a hn hs v hv w hr => flt_right A c n a hn (fun r hr => by have := (hs.2 r hr).1; omega) v hv w hr
end Go.Proofs.YthgcbomidamcfaaDoor

/-
  Layer 11 (ftext), the program: Parse.
-/
namespace Go.Proofs.YthgcbomidamcfaaDoor
open Go.RowKit

theorem psAt_new (w : World) (s : List UInt8) (S : ByteArray) (hS : str s = S) : PsAt w.heap.size ⟨s, false, [], 32⟩ (.slice none 0 0) (w.alloc (.cells #[.string S, .bool false, .slice none 0 0, .int .i64 0] 42)) := by
  subst hS
  have h := heap_new w (.cells #[.string (str s), .bool false, .slice none 0 0, .int .i64 0] 42) _ rfl
  refine ⟨?_, ?_, ?_, ?_, fun j => ?_, Kind.Own.nil _ _⟩
  · rw [cell_of_row _ _ _ _ _ _ h]; rfl
  · rw [cell_of_row _ _ _ _ _ _ h]; rfl
  · rw [cell_of_row _ _ _ _ _ _ h]; rfl
  · rw [cell_of_row _ _ _ _ _ _ h]; rfl
  · unfold World.frozen?; rw [h]; simp
set_option maxHeartbeats 4000000 in
theorem k_fparse : ParseT 9 := fun s U hU hl => by
  have main : ∀ w, NmsAt w → Calls Tryd.prog 9 #[.string U] w fun e w' =>
      (∀ l, parseV s = some l → ∀ N, l.length = N → RetNE w N 0 l e w') ∧ (parseV s = none → RetNE w 0 11 [] e w') := by
    intro w hn
    have HP := Lib.hid (psAt_new w s U hU)
    have HN := Lib.hid (hn.below (below_new w (.cells #[.string U, .bool false, .slice none 0 0, .int .i64 0] 42)) hn.lt)
    have hf : FitP 32 ⟨s, false, [], 32⟩ := ⟨Nat.le_refl _, Nat.le_refl _, by show s.length ≤ 1000000; omega⟩
    have K1 := Lib.hid (ftx_next w.heap.size hn.lt 32 _ _ _ hf HN.out HP.out)
    have HST := Lib.hid (next_step 32 ⟨s, false, [], 32⟩ (Nat.le_refl _))
    obtain ⟨R, hR⟩ : ∃ R, nextP 32 ⟨s, false, [], 32⟩ = R := ⟨_, rfl⟩
    have PY := fun l (h : parseV s = some l) => parse_yes h
    have PN := fun (h : parseV s = none) => parse_no h
    rw [hR] at K1 HST PN
    simp only [hR] at PY
    obtain ⟨x, hx⟩ : ∃ x, (R.rest.isEmpty && !R.wrong) = x := ⟨_, rfl⟩
    have W1 := fun v9 w9 (h : PsAt w.heap.size R v9 w9) => Lib.hid (ftx_whole w.heap.size R v9 x hx w9 h)
    obtain ⟨y, hy⟩ : ∃ y, rightN R.nodes = y := ⟨_, rfl⟩
    obtain ⟨N, hN⟩ : ∃ N, R.nodes.length = N := ⟨_, rfl⟩
    have hsm : ∀ r ∈ R.nodes, r.lo.length ≤ 1000000 := fun r hr => by
      have := (HST.out.texts s.length (Nat.le_refl _) (fun _ h => by cases h) r hr).1
      omega
    have R1 := fun A c w9 (h : kNd.Rd w9 w9.heap.size A c R.nodes) => Lib.hid (flt_right A c N R.nodes hN.symm hsm y hy w9 h)
    have HNL := Lib.hid hN
    have fin : ∀ l, parseV s = some l → x = true ∧ y = true ∧ R.nodes = l := fun l h => by
      have h1 := PY l h
      have h2 := (parse_back h).1
      rw [h1] at hx hy ⊢
      exact ⟨hx.symm, hy.symm.trans h2, rfl⟩
    have fno : parseV s = none → x = true → y = false := fun h h1 => by
      rw [h1, Bool.and_eq_true, List.isEmpty_iff, Bool.not_eq_true'] at hx
      exact hy.symm.trans (PN h hx.1 hx.2)
    have HFIN := Lib.hid fin
    have HFNO := Lib.hid fno
    have hlw := hn.lt
    clear PY PN hx hy hN hsm fin fno hn hf hR HST
    cases x
    · clear R1
      go_enter Tryd.func9, Tryd.ntmps9
      go_wp2_with (first
        | ((with_reducible refine K1.out.mono ?_); rintro e w9 ⟨v9, rfl, hp, hq⟩; have HP9 := Lib.hid hp; have HT9 := Lib.hid hq; clear hp hq)
        | ((with_reducible refine (W1 _ _ HP9.out).out.mono ?_); rintro e w8 ⟨rfl, rfl⟩))
      go_ret2
      exact ⟨fun l h => absurd (HFIN.out l h).1 (by simp), fun _ => ⟨none, 0, rfl, Kind.Rd.nil _ _, (below_new w _).trans HT9.out.below⟩⟩
    · cases y
      · go_enter Tryd.func9, Tryd.ntmps9
        go_wp2_with (first
          | ((with_reducible refine K1.out.mono ?_); rintro e w9 ⟨v9, rfl, hp, hq⟩; have HP9 := Lib.hid hp; have HT9 := Lib.hid hq; obtain ⟨A9, c9, rfl, hrd⟩ := hp.own.read_n HNL.out.symm; have HR9 := Lib.hid hrd; have r2 := hp.r2; clear hp hq hrd)
          | ((with_reducible refine (W1 _ _ HP9.out).out.mono ?_); rintro e w8 ⟨rfl, rfl⟩)
          | ((with_reducible refine (R1 _ _ _ HR9.out).out.mono ?_); rintro e w8 ⟨rfl, hq⟩; have hl9 := HP9.out.lt; replace HT9 := Lib.hid (HT9.out.trans (Turn.of_below hq hl9)); replace HP9 := Lib.hid (HP9.out.below hq); replace HR9 := Lib.hid (HR9.out.call hq); replace r2 := HP9.out.r2; clear hq hl9))
        go_ret2
        exact ⟨fun l h => absurd (HFIN.out l h).2.1 (by simp), fun _ => ⟨none, 0, rfl, Kind.Rd.nil _ _, (below_new w _).trans HT9.out.below⟩⟩
      · go_enter Tryd.func9, Tryd.ntmps9
        go_wp2_with (first
          | ((with_reducible refine K1.out.mono ?_); rintro e w9 ⟨v9, rfl, hp, hq⟩; have HP9 := Lib.hid hp; have HT9 := Lib.hid hq; obtain ⟨A9, c9, rfl, hrd⟩ := hp.own.read_n HNL.out.symm; have HR9 := Lib.hid hrd; have r2 := hp.r2; clear hp hq hrd)
          | ((with_reducible refine (W1 _ _ HP9.out).out.mono ?_); rintro e w8 ⟨rfl, rfl⟩)
          | ((with_reducible refine (R1 _ _ _ HR9.out).out.mono ?_); rintro e w8 ⟨rfl, hq⟩; have hl9 := HP9.out.lt; replace HT9 := Lib.hid (HT9.out.trans (Turn.of_below hq hl9)); replace HP9 := Lib.hid (HP9.out.below hq); replace HR9 := Lib.hid (HR9.out.call hq); replace r2 := HP9.out.r2; clear hq hl9))
        go_ret2
        refine ⟨fun l h M hM => ?_, fun h => absurd (HFNO.out h (by first | trivial | rfl)) (by simp)⟩
        have e1 := (HFIN.out l h).2.2
        have e2 : M = N := by rw [← hM, ← e1]; exact HNL.out
        subst e2
        have h9 := HR9.out
        rw [e1] at h9
        exact ⟨A9, c9, rfl, h9, (below_new w _).trans HT9.out.below⟩
  exact ⟨fun l h N hN w hn => (main w hn).mono fun e w' h9 => h9.1 l h N hN, fun h w hn => (main w hn).mono fun e w' h9 => h9.2 h⟩
end Go.Proofs.YthgcbomidamcfaaDoor

/-
  Layer 5 (word): Split; may a word be in a line?
-/
namespace Go.Proofs.YthgcbomidamcfaaDoor
open Go.RowKit

/-- The library's own variable holds some number. -/
def MaxAt (w : World) : Prop := ∃ m, w.cell? ⟨1, 0, none⟩ = some (.int .i64 m)
theorem MaxAt.lt {w : World} (h : MaxAt w) : 1 < w.heap.size := by
  obtain ⟨m, h⟩ := h
  rcases Nat.lt_or_ge 1 w.heap.size with hlt | hge
  · exact hlt
  · exfalso
    simp [World.cell?, Array.getElem?_eq_none hge] at h
theorem MaxAt.below {w w' : World} {B : Nat} (h : MaxAt w) (hb : Below B w w') (hB : w.heap.size ≤ B) : MaxAt w' := by
  have hl := h.lt
  obtain ⟨m, h⟩ := h
  exact ⟨m, (hb.cell (p := ⟨1, 0, none⟩) (by show 1 < B; omega)).trans h⟩

/-- What Split hands back: no words; or those of the line. -/
def SplitV (s : List UInt8) (w : World) (e : Ending) (w' : World) : Prop :=
  (s = [] ∧ e = .returned (.tuple #[.slice none 0 0, .bool true]) ∧ w = w') ∨
  (s ≠ [] ∧ badB s = true ∧ e = .returned (.tuple #[.slice none 0 0, .bool false]) ∧ w = w') ∨
  (s ≠ [] ∧ badB s = false ∧ ∃ A, e = .returned (.tuple #[.slice A (cutsV s).length (cutsV s).length, .bool true]) ∧ RowAt w' w'.heap.size A (strs (cutsV s)) ∧ Below w.heap.size w w')
theorem strs_map (l : List ByteArray) : strs (l.map (·.data.toList)) = l.map Value.string := by
  simp [strs, List.map_map, Function.comp_def, str_of]
theorem may_stop {x : List UInt8} {k : Nat} (hk : k < x.length) (h : x.getD k 0 = 32 ∨ x.getD k 0 = 10) : mayB x = false := by
  have hmem : x.getD k 0 ∈ x := by
    simp only [List.getD, List.getElem?_eq_getElem hk, Option.getD_some]
    exact List.getElem_mem hk
  cases hb : mayB x
  · rfl
  · exfalso
    obtain ⟨_, h2, h3⟩ := (mayB_iff x).1 hb
    rcases h with h | h
    · exact h2 (h ▸ hmem)
    · exact h3 (h ▸ hmem)
theorem may_end {x : List UInt8} (h : ∀ j, j < x.length → x.getD j 0 ≠ 32 ∧ x.getD j 0 ≠ 10) : mayB x = !x.isEmpty := by
  have hm : ∀ c ∈ x, c ≠ 32 ∧ c ≠ 10 := by
    intro c hc
    obtain ⟨j, hj, rfl⟩ := List.getElem_of_mem hc
    have := h j hj
    simpa [List.getD, List.getElem?_eq_getElem hj] using this
  unfold mayB
  have h1 : x.contains 32 = false := by
    rw [List.contains_eq_mem, decide_eq_false_iff_not]
    exact fun hc => (hm 32 hc).1 rfl
  have h2 : x.contains 10 = false := by
    rw [List.contains_eq_mem, decide_eq_false_iff_not]
    exact fun hc => (hm 10 hc).2 rfl
  rw [h1, h2]; simp
theorem byte_ne {c : UInt8} {n : Nat} (hn : n < 256) (h : ((c.toNat : Int) == (n : Int)) = false) : c ≠ UInt8.ofNat n := by
  intro e
  subst e
  simp at h
  omega
end Go.Proofs.YthgcbomidamcfaaDoor

/-
  Layer 5 (word): lines of words: the document's, and Join's.
-/
namespace Go.Proofs.YthgcbomidamcfaaDoor
open Go.RowKit

theorem take_snoc_strs (l : List (List UInt8)) (k : Nat) (h : k < l.length) : l.take (k + 1) = l.take k ++ [l.getD k []] := by
  rw [List.take_succ_eq_append_getElem h]; simp [List.getD, List.getElem?_eq_getElem h]
theorem line_take_zero {l : List (List UInt8)} (h : 0 < l.length) : lineV (l.take 1) = l.getD 0 [] := by
  rw [show (1 : Nat) = 0 + 1 from rfl, take_snoc_strs l 0 h]
  exact lineV_first _
theorem line_take_succ {l : List (List UInt8)} {k : Nat} (hk : k < l.length) (h0 : 0 < k) : lineV (l.take (k + 1)) = lineV (l.take k) ++ [32] ++ l.getD k [] := by
  rw [take_snoc_strs l k hk, lineV_snoc]
  intro e
  have := congrArg List.length e
  rw [List.length_take, List.length_nil] at this
  omega
theorem str_append (a b : List UInt8) : str a ++ str b = str (a ++ b) := by
  apply ByteArray.ext
  rw [ByteArray.data_append]
  simp [str]
theorem str_line {l : List (List UInt8)} {k : Nat} {x : List UInt8} (h : lineV (l.take (k + 1)) = lineV (l.take k) ++ [32] ++ x) : str (lineV (l.take k)) ++ (⟨#[32]⟩ : ByteArray) ++ str x = str (lineV (l.take (k + 1))) := by
  rw [h, ← str_append, ← str_append]
  rfl
theorem val_str {a b : ByteArray} (h : a = b) : Value.string a = .string b := by rw [h]
/-- May all of these words stand in a line? -/
def allMay (l : List (List UInt8)) : Bool := l.all mayB
theorem allMay_bad {l : List (List UInt8)} {k : Nat} (hk : k < l.length) (h : mayB (l.getD k []) = false) : allMay l = false := by
  rw [allMay, List.all_eq_false]
  refine ⟨l[k], List.getElem_mem hk, ?_⟩
  simpa [List.getD, List.getElem?_eq_getElem hk] using h
theorem allMay_good {l : List (List UInt8)} (h : ∀ j, j < l.length → mayB (l.getD j []) = true) : allMay l = true := by
  rw [allMay, List.all_eq_true]
  intro x hx
  obtain ⟨j, hj, rfl⟩ := List.getElem_of_mem hx
  simpa [List.getD, List.getElem?_eq_getElem hj] using h j hj
/-- What Join hands back. -/
def JoinV (l : List (List UInt8)) (e : Ending) : Prop :=
  (allMay l = true ∧ e = .returned (.tuple #[.string (str (lineV l)), .bool true])) ∨ (allMay l = false ∧ e = .returned (.tuple #[.string (str []), .bool false]))
theorem map_str_data (l : List (List UInt8)) : (l.map str).map (·.data.toList) = l := by
  rw [List.map_map]
  conv => rhs; rw [← List.map_id l]
  exact List.map_congr_left fun x _ => str_data x
theorem wrd_glue (A : Option Addr) (c : Nat) (l : List (List UInt8)) (w : World) (hr : RowAt w w.heap.size A (strs l)) (hl : l.length ≤ 1000) (hc : l.length ≤ c) (hm : (lineV l).length ≤ 140737488355328) :
    Calls Tryd.prog 20 #[.slice A l.length c, .string ⟨#[32]⟩] w fun e w' => e = .returned (.string (str (lineV l))) ∧ Below w.heap.size w w' := by
  rcases hr with h | ⟨b, o, rfl, hb, hcell⟩
  · have : l = [] := by simpa [strs] using h
    subst this
    refine (Tryd.strings_Join_none A c ⟨#[32]⟩ w).mono ?_
    rintro e w' ⟨rfl, rfl⟩
    exact ⟨rfl, Below.refl _ _⟩
  · have e1 : Lib.join ((l.map str).map (·.data.toList)) (⟨#[32]⟩ : ByteArray).data.toList = lineV l := by rw [map_str_data]; rfl
    have K := Tryd.strings_Join b o c (l.map str) ⟨#[32]⟩ w (fun j x hx => hcell j _ (by rw [List.getElem?_map] at hx ⊢; cases hj : l[j]? with | none => rw [hj] at hx; cases hx | some y => rw [hj] at hx; simp at hx; subst hx; rfl)) hb (by rw [List.length_map]; omega) (by rw [List.length_map]; exact hc) (by rw [e1]; exact hm)
    rw [List.length_map, e1] at K
    exact K
theorem may_parts {x : List UInt8} (S : ByteArray) (hS : str x = S) : mayB x = (!S.toList.isEmpty && !(S.data.toList.contains 32) && !(S.data.toList.contains 10)) := by
  subst hS
  rw [str_data, str_toList]
  rfl
end Go.Proofs.YthgcbomidamcfaaDoor

/-
  Layer 11 (ftext), the program: Text.
-/
namespace Go.Proofs.YthgcbomidamcfaaDoor
open Go.RowKit

theorem below_of_drew1 {w w' : World} (h : Below w.drew.heap.size w.drew w') : Below w.heap.size w w' := ⟨h.os, h.tape, h.output, h.size, h.block⟩
theorem lib_joinC : ∀ l : List (List UInt8), Lib.join l [44] = joinC l
  | [] => rfl
  | [x] => Lib.join_one x [44]
  | x :: y :: r => by
    rw [Lib.join_cons, join_commas]
    rfl
theorem ftx_join (A : Option Addr) (c m : Nat) (l : List (List UInt8)) (hm : m = l.length) (hl : l.length ≤ 1000) (hj : (joinC l).length ≤ 1000000) (J : ByteArray) (hJ : str (joinC l) = J) (w : World) (hr : kStr.Rd w w.heap.size A c l) :
    Calls Tryd.prog 20 #[.slice A m c, .string ⟨#[44]⟩] w fun e w' => e = .returned (.string J) ∧ Below w.heap.size w w' := by
  subst hm
  subst hJ
  cases l with
  | nil =>
    refine (Tryd.strings_Join_none A c ⟨#[44]⟩ w).mono ?_
    rintro e w' ⟨rfl, rfl⟩
    exact ⟨rfl, Below.refl _ _⟩
  | cons x r =>
    obtain ⟨b, o, rfl, hb, hcell⟩ := texts_at hr (by simp)
    have hroom := hr.room
    have e1 : Lib.join (((x :: r).map str).map (·.data.toList)) (⟨#[44]⟩ : ByteArray).data.toList = joinC (x :: r) := by rw [map_str_data]; exact lib_joinC _
    have K := Tryd.strings_Join b o c ((x :: r).map str) ⟨#[44]⟩ w (fun j y hy => by
      rw [List.getElem?_map] at hy
      cases hj : (x :: r)[j]? with
      | none => rw [hj] at hy; cases hy
      | some z => rw [hj] at hy; simp at hy; subst hy; exact hcell j z hj) hb (by rw [List.length_map]; omega) (by rw [List.length_map]; exact hroom) (by rw [e1]; omega)
    rw [List.length_map, e1] at K
    exact K
theorem join_cell {W : World} {A : Option Addr} {c m : Nat} {l : List (List UInt8)} (hm : m = l.length) (hl : l.length ≤ 1000) (hj : (joinC l).length ≤ 1000000) {J : ByteArray} (hJ : str (joinC l) = J) (hr : kStr.Rd W W.heap.size A c l) (L : List (Addr × Value)) :
    ∀ w, CellL W L w → Calls Tryd.prog 20 #[.slice A m c, .string ⟨#[44]⟩] w fun e w' => e = .returned (.string J) ∧ CellL W L w' := fun w hC =>
  (ftx_join A c m l hm hl hj J hJ w (hr.call (cellL_size hC))).mono fun _ _ ⟨h1, h2⟩ => ⟨h1, cellL_call h2 hC⟩
theorem told_text {n : Nd} (hn : nodeV n = true) (ks : List (List UInt8)) (hk : ks.length = kidsN n) (h : n.op = 6 ∨ n.op = 7 ∨ n.op = 8) : textG n ks = nameV n.op ++ (40 :: (joinC ks ++ [41])) := by
  unfold textG restV
  rw [if_neg (by omega), if_neg (by omega), if_neg (by omega)]
  split
  · rename_i h6
    rw [nodeV_not hn h6] at hk
    match ks, hk with
    | [x], _ => rfl
  · rfl
set_option maxRecDepth 100000 in
set_option maxHeartbeats 8000000 in
theorem ftx_told (n : Nd) (hv : nodeV n = true) (O K : Int) (S T : ByteArray) (hI : n.op = O ∧ n.kids = K ∧ str n.lo = S ∧ str n.hi = T) (A : Option Addr) (c m : Nat) (ks : List (List UInt8)) (hm : m = ks.length) (hk : ks.length = kidsN n) (hj : (joinC ks).length ≤ 1000000) (V : ByteArray) (hV : str (textG n ks) = V) (w : World) (hn : NmsAt w) (hr : kStr.Rd w w.heap.size A c ks) :
    Calls Tryd.prog 13 #[.agg #[.int .i64 O, .int .i64 K, .string S, .string T], .slice A m c] w fun e w' => e = .returned (.string V) ∧ Below w.heap.size w w' := by
  obtain ⟨hO, hK, hS, hT⟩ := hI
  have hop := nodeV_op hv
  have hln := nodeV_17 hv
  have hlk := nodeV_kids hv
  have HG := Lib.hid (ndAt_new w O K S T 35)
  have HB := Lib.hid (below_new w (.cells #[.int .i64 O, .int .i64 K, .string S, .string T] 35))
  have HR := Lib.hid (hr.call HB.out)
  have HN := Lib.hid (hn.below HB.out hn.lt)
  have hks : ks.length ≤ 1000 := by rw [hk]; unfold kidsN; omega
  have CL := fun w => Lib.hid (wrd_of n.lo (by omega) w)
  have CH := fun w => Lib.hid (wrd_of n.hi (by omega) w)
  rw [hS] at CL
  rw [hT] at CH
  have e : O = 1 ∨ O = 2 ∨ O = 3 ∨ O = 4 ∨ O = 5 ∨ O = 6 ∨ O = 7 ∨ O = 8 := by omega
  obtain ⟨WB, hWB⟩ : ∃ W, w.alloc (.cells #[.int .i64 O, .int .i64 K, .string S, .string T] 35) = W := ⟨_, rfl⟩
  rw [hWB] at HG HB HR HN
  obtain ⟨g0, g1, g2, g3, gz⟩ := HG.out
  rcases e with rfl | rfl | rfl | rfl | rfl | rfl | rfl | rfl
  · have hgl := HN.out.lt
    have gn := HN.out.n1
    have hV2 : (⟨#[97, 108, 108]⟩ : ByteArray) = V := by rw [← hV, text_1 hO]; rfl
    clear HR HN hV hv hO hK hS hT hln hlk hop hks hk hj hm hn hr CL CH
    go_enter Tryd.func13, Tryd.ntmps13
    go_wp2_with fail
    go_ret
    exact ⟨rfl, HB.out⟩
  · have hgl := HN.out.lt
    have gn := HN.out.n2
    have hV2 : (⟨#[110, 111, 110, 101]⟩ : ByteArray) = V := by rw [← hV, text_2 hO]; rfl
    clear HR HN hV hv hO hK hS hT hln hlk hop hks hk hj hm hn hr CL CH
    go_enter Tryd.func13, Tryd.ntmps13
    go_wp2_with fail
    go_ret
    exact ⟨rfl, HB.out⟩
  · have hgl := HN.out.lt
    have gn := HN.out.n3
    obtain ⟨J, hJ⟩ : ∃ J, str (ofV n.lo) = J := ⟨_, rfl⟩
    have hol := ofV_len n.lo
    have hjz : J.size ≤ 1000000 := by rw [← hJ, str_size]; omega
    rw [hJ] at CL
    have HV2 := Lib.hid (show (⟨#[112, 114, 101, 102, 105, 120]⟩ : ByteArray) ++ ⟨#[40]⟩ ++ J ++ ⟨#[41]⟩ = V by
      rw [← hV, text_3 hO, ← hJ]
      exact (congrArg (· ++ str [41]) (congrArg (· ++ str (ofV n.lo)) (strs2 [112, 114, 101, 102, 105, 120] [40]))).trans ((congrArg (· ++ str [41]) (strs2 _ _)).trans ((strs2 _ _).trans (by simp))))
    have CJ := fun (W : World) => Lib.hid (fun L => join_cell (W := W.alloc (.cells #[.string J] 9)) (A := some ⟨W.heap.size, 0, none⟩) (c := 1) (m := 1) (l := [ofV n.lo]) (J := J) rfl (by simp) (by simp [joinC]; omega) hJ (by rw [size1]; exact Kind.rd_new (k := kStr) (l := [ofV n.lo]) (n := 1) (by rw [← hJ]; rfl) rfl (by simp)) L)
    clear HR HN hV hv hO hK hS hT hln hlk hop hks hk hj hm hn hr CH hJ hol
    go_enter Tryd.func13, Tryd.ntmps13
    go_upto_region 11 with ((with_reducible refine (CL _).out.mono ?_); rintro e w9 ⟨rfl, hq⟩; have hlw := HG.out.lt; replace g0 := (bcell hq).1 _ 0 hlw |>.trans g0; replace gn := (bcell hq).1 _ _ hgl |>.trans gn; replace HB := Lib.hid (HB.out.trans (hq.mono HB.out.size)); clear hq)
    replace CJ := CJ w9
    obtain ⟨W9, hW9⟩ : ∃ W, w9.alloc (.cells #[.string J] 9) = W := ⟨_, rfl⟩
    rw [hW9] at CJ ⊢
    have HC : Hid (CellL W9 [(⟨w.heap.size, 0, none⟩, .int .i64 3), (⟨0, 3, none⟩, .string ⟨#[112, 114, 101, 102, 105, 120]⟩)] W9) := by
      have h1 := below_new w9 (.cells #[.string J] 9)
      rw [hW9] at h1
      exact Lib.hid ⟨(h1.cell (World.block_lt_of_cell? _ _ g0)).trans g0, (h1.cell (World.block_lt_of_cell? _ _ gn)).trans gn, Below.refl _ _⟩
    replace HB : Hid (Below w.heap.size w W9) := by
      have h1 := below_new w9 (.cells #[.string J] 9)
      rw [hW9] at h1
      exact Lib.hid (HB.out.trans (h1.mono HB.out.size))
    clear g0 gn g1 g2 g3 gz
    refine q_region (CellL W9 [(⟨w.heap.size, 0, none⟩, .int .i64 3), (⟨0, 3, none⟩, .string ⟨#[112, 114, 101, 102, 105, 120]⟩)]) (by kernel_rfl) (by kernel_rfl) (cellL_drew HC.out) ?_
    repeat (first
      | go_big_quiet_skip
      | (go_big_quiet_want; (first
        | (refine q_take (v := ?_) ?_ ?_; rotate_left; (focus (intro w hSw; (try simp only [CellL] at hSw); go_split_ands; go_simp; (try (rw [if_neg (by omega)])); (try with_reducible rfl); done)))
        | (refine q_call (CJ.out _) ?_ ?_; (focus (intro w hSw; (try simp only [CellL] at hSw); go_split_ands; go_simp; (try (rw [if_neg (by omega)])); done)))); (try simp only [Act.put, List.setIfInBounds_toArray, List.set_cons_zero, List.set_cons_succ]); go_big_quiet_on))
    refine wpQuiet_nil ?_
    intro w2 hw2
    go_wp2_with fail
    go_ret
    exact ⟨ret_str HV2.out, HB.out.trans ((cellL_size hw2).mono HB.out.size)⟩
  · have hgl := HN.out.lt
    have gn := HN.out.n4
    obtain ⟨X, hX⟩ : ∃ J, str (ofV n.lo) = J := ⟨_, rfl⟩
    obtain ⟨Y, hY⟩ : ∃ J, str (ofV n.hi) = J := ⟨_, rfl⟩
    have hol := ofV_len n.lo
    have hoh := ofV_len n.hi
    obtain ⟨J, hJ⟩ : ∃ J, str (joinC [ofV n.lo, ofV n.hi]) = J := ⟨_, rfl⟩
    have hjl : (joinC [ofV n.lo, ofV n.hi]).length ≤ 1000000 := by simp [joinC]; omega
    have hjz : J.size ≤ 1000000 := by rw [← hJ, str_size]; exact hjl
    rw [hX] at CL
    rw [hY] at CH
    have HV2 := Lib.hid (show (⟨#[114, 97, 110, 103, 101]⟩ : ByteArray) ++ ⟨#[40]⟩ ++ J ++ ⟨#[41]⟩ = V by
      rw [← hV, text_4 hO, ← hJ]
      exact (congrArg (· ++ str [41]) (congrArg (· ++ str (joinC [ofV n.lo, ofV n.hi])) (strs2 [114, 97, 110, 103, 101] [40]))).trans ((congrArg (· ++ str [41]) (strs2 _ _)).trans ((strs2 _ _).trans (by simp [joinC]))))
    have CJ := fun (W : World) => Lib.hid (fun L => join_cell (W := W.alloc (.cells #[.string X, .string Y] 9)) (A := some ⟨W.heap.size, 0, none⟩) (c := 2) (m := 2) (l := [ofV n.lo, ofV n.hi]) (J := J) rfl (by simp) hjl hJ (by rw [size1]; exact Kind.rd_new (k := kStr) (l := [ofV n.lo, ofV n.hi]) (n := 2) (by rw [← hX, ← hY]; rfl) rfl (by simp)) L)
    have HGN := Lib.hid gn
    clear HR HN hV hv hO hK hS hT hln hlk hop hks hk hj hm hn hr hJ hol hoh hjl hX hY gn
    go_enter Tryd.func13, Tryd.ntmps13
    go_upto_region 10 with fail
    have HL := Lib.hid HG.out.lt
    have HL2 := Lib.hid hgl
    have gn := HGN.out
    clear HG HGN hgl g1 gz
    go_region_law (first
      | ((go_simp; (with_reducible refine (CL _).out.mono ?_); rintro e w9 ⟨rfl, hq⟩; (try replace hq := below_of_drew1 hq); have hl0 := HL.out; have hl1 := HL2.out; replace g0 := ((bcell hq).1 _ 0 hl0).trans g0; replace g2 := ((bcell hq).1 _ 2 hl0).trans g2; replace g3 := ((bcell hq).1 _ 3 hl0).trans g3; replace gn := ((bcell hq).1 _ _ hl1).trans gn; replace HL := Lib.hid (Nat.lt_of_lt_of_le hl0 hq.size); replace HL2 := Lib.hid (Nat.lt_of_lt_of_le hl1 hq.size); replace HB := Lib.hid (HB.out.trans (hq.mono HB.out.size)); clear hq hl0 hl1))
      | ((go_simp; (with_reducible refine (CH _).out.mono ?_); rintro e w9 ⟨rfl, hq⟩; (try replace hq := below_of_drew1 hq); have hl0 := HL.out; have hl1 := HL2.out; replace g0 := ((bcell hq).1 _ 0 hl0).trans g0; replace g2 := ((bcell hq).1 _ 2 hl0).trans g2; replace g3 := ((bcell hq).1 _ 3 hl0).trans g3; replace gn := ((bcell hq).1 _ _ hl1).trans gn; replace HL := Lib.hid (Nat.lt_of_lt_of_le hl0 hq.size); replace HL2 := Lib.hid (Nat.lt_of_lt_of_le hl1 hq.size); replace HB := Lib.hid (HB.out.trans (hq.mono HB.out.size)); clear hq hl0 hl1)))
    all_goals
      go_upto_region 11 with fail
      simp only [Act.put, List.getElem_toArray, List.getElem_cons_zero, List.getElem_cons_succ, List.setIfInBounds_toArray, List.set_cons_zero, List.set_cons_succ]
      obtain ⟨W8, hW8⟩ : ∃ W, w9 = W := ⟨_, rfl⟩
      subst hW8
      replace CJ := CJ w9
      obtain ⟨W9, hW9⟩ : ∃ W, w9.alloc (.cells #[.string X, .string Y] 9) = W := ⟨_, rfl⟩
      rw [hW9] at CJ ⊢
      have HC : Hid (CellL W9 [(⟨w.heap.size, 0, none⟩, .int .i64 4), (⟨0, 4, none⟩, .string ⟨#[114, 97, 110, 103, 101]⟩)] W9) := by
        have h1 := below_new w9 (.cells #[.string X, .string Y] 9)
        rw [hW9] at h1
        exact Lib.hid ⟨(h1.cell (World.block_lt_of_cell? _ _ g0)).trans g0, (h1.cell (World.block_lt_of_cell? _ _ gn)).trans gn, Below.refl _ _⟩
      replace HB : Hid (Below w.heap.size w W9) := by
        have h1 := below_new w9 (.cells #[.string X, .string Y] 9)
        rw [hW9] at h1
        exact Lib.hid (HB.out.trans (h1.mono HB.out.size))
      clear g0 gn g2 g3
      refine q_region (CellL W9 [(⟨w.heap.size, 0, none⟩, .int .i64 4), (⟨0, 4, none⟩, .string ⟨#[114, 97, 110, 103, 101]⟩)]) (by kernel_rfl) (by kernel_rfl) (cellL_drew HC.out) ?_
      repeat (first
        | go_big_quiet_skip
        | (go_big_quiet_want; (first
          | (refine q_take (v := ?_) ?_ ?_; rotate_left; (focus (intro w hSw; (try simp only [CellL] at hSw); go_split_ands; go_simp; (try (rw [if_neg (by omega)])); (try with_reducible rfl); done)))
          | (refine q_call (CJ.out _) ?_ ?_; (focus (intro w hSw; (try simp only [CellL] at hSw); go_split_ands; go_simp; (try (rw [if_neg (by omega)])); done)))); (try simp only [Act.put, List.setIfInBounds_toArray, List.set_cons_zero, List.set_cons_succ]); go_big_quiet_on))
      refine wpQuiet_nil ?_
      intro w2 hw2
      go_wp2_with fail
      go_ret
      exact ⟨ret_str HV2.out, HB.out.trans ((cellL_size hw2).mono HB.out.size)⟩
  · have hgl := HN.out.lt
    have gn := HN.out.n5
    obtain ⟨J, hJ⟩ : ∃ J, str (ofV n.lo) = J := ⟨_, rfl⟩
    have hol := ofV_len n.lo
    have hjz : J.size ≤ 1000000 := by rw [← hJ, str_size]; omega
    rw [hJ] at CL
    have HV2 := Lib.hid (show (⟨#[102, 114, 111, 109]⟩ : ByteArray) ++ ⟨#[40]⟩ ++ J ++ ⟨#[41]⟩ = V by
      rw [← hV, text_5 hO, ← hJ]
      exact (congrArg (· ++ str [41]) (congrArg (· ++ str (ofV n.lo)) (strs2 [102, 114, 111, 109] [40]))).trans ((congrArg (· ++ str [41]) (strs2 _ _)).trans ((strs2 _ _).trans (by simp))))
    have CJ := fun (W : World) => Lib.hid (fun L => join_cell (W := W.alloc (.cells #[.string J] 9)) (A := some ⟨W.heap.size, 0, none⟩) (c := 1) (m := 1) (l := [ofV n.lo]) (J := J) rfl (by simp) (by simp [joinC]; omega) hJ (by rw [size1]; exact Kind.rd_new (k := kStr) (l := [ofV n.lo]) (n := 1) (by rw [← hJ]; rfl) rfl (by simp)) L)
    clear HR HN hV hv hO hK hS hT hln hlk hop hks hk hj hm hn hr CH hJ hol
    go_enter Tryd.func13, Tryd.ntmps13
    go_upto_region 11 with ((with_reducible refine (CL _).out.mono ?_); rintro e w9 ⟨rfl, hq⟩; have hlw := HG.out.lt; replace g0 := (bcell hq).1 _ 0 hlw |>.trans g0; replace gn := (bcell hq).1 _ _ hgl |>.trans gn; replace HB := Lib.hid (HB.out.trans (hq.mono HB.out.size)); clear hq)
    replace CJ := CJ w9
    obtain ⟨W9, hW9⟩ : ∃ W, w9.alloc (.cells #[.string J] 9) = W := ⟨_, rfl⟩
    rw [hW9] at CJ ⊢
    have HC : Hid (CellL W9 [(⟨w.heap.size, 0, none⟩, .int .i64 5), (⟨0, 5, none⟩, .string ⟨#[102, 114, 111, 109]⟩)] W9) := by
      have h1 := below_new w9 (.cells #[.string J] 9)
      rw [hW9] at h1
      exact Lib.hid ⟨(h1.cell (World.block_lt_of_cell? _ _ g0)).trans g0, (h1.cell (World.block_lt_of_cell? _ _ gn)).trans gn, Below.refl _ _⟩
    replace HB : Hid (Below w.heap.size w W9) := by
      have h1 := below_new w9 (.cells #[.string J] 9)
      rw [hW9] at h1
      exact Lib.hid (HB.out.trans (h1.mono HB.out.size))
    clear g0 gn g1 g2 g3 gz
    refine q_region (CellL W9 [(⟨w.heap.size, 0, none⟩, .int .i64 5), (⟨0, 5, none⟩, .string ⟨#[102, 114, 111, 109]⟩)]) (by kernel_rfl) (by kernel_rfl) (cellL_drew HC.out) ?_
    repeat (first
      | go_big_quiet_skip
      | (go_big_quiet_want; (first
        | (refine q_take (v := ?_) ?_ ?_; rotate_left; (focus (intro w hSw; (try simp only [CellL] at hSw); go_split_ands; go_simp; (try (rw [if_neg (by omega)])); (try with_reducible rfl); done)))
        | (refine q_call (CJ.out _) ?_ ?_; (focus (intro w hSw; (try simp only [CellL] at hSw); go_split_ands; go_simp; (try (rw [if_neg (by omega)])); done)))); (try simp only [Act.put, List.setIfInBounds_toArray, List.set_cons_zero, List.set_cons_succ]); go_big_quiet_on))
    refine wpQuiet_nil ?_
    intro w2 hw2
    go_wp2_with fail
    go_ret
    exact ⟨ret_str HV2.out, HB.out.trans ((cellL_size hw2).mono HB.out.size)⟩
  · have hgl := HN.out.lt
    have gn := HN.out.n6
    obtain ⟨J, hJ⟩ : ∃ J, str (joinC ks) = J := ⟨_, rfl⟩
    have HV2 := Lib.hid (show (⟨#[110, 111, 116]⟩ : ByteArray) ++ ⟨#[40]⟩ ++ J ++ ⟨#[41]⟩ = V by
      rw [← hV, told_text hv ks hk (by omega), ← hJ, hO]
      exact (congrArg (· ++ str [41]) (congrArg (· ++ str (joinC ks)) (strs2 [110, 111, 116] [40]))).trans ((congrArg (· ++ str [41]) (strs2 _ _)).trans ((strs2 _ _).trans (by simp [nameV]))))
    have hjz : J.size ≤ 1000000 := by rw [← hJ, str_size]; exact hj
    have CJ := Lib.hid (fun L => join_cell (W := WB) (m := m) hm hks hj hJ HR.out L)
    have HC : Hid (CellL WB [(⟨w.heap.size, 0, none⟩, .int .i64 6), (⟨0, 6, none⟩, .string ⟨#[110, 111, 116]⟩)] WB) := Lib.hid ⟨g0, gn, Below.refl _ _⟩
    clear HR HN hV hv hO hK hS hT hln hlk hop hks hk hj hm hn hr CL CH hJ
    go_enter Tryd.func13, Tryd.ntmps13
    go_wp2_with fail
    refine q_region (CellL WB [(⟨w.heap.size, 0, none⟩, .int .i64 6), (⟨0, 6, none⟩, .string ⟨#[110, 111, 116]⟩)]) (by kernel_rfl) (by kernel_rfl) (cellL_drew HC.out) ?_
    repeat (first
      | go_big_quiet_skip
      | (go_big_quiet_want; (first
        | (refine q_take (v := ?_) ?_ ?_; rotate_left; (focus (intro w hSw; (try simp only [CellL] at hSw); go_split_ands; go_simp; (try (rw [if_neg (by omega)])); (try with_reducible rfl); done)))
        | (refine q_call (CJ.out _) ?_ ?_; (focus (intro w hSw; (try simp only [CellL] at hSw); go_split_ands; go_simp; (try (rw [if_neg (by omega)])); done)))); (try simp only [Act.put, List.setIfInBounds_toArray, List.set_cons_zero, List.set_cons_succ]); go_big_quiet_on))
    refine wpQuiet_nil ?_
    intro w2 hw2
    go_wp2_with fail
    go_ret
    exact ⟨ret_str HV2.out, HB.out.trans ((cellL_size hw2).mono HB.out.size)⟩
  · have hgl := HN.out.lt
    have gn := HN.out.n7
    obtain ⟨J, hJ⟩ : ∃ J, str (joinC ks) = J := ⟨_, rfl⟩
    have HV2 := Lib.hid (show (⟨#[97, 110, 100]⟩ : ByteArray) ++ ⟨#[40]⟩ ++ J ++ ⟨#[41]⟩ = V by
      rw [← hV, told_text hv ks hk (by omega), ← hJ, hO]
      exact (congrArg (· ++ str [41]) (congrArg (· ++ str (joinC ks)) (strs2 [97, 110, 100] [40]))).trans ((congrArg (· ++ str [41]) (strs2 _ _)).trans ((strs2 _ _).trans (by simp [nameV]))))
    have hjz : J.size ≤ 1000000 := by rw [← hJ, str_size]; exact hj
    have CJ := Lib.hid (fun L => join_cell (W := WB) (m := m) hm hks hj hJ HR.out L)
    have HC : Hid (CellL WB [(⟨w.heap.size, 0, none⟩, .int .i64 7), (⟨0, 7, none⟩, .string ⟨#[97, 110, 100]⟩)] WB) := Lib.hid ⟨g0, gn, Below.refl _ _⟩
    clear HR HN hV hv hO hK hS hT hln hlk hop hks hk hj hm hn hr CL CH hJ
    go_enter Tryd.func13, Tryd.ntmps13
    go_wp2_with fail
    refine q_region (CellL WB [(⟨w.heap.size, 0, none⟩, .int .i64 7), (⟨0, 7, none⟩, .string ⟨#[97, 110, 100]⟩)]) (by kernel_rfl) (by kernel_rfl) (cellL_drew HC.out) ?_
    repeat (first
      | go_big_quiet_skip
      | (go_big_quiet_want; (first
        | (refine q_take (v := ?_) ?_ ?_; rotate_left; (focus (intro w hSw; (try simp only [CellL] at hSw); go_split_ands; go_simp; (try (rw [if_neg (by omega)])); (try with_reducible rfl); done)))
        | (refine q_call (CJ.out _) ?_ ?_; (focus (intro w hSw; (try simp only [CellL] at hSw); go_split_ands; go_simp; (try (rw [if_neg (by omega)])); done)))); (try simp only [Act.put, List.setIfInBounds_toArray, List.set_cons_zero, List.set_cons_succ]); go_big_quiet_on))
    refine wpQuiet_nil ?_
    intro w2 hw2
    go_wp2_with fail
    go_ret
    exact ⟨ret_str HV2.out, HB.out.trans ((cellL_size hw2).mono HB.out.size)⟩
  · have hgl := HN.out.lt
    have gn := HN.out.n8
    obtain ⟨J, hJ⟩ : ∃ J, str (joinC ks) = J := ⟨_, rfl⟩
    have HV2 := Lib.hid (show (⟨#[111, 114]⟩ : ByteArray) ++ ⟨#[40]⟩ ++ J ++ ⟨#[41]⟩ = V by
      rw [← hV, told_text hv ks hk (by omega), ← hJ, hO]
      exact (congrArg (· ++ str [41]) (congrArg (· ++ str (joinC ks)) (strs2 [111, 114] [40]))).trans ((congrArg (· ++ str [41]) (strs2 _ _)).trans ((strs2 _ _).trans (by simp [nameV]))))
    have hjz : J.size ≤ 1000000 := by rw [← hJ, str_size]; exact hj
    have CJ := Lib.hid (fun L => join_cell (W := WB) (m := m) hm hks hj hJ HR.out L)
    have HC : Hid (CellL WB [(⟨w.heap.size, 0, none⟩, .int .i64 8), (⟨0, 8, none⟩, .string ⟨#[111, 114]⟩)] WB) := Lib.hid ⟨g0, gn, Below.refl _ _⟩
    clear HR HN hV hv hO hK hS hT hln hlk hop hks hk hj hm hn hr CL CH hJ
    go_enter Tryd.func13, Tryd.ntmps13
    go_wp2_with fail
    refine q_region (CellL WB [(⟨w.heap.size, 0, none⟩, .int .i64 8), (⟨0, 8, none⟩, .string ⟨#[111, 114]⟩)]) (by kernel_rfl) (by kernel_rfl) (cellL_drew HC.out) ?_
    repeat (first
      | go_big_quiet_skip
      | (go_big_quiet_want; (first
        | (refine q_take (v := ?_) ?_ ?_; rotate_left; (focus (intro w hSw; (try simp only [CellL] at hSw); go_split_ands; go_simp; (try (rw [if_neg (by omega)])); (try with_reducible rfl); done)))
        | (refine q_call (CJ.out _) ?_ ?_; (focus (intro w hSw; (try simp only [CellL] at hSw); go_split_ands; go_simp; (try (rw [if_neg (by omega)])); done)))); (try simp only [Act.put, List.setIfInBounds_toArray, List.set_cons_zero, List.set_cons_succ]); go_big_quiet_on))
    refine wpQuiet_nil ?_
    intro w2 hw2
    go_wp2_with fail
    go_ret
    exact ⟨ret_str HV2.out, HB.out.trans ((cellL_size hw2).mono HB.out.size)⟩
end Go.Proofs.YthgcbomidamcfaaDoor

/-
  Layer 11 (ftext), the program: Text.
-/
namespace Go.Proofs.YthgcbomidamcfaaDoor
open Go.RowKit

/-- A row of the call's own, cut: its room stays. -/
theorem Kind.Own.take {P : Program} {α : Type} {k : Kind P α} {w : World} {base : Nat} {A : Option Addr} {n c : Nat} {l : List α} (h : k.Own w base (.slice A n c) l) {j : Nat} (hj : j ≤ l.length) : k.Own w base (.slice A j c) (l.take j) := by
  have hl : (l.take j).length = j := by rw [List.length_take]; omega
  unfold Kind.Own at h ⊢
  rw [hl, k.row_take]
  obtain ⟨h1, h2⟩ := h
  refine ⟨by rw [List.length_take, h1, Nat.min_eq_left (Nat.mul_le_mul_right _ hj)], ?_⟩
  rcases h2 with ⟨h0, h3⟩ | ⟨g, cap, cur, hv, hg, hh, hn, hcap, hsz, ht⟩
  · injection h0 with e1 e2 e3
    subst e1; subst e3
    obtain rfl : j = 0 := by omega
    exact .inl ⟨rfl, rfl⟩
  · injection hv with e1 e2 e3
    subst e1; subst e3
    refine .inr ⟨g, c, cur, rfl, hg, hh, by omega, hcap, hsz, ?_⟩
    rw [← ht, List.take_take, Nat.min_eq_left (Nat.mul_le_mul_right _ hj)]
theorem row_new0 (w : World) (s : List UInt8) (S : ByteArray) (hS : str s = S) : RowAt (w.alloc (.cells #[.string S] 9)) (w.heap.size + 1) (some ⟨w.heap.size, 0, none⟩) (kStr.row [s]) := by
  subst hS
  exact (Kind.rd_new (k := kStr) (w := w) (cs := #[.string (str s)]) (l := [s]) (t := 9) (n := 1) rfl rfl (by simp)).row
set_option maxRecDepth 100000 in
set_option maxHeartbeats 8000000 in
theorem ftx_text_go (A : Option Addr) (c n : Nat) (l : List Nd) (hn : n = l.length) (hn9 : n ≤ 64) (hl17 : ∀ r ∈ l, r.lo.length ≤ 1000000) (hr : rightN l = true) (V : ByteArray) (hV : str (topT l) = V) (w : World) (hnm : NmsAt w) (ha : kNd.Rd w w.heap.size A c l) :
    Calls Tryd.prog 7 #[.slice A n c] w fun e w' => e = .returned (.tuple #[.string V, .int .i64 0]) ∧ Below w.heap.size w w' := by
  have R1 := Lib.hid (flt_right A c n l hn hl17 true hr w ha)
  have HN := Lib.hid hn
  have HR := Lib.hid ha
  have HV := Lib.hid hV
  have HD := Lib.hid (show depV l 0 = some 1 from rightN_full hr)
  have HRN := Lib.hid hr
  have HNM := Lib.hid hnm
  have hlw := hnm.lt
  have hcx : n ≤ c := by rw [hn]; exact ha.room
  clear hn ha hV hr hnm hl17
  go_enter Tryd.func7, Tryd.ntmps7
  go_wp2_with ((with_reducible refine R1.out.mono ?_); rintro e w1 ⟨rfl, hq⟩; have HB1 := Lib.hid hq; clear hq)
  go_loopw [4, 13] (fun s i wr => ∃ (k m c2 : Nat) (O : List (List UInt8)) (A2 : Option Addr), k ≤ n ∧ m ≤ k ∧ m ≤ c2 ∧ Hid (m = O.length) ∧ Hid (depV (l.take k) 0 = some m) ∧ Hid (depV (l.drop k) m = some 1) ∧ Hid (foldG textG (l.take k) [] = O) ∧ Hid (kStr.Own wr w.heap.size (.slice A2 m c2) O) ∧ s = .slice A2 m c2 ∧ i = .int .i64 k ∧ Hid (Below w.heap.size w wr)) (fun _ i _ => n - (intOf i).toNat)
  case atStart => exact ⟨0, 0, 0, [], none, by omega, by omega, by omega, rfl, Lib.hid rfl, HD, Lib.hid rfl, Lib.hid (Kind.Own.nil _ _), rfl, by go_num, HB1⟩
  case round =>
    obtain ⟨k, m, c2, O, A2, hk, hmk, hmc, HM, HE0, HE, HF, HO, rfl, rfl, HBR⟩ := hrel
    by_cases hlt : k < n
    · obtain ⟨r, hg, hdr, hrm⟩ := get_some (l := l) (k := k) (by have := HN.out; omega)
      obtain ⟨b, o, rfl, hb1, hcell⟩ := nds_at (HR.out.below HBR.out) (by have := HN.out; omega)
      obtain ⟨c0, c1, d2, c3⟩ := hcell k r hg
      have he := HE.out
      rw [hdr] at he
      obtain ⟨hx, hqm, he2⟩ := dep_step he
      obtain ⟨gk0, gk32⟩ := nodeV_kids hx
      have hb2 := Nat.lt_of_lt_of_le hb1 HBR.out.size
      obtain ⟨q, hq⟩ : ∃ q, kidsN r = q := ⟨_, rfl⟩
      rw [hq] at hqm he2
      have hkq : r.kids = (q : Int) := by rw [← hq]; unfold kidsN; omega
      obtain ⟨j, hj⟩ : ∃ j, m - q = j := ⟨_, rfl⟩
      rw [hj] at he2
      have hjm : j ≤ m := by omega
      have hjO : j ≤ O.length := by rw [← HM.out]; exact hjm
      obtain ⟨x, hxv⟩ : ∃ x, textG r (O.drop j) = x := ⟨_, rfl⟩
      obtain ⟨X, hX⟩ : ∃ X, str x = X := ⟨_, rfl⟩
      have hjc : (joinC (O.drop j)).length ≤ 1000000 := by
        have := join_small HE0.out j
        rw [HF.out, List.length_take] at this
        omega
      obtain ⟨O', hO'⟩ : ∃ O', r.op = O' := ⟨_, rfl⟩
      obtain ⟨S, hS⟩ : ∃ S, str r.lo = S := ⟨_, rfl⟩
      obtain ⟨T, hT⟩ : ∃ T, str r.hi = T := ⟨_, rfl⟩
      have HK2 := fun (W : World) (hW : NmsAt W) (hO : kStr.Rd W W.heap.size A2 c2 O) => Lib.hid (ftx_told r hx O' (q : Int) S T ⟨hO', hkq, hS, hT⟩ (cutA A2 j c2) (c2 - j) (m - j) (O.drop j) (by rw [List.length_drop, ← HM.out]) (by rw [List.length_drop, ← HM.out, hq]; omega) hjc X (by rw [hxv]; exact hX) W hW (Kind.Rd.cut1 rfl hO hjO))
      have HF2 := Lib.hid (show foldG textG (l.take (k + 1)) [] = O.take j ++ [x] by rw [List.take_add_one, hg, foldG_append, HF.out]; show foldG textG [r] O = _; rw [foldG_cons textG r [] O (m := j) (by rw [← HM.out, hq]; exact hj), hxv]; rfl)
      have HE3 := Lib.hid (show depV (l.take (k + 1)) 0 = some (j + 1) by rw [List.take_add_one, hg, depV_append, HE0.out]; exact depV_one.2 ⟨hx, by rw [hq]; omega, by rw [hq]; omega⟩)
      have HE2 := Lib.hid he2
      have HT := fun (W : World) (hO : kStr.Own W w.heap.size (.slice A2 m c2) O) => Lib.hid (Kind.Own.take hO hjO)
      have HTL := Lib.hid (show j + 1 = (O.take j ++ [x]).length by rw [List.length_append, List.length_take, List.length_singleton]; omega)
      have HLE := Lib.hid (show (O.take j).length + [x].length ≤ 1000000 by rw [List.length_take, List.length_singleton]; omega)
      have K1 := fun W : World => run_take (T := 36) (E := 9) Tryd.underlying36 str_sizeOf W A2 m c2 j (by omega)
      have K2 := fun W : World => run_cut (T := 36) (E := 9) Tryd.underlying36 str_sizeOf W A2 m c2 j (by omega)
      obtain ⟨A3, hA3⟩ : ∃ A3, cutA A2 j c2 = A3 := ⟨_, rfl⟩
      obtain ⟨c3', hc3⟩ : ∃ c3', c2 - j = c3' := ⟨_, rfl⟩
      obtain ⟨m3, hm3⟩ : ∃ m3, m - j = m3 := ⟨_, rfl⟩
      rw [hA3, hc3, hm3] at K2 HK2
      have hw : IntKind.i64.wrap ((m : Int) - (q : Int)) = (j : Int) := by rw [show (m : Int) - (q : Int) = (j : Int) by omega]; exact IntWalk.i64_in _ (by omega)
      have hj9 : j ≤ 64 := by omega
      rw [hO'] at c0
      rw [hkq] at c1
      rw [hS] at d2
      rw [hT] at c3
      have HB2 := Lib.hid (HBR.out.alloc HBR.out.size (.cells #[.int .i64 O', .int .i64 (q : Int), .string S, .string T] 35))
      have HO1 := Lib.hid (Kind.Own.alloc HO.out (.cells #[.int .i64 O', .int .i64 (q : Int), .string S, .string T] 35))
      have HRW := fun W : World => Lib.hid (row_new0 W x X hX)
      clear hcell hg hdr he he2 hx hqm hq hkq hj hjO hxv hA3 hc3 hm3 hO' hS hT HE HE0 HF HO hX hjc hrm gk0 gk32
      go_upto_region 8 with fail
      go_region_law (first
        | (refine step_app_k kStr rfl (.tmp 24) (.tmp 30) rfl w.heap.size _ (O.take j) rfl (Kind.Own.alloc HOT.out _) _ (some ⟨w9.heap.size, 0, none⟩) 1 1 [x] rfl rfl (HRW w9).out HLE.out (by decide) (le_alloc HB9.out.size _) ?_; intro v3 w3 hown3 hg3 hb3 _; obtain ⟨A4, c4, rfl, hrd⟩ := hown3.read_n HTL.out; have HO4 := Lib.hid hown3; have HB4 := Lib.hid ((HB9.out.alloc HB9.out.size _).trans hb3); have hroom := hrd.room; rw [← HTL.out] at hroom; clear hown3 hg3 hb3 hrd)
        | (go_simp; (with_reducible refine (HK2 _ (HNM.out.below HB2.out.drew hlw) (HO1.out.rd.call (Below.refl _ _).drew)).out.mono ?_); rintro e w9 ⟨rfl, hq⟩; (try replace hq := below_of_drew1 hq); have HB9 := Lib.hid (HB2.out.trans (hq.mono HB2.out.size)); have HOT := HT w9 (HO1.out.below hq); clear hq))
      all_goals
        go_wp2_with fail
        go_roundw
        case rel => exact ⟨k + 1, j + 1, c4, O.take j ++ [x], A4, by omega, by omega, hroom, HTL, HE3, HE2, HF2, HO4, rfl, by go_num, HB4⟩
        case measure => simp [intOf]; omega
    · have he := HE.out
      rw [List.drop_eq_nil_of_le (by have := HN.out; omega)] at he
      obtain rfl : m = 1 := by injection he
      have hf := HF.out
      rw [List.take_of_length_le (by have := HN.out; omega), full_top HD.out] at hf
      subst hf
      obtain ⟨b, o, rfl, hb1, hcell⟩ := texts_at HO.out.rd (by simp)
      have c0 := hcell 0 (topT l) rfl
      rw [Nat.add_zero, HV.out] at c0
      clear hcell
      go_wp2_with fail
      go_ret2
      exact ⟨rfl, HBR.out⟩
set_option maxHeartbeats 1000000 in
theorem k_ftext : TellT 7 := fun A c n a hn hs => ⟨fun hr V hV w hnm ha => ftx_text_go A c n a hn (by have := hs.1; omega) (fun r h => by have := (hs.2 r h).1; omega) hr V hV w hnm ha, fun hr w hnm ha => by
  have R1 := Lib.hid (flt_right A c n a hn (fun r h => by have := (hs.2 r h).1; omega) false hr w ha)
  clear hs hr hn ha hnm
  go_enter Tryd.func7, Tryd.ntmps7
  go_wp2_with ((with_reducible refine R1.out.mono ?_); rintro e w1 ⟨rfl, hq⟩; have HB1 := Lib.hid hq; clear hq)
  go_ret2
  exact ⟨rfl, HB1.out⟩⟩
end Go.Proofs.YthgcbomidamcfaaDoor
