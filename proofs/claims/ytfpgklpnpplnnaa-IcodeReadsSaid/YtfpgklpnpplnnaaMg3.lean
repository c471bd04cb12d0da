/-
  Several texts in one: VrA, OpenVr, ItmPure, ShelfCmp, KeyA, KeyB, RgsPure, Rgs, ItmA, OpenItms, VarPure, RgsSets.
-/
import Derived.BigQuiet
import Derived.Lib.SmallJoins
import Derived.Deep.Strs
import Derived.Shelf.Small.Strs
import Derived.Test.YtfpgklpnpplnnaaProg
import Derived.Outline
import Derived.Lib.BitFns
import Derived.Test.YtfpgklpnpplnnaaMg2
namespace Go.Proofs.Ytfpgklpnpplnnaa
open Go.RowKit

def vrCells (v : Vr) : List Value := [.int .i64 v.rep, .int .i64 v.cnt]
theorem ref_vrright (v : Vr) (x y : Int) (hx : v.rep = x) (hy : v.cnt = y) (z : Bool) (hz : rightVr v = z) (w : World) :
    Calls Try.prog 23 #[.agg #[.int .i64 x, .int .i64 y]] w fun e w' => e = .returned (.bool z) ∧ Below w.heap.size w w' := by
  unfold rightVr at hz
  rw [hx, hy] at hz
  have HB := Lib.hid (below_new w (.cells #[.int .i64 x, .int .i64 y] 23))
  obtain ⟨b1, h1⟩ : ∃ b, decide (1 ≤ x) = b := ⟨_, rfl⟩
  obtain ⟨b2, h2⟩ : ∃ b, decide (x ≤ 16) = b := ⟨_, rfl⟩
  obtain ⟨b3, h3⟩ : ∃ b, decide (1 ≤ y) = b := ⟨_, rfl⟩
  obtain ⟨b4, h4⟩ : ∃ b, decide (y ≤ 1099511627776) = b := ⟨_, rfl⟩
  rw [h1, h2, h3, h4] at hz
  subst hz
  clear hx hy
  cases b1
  case' true =>
    cases b2
    case' true =>
      cases b3
      case' true =>
        cases b4
  all_goals
    go_enter Try.func23, Try.ntmps23
    go_wp2_with fail
    go_ret
    exact ⟨rfl, HB.out⟩
end Go.Proofs.Ytfpgklpnpplnnaa

namespace Go.Proofs.Ytfpgklpnpplnnaa
open Go.ChangeShapes Go.WideShapes Go.ChangeAt Go.RowKit Go.Joins

theorem vcells_int : Try.prog.cellsOf 3 = 1 := by kernel_rfl
set_option maxRecDepth 100000 in
theorem vr_of {H : Type} {enc : TypeId × Value → H} {W : World} (n : Nat) (cs : List Value) (y : DataW H × List MemPlace) (hl : cs.length = 2)
    (hy : DataW.trod enc Try.prog W 0 (fun _ => true) true n 23 cs = some y) : ∃ x : Vr, cs = vrCells x ∧ True := by
  obtain ⟨xs, n', _, rfl, -, hlen, hf⟩ := DataW.trod_struct Try.underlying23 hy
  match xs, hlen with
  | [y0, y1], _ =>
    have h0 := hf 0 _ rfl
    have h1 := hf 1 _ rfl
    match cs, hl with
    | [a, b], _ =>
      have h0 : DataW.trod enc Try.prog W 0 (fun _ => true) true n' 3 (([a, b].drop 0).take (Try.prog.cellsOf 3)) = some y0 := by simpa using h0
      have h1 : DataW.trod enc Try.prog W 0 (fun _ => true) true n' 3 (([a, b].drop 1).take (Try.prog.cellsOf 3)) = some y1 := by simpa using h1
      rw [vcells_int] at h0 h1
      obtain ⟨i, e0, -, w0⟩ := DataW.trod_int Try.underlying3 h0
      obtain ⟨j, e1, -, w1⟩ := DataW.trod_int Try.underlying3 h1
      simp at e0 e1
      subst e0 e1
      exact ⟨⟨i, j⟩, rfl, trivial⟩
end Go.Proofs.Ytfpgklpnpplnnaa

namespace Go.Proofs.Ytfpgklpnpplnnaa

structure Itm where
  key : List UInt8
  ver : Vr
  rank : Int
  prio : Int
  dead : Bool
  body : List UInt8
theorem itm_ext {a b : Itm} (h1 : a.key = b.key) (h2 : a.ver = b.ver) (h3 : a.rank = b.rank) (h4 : a.prio = b.prio) (h5 : a.dead = b.dead) (h6 : a.body = b.body) : a = b := by
  cases a; cases b; simp_all
def rightI (x : Itm) : Bool := decide (1 ≤ x.key.length) && (decide (x.key.length ≤ 16) && (rightVr x.ver && (decide (1 ≤ x.rank) && (decide (x.rank ≤ 1099511627776) && (decide (0 ≤ x.prio) && (decide (x.prio ≤ 255) && (decide (x.body.length ≤ 64) && !(x.dead && decide (0 < x.body.length)))))))))
def beatsI (a b : Itm) : Bool := match decide (a.rank = b.rank) with
  | false => decide (b.rank < a.rank)
  | true => lessVr b.ver a.ver
theorem beatsI_iff {a b : Itm} : beatsI a b = true ↔ b.rank < a.rank ∨ a.rank = b.rank ∧ (b.ver.rep < a.ver.rep ∨ b.ver.rep = a.ver.rep ∧ b.ver.cnt < a.ver.cnt) := by
  unfold beatsI
  by_cases h : a.rank = b.rank
  · rw [decide_eq_true h]
    show lessVr b.ver a.ver = true ↔ _
    rw [lessVr_iff]
    omega
  · rw [decide_eq_false h]
    show decide (b.rank < a.rank) = true ↔ _
    rw [decide_eq_true_eq]
    omega
theorem beatsI_no {a b : Itm} : beatsI a b = false ↔ ¬ (b.rank < a.rank ∨ a.rank = b.rank ∧ (b.ver.rep < a.ver.rep ∨ b.ver.rep = a.ver.rep ∧ b.ver.cnt < a.ver.cnt)) := by
  rw [← beatsI_iff, Bool.not_eq_true]
def combO : Option Itm → Option Itm → Option Itm
  | none, y => y
  | some x, none => some x
  | some x, some y => match beatsI y x with
    | true => some y
    | false => some x
theorem combO_none (x : Option Itm) : combO x none = x := by cases x <;> rfl
theorem combO_yes {x y : Itm} (h : beatsI y x = true) : combO (some x) (some y) = some y := by
  show (match beatsI y x with | true => some y | false => some x) = some y
  rw [h]
theorem combO_no {x y : Itm} (h : beatsI y x = false) : combO (some x) (some y) = some x := by
  show (match beatsI y x with | true => some y | false => some x) = some x
  rw [h]
theorem combO_assoc (x y z : Option Itm) : combO (combO x y) z = combO x (combO y z) := by
  cases x with
  | none => rfl
  | some x =>
    cases y with
    | none => rfl
    | some y =>
      cases z with
      | none => rw [combO_none, combO_none]
      | some z =>
        cases h1 : beatsI y x <;> cases h2 : beatsI z y
        · rw [combO_no h1, combO_no h2, combO_no h1]
          rw [beatsI_no] at h1 h2
          exact combO_no (beatsI_no.2 (by omega))
        · rw [combO_no h1, combO_yes h2]
        · rw [combO_yes h1, combO_no h2, combO_yes h1]
        · rw [combO_yes h1, combO_yes h2]
          rw [beatsI_iff] at h1 h2
          exact (combO_yes (beatsI_iff.2 (by omega))).symm
def keepO (p : Itm → Bool) (x : Itm) : Option Itm := match p x with
  | true => some x
  | false => none
theorem keepO_yes {p : Itm → Bool} {x : Itm} (h : p x = true) : keepO p x = some x := by unfold keepO; rw [h]
def bestF (p : Itm → Bool) (l : List Itm) : Option Itm := l.foldl (fun o x => combO o (keepO p x)) none
theorem bestF_from (p : Itm → Bool) : ∀ (l : List Itm) (o : Option Itm), l.foldl (fun o x => combO o (keepO p x)) o = combO o (bestF p l)
  | [], o => (combO_none o).symm
  | x :: l, o => by
    unfold bestF
    rw [List.foldl_cons, List.foldl_cons, bestF_from p l, bestF_from p l, combO_assoc]; rfl
theorem bestF_append (p : Itm → Bool) (a b : List Itm) : bestF p (a ++ b) = combO (bestF p a) (bestF p b) := by
  unfold bestF
  rw [List.foldl_append]
  exact bestF_from p b _
theorem bestF_one (p : Itm → Bool) (x : Itm) : bestF p [x] = keepO p x := rfl
theorem bestF_take {p : Itm → Bool} {l : List Itm} {k : Nat} {x : Itm} (h : l[k]? = some x) : bestF p (l.take (k + 1)) = combO (bestF p (l.take k)) (keepO p x) := by
  rw [List.take_add_one, h, Option.toList_some, bestF_append, bestF_one]
end Go.Proofs.Ytfpgklpnpplnnaa

namespace Go.Proofs
open Go.Shelf
end Go.Proofs

namespace Go.Proofs.Ytfpgklpnpplnnaa
open Go.RowKit

theorem txt_app (a b : List UInt8) : str a ++ str b = str (a ++ b) := by
  apply ByteArray.ext
  rw [ByteArray.data_append]
  simp [str]
theorem txt_at (l : List UInt8) (k : Nat) (h : k < (str l).size) : (str l)[k] = l.getD k 0 := str_get l k (by rwa [str_size] at h)

def rightB (k : List UInt8) : Bool := decide (1 ≤ k.length) && decide (k.length ≤ 16)
theorem key_right (k : List UInt8) (w : World) : Calls Try.prog 38 #[.string (str k)] w fun e w' => e = .returned (.bool (rightB k)) ∧ w = w' := by
  have hz : (str k).size = k.length := str_size k
  have hE : (str k).toList = k := str_toList k
  generalize str k = S at hz hE ⊢
  by_cases h : k = []
  · have h1 : S.toList = [] := by rw [hE, h]
    have HB : Hid (rightB k = false) := by subst h; exact rfl
    clear hE hz h
    go_enter Try.func38, Try.ntmps38
    go_wp2_with fail
    go_ret
    exact ⟨ret_bool HB.out.symm, rfl⟩
  · have h1 : (S.toList == []) = false := by rw [hE]; simpa using h
    have h2 : 0 < k.length := List.length_pos_iff.2 h
    have HB : Hid (decide ((S.size : Int) ≤ 16) = rightB k) := by
      unfold rightB
      rw [decide_eq_true (show 1 ≤ k.length by omega), Bool.true_and, hz]
      exact decide_eq_decide.2 (by omega)
    clear hE h hz
    go_enter Try.func38, Try.ntmps38
    go_wp2_with fail
    go_ret
    exact ⟨ret_bool HB.out, rfl⟩
theorem ref_right (k : List UInt8) (w : World) : Calls Try.prog 22 #[.string (str k)] w fun e w' => e = .returned (.bool (rightB k)) ∧ w = w' := by
  have hz : (str k).size = k.length := str_size k
  generalize str k = S at hz ⊢
  by_cases h : 1 ≤ S.size
  · have HB : Hid (decide ((S.size : Int) ≤ 16) = rightB k) := by
      unfold rightB
      rw [decide_eq_true (show 1 ≤ k.length by omega), Bool.true_and, hz]
      exact decide_eq_decide.2 (by omega)
    clear hz
    go_enter Try.func22, Try.ntmps22
    go_wp2_with fail
    go_ret
    exact ⟨ret_bool HB.out, rfl⟩
  · have HB : Hid (false = rightB k) := by
      unfold rightB
      rw [decide_eq_false (show ¬ 1 ≤ k.length by omega), Bool.false_and]
      exact rfl
    clear hz
    go_enter Try.func22, Try.ntmps22
    go_wp2_with fail
    go_ret
    exact ⟨ret_bool HB.out, rfl⟩
end Go.Proofs.Ytfpgklpnpplnnaa

namespace Go.Proofs.Ytfpgklpnpplnnaa
open Go.RowKit

theorem int_eq_false {x y : UInt8} (h : x ≠ y) : ((x.toNat : Int) == (y.toNat : Int)) = false := by
  rw [beq_eq_false_iff_ne]
  intro e
  exact h (UInt8.toNat_inj.1 (by omega))
end Go.Proofs.Ytfpgklpnpplnnaa

namespace Go.Proofs.Ytfpgklpnpplnnaa

theorem rng_ext {r t : Rng} (h1 : r.lo = t.lo) (h2 : r.hi = t.hi) (h3 : r.op = t.op) : r = t := by cases r; cases t; simp_all
def risingB : List UInt8 → List (List UInt8) → Bool
  | _, [] => true
  | e, x :: l => ltB e x && risingB x l
theorem rising_head {c x : List UInt8} {l : List (List UInt8)} (h : risingB c (x :: l) = true) : ltB c x = true ∧ risingB x l = true := by
  unfold risingB at h; simpa using h
def putL : List (List UInt8) → List UInt8 → List (List UInt8)
  | [], s => [s]
  | x :: l, s => match ltB x s with | true => x :: putL l s | false => match decide (x = s) with | true => x :: l | false => s :: x :: l
theorem putL_behind {x : List UInt8} {l : List (List UInt8)} {s : List UInt8} (h : ltB x s = true) : putL (x :: l) s = x :: putL l s := by rw [putL, h]
theorem putL_there {x : List UInt8} {l : List (List UInt8)} : putL (x :: l) x = x :: l := by rw [putL, ltB_irrefl, decide_eq_true rfl]
theorem putL_here {x : List UInt8} {l : List (List UInt8)} {s : List UInt8} (h : ltB x s = false) (h' : x ≠ s) : putL (x :: l) s = s :: x :: l := by rw [putL, h, decide_eq_false h']
theorem putL_mem : ∀ {l : List (List UInt8)} {s x : List UInt8}, x ∈ putL l s ↔ x = s ∨ x ∈ l
  | [], s, x => by simp [putL]
  | y :: l, s, x => by
    cases h : ltB y s with
    | true => rw [putL_behind h, List.mem_cons, List.mem_cons, putL_mem]; constructor <;> (rintro (h | h | h) <;> simp [h])
    | false =>
      by_cases h' : y = s
      · subst h'; rw [putL_there]; constructor
        · exact .inr
        · rintro (rfl | h)
          · exact List.mem_cons_self ..
          · exact h
      · rw [putL_here h h', List.mem_cons]
theorem putL_rising : ∀ {l : List (List UInt8)} {c s : List UInt8}, risingB c l = true → ltB c s = true → risingB c (putL l s) = true
  | [], c, s, _, h => by simp [putL, risingB, h]
  | x :: l, c, s, hr, hs => by
    obtain ⟨h1, h2⟩ := rising_head hr
    cases h : ltB x s with
    | true => rw [putL_behind h]; unfold risingB; rw [h1, putL_rising h2 h]; rfl
    | false =>
      by_cases h' : x = s
      · subst h'; rw [putL_there]; exact hr
      · have h3 : ltB s x = true := by
          cases hc : ltB s x with
          | true => rfl
          | false => exact absurd (ltB_total h hc) h'
        rw [putL_here h h']; unfold risingB risingB; rw [hs, h3, h2]; rfl
theorem putL_first {l : List (List UInt8)} {s : List UInt8} (h : risingB [] l = true) : ∃ m, putL ([] :: l) s = [] :: m ∧ risingB [] m = true := by
  cases s with
  | nil => exact ⟨l, putL_there, h⟩
  | cons x s => exact ⟨putL l (x :: s), putL_behind (ltB_nil_cons x s), putL_rising h (ltB_nil_cons x s)⟩
def addE (E : List (List UInt8)) (r : Rng) : List (List UInt8) := match rightR r with
  | true => (match r.op with | true => putL E r.lo | false => putL (putL E r.lo) r.hi)
  | false => E
def EdgesOk (E : List (List UInt8)) : Prop := ∃ m, E = [] :: m ∧ risingB [] m = true ∧ ∀ x ∈ m, x.length ≤ 17
theorem EdgesOk.put {E : List (List UInt8)} (h : EdgesOk E) {s : List UInt8} (hs : s.length ≤ 17) : EdgesOk (putL E s) := by
  obtain ⟨m, rfl, h1, h2⟩ := h
  obtain ⟨m', h3, h4⟩ := putL_first (s := s) h1
  refine ⟨m', h3, h4, fun x hx => ?_⟩
  have h5 : x ∈ putL ([] :: m) s := by rw [h3]; exact List.mem_cons_of_mem _ hx
  rcases putL_mem.1 h5 with rfl | h5
  · exact hs
  · rcases List.mem_cons.1 h5 with rfl | h5
    · simp
    · exact h2 x h5
theorem EdgesOk.add {E : List (List UInt8)} (h : EdgesOk E) (r : Rng) : EdgesOk (addE E r) := by
  unfold addE
  cases hr : rightR r with
  | false => exact h
  | true => cases r.op with
    | true => exact h.put (rightR_lo hr)
    | false => exact (h.put (rightR_lo hr)).put (rightR_hi hr)
end Go.Proofs.Ytfpgklpnpplnnaa

namespace Go.Proofs.Ytfpgklpnpplnnaa
open Go.RowKit

theorem get_some {α : Type} {l : List α} {k : Nat} (h : k < l.length) : ∃ x, l[k]? = some x ∧ l.drop k = x :: l.drop (k + 1) ∧ x ∈ l := ⟨l[k], List.getElem?_eq_getElem h, List.drop_eq_getElem_cons h, List.getElem_mem h⟩
end Go.Proofs.Ytfpgklpnpplnnaa

namespace Go.Proofs.Ytfpgklpnpplnnaa
open Go.RowKit

def itmCells (x : Itm) : List Value := [.string (str x.key), .int .i64 x.ver.rep, .int .i64 x.ver.cnt, .int .i64 x.rank, .int .i64 x.prio, .bool x.dead, .string (str x.body)]
noncomputable def kItm : Kind Try.prog Itm where
  ty := 28
  el := 25
  size := 7
  bytes := 72
  zero := .agg #[.string ⟨#[]⟩, .int .i64 0, .int .i64 0, .int .i64 0, .int .i64 0, .bool false, .string ⟨#[]⟩]
  cells := itmCells
  len := fun _ => rfl
  one := fun r u hu => by simp [itmCells] at hu; rcases hu with rfl | rfl | rfl | rfl | rfl | rfl | rfl <;> rfl
  pos := by decide
  under := Try.underlying28
  info := by kernel_rfl
  zsize := rfl
structure IsI (x : Itm) (K : ByteArray) (r c k p : Int) (d : Bool) (B : ByteArray) : Prop where
  key : str x.key = K
  rep : x.ver.rep = r
  cnt : x.ver.cnt = c
  rank : x.rank = k
  prio : x.prio = p
  dead : x.dead = d
  body : str x.body = B
theorem IsI.mk' (x : Itm) : IsI x (str x.key) x.ver.rep x.ver.cnt x.rank x.prio x.dead (str x.body) := ⟨rfl, rfl, rfl, rfl, rfl, rfl, rfl⟩
theorem itms_at {w : World} {B : Nat} {A : Option Addr} {c : Nat} {l : List Itm} (h : kItm.Rd w B A c l) (hp : 0 < l.length) :
    ∃ b o, A = some ⟨b, o, none⟩ ∧ b < B ∧ ∀ k x, l[k]? = some x → w.cell? ⟨b, o + k * 7, none⟩ = some (.string (str x.key)) ∧ w.cell? ⟨b, o + k * 7 + 1, none⟩ = some (.int .i64 x.ver.rep) ∧ w.cell? ⟨b, o + k * 7 + 2, none⟩ = some (.int .i64 x.ver.cnt) ∧ w.cell? ⟨b, o + k * 7 + 3, none⟩ = some (.int .i64 x.rank) ∧ w.cell? ⟨b, o + k * 7 + 4, none⟩ = some (.int .i64 x.prio) ∧ w.cell? ⟨b, o + k * 7 + 5, none⟩ = some (.bool x.dead) ∧ w.cell? ⟨b, o + k * 7 + 6, none⟩ = some (.string (str x.body)) := by
  obtain ⟨b, o, h1, h2, h3⟩ := h.at_ hp
  exact ⟨b, o, h1, h2, fun k x hx => ⟨h3 k x hx 0 _ rfl, h3 k x hx 1 _ rfl, h3 k x hx 2 _ rfl, h3 k x hx 3 _ rfl, h3 k x hx 4 _ rfl, h3 k x hx 5 _ rfl, h3 k x hx 6 _ rfl⟩⟩
theorem rd_maxI {w : World} {B : Nat} {A : Option Addr} {c n : Nat} {l : List Itm} (h : kItm.Rd w B A c l) (hn : n = l.length) : n ≤ 9223372036854775807 := by
  have h1 := h.room
  have h2 := h.cap
  unfold maxLen at h2
  omega
end Go.Proofs.Ytfpgklpnpplnnaa

namespace Go.Proofs.Ytfpgklpnpplnnaa
open Go.ChangeShapes Go.WideShapes Go.ChangeAt Go.RowKit Go.Joins

theorem icells_vr : Try.prog.cellsOf 23 = 2 := by kernel_rfl
theorem icells_str : Try.prog.cellsOf 9 = 1 := by kernel_rfl
theorem icells_bool : Try.prog.cellsOf 4 = 1 := by kernel_rfl
set_option maxRecDepth 100000 in
set_option maxHeartbeats 1000000 in
theorem itm_of {H : Type} {enc : TypeId × Value → H} {W : World} (n : Nat) (cs : List Value) (y : DataW H × List MemPlace) (hl : cs.length = 7)
    (hy : DataW.trod enc Try.prog W 0 (fun _ => true) true n 25 cs = some y) : ∃ x : Itm, cs = itmCells x ∧ True := by
  obtain ⟨xs, n', _, rfl, -, hlen, hf⟩ := DataW.trod_struct Try.underlying25 hy
  match xs, hlen with
  | [y0, y1, y2, y3, y4, y5], _ =>
    have h0 := hf 0 _ rfl
    have h1 := hf 1 _ rfl
    have h2 := hf 2 _ rfl
    have h3 := hf 3 _ rfl
    have h4 := hf 4 _ rfl
    have h5 := hf 5 _ rfl
    match cs, hl with
    | [a0, a1, a2, a3, a4, a5, a6], _ =>
      have h0 : DataW.trod enc Try.prog W 0 (fun _ => true) true n' 9 (([a0, a1, a2, a3, a4, a5, a6].drop 0).take (Try.prog.cellsOf 9)) = some y0 := by simpa using h0
      have h1 : DataW.trod enc Try.prog W 0 (fun _ => true) true n' 23 (([a0, a1, a2, a3, a4, a5, a6].drop 1).take (Try.prog.cellsOf 23)) = some y1 := by simpa using h1
      have h2 : DataW.trod enc Try.prog W 0 (fun _ => true) true n' 3 (([a0, a1, a2, a3, a4, a5, a6].drop 3).take (Try.prog.cellsOf 3)) = some y2 := by simpa using h2
      have h3 : DataW.trod enc Try.prog W 0 (fun _ => true) true n' 3 (([a0, a1, a2, a3, a4, a5, a6].drop 4).take (Try.prog.cellsOf 3)) = some y3 := by simpa using h3
      have h4 : DataW.trod enc Try.prog W 0 (fun _ => true) true n' 4 (([a0, a1, a2, a3, a4, a5, a6].drop 5).take (Try.prog.cellsOf 4)) = some y4 := by simpa using h4
      have h5 : DataW.trod enc Try.prog W 0 (fun _ => true) true n' 9 (([a0, a1, a2, a3, a4, a5, a6].drop 6).take (Try.prog.cellsOf 9)) = some y5 := by simpa using h5
      rw [icells_str] at h0 h5
      rw [icells_vr] at h1
      rw [vcells_int] at h2 h3
      rw [icells_bool] at h4
      obtain ⟨s, e0, -, w0⟩ := DataW.trod_string Try.underlying9 h0
      obtain ⟨v, e1, -⟩ := vr_of _ _ _ (by simp) h1
      obtain ⟨i, e2, -, w2⟩ := DataW.trod_int Try.underlying3 h2
      obtain ⟨j, e3, -, w3⟩ := DataW.trod_int Try.underlying3 h3
      obtain ⟨q, e4, -⟩ := DataW.trod_bool Try.underlying4 h4
      obtain ⟨u, e5, -, w5⟩ := DataW.trod_string Try.underlying9 h5
      simp [vrCells] at e0 e1 e2 e3 e4 e5
      obtain ⟨e11, e12⟩ := e1
      subst e0 e11 e12 e2 e3 e4 e5
      exact ⟨⟨s.data.toList, v, i, j, q, u.data.toList⟩, by simp only [itmCells, str_of], trivial⟩
set_option maxRecDepth 100000 in
theorem in_itms {H : Type} {enc : TypeId × Value → H} {W : World} {base : Nat} {v : Value} {d : DataW H} {p : List MemPlace}
    (hok : Value.okWide Try.prog W .any base 28 v) (h : DataW.Trod enc Try.prog W 0 (fun _ => true) true 28 v d p) :
    ∃ (A : Option Addr) (c : Nat) (l : List Itm), v = .slice A l.length c ∧ kItm.Rd W W.heap.size A c l := by
  obtain ⟨A, c, l, rfl, h1, -, h2, h3⟩ := in_slice itmCells (fun _ => True) Try.underlying28 (k := 7) (by kernel_rfl) (by omega) itm_of hok h
  exact ⟨A, c, l, rfl, h1, h2, h3⟩
set_option maxRecDepth 100000 in
theorem in_itm {H : Type} {enc : TypeId × Value → H} {W : World} {base : Nat} {v : Value} {d : DataW H} {p : List MemPlace}
    (hok : Value.okWide Try.prog W .any base 25 v) (h : DataW.Trod enc Try.prog W 0 (fun _ => true) true 25 v d p) :
    ∃ x : Itm, v = .agg #[.string (str x.key), .int .i64 x.ver.rep, .int .i64 x.ver.cnt, .int .i64 x.rank, .int .i64 x.prio, .bool x.dead, .string (str x.body)] := by
  obtain ⟨cs, rfl, hsz⟩ := okWide_struct Try.underlying25 hok
  obtain ⟨fuel, hf⟩ := h
  obtain ⟨x, e, -⟩ := itm_of fuel cs.toList _ (hsz.trans (by kernel_rfl)) hf
  refine ⟨x, ?_⟩
  rw [show cs = (itmCells x).toArray from by rw [← e]]
  rfl
end Go.Proofs.Ytfpgklpnpplnnaa

namespace Go.Proofs.Ytfpgklpnpplnnaa

def putV (n : Nat) : List UInt8 := if n < 128 then [UInt8.ofNat n] else UInt8.ofNat (n % 128 + 128) :: putV (n / 128)
termination_by n
decreasing_by omega
theorem putV_small {n : Nat} (h : n < 128) : putV n = [UInt8.ofNat n] := by rw [putV, if_pos h]
theorem putV_big {n : Nat} (h : ¬ n < 128) : putV n = UInt8.ofNat (n % 128 + 128) :: putV (n / 128) := by rw [putV, if_neg h]
theorem putV_len (k : Nat) : ∀ n, n < 128 ^ (k + 1) → (putV n).length ≤ k + 1 := by
  induction k with
  | zero => intro n h; rw [putV_small (by simpa using h)]; simp
  | succ k ih =>
    intro n h
    by_cases hn : n < 128
    · rw [putV_small hn]; simp
    · rw [putV_big hn, List.length_cons]
      have := ih (n / 128) (by rw [Nat.pow_succ] at h; omega)
      omega
theorem putV_len10 (n : Nat) (h : n ≤ 9223372036854775807) : (putV n).length ≤ 9 := by
  have e : 128 ^ (8 + 1) = 9223372036854775808 := by decide
  exact putV_len 8 n (by omega)
theorem putV_pos (n : Nat) : 0 < (putV n).length := by
  by_cases h : n < 128
  · rw [putV_small h]; simp
  · rw [putV_big h]; simp

def putsV (l : List Int) : List UInt8 := l.flatMap fun n => putV n.toNat
theorem putsV_cons (n : Int) (l : List Int) : putsV (n :: l) = putV n.toNat ++ putsV l := by simp [putsV]
theorem putsV_snoc (l : List Int) (n : Int) : putsV (l ++ [n]) = putsV l ++ putV n.toNat := by simp [putsV]
theorem putsV_len (l : List Int) (h : ∀ n ∈ l, n ≤ 9223372036854775807) : (putsV l).length ≤ 9 * l.length := by
  induction l with
  | nil => simp [putsV]
  | cons x r ih =>
    rw [putsV_cons, List.length_append, List.length_cons]
    have h1 := putV_len10 x.toNat (by have := h x (by simp); omega)
    have h2 := ih fun n hn => h n (by simp [hn])
    omega

def valV : List UInt8 → Nat
  | [] => 0
  | c :: r => c.toNat % 128 + 128 * valV r

def cutGo : Nat → Nat → List UInt8 → Nat × Nat × Nat
  | i, _, [] => if 8 ≤ i then (0, 0, 11) else (0, 0, 10)
  | i, a, c :: r =>
    if 8 ≤ i then (0, 0, 11)
    else if 128 ≤ c.toNat then cutGo (i + 1) (a + c.toNat % 128 * 128 ^ i) r
    else if (0 < i ∧ c.toNat = 0) ∨ 281474976710656 < a + c.toNat % 128 * 128 ^ i then (0, 0, 11)
    else (a + c.toNat % 128 * 128 ^ i, i + 1, 0)
def cutV (l : List UInt8) : Nat × Nat × Nat := cutGo 0 0 l

theorem cutGo_put : ∀ (n : Nat) (i a : Nat) (r : List UInt8), a + n * 128 ^ i ≤ 281474976710656 → (0 < i → 0 < n) → cutGo i a (putV n ++ r) = (a + n * 128 ^ i, i + (putV n).length, 0) := by
  intro n
  induction n using Nat.strongRecOn with
  | _ n ih =>
    intro i a r hm hi
    have hi8 : ¬ 8 ≤ i := by
      intro h8
      have hn : 0 < n := hi (by omega)
      have h1 : 128 ^ 8 ≤ 128 ^ i := Nat.pow_le_pow_right (by decide) h8
      have h2 : 128 ^ i ≤ n * 128 ^ i := Nat.le_mul_of_pos_left _ hn
      have h3 : 128 ^ 8 = 72057594037927936 := by decide
      omega
    by_cases h : n < 128
    · rw [putV_small h]
      have e : (UInt8.ofNat n).toNat = n := by simp; omega
      simp only [List.cons_append, List.nil_append, cutGo, if_neg hi8, e, List.length_cons, List.length_nil]
      rw [if_neg (by omega), Nat.mod_eq_of_lt h, if_neg ?_]
      rintro (⟨h1, h2⟩ | h1)
      · have := hi h1; omega
      · omega
    · rw [putV_big h]
      have e : (UInt8.ofNat (n % 128 + 128)).toNat = n % 128 + 128 := by simp; omega
      simp only [List.cons_append, cutGo, if_neg hi8, e, List.length_cons]
      have hm128 : (n % 128 + 128) % 128 = n % 128 := by omega
      have key : n % 128 * 128 ^ i + n / 128 * 128 ^ (i + 1) = n * 128 ^ i := by
        rw [Nat.pow_succ, Nat.mul_comm (128 ^ i) 128, ← Nat.mul_assoc, ← Nat.add_mul]
        congr 1; omega
      rw [if_pos (by omega), hm128, ih (n / 128) (by omega) (i + 1) _ r (by omega) (fun _ => by omega)]
      refine Prod.ext ?_ (Prod.ext ?_ rfl)
      · show a + n % 128 * 128 ^ i + n / 128 * 128 ^ (i + 1) = a + n * 128 ^ i
        omega
      · show i + 1 + (putV (n / 128)).length = i + ((putV (n / 128)).length + 1)
        omega
theorem cutV_put (n : Nat) (r : List UInt8) (h : n ≤ 281474976710656) : cutV (putV n ++ r) = (n, (putV n).length, 0) := by
  unfold cutV
  rw [cutGo_put n 0 0 r (by simpa using h) (by omega)]
  simp

theorem cutGo_back : ∀ (l : List UInt8) (i a n k : Nat), cutGo i a l = (n, k, 0) → ∃ m, n = a + m * 128 ^ i ∧ k = i + (putV m).length ∧ l.take (putV m).length = putV m ∧ (0 < i → 0 < m) := by
  intro l
  induction l with
  | nil => intro i a n k h; rw [cutGo] at h; split at h <;> simp at h
  | cons c r ih =>
    intro i a n k h
    rw [cutGo] at h
    by_cases h8 : 8 ≤ i
    · rw [if_pos h8] at h; simp at h
    · rw [if_neg h8] at h
      by_cases hc : 128 ≤ c.toNat
      · rw [if_pos hc] at h
        obtain ⟨m, h1, h2, h3, h4⟩ := ih (i + 1) _ n k h
        have hm := h4 (by omega)
        have hc256 := c.toNat_lt
        have hb : ¬ (c.toNat % 128 + 128 * m) < 128 := by omega
        have e1 : (c.toNat % 128 + 128 * m) / 128 = m := by omega
        have e2 : (c.toNat % 128 + 128 * m) % 128 + 128 = c.toNat := by omega
        have e3 : putV (c.toNat % 128 + 128 * m) = c :: putV m := by
          rw [putV_big hb, e1, e2]; simp
        refine ⟨c.toNat % 128 + 128 * m, ?_, ?_, ?_, fun _ => by omega⟩
        · rw [h1, Nat.pow_succ, Nat.add_mul, Nat.mul_comm (128 ^ i) 128, ← Nat.mul_assoc, Nat.mul_comm m 128]; omega
        · rw [e3, List.length_cons]; omega
        · rw [e3, List.length_cons, List.take_succ_cons, h3]
      · rw [if_neg hc] at h
        split at h
        · simp at h
        · rename_i hno
          simp only [Prod.mk.injEq] at h
          obtain ⟨h1, h2, -⟩ := h
          have e3 : putV c.toNat = [c] := by rw [putV_small (by omega)]; simp
          refine ⟨c.toNat, ?_, ?_, ?_, fun hi => ?_⟩
          · rw [← h1, Nat.mod_eq_of_lt (by omega)]
          · rw [e3]; simpa using h2.symm
          · rw [e3]; rfl
          · rcases Nat.eq_zero_or_pos c.toNat with h0 | h0
            · exact absurd (.inl ⟨hi, h0⟩) hno
            · exact h0
theorem cutV_back {l : List UInt8} {n k : Nat} (h : cutV l = (n, k, 0)) : k = (putV n).length ∧ l.take k = putV n ∧ k ≤ l.length := by
  obtain ⟨m, h1, h2, h3, -⟩ := cutGo_back l 0 0 n k h
  have e : m = n := by simpa using h1.symm
  subst e
  have hk : k = (putV m).length := by simpa using h2
  refine ⟨hk, hk ▸ h3, ?_⟩
  have := congrArg List.length h3
  rw [List.length_take] at this
  omega
theorem cutGo_max : ∀ (l : List UInt8) (i a : Nat), (cutGo i a l).1 ≤ 281474976710656 := by
  intro l
  induction l with
  | nil => intro i a; rw [cutGo]; split <;> simp
  | cons c r ih =>
    intro i a
    rw [cutGo]
    split
    · simp
    · split
      · exact ih _ _
      · split
        · simp
        · rename_i h; simp only; omega
theorem cutV_max (l : List UInt8) : (cutV l).1 ≤ 281474976710656 := cutGo_max l 0 0
theorem cutGo_err : ∀ (l : List UInt8) (i a : Nat), (cutGo i a l).2.2 ≠ 0 → (cutGo i a l).1 = 0 ∧ (cutGo i a l).2.1 = 0 := by
  intro l
  induction l with
  | nil => intro i a; rw [cutGo]; split <;> simp
  | cons c r ih =>
    intro i a
    rw [cutGo]
    split
    · simp
    · split
      · exact ih _ _
      · split <;> simp
theorem cutV_err {l : List UInt8} (h : (cutV l).2.2 ≠ 0) : (cutV l).1 = 0 ∧ (cutV l).2.1 = 0 := cutGo_err l 0 0 h
theorem cutGo_size : ∀ (l : List UInt8) (i a : Nat), i ≤ 8 → (cutGo i a l).2.1 ≤ 8 := by
  intro l
  induction l with
  | nil => intro i a _; rw [cutGo]; split <;> simp
  | cons c r ih =>
    intro i a hi
    rw [cutGo]
    split
    · simp
    · split
      · exact ih _ _ (by omega)
      · split <;> simp <;> omega
theorem cutV_size (l : List UInt8) : (cutV l).2.1 ≤ 8 := cutGo_size l 0 0 (by omega)
theorem cutV_le (l : List UInt8) : (cutV l).2.1 ≤ l.length := by
  by_cases h : (cutV l).2.2 = 0
  · exact (cutV_back (l := l) (n := (cutV l).1) (k := (cutV l).2.1) (by rw [← h])).2.2
  · rw [(cutV_err h).2]; omega

def Lead (l : List UInt8) (k : Nat) : Prop := k ≤ l.length ∧ ∀ j, j < k → 128 ≤ (l.getD j 0).toNat
theorem Lead.zero (l : List UInt8) : Lead l 0 := ⟨Nat.zero_le _, fun j h => by omega⟩
theorem Lead.next {l : List UInt8} {k : Nat} (h : Lead l k) (hk : k < l.length) (hc : 128 ≤ (l.getD k 0).toNat) : Lead l (k + 1) :=
  ⟨hk, fun j hj => by
    rcases Nat.lt_or_ge j k with h' | h'
    · exact h.2 j h'
    · obtain rfl : j = k := by omega
      exact hc⟩
theorem valV_snoc : ∀ (l : List UInt8) (c : UInt8), valV (l ++ [c]) = valV l + c.toNat % 128 * 128 ^ l.length
  | [], c => by simp [valV]
  | x :: l, c => by
    rw [List.cons_append, valV, valV, valV_snoc l c, List.length_cons, Nat.pow_succ, Nat.mul_add, Nat.mul_comm (128 ^ l.length) 128, ← Nat.mul_assoc, ← Nat.mul_assoc, Nat.mul_comm 128 (c.toNat % 128)]
    omega
theorem valV_take (l : List UInt8) (k : Nat) (h : k < l.length) : valV (l.take (k + 1)) = valV (l.take k) + (l.getD k 0).toNat % 128 * 128 ^ k := by
  rw [take_snoc_getD l k h, valV_snoc, List.length_take, Nat.min_eq_left (by omega)]
theorem valV_drop (l : List UInt8) (k : Nat) (h : k < l.length) : valV (l.drop k) = (l.getD k 0).toNat % 128 + 128 * valV (l.drop (k + 1)) := by
  rw [drop_cons_getD8 l k h, valV]
theorem valV_lt : ∀ (l : List UInt8), valV l < 128 ^ l.length
  | [] => by simp [valV]
  | c :: r => by
    have := valV_lt r
    rw [valV, List.length_cons, Nat.pow_succ]; omega
theorem valV_take_lt (l : List UInt8) (k : Nat) (h : k ≤ 8) : valV (l.take k) < 72057594037927936 := by
  have h1 := valV_lt (l.take k)
  have h2 : 128 ^ (l.take k).length ≤ 128 ^ 8 := Nat.pow_le_pow_right (by decide) (by rw [List.length_take]; omega)
  have h3 : 128 ^ 8 = 72057594037927936 := by decide
  omega
theorem cutV_lead {l : List UInt8} : ∀ {k : Nat}, Lead l k → k ≤ 8 → cutV l = cutGo k (valV (l.take k)) (l.drop k)
  | 0, _, _ => by simp [cutV, valV]
  | k + 1, h, h8 => by
    have hk : k < l.length := h.1
    rw [cutV_lead (k := k) ⟨by omega, fun j hj => h.2 j (by omega)⟩ (by omega), drop_cons_getD8 l k hk, cutGo, if_neg (by omega), if_pos (h.2 k (by omega)), ← valV_take l k hk]
theorem cut_eight {l : List UInt8} (h : Lead l 8) : cutV l = (0, 0, 11) := by
  rw [cutV_lead h (by omega)]
  cases l.drop 8 with
  | nil => rfl
  | cons c r => rfl
theorem cut_short {l : List UInt8} (h : Lead l l.length) (h8 : l.length < 8) : cutV l = (0, 0, 10) := by
  rw [cutV_lead h (by omega), List.drop_length, cutGo, if_neg (by omega)]
theorem cut_bad {l : List UInt8} {k : Nat} (h : Lead l k) (hk : k < l.length) (h8 : k < 8) (hc : (l.getD k 0).toNat < 128)
    (hb : (0 < k ∧ (l.getD k 0).toNat = 0) ∨ 281474976710656 < valV (l.take (k + 1))) : cutV l = (0, 0, 11) := by
  rw [cutV_lead h (by omega), drop_cons_getD8 l k hk, cutGo, if_neg (by omega), if_neg (by omega), ← valV_take l k hk, if_pos hb]
theorem cut_good {l : List UInt8} {k : Nat} (h : Lead l k) (hk : k < l.length) (h8 : k < 8) (hc : (l.getD k 0).toNat < 128)
    (hb : ¬ ((0 < k ∧ (l.getD k 0).toNat = 0) ∨ 281474976710656 < valV (l.take (k + 1)))) : cutV l = (valV (l.take (k + 1)), k + 1, 0) := by
  rw [cutV_lead h (by omega), drop_cons_getD8 l k hk, cutGo, if_neg (by omega), if_neg (by omega), ← valV_take l k hk, if_neg hb]

def numR (l : List UInt8) (e : Int) : Nat × List UInt8 × Int :=
  if e = 0 then (if (cutV l).2.2 = 0 then ((cutV l).1, l.drop (cutV l).2.1, 0) else (0, l, ((cutV l).2.2 : Int))) else (0, l, e)
def withinR (lo hi : Int) (l : List UInt8) (e : Int) : Nat × List UInt8 × Int :=
  if ((numR l e).1 : Int) < lo ∨ hi < ((numR l e).1 : Int) then (0, l, if (numR l e).2.2 = 0 then 11 else (numR l e).2.2) else numR l e
def textR (most : Int) (l : List UInt8) (e : Int) : List UInt8 × List UInt8 × Int :=
  if (withinR 0 most l e).2.1.length < (withinR 0 most l e).1 then ([], l, if (withinR 0 most l e).2.2 = 0 then 10 else (withinR 0 most l e).2.2)
  else ((withinR 0 most l e).2.1.take (withinR 0 most l e).1, (withinR 0 most l e).2.1.drop (withinR 0 most l e).1, (withinR 0 most l e).2.2)
def endR (l : List UInt8) (e : Int) : Int := if e = 0 ∧ l ≠ [] then 14 else e

theorem numR_err {l : List UInt8} {e : Int} (h : e ≠ 0) : numR l e = (0, l, e) := by unfold numR; rw [if_neg h]
theorem numR_same (l : List UInt8) (e : Int) (h : (numR l e).2.2 ≠ 0) : (numR l e).1 = 0 ∧ (numR l e).2.1 = l := by
  unfold numR at h ⊢
  split
  · split
    · rename_i h1 h2; rw [if_pos h1, if_pos h2] at h; simp at h
    · simp
  · simp
theorem withinR_same (lo hi : Int) (l : List UInt8) (e : Int) (h : (withinR lo hi l e).2.2 ≠ 0) : (withinR lo hi l e).1 = 0 ∧ (withinR lo hi l e).2.1 = l := by
  unfold withinR at h ⊢
  split
  · simp
  · rename_i h1; rw [if_neg h1] at h; exact numR_same l e h
theorem withinR_err {lo hi : Int} {l : List UInt8} {e : Int} (h : e ≠ 0) : withinR lo hi l e = (0, l, e) := by
  unfold withinR
  rw [numR_err h]
  simp [h]
theorem numR_suffix (l : List UInt8) (e : Int) : ∃ k, k ≤ l.length ∧ (numR l e).2.1 = l.drop k := by
  unfold numR
  split
  · split
    · exact ⟨_, cutV_le l, rfl⟩
    · exact ⟨0, by omega, rfl⟩
  · exact ⟨0, by omega, rfl⟩
theorem numR_len (l : List UInt8) (e : Int) : (numR l e).2.1.length ≤ l.length := by
  obtain ⟨k, _, h⟩ := numR_suffix l e
  rw [h, List.length_drop]; omega
theorem withinR_len (lo hi : Int) (l : List UInt8) (e : Int) : (withinR lo hi l e).2.1.length ≤ l.length := by
  unfold withinR
  split
  · simp
  · exact numR_len l e
theorem textR_len (most : Int) (l : List UInt8) (e : Int) : (textR most l e).2.1.length ≤ l.length := by
  unfold textR
  split
  · simp
  · have := withinR_len 0 most l e
    simp only [List.length_drop]; omega
theorem withinR_cut {lo hi : Int} {l : List UInt8} {n k x : Nat} (h : cutV l = (n, k, x)) :
    k ≤ l.length ∧ k ≤ 8 ∧ n ≤ 281474976710656 ∧ (x ≠ 0 → withinR lo hi l 0 = (0, l, (x : Int))) ∧ (x = 0 → ((n : Int) < lo ∨ hi < (n : Int)) → withinR lo hi l 0 = (0, l, 11)) ∧
      (x = 0 → ¬ ((n : Int) < lo ∨ hi < (n : Int)) → withinR lo hi l 0 = (n, l.drop k, 0)) := by
  have h1 := cutV_le l
  have h2 := cutV_size l
  have h3 := cutV_max l
  rw [h] at h1 h2 h3
  refine ⟨h1, h2, h3, fun hx => ?_, fun hx hr => ?_, fun hx hr => ?_⟩
  · have e : numR l 0 = (0, l, (x : Int)) := by unfold numR; rw [if_pos rfl, h, if_neg hx]
    have hx' : ¬ (x : Int) = 0 := by omega
    unfold withinR
    rw [e]
    show (if _ then (0, l, if (x : Int) = 0 then 11 else (x : Int)) else _) = _
    rw [if_neg hx', ite_self]
  · subst hx
    have e : numR l 0 = (n, l.drop k, 0) := by unfold numR; rw [if_pos rfl, h, if_pos rfl]
    unfold withinR
    rw [e, if_pos hr]
    rfl
  · subst hx
    have e : numR l 0 = (n, l.drop k, 0) := by unfold numR; rw [if_pos rfl, h, if_pos rfl]
    unfold withinR
    rw [e, if_neg hr]
theorem numR_put (n : Nat) (r : List UInt8) (h : n ≤ 281474976710656) : numR (putV n ++ r) 0 = (n, r, 0) := by
  unfold numR
  rw [if_pos rfl, cutV_put n r h]
  simp
end Go.Proofs.Ytfpgklpnpplnnaa

namespace Go.Proofs.Ytfpgklpnpplnnaa

instance : DecidableEq Rng := fun r t => match decEq r.lo t.lo, decEq r.hi t.hi, decEq r.op t.op with
  | .isTrue h1, .isTrue h2, .isTrue h3 => .isTrue (rng_ext h1 h2 h3)
  | .isFalse h, _, _ => .isFalse fun e => h (by rw [e])
  | _, .isFalse h, _ => .isFalse fun e => h (by rw [e])
  | _, _, .isFalse h => .isFalse fun e => h (by rw [e])
def SmallL (n : Nat) (l : List Rng) : Prop := l.length ≤ n ∧ ∀ r ∈ l, r.lo.length ≤ 1000 ∧ r.hi.length ≤ 1000
theorem SmallL.mono {n m : Nat} {l : List Rng} (h : SmallL n l) (hm : n ≤ m) : SmallL m l := ⟨Nat.le_trans h.1 hm, h.2⟩
end Go.Proofs.Ytfpgklpnpplnnaa
