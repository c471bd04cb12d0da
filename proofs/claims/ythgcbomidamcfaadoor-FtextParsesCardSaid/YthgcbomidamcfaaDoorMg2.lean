/-
  Several texts in one: Kind, RgsPure, Rgs, RgsSets, ShelfCmp, KeyA, KeyB, KeyC, KeyD, Cut, KeyE, Law06A.
-/
import Derived.Shelf.Small.Strs
import Derived.Test.YthgcbomidamcfaaDoorProg
import Derived.Outline
import Derived.Deep.RegionHeld3
import Derived.BigRegion
import Derived.Lib.SliceRun
import Derived.Test.YthgcbomidamcfaaDoorMg1
/-
  Lists of things that take some cells each, as rows of the program: read, owned, appended to, stored into.
-/
namespace Go.Proofs.YthgcbomidamcfaaDoor
open Go.RowKit

theorem below_new (w : World) (o : Obj) : Below w.heap.size w (w.alloc o) := (Below.refl _ _).alloc (Nat.le_refl _) o
/-- How a thing lies in memory, and in slices of which type. -/
structure Kind (P : Program) (α : Type) where
  ty : TypeId
  el : TypeId
  size : Nat
  bytes : Nat
  zero : Value
  cells : α → List Value
  len : ∀ x, (cells x).length = size
  one : ∀ x, ∀ u ∈ cells x, u.oneCell' = true
  pos : 0 < size
  under : P.underlying ty = some (.slice el)
  info : (P.info? el).map (fun i => (i.zero, i.size, i.bytes)) = some (some zero, size, bytes)
  zsize : zero.cells.size = size

namespace Kind
variable {P : Program} {α : Type} (k : Kind P α)

def row (l : List α) : List Value := l.flatMap k.cells
theorem row_nil : k.row [] = [] := rfl
theorem row_cons (x : α) (l : List α) : k.row (x :: l) = k.cells x ++ k.row l := rfl
theorem row_append (a b : List α) : k.row (a ++ b) = k.row a ++ k.row b := by simp [row]
theorem row_one (x : α) : k.row [x] = k.cells x := by simp [row]
theorem row_len : ∀ l : List α, (k.row l).length = l.length * k.size
  | [] => by simp [row]
  | x :: l => by rw [row_cons, List.length_append, k.len, row_len l, List.length_cons, Nat.succ_mul, Nat.add_comm]
theorem row_cells (l : List α) : ∀ u ∈ k.row l, u.oneCell' = true := fun u hu => by
  obtain ⟨x, _, hx⟩ := List.mem_flatMap.1 hu
  exact k.one x u hx
/-- Cell j of thing i. -/
theorem row_get : ∀ {l : List α} {i j : Nat} {x : α}, l[i]? = some x → j < k.size → (k.row l)[i * k.size + j]? = (k.cells x)[j]?
  | [], i, j, x, h, _ => by cases h
  | y :: l, 0, j, x, h, hj => by
    simp only [List.getElem?_cons_zero, Option.some.injEq] at h
    subst h
    rw [row_cons, Nat.zero_mul, Nat.zero_add, List.getElem?_append_left (by rw [k.len]; exact hj)]
  | y :: l, i + 1, j, x, h, hj => by
    rw [List.getElem?_cons_succ] at h
    rw [row_cons, List.getElem?_append_right (by rw [k.len, Nat.succ_mul]; omega), k.len, ← row_get h hj, Nat.succ_mul]
    congr 1; omega
theorem row_set : ∀ {l : List α} {i j : Nat} {x y : α} {v : Value}, l[i]? = some x → j < k.size → (k.cells x).set j v = k.cells y → (k.row l).set (i * k.size + j) v = k.row (l.set i y)
  | [], i, j, x, y, v, h, _, _ => by cases h
  | z :: l, 0, j, x, y, v, h, hj, he => by
    simp only [List.getElem?_cons_zero, Option.some.injEq] at h
    subst h
    rw [row_cons, Nat.zero_mul, Nat.zero_add, List.set_append_left _ _ (by rw [k.len]; exact hj), he, List.set_cons_zero, row_cons]
  | z :: l, i + 1, j, x, y, v, h, hj, he => by
    rw [List.getElem?_cons_succ] at h
    rw [row_cons, List.set_append_right _ _ (by rw [k.len, Nat.succ_mul]; omega), List.set_cons_succ, row_cons, ← row_set h hj he, k.len]
    congr 2
    rw [Nat.succ_mul]; omega

theorem row_take : ∀ (l : List α) (i : Nat), k.row (l.take i) = (k.row l).take (i * k.size)
  | [], i => by simp [row]
  | x :: l, 0 => by simp [row]
  | x :: l, i + 1 => by
    have e : (i + 1) * k.size = (k.cells x).length + i * k.size := by rw [k.len, Nat.succ_mul, Nat.add_comm]
    rw [List.take_succ_cons, row_cons, row_cons, row_take l i, e, List.take_length_add_append]
theorem row_drop : ∀ (l : List α) (i : Nat), k.row (l.drop i) = (k.row l).drop (i * k.size)
  | [], i => by simp [row]
  | x :: l, 0 => by simp [row]
  | x :: l, i + 1 => by
    have e : (i + 1) * k.size = (k.cells x).length + i * k.size := by rw [k.len, Nat.succ_mul, Nat.add_comm]
    rw [List.drop_succ_cons, row_cons, row_drop l i, e, List.drop_length_add_append]

/-- A row that reads as these things, with its room. -/
structure Rd (w : World) (B : Nat) (A : Option Addr) (c : Nat) (l : List α) : Prop where
  row : RowAt w B A (k.row l)
  room : l.length ≤ c
  cap : c ≤ maxLen
variable {k}
theorem Rd.keep {w w' : World} {B : Nat} {A : Option Addr} {c : Nat} {l : List α} (h : k.Rd w B A c l) (hk : ∀ p : Addr, p.block < B → w'.cell? p = w.cell? p) : k.Rd w' B A c l := ⟨h.row.keep hk, h.room, h.cap⟩
theorem Rd.below {w w' : World} {B : Nat} {A : Option Addr} {c : Nat} {l : List α} (h : k.Rd w B A c l) (hb : Below B w w') : k.Rd w' B A c l := ⟨h.row.below hb, h.room, h.cap⟩
theorem Rd.more {w : World} {B B' : Nat} {A : Option Addr} {c : Nat} {l : List α} (h : k.Rd w B A c l) (hB : B ≤ B') : k.Rd w B' A c l := ⟨h.row.more hB, h.room, h.cap⟩
theorem Rd.call {w w' : World} {A : Option Addr} {c : Nat} {l : List α} (h : k.Rd w w.heap.size A c l) (hb : Below w.heap.size w w') : k.Rd w' w'.heap.size A c l := (h.below hb).more hb.size
theorem Rd.drewN {w : World} {B : Nat} {A : Option Addr} {c : Nat} {l : List α} (h : k.Rd w B A c l) (n : Nat) : k.Rd (w.drewN n) B A c l := ⟨h.row, h.room, h.cap⟩
theorem Rd.nil (w : World) (B : Nat) : k.Rd w B none 0 [] := ⟨.inl rfl, Nat.le_refl _, Nat.zero_le _⟩
/-- Where the things lie. -/
theorem Rd.at_ {w : World} {B : Nat} {A : Option Addr} {c : Nat} {l : List α} (h : k.Rd w B A c l) (hp : 0 < l.length) :
    ∃ b o, A = some ⟨b, o, none⟩ ∧ b < B ∧ ∀ i x, l[i]? = some x → ∀ j u, (k.cells x)[j]? = some u → w.cell? ⟨b, o + (i * k.size + j), none⟩ = some u := by
  rcases h.row with h0 | ⟨b, o, h1, h2, h3⟩
  · exfalso
    have := congrArg List.length h0
    rw [k.row_len, List.length_nil] at this
    have := Nat.mul_pos hp k.pos
    omega
  · refine ⟨b, o, h1, h2, fun i x hx j u hu => h3 _ _ ?_⟩
    have hj : j < k.size := by
      rw [← k.len x]
      exact (List.getElem?_eq_some_iff.1 hu).1
    rw [k.row_get hx hj]; exact hu

/-- A row of the call's own. -/
def Own (k : Kind P α) (w : World) (base : Nat) (v : Value) (l : List α) : Prop := w.ownsRow base k.el k.size v l.length (k.row l)
theorem Own.of_row {w : World} {base n : Nat} {v : Value} {l : List α} (h : w.ownsRow base k.el k.size v n (k.row l)) : k.Own w base v l := by
  have h1 := h.1
  rw [k.row_len] at h1
  obtain rfl : l.length = n := Nat.eq_of_mul_eq_mul_right k.pos h1
  exact h
theorem Own.nil (w : World) (base : Nat) : k.Own w base (.slice none 0 0) [] := ⟨by simp [row], .inl ⟨rfl, rfl⟩⟩
theorem Own.alloc {w : World} {base : Nat} {v : Value} {l : List α} (h : k.Own w base v l) (o : Obj) : k.Own (w.alloc o) base v l := World.ownsRow.alloc h o
theorem Own.kept {w w' : World} {r : Option Nat} {base : Nat} {v : Value} {l : List α} (h : k.Own w base v l) (hg : w.grownBy w' r) (hne : v.ownBlock = none ∨ v.ownBlock ≠ r) : k.Own w' base v l := World.ownsRow.kept h hg hne
theorem Own.lt {w : World} {base : Nat} {v : Value} {l : List α} (h : k.Own w base v l) : ∀ g, v.ownBlock = some g → base ≤ g ∧ g < w.heap.size := World.ownsRow.lt h
theorem Own.below {w w' : World} {base : Nat} {v : Value} {l : List α} (h : k.Own w base v l) (hb : Below w.heap.size w w') : k.Own w' base v l :=
  h.kept (grown_of_below hb none) (by cases hv : v.ownBlock <;> simp)
theorem Own.other {w w' : World} {base r : Nat} {v : Value} {l : List α} (h : k.Own w base v l) (hg : w.grownBy w' (some r)) (hr : r < base) : k.Own w' base v l :=
  h.kept hg (by
    cases hv : v.ownBlock with
    | none => exact .inl rfl
    | some g => exact .inr (fun e => by have := (h.lt g hv).1; injection e with e; omega))
theorem Own.mono {w : World} {base base' : Nat} {v : Value} {l : List α} (h : k.Own w base v l) (hb : base' ≤ base) : k.Own w base' v l := by
  obtain ⟨h1, h2⟩ := h
  refine ⟨h1, ?_⟩
  rcases h2 with h2 | ⟨g, cap, cur, hv, hg, r⟩
  · exact .inl h2
  · exact .inr ⟨g, cap, cur, hv, by omega, r⟩
theorem Own.form {w : World} {base : Nat} {v : Value} {l : List α} (h : k.Own w base v l) : ∃ A c, v = .slice A l.length c ∧ k.Rd w w.heap.size A c l := by
  obtain ⟨A, c, rfl, hc⟩ := own_form h
  refine ⟨A, c, rfl, RowAt.of_own h, hc, ?_⟩
  rcases h.2 with ⟨hv, _⟩ | ⟨g, cap, cur, hv, _, _, _, hm, _⟩
  · injection hv with _ _ h3; subst h3; exact Nat.zero_le _
  · injection hv with _ _ h3; subst h3; exact hm
theorem Own.rd {w : World} {base n c : Nat} {A : Option Addr} {l : List α} (h : k.Own w base (.slice A n c) l) : k.Rd w w.heap.size A c l := by
  obtain ⟨A', c', hv, hr⟩ := h.form
  injection hv with h1 _ h3
  subst h1 h3
  exact hr
theorem Own.read_n {w : World} {base n : Nat} {v : Value} {l : List α} (h : k.Own w base v l) (hn : n = l.length) : ∃ A c, v = .slice A n c ∧ k.Rd w w.heap.size A c l := by subst hn; exact h.form
/-- An own row with something in it lies at the head of a block of the call's own, free, and its cells are known. -/
theorem Own.some_ {w : World} {base n : Nat} {v : Value} {l : List α} (h : k.Own w base v l) (hn : n = l.length) (hp : 0 < n) :
    ∃ g c, v = .slice (some ⟨g, 0, none⟩) n c ∧ n ≤ c ∧ base ≤ g ∧ g < w.heap.size ∧ (∀ j, w.frozen? ⟨g, j, none⟩ = false) ∧ ∀ i x, l[i]? = some x → ∀ j u, (k.cells x)[j]? = some u → w.cell? ⟨g, i * k.size + j, none⟩ = some u := by
  subst hn
  rcases h.2 with ⟨_, h0⟩ | ⟨g, cap, cur, hv, hg, hb, hc, _, _, ht⟩
  · omega
  · refine ⟨g, cap, hv, hc, hg, lt_of_block hb, fun j => by simp [World.frozen?, hb], fun i x hx j u hu => ?_⟩
    rw [cell_of_row _ _ _ cur _ (0, 0) hb, ← Array.getElem?_toList]
    have hj : j < k.size := by
      rw [← k.len x]
      exact (List.getElem?_eq_some_iff.1 hu).1
    have h1 := k.row_get hx hj
    rw [hu, ← ht, List.getElem?_take] at h1
    split at h1
    · exact h1
    · cases h1
theorem Own.at_g {w : World} {base g n c : Nat} {l : List α} (h : k.Own w base (.slice (some ⟨g, 0, none⟩) n c) l) (hn : n = l.length) (hp : 0 < n) :
    base ≤ g ∧ g < w.heap.size ∧ (∀ j, w.frozen? ⟨g, j, none⟩ = false) ∧ ∀ i x, l[i]? = some x → ∀ j u, (k.cells x)[j]? = some u → w.cell? ⟨g, i * k.size + j, none⟩ = some u := by
  obtain ⟨g', c', hv, _, h1, h2, h3, h4⟩ := h.some_ hn hp
  injection hv with hA
  injection hA with hA
  injection hA with hA
  subst hA
  exact ⟨h1, h2, h3, h4⟩
theorem Own.stored {w : World} {base g n c : Nat} {l : List α} (h : k.Own w base (.slice (some ⟨g, 0, none⟩) n c) l) (hn : n = l.length) {i j : Nat} {x y : α} {v : Value} (hx : l[i]? = some x) (hj : j < k.size) (he : (k.cells x).set j v = k.cells y) :
    k.Own (w.setCell ⟨g, i * k.size + j, none⟩ v) base (.slice (some ⟨g, 0, none⟩) n c) (l.set i y) := by
  subst hn
  have := (World.ownsRow.stored h (i * k.size + j) v).1
  rw [k.row_set hx hj he] at this
  exact Own.of_row this
/-- A block that has just been made reads as its things. -/
theorem rd_new {w : World} {cs : Array Value} {l : List α} {t : TypeId} {n : Nat} (hl : cs.toList = k.row l) (hn : n = l.length) (hm : l.length ≤ 1000000) : k.Rd (w.alloc (.cells cs t)) (w.heap.size + 1) (some ⟨w.heap.size, 0, none⟩) n l := by
  subst hn
  exact ⟨hl ▸ RowAt.of_block (heap_new w _ _ rfl), Nat.le_refl _, by unfold maxLen; omega⟩
end Kind

theorem Kind.Rd.empty {P : Program} {α : Type} {k : Kind P α} (w : World) (B : Nat) (A : Option Addr) (c : Nat) (hc : c ≤ maxLen) : k.Rd w B A c [] := ⟨.inl rfl, Nat.zero_le _, hc⟩
/-- append of a row that is read to a row of the call's own. -/
theorem wpList_app_k {P : Program} {α : Type} (k : Kind P α) {w : World} {ops : Array Oper} {rest : List Oper} {o : Oper} {a : Act} {Q : Exit → Act → World → Prop} (hgd : Region.wanted o (yielded ops a.tmps) = true) (s x : Operand)
    (ho : o.op = .call { callee := .builtin .append, args := #[s, x], argTypes := #[k.ty, k.ty] })
    (base : Nat) (v : Value) (xs : List α) (hs : a.eval s = v) (hown : k.Own w base v xs)
    (B : Nat) (A : Option Addr) (c n : Nat) (ys : List α) (hn : n = ys.length) (hx : a.eval x = .slice A n c) (hr : RowAt w B A (k.row ys)) (hlen : xs.length + ys.length ≤ 1000000) (hby : k.bytes ≤ 1000) (hbase : base ≤ w.heap.size)
    (h : ∀ v' w', k.Own w' base v' (xs ++ ys) → w.grownBy w' v.ownBlock → Below base w w' → (v'.ownBlock = v.ownBlock ∨ v'.ownBlock = some w.heap.size) → wpList P ops Q rest (a.put o.dst v') w') : wpList P ops Q (o :: rest) a w := by
  obtain ⟨i0, hi0, hz0, hz1, hz2⟩ := info_parts k.info
  subst hn
  refine wpList_step fun K hK => ?_
  rw [if_pos hgd]
  refine wp_append_row w s x _ ho base k.el i0 _ k.size k.bytes k.under hi0 hz0 hz1 hz2 k.zsize k.pos v xs.length (k.row xs) hs hown B A ys.length c (k.row ys) hx (k.row_len ys) hr (k.row_cells ys) (by unfold maxLen; omega) ?_ hbase fun v' w' h1 h2 h3 => hK _ _ ?_
  · have := Nat.mul_le_mul hlen hby
    omega
  · refine h v' w' ?_ h2 ((Below.refl _ _).grown h2 hbase (fun g hg => (World.ownsRow.lt hown g hg).1)) h3
    rw [← k.row_append] at h1
    exact Kind.Own.of_row h1
/-- The same for one operation of a statement that draws its order. -/
theorem op_app_k {P : Program} {α : Type} (k : Kind P α) {w : World} {o : Oper} {a : Act} {K : Act → World → Prop} {Q : Exit → Act → World → Prop} (s x : Operand)
    (ho : o.op = .call { callee := .builtin .append, args := #[s, x], argTypes := #[k.ty, k.ty] })
    (base : Nat) (v : Value) (xs : List α) (hs : a.eval s = v) (hown : k.Own w base v xs)
    (B : Nat) (A : Option Addr) (c n : Nat) (ys : List α) (hn : n = ys.length) (hx : a.eval x = .slice A n c) (hr : RowAt w B A (k.row ys)) (hlen : xs.length + ys.length ≤ 1000000) (hby : k.bytes ≤ 1000) (hbase : base ≤ w.heap.size)
    (h : ∀ v' w', k.Own w' base v' (xs ++ ys) → w.grownBy w' v.ownBlock → Below base w w' → (v'.ownBlock = v.ownBlock ∨ v'.ownBlock = some w.heap.size) → K (a.put o.dst v') w') : Oper.wp P o a w K Q := by
  obtain ⟨i0, hi0, hz0, hz1, hz2⟩ := info_parts k.info
  subst hn
  refine wp_append_row w s x _ ho base k.el i0 _ k.size k.bytes k.under hi0 hz0 hz1 hz2 k.zsize k.pos v xs.length (k.row xs) hs hown B A ys.length c (k.row ys) hx (k.row_len ys) hr (k.row_cells ys) (by unfold maxLen; omega) ?_ hbase fun v' w' h1 h2 h3 => h v' w' ?_ h2 ((Below.refl _ _).grown h2 hbase (fun g hg => (World.ownsRow.lt hown g hg).1)) h3
  · have := Nat.mul_le_mul hlen hby
    omega
  · rw [← k.row_append] at h1
    exact Kind.Own.of_row h1
end Go.Proofs.YthgcbomidamcfaaDoor

/-
  Plain facts on lists of ranges (layer 8): which are right, which texts they have; each set of texts has one right list at most; the right list of what is meant, edge by edge. No program in this text.
-/
namespace Go.Proofs.YthgcbomidamcfaaDoor

def hasL (l : List Rng) (s : List UInt8) : Bool := l.any fun r => hasR r s
/-- Is there a text between the end of one and the beginning of the other? -/
def gapR (r t : Rng) : Bool := !r.op && ltB r.hi t.lo
def rightL : List Rng → Bool
  | [] => true
  | [r] => rightR r
  | r :: t :: l => rightR r && gapR r t && rightL (t :: l)
theorem hasL_cons (r : Rng) (l : List Rng) (s : List UInt8) : hasL (r :: l) s = (hasR r s || hasL l s) := by simp [hasL]
theorem hasL_append (a b : List Rng) (s : List UInt8) : hasL (a ++ b) s = (hasL a s || hasL b s) := by simp [hasL]
theorem rightL_head {r : Rng} {l : List Rng} (h : rightL (r :: l) = true) : rightR r = true := by
  cases l with
  | nil => exact h
  | cons t l => unfold rightL at h; simp only [Bool.and_eq_true] at h; exact h.1.1
theorem rightL_tail {r : Rng} {l : List Rng} (h : rightL (r :: l) = true) : rightL l = true := by
  cases l with
  | nil => rfl
  | cons t l => unfold rightL at h; simp only [Bool.and_eq_true] at h; exact h.2
theorem rightL_gap {r t : Rng} {l : List Rng} (h : rightL (r :: t :: l) = true) : r.op = false ∧ ltB r.hi t.lo = true := by
  unfold rightL gapR at h; simp only [Bool.and_eq_true, Bool.not_eq_true'] at h; exact h.1.2
theorem hasR_lo {r : Rng} (h : rightR r = true) : hasR r r.lo = true := by
  unfold hasR; rw [h, ltB_irrefl, rightR_first h]; rfl
theorem hasR_ge {r : Rng} {s : List UInt8} (h : hasR r s = true) : ltB s r.lo = false := by
  unfold hasR at h; simp only [Bool.and_eq_true, Bool.not_eq_true'] at h; exact h.1.2
theorem hasR_right {r : Rng} {s : List UInt8} (h : hasR r s = true) : rightR r = true := by
  unfold hasR at h; simp only [Bool.and_eq_true] at h; exact h.1.1
theorem hasR_ahead {r : Rng} {s : List UInt8} (h : hasR r s = true) : aheadR r s = true := by
  unfold hasR at h; simp only [Bool.and_eq_true] at h; exact h.2
/-- What a right list has stands not ahead of its first text. -/
theorem hasL_ge : ∀ {l : List Rng} {r : Rng} {s : List UInt8}, rightL (r :: l) = true → hasL (r :: l) s = true → ltB s r.lo = false
  | [], r, s, _, hs => by
    rw [hasL_cons] at hs
    simp only [hasL, List.any_nil, Bool.or_false] at hs
    exact hasR_ge hs
  | t :: l, r, s, h, hs => by
    rw [hasL_cons] at hs
    cases hr : hasR r s with
    | true => exact hasR_ge hr
    | false =>
      rw [hr, Bool.false_or] at hs
      have h1 := hasL_ge (rightL_tail h) hs
      have h2 := rightL_gap h
      have h3 := rightR_lt (rightL_head h) h2.1
      cases hc : ltB s r.lo with
      | false => rfl
      | true => rw [ltB_trans hc (ltB_trans h3 h2.2)] at h1; cases h1
/-- What the rest has, the first one hasn't; and the rest hasn't the first one's end. -/
theorem hasL_apart {r : Rng} {l : List Rng} {s : List UInt8} (h : rightL (r :: l) = true) (hs : hasL l s = true) : hasR r s = false ∧ r.op = false ∧ ltB r.hi s = true := by
  cases l with
  | nil => simp [hasL] at hs
  | cons t l =>
    have h1 := hasL_ge (rightL_tail h) hs
    have h2 := rightL_gap h
    have h3 : ltB r.hi s = true := ltB_of_lt_of_le h2.2 h1
    refine ⟨?_, h2.1, h3⟩
    cases hr : hasR r s with
    | false => rfl
    | true =>
      have := hasR_ahead hr
      unfold aheadR at this
      rw [h2.1, Bool.false_or, ltB_asymm h3] at this
      cases this
theorem rng_ext {r t : Rng} (h1 : r.lo = t.lo) (h2 : r.hi = t.hi) (h3 : r.op = t.op) : r = t := by cases r; cases t; simp_all
/-- The text at which the one ends, and the other doesn't. -/
theorem end_split {r t : Rng} {l m : List Rng} (hl : rightL (r :: l) = true) (hm : rightL (t :: m) = true) (he : r.lo = t.lo) (h : endLt r t = true) (hs : ∀ s, hasL (r :: l) s = hasL (t :: m) s) : False := by
  unfold endLt at h
  simp only [Bool.and_eq_true, Bool.not_eq_true'] at h
  obtain ⟨ho, h⟩ := h
  have h1 := hs r.hi
  have h2 : hasR t r.hi = true := by
    unfold hasR aheadR
    rw [rightL_head hm, h, ← he, ltB_asymm (rightR_lt (rightL_head hl) ho)]; rfl
  rw [hasL_cons t, h2, Bool.true_or, hasL_cons] at h1
  have h3 : hasR r r.hi = false := by
    unfold hasR aheadR; rw [ho, ltB_irrefl, Bool.false_or, Bool.and_false]
  rw [h3, Bool.false_or] at h1
  have := (hasL_apart hl h1).2.2
  rw [ltB_irrefl] at this
  cases this
/-- P8.4: two right lists that have the same texts are the same. -/
theorem rightL_unique : ∀ {l m : List Rng}, rightL l = true → rightL m = true → (∀ s, hasL l s = hasL m s) → l = m
  | [], [], _, _, _ => rfl
  | [], t :: m, _, hm, h => by
    have := h t.lo
    rw [hasL_cons, hasR_lo (rightL_head hm)] at this
    simp [hasL] at this
  | r :: l, [], hl, _, h => by
    have := h r.lo
    rw [hasL_cons, hasR_lo (rightL_head hl)] at this
    simp [hasL] at this
  | r :: l, t :: m, hl, hm, h => by
    have e1 : r.lo = t.lo := by
      have h1 : hasL (t :: m) r.lo = true := by rw [← h, hasL_cons, hasR_lo (rightL_head hl)]; rfl
      have h2 : hasL (r :: l) t.lo = true := by rw [h, hasL_cons, hasR_lo (rightL_head hm)]; rfl
      exact ltB_total (hasL_ge hm h1) (hasL_ge hl h2)
    have e2 : endLt r t = false := by
      cases hc : endLt r t with
      | false => rfl
      | true => exact (end_split hl hm e1 hc h).elim
    have e3 : endLt t r = false := by
      cases hc : endLt t r with
      | false => rfl
      | true => exact (end_split hm hl e1.symm hc (fun s => (h s).symm)).elim
    obtain ⟨e4, e5⟩ := end_same (rightL_head hl) (rightL_head hm) e2 e3
    obtain rfl := rng_ext e1 e4 e5
    have key : ∀ s, hasL l s = hasL m s := fun s => by
      have hs := h s
      rw [hasL_cons, hasL_cons] at hs
      cases h1 : hasL l s with
      | true => rw [(hasL_apart hl h1).1, h1, Bool.false_or, Bool.false_or] at hs; exact hs
      | false => cases h2 : hasL m s with
        | false => rfl
        | true => rw [(hasL_apart hm h2).1, h1, h2] at hs; cases hs
    rw [rightL_unique (rightL_tail hl) (rightL_tail hm) key]

/-! The right list of what is meant, edge by edge. -/
/-- The ranges that begin at an edge that is in, and end at the next one that isn't; lo: the one that has begun. -/
def mkR (f : List UInt8 → Bool) : List (List UInt8) → Option (List UInt8) → List Rng
  | [], none => []
  | [], some lo => [⟨lo, [], true⟩]
  | e :: es, none => match f e with | true => mkR f es (some e) | false => mkR f es none
  | e :: es, some lo => match f e with | true => mkR f es (some lo) | false => ⟨lo, e, false⟩ :: mkR f es none
/-- Rising texts, all behind e. -/
def risingB : List UInt8 → List (List UInt8) → Bool
  | _, [] => true
  | e, x :: l => ltB e x && risingB x l
theorem rising_head {c x : List UInt8} {l : List (List UInt8)} (h : risingB c (x :: l) = true) : ltB c x = true ∧ risingB x l = true := by
  unfold risingB at h; simpa using h
theorem rising_all : ∀ {l : List (List UInt8)} {c : List UInt8}, risingB c l = true → ∀ x ∈ l, ltB c x = true
  | [], _, _, x, hx => by cases hx
  | y :: l, c, h, x, hx => by
    obtain ⟨h1, h2⟩ := rising_head h
    rcases List.mem_cons.1 hx with rfl | hx
    · exact h1
    · exact ltB_trans h1 (rising_all h2 x hx)
/-- What holds at a text, told by what holds at the edges. -/
def floorV (f : List UInt8 → Bool) : Bool → List (List UInt8) → List UInt8 → Bool
  | v, [], _ => v
  | v, x :: l, s => match ltB s x with | true => v | false => floorV f (f x) l s
theorem floorV_low {f : List UInt8 → Bool} {v : Bool} {l : List (List UInt8)} {s : List UInt8} (h : ∀ x ∈ l, ltB s x = true) : floorV f v l s = v := by
  cases l with
  | nil => rfl
  | cons x l => unfold floorV; rw [h x (List.mem_cons_self ..)]
theorem hasR_open {lo s : List UInt8} (h : lo.length ≤ 17) : hasR ⟨lo, [], true⟩ s = !ltB s lo := by
  have h1 : rightR ⟨lo, [], true⟩ = true := rightR_iff.2 ⟨h, by simp, fun _ => rfl, (fun h => by cases h)⟩
  unfold hasR aheadR; rw [h1]; simp
theorem right_shut {lo e : List UInt8} (h : lo.length ≤ 17) (he : e.length ≤ 17) (hl : ltB lo e = true) : rightR ⟨lo, e, false⟩ = true :=
  rightR_iff.2 ⟨h, he, (fun h => by cases h), fun _ => hl⟩
theorem hasR_shut {lo e s : List UInt8} (h : lo.length ≤ 17) (he : e.length ≤ 17) (hl : ltB lo e = true) : hasR ⟨lo, e, false⟩ s = (!ltB s lo && ltB s e) := by
  unfold hasR aheadR; rw [right_shut h he hl]; simp
theorem mkR_low (f : List UInt8 → Bool) : ∀ (es : List (List UInt8)) (o : Option (List UInt8)) (c s : List UInt8), risingB c es = true → (∀ lo, o = some lo → ltB s lo = true) → (o = none → ltB c s = false) → (∀ lo, o = some lo → ltB c lo = false) → hasL (mkR f es o) s = false
  | [], none, _, _, _, _, _, _ => rfl
  | [], some lo, c, s, _, h, _, _ => by
    unfold mkR; rw [hasL_cons]
    have : hasR ⟨lo, [], true⟩ s = false := by unfold hasR; rw [h lo rfl]; simp
    rw [this]; rfl
  | e :: es, none, c, s, hr, _, h2, _ => by
    obtain ⟨h3, h4⟩ := rising_head hr
    have hse : ltB s e = true := ltB_of_le_of_lt (h2 rfl) h3
    unfold mkR
    cases f e with
    | true => exact mkR_low f es (some e) e s h4 (fun lo h => by injection h with h; subst h; exact hse) (fun h => by cases h) (fun lo h => by injection h with h; subst h; exact ltB_irrefl _)
    | false => exact mkR_low f es none e s h4 (fun lo h => by cases h) (fun _ => ltB_asymm hse) (fun lo h => by cases h)
  | e :: es, some lo, c, s, hr, h, _, hc => by
    obtain ⟨h3, h4⟩ := rising_head hr
    have h5 : ltB lo e = true := ltB_of_le_of_lt (hc lo rfl) h3
    have hse : ltB s e = true := ltB_trans (h lo rfl) h5
    unfold mkR
    cases f e with
    | true => exact mkR_low f es (some lo) e s h4 (fun lo' h' => by injection h' with h'; subst h'; exact h lo rfl) (fun h => by cases h) (fun lo' h' => by injection h' with h'; subst h'; exact ltB_asymm h5)
    | false =>
      show hasL (⟨lo, e, false⟩ :: mkR f es none) s = false
      rw [hasL_cons]
      have : hasR ⟨lo, e, false⟩ s = false := by unfold hasR; rw [h lo rfl]; simp
      rw [this, Bool.false_or]
      exact mkR_low f es none e s h4 (fun lo h => by cases h) (fun _ => ltB_asymm hse) (fun lo h => by cases h)
/-- What the list has. -/
theorem mkR_has (f : List UInt8 → Bool) : ∀ (es : List (List UInt8)) (o : Option (List UInt8)) (c s : List UInt8), risingB c es = true → (∀ x ∈ es, x.length ≤ 17) → (∀ lo, o = some lo → lo.length ≤ 17 ∧ ltB c lo = false ∧ ltB s lo = false) → hasL (mkR f es o) s = floorV f o.isSome es s
  | [], none, _, _, _, _, _ => rfl
  | [], some lo, c, s, _, _, h => by
    obtain ⟨h1, _, h3⟩ := h lo rfl
    unfold mkR; rw [hasL_cons, hasR_open h1, h3]; rfl
  | e :: es, none, c, s, hr, hl, _ => by
    obtain ⟨h3, h4⟩ := rising_head hr
    have hl' : ∀ x ∈ es, x.length ≤ 17 := fun x hx => hl x (List.mem_cons_of_mem _ hx)
    have he := hl e (List.mem_cons_self ..)
    unfold mkR floorV
    cases hse : ltB s e with
    | true =>
      cases f e with
      | true => exact mkR_low f es (some e) e s h4 (fun lo h => by injection h with h; subst h; exact hse) (fun h => by cases h) (fun lo h => by injection h with h; subst h; exact ltB_irrefl _)
      | false => exact mkR_low f es none e s h4 (fun lo h => by cases h) (fun _ => ltB_asymm hse) (fun lo h => by cases h)
    | false =>
      cases f e with
      | true => exact mkR_has f es (some e) e s h4 hl' (fun lo h => by injection h with h; subst h; exact ⟨he, ltB_irrefl _, hse⟩)
      | false => exact mkR_has f es none e s h4 hl' (fun lo h => by cases h)
  | e :: es, some lo, c, s, hr, hl, h => by
    obtain ⟨h3, h4⟩ := rising_head hr
    obtain ⟨k1, k2, k3⟩ := h lo rfl
    have hl' : ∀ x ∈ es, x.length ≤ 17 := fun x hx => hl x (List.mem_cons_of_mem _ hx)
    have he := hl e (List.mem_cons_self ..)
    have h5 : ltB lo e = true := ltB_of_le_of_lt k2 h3
    unfold mkR floorV
    cases hf : f e with
    | true =>
      have := mkR_has f es (some lo) e s h4 hl' (fun lo' h' => by injection h' with h'; subst h'; exact ⟨k1, ltB_asymm h5, k3⟩)
      show hasL (mkR f es (some lo)) s = _
      rw [this]
      cases hse : ltB s e with
      | true => exact floorV_low fun x hx => ltB_trans hse (rising_all h4 x hx)
      | false => rfl
    | false =>
      show hasL (⟨lo, e, false⟩ :: mkR f es none) s = _
      rw [hasL_cons, hasR_shut k1 he h5, k3]
      cases hse : ltB s e with
      | true => rfl
      | false => exact mkR_has f es none e s h4 hl' (fun lo h => by cases h)
theorem mkR_first (f : List UInt8 → Bool) : ∀ (es : List (List UInt8)) (o : Option (List UInt8)) (c : List UInt8) (t : Rng) (m : List Rng), risingB c es = true → mkR f es o = t :: m → (∀ lo, o = some lo → t.lo = lo) ∧ (o = none → ltB c t.lo = true)
  | [], none, _, _, _, _, h => by cases h
  | [], some lo, _, t, m, _, h => by
    unfold mkR at h; injection h with h h'; subst h
    exact ⟨(fun lo' e => by injection e), (fun e => by cases e)⟩
  | e :: es, none, c, t, m, hr, h => by
    obtain ⟨h3, h4⟩ := rising_head hr
    refine ⟨(fun lo e => by cases e), fun _ => ?_⟩
    unfold mkR at h
    cases hf : f e with
    | true => rw [hf] at h; rw [(mkR_first f es (some e) e t m h4 h).1 e rfl]; exact h3
    | false => rw [hf] at h; exact ltB_trans h3 ((mkR_first f es none e t m h4 h).2 rfl)
  | e :: es, some lo, c, t, m, hr, h => by
    obtain ⟨h3, h4⟩ := rising_head hr
    refine ⟨fun lo' e' => ?_, (fun e => by cases e)⟩
    injection e' with e'; subst e'
    unfold mkR at h
    cases hf : f e with
    | true => rw [hf] at h; exact (mkR_first f es (some lo) e t m h4 h).1 lo rfl
    | false => rw [hf] at h; injection h with h h'; subst h; rfl
/-- The list is right. -/
theorem mkR_right (f : List UInt8 → Bool) : ∀ (es : List (List UInt8)) (o : Option (List UInt8)) (c : List UInt8), risingB c es = true → (∀ x ∈ es, x.length ≤ 17) → (∀ lo, o = some lo → lo.length ≤ 17 ∧ ltB c lo = false) → rightL (mkR f es o) = true
  | [], none, _, _, _, _ => rfl
  | [], some lo, _, _, _, h => rightR_iff.2 ⟨(h lo rfl).1, by simp, fun _ => rfl, (fun h => by cases h)⟩
  | e :: es, none, c, hr, hl, _ => by
    obtain ⟨h3, h4⟩ := rising_head hr
    have hl' : ∀ x ∈ es, x.length ≤ 17 := fun x hx => hl x (List.mem_cons_of_mem _ hx)
    have he := hl e (List.mem_cons_self ..)
    unfold mkR
    cases f e with
    | true => exact mkR_right f es (some e) e h4 hl' (fun lo h => by injection h with h; subst h; exact ⟨he, ltB_irrefl _⟩)
    | false => exact mkR_right f es none e h4 hl' (fun lo h => by cases h)
  | e :: es, some lo, c, hr, hl, h => by
    obtain ⟨h3, h4⟩ := rising_head hr
    obtain ⟨k1, k2⟩ := h lo rfl
    have hl' : ∀ x ∈ es, x.length ≤ 17 := fun x hx => hl x (List.mem_cons_of_mem _ hx)
    have he := hl e (List.mem_cons_self ..)
    have h5 : ltB lo e = true := ltB_of_le_of_lt k2 h3
    unfold mkR
    cases f e with
    | true => exact mkR_right f es (some lo) e h4 hl' (fun lo' h' => by injection h' with h'; subst h'; exact ⟨k1, ltB_asymm h5⟩)
    | false =>
      have h6 := mkR_right f es none e h4 hl' (fun lo h => by cases h)
      show rightL (⟨lo, e, false⟩ :: mkR f es none) = true
      cases hm : mkR f es none with
      | nil => exact right_shut k1 he h5
      | cons t m =>
        rw [hm] at h6
        have h7 := (mkR_first f es none e t m h4 hm).2 rfl
        unfold rightL gapR
        rw [right_shut k1 he h5, h6, h7]; rfl
/-- Is it told by these edges whether a text is in? -/
def Det (f : List UInt8 → Bool) (E : List (List UInt8)) : Prop := ∀ s c, (∀ x ∈ E, ltB s x = ltB c x) → f s = f c
theorem floorV_det (f : List UInt8 → Bool) (s : List UInt8) : ∀ (es D : List (List UInt8)) (c : List UInt8), risingB c es = true → (∀ x ∈ D, ltB c x = false) → ltB s c = false → Det f (D ++ es) → floorV f (f c) es s = f s
  | [], D, c, _, hD, hs, h => by
    refine (h s c fun x hx => ?_).symm
    rw [List.append_nil] at hx
    rw [hD x hx]
    exact leB_trans (hD x hx) hs
  | x :: l, D, c, hr, hD, hs, h => by
    obtain ⟨h3, h4⟩ := rising_head hr
    unfold floorV
    cases hx : ltB s x with
    | true =>
      refine (h s c fun y hy => ?_).symm
      rcases List.mem_append.1 hy with hy | hy
      · rw [hD y hy]; exact leB_trans (hD y hy) hs
      · have h5 := rising_all hr y hy
        rw [h5]
        rcases List.mem_cons.1 hy with rfl | hy
        · exact hx
        · exact ltB_trans hx (rising_all h4 y hy)
    | false =>
      refine floorV_det f s l (D ++ [x]) x h4 (fun y hy => ?_) hx (by rw [List.append_assoc]; exact h)
      rcases List.mem_append.1 hy with hy | hy
      · exact ltB_asymm (ltB_of_le_of_lt (hD y hy) h3)
      · rw [List.mem_singleton.1 hy]; exact ltB_irrefl _
/-- Of the empty text and rising edges, by which it is told what is in: the right list of it. -/
theorem mkR_all {f : List UInt8 → Bool} {es : List (List UInt8)} (hr : risingB [] es = true) (hl : ∀ x ∈ es, x.length ≤ 17) (hd : Det f ([] :: es)) :
    rightL (mkR f ([] :: es) none) = true ∧ ∀ s, hasL (mkR f ([] :: es) none) s = f s := by
  have hn : ∀ s, ltB s [] = false := ltB_nil
  constructor
  · unfold mkR
    cases f [] with
    | true => exact mkR_right f es (some []) [] hr hl (fun lo h => by injection h with h; subst h; exact ⟨by simp, ltB_nil _⟩)
    | false => exact mkR_right f es none [] hr hl (fun lo h => by cases h)
  · intro s
    have h1 : hasL (mkR f ([] :: es) none) s = floorV f (f []) es s := by
      unfold mkR
      cases hf : f [] with
      | true => exact mkR_has f es (some []) [] s hr hl (fun lo h => by injection h with h; subst h; exact ⟨by simp, ltB_nil _, ltB_nil _⟩)
      | false => exact mkR_has f es none [] s hr hl (fun lo h => by cases h)
    rw [h1]
    exact floorV_det f s es [[]] [] hr (fun x hx => by rw [List.mem_singleton.1 hx]; exact ltB_nil _) (ltB_nil _) hd

/-! The edges. -/
/-- A text put among rising ones, once. -/
def putL : List (List UInt8) → List UInt8 → List (List UInt8)
  | [], s => [s]
  | x :: l, s => match ltB x s with | true => x :: putL l s | false => match decide (x = s) with | true => x :: l | false => s :: x :: l
theorem putL_behind {x : List UInt8} {l : List (List UInt8)} {s : List UInt8} (h : ltB x s = true) : putL (x :: l) s = x :: putL l s := by rw [putL, h]
theorem putL_there {x : List UInt8} {l : List (List UInt8)} : putL (x :: l) x = x :: l := by rw [putL, ltB_irrefl, decide_eq_true rfl]
theorem putL_here {x : List UInt8} {l : List (List UInt8)} {s : List UInt8} (h : ltB x s = false) (h' : x ≠ s) : putL (x :: l) s = s :: x :: l := by rw [putL, h, decide_eq_false h']
theorem putL_mem : ∀ {l : List (List UInt8)} {s x : List UInt8}, x ∈ putL l s ↔ x = s ∨ x ∈ l
  | [], s, x => by simp [putL]
  | y :: l, s, x => by
    cases h : ltB y s with
    | true => rw [putL_behind h, List.mem_cons, List.mem_cons, putL_mem]; constructor <;> (rintro (h | h | h) <;> simp [h])
    | false =>
      by_cases h' : y = s
      · subst h'; rw [putL_there]; constructor
        · exact .inr
        · rintro (rfl | h)
          · exact List.mem_cons_self ..
          · exact h
      · rw [putL_here h h', List.mem_cons]
theorem putL_rising : ∀ {l : List (List UInt8)} {c s : List UInt8}, risingB c l = true → ltB c s = true → risingB c (putL l s) = true
  | [], c, s, _, h => by simp [putL, risingB, h]
  | x :: l, c, s, hr, hs => by
    obtain ⟨h1, h2⟩ := rising_head hr
    cases h : ltB x s with
    | true => rw [putL_behind h]; unfold risingB; rw [h1, putL_rising h2 h]; rfl
    | false =>
      by_cases h' : x = s
      · subst h'; rw [putL_there]; exact hr
      · have h3 : ltB s x = true := by
          cases hc : ltB s x with
          | true => rfl
          | false => exact absurd (ltB_total h hc) h'
        rw [putL_here h h']; unfold risingB risingB; rw [hs, h3, h2]; rfl
/-- The empty text stands first. -/
theorem putL_first {l : List (List UInt8)} {s : List UInt8} (h : risingB [] l = true) : ∃ m, putL ([] :: l) s = [] :: m ∧ risingB [] m = true := by
  cases s with
  | nil => exact ⟨l, putL_there, h⟩
  | cons x s => exact ⟨putL l (x :: s), putL_behind (ltB_nil_cons x s), putL_rising h (ltB_nil_cons x s)⟩
def addE (E : List (List UInt8)) (r : Rng) : List (List UInt8) := match rightR r with
  | true => (match r.op with | true => putL E r.lo | false => putL (putL E r.lo) r.hi)
  | false => E
def edgesL (l : List Rng) : List (List UInt8) := l.foldl addE [[]]
theorem edgesL_snoc (l : List Rng) (r : Rng) : edgesL (l ++ [r]) = addE (edgesL l) r := by simp [edgesL]
/-- Texts that begin with the empty one, rise, and are edges. -/
def EdgesOk (E : List (List UInt8)) : Prop := ∃ m, E = [] :: m ∧ risingB [] m = true ∧ ∀ x ∈ m, x.length ≤ 17
theorem EdgesOk.put {E : List (List UInt8)} (h : EdgesOk E) {s : List UInt8} (hs : s.length ≤ 17) : EdgesOk (putL E s) := by
  obtain ⟨m, rfl, h1, h2⟩ := h
  obtain ⟨m', h3, h4⟩ := putL_first (s := s) h1
  refine ⟨m', h3, h4, fun x hx => ?_⟩
  have h5 : x ∈ putL ([] :: m) s := by rw [h3]; exact List.mem_cons_of_mem _ hx
  rcases putL_mem.1 h5 with rfl | h5
  · exact hs
  · rcases List.mem_cons.1 h5 with rfl | h5
    · simp
    · exact h2 x h5
theorem EdgesOk.add {E : List (List UInt8)} (h : EdgesOk E) (r : Rng) : EdgesOk (addE E r) := by
  unfold addE
  cases hr : rightR r with
  | false => exact h
  | true => cases r.op with
    | true => exact h.put (rightR_lo hr)
    | false => exact (h.put (rightR_lo hr)).put (rightR_hi hr)
theorem edges_ok : ∀ (l : List Rng) (E : List (List UInt8)), EdgesOk E → EdgesOk (l.foldl addE E)
  | [], _, h => h
  | r :: l, E, h => edges_ok l (addE E r) (h.add r)
theorem addE_keep {E : List (List UInt8)} {r : Rng} {x : List UInt8} (h : x ∈ E) : x ∈ addE E r := by
  unfold addE
  cases rightR r with
  | false => exact h
  | true => cases r.op with
    | true => exact putL_mem.2 (.inr h)
    | false => exact putL_mem.2 (.inr (putL_mem.2 (.inr h)))
theorem edges_keep : ∀ (l : List Rng) (E : List (List UInt8)) {x : List UInt8}, x ∈ E → x ∈ l.foldl addE E
  | [], _, _, h => h
  | r :: l, E, _, h => edges_keep l (addE E r) (addE_keep h)
theorem edges_mem : ∀ (l : List Rng) (E : List (List UInt8)) {r : Rng}, r ∈ l → rightR r = true → r.lo ∈ l.foldl addE E ∧ (r.op = false → r.hi ∈ l.foldl addE E)
  | [], _, _, h, _ => by cases h
  | t :: l, E, r, h, hr => by
    rcases List.mem_cons.1 h with rfl | h
    · constructor
      · refine edges_keep l _ ?_
        unfold addE; rw [hr]
        cases r.op with
        | true => exact putL_mem.2 (.inl rfl)
        | false => exact putL_mem.2 (.inr (putL_mem.2 (.inl rfl)))
      · intro ho
        refine edges_keep l _ ?_
        unfold addE; rw [hr, ho]
        exact putL_mem.2 (.inl rfl)
    · exact edges_mem l (addE E t) h hr
theorem edgesL_ok (l : List Rng) : EdgesOk (edgesL l) := edges_ok l [[]] ⟨[], rfl, rfl, by simp⟩
theorem hasR_det {r : Rng} {E : List (List UInt8)} (h : rightR r = true → r.lo ∈ E ∧ (r.op = false → r.hi ∈ E)) : Det (hasR r) E := fun s c hs => by
  cases hr : rightR r with
  | false => unfold hasR; rw [hr]; rfl
  | true =>
    obtain ⟨h1, h2⟩ := h hr
    unfold hasR aheadR
    rw [hs _ h1]
    cases ho : r.op with
    | true => rfl
    | false => rw [hs _ (h2 ho)]
theorem hasL_det : ∀ {l : List Rng} {E : List (List UInt8)}, (∀ r ∈ l, rightR r = true → r.lo ∈ E ∧ (r.op = false → r.hi ∈ E)) → Det (hasL l) E
  | [], _, _ => fun _ _ _ => rfl
  | r :: l, E, h => fun s c hs => by
    rw [hasL_cons, hasL_cons, hasR_det (h r (List.mem_cons_self ..)) s c hs, hasL_det (fun t ht => h t (List.mem_cons_of_mem _ ht)) s c hs]
/-- The right list of what is told by what two lists have. -/
theorem make_ok (a b : List Rng) (g : Bool → Bool → Bool) : rightL (mkR (fun s => g (hasL a s) (hasL b s)) (edgesL (a ++ b)) none) = true ∧ ∀ s, hasL (mkR (fun s => g (hasL a s) (hasL b s)) (edgesL (a ++ b)) none) s = g (hasL a s) (hasL b s) := by
  obtain ⟨m, hm, h1, h2⟩ := edgesL_ok (a ++ b)
  have ha : Det (hasL a) (edgesL (a ++ b)) := hasL_det fun r hr hR => edges_mem (a ++ b) [[]] (List.mem_append.2 (.inl hr)) hR
  have hb : Det (hasL b) (edgesL (a ++ b)) := hasL_det fun r hr hR => edges_mem (a ++ b) [[]] (List.mem_append.2 (.inr hr)) hR
  rw [hm] at ha hb ⊢
  exact mkR_all h1 h2 fun s c hs => by simp only [ha s c hs, hb s c hs]
end Go.Proofs.YthgcbomidamcfaaDoor

/-
  Lists of ranges, and of texts, as values of the program.
-/
namespace Go.Proofs.YthgcbomidamcfaaDoor
open Go.RowKit

/-- A range's cells. -/
def rngCells (r : Rng) : List Value := [.string (str r.lo), .string (str r.hi), .bool r.op]
noncomputable def kStr : Kind Tryd.prog (List UInt8) where
  ty := 36
  el := 9
  size := 1
  bytes := 16
  zero := .string ⟨#[]⟩
  cells := fun s => [.string (str s)]
  len := fun _ => rfl
  one := fun s u hu => by simp at hu; subst hu; rfl
  pos := by decide
  under := Tryd.underlying36
  info := by kernel_rfl
  zsize := rfl
theorem texts_at {w : World} {B : Nat} {A : Option Addr} {c : Nat} {l : List (List UInt8)} (h : kStr.Rd w B A c l) (hp : 0 < l.length) :
    ∃ b o, A = some ⟨b, o, none⟩ ∧ b < B ∧ ∀ k s, l[k]? = some s → w.cell? ⟨b, o + k, none⟩ = some (.string (str s)) := by
  obtain ⟨b, o, h1, h2, h3⟩ := h.at_ hp
  refine ⟨b, o, h1, h2, fun k s hs => ?_⟩
  have := h3 k s hs 0 _ rfl
  rwa [show o + (k * kStr.size + 0) = o + k by show o + (k * 1 + 0) = o + k; omega] at this
theorem get_some {α : Type} {l : List α} {k : Nat} (h : k < l.length) : ∃ x, l[k]? = some x ∧ l.drop k = x :: l.drop (k + 1) ∧ x ∈ l := ⟨l[k], List.getElem?_eq_getElem h, List.drop_eq_getElem_cons h, List.getElem_mem h⟩
end Go.Proofs.YthgcbomidamcfaaDoor

/-
  Plain facts on lists of ranges as sets of texts (layer 8): union, meet, what is left, what a list hasn't. No program in this text.
-/
namespace Go.Proofs.YthgcbomidamcfaaDoor

/-- What is meant by a number: 1 of one of both, 2 of both, 3 of a and not b, else of none of both. -/
def gV (op : Int) (x y : Bool) : Bool :=
  match decide (op = 1) with
  | true => x || y
  | false => match decide (op = 2) with
    | true => x && y
    | false => match decide (op = 3) with
      | true => x && !y
      | false => !x && !y
def inV (op : Int) (a b : List Rng) (s : List UInt8) : Bool := gV op (hasL a s) (hasL b s)
/-- The right list of what is meant. -/
def makeV (op : Int) (a b : List Rng) : List Rng := mkR (inV op a b) (edgesL (a ++ b)) none
theorem makeV_right (op : Int) (a b : List Rng) : rightL (makeV op a b) = true := (make_ok a b (gV op)).1
theorem makeV_has (op : Int) (a b : List Rng) (s : List UInt8) : hasL (makeV op a b) s = gV op (hasL a s) (hasL b s) := (make_ok a b (gV op)).2 s
theorem makeV_unique {op : Int} {a b u : List Rng} (h : rightL u = true) (hs : ∀ s, hasL u s = gV op (hasL a s) (hasL b s)) : u = makeV op a b :=
  rightL_unique h (makeV_right op a b) fun s => by rw [hs, makeV_has]
theorem gV1 (x y : Bool) : gV 1 x y = (x || y) := rfl
theorem gV2 (x y : Bool) : gV 2 x y = (x && y) := rfl
theorem gV3 (x y : Bool) : gV 3 x y = (x && !y) := rfl
theorem gV4 (x y : Bool) : gV 4 x y = (!x && !y) := rfl
theorem hasL_nil (s : List UInt8) : hasL [] s = false := rfl
/-- The right list of a list's texts. -/
def normV (a : List Rng) : List Rng := makeV 1 a []
def notV (a : List Rng) : List Rng := makeV 4 a []
theorem normV_has (a : List Rng) (s : List UInt8) : hasL (normV a) s = hasL a s := by rw [normV, makeV_has, gV1, hasL_nil, Bool.or_false]
theorem notV_has (a : List Rng) (s : List UInt8) : hasL (notV a) s = !hasL a s := by rw [notV, makeV_has, gV4, hasL_nil, Bool.not_false, Bool.and_true]
theorem normV_right {a : List Rng} (h : rightL a = true) : normV a = a := (makeV_unique h fun s => by rw [gV1, hasL_nil, Bool.or_false]).symm
instance : DecidableEq Rng := fun r t => match decEq r.lo t.lo, decEq r.hi t.hi, decEq r.op t.op with
  | .isTrue h1, .isTrue h2, .isTrue h3 => .isTrue (rng_ext h1 h2 h3)
  | .isFalse h, _, _ => .isFalse fun e => h (by rw [e])
  | _, .isFalse h, _ => .isFalse fun e => h (by rw [e])
  | _, _, .isFalse h => .isFalse fun e => h (by rw [e])
def sameV (a b : List Rng) : Bool := decide (normV a = normV b)
def withinV (a b : List Rng) : Bool := (makeV 3 a b).isEmpty
theorem rightL_empty {u : List Rng} (h : rightL u = true) (hs : ∀ s, hasL u s = false) : u = [] := rightL_unique h rfl fun s => by rw [hs]; rfl
theorem sameV_iff {a b : List Rng} : sameV a b = true ↔ ∀ s, hasL a s = hasL b s := by
  unfold sameV
  rw [decide_eq_true_eq]
  constructor
  · intro h s; rw [← normV_has a, h, normV_has]
  · intro h; exact rightL_unique (makeV_right _ _ _) (makeV_right _ _ _) fun s => by rw [normV_has, normV_has, h]
theorem withinV_iff {a b : List Rng} : withinV a b = true ↔ ∀ s, hasL a s = true → hasL b s = true := by
  unfold withinV
  rw [List.isEmpty_iff]
  constructor
  · intro h s hs
    have := makeV_has 3 a b s
    rw [h, hasL_nil, gV3, hs, Bool.true_and] at this
    cases hb : hasL b s with
    | true => rfl
    | false => rw [hb] at this; cases this
  · intro h
    refine rightL_empty (makeV_right _ _ _) fun s => ?_
    rw [makeV_has, gV3]
    cases ha : hasL a s with
    | false => rfl
    | true => rw [h s ha]; rfl
theorem sameV_within (a b : List Rng) : sameV a b = (withinV a b && withinV b a) := by
  rw [Bool.eq_iff_iff, Bool.and_eq_true, sameV_iff, withinV_iff, withinV_iff]
  constructor
  · intro h; exact ⟨fun s e => by rw [← h]; exact e, fun s e => by rw [h]; exact e⟩
  · intro ⟨h1, h2⟩ s
    cases ha : hasL a s with
    | true => exact (h1 s ha).symm
    | false => cases hb : hasL b s with
      | false => rfl
      | true => rw [h2 s hb] at ha; cases ha
theorem notV_notV (a : List Rng) : sameV (notV (notV a)) a = true := sameV_iff.2 fun s => by rw [notV_has, notV_has, Bool.not_not]
theorem not_union (a b : List Rng) : sameV (notV (makeV 1 a b)) (makeV 2 (notV a) (notV b)) = true := sameV_iff.2 fun s => by
  rw [notV_has, makeV_has, makeV_has, notV_has, notV_has, gV1, gV2, Bool.not_or]
theorem less_meet (a b : List Rng) : sameV (makeV 1 (makeV 3 a b) (makeV 2 a b)) a = true := sameV_iff.2 fun s => by
  rw [makeV_has, makeV_has, makeV_has, gV1, gV2, gV3]; cases hasL a s <;> cases hasL b s <;> rfl
theorem meet_union (a b c : List Rng) : makeV 2 a (makeV 1 b c) = makeV 1 (makeV 2 a b) (makeV 2 a c) := makeV_unique (makeV_right _ _ _) fun s => by
  rw [makeV_has, makeV_has, makeV_has, makeV_has, gV1, gV1, gV2, gV2, gV2]; cases hasL a s <;> cases hasL b s <;> cases hasL c s <;> rfl
theorem union_meet (a b c : List Rng) : makeV 1 a (makeV 2 b c) = makeV 2 (makeV 1 a b) (makeV 1 a c) := makeV_unique (makeV_right _ _ _) fun s => by
  rw [makeV_has, makeV_has, makeV_has, makeV_has, gV1, gV1, gV1, gV2, gV2]; cases hasL a s <;> cases hasL b s <;> cases hasL c s <;> rfl
theorem less_union (a b c : List Rng) : makeV 3 (makeV 1 a b) c = makeV 1 (makeV 3 a c) (makeV 3 b c) := makeV_unique (makeV_right _ _ _) fun s => by
  rw [makeV_has, makeV_has, makeV_has, makeV_has, gV1, gV1, gV3, gV3, gV3]; cases hasL a s <;> cases hasL b s <;> cases hasL c s <;> rfl
theorem union_comm (a b : List Rng) : makeV 1 a b = makeV 1 b a := makeV_unique (makeV_right _ _ _) fun s => by rw [makeV_has, gV1, gV1, Bool.or_comm]
theorem norm_append (a b : List Rng) : normV (a ++ b) = makeV 1 a b := makeV_unique (makeV_right _ _ _) fun s => by rw [normV_has, hasL_append, gV1]
/-- How many ranges, and how long their texts. -/
def SmallL (n : Nat) (l : List Rng) : Prop := l.length ≤ n ∧ ∀ r ∈ l, r.lo.length ≤ 1000 ∧ r.hi.length ≤ 1000
theorem rightL_all : ∀ {l : List Rng}, rightL l = true → ∀ r ∈ l, rightR r = true
  | [], _, _, h => by cases h
  | t :: l, h, r, hr => by
    rcases List.mem_cons.1 hr with rfl | hr
    · exact rightL_head h
    · exact rightL_all (rightL_tail h) r hr
theorem mkR_len (f : List UInt8 → Bool) : ∀ (es : List (List UInt8)) (o : Option (List UInt8)), (mkR f es o).length ≤ es.length + 1
  | [], none => by simp [mkR]
  | [], some lo => by simp [mkR]
  | e :: es, none => by
    rw [mkR]
    cases f e
    · have := mkR_len f es none; simp; omega
    · have := mkR_len f es (some e); simp; omega
  | e :: es, some lo => by
    rw [mkR]
    cases f e
    · have := mkR_len f es none; simp; omega
    · have := mkR_len f es (some lo); simp; omega
theorem putL_len : ∀ (l : List (List UInt8)) (s : List UInt8), (putL l s).length ≤ l.length + 1
  | [], s => by simp [putL]
  | x :: l, s => by
    have := putL_len l s
    rw [putL]
    cases ltB x s with
    | true => simp; omega
    | false => cases decide (x = s) <;> simp
theorem addE_len (E : List (List UInt8)) (r : Rng) : (addE E r).length ≤ E.length + 2 := by
  unfold addE
  have h1 := putL_len E r.lo
  have h2 := putL_len (putL E r.lo) r.hi
  cases rightR r with
  | false => simp
  | true => cases r.op <;> simp <;> omega
theorem edges_len : ∀ (l : List Rng) (E : List (List UInt8)), (l.foldl addE E).length ≤ E.length + 2 * l.length
  | [], E => by simp
  | r :: l, E => by
    have h1 := edges_len l (addE E r)
    have h2 := addE_len E r
    simp only [List.foldl_cons, List.length_cons]
    omega
theorem edgesL_len (l : List Rng) : (edgesL l).length ≤ 1 + 2 * l.length := edges_len l [[]]
theorem makeV_small (op : Int) {a b : List Rng} {n m : Nat} (ha : SmallL n a) (hb : SmallL m b) : SmallL (2 * (n + m) + 2) (makeV op a b) := by
  refine ⟨?_, fun r hr => ?_⟩
  · have h1 := mkR_len (inV op a b) (edgesL (a ++ b)) none
    have h2 := edgesL_len (a ++ b)
    rw [List.length_append] at h2
    have h3 := ha.1
    have h4 := hb.1
    unfold makeV
    omega
  · have := rightL_all (makeV_right op a b) r hr
    have h1 := rightR_lo this
    have h2 := rightR_hi this
    omega
theorem smallL_nil (n : Nat) : SmallL n [] := ⟨by simp, by simp⟩
theorem SmallL.mono {n m : Nat} {l : List Rng} (h : SmallL n l) (hm : n ≤ m) : SmallL m l := ⟨Nat.le_trans h.1 hm, h.2⟩
end Go.Proofs.YthgcbomidamcfaaDoor

/-
  The shelf's contracts at this program, in plain words (made by wip/tools/shelf.py).
-/
namespace Go.Proofs
open Go.Shelf
def Tryd.lays106_ren : Go.Shelf.Ren := ⟨fun | 106 => 55 | 213 => 64 | 265 => 68 | n => n, fun | 9 => 9 | 3 => 3 | n => n, fun | n => n⟩
theorem Tryd.lays106 : Go.Proofs.Lays.n106 Tryd.prog Tryd.lays106_ren := {
  mixed := by kernel_rfl
  f106 := Tryd.func55.trans (congrArg some (by kernel_rfl))
  f213 := Tryd.func64.trans (congrArg some (by kernel_rfl))
  f265 := Tryd.func68.trans (congrArg some (by kernel_rfl))
  t3 := Tryd.underlying3
  a3 := Tryd.isAgg3
  z3 := Tryd.sizeOf3
  v3 := Tryd.zeroValue3
  t9 := Tryd.underlying9
  a9 := Tryd.isAgg9
  z9 := Tryd.sizeOf9
  v9 := Tryd.zeroValue9 }
open Go.RowKit in
theorem Tryd.strings_Compare (a b : ByteArray) (w : World) :
    Calls Tryd.prog 55 #[.string a, .string b] w fun e w' => e = .returned (.int .i64 (Lib.compareBytes a.data.toList b.data.toList)) ∧ w' = w := Any.strings_Compare Tryd.lays106 a b w
end Go.Proofs

/-
  Layer 6 (key): which are keys, and edges; which of two stands ahead; what stands behind.
-/
namespace Go.Proofs.YthgcbomidamcfaaDoor
open Go.RowKit

theorem ret_txt {a b : ByteArray} (h : a = b) : Ending.returned (.string a) = .returned (.string b) := by rw [h]
theorem txt_app (a b : List UInt8) : str a ++ str b = str (a ++ b) := by
  apply ByteArray.ext
  rw [ByteArray.data_append]
  simp [str]
theorem txt_at (l : List UInt8) (k : Nat) (h : k < (str l).size) : (str l)[k] = l.getD k 0 := str_get l k (by rwa [str_size] at h)

theorem key_cmp (a b : List UInt8) (w : World) : Calls Tryd.prog 43 #[.string (str a), .string (str b)] w fun e w' => e = .returned (.int .i64 (Lib.compareBytes a b)) ∧ w = w' := by
  have K := Tryd.strings_Compare (str a) (str b) w
  rw [str_data, str_data] at K
  have K := Lib.hid K
  go_enter Tryd.func43, Tryd.ntmps43
  go_wp2_with ((with_reducible refine K.out.mono ?_); rintro e w' ⟨rfl, rfl⟩)
  go_ret
  exact ⟨rfl, rfl⟩

/-- Is a text a key? -/
def rightB (k : List UInt8) : Bool := decide (1 ≤ k.length) && decide (k.length ≤ 16)
/-- Is a text an edge? -/
def edgeB (k : List UInt8) : Bool := decide (k.length ≤ 17)
theorem key_edge (k : List UInt8) (w : World) : Calls Tryd.prog 42 #[.string (str k)] w fun e w' => e = .returned (.bool (edgeB k)) ∧ w = w' := by
  have hz : (str k).size = k.length := str_size k
  generalize str k = S at hz ⊢
  go_enter Tryd.func42, Tryd.ntmps42
  go_wp2_with fail
  all_goals
    go_ret
    exact ⟨ret_bool (by unfold edgeB; rw [← hz]; simp; try omega), rfl⟩

set_option maxRecDepth 100000 in
theorem key_with (s : List UInt8) (b : UInt8) (hs : s.length ≤ 1000000) (w : World) : Calls Tryd.prog 65 #[.string (str s), .int .u8 (b.toNat : Int)] w fun e w' => e = .returned (.string (str (s ++ [b]))) ∧ Below w.heap.size w w' := by
  have hrow := byte_row w _ b rfl
  have K1 : (convert 59 9 (.slice (some ⟨w.heap.size, 0, none⟩) 1 1)).run Tryd.prog (w.alloc (.cells #[.int .u8 (b.toNat : Int)] 5)) = .ok (.string (str [b])) _ :=
    conv_str (P := Tryd.prog) 1 59 5 9 Tryd.underlying59 Tryd.underlying5 Tryd.underlying9 hrow
  have HB := Lib.hid ((Below.refl w.heap.size w).alloc (Nat.le_refl _) (.cells #[.int .u8 (b.toNat : Int)] 5))
  have hz : (str s).size ≤ 1000000 := by rw [str_size]; exact hs
  have hz1 : (str [b]).size ≤ 1 := by rw [str_size]; simp
  have HV := Lib.hid (txt_app s [b])
  go_enter Tryd.func65, Tryd.ntmps65
  go_wp2_with fail
  go_ret
  exact ⟨ret_txt HV.out, HB.out⟩
end Go.Proofs.YthgcbomidamcfaaDoor

/-
  Layer 6 (key): the document's order, with what texts begin, ends.
-/
namespace Go.Proofs.YthgcbomidamcfaaDoor
open Go.RowKit

theorem int_eq_false {x y : UInt8} (h : x ≠ y) : ((x.toNat : Int) == (y.toNat : Int)) = false := by
  rw [beq_eq_false_iff_ne]
  intro e
  exact h (UInt8.toNat_inj.1 (by omega))
/-- Below w with some draws. -/
theorem ref_less (a b : List UInt8) (ha : a.length ≤ 9223372036854775807) (w : World) : Calls Tryd.prog 48 #[.string (str a), .string (str b)] w fun e w' => e = .returned (.bool (ltB a b)) ∧ ∃ n, w' = w.drewN n := by
  have hza : (str a).size = a.length := str_size a
  have hzb : (str b).size = b.length := str_size b
  have hA : ∀ k, (h : k < (str a).size) → (str a)[k] = a.getD k 0 := fun k h => txt_at a k h
  have hB : ∀ k, (h : k < (str b).size) → (str b)[k] = b.getD k 0 := fun k h => txt_at b k h
  generalize str a = S at hza hA ⊢
  generalize str b = T at hzb hB ⊢
  have HA := Lib.hid hA
  have HB := Lib.hid hB
  have HZA := Lib.hid hza
  have HZB := Lib.hid hzb
  have hmx : S.size ≤ 9223372036854775807 := by omega
  clear hA hB hza hzb
  go_enter Tryd.func48, Tryd.ntmps48
  go_wp2_with fail
  go_loopw [5] (fun i wr => ∃ k m : Nat, k ≤ S.size ∧ k ≤ T.size ∧ Hid (ltB a b = ltB (a.drop k) (b.drop k)) ∧ i = .int .i64 k ∧ wr = w.drewN m) (fun i _ => S.size - (intOf i).toNat)
  case atStart => exact ⟨0, 0, by omega, by omega, rfl, rfl, rfl⟩
  case round =>
    obtain ⟨k, m, hk, hk2, HL, rfl, rfl⟩ := hrel
    by_cases hlt : k < S.size
    · by_cases hlt2 : k < T.size
      · have c1 := HA.out k hlt
        have c2 := HB.out k hlt2
        have HS := fun h => Lib.hid (ltB_step (a := a) (b := b) (k := k) (by have := HZA.out; omega) (by have := HZB.out; omega) h)
        have HT := fun h => Lib.hid (ltB_stop (a := a) (b := b) (k := k) (by have := HZA.out; omega) (by have := HZB.out; omega) h)
        obtain ⟨x, hx⟩ : ∃ x, a.getD k 0 = x := ⟨_, rfl⟩
        obtain ⟨y, hy⟩ : ∃ y, b.getD k 0 = y := ⟨_, rfl⟩
        rw [hx] at c1 HS HT
        rw [hy] at c2 HS HT
        clear hx hy
        by_cases hxy : x = y
        · subst hxy
          have HN := Lib.hid (HL.out.trans (HS rfl).out)
          clear HT HS
          go_wp2_with fail
          go_quiet (fail)
          go_wp2_with fail
          go_roundw
          case rel => exact ⟨k + 1, _, by omega, by omega, HN, by go_num, rfl⟩
          case measure => simp [intOf]; omega
        · have hxy' := int_eq_false hxy
          have hxy2 : ((x.toNat : Int) != (y.toNat : Int)) = true := by simp [bne, hxy']
          have HN := Lib.hid (HL.out.trans (HT hxy).out)
          clear HT HS hxy
          go_wp2_with fail
          go_quiet (fail)
          go_wp2_with fail
          go_quiet (fail)
          go_wp2_with fail
          go_ret
          refine ⟨ret_bool (by rw [HN.out]), ?_⟩
          rw [World.drewN_drewN, World.drewN_drewN]
          exact ⟨_, rfl⟩
      · have hge : T.size ≤ k := by omega
        have HN := Lib.hid (HL.out.trans (ltB_out (by have := HZB.out; omega)))
        go_wp2_with fail
        go_ret
        exact ⟨ret_bool HN.out.symm, _, rfl⟩
    · have hke : S.size = k := by omega
      have HN := Lib.hid (HL.out.trans (ltB_end (by have := HZA.out; omega) (by have := HZB.out; omega)))
      have HE : Hid (decide (S.size < T.size) = decide (k < b.length)) := decide_eq_decide.2 (by have := HZB.out; omega)
      clear hke
      go_wp2_with fail
      go_ret
      exact ⟨ret_bool (HE.out.trans HN.out.symm), _, rfl⟩
end Go.Proofs.YthgcbomidamcfaaDoor

/-
  Layer 6 (key): with what texts begin; the first of all texts behind all that begin with one.
-/
namespace Go.Proofs.YthgcbomidamcfaaDoor
open Go.RowKit

theorem run_str_to {P : Program} {t : TypeId} (ht : P.underlying t = some .string) (w : World) (S : ByteArray) (k : Nat) (i : Int) (hi : i = (k : Int)) (hk : k ≤ S.size) :
    (Instr.slice t (.string S) none (some (.int .i64 i)) none).run P w = .ok (.string (S.extract 0 k)) w := by
  subst hi
  rw [run_slice_string_to_if w t S .i64 _ ht, if_pos (by omega)]
  rfl
set_option maxHeartbeats 400000 in
theorem key_end (p : List UInt8) (hp : p.length ≤ 1000000) (w : World) : Calls Tryd.prog 56 #[.string (str p)] w fun e w' =>
    ((∃ x, endV p = some x ∧ e = .returned (.tuple #[.string (str x), .bool true])) ∨ (endV p = none ∧ e = .returned (.tuple #[.string (str []), .bool false]))) ∧ Below w.heap.size w w' := by
  have hz : (str p).size = p.length := str_size p
  have hA : ∀ k, (h : k < (str p).size) → (str p)[k] = p.getD k 0 := fun k h => txt_at p k h
  have hT : ∀ k, (str p).extract 0 k = str (p.take k) := fun k => str_take p k
  generalize str p = S at hz hA hT ⊢
  have HA := Lib.hid hA
  have HT := Lib.hid hT
  have HZ := Lib.hid hz
  have hmx : S.size ≤ 1000000 := by omega
  clear hA hT hz
  go_enter Tryd.func56, Tryd.ntmps56
  go_wp2_with fail
  go_loop [4] (fun i => ∃ n : Nat, n ≤ S.size ∧ Hid (endV p = endV (p.take n)) ∧ i = .int .i64 n) (fun i => (intOf i).toNat)
  case atStart => exact ⟨S.size, by omega, by rw [HZ.out, List.take_length]; exact rfl, rfl⟩
  case round =>
    obtain ⟨n, hn, HE, rfl⟩ := hrel
    cases n with
    | zero =>
      have HN := Lib.hid (HE.out.trans (show endV (p.take 0) = none from rfl))
      go_wp2_with fail
      go_ret2
      exact ⟨.inr ⟨HN.out, rfl⟩, Below.refl _ _⟩
    | succ k =>
      have hk : k < S.size := by omega
      have c1 := HA.out k hk
      have HS := Lib.hid (take_succ_getD (t := p) (k := k) (by have := HZ.out; omega))
      obtain ⟨c, hc⟩ : ∃ c, p.getD k 0 = c := ⟨_, rfl⟩
      rw [hc] at c1 HS
      clear hc
      by_cases h : c = 255
      · subst h
        have HN := Lib.hid (HE.out.trans (by rw [HS.out, endV_last]))
        go_wp2_with fail
        go_round
        case rel => exact ⟨k, by omega, HN, by go_num⟩
        case measure => simp [intOf]
      · have HN := Lib.hid (HE.out.trans (by rw [HS.out, endV_some h]))
        have hc255 : ((c.toNat : Int) == 255) = false := int_eq_false h
        have HK : Hid (∀ w, Calls Tryd.prog 65 #[.string (S.extract 0 k), .int .u8 (IntKind.u8.wrap ((c.toNat : Int) + 1))] w fun e w' => e = .returned (.string (str (p.take k ++ [c + 1]))) ∧ Below w.heap.size w w') := by
          have e1 : IntKind.u8.wrap ((c.toNat : Int) + 1) = ((c + 1).toNat : Int) := by
            have h2 := add_one_nat h
            have h3 := (c + 1).toNat_lt
            rw [IntWalk.u8_in _ (by omega)]; omega
          rw [e1, HT.out]
          exact fun w => key_with (p.take k) (c + 1) (by rw [List.length_take]; omega) w
        go_wp2_with fail
        have hi1 : (k : Int) ≤ (S.size : Int) := by omega
        have hi2 : (k : Int) < (S.size : Int) := by omega
        have hi3 : (0 : Int) ≤ (k : Int) := by omega
        have hw : IntKind.i64.wrap (k : Int) = (k : Int) := IntWalk.i64_in _ (by omega)
        go_region_held3 (fun w' => Below w.heap.size w w') (first | (exact (Below.refl _ _).drew) | assumption | go_keep) (first | (go_at_call 65; refine (HK.out _).mono ?_; rintro e w' ⟨rfl, hb⟩; have hbb := (Below.refl _ _).drew.trans hb))
        go_wp2_with fail
        go_ret2
        exact ⟨.inl ⟨_, HN.out, rfl⟩, by assumption⟩
end Go.Proofs.YthgcbomidamcfaaDoor

/-
  Layer 6 (key): the document's end of a text; with what all texts begin.
-/
namespace Go.Proofs.YthgcbomidamcfaaDoor
open Go.RowKit

theorem run_txt_add {P : Program} (a b : List UInt8) (h : a.length + b.length ≤ 9223372036854775807) (w : World) : (Op.stringOp .add (str a) (str b)).run P w = .ok (.string (str (a ++ b))) w := by
  rw [run_string_add_sum _ _ _ (by rw [str_size, str_size]; exact h), txt_app]
/-- What an end hands back. -/
def EndV (p : List UInt8) (e : Ending) : Prop :=
  (∃ x, endV p = some x ∧ e = .returned (.tuple #[.string (str x), .bool true])) ∨ (endV p = none ∧ e = .returned (.tuple #[.string (str []), .bool false]))
theorem drewN2 (w : World) (a b : Nat) : ∃ n, (w.drewN a).drewN b = w.drewN n := ⟨_, World.drewN_drewN _ _ _⟩
theorem alike_post {a b : List UInt8} {k na nb : Nat} (ha : na = a.length) (hb : nb = b.length) (h1 : k ≤ na) (h2 : k ≤ nb) (h3 : a.take k = b.take k) (h4 : k < na → k < nb → a.getD k 0 ≠ b.getD k 0) : (k : Int) = (alikeN a b : Nat) := by
  rw [alikeN_at (by omega) (by omega) h3 (fun u v => h4 (by omega) (by omega))]
end Go.Proofs.YthgcbomidamcfaaDoor

/-
  Slices cut out of rows that are read: 'b[k:]', 'b[:k]', 'b[k:h]'.
-/
namespace Go.Proofs.YthgcbomidamcfaaDoor
open Go.RowKit

/-- Where 'b[k:]' begins. -/
def cutA (A : Option Addr) (k c : Nat) : Option Addr := if c = k then A else A.map (·.add k)
theorem run_cut {T E : TypeId} (ht : Tryd.prog.underlying T = some (.slice E)) (hs : ∀ w, (sizeOf E).run Tryd.prog w = .ok 1 w) (w : World) (A : Option Addr) (n c k : Nat) (hk : k ≤ n) :
    (Instr.slice T (.slice A n c) (some (.int .i64 (k : Int))) none none).run Tryd.prog w = .ok (.slice (cutA A k c) (n - k) (c - k)) w := by
  have ht' : Tryd.prog.underlying T = some (.slice (Tryd.prog.elem T)) := by simp [Program.elem, ht]
  have he : Tryd.prog.elem T = E := by simp [Program.elem, ht]
  rw [run_slice_l w T _ _ _ ht' .i64 _ (by omega) (by omega), he, hs]
  simp [Result.andThen, sliced, cutA]
theorem RowAt.cut {w : World} {B : Nat} {A : Option Addr} {l : List Value} {k c : Nat} (h : RowAt w B A l) (hk : k ≤ l.length) (hc : l.length ≤ c) : RowAt w B (cutA A k c) (l.drop k) := by
  unfold cutA
  split
  · left
    exact List.drop_of_length_le (by omega)
  · rcases h with h | ⟨b, o, rfl, h2, h3⟩
    · left; rw [h]; simp
    · refine .inr ⟨b, o + k, by simp [Go.WideShapes.add_plain], h2, fun j u hu => ?_⟩
      rw [Nat.add_assoc]
      exact h3 _ u (by rw [← hu, List.getElem?_drop])
theorem RowAt.drewN {w : World} {B : Nat} {A : Option Addr} {l : List Value} (h : RowAt w B A l) (k : Nat) : RowAt (w.drewN k) B A l := h
theorem RdB.cut {w : World} {B : Nat} {A : Option Addr} {c k : Nat} {l : List UInt8} (h : RdB w B A c l) (hk : k ≤ l.length) : RdB w B (cutA A k c) (c - k) (l.drop k) :=
  ⟨by have := RowAt.cut h.row (k := k) (c := c) (by simpa using hk) (by simpa using h.room)
      simpa [bytes] using this, by have := h.room; simp; omega, by have := h.cap; omega⟩
theorem byte_size (w : World) : (sizeOf 5).run Tryd.prog w = .ok 1 w := by kernel_rfl
theorem run_cut2 {T E : TypeId} (ht : Tryd.prog.underlying T = some (.slice E)) (hs : ∀ w, (sizeOf E).run Tryd.prog w = .ok 1 w) (w : World) (A : Option Addr) (n c k : Nat) (h : Int) (h1 : (k : Int) ≤ h) (h2 : h ≤ c) :
    (Instr.slice T (.slice A n c) (some (.int .i64 (k : Int))) (some (.int .i64 h)) none).run Tryd.prog w = .ok (.slice (cutA A k c) (h.toNat - k) (c - k)) w := by
  have ht' : Tryd.prog.underlying T = some (.slice (Tryd.prog.elem T)) := by simp [Program.elem, ht]
  have he : Tryd.prog.elem T = E := by simp [Program.elem, ht]
  rw [run_slice_lh w T _ _ _ ht' .i64 .i64 _ _ (by omega) h1 h2, he, hs]
  simp [Result.andThen, sliced, cutA]
theorem run_take {T E : TypeId} (ht : Tryd.prog.underlying T = some (.slice E)) (hs : ∀ w, (sizeOf E).run Tryd.prog w = .ok 1 w) (w : World) (A : Option Addr) (n c m : Nat) (h2 : m ≤ c) :
    (Instr.slice T (.slice A n c) none (some (.int .i64 (m : Int))) none).run Tryd.prog w = .ok (.slice A m c) w := by
  have ht' : Tryd.prog.underlying T = some (.slice (Tryd.prog.elem T)) := by simp [Program.elem, ht]
  have he : Tryd.prog.elem T = E := by simp [Program.elem, ht]
  rw [run_slice_h w T _ _ _ ht' .i64 _ (by omega) (by omega), he, hs]
  cases A <;> simp [Result.andThen, sliced, Addr.add]
theorem RowAt.take {w : World} {B : Nat} {A : Option Addr} {l : List Value} (h : RowAt w B A l) (k : Nat) : RowAt w B A (l.take k) := by
  rcases h with h | ⟨b, o, rfl, h2, h3⟩
  · left; rw [h]; simp
  · refine .inr ⟨b, o, rfl, h2, fun j u hu => h3 j u ?_⟩
    rw [List.getElem?_take] at hu
    split at hu
    · exact hu
    · cases hu
theorem RdB.take {w : World} {B : Nat} {A : Option Addr} {c : Nat} {l : List UInt8} (h : RdB w B A c l) (k : Nat) : RdB w B A c (l.take k) :=
  ⟨by have := RowAt.take h.row k
      simpa [bytes] using this, by have := h.room; simp; omega, h.cap⟩
end Go.Proofs.YthgcbomidamcfaaDoor

/-
  Layer 6 (key): the longest text with which all begin.
-/
namespace Go.Proofs.YthgcbomidamcfaaDoor
open Go.RowKit

theorem commonF_len (s : List UInt8) (r : List (List UInt8)) : (commonF s r).length ≤ s.length := ((commonF_pre r s).1).length_le
theorem strs_take_step {r : List (List UInt8)} {k : Nat} (s : List UInt8) (h : k < r.length) : commonF s (r.take (k + 1)) = (commonF s (r.take k)).take (alikeN (commonF s (r.take k)) (r.getD k [])) := by
  have e : r.take (k + 1) = r.take k ++ [r.getD k []] := by
    rw [List.take_succ_eq_append_getElem h]; simp [List.getD, List.getElem?_eq_getElem h]
  rw [e, commonF_snoc]
theorem string_size (w : World) : (sizeOf 9).run Tryd.prog w = .ok 1 w := by kernel_rfl
end Go.Proofs.YthgcbomidamcfaaDoor

/-
  The laws of layer 6: the chapter's examples; KeyOrder, KeyTotal.
-/
namespace Go.Proofs.YthgcbomidamcfaaDoor
open Go.RowKit

/-! The callees over letters: the texts are named ahead of a walk. -/
theorem less_is (a b : List UInt8) (S T : ByteArray) (hS : str a = S) (hT : str b = T) (ha : a.length ≤ 1000000) (v : Bool) (hv : ltB a b = v) (w : World) : Calls Tryd.prog 48 #[.string S, .string T] w fun e w' => e = .returned (.bool v) ∧ Below w.heap.size w w' := by
  subst hS hT hv
  exact (ref_less a b (by omega) w).mono fun e w' ⟨h1, n, h2⟩ => ⟨h1, below_quiet h2⟩
theorem cmp_is (a b : List UInt8) (S T : ByteArray) (hS : str a = S) (hT : str b = T) (v : Int) (hv : Lib.compareBytes a b = v) (w : World) : Calls Tryd.prog 43 #[.string S, .string T] w fun e w' => e = .returned (.int .i64 v) ∧ w = w' := by
  subst hS hT hv
  exact key_cmp a b w
theorem edge_is (a : List UInt8) (S : ByteArray) (hS : str a = S) (v : Bool) (hv : edgeB a = v) (w : World) : Calls Tryd.prog 42 #[.string S] w fun e w' => e = .returned (.bool v) ∧ w = w' := by
  subst hS hv
  exact key_edge a w
theorem end_is (a x : List UInt8) (S T : ByteArray) (hS : str a = S) (hT : str x = T) (ha : a.length ≤ 1000000) (hx : endV a = some x) (w : World) : Calls Tryd.prog 56 #[.string S] w fun e w' => e = .returned (.tuple #[.string T, .bool true]) ∧ Below w.heap.size w w' := by
  subst hS hT
  refine (key_end a ha w).mono ?_
  rintro e w' ⟨⟨y, hy, rfl⟩ | ⟨hn, -⟩, hb⟩
  · rw [hx] at hy
    injection hy with hy
    subst hy
    exact ⟨rfl, hb⟩
  · rw [hx] at hn; cases hn

theorem txt_ne {a b : List UInt8} {S T : ByteArray} (hS : str a = S) (hT : str b = T) (h : a ≠ b) : (S.toList == T.toList) = false := by
  subst hS hT
  rw [str_toList, str_toList]
  simpa using h
theorem edge_int (a : List UInt8) (S : ByteArray) (hS : str a = S) : edgeB a = decide ((S.size : Int) ≤ 17) := by
  subst hS
  unfold edgeB
  rw [str_size]
  exact decide_eq_decide.2 (by omega)
/-- What three texts' places have to do with one another. -/
theorem cmp_three (a b c : List UInt8) : ∃ x y z : Int, Lib.compareBytes a b = x ∧ Lib.compareBytes b c = y ∧ Lib.compareBytes a c = z ∧
    ((x = 0 ∧ y = z ∧ (y = -1 ∨ y = 0 ∨ y = 1)) ∨ (x = -1 ∧ (y = -1 ∨ y = 0) ∧ z = -1) ∨ (x = 1 ∧ (y = 1 ∨ y = 0) ∧ z = 1) ∨ (x = -1 ∧ y = 1 ∧ (z = -1 ∨ z = 0 ∨ z = 1)) ∨ (x = 1 ∧ y = -1 ∧ (z = -1 ∨ z = 0 ∨ z = 1))) := by
  have any : ∀ a b : List UInt8, Lib.compareBytes a b = -1 ∨ Lib.compareBytes a b = 0 ∨ Lib.compareBytes a b = 1 := fun a b => by
    rcases ltB_three a b with ⟨h, _, _⟩ | ⟨_, h, _⟩ | ⟨_, _, rfl⟩
    · exact .inl (cmp_lt h)
    · exact .inr (.inr (cmp_gt h))
    · exact .inr (.inl (cmp_self a))
  refine ⟨_, _, _, rfl, rfl, rfl, ?_⟩
  rcases ltB_three a b with ⟨h1, _, _⟩ | ⟨_, h1, _⟩ | ⟨_, _, rfl⟩
  · rcases ltB_three b c with ⟨h2, _, _⟩ | ⟨_, h2, _⟩ | ⟨_, _, rfl⟩
    · exact .inr (.inl ⟨cmp_lt h1, .inl (cmp_lt h2), cmp_lt (ltB_trans h1 h2)⟩)
    · exact .inr (.inr (.inr (.inl ⟨cmp_lt h1, cmp_gt h2, any a c⟩)))
    · exact .inr (.inl ⟨cmp_lt h1, .inr (cmp_self b), cmp_lt h1⟩)
  · rcases ltB_three b c with ⟨h2, _, _⟩ | ⟨_, h2, _⟩ | ⟨_, _, rfl⟩
    · exact .inr (.inr (.inr (.inr ⟨cmp_gt h1, cmp_lt h2, any a c⟩)))
    · exact .inr (.inr (.inl ⟨cmp_gt h1, .inl (cmp_gt h2), cmp_gt (ltB_trans h2 h1)⟩))
    · exact .inr (.inr (.inl ⟨cmp_gt h1, .inr (cmp_self b), cmp_gt h1⟩))
  · exact .inl ⟨cmp_self a, rfl, any a c⟩
end Go.Proofs.YthgcbomidamcfaaDoor
