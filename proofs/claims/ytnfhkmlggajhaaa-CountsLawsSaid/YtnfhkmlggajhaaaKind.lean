/-
  Lists of things that take some cells each, as rows of the program: read, owned, appended to, stored into.
-/
import Derived.Test.YtnfhkmlggajhaaaMore
namespace Go.Proofs.Ytnfhkmlggajhaaa
open Go.RowKit

theorem below_new (w : World) (o : Obj) : Below w.heap.size w (w.alloc o) := (Below.refl _ _).alloc (Nat.le_refl _) o
/-- How a thing lies in memory, and in slices of which type. -/
structure Kind (P : Program) (α : Type) where
  ty : TypeId
  el : TypeId
  size : Nat
  bytes : Nat
  zero : Value
  cells : α → List Value
  len : ∀ x, (cells x).length = size
  one : ∀ x, ∀ u ∈ cells x, u.oneCell' = true
  pos : 0 < size
  under : P.underlying ty = some (.slice el)
  info : (P.info? el).map (fun i => (i.zero, i.size, i.bytes)) = some (some zero, size, bytes)
  zsize : zero.cells.size = size

namespace Kind
variable {P : Program} {α : Type} (k : Kind P α)

def row (l : List α) : List Value := l.flatMap k.cells
theorem row_nil : k.row [] = [] := rfl
theorem row_cons (x : α) (l : List α) : k.row (x :: l) = k.cells x ++ k.row l := rfl
theorem row_append (a b : List α) : k.row (a ++ b) = k.row a ++ k.row b := by simp [row]
theorem row_one (x : α) : k.row [x] = k.cells x := by simp [row]
theorem row_len : ∀ l : List α, (k.row l).length = l.length * k.size
  | [] => by simp [row]
  | x :: l => by rw [row_cons, List.length_append, k.len, row_len l, List.length_cons, Nat.succ_mul, Nat.add_comm]
theorem row_cells (l : List α) : ∀ u ∈ k.row l, u.oneCell' = true := fun u hu => by
  obtain ⟨x, _, hx⟩ := List.mem_flatMap.1 hu
  exact k.one x u hx
/-- Cell j of thing i. -/
theorem row_get : ∀ {l : List α} {i j : Nat} {x : α}, l[i]? = some x → j < k.size → (k.row l)[i * k.size + j]? = (k.cells x)[j]?
  | [], i, j, x, h, _ => by cases h
  | y :: l, 0, j, x, h, hj => by
    simp only [List.getElem?_cons_zero, Option.some.injEq] at h
    subst h
    rw [row_cons, Nat.zero_mul, Nat.zero_add, List.getElem?_append_left (by rw [k.len]; exact hj)]
  | y :: l, i + 1, j, x, h, hj => by
    rw [List.getElem?_cons_succ] at h
    rw [row_cons, List.getElem?_append_right (by rw [k.len, Nat.succ_mul]; omega), k.len, ← row_get h hj, Nat.succ_mul]
    congr 1; omega
theorem row_set : ∀ {l : List α} {i j : Nat} {x y : α} {v : Value}, l[i]? = some x → j < k.size → (k.cells x).set j v = k.cells y → (k.row l).set (i * k.size + j) v = k.row (l.set i y)
  | [], i, j, x, y, v, h, _, _ => by cases h
  | z :: l, 0, j, x, y, v, h, hj, he => by
    simp only [List.getElem?_cons_zero, Option.some.injEq] at h
    subst h
    rw [row_cons, Nat.zero_mul, Nat.zero_add, List.set_append_left _ _ (by rw [k.len]; exact hj), he, List.set_cons_zero, row_cons]
  | z :: l, i + 1, j, x, y, v, h, hj, he => by
    rw [List.getElem?_cons_succ] at h
    rw [row_cons, List.set_append_right _ _ (by rw [k.len, Nat.succ_mul]; omega), List.set_cons_succ, row_cons, ← row_set h hj he, k.len]
    congr 2
    rw [Nat.succ_mul]; omega

theorem row_take : ∀ (l : List α) (i : Nat), k.row (l.take i) = (k.row l).take (i * k.size)
  | [], i => by simp [row]
  | x :: l, 0 => by simp [row]
  | x :: l, i + 1 => by
    have e : (i + 1) * k.size = (k.cells x).length + i * k.size := by rw [k.len, Nat.succ_mul, Nat.add_comm]
    rw [List.take_succ_cons, row_cons, row_cons, row_take l i, e, List.take_length_add_append]
theorem row_drop : ∀ (l : List α) (i : Nat), k.row (l.drop i) = (k.row l).drop (i * k.size)
  | [], i => by simp [row]
  | x :: l, 0 => by simp [row]
  | x :: l, i + 1 => by
    have e : (i + 1) * k.size = (k.cells x).length + i * k.size := by rw [k.len, Nat.succ_mul, Nat.add_comm]
    rw [List.drop_succ_cons, row_cons, row_drop l i, e, List.drop_length_add_append]

/-- A row that reads as these things, with its room. -/
structure Rd (w : World) (B : Nat) (A : Option Addr) (c : Nat) (l : List α) : Prop where
  row : RowAt w B A (k.row l)
  room : l.length ≤ c
  cap : c ≤ maxLen
variable {k}
theorem Rd.keep {w w' : World} {B : Nat} {A : Option Addr} {c : Nat} {l : List α} (h : k.Rd w B A c l) (hk : ∀ p : Addr, p.block < B → w'.cell? p = w.cell? p) : k.Rd w' B A c l := ⟨h.row.keep hk, h.room, h.cap⟩
theorem Rd.below {w w' : World} {B : Nat} {A : Option Addr} {c : Nat} {l : List α} (h : k.Rd w B A c l) (hb : Below B w w') : k.Rd w' B A c l := ⟨h.row.below hb, h.room, h.cap⟩
theorem Rd.more {w : World} {B B' : Nat} {A : Option Addr} {c : Nat} {l : List α} (h : k.Rd w B A c l) (hB : B ≤ B') : k.Rd w B' A c l := ⟨h.row.more hB, h.room, h.cap⟩
theorem Rd.call {w w' : World} {A : Option Addr} {c : Nat} {l : List α} (h : k.Rd w w.heap.size A c l) (hb : Below w.heap.size w w') : k.Rd w' w'.heap.size A c l := (h.below hb).more hb.size
theorem Rd.drewN {w : World} {B : Nat} {A : Option Addr} {c : Nat} {l : List α} (h : k.Rd w B A c l) (n : Nat) : k.Rd (w.drewN n) B A c l := ⟨h.row, h.room, h.cap⟩
theorem Rd.nil (w : World) (B : Nat) : k.Rd w B none 0 [] := ⟨.inl rfl, Nat.le_refl _, Nat.zero_le _⟩
/-- Where the things lie. -/
theorem Rd.at_ {w : World} {B : Nat} {A : Option Addr} {c : Nat} {l : List α} (h : k.Rd w B A c l) (hp : 0 < l.length) :
    ∃ b o, A = some ⟨b, o, none⟩ ∧ b < B ∧ ∀ i x, l[i]? = some x → ∀ j u, (k.cells x)[j]? = some u → w.cell? ⟨b, o + (i * k.size + j), none⟩ = some u := by
  rcases h.row with h0 | ⟨b, o, h1, h2, h3⟩
  · exfalso
    have := congrArg List.length h0
    rw [k.row_len, List.length_nil] at this
    have := Nat.mul_pos hp k.pos
    omega
  · refine ⟨b, o, h1, h2, fun i x hx j u hu => h3 _ _ ?_⟩
    have hj : j < k.size := by
      rw [← k.len x]
      exact (List.getElem?_eq_some_iff.1 hu).1
    rw [k.row_get hx hj]; exact hu

/-- A row of the call's own. -/
def Own (k : Kind P α) (w : World) (base : Nat) (v : Value) (l : List α) : Prop := w.ownsRow base k.el k.size v l.length (k.row l)
theorem Own.of_row {w : World} {base n : Nat} {v : Value} {l : List α} (h : w.ownsRow base k.el k.size v n (k.row l)) : k.Own w base v l := by
  have h1 := h.1
  rw [k.row_len] at h1
  obtain rfl : l.length = n := Nat.eq_of_mul_eq_mul_right k.pos h1
  exact h
theorem Own.nil (w : World) (base : Nat) : k.Own w base (.slice none 0 0) [] := ⟨by simp [row], .inl ⟨rfl, rfl⟩⟩
theorem Own.alloc {w : World} {base : Nat} {v : Value} {l : List α} (h : k.Own w base v l) (o : Obj) : k.Own (w.alloc o) base v l := World.ownsRow.alloc h o
theorem Own.kept {w w' : World} {r : Option Nat} {base : Nat} {v : Value} {l : List α} (h : k.Own w base v l) (hg : w.grownBy w' r) (hne : v.ownBlock = none ∨ v.ownBlock ≠ r) : k.Own w' base v l := World.ownsRow.kept h hg hne
theorem Own.lt {w : World} {base : Nat} {v : Value} {l : List α} (h : k.Own w base v l) : ∀ g, v.ownBlock = some g → base ≤ g ∧ g < w.heap.size := World.ownsRow.lt h
theorem Own.below {w w' : World} {base : Nat} {v : Value} {l : List α} (h : k.Own w base v l) (hb : Below w.heap.size w w') : k.Own w' base v l :=
  h.kept (grown_of_below hb none) (by cases hv : v.ownBlock <;> simp)
theorem Own.other {w w' : World} {base r : Nat} {v : Value} {l : List α} (h : k.Own w base v l) (hg : w.grownBy w' (some r)) (hr : r < base) : k.Own w' base v l :=
  h.kept hg (by
    cases hv : v.ownBlock with
    | none => exact .inl rfl
    | some g => exact .inr (fun e => by have := (h.lt g hv).1; injection e with e; omega))
theorem Own.mono {w : World} {base base' : Nat} {v : Value} {l : List α} (h : k.Own w base v l) (hb : base' ≤ base) : k.Own w base' v l := by
  obtain ⟨h1, h2⟩ := h
  refine ⟨h1, ?_⟩
  rcases h2 with h2 | ⟨g, cap, cur, hv, hg, r⟩
  · exact .inl h2
  · exact .inr ⟨g, cap, cur, hv, by omega, r⟩
theorem Own.form {w : World} {base : Nat} {v : Value} {l : List α} (h : k.Own w base v l) : ∃ A c, v = .slice A l.length c ∧ k.Rd w w.heap.size A c l := by
  obtain ⟨A, c, rfl, hc⟩ := own_form h
  refine ⟨A, c, rfl, RowAt.of_own h, hc, ?_⟩
  rcases h.2 with ⟨hv, _⟩ | ⟨g, cap, cur, hv, _, _, _, hm, _⟩
  · injection hv with _ _ h3; subst h3; exact Nat.zero_le _
  · injection hv with _ _ h3; subst h3; exact hm
theorem Own.rd {w : World} {base n c : Nat} {A : Option Addr} {l : List α} (h : k.Own w base (.slice A n c) l) : k.Rd w w.heap.size A c l := by
  obtain ⟨A', c', hv, hr⟩ := h.form
  injection hv with h1 _ h3
  subst h1 h3
  exact hr
theorem Own.read_n {w : World} {base n : Nat} {v : Value} {l : List α} (h : k.Own w base v l) (hn : n = l.length) : ∃ A c, v = .slice A n c ∧ k.Rd w w.heap.size A c l := by subst hn; exact h.form
/-- An own row with something in it lies at the head of a block of the call's own, free, and its cells are known. -/
theorem Own.some_ {w : World} {base n : Nat} {v : Value} {l : List α} (h : k.Own w base v l) (hn : n = l.length) (hp : 0 < n) :
    ∃ g c, v = .slice (some ⟨g, 0, none⟩) n c ∧ n ≤ c ∧ base ≤ g ∧ g < w.heap.size ∧ (∀ j, w.frozen? ⟨g, j, none⟩ = false) ∧ ∀ i x, l[i]? = some x → ∀ j u, (k.cells x)[j]? = some u → w.cell? ⟨g, i * k.size + j, none⟩ = some u := by
  subst hn
  rcases h.2 with ⟨_, h0⟩ | ⟨g, cap, cur, hv, hg, hb, hc, _, _, ht⟩
  · omega
  · refine ⟨g, cap, hv, hc, hg, lt_of_block hb, fun j => by simp [World.frozen?, hb], fun i x hx j u hu => ?_⟩
    rw [cell_of_row _ _ _ cur _ (0, 0) hb, ← Array.getElem?_toList]
    have hj : j < k.size := by
      rw [← k.len x]
      exact (List.getElem?_eq_some_iff.1 hu).1
    have h1 := k.row_get hx hj
    rw [hu, ← ht, List.getElem?_take] at h1
    split at h1
    · exact h1
    · cases h1
theorem Own.at_g {w : World} {base g n c : Nat} {l : List α} (h : k.Own w base (.slice (some ⟨g, 0, none⟩) n c) l) (hn : n = l.length) (hp : 0 < n) :
    base ≤ g ∧ g < w.heap.size ∧ (∀ j, w.frozen? ⟨g, j, none⟩ = false) ∧ ∀ i x, l[i]? = some x → ∀ j u, (k.cells x)[j]? = some u → w.cell? ⟨g, i * k.size + j, none⟩ = some u := by
  obtain ⟨g', c', hv, _, h1, h2, h3, h4⟩ := h.some_ hn hp
  injection hv with hA
  injection hA with hA
  injection hA with hA
  subst hA
  exact ⟨h1, h2, h3, h4⟩
theorem Own.stored {w : World} {base g n c : Nat} {l : List α} (h : k.Own w base (.slice (some ⟨g, 0, none⟩) n c) l) (hn : n = l.length) {i j : Nat} {x y : α} {v : Value} (hx : l[i]? = some x) (hj : j < k.size) (he : (k.cells x).set j v = k.cells y) :
    k.Own (w.setCell ⟨g, i * k.size + j, none⟩ v) base (.slice (some ⟨g, 0, none⟩) n c) (l.set i y) := by
  subst hn
  have := (World.ownsRow.stored h (i * k.size + j) v).1
  rw [k.row_set hx hj he] at this
  exact Own.of_row this
/-- A block that has just been made reads as its things. -/
theorem rd_new {w : World} {cs : Array Value} {l : List α} {t : TypeId} {n : Nat} (hl : cs.toList = k.row l) (hn : n = l.length) (hm : l.length ≤ 1000000) : k.Rd (w.alloc (.cells cs t)) (w.heap.size + 1) (some ⟨w.heap.size, 0, none⟩) n l := by
  subst hn
  exact ⟨hl ▸ RowAt.of_block (heap_new w _ _ rfl), Nat.le_refl _, by unfold maxLen; omega⟩
end Kind

theorem Kind.Rd.empty {P : Program} {α : Type} {k : Kind P α} (w : World) (B : Nat) (A : Option Addr) (c : Nat) (hc : c ≤ maxLen) : k.Rd w B A c [] := ⟨.inl rfl, Nat.zero_le _, hc⟩
/-- append of a row that is read to a row of the call's own. -/
theorem wpList_app_k {P : Program} {α : Type} (k : Kind P α) {w : World} {ops : Array Oper} {rest : List Oper} {o : Oper} {a : Act} {Q : Exit → Act → World → Prop} (hgd : Region.wanted o (yielded ops a.tmps) = true) (s x : Operand)
    (ho : o.op = .call { callee := .builtin .append, args := #[s, x], argTypes := #[k.ty, k.ty] })
    (base : Nat) (v : Value) (xs : List α) (hs : a.eval s = v) (hown : k.Own w base v xs)
    (B : Nat) (A : Option Addr) (c n : Nat) (ys : List α) (hn : n = ys.length) (hx : a.eval x = .slice A n c) (hr : RowAt w B A (k.row ys)) (hlen : xs.length + ys.length ≤ 1000000) (hby : k.bytes ≤ 1000) (hbase : base ≤ w.heap.size)
    (h : ∀ v' w', k.Own w' base v' (xs ++ ys) → w.grownBy w' v.ownBlock → Below base w w' → (v'.ownBlock = v.ownBlock ∨ v'.ownBlock = some w.heap.size) → wpList P ops Q rest (a.put o.dst v') w') : wpList P ops Q (o :: rest) a w := by
  obtain ⟨i0, hi0, hz0, hz1, hz2⟩ := info_parts k.info
  subst hn
  refine wpList_step fun K hK => ?_
  rw [if_pos hgd]
  refine wp_append_row w s x _ ho base k.el i0 _ k.size k.bytes k.under hi0 hz0 hz1 hz2 k.zsize k.pos v xs.length (k.row xs) hs hown B A ys.length c (k.row ys) hx (k.row_len ys) hr (k.row_cells ys) (by unfold maxLen; omega) ?_ hbase fun v' w' h1 h2 h3 => hK _ _ ?_
  · have := Nat.mul_le_mul hlen hby
    omega
  · refine h v' w' ?_ h2 ((Below.refl _ _).grown h2 hbase (fun g hg => (World.ownsRow.lt hown g hg).1)) h3
    rw [← k.row_append] at h1
    exact Kind.Own.of_row h1
/-- The same for one operation of a statement that draws its order. -/
theorem op_app_k {P : Program} {α : Type} (k : Kind P α) {w : World} {o : Oper} {a : Act} {K : Act → World → Prop} {Q : Exit → Act → World → Prop} (s x : Operand)
    (ho : o.op = .call { callee := .builtin .append, args := #[s, x], argTypes := #[k.ty, k.ty] })
    (base : Nat) (v : Value) (xs : List α) (hs : a.eval s = v) (hown : k.Own w base v xs)
    (B : Nat) (A : Option Addr) (c n : Nat) (ys : List α) (hn : n = ys.length) (hx : a.eval x = .slice A n c) (hr : RowAt w B A (k.row ys)) (hlen : xs.length + ys.length ≤ 1000000) (hby : k.bytes ≤ 1000) (hbase : base ≤ w.heap.size)
    (h : ∀ v' w', k.Own w' base v' (xs ++ ys) → w.grownBy w' v.ownBlock → Below base w w' → (v'.ownBlock = v.ownBlock ∨ v'.ownBlock = some w.heap.size) → K (a.put o.dst v') w') : Oper.wp P o a w K Q := by
  obtain ⟨i0, hi0, hz0, hz1, hz2⟩ := info_parts k.info
  subst hn
  refine wp_append_row w s x _ ho base k.el i0 _ k.size k.bytes k.under hi0 hz0 hz1 hz2 k.zsize k.pos v xs.length (k.row xs) hs hown B A ys.length c (k.row ys) hx (k.row_len ys) hr (k.row_cells ys) (by unfold maxLen; omega) ?_ hbase fun v' w' h1 h2 h3 => h v' w' ?_ h2 ((Below.refl _ _).grown h2 hbase (fun g hg => (World.ownsRow.lt hown g hg).1)) h3
  · have := Nat.mul_le_mul hlen hby
    omega
  · rw [← k.row_append] at h1
    exact Kind.Own.of_row h1
end Go.Proofs.Ytnfhkmlggajhaaa
