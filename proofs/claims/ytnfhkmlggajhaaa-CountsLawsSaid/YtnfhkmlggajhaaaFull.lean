/-
  append of one thing to a slice that has no room: always a row of the call's own. Slices cut out of rows whose things take a cell each.
-/
import Derived.Test.YtnfhkmlggajhaaaKind
import Derived.Test.YtnfhkmlggajhaaaCut
import Derived.ArgAppend
namespace Go.Proofs.Ytnfhkmlggajhaaa
open Go.RowKit

theorem run_take3 {T E : TypeId} (ht : Try.prog.underlying T = some (.slice E)) (hs : ∀ w, (sizeOf E).run Try.prog w = .ok 1 w) (w : World) (A : Option Addr) (n c m : Nat) (h2 : m ≤ c) :
    (Instr.slice T (.slice A n c) none (some (.int .i64 (m : Int))) (some (.int .i64 (m : Int)))).run Try.prog w = .ok (.slice A m m) w := by
  have ht' : Try.prog.underlying T = some (.slice (Try.prog.elem T)) := by simp [Program.elem, ht]
  have he : Try.prog.elem T = E := by simp [Program.elem, ht]
  rw [run_slice_hm w T _ _ _ ht' .i64 .i64 _ _ (by omega) (by omega) (by omega), he, hs]
  cases A <;> simp [Result.andThen, sliced, Addr.add]
namespace Kind
variable {P : Program} {α : Type} {k : Kind P α}
theorem Rd.take {w : World} {B : Nat} {A : Option Addr} {c : Nat} {l : List α} (h : k.Rd w B A c l) {j : Nat} (hj : j ≤ l.length) : k.Rd w B A j (l.take j) :=
  ⟨by rw [k.row_take]; exact h.row.take _, by rw [List.length_take]; omega, by have := h.room; have := h.cap; omega⟩
theorem Rd.cut1 {w : World} {B : Nat} {A : Option Addr} {c : Nat} {l : List α} (h1 : k.size = 1) (h : k.Rd w B A c l) {j : Nat} (hj : j ≤ l.length) : k.Rd w B (cutA A j c) (c - j) (l.drop j) := by
  refine ⟨?_, by have := h.room; rw [List.length_drop]; omega, by have := h.cap; omega⟩
  have e : (k.row l).length = l.length := by rw [k.row_len, h1, Nat.mul_one]
  have h2 := RowAt.cut h.row (k := j) (c := c) (by rw [e]; exact hj) (by rw [e]; exact h.room)
  rw [k.row_drop, h1, Nat.mul_one]
  exact h2
/-- A row of no address has nothing in it. -/
theorem Rd.none {w : World} {B : Nat} {c : Nat} {l : List α} (h : k.Rd w B none c l) : l = [] := by
  rcases h.row with h0 | ⟨b, o, h1, _⟩
  · have e := congrArg List.length h0
    rw [k.row_len, List.length_nil] at e
    cases l with
    | nil => rfl
    | cons x l =>
      rw [List.length_cons] at e
      exact absurd e (Nat.ne_of_gt (Nat.mul_pos (Nat.succ_pos l.length) k.pos))
  · cases h1
end Kind
theorem wpList_app_full {P : Program} {α : Type} (k : Kind P α) {w : World} {ops : Array Oper} {rest : List Oper} {o : Oper} {a : Act} {Q : Exit → Act → World → Prop} (hgd : o.guard = none) (s x : Operand)
    (ho : o.op = .call { callee := .builtin .append, args := #[s, x], argTypes := #[k.ty, k.ty] })
    (B : Nat) (A : Option Addr) (n : Nat) (xs : List α) (hn : n = xs.length) (hs : a.eval s = .slice A n n) (hr : k.Rd w B A n xs)
    (B' g : Nat) (y : α) (hx : a.eval x = .slice (some ⟨g, 0, none⟩) 1 1) (hy : RowAt w B' (some ⟨g, 0, none⟩) (k.row [y])) (hlen : n ≤ 100000) (hby : k.bytes ≤ 1000)
    (h : ∀ v' w', k.Own w' w.heap.size v' (xs ++ [y]) → Below w.heap.size w w' → wpList P ops Q rest (a.put o.dst v') w') : wpList P ops Q (o :: rest) a w := by
  obtain ⟨i0, hi0, hz0, hz1, hz2⟩ := info_parts k.info
  refine wpList_append_grows w hgd s x k.ty ho k.el i0 _ k.size k.bytes k.under hi0 hz0 hz1 hz2 k.zsize k.pos A n n (k.row xs) hs ?_ ?_ ?_ ⟨g, 0, none⟩ 1 1 (k.row [y]) hx (k.row_len [y]) ?_ (k.row_cells [y]) (by omega) (by unfold maxLen; omega) ?_ ?_
  · intro e
    subst e
    have := hr.none
    subst this
    exact ⟨hn, hn⟩
  · rw [hn]; exact k.row_len xs
  · intro b hb j u hj
    rcases hr.row with h0 | ⟨b1, o1, rfl, h2, h3⟩
    · rw [h0] at hj; simp at hj
    · injection hb with hb
      subst hb
      rw [Addr.add_lit]
      exact h3 j u hj
  · intro j u hj
    rcases hy with h0 | ⟨b1, o1, h1, h2, h3⟩
    · rw [h0] at hj; simp at hj
    · injection h1 with h1
      injection h1 with h1 h1o
      subst h1 h1o
      rw [Addr.add_lit]
      exact h3 j u hj
  · have := Nat.mul_le_mul (show n + 1 ≤ 100001 by omega) hby
    omega
  · intro v' w' h1 h2
    rw [← k.row_append] at h1
    exact h v' w' (Kind.Own.of_row h1) ((Below.refl _ _).grown h2 (Nat.le_refl _) (fun g hg => by cases hg))
end Go.Proofs.Ytnfhkmlggajhaaa
