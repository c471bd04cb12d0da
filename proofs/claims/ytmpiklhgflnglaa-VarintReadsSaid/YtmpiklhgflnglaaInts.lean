/-
  Words for a row of ints of the call's own.
-/
import Derived.Test.YtmpiklhgflnglaaBytes
namespace Go.Proofs.Ytmpiklhgflnglaa
open Go.RowKit

theorem int_info : (Try.prog.info? 3).map (fun i => (i.zero, i.size, i.bytes)) = some (some (.int .i64 0), 1, 8) := by kernel_rfl
theorem ints_len (l : List Int) : (ints l).length = l.length * 1 := by simp
theorem ints_one (l : List Int) : ∀ u ∈ ints l, u.oneCell' = true := by
  intro u hu
  obtain ⟨x, _, rfl⟩ := List.mem_map.1 hu
  rfl
theorem allI64_append {a b : List Int} (ha : AllI64 a) (hb : AllI64 b) : AllI64 (a ++ b) := by
  intro x hx
  rcases List.mem_append.1 hx with h | h
  · exact ha x h
  · exact hb x h
/-- A row of ints of the call's own. -/
def OwnI (w : World) (base : Nat) (v : Value) (l : List Int) : Prop := w.ownsRow base 3 1 v l.length (ints l)
theorem OwnI.of_row {w : World} {base n : Nat} {v : Value} {l : List Int} (h : w.ownsRow base 3 1 v n (ints l)) : OwnI w base v l := by
  have := h.1
  rw [ints_len] at this
  obtain rfl : l.length = n := by omega
  exact h
theorem OwnI.alloc {w : World} {base : Nat} {v : Value} {l : List Int} (h : OwnI w base v l) (o : Obj) : OwnI (w.alloc o) base v l := World.ownsRow.alloc h o
theorem OwnI.kept {w w' : World} {row : Option Nat} {base : Nat} {v : Value} {l : List Int} (h : OwnI w base v l) (hg : w.grownBy w' row) (hne : v.ownBlock = none ∨ v.ownBlock ≠ row) : OwnI w' base v l := World.ownsRow.kept h hg hne
theorem OwnI.lt {w : World} {base : Nat} {v : Value} {l : List Int} (h : OwnI w base v l) : ∀ k, v.ownBlock = some k → base ≤ k ∧ k < w.heap.size := World.ownsRow.lt h
/-- .. while a block ahead of base is written. -/
theorem OwnI.other {w w' : World} {base r : Nat} {v : Value} {l : List Int} (h : OwnI w base v l) (hg : w.grownBy w' (some r)) (hr : r < base) : OwnI w' base v l :=
  h.kept hg (by
    cases hv : v.ownBlock with
    | none => exact .inl rfl
    | some k => exact .inr (fun e => by have := (h.lt k hv).1; injection e with e; omega))
theorem OwnI.read {w : World} {base : Nat} {v : Value} {l : List Int} (h : OwnI w base v l) : ∃ A c, v = .slice A l.length c ∧ RowAt w w.heap.size A (ints l) ∧ l.length ≤ c := by
  obtain ⟨A, c, rfl, hc⟩ := own_form h
  exact ⟨A, c, rfl, RowAt.of_own h, hc⟩
theorem int_row (w : World) (x : Int) : RowAt (w.alloc (.cells #[.int .i64 x] 3)) (w.heap.size + 1) (some ⟨w.heap.size, 0, none⟩) (ints [x]) := RowAt.of_block (heap_new w _ _ rfl)
theorem wpList_app_ints {w : World} {ops : Array Oper} {rest : List Oper} {o : Oper} {a : Act} {Q : Exit → Act → World → Prop} (hgd : o.guard = none) (s x : Operand)
    (ho : o.op = .call { callee := .builtin .append, args := #[s, x], argTypes := #[23, 23] })
    (base : Nat) (v : Value) (xs : List Int) (hs : a.eval s = v) (hown : OwnI w base v xs)
    (B : Nat) (A : Option Addr) (c n : Nat) (ys : List Int) (hn : n = ys.length) (hx : a.eval x = .slice A n c) (hr : RowAt w B A (ints ys)) (hlen : (xs.length + ys.length) * 8 ≤ 140737488355328) (hbase : base ≤ w.heap.size)
    (h : ∀ v' w', OwnI w' base v' (xs ++ ys) → w.grownBy w' v.ownBlock → Below base w w' → wpList Try.prog ops Q rest (a.put o.dst v') w') : wpList Try.prog ops Q (o :: rest) a w := by
  obtain ⟨i0, hi0, hz0, hz1, hz2⟩ := info_parts int_info
  subst hn
  refine wpList_append_row w hgd s x _ ho base 3 i0 _ 1 8 Try.underlying23 hi0 hz0 hz1 hz2 rfl Nat.one_pos v xs.length (ints xs) hs hown B A ys.length c (ints ys) hx (ints_len ys) hr (ints_one ys) (by unfold maxLen; omega) hlen hbase fun v' w' h1 h2 _ => ?_
  refine h v' w' ?_ h2 ((Below.refl _ _).grown h2 hbase (own_base hown))
  rw [show ints xs ++ ints ys = ints (xs ++ ys) by simp] at h1
  exact OwnI.of_row h1
end Go.Proofs.Ytmpiklhgflnglaa
