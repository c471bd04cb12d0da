/-
  Slices cut out of rows that are read: 'b[k:]', 'b[:k]', 'b[k:h]'.
-/
import Derived.Test.YtnfhkmlggajhaaaMore
import Derived.Lib.SliceRun
namespace Go.Proofs.Ytnfhkmlggajhaaa
open Go.RowKit

/-- Where 'b[k:]' begins. -/
def cutA (A : Option Addr) (k c : Nat) : Option Addr := if c = k then A else A.map (·.add k)
theorem run_cut {T E : TypeId} (ht : Try.prog.underlying T = some (.slice E)) (hs : ∀ w, (sizeOf E).run Try.prog w = .ok 1 w) (w : World) (A : Option Addr) (n c k : Nat) (hk : k ≤ n) :
    (Instr.slice T (.slice A n c) (some (.int .i64 (k : Int))) none none).run Try.prog w = .ok (.slice (cutA A k c) (n - k) (c - k)) w := by
  have ht' : Try.prog.underlying T = some (.slice (Try.prog.elem T)) := by simp [Program.elem, ht]
  have he : Try.prog.elem T = E := by simp [Program.elem, ht]
  rw [run_slice_l w T _ _ _ ht' .i64 _ (by omega) (by omega), he, hs]
  simp [Result.andThen, sliced, cutA]
theorem RowAt.cut {w : World} {B : Nat} {A : Option Addr} {l : List Value} {k c : Nat} (h : RowAt w B A l) (hk : k ≤ l.length) (hc : l.length ≤ c) : RowAt w B (cutA A k c) (l.drop k) := by
  unfold cutA
  split
  · left
    exact List.drop_of_length_le (by omega)
  · rcases h with h | ⟨b, o, rfl, h2, h3⟩
    · left; rw [h]; simp
    · refine .inr ⟨b, o + k, by simp [Go.WideShapes.add_plain], h2, fun j u hu => ?_⟩
      rw [Nat.add_assoc]
      exact h3 _ u (by rw [← hu, List.getElem?_drop])
theorem RowAt.drewN {w : World} {B : Nat} {A : Option Addr} {l : List Value} (h : RowAt w B A l) (k : Nat) : RowAt (w.drewN k) B A l := h
theorem RdB.cut {w : World} {B : Nat} {A : Option Addr} {c k : Nat} {l : List UInt8} (h : RdB w B A c l) (hk : k ≤ l.length) : RdB w B (cutA A k c) (c - k) (l.drop k) :=
  ⟨by have := RowAt.cut h.row (k := k) (c := c) (by simpa using hk) (by simpa using h.room)
      simpa [bytes] using this, by have := h.room; simp; omega, by have := h.cap; omega⟩
theorem byte_size (w : World) : (sizeOf 5).run Try.prog w = .ok 1 w := by kernel_rfl
theorem run_cut2 {T E : TypeId} (ht : Try.prog.underlying T = some (.slice E)) (hs : ∀ w, (sizeOf E).run Try.prog w = .ok 1 w) (w : World) (A : Option Addr) (n c k : Nat) (h : Int) (h1 : (k : Int) ≤ h) (h2 : h ≤ c) :
    (Instr.slice T (.slice A n c) (some (.int .i64 (k : Int))) (some (.int .i64 h)) none).run Try.prog w = .ok (.slice (cutA A k c) (h.toNat - k) (c - k)) w := by
  have ht' : Try.prog.underlying T = some (.slice (Try.prog.elem T)) := by simp [Program.elem, ht]
  have he : Try.prog.elem T = E := by simp [Program.elem, ht]
  rw [run_slice_lh w T _ _ _ ht' .i64 .i64 _ _ (by omega) h1 h2, he, hs]
  simp [Result.andThen, sliced, cutA]
theorem run_take {T E : TypeId} (ht : Try.prog.underlying T = some (.slice E)) (hs : ∀ w, (sizeOf E).run Try.prog w = .ok 1 w) (w : World) (A : Option Addr) (n c m : Nat) (h2 : m ≤ c) :
    (Instr.slice T (.slice A n c) none (some (.int .i64 (m : Int))) none).run Try.prog w = .ok (.slice A m c) w := by
  have ht' : Try.prog.underlying T = some (.slice (Try.prog.elem T)) := by simp [Program.elem, ht]
  have he : Try.prog.elem T = E := by simp [Program.elem, ht]
  rw [run_slice_h w T _ _ _ ht' .i64 _ (by omega) (by omega), he, hs]
  cases A <;> simp [Result.andThen, sliced, Addr.add]
theorem RowAt.take {w : World} {B : Nat} {A : Option Addr} {l : List Value} (h : RowAt w B A l) (k : Nat) : RowAt w B A (l.take k) := by
  rcases h with h | ⟨b, o, rfl, h2, h3⟩
  · left; rw [h]; simp
  · refine .inr ⟨b, o, rfl, h2, fun j u hu => h3 j u ?_⟩
    rw [List.getElem?_take] at hu
    split at hu
    · exact hu
    · cases hu
theorem RdB.take {w : World} {B : Nat} {A : Option Addr} {c : Nat} {l : List UInt8} (h : RdB w B A c l) (k : Nat) : RdB w B A c (l.take k) :=
  ⟨by have := RowAt.take h.row k
      simpa [bytes] using this, by have := h.room; simp; omega, h.cap⟩
end Go.Proofs.Ytnfhkmlggajhaaa
