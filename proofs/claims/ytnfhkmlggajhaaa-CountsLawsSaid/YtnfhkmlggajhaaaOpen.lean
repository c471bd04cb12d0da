/-
  What came in, opened: slices of elements of any number of cells, bytes, texts.
-/
import Derived.Test.YtnfhkmlggajhaaaFrame
import Derived.Test.YtnfhkmlggajhaaaBytes
import Derived.Deep.Slices
import Derived.Deep.Strs
import Derived.ChangeMaps5
namespace Go.Proofs.Ytnfhkmlggajhaaa
open Go.ChangeShapes Go.WideShapes Go.ChangeAt Go.RowKit

theorem flat_get {α : Type} (E : α → List Value) (k : Nat) : ∀ (l : List α), (∀ x ∈ l, (E x).length = k) → ∀ j u, (l.flatMap E)[j]? = some u →
    ∃ i r, j = i * k + r ∧ r < k ∧ ∃ x, l[i]? = some x ∧ (E x)[r]? = some u
  | [], _, j, u, h => by simp at h
  | y :: l, hk, j, u, h => by
    have hy := hk y (by simp)
    rw [List.flatMap_cons] at h
    rcases Nat.lt_or_ge j k with hj | hj
    · rw [List.getElem?_append_left (by omega)] at h
      exact ⟨0, j, by omega, hj, y, rfl, h⟩
    · rw [List.getElem?_append_right (by omega), hy] at h
      obtain ⟨i, r, h1, h2, x, h3, h4⟩ := flat_get E k l (fun x hx => hk x (by simp [hx])) (j - k) u h
      exact ⟨i + 1, r, by rw [Nat.add_mul]; omega, h2, x, by simpa using h3, h4⟩

theorem flat_one {α : Type} (f : α → Value) : ∀ l : List α, l.flatMap (fun x => [f x]) = l.map f
  | [] => rfl
  | x :: l => by rw [List.flatMap_cons, flat_one f l]; rfl

section
variable {H : Type} {enc : TypeId × Value → H} {W : World} {base : Nat}

set_option maxRecDepth 100000 in
/-- A slice that came in, whatever its elements: each is what E says of some x that is good. -/
theorem in_slice {α : Type} (E : α → List Value) (Good : α → Prop) {t e : TypeId} {k : Nat} {v : Value} {d : DataW H} {p : List MemPlace} (ht : Try.prog.underlying t = some (.slice e)) (hc : Try.prog.cellsOf e = k) (hk : 0 < k)
    (hE : ∀ (n : Nat) (cs : List Value) (y : DataW H × List MemPlace), cs.length = k → DataW.trod enc Try.prog W 0 (fun _ => true) true n e cs = some y → ∃ x, cs = E x ∧ Good x)
    (hok : Value.okWide Try.prog W .any base t v) (h : DataW.Trod enc Try.prog W 0 (fun _ => true) true t v d p) :
    ∃ (A : Option Addr) (c : Nat) (l : List α), v = .slice A l.length c ∧ RowAt W W.heap.size A (l.flatMap E) ∧ (∀ x ∈ l, Good x) ∧ l.length ≤ c ∧ c ≤ maxLen := by
  obtain ⟨a, len, cap, rfl⟩ := okWide_slice ht hok
  obtain ⟨fuel, hf⟩ := h
  rcases Go.Deep.open_slice ht hf with ⟨hcs, -⟩ | ⟨x, l', c', m, n, D, Pl, hcs, -, hl, hm, hmm, -, hi⟩
  · simp [Value.cells] at hcs
    obtain ⟨rfl, rfl, rfl⟩ := hcs
    exact ⟨none, 0, [], rfl, RowAt.nil _ _ _, by intro x hx; simp at hx, Nat.le_refl _, Nat.zero_le _⟩
  · simp [Value.cells] at hcs
    obtain ⟨rfl, rfl, rfl⟩ := hcs
    simp only [if_true] at hmm
    subst hmm
    have each : ∀ i, i < len → ∃ y : α, Good y ∧ (E y).length = k ∧ ∀ r, r < k → W.cell? (x.add (i * k + r)) = (E y)[r]? := by
      intro i hil
      obtain ⟨cs', h1, h2⟩ := hi i (by omega)
      obtain ⟨_, h4, h5⟩ := World.cells?_some h1
      rw [hc] at h4 h5
      obtain ⟨y, rfl, hg⟩ := hE n cs' _ h4 h2
      refine ⟨y, hg, h4, fun r hr => ?_⟩
      rw [← h5 r hr, Go.Deep.add_add]
    rcases Nat.eq_zero_or_pos len with h0 | h0
    · subst h0
      exact ⟨some x, m, [], rfl, .inl rfl, by intro x hx; simp at hx, by simp, hm⟩
    · have hne : Nonempty α := by obtain ⟨y, _⟩ := each 0 h0; exact ⟨y⟩
      have hch : ∃ f : Nat → α, ∀ i, i < len → Good (f i) ∧ (E (f i)).length = k ∧ ∀ r, r < k → W.cell? (x.add (i * k + r)) = (E (f i))[r]? :=
        ⟨fun i => if hi : i < len then (each i hi).choose else Classical.choice hne, fun i hi => by have := (each i hi).choose_spec; simpa only [dif_pos hi] using this⟩
      obtain ⟨f, hf⟩ := hch
      have hcell0 := (hf 0 h0).2.2 0 hk
      rw [List.getElem?_eq_getElem (by rw [(hf 0 h0).2.1]; exact hk)] at hcell0
      obtain ⟨b, o, spot⟩ := x
      have hspot : spot = none := by simpa [Addr.add] using World.cell?_spot hcell0
      subst hspot
      have hb : b < W.heap.size := by
        rw [Go.WideShapes.add_plain] at hcell0
        exact World.block_lt_of_cell? W _ hcell0
      refine ⟨some ⟨b, o, none⟩, m, (List.range len).map f, by simp, .inr ⟨b, o, rfl, hb, fun j u hu => ?_⟩, ?_, by simp; omega, hm⟩
      · obtain ⟨i, r, rfl, hr, y, hy, hyu⟩ := flat_get E k _ (fun y hy => by
          simp only [List.mem_map, List.mem_range] at hy
          obtain ⟨i, hi, rfl⟩ := hy
          exact (hf i hi).2.1) j u hu
        rw [List.getElem?_map] at hy
        rcases Nat.lt_or_ge i len with hil | hil
        · rw [List.getElem?_range hil] at hy
          simp at hy
          subst hy
          have := (hf i hil).2.2 r hr
          rw [Go.WideShapes.add_plain] at this
          rw [this, hyu]
        · rw [List.getElem?_eq_none (by simpa using hil)] at hy
          simp at hy
      · intro y hy
        simp only [List.mem_map, List.mem_range] at hy
        obtain ⟨i, hi, rfl⟩ := hy
        exact (hf i hi).1

set_option maxRecDepth 100000 in
/-- Bytes that came in. -/
theorem in_bytes {t e : TypeId} {v : Value} {d : DataW H} {p : List MemPlace} (ht : Try.prog.underlying t = some (.slice e)) (he : Try.prog.underlying e = some (.int .u8)) (hc : Try.prog.cellsOf e = 1)
    (hok : Value.okWide Try.prog W .any base t v) (h : DataW.Trod enc Try.prog W 0 (fun _ => true) true t v d p) :
    ∃ (A : Option Addr) (c : Nat) (l : List UInt8), v = .slice A l.length c ∧ RdB W W.heap.size A c l := by
  obtain ⟨A, c, l, rfl, h1, -, h3, h4⟩ := in_slice (fun x : UInt8 => [Value.int .u8 (x.toNat : Int)]) (fun _ => True) ht hc Nat.one_pos (fun n cs y _ hy => by
    obtain ⟨x, rfl, -, hw⟩ := DataW.trod_int he hy
    have hb : 0 ≤ x ∧ x ≤ 255 := by simpa [Lit.wf, IntKind.min, IntKind.max, IntKind.signed, IntKind.bits] using hw
    exact ⟨UInt8.ofNat x.toNat, by simp; omega, trivial⟩) hok h
  refine ⟨A, c, l, rfl, ?_, h3, h4⟩
  rw [show bytes l = l.flatMap (fun x : UInt8 => [Value.int .u8 (x.toNat : Int)]) from (flat_one _ l).symm]
  exact h1

set_option maxRecDepth 100000 in
/-- A text that came in. -/
theorem in_str {t : TypeId} {v : Value} {d : DataW H} {p : List MemPlace} (ht : Try.prog.underlying t = some .string)
    (hok : Value.okWide Try.prog W .any base t v) (h : DataW.Trod enc Try.prog W 0 (fun _ => true) true t v d p) :
    ∃ l : List UInt8, v = .string (str l) ∧ l.length ≤ maxLen := by
  obtain ⟨s, rfl, -, -, hs⟩ := ChangeMaps.open_string ht hok h
  exact ⟨s.data.toList, by rw [str_of], by rw [← str_size, str_of]; exact hs⟩
set_option maxRecDepth 100000 in
/-- Texts that came in. -/
theorem in_strs {t e : TypeId} {v : Value} {d : DataW H} {p : List MemPlace} (ht : Try.prog.underlying t = some (.slice e)) (he : Try.prog.underlying e = some .string) (hc : Try.prog.cellsOf e = 1)
    (hok : Value.okWide Try.prog W .any base t v) (h : DataW.Trod enc Try.prog W 0 (fun _ => true) true t v d p) :
    ∃ (A : Option Addr) (c : Nat) (l : List (List UInt8)), v = .slice A l.length c ∧ RowAt W W.heap.size A (strs l) ∧ (∀ s ∈ l, s.length ≤ maxLen) ∧ l.length ≤ c ∧ c ≤ maxLen := by
  obtain ⟨A, c, l, rfl, h1, h2, h3, h4⟩ := in_slice (fun x : List UInt8 => [Value.string (str x)]) (fun s => s.length ≤ maxLen) ht hc Nat.one_pos (fun n cs y _ hy => by
    obtain ⟨s, rfl, -, hw⟩ := DataW.trod_string he hy
    exact ⟨s.data.toList, by rw [str_of], by rw [← str_size, str_of]; exact hw⟩) hok h
  refine ⟨A, c, l, rfl, ?_, h2, h3, h4⟩
  rw [show strs l = l.flatMap (fun x : List UInt8 => [Value.string (str x)]) from (flat_one _ l).symm]
  exact h1
end
end Go.Proofs.Ytnfhkmlggajhaaa
