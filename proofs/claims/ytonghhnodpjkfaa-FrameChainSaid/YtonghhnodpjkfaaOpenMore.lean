/-
  What came in, opened: cells of slices, a slice of slices of bytes, numbers of unsigned kinds.
-/
import Derived.Test.YtonghhnodpjkfaaOpen
import Derived.Test.YtonghhnodpjkfaaPieces
namespace Go.Proofs.Ytonghhnodpjkfaa
open Go.ChangeShapes Go.WideShapes Go.ChangeAt Go.RowKit

section
variable {H : Type} {enc : TypeId × Value → H} {W : World} {base : Nat}

/-- The cells of a slice, whatever its elements: each is what E says of some x that is good. -/
theorem cells_slice {α : Type} (E : α → List Value) (Good : α → Prop) {t e : TypeId} {k fuel : Nat} {cs : List Value} {y : DataW H × List MemPlace} (ht : Try.prog.underlying t = some (.slice e)) (hc : Try.prog.cellsOf e = k) (hk : 0 < k)
    (hE : ∀ (n : Nat) (cs : List Value) (y : DataW H × List MemPlace), cs.length = k → DataW.trod enc Try.prog W 0 (fun _ => true) true n e cs = some y → ∃ x, cs = E x ∧ Good x)
    (hf : DataW.trod enc Try.prog W 0 (fun _ => true) true fuel t cs = some y) :
    ∃ (A : Option Addr) (c : Nat) (l : List α), cs = [.slice A l.length c] ∧ RowAt W W.heap.size A (l.flatMap E) ∧ (∀ x ∈ l, Good x) ∧ l.length ≤ c ∧ c ≤ maxLen := by
  rcases Go.Deep.open_slice ht hf with ⟨hcs, -⟩ | ⟨x, len, cap, m, n, D, Pl, hcs, -, hl, hm, hmm, -, hi⟩
  · exact ⟨none, 0, [], hcs, RowAt.nil _ _ _, by intro x hx; simp at hx, Nat.le_refl _, Nat.zero_le _⟩
  · simp only [if_true] at hmm
    subst hmm
    have each : ∀ i, i < len → ∃ y : α, Good y ∧ (E y).length = k ∧ ∀ r, r < k → W.cell? (x.add (i * k + r)) = (E y)[r]? := by
      intro i hil
      obtain ⟨cs', h1, h2⟩ := hi i (by omega)
      obtain ⟨_, h4, h5⟩ := World.cells?_some h1
      rw [hc] at h4 h5
      obtain ⟨y, rfl, hg⟩ := hE n cs' _ h4 h2
      refine ⟨y, hg, h4, fun r hr => ?_⟩
      rw [← h5 r hr, Go.Deep.add_add]
    rcases Nat.eq_zero_or_pos len with h0 | h0
    · subst h0
      exact ⟨some x, m, [], hcs, .inl rfl, by intro x hx; simp at hx, by simp, hm⟩
    · have hne : Nonempty α := by obtain ⟨y, _⟩ := each 0 h0; exact ⟨y⟩
      have hch : ∃ f : Nat → α, ∀ i, i < len → Good (f i) ∧ (E (f i)).length = k ∧ ∀ r, r < k → W.cell? (x.add (i * k + r)) = (E (f i))[r]? :=
        ⟨fun i => if hi : i < len then (each i hi).choose else Classical.choice hne, fun i hi => by have := (each i hi).choose_spec; simpa only [dif_pos hi] using this⟩
      obtain ⟨f, hf⟩ := hch
      have hcell0 := (hf 0 h0).2.2 0 hk
      rw [List.getElem?_eq_getElem (by rw [(hf 0 h0).2.1]; exact hk)] at hcell0
      obtain ⟨b, o, spot⟩ := x
      have hspot : spot = none := by simpa [Addr.add] using World.cell?_spot hcell0
      subst hspot
      have hb : b < W.heap.size := by
        rw [Go.WideShapes.add_plain] at hcell0
        exact World.block_lt_of_cell? W _ hcell0
      refine ⟨some ⟨b, o, none⟩, m, (List.range len).map f, by simpa using hcs, .inr ⟨b, o, rfl, hb, fun j u hu => ?_⟩, ?_, by simp; omega, hm⟩
      · obtain ⟨i, r, rfl, hr, y, hy, hyu⟩ := flat_get E k _ (fun y hy => by
          simp only [List.mem_map, List.mem_range] at hy
          obtain ⟨i, hi, rfl⟩ := hy
          exact (hf i hi).2.1) j u hu
        rw [List.getElem?_map] at hy
        rcases Nat.lt_or_ge i len with hil | hil
        · rw [List.getElem?_range hil] at hy
          simp at hy
          subst hy
          have := (hf i hil).2.2 r hr
          rw [Go.WideShapes.add_plain] at this
          rw [this, hyu]
        · rw [List.getElem?_eq_none (by simpa using hil)] at hy
          simp at hy
      · intro y hy
        simp only [List.mem_map, List.mem_range] at hy
        obtain ⟨i, hi, rfl⟩ := hy
        exact (hf i hi).1

/-- Bytes, as a cell that was read. -/
theorem cells_bytes {t e : TypeId} {fuel : Nat} {cs : List Value} {y : DataW H × List MemPlace} (ht : Try.prog.underlying t = some (.slice e)) (he : Try.prog.underlying e = some (.int .u8)) (hc : Try.prog.cellsOf e = 1)
    (hf : DataW.trod enc Try.prog W 0 (fun _ => true) true fuel t cs = some y) : ∃ p : Piece, cs = [pieceV p] ∧ RdB W W.heap.size p.1 p.2.1 p.2.2 := by
  obtain ⟨A, c, l, rfl, h1, -, h3, h4⟩ := cells_slice (fun x : UInt8 => [Value.int .u8 (x.toNat : Int)]) (fun _ => True) ht hc Nat.one_pos (fun n cs y _ hy => by
    obtain ⟨x, rfl, -, hw⟩ := DataW.trod_int he hy
    have hb : 0 ≤ x ∧ x ≤ 255 := by simpa [Lit.wf, IntKind.min, IntKind.max, IntKind.signed, IntKind.bits] using hw
    exact ⟨UInt8.ofNat x.toNat, by simp; omega, trivial⟩) hf
  refine ⟨(A, c, l), rfl, ?_, h3, h4⟩
  show RowAt W W.heap.size A (bytes l)
  rw [show bytes l = l.flatMap (fun x : UInt8 => [Value.int .u8 (x.toNat : Int)]) from (flat_one _ l).symm]
  exact h1

/-- Slices of bytes that came in. -/
theorem in_pieces {t e b : TypeId} {v : Value} {d : DataW H} {p : List MemPlace} (ht : Try.prog.underlying t = some (.slice e)) (he : Try.prog.underlying e = some (.slice b)) (hb : Try.prog.underlying b = some (.int .u8)) (hc : Try.prog.cellsOf e = 1) (hcb : Try.prog.cellsOf b = 1)
    (hok : Value.okWide Try.prog W .any base t v) (h : DataW.Trod enc Try.prog W 0 (fun _ => true) true t v d p) :
    ∃ (A : Option Addr) (c : Nat) (l : List Piece), v = .slice A l.length c ∧ RdP W W.heap.size W.heap.size A l ∧ l.length ≤ c ∧ c ≤ maxLen := by
  obtain ⟨A, c, l, rfl, h1, h2, h3, h4⟩ := in_slice (fun x : Piece => [pieceV x]) (fun x => RdB W W.heap.size x.1 x.2.1 x.2.2) ht hc Nat.one_pos (fun n cs y _ hy => cells_bytes he hb hcb hy) hok h
  refine ⟨A, c, l, rfl, ⟨?_, h2⟩, h3, h4⟩
  rw [show pieces l = l.flatMap (fun x : Piece => [pieceV x]) from (flat_one _ l).symm]
  exact h1
/-- A number of some unsigned kind that came in. -/
theorem in_u16 {t : TypeId} {v : Value} {d : DataW H} {p : List MemPlace} (ht : Try.prog.underlying t = some (.int .u16)) (hok : Value.okWide Try.prog W .any base t v) (h : DataW.Trod enc Try.prog W 0 (fun _ => true) true t v d p) :
    ∃ x : Nat, v = .int .u16 (x : Int) ∧ x < 65536 := by
  obtain ⟨x, rfl, -, -, wx⟩ := open_int ht hok h
  have hb : 0 ≤ x ∧ x ≤ 65535 := by simpa [Lit.wf, IntKind.min, IntKind.max, IntKind.signed, IntKind.bits] using wx
  obtain ⟨n, rfl⟩ := Int.eq_ofNat_of_zero_le hb.1
  exact ⟨n, rfl, by omega⟩
theorem in_u32 {t : TypeId} {v : Value} {d : DataW H} {p : List MemPlace} (ht : Try.prog.underlying t = some (.int .u32)) (hok : Value.okWide Try.prog W .any base t v) (h : DataW.Trod enc Try.prog W 0 (fun _ => true) true t v d p) :
    ∃ x : Nat, v = .int .u32 (x : Int) ∧ x < 4294967296 := by
  obtain ⟨x, rfl, -, -, wx⟩ := open_int ht hok h
  have hb : 0 ≤ x ∧ x ≤ 4294967295 := by simpa [Lit.wf, IntKind.min, IntKind.max, IntKind.signed, IntKind.bits] using wx
  obtain ⟨n, rfl⟩ := Int.eq_ofNat_of_zero_le hb.1
  exact ⟨n, rfl, by omega⟩
end
end Go.Proofs.Ytonghhnodpjkfaa
