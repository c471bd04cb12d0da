/-
  Several texts in one: VrA, OpenVr, Pieces, OpenMore, Region, Cut, CntPure, CntSets, CntA, OpenCnt, CntB, CntC.
-/
import Derived.BigQuiet
import Derived.Lib.SmallJoins
import Derived.Deep.Strs
import Derived.Deep.RegionHeld3
import Derived.Lib.SliceRun
import Derived.Laws.StructEq
import Derived.Test.YtaodifpnfejbbaaGreatMg1
/-
  Layer 12 (version), the document's words: versions as values; is one right, is one ahead, is one among some; a number's digits, a version's text.
-/
namespace Go.Proofs.YtaodifpnfejbbaaGreat
open Go.RowKit

def vrCells (v : Vr) : List Value := [.int .i64 v.rep, .int .i64 v.cnt]
noncomputable def kVr : Kind Tryz.prog Vr where
  ty := 35
  el := 24
  size := 2
  bytes := 16
  zero := .agg #[.int .i64 0, .int .i64 0]
  cells := vrCells
  len := fun _ => rfl
  one := fun r u hu => by simp [vrCells] at hu; rcases hu with rfl | rfl <;> rfl
  pos := by decide
  under := Tryz.underlying35
  info := by kernel_rfl
  zsize := rfl
theorem vrs_at {w : World} {B : Nat} {A : Option Addr} {c : Nat} {l : List Vr} (h : kVr.Rd w B A c l) (hp : 0 < l.length) :
    ∃ b o, A = some ⟨b, o, none⟩ ∧ b < B ∧ ∀ k v, l[k]? = some v → w.cell? ⟨b, o + k * 2, none⟩ = some (.int .i64 v.rep) ∧ w.cell? ⟨b, o + k * 2 + 1, none⟩ = some (.int .i64 v.cnt) := by
  obtain ⟨b, o, h1, h2, h3⟩ := h.at_ hp
  exact ⟨b, o, h1, h2, fun k n hn => ⟨h3 k n hn 0 _ rfl, h3 k n hn 1 _ rfl⟩⟩
theorem eq_vr (i j k m : Int) (q : Bool) (hq : (i == k && j == m) = q) (w : World) :
    (Op.equalIn 10000 24 (.agg #[.int .i64 i, .int .i64 j]) (.agg #[.int .i64 k, .int .i64 m])).run Tryz.prog w = .ok q w := by
  subst hq
  have u2 := Tryz.underlying3
  have a2 := Tryz.isAgg3
  have z2 := Tryz.sizeOf3
  have hS : Tryz.prog.underlying 24 = some (.struct (Tryz.prog.fieldsOf 24)) := by kernel_rfl
  have hp : Tryz.prog.stoodInHeld 24 = false := by kernel_rfl
  rw [show (10000 : Nat) = 9999 + 1 from rfl, run_equalIn_agg w 9999 24 _ _ hS hp]
  simp only [Program.fieldsOf, Tryz.underlying24]
  go_simp
  by_cases h1 : i = k <;> by_cases h2 : j = m <;> simp [h1, h2]
theorem ref_vrright (v : Vr) (x y : Int) (hx : v.rep = x) (hy : v.cnt = y) (z : Bool) (hz : rightVr v = z) (w : World) :
    Calls Tryz.prog 83 #[.agg #[.int .i64 x, .int .i64 y]] w fun e w' => e = .returned (.bool z) ∧ Below w.heap.size w w' := by
  unfold rightVr at hz
  rw [hx, hy] at hz
  have HB := Lib.hid (below_new w (.cells #[.int .i64 x, .int .i64 y] 24))
  obtain ⟨b1, h1⟩ : ∃ b, decide (1 ≤ x) = b := ⟨_, rfl⟩
  obtain ⟨b2, h2⟩ : ∃ b, decide (x ≤ 16) = b := ⟨_, rfl⟩
  obtain ⟨b3, h3⟩ : ∃ b, decide (1 ≤ y) = b := ⟨_, rfl⟩
  obtain ⟨b4, h4⟩ : ∃ b, decide (y ≤ 1099511627776) = b := ⟨_, rfl⟩
  rw [h1, h2, h3, h4] at hz
  subst hz
  clear hx hy
  cases b1
  case' true =>
    cases b2
    case' true =>
      cases b3
      case' true =>
        cases b4
  all_goals
    go_enter Tryz.func83, Tryz.ntmps83
    go_wp2_with fail
    go_ret
    exact ⟨rfl, HB.out⟩
theorem hasVr_cons (x v : Vr) (l : List Vr) : hasVr (x :: l) v = ((x.rep == v.rep && x.cnt == v.cnt) || hasVr l v) := rfl
end Go.Proofs.YtaodifpnfejbbaaGreat

/-
  A version that came in; versions that came in as a slice.
-/
namespace Go.Proofs.YtaodifpnfejbbaaGreat
open Go.ChangeShapes Go.WideShapes Go.ChangeAt Go.RowKit Go.Joins

set_option maxRecDepth 100000 in
theorem in_vr {H : Type} {enc : TypeId × Value → H} {W : World} {base : Nat} {v : Value} {d : DataW H} {p : List MemPlace} (hok : Value.okWide Tryz.prog W .any base 24 v) (h : DataW.Trod enc Tryz.prog W 0 (fun _ => true) true 24 v d p) :
    ∃ r : Vr, v = .agg #[.int .i64 r.rep, .int .i64 r.cnt] := by
  obtain ⟨v0, v1, y0, y1, n, rfl, -, -, h0, h1⟩ := open_agg2 Tryz.underlying24 (by kernel_rfl) (by kernel_rfl) hok h
  obtain ⟨i, e0, -, w0⟩ := DataW.trod_int Tryz.underlying3 h0
  obtain ⟨j, e1, -, w1⟩ := DataW.trod_int Tryz.underlying3 h1
  simp only [List.cons.injEq, and_true] at e0 e1
  subst e0 e1
  exact ⟨⟨i, j⟩, rfl⟩
theorem vcells_int : Tryz.prog.cellsOf 3 = 1 := by kernel_rfl
set_option maxRecDepth 100000 in
theorem vr_of {H : Type} {enc : TypeId × Value → H} {W : World} (n : Nat) (cs : List Value) (y : DataW H × List MemPlace) (hl : cs.length = 2)
    (hy : DataW.trod enc Tryz.prog W 0 (fun _ => true) true n 24 cs = some y) : ∃ x : Vr, cs = vrCells x ∧ True := by
  obtain ⟨xs, n', _, rfl, -, hlen, hf⟩ := DataW.trod_struct Tryz.underlying24 hy
  match xs, hlen with
  | [y0, y1], _ =>
    have h0 := hf 0 _ rfl
    have h1 := hf 1 _ rfl
    match cs, hl with
    | [a, b], _ =>
      have h0 : DataW.trod enc Tryz.prog W 0 (fun _ => true) true n' 3 (([a, b].drop 0).take (Tryz.prog.cellsOf 3)) = some y0 := by simpa using h0
      have h1 : DataW.trod enc Tryz.prog W 0 (fun _ => true) true n' 3 (([a, b].drop 1).take (Tryz.prog.cellsOf 3)) = some y1 := by simpa using h1
      rw [vcells_int] at h0 h1
      obtain ⟨i, e0, -, w0⟩ := DataW.trod_int Tryz.underlying3 h0
      obtain ⟨j, e1, -, w1⟩ := DataW.trod_int Tryz.underlying3 h1
      simp at e0 e1
      subst e0 e1
      exact ⟨⟨i, j⟩, rfl, trivial⟩
set_option maxRecDepth 100000 in
theorem in_vrs {H : Type} {enc : TypeId × Value → H} {W : World} {base : Nat} {v : Value} {d : DataW H} {p : List MemPlace}
    (hok : Value.okWide Tryz.prog W .any base 35 v) (h : DataW.Trod enc Tryz.prog W 0 (fun _ => true) true 35 v d p) :
    ∃ (A : Option Addr) (c : Nat) (l : List Vr), v = .slice A l.length c ∧ kVr.Rd W W.heap.size A c l := by
  obtain ⟨A, c, l, rfl, h1, -, h2, h3⟩ := in_slice vrCells (fun _ => True) Tryz.underlying35 (k := 2) (by kernel_rfl) (by omega) vr_of hok h
  exact ⟨A, c, l, rfl, h1, h2, h3⟩
end Go.Proofs.YtaodifpnfejbbaaGreat

/-
  Words for bytes in pieces: a row of slices of bytes that is read.
-/
namespace Go.Proofs.YtaodifpnfejbbaaGreat
open Go.RowKit

/-- Bytes in pieces: each a slice. -/
abbrev Piece := Option Addr × Nat × List UInt8
abbrev pieceV (p : Piece) : Value := .slice p.1 p.2.2.length p.2.1
abbrev pieces (l : List Piece) : List Value := l.map pieceV
def allP (l : List Piece) : List UInt8 := l.flatMap fun p => p.2.2
theorem allP_snoc (l : List Piece) (p : Piece) : allP (l ++ [p]) = allP l ++ p.2.2 := by simp [allP]
theorem take_snoc_piece (l : List Piece) (k : Nat) (h : k < l.length) : l.take (k + 1) = l.take k ++ [l.getD k (none, 0, [])] := by
  rw [List.take_succ_eq_append_getElem h]; simp [List.getD, List.getElem?_eq_getElem h]
theorem pieces_get {l : List Piece} {k : Nat} (h : k < l.length) : (pieces l)[k]? = some (pieceV (l.getD k (none, 0, []))) := by
  simp [pieces, List.getD, List.getElem?_eq_getElem h]
theorem RowAt.pieces_at {w : World} {B : Nat} {A : Option Addr} {l : List Piece} (h : RowAt w B A (pieces l)) (hp : 0 < l.length) :
    ∃ b o, A = some ⟨b, o, none⟩ ∧ b < B ∧ ∀ k, k < l.length → w.cell? ⟨b, o + k, none⟩ = some (pieceV (l.getD k (none, 0, []))) := by
  rcases h with h | ⟨b, o, h1, h2, h3⟩
  · have : l = [] := by simpa [pieces] using h
    subst this; simp at hp
  · exact ⟨b, o, h1, h2, fun k hk => h3 k _ (pieces_get hk)⟩
theorem getD_mem {l : List Piece} {k : Nat} (h : k < l.length) : l.getD k (none, 0, []) ∈ l := by
  simp [List.getD, List.getElem?_eq_getElem h]
/-- Pieces that read. -/
structure RdP (w : World) (B B2 : Nat) (A : Option Addr) (l : List Piece) : Prop where
  row : RowAt w B A (pieces l)
  each : ∀ p ∈ l, RdB w B2 p.1 p.2.1 p.2.2
theorem RdP.below {w w' : World} {B : Nat} {A : Option Addr} {l : List Piece} (h : RdP w B B A l) (hb : Below B w w') : RdP w' B B A l := ⟨h.row.below hb, fun p hp => (h.each p hp).below hb⟩
end Go.Proofs.YtaodifpnfejbbaaGreat

/-
  What came in, opened: cells of slices, a slice of slices of bytes, numbers of unsigned kinds.
-/
namespace Go.Proofs.YtaodifpnfejbbaaGreat
open Go.ChangeShapes Go.WideShapes Go.ChangeAt Go.RowKit

section
variable {H : Type} {enc : TypeId × Value → H} {W : World} {base : Nat}

set_option maxRecDepth 100000 in
/-- The cells of a slice, whatever its elements: each is what E says of some x that is good. -/
theorem cells_slice {α : Type} (E : α → List Value) (Good : α → Prop) {t e : TypeId} {k fuel : Nat} {cs : List Value} {y : DataW H × List MemPlace} (ht : Tryz.prog.underlying t = some (.slice e)) (hc : Tryz.prog.cellsOf e = k) (hk : 0 < k)
    (hE : ∀ (n : Nat) (cs : List Value) (y : DataW H × List MemPlace), cs.length = k → DataW.trod enc Tryz.prog W 0 (fun _ => true) true n e cs = some y → ∃ x, cs = E x ∧ Good x)
    (hf : DataW.trod enc Tryz.prog W 0 (fun _ => true) true fuel t cs = some y) :
    ∃ (A : Option Addr) (c : Nat) (l : List α), cs = [.slice A l.length c] ∧ RowAt W W.heap.size A (l.flatMap E) ∧ (∀ x ∈ l, Good x) ∧ l.length ≤ c ∧ c ≤ maxLen := by
  rcases Go.Deep.open_slice ht hf with ⟨hcs, -⟩ | ⟨x, len, cap, m, n, D, Pl, hcs, -, hl, hm, hmm, -, hi⟩
  · exact ⟨none, 0, [], hcs, RowAt.nil _ _ _, by intro x hx; simp at hx, Nat.le_refl _, Nat.zero_le _⟩
  · simp only [if_true] at hmm
    subst hmm
    have each : ∀ i, i < len → ∃ y : α, Good y ∧ (E y).length = k ∧ ∀ r, r < k → W.cell? (x.add (i * k + r)) = (E y)[r]? := by
      intro i hil
      obtain ⟨cs', h1, h2⟩ := hi i (by omega)
      obtain ⟨_, h4, h5⟩ := World.cells?_some h1
      rw [hc] at h4 h5
      obtain ⟨y, rfl, hg⟩ := hE n cs' _ h4 h2
      refine ⟨y, hg, h4, fun r hr => ?_⟩
      rw [← h5 r hr, Go.Deep.add_add]
    rcases Nat.eq_zero_or_pos len with h0 | h0
    · subst h0
      exact ⟨some x, m, [], hcs, .inl rfl, by intro x hx; simp at hx, by simp, hm⟩
    · have hne : Nonempty α := by obtain ⟨y, _⟩ := each 0 h0; exact ⟨y⟩
      have hch : ∃ f : Nat → α, ∀ i, i < len → Good (f i) ∧ (E (f i)).length = k ∧ ∀ r, r < k → W.cell? (x.add (i * k + r)) = (E (f i))[r]? :=
        ⟨fun i => if hi : i < len then (each i hi).choose else Classical.choice hne, fun i hi => by have := (each i hi).choose_spec; simpa only [dif_pos hi] using this⟩
      obtain ⟨f, hf⟩ := hch
      have hcell0 := (hf 0 h0).2.2 0 hk
      rw [List.getElem?_eq_getElem (by rw [(hf 0 h0).2.1]; exact hk)] at hcell0
      obtain ⟨b, o, spot⟩ := x
      have hspot : spot = none := by simpa [Addr.add] using World.cell?_spot hcell0
      subst hspot
      have hb : b < W.heap.size := by
        rw [Go.WideShapes.add_plain] at hcell0
        exact World.block_lt_of_cell? W _ hcell0
      refine ⟨some ⟨b, o, none⟩, m, (List.range len).map f, by simpa using hcs, .inr ⟨b, o, rfl, hb, fun j u hu => ?_⟩, ?_, by simp; omega, hm⟩
      · obtain ⟨i, r, rfl, hr, y, hy, hyu⟩ := flat_get E k _ (fun y hy => by
          simp only [List.mem_map, List.mem_range] at hy
          obtain ⟨i, hi, rfl⟩ := hy
          exact (hf i hi).2.1) j u hu
        rw [List.getElem?_map] at hy
        rcases Nat.lt_or_ge i len with hil | hil
        · rw [List.getElem?_range hil] at hy
          simp at hy
          subst hy
          have := (hf i hil).2.2 r hr
          rw [Go.WideShapes.add_plain] at this
          rw [this, hyu]
        · rw [List.getElem?_eq_none (by simpa using hil)] at hy
          simp at hy
      · intro y hy
        simp only [List.mem_map, List.mem_range] at hy
        obtain ⟨i, hi, rfl⟩ := hy
        exact (hf i hi).1

set_option maxRecDepth 100000 in
/-- Bytes, as a cell that was read. -/
theorem cells_bytes {t e : TypeId} {fuel : Nat} {cs : List Value} {y : DataW H × List MemPlace} (ht : Tryz.prog.underlying t = some (.slice e)) (he : Tryz.prog.underlying e = some (.int .u8)) (hc : Tryz.prog.cellsOf e = 1)
    (hf : DataW.trod enc Tryz.prog W 0 (fun _ => true) true fuel t cs = some y) : ∃ p : Piece, cs = [pieceV p] ∧ RdB W W.heap.size p.1 p.2.1 p.2.2 := by
  obtain ⟨A, c, l, rfl, h1, -, h3, h4⟩ := cells_slice (fun x : UInt8 => [Value.int .u8 (x.toNat : Int)]) (fun _ => True) ht hc Nat.one_pos (fun n cs y _ hy => by
    obtain ⟨x, rfl, -, hw⟩ := DataW.trod_int he hy
    have hb : 0 ≤ x ∧ x ≤ 255 := by simpa [Lit.wf, IntKind.min, IntKind.max, IntKind.signed, IntKind.bits] using hw
    exact ⟨UInt8.ofNat x.toNat, by simp; omega, trivial⟩) hf
  refine ⟨(A, c, l), rfl, ?_, h3, h4⟩
  show RowAt W W.heap.size A (bytes l)
  rw [show bytes l = l.flatMap (fun x : UInt8 => [Value.int .u8 (x.toNat : Int)]) from (flat_one _ l).symm]
  exact h1

set_option maxRecDepth 100000 in
/-- Slices of bytes that came in. -/
theorem in_pieces {t e b : TypeId} {v : Value} {d : DataW H} {p : List MemPlace} (ht : Tryz.prog.underlying t = some (.slice e)) (he : Tryz.prog.underlying e = some (.slice b)) (hb : Tryz.prog.underlying b = some (.int .u8)) (hc : Tryz.prog.cellsOf e = 1) (hcb : Tryz.prog.cellsOf b = 1)
    (hok : Value.okWide Tryz.prog W .any base t v) (h : DataW.Trod enc Tryz.prog W 0 (fun _ => true) true t v d p) :
    ∃ (A : Option Addr) (c : Nat) (l : List Piece), v = .slice A l.length c ∧ RdP W W.heap.size W.heap.size A l ∧ l.length ≤ c ∧ c ≤ maxLen := by
  obtain ⟨A, c, l, rfl, h1, h2, h3, h4⟩ := in_slice (fun x : Piece => [pieceV x]) (fun x => RdB W W.heap.size x.1 x.2.1 x.2.2) ht hc Nat.one_pos (fun n cs y _ hy => cells_bytes he hb hcb hy) hok h
  refine ⟨A, c, l, rfl, ⟨?_, h2⟩, h3, h4⟩
  rw [show pieces l = l.flatMap (fun x : Piece => [pieceV x]) from (flat_one _ l).symm]
  exact h1
set_option maxRecDepth 100000 in
/-- A number of some unsigned kind that came in. -/
theorem in_u16 {t : TypeId} {v : Value} {d : DataW H} {p : List MemPlace} (ht : Tryz.prog.underlying t = some (.int .u16)) (hok : Value.okWide Tryz.prog W .any base t v) (h : DataW.Trod enc Tryz.prog W 0 (fun _ => true) true t v d p) :
    ∃ x : Nat, v = .int .u16 (x : Int) ∧ x < 65536 := by
  obtain ⟨x, rfl, -, -, wx⟩ := open_int ht hok h
  have hb : 0 ≤ x ∧ x ≤ 65535 := by simpa [Lit.wf, IntKind.min, IntKind.max, IntKind.signed, IntKind.bits] using wx
  obtain ⟨n, rfl⟩ := Int.eq_ofNat_of_zero_le hb.1
  exact ⟨n, rfl, by omega⟩
set_option maxRecDepth 100000 in
theorem in_u32 {t : TypeId} {v : Value} {d : DataW H} {p : List MemPlace} (ht : Tryz.prog.underlying t = some (.int .u32)) (hok : Value.okWide Tryz.prog W .any base t v) (h : DataW.Trod enc Tryz.prog W 0 (fun _ => true) true t v d p) :
    ∃ x : Nat, v = .int .u32 (x : Int) ∧ x < 4294967296 := by
  obtain ⟨x, rfl, -, -, wx⟩ := open_int ht hok h
  have hb : 0 ≤ x ∧ x ≤ 4294967295 := by simpa [Lit.wf, IntKind.min, IntKind.max, IntKind.signed, IntKind.bits] using wx
  obtain ⟨n, rfl⟩ := Int.eq_ofNat_of_zero_le hb.1
  exact ⟨n, rfl, by omega⟩
end
end Go.Proofs.YtaodifpnfejbbaaGreat

/-
  A walk through a statement that draws its order, operation by operation: also those operations that a guard leaves out.
-/
namespace Go.Proofs.YtaodifpnfejbbaaGreat

section
variable {P : Program} {l : List Oper} {Q : Exit → Act → World → Prop} {md : Region.Mode} {S : World → Prop}

/-- An operation that is wanted, and yields its value in every world that meets S, comes up next. -/
theorem take_yes {i : Nat} {oi : Oper} {v : Value} {fuel : Nat} {listed : Array Bool} {a : Act} {w : World} (hi : l[i]? = some oi)
    (hs : Region.noSelect l.toArray = true) (hf : Region.free md l.toArray listed i = true) (hr : (Region.ready md l.toArray listed).contains i = true)
    (hQ : ∀ c a w, Q (.panic c) (a.put oi.dst v) w → Q (.panic c) a w) (hw : Region.wanted oi (yielded l.toArray a.tmps) = true) (hS : S w) (hy : ∀ w, S w → (execOp a.eval oi).run P w = .ok (.value v) w)
    (h : wpAnyH P md l.toArray Q S fuel (listed.setIfInBounds i true) (a.put oi.dst v) w) : wpAnyH P md l.toArray Q S (fuel + 1) listed a w :=
  wpAnyH_take (by rw [List.getElem?_toArray]; exact hi) hs hf hr hQ (.inl ⟨hw, hy⟩) hS h
/-- An operation that its guard leaves out comes up next. -/
theorem take_no {i : Nat} {oi : Oper} {fuel : Nat} {listed : Array Bool} {a : Act} {w : World} (hi : l[i]? = some oi)
    (hs : Region.noSelect l.toArray = true) (hf : Region.free md l.toArray listed i = true) (hr : (Region.ready md l.toArray listed).contains i = true)
    (hQ : ∀ c a w, Q (.panic c) (a.put oi.dst undef) w → Q (.panic c) a w) (hw : Region.wanted oi (yielded l.toArray a.tmps) = false) (hS : S w)
    (h : wpAnyH P md l.toArray Q S fuel (listed.setIfInBounds i true) (a.put oi.dst undef) w) : wpAnyH P md l.toArray Q S (fuel + 1) listed a w :=
  wpAnyH_take (by rw [List.getElem?_toArray]; exact hi) hs hf hr hQ (.inr ⟨hw, rfl⟩) hS h
/-- An operation that alone may come up, and is wanted. -/
theorem call_one {i : Nat} {o : Oper} {fuel : Nat} {listed : Array Bool} {a : Act} {w : World} (hi : l[i]? = some o) (hr : Region.ready md l.toArray listed = [i])
    (hw : Region.wanted o (yielded l.toArray a.tmps) = true)
    (h : ∀ K' : Act → World → Prop, Shut (∀ a w, S w → (S w → wpAnyH P md l.toArray Q S fuel (listed.setIfInBounds i true) a w) → K' a w) → Oper.wp P o a w K' Q) :
    wpAnyH P md l.toArray Q S (fuel + 1) listed a w :=
  wpAnyH_ready hr (by simp) (AllReadyH.cons (by rw [List.getElem?_toArray]; exact hi) (fun K' hK => by rw [if_pos hw]; exact h K' hK) AllReadyH.nil)
end
end Go.Proofs.YtaodifpnfejbbaaGreat

/-
  Slices cut out of rows that are read: 'b[k:]', 'b[:k]', 'b[k:h]'.
-/
namespace Go.Proofs.YtaodifpnfejbbaaGreat
open Go.RowKit

/-- Where 'b[k:]' begins. -/
def cutA (A : Option Addr) (k c : Nat) : Option Addr := if c = k then A else A.map (·.add k)
theorem run_cut {T E : TypeId} (ht : Tryz.prog.underlying T = some (.slice E)) (hs : ∀ w, (sizeOf E).run Tryz.prog w = .ok 1 w) (w : World) (A : Option Addr) (n c k : Nat) (hk : k ≤ n) :
    (Instr.slice T (.slice A n c) (some (.int .i64 (k : Int))) none none).run Tryz.prog w = .ok (.slice (cutA A k c) (n - k) (c - k)) w := by
  have ht' : Tryz.prog.underlying T = some (.slice (Tryz.prog.elem T)) := by simp [Program.elem, ht]
  have he : Tryz.prog.elem T = E := by simp [Program.elem, ht]
  rw [run_slice_l w T _ _ _ ht' .i64 _ (by omega) (by omega), he, hs]
  simp [Result.andThen, sliced, cutA]
theorem RowAt.cut {w : World} {B : Nat} {A : Option Addr} {l : List Value} {k c : Nat} (h : RowAt w B A l) (hk : k ≤ l.length) (hc : l.length ≤ c) : RowAt w B (cutA A k c) (l.drop k) := by
  unfold cutA
  split
  · left
    exact List.drop_of_length_le (by omega)
  · rcases h with h | ⟨b, o, rfl, h2, h3⟩
    · left; rw [h]; simp
    · refine .inr ⟨b, o + k, by simp [Go.WideShapes.add_plain], h2, fun j u hu => ?_⟩
      rw [Nat.add_assoc]
      exact h3 _ u (by rw [← hu, List.getElem?_drop])
theorem RowAt.drewN {w : World} {B : Nat} {A : Option Addr} {l : List Value} (h : RowAt w B A l) (k : Nat) : RowAt (w.drewN k) B A l := h
theorem RdB.cut {w : World} {B : Nat} {A : Option Addr} {c k : Nat} {l : List UInt8} (h : RdB w B A c l) (hk : k ≤ l.length) : RdB w B (cutA A k c) (c - k) (l.drop k) :=
  ⟨by have := RowAt.cut h.row (k := k) (c := c) (by simpa using hk) (by simpa using h.room)
      simpa [bytes] using this, by have := h.room; simp; omega, by have := h.cap; omega⟩
theorem byte_size (w : World) : (sizeOf 5).run Tryz.prog w = .ok 1 w := by kernel_rfl
theorem run_cut2 {T E : TypeId} (ht : Tryz.prog.underlying T = some (.slice E)) (hs : ∀ w, (sizeOf E).run Tryz.prog w = .ok 1 w) (w : World) (A : Option Addr) (n c k : Nat) (h : Int) (h1 : (k : Int) ≤ h) (h2 : h ≤ c) :
    (Instr.slice T (.slice A n c) (some (.int .i64 (k : Int))) (some (.int .i64 h)) none).run Tryz.prog w = .ok (.slice (cutA A k c) (h.toNat - k) (c - k)) w := by
  have ht' : Tryz.prog.underlying T = some (.slice (Tryz.prog.elem T)) := by simp [Program.elem, ht]
  have he : Tryz.prog.elem T = E := by simp [Program.elem, ht]
  rw [run_slice_lh w T _ _ _ ht' .i64 .i64 _ _ (by omega) h1 h2, he, hs]
  simp [Result.andThen, sliced, cutA]
theorem run_take {T E : TypeId} (ht : Tryz.prog.underlying T = some (.slice E)) (hs : ∀ w, (sizeOf E).run Tryz.prog w = .ok 1 w) (w : World) (A : Option Addr) (n c m : Nat) (h2 : m ≤ c) :
    (Instr.slice T (.slice A n c) none (some (.int .i64 (m : Int))) none).run Tryz.prog w = .ok (.slice A m c) w := by
  have ht' : Tryz.prog.underlying T = some (.slice (Tryz.prog.elem T)) := by simp [Program.elem, ht]
  have he : Tryz.prog.elem T = E := by simp [Program.elem, ht]
  rw [run_slice_h w T _ _ _ ht' .i64 _ (by omega) (by omega), he, hs]
  cases A <;> simp [Result.andThen, sliced, Addr.add]
theorem RowAt.take {w : World} {B : Nat} {A : Option Addr} {l : List Value} (h : RowAt w B A l) (k : Nat) : RowAt w B A (l.take k) := by
  rcases h with h | ⟨b, o, rfl, h2, h3⟩
  · left; rw [h]; simp
  · refine .inr ⟨b, o, rfl, h2, fun j u hu => h3 j u ?_⟩
    rw [List.getElem?_take] at hu
    split at hu
    · exact hu
    · cases hu
theorem RdB.take {w : World} {B : Nat} {A : Option Addr} {c : Nat} {l : List UInt8} (h : RdB w B A c l) (k : Nat) : RdB w B A c (l.take k) :=
  ⟨by have := RowAt.take h.row k
      simpa [bytes] using this, by have := h.room; simp; omega, h.cap⟩
end Go.Proofs.YtaodifpnfejbbaaGreat

/-
  Plain facts on sets of counts, as runs (layer 13): which are right, which counts they have, the one right list of a set. No program in this text.
-/
namespace Go.Proofs.YtaodifpnfejbbaaGreat

structure Rn where
  fr : Int
  to : Int
def oneC (r : Rn) : Bool := decide (1 ≤ r.fr) && (decide (r.fr ≤ r.to) && decide (r.to ≤ 1099511627776))
theorem oneC_iff {r : Rn} : oneC r = true ↔ 1 ≤ r.fr ∧ r.fr ≤ r.to ∧ r.to ≤ 1099511627776 := by
  unfold oneC; simp only [Bool.and_eq_true, decide_eq_true_eq]
def inC (r : Rn) (n : Int) : Bool := oneC r && (decide (r.fr ≤ n) && decide (n ≤ r.to))
theorem inC_iff {r : Rn} {n : Int} : inC r n = true ↔ oneC r = true ∧ r.fr ≤ n ∧ n ≤ r.to := by
  unfold inC; simp only [Bool.and_eq_true, decide_eq_true_eq]
def hasC (l : List Rn) (n : Int) : Bool := l.any fun r => inC r n
theorem hasC_nil (n : Int) : hasC [] n = false := rfl
theorem hasC_cons (r : Rn) (l : List Rn) (n : Int) : hasC (r :: l) n = (inC r n || hasC l n) := rfl
theorem hasC_append (a b : List Rn) (n : Int) : hasC (a ++ b) n = (hasC a n || hasC b n) := by simp [hasC]
theorem hasC_range {l : List Rn} {n : Int} (h : hasC l n = true) : 1 ≤ n ∧ n ≤ 1099511627776 := by
  unfold hasC at h
  obtain ⟨r, _, hr⟩ := List.any_eq_true.1 h
  obtain ⟨h1, h2, h3⟩ := inC_iff.1 hr
  have := oneC_iff.1 h1
  omega
/-- Right runs, each of which begins at least two above the end of the one ahead. -/
def rightC : List Rn → Bool
  | [] => true
  | [r] => oneC r
  | r :: t :: l => oneC r && decide (r.to + 2 ≤ t.fr) && rightC (t :: l)
theorem rightC_head {r : Rn} {l : List Rn} (h : rightC (r :: l) = true) : oneC r = true := by
  cases l with
  | nil => exact h
  | cons t l => unfold rightC at h; simp only [Bool.and_eq_true] at h; exact h.1.1
theorem rightC_tail {r : Rn} {l : List Rn} (h : rightC (r :: l) = true) : rightC l = true := by
  cases l with
  | nil => rfl
  | cons t l => unfold rightC at h; simp only [Bool.and_eq_true] at h; exact h.2
theorem rightC_gap {r t : Rn} {l : List Rn} (h : rightC (r :: t :: l) = true) : r.to + 2 ≤ t.fr := by
  unfold rightC at h; simp only [Bool.and_eq_true, decide_eq_true_eq] at h; exact h.1.2
theorem rightC_all : ∀ {l : List Rn}, rightC l = true → ∀ r ∈ l, oneC r = true
  | [], _, r, hr => by cases hr
  | t :: l, h, r, hr => by
    rcases List.mem_cons.1 hr with rfl | hr
    · exact rightC_head h
    · exact rightC_all (rightC_tail h) r hr
/-- All that a right list has behind its first run stands at least two above that run's end. -/
theorem hasC_above : ∀ {l : List Rn} {r : Rn} {n : Int}, rightC (r :: l) = true → hasC l n = true → r.to + 2 ≤ n
  | [], _, _, _, h => by cases h
  | t :: l, r, n, hr, h => by
    have hg := rightC_gap hr
    have ht := oneC_iff.1 (rightC_head (rightC_tail hr))
    rw [hasC_cons, Bool.or_eq_true] at h
    rcases h with h | h
    · have := (inC_iff.1 h).2; omega
    · have := hasC_above (rightC_tail hr) h
      omega
theorem hasC_least {l : List Rn} {r : Rn} {n : Int} (hr : rightC (r :: l) = true) (h : hasC (r :: l) n = true) : r.fr ≤ n := by
  rw [hasC_cons, Bool.or_eq_true] at h
  have h0 := oneC_iff.1 (rightC_head hr)
  rcases h with h | h
  · exact (inC_iff.1 h).2.1
  · have := hasC_above hr h; omega
theorem hasC_first {l : List Rn} {r : Rn} (hr : rightC (r :: l) = true) {n : Int} (h1 : r.fr ≤ n) (h2 : n ≤ r.to) : hasC (r :: l) n = true := by
  rw [hasC_cons, inC_iff.2 ⟨rightC_head hr, h1, h2⟩]; rfl
theorem hasC_behind {l : List Rn} {r : Rn} (hr : rightC (r :: l) = true) : hasC (r :: l) (r.to + 1) = false := by
  cases h : hasC (r :: l) (r.to + 1) with
  | false => rfl
  | true =>
    rw [hasC_cons, Bool.or_eq_true] at h
    rcases h with h | h
    · have := (inC_iff.1 h).2.2; omega
    · have := hasC_above hr h; omega
theorem hasC_tail {l : List Rn} {r : Rn} (hr : rightC (r :: l) = true) (n : Int) : hasC l n = (hasC (r :: l) n && decide (r.to < n)) := by
  by_cases hn : r.to < n
  · rw [decide_eq_true hn, Bool.and_true, hasC_cons]
    have : inC r n = false := by
      cases h : inC r n with
      | false => rfl
      | true => have := (inC_iff.1 h).2.2; omega
    rw [this]; rfl
  · rw [decide_eq_false hn, Bool.and_false]
    cases h : hasC l n with
    | false => rfl
    | true => have := hasC_above hr h; omega
theorem rn_ext {a b : Rn} (h1 : a.fr = b.fr) (h2 : a.to = b.to) : a = b := by cases a; cases b; simp_all
/-- P13.4: one right list for each set. -/
theorem rightC_unique : ∀ {a b : List Rn}, rightC a = true → rightC b = true → (∀ n, hasC a n = hasC b n) → a = b
  | [], [], _, _, _ => rfl
  | [], t :: b, _, hb, h => by
    have h0 := oneC_iff.1 (rightC_head hb)
    have := hasC_first hb (Int.le_refl _) h0.2.1
    rw [← h] at this; cases this
  | r :: a, [], ha, _, h => by
    have h0 := oneC_iff.1 (rightC_head ha)
    have := hasC_first ha (Int.le_refl _) h0.2.1
    rw [h] at this; cases this
  | r :: a, t :: b, ha, hb, h => by
    have h0 := oneC_iff.1 (rightC_head ha)
    have k0 := oneC_iff.1 (rightC_head hb)
    have e1 : t.fr ≤ r.fr := hasC_least hb (by rw [← h]; exact hasC_first ha (Int.le_refl _) h0.2.1)
    have e2 : r.fr ≤ t.fr := hasC_least ha (by rw [h]; exact hasC_first hb (Int.le_refl _) k0.2.1)
    have e3 : r.to = t.to := by
      rcases Int.lt_trichotomy r.to t.to with h1 | h1 | h1
      · have h2 := hasC_behind ha
        rw [h, hasC_first hb (n := r.to + 1) (by omega) (by omega)] at h2; cases h2
      · exact h1
      · have h2 := hasC_behind hb
        rw [← h, hasC_first ha (n := t.to + 1) (by omega) (by omega)] at h2; cases h2
    have e : r = t := rn_ext (by omega) e3
    subst e
    rw [rightC_unique (rightC_tail ha) (rightC_tail hb) fun n => by rw [hasC_tail ha, hasC_tail hb, h]]

/-! The list of what is told at each edge. -/
def putC (o : Option Rn) (x y : Int) : List Rn × Option Rn := match o with
  | some r => (match decide (r.to = x - 1) with
    | true => ([], some ⟨r.fr, y - 1⟩)
    | false => ([r], some ⟨x, y - 1⟩))
  | none => ([], some ⟨x, y - 1⟩)
def mkC (f : Int → Bool) : List Int → Option Rn → List Rn
  | [], o => o.toList
  | [_], o => o.toList
  | x :: y :: es, o => match f x with
    | true => (putC o x y).1 ++ mkC f (y :: es) (putC o x y).2
    | false => mkC f (y :: es) o
theorem mkC_out {f : Int → Bool} {x y : Int} {es : List Int} {o : Option Rn} (h : f x = false) : mkC f (x :: y :: es) o = mkC f (y :: es) o := by rw [mkC, h]
theorem mkC_in {f : Int → Bool} {x y : Int} {es : List Int} {o : Option Rn} (h : f x = true) : mkC f (x :: y :: es) o = (putC o x y).1 ++ mkC f (y :: es) (putC o x y).2 := by rw [mkC, h]
theorem mkC_on {f : Int → Bool} {x y : Int} {es : List Int} (h : f x = true) : mkC f (x :: y :: es) none = mkC f (y :: es) (some ⟨x, y - 1⟩) := by rw [mkC_in h]; rfl
theorem putC_more {x y : Int} {r : Rn} (h' : r.to = x - 1) : putC (some r) x y = ([], some ⟨r.fr, y - 1⟩) := by unfold putC; simp only [decide_eq_true h']
theorem putC_next {x y : Int} {r : Rn} (h' : r.to ≠ x - 1) : putC (some r) x y = ([r], some ⟨x, y - 1⟩) := by unfold putC; simp only [decide_eq_false h']
theorem mkC_more {f : Int → Bool} {x y : Int} {es : List Int} {r : Rn} (h : f x = true) (h' : r.to = x - 1) : mkC f (x :: y :: es) (some r) = mkC f (y :: es) (some ⟨r.fr, y - 1⟩) := by rw [mkC_in h, putC_more h']; rfl
theorem mkC_next {f : Int → Bool} {x y : Int} {es : List Int} {r : Rn} (h : f x = true) (h' : r.to ≠ x - 1) : mkC f (x :: y :: es) (some r) = r :: mkC f (y :: es) (some ⟨x, y - 1⟩) := by rw [mkC_in h, putC_next h']; rfl
/-- Rising from a number on. -/
def upC : Int → List Int → Bool
  | _, [] => true
  | c, x :: l => decide (c < x) && upC x l
theorem upC_head {c x : Int} {l : List Int} (h : upC c (x :: l) = true) : c < x ∧ upC x l = true := by
  unfold upC at h; simpa using h
theorem upC_all : ∀ {l : List Int} {c : Int}, upC c l = true → ∀ x ∈ l, c < x
  | [], _, _, x, hx => by cases hx
  | y :: l, c, h, x, hx => by
    obtain ⟨h1, h2⟩ := upC_head h
    rcases List.mem_cons.1 hx with rfl | hx
    · exact h1
    · have := upC_all h2 x hx; omega
theorem upC_less {c d : Int} {l : List Int} (h : upC c l = true) (hd : d ≤ c) : upC d l = true := by
  cases l with
  | nil => rfl
  | cons x l =>
    obtain ⟨h1, h2⟩ := upC_head h
    unfold upC; rw [h2, decide_eq_true (by omega)]; rfl
/-- A truth that turns at edges alone. -/
def DetC (f : Int → Bool) (E : List Int) : Prop := ∀ s c, (∀ x ∈ E, s < x ↔ c < x) → f s = f c
/-- What the list from here on has: what stands open, and the truth from the first edge to the last. -/
theorem mkC_has (f : Int → Bool) : ∀ (es : List Int) (o : Option Rn) (c : Int), upC c es = true → 0 ≤ c → (∀ x ∈ es, x ≤ 1099511627777) → (∀ r, o = some r → oneC r = true ∧ ∀ x ∈ es, r.to < x) →
    (∀ x y, x ∈ es → y ∈ es → ∀ n, x ≤ n → n < y → (∀ z ∈ es, z ≤ n → z ≤ x) → f n = f x) →
    rightC (mkC f es o) = true ∧ (∀ r, o = some r → ∃ t l, mkC f es o = t :: l ∧ t.fr = r.fr) ∧ (∀ n, hasC (mkC f es o) n = ((match o with | some r => inC r n | none => false) || (f n && (es.any (fun x => decide (x ≤ n)) && es.any (fun y => decide (n < y)))))) ∧ (o = none → ∀ t l, mkC f es o = t :: l → ∃ x ∈ es, x ≤ t.fr)
  | [], o, c, _, _, _, ho, _ => by
    cases o with
    | none => exact ⟨rfl, (fun r h => by cases h), (fun n => by simp [mkC, hasC]), fun _ t l h => (by cases h)⟩
    | some r => exact ⟨(ho r rfl).1, (fun t h => by injection h with h; subst h; exact ⟨r, [], rfl, rfl⟩), (fun n => by simp [mkC, hasC]), fun h => (by cases h)⟩
  | [x], o, c, hup, hc, hx, ho, _ => by
    have hz : ∀ n, ([x].any (fun z => decide (z ≤ n)) && [x].any (fun y => decide (n < y))) = false := fun n => by
      by_cases h : x ≤ n
      · simp [h]
      · simp [h]
    cases o with
    | none => exact ⟨rfl, (fun r h => by cases h), (fun n => by rw [hz, Bool.and_false]; rfl), fun _ t l h => (by cases h)⟩
    | some r => exact ⟨(ho r rfl).1, (fun t h => by injection h with h; subst h; exact ⟨r, [], rfl, rfl⟩), (fun n => by rw [hz, Bool.and_false]; simp [mkC, hasC]), fun h => (by cases h)⟩
  | x :: y :: es, o, c, hup, hc, hx, ho, hf => by
    obtain ⟨u1, u2⟩ := upC_head hup
    obtain ⟨u3, u4⟩ := upC_head u2
    have hx1 := hx x (List.mem_cons_self ..)
    have hy1 := hx y (by simp)
    have hx2 : ∀ z ∈ y :: es, z ≤ 1099511627777 := fun z hz => hx z (List.mem_cons_of_mem _ hz)
    have hf2 : ∀ a b, a ∈ y :: es → b ∈ y :: es → ∀ n, a ≤ n → n < b → (∀ z ∈ y :: es, z ≤ n → z ≤ a) → f n = f a := fun a b ha hb n h1 h2 h3 => hf a b (List.mem_cons_of_mem _ ha) (List.mem_cons_of_mem _ hb) n h1 h2 fun z hz hzn => by
      rcases List.mem_cons.1 hz with rfl | hz
      · have := upC_all u2 a ha; omega
      · exact h3 z hz hzn
    have habove : ∀ z ∈ y :: es, x < z := upC_all u2
    have hyz : ∀ z ∈ y :: es, y ≤ z := fun z hz => by
      rcases List.mem_cons.1 hz with rfl | hz
      · exact Int.le_refl _
      · have := upC_all u4 z hz; omega
    -- between x and y it is as at x
    have hseg : ∀ n, x ≤ n → n < y → f n = f x := fun n h1 h2 => hf x y (List.mem_cons_self ..) (by simp) n h1 h2 fun z hz hzn => by
      rcases List.mem_cons.1 hz with rfl | hz
      · exact Int.le_refl _
      · have := hyz z hz; omega
    -- the word of all edges, from the word of the rest
    have hall : ∀ n, (f n && ((x :: y :: es).any (fun z => decide (z ≤ n)) && (x :: y :: es).any (fun z => decide (n < z)))) = ((f x && (decide (x ≤ n) && decide (n ≤ y - 1))) || (f n && ((y :: es).any (fun z => decide (z ≤ n)) && (y :: es).any (fun z => decide (n < z))))) := fun n => by
      simp only [List.any_cons]
      by_cases h1 : x ≤ n
      · by_cases h2 : n < y
        · have e1 : es.any (fun z => decide (z ≤ n)) = false := by
            rw [List.any_eq_false]; intro z hz; have := hyz z (List.mem_cons_of_mem _ hz); simp; omega
          rw [e1, hseg n h1 h2, decide_eq_true h1, decide_eq_true h2, decide_eq_true (show n ≤ y - 1 by omega), decide_eq_false (show ¬ y ≤ n by omega)]
          simp
        · rw [decide_eq_true h1, decide_eq_true (show y ≤ n by omega), decide_eq_false h2, decide_eq_false (show ¬ n ≤ y - 1 by omega), decide_eq_false (show ¬ n < x by omega)]
          simp
      · have e1 : es.any (fun z => decide (z ≤ n)) = false := by
          rw [List.any_eq_false]; intro z hz; have := hyz z (List.mem_cons_of_mem _ hz); simp; omega
        rw [e1, decide_eq_false h1, decide_eq_false (show ¬ y ≤ n by omega)]
        simp
    cases hfx : f x with
    | false =>
      rw [mkC_out hfx]
      obtain ⟨i1, i2, i3, i4⟩ := mkC_has f (y :: es) o x u2 (by omega) hx2 (fun r hr => ⟨(ho r hr).1, fun z hz => (ho r hr).2 z (List.mem_cons_of_mem _ hz)⟩) hf2
      refine ⟨i1, i2, fun n => ?_, fun h t l e => ?_⟩
      · rw [i3, hall, hfx]; simp
      · obtain ⟨z, hz, h5⟩ := i4 h t l e
        exact ⟨z, List.mem_cons_of_mem _ hz, h5⟩
    | true =>
      have hone : oneC ⟨x, y - 1⟩ = true := oneC_iff.2 ⟨by show 1 ≤ x; omega, by show x ≤ y - 1; omega, by show y - 1 ≤ _; omega⟩
      have hin : ∀ n, inC ⟨x, y - 1⟩ n = (decide (x ≤ n) && decide (n ≤ y - 1)) := fun n => by unfold inC; rw [hone, Bool.true_and]
      cases o with
      | none =>
        rw [mkC_on hfx]
        obtain ⟨i1, i2, i3, -⟩ := mkC_has f (y :: es) (some ⟨x, y - 1⟩) x u2 (by omega) hx2 (fun r hr => by injection hr with hr; subst hr; exact ⟨hone, fun z hz => by have := hyz z hz; show y - 1 < z; omega⟩) hf2
        obtain ⟨t, l, h5, h6⟩ := i2 _ rfl
        refine ⟨i1, (fun r h => by cases h), fun n => ?_, fun _ t' l' e => ?_⟩
        · rw [i3, hall, hfx]
          show (inC ⟨x, y - 1⟩ n || _) = (false || _)
          rw [hin]; simp
        · rw [h5] at e; injection e with e _; subst e
          exact ⟨x, List.mem_cons_self .., by rw [h6]; exact Int.le_refl _⟩
      | some r =>
        obtain ⟨hr1, hr2⟩ := ho r rfl
        have hr3 := oneC_iff.1 hr1
        have hrx := hr2 x (List.mem_cons_self ..)
        by_cases hm : r.to = x - 1
        · rw [mkC_more hfx hm]
          have hone2 : oneC ⟨r.fr, y - 1⟩ = true := oneC_iff.2 ⟨hr3.1, by show r.fr ≤ y - 1; omega, by show y - 1 ≤ _; omega⟩
          obtain ⟨i1, i2, i3, -⟩ := mkC_has f (y :: es) (some ⟨r.fr, y - 1⟩) x u2 (by omega) hx2 (fun r' hr' => by injection hr' with hr'; subst hr'; exact ⟨hone2, fun z hz => by have := hyz z hz; show y - 1 < z; omega⟩) hf2
          refine ⟨i1, (fun r' h => by injection h with h; subst h; exact i2 ⟨r.fr, y - 1⟩ rfl), fun n => ?_, fun h => (by cases h)⟩
          rw [i3, hall, hfx]
          have : inC ⟨r.fr, y - 1⟩ n = (inC r n || (decide (x ≤ n) && decide (n ≤ y - 1))) := by
            unfold inC
            rw [hone2, hr1, Bool.true_and, Bool.true_and]
            by_cases a1 : r.fr ≤ n <;> by_cases a2 : n ≤ y - 1 <;> by_cases a3 : n ≤ r.to <;> by_cases a4 : x ≤ n <;> simp [a1, a2, a3, a4] <;> omega
          show (inC ⟨r.fr, y - 1⟩ n || _) = _
          rw [this, Bool.or_assoc, Bool.true_and]
        · rw [mkC_next hfx hm]
          obtain ⟨i1, i2, i3, -⟩ := mkC_has f (y :: es) (some ⟨x, y - 1⟩) x u2 (by omega) hx2 (fun r hr => by injection hr with hr; subst hr; exact ⟨hone, fun z hz => by have := hyz z hz; show y - 1 < z; omega⟩) hf2
          obtain ⟨t, l, h5, h6⟩ := i2 _ rfl
          refine ⟨?_, (fun r' h => by injection h with h; subst h; exact ⟨r, _, rfl, rfl⟩), fun n => ?_, fun h => (by cases h)⟩
          · rw [h5] at i1 ⊢
            unfold rightC
            rw [hr1, i1, decide_eq_true (show r.to + 2 ≤ t.fr by rw [h6]; show r.to + 2 ≤ x; omega)]; rfl
          · rw [hasC_cons, i3, hall, hfx]
            show (inC r n || (inC ⟨x, y - 1⟩ n || _)) = (inC r n || _)
            rw [hin]; simp
/-- A list of edges makes the right list of what turns at them alone. -/
theorem mkC_all {f : Int → Bool} {es : List Int} (hup : upC 0 es = true) (hx : ∀ x ∈ es, x ≤ 1099511627777) (hd : DetC f es) (h0 : ∀ n, n < 1 ∨ 1099511627776 < n → f n = false) : rightC (mkC f es none) = true ∧ ∀ n, hasC (mkC f es none) n = f n := by
  have hpos : ∀ x ∈ es, 0 < x := upC_all hup
  obtain ⟨h1, _, h3, _⟩ := mkC_has f es none 0 hup (Int.le_refl _) hx (fun r h => by cases h) fun x y hx' hy n h1 h2 h3 => hd n x fun z hz => by
    constructor
    · intro h; have := h3 z hz; omega
    · intro h; have := h3 z hz; omega
  refine ⟨h1, fun n => ?_⟩
  rw [h3, Bool.false_or]
  cases hf : f n with
  | false => rfl
  | true =>
    have e1 : es.any (fun x => decide (x ≤ n)) = true := by
      cases e : es.any (fun x => decide (x ≤ n)) with
      | true => rfl
      | false =>
        rw [List.any_eq_false] at e
        have : f n = f 0 := hd n 0 fun z hz => ⟨fun _ => hpos z hz, fun _ => by have := e z hz; simp at this; omega⟩
        rw [h0 0 (.inl (by omega)), hf] at this; cases this
    have hn1 : 1 ≤ n := by
      obtain ⟨z, hz, hzn⟩ := List.any_eq_true.1 e1
      have := hpos z hz
      simp at hzn; omega
    have e2 : es.any (fun y => decide (n < y)) = true := by
      cases e : es.any (fun y => decide (n < y)) with
      | true => rfl
      | false =>
        rw [List.any_eq_false] at e
        have : f n = f (n + 1099511627777) := hd n _ fun z hz => by
          have h1 := e z hz
          have h2 := hx z hz
          simp at h1
          omega
        rw [h0 (n + 1099511627777) (.inr (by omega)), hf] at this; cases this
    rw [e1, e2]; rfl
end Go.Proofs.YtaodifpnfejbbaaGreat

/-
  Plain facts on sets of counts (layer 13): edges, what is made of two lists, how many a list has. No program in this text.
-/
namespace Go.Proofs.YtaodifpnfejbbaaGreat

def putI : List Int → Int → List Int
  | [], n => [n]
  | x :: l, n => match decide (x < n) with
    | true => x :: putI l n
    | false => match decide (x = n) with
      | true => x :: l
      | false => n :: x :: l
theorem putI_less {x n : Int} {l : List Int} (h : x < n) : putI (x :: l) n = x :: putI l n := by rw [putI, decide_eq_true h]
theorem putI_same {x n : Int} {l : List Int} (h : x = n) : putI (x :: l) n = x :: l := by rw [putI, decide_eq_false (by omega), decide_eq_true h]
theorem putI_more {x n : Int} {l : List Int} (h : n < x) : putI (x :: l) n = n :: x :: l := by rw [putI, decide_eq_false (by omega), decide_eq_false (by omega)]
theorem putI_up : ∀ {l : List Int} {c n : Int}, upC c l = true → c < n → upC c (putI l n) = true
  | [], c, n, _, h => by unfold putI upC; rw [decide_eq_true h]; rfl
  | x :: l, c, n, hu, h => by
    obtain ⟨h1, h2⟩ := upC_head hu
    rcases Int.lt_trichotomy x n with h3 | h3 | h3
    · rw [putI_less h3]; unfold upC; rw [decide_eq_true h1, putI_up h2 h3]; rfl
    · rw [putI_same h3]; exact hu
    · rw [putI_more h3]
      unfold upC
      rw [decide_eq_true h, Bool.true_and]
      unfold upC
      rw [decide_eq_true h3, h2]; rfl
theorem putI_mem : ∀ {l : List Int} {n z : Int}, z ∈ putI l n ↔ z = n ∨ z ∈ l
  | [], n, z => by simp [putI]
  | x :: l, n, z => by
    rcases Int.lt_trichotomy x n with h3 | h3 | h3
    · rw [putI_less h3, List.mem_cons, putI_mem, List.mem_cons]
      constructor
      · rintro (h | h | h) <;> simp [h]
      · rintro (h | h | h) <;> simp [h]
    · rw [putI_same h3, List.mem_cons]
      constructor
      · intro h; exact .inr h
      · rintro (h | h)
        · exact .inl (h.trans h3.symm)
        · exact h
    · rw [putI_more h3]; simp
theorem putI_len : ∀ (l : List Int) (n : Int), (putI l n).length ≤ l.length + 1
  | [], n => by simp [putI]
  | x :: l, n => by
    rcases Int.lt_trichotomy x n with h3 | h3 | h3
    · rw [putI_less h3, List.length_cons, List.length_cons]; have := putI_len l n; omega
    · rw [putI_same h3]; simp
    · rw [putI_more h3]; simp
def addC (E : List Int) (r : Rn) : List Int := match oneC r with
  | true => putI (putI E r.fr) (r.to + 1)
  | false => E
theorem addC_one {E : List Int} {r : Rn} (h : oneC r = true) : addC E r = putI (putI E r.fr) (r.to + 1) := by unfold addC; rw [h]
theorem addC_no {E : List Int} {r : Rn} (h : oneC r = false) : addC E r = E := by unfold addC; rw [h]
theorem addC_ok {E : List Int} {r : Rn} (hu : upC 0 E = true) (hx : ∀ x ∈ E, x ≤ 1099511627777) : upC 0 (addC E r) = true ∧ (∀ x ∈ addC E r, x ≤ 1099511627777) ∧ (∀ x ∈ E, x ∈ addC E r) ∧ (oneC r = true → r.fr ∈ addC E r ∧ r.to + 1 ∈ addC E r) := by
  cases h : oneC r with
  | false => rw [addC_no h]; exact ⟨hu, hx, fun x hx => hx, fun h => by cases h⟩
  | true =>
    have h1 := oneC_iff.1 h
    rw [addC_one h]
    refine ⟨putI_up (putI_up hu (by omega)) (by omega), fun x hx' => ?_, fun x hx' => putI_mem.2 (.inr (putI_mem.2 (.inr hx'))), fun _ => ⟨putI_mem.2 (.inr (putI_mem.2 (.inl rfl))), putI_mem.2 (.inl rfl)⟩⟩
    rcases putI_mem.1 hx' with rfl | h2
    · omega
    · rcases putI_mem.1 h2 with rfl | h2
      · omega
      · exact hx x h2
theorem cedges_ok : ∀ (l : List Rn) (E : List Int), upC 0 E = true → (∀ x ∈ E, x ≤ 1099511627777) → upC 0 (l.foldl addC E) = true ∧ (∀ x ∈ l.foldl addC E, x ≤ 1099511627777) ∧ (∀ x ∈ E, x ∈ l.foldl addC E) ∧ (∀ r ∈ l, oneC r = true → r.fr ∈ l.foldl addC E ∧ r.to + 1 ∈ l.foldl addC E)
  | [], E, hu, hx => ⟨hu, hx, fun _ h => h, fun r hr => by cases hr⟩
  | t :: l, E, hu, hx => by
    obtain ⟨h1, h2, h3, h4⟩ := addC_ok (r := t) hu hx
    obtain ⟨i1, i2, i3, i4⟩ := cedges_ok l (addC E t) h1 h2
    refine ⟨i1, i2, fun x h => i3 x (h3 x h), fun r hr ho => ?_⟩
    rcases List.mem_cons.1 hr with rfl | hr
    · exact ⟨i3 _ (h4 ho).1, i3 _ (h4 ho).2⟩
    · exact i4 r hr ho
theorem edges_lenC : ∀ (l : List Rn) (E : List Int), (l.foldl addC E).length ≤ E.length + 2 * l.length
  | [], E => by simp
  | t :: l, E => by
    have h1 := edges_lenC l (addC E t)
    have h2 : (addC E t).length ≤ E.length + 2 := by
      cases h : oneC t with
      | false => rw [addC_no h]; omega
      | true =>
        rw [addC_one h]
        have h3 := putI_len (putI E t.fr) (t.to + 1)
        have h4 := putI_len E t.fr
        omega
    rw [List.foldl_cons, List.length_cons]
    omega
def edgesC (a b : List Rn) : List Int := b.foldl addC (a.foldl addC [])
theorem hasC_det {l : List Rn} {E : List Int} (h : ∀ r ∈ l, oneC r = true → r.fr ∈ E ∧ r.to + 1 ∈ E) : DetC (hasC l) E := fun s c hs => by
  unfold hasC
  rw [Bool.eq_iff_iff, List.any_eq_true, List.any_eq_true]
  have key : ∀ r ∈ l, inC r s = inC r c := fun r hr => by
    cases ho : oneC r with
    | false => unfold inC; rw [ho]; rfl
    | true =>
      obtain ⟨h1, h2⟩ := h r hr ho
      have h3 := hs _ h1
      have h4 := hs _ h2
      unfold inC
      rw [ho, show decide (r.fr ≤ s) = decide (r.fr ≤ c) from decide_eq_decide.2 (by omega), show decide (s ≤ r.to) = decide (c ≤ r.to) from decide_eq_decide.2 (by omega)]
  constructor
  · rintro ⟨r, hr, hi⟩; exact ⟨r, hr, by rw [← key r hr]; exact hi⟩
  · rintro ⟨r, hr, hi⟩; exact ⟨r, hr, by rw [key r hr]; exact hi⟩
def gC (op : Int) (x y : Bool) : Bool := ((op == 1) && (x || y)) || ((op == 2) && x && y) || ((op == 3) && x && !y)
theorem gC1 (x y : Bool) : gC 1 x y = (x || y) := by cases x <;> cases y <;> rfl
theorem gC2 (x y : Bool) : gC 2 x y = (x && y) := by cases x <;> cases y <;> rfl
theorem gC3 (x y : Bool) : gC 3 x y = (x && !y) := by cases x <;> cases y <;> rfl
theorem gC_no (op : Int) : gC op false false = false := by unfold gC; simp
def isC (op : Int) (a b : List Rn) (n : Int) : Bool := gC op (hasC a n) (hasC b n)
def makeC (op : Int) (a b : List Rn) : List Rn := mkC (isC op a b) (edgesC a b) none
def ofC (l : List Rn) : List Rn := makeC 1 l []
theorem edgesC_ok (a b : List Rn) : upC 0 (edgesC a b) = true ∧ (∀ x ∈ edgesC a b, x ≤ 1099511627777) ∧ (∀ r ∈ a, oneC r = true → r.fr ∈ edgesC a b ∧ r.to + 1 ∈ edgesC a b) ∧ (∀ r ∈ b, oneC r = true → r.fr ∈ edgesC a b ∧ r.to + 1 ∈ edgesC a b) := by
  obtain ⟨h1, h2, _, h4⟩ := cedges_ok a [] rfl (fun x hx => by cases hx)
  obtain ⟨i1, i2, i3, i4⟩ := cedges_ok b (a.foldl addC []) h1 h2
  exact ⟨i1, i2, fun r hr ho => ⟨i3 _ (h4 r hr ho).1, i3 _ (h4 r hr ho).2⟩, i4⟩
theorem makeC_ok (op : Int) (a b : List Rn) : rightC (makeC op a b) = true ∧ ∀ n, hasC (makeC op a b) n = gC op (hasC a n) (hasC b n) := by
  obtain ⟨h1, h2, h3, h4⟩ := edgesC_ok a b
  refine mkC_all h1 h2 (fun s c h => ?_) fun n hn => ?_
  · unfold isC
    rw [hasC_det h3 s c h, hasC_det h4 s c h]
  · have e1 : hasC a n = false := by
      cases h : hasC a n with
      | false => rfl
      | true => have := hasC_range h; omega
    have e2 : hasC b n = false := by
      cases h : hasC b n with
      | false => rfl
      | true => have := hasC_range h; omega
    unfold isC
    rw [e1, e2, gC_no]
theorem makeC_right (op : Int) (a b : List Rn) : rightC (makeC op a b) = true := (makeC_ok op a b).1
theorem makeC_has (op : Int) (a b : List Rn) (n : Int) : hasC (makeC op a b) n = gC op (hasC a n) (hasC b n) := (makeC_ok op a b).2 n
theorem makeC_unique {op : Int} {a b u : List Rn} (h : rightC u = true) (hs : ∀ n, hasC u n = gC op (hasC a n) (hasC b n)) : u = makeC op a b :=
  rightC_unique h (makeC_right op a b) fun n => by rw [hs, makeC_has]
theorem ofC_right (l : List Rn) : rightC (ofC l) = true := makeC_right 1 l []
theorem ofC_has (l : List Rn) (n : Int) : hasC (ofC l) n = hasC l n := by unfold ofC; rw [makeC_has, gC1, hasC_nil, Bool.or_false]
theorem ofC_unique {l u : List Rn} (h : rightC u = true) (hs : ∀ n, hasC u n = hasC l n) : u = ofC l := rightC_unique h (ofC_right l) fun n => by rw [hs, ofC_has]
theorem mkC_lenC (f : Int → Bool) : ∀ (es : List Int) (o : Option Rn), (mkC f es o).length ≤ es.length + 1
  | [], o => by cases o <;> simp [mkC]
  | [x], o => by cases o <;> simp [mkC]
  | x :: y :: es, o => by
    cases h : f x with
    | false => rw [mkC_out h]; have := mkC_lenC f (y :: es) o; simp only [List.length_cons] at *; omega
    | true =>
      rw [mkC_in h, List.length_append]
      have h1 := mkC_lenC f (y :: es) (putC o x y).2
      have h2 : (putC o x y).1.length ≤ 1 := by
        unfold putC
        cases o with
        | none => simp
        | some r => simp only; split <;> simp
      simp only [List.length_cons] at *
      omega
theorem makeC_len (op : Int) (a b : List Rn) : (makeC op a b).length ≤ 2 * (a.length + b.length) + 1 := by
  have h1 := mkC_lenC (isC op a b) (edgesC a b) none
  have h2 := edges_lenC b (a.foldl addC [])
  have h3 := edges_lenC a []
  simp only [List.length_nil] at h3
  unfold makeC
  unfold edgesC at h1 ⊢
  omega

/-! How many. -/
/-- How many of the first k counts are told true. -/
def cardN (f : Int → Bool) : Nat → Int
  | 0 => 0
  | k + 1 => cardN f k + (match f ((k : Int) + 1) with | true => 1 | false => 0)
theorem card_congr {f g : Int → Bool} : ∀ {k : Nat}, (∀ n : Int, 1 ≤ n → n ≤ k → f n = g n) → cardN f k = cardN g k
  | 0, _ => rfl
  | k + 1, h => by rw [cardN, cardN, card_congr (k := k) fun n h1 h2 => h n h1 (by omega), h ((k : Int) + 1) (by omega) (by omega)]
theorem card_two (f g : Int → Bool) : ∀ k : Nat, cardN (fun n => f n || g n) k + cardN (fun n => f n && g n) k = cardN f k + cardN g k
  | 0 => rfl
  | k + 1 => by
    have := card_two f g k
    simp only [cardN]
    cases f ((k : Int) + 1) <;> cases g ((k : Int) + 1) <;> simp <;> omega
theorem card_less (f g : Int → Bool) : ∀ k : Nat, cardN (fun n => f n && !g n) k = cardN f k - cardN (fun n => f n && g n) k
  | 0 => rfl
  | k + 1 => by
    have := card_less f g k
    simp only [cardN]
    cases f ((k : Int) + 1) <;> cases g ((k : Int) + 1) <;> simp <;> omega
theorem card_zero : ∀ k : Nat, cardN (fun _ => false) k = 0
  | 0 => rfl
  | k + 1 => by rw [cardN, card_zero k]; rfl
theorem card_bounds (f : Int → Bool) : ∀ k : Nat, 0 ≤ cardN f k ∧ cardN f k ≤ k
  | 0 => ⟨Int.le_refl _, Int.le_refl _⟩
  | k + 1 => by
    have := card_bounds f k
    rw [cardN]
    cases f ((k : Int) + 1) <;> simp <;> omega
theorem card_mono {f g : Int → Bool} : ∀ {k : Nat}, (∀ n : Int, 1 ≤ n → n ≤ k → f n = true → g n = true) → cardN f k ≤ cardN g k
  | 0, _ => Int.le_refl _
  | k + 1, h => by
    have h1 := card_mono (k := k) fun n h1 h2 => h n h1 (by omega)
    have h2 := h ((k : Int) + 1) (by omega) (by omega)
    rw [cardN, cardN]
    cases hf : f ((k : Int) + 1) with
    | false => cases g ((k : Int) + 1) <;> simp <;> omega
    | true => rw [h2 hf]; simp; omega
/-- From 1 on, up to a count. -/
theorem card_upto (b : Int) : ∀ {k : Nat}, 0 ≤ b → b ≤ k → cardN (fun n => decide (n ≤ b)) k = b
  | 0, h1, h2 => by have : b = 0 := by omega
                    subst this; rfl
  | k + 1, h1, h2 => by
    rw [cardN]
    by_cases h : b ≤ k
    · rw [card_upto b h1 h, decide_eq_false (by omega)]; simp
    · have : b = (k : Int) + 1 := by omega
      subst this
      have h3 : cardN (fun n => decide (n ≤ (k : Int) + 1)) k = cardN (fun n => decide (n ≤ (k : Int))) k := card_congr fun n _ h => by rw [decide_eq_true h, decide_eq_true (show n ≤ (k : Int) + 1 by omega)]
      rw [h3, card_upto (k : Int) (by omega) (Int.le_refl _), decide_eq_true (Int.le_refl _)]
theorem card_one (m : Int) : ∀ {k : Nat}, cardN (fun n => decide (n = m)) k = if 1 ≤ m ∧ m ≤ k then 1 else 0
  | 0 => by rw [if_neg (by omega)]; rfl
  | k + 1 => by
    rw [cardN, card_one m (k := k)]
    by_cases h : m = (k : Int) + 1
    · rw [decide_eq_true h.symm, if_neg (by omega), if_pos (by omega)]; rfl
    · rw [decide_eq_false (fun e => h e.symm)]
      by_cases h2 : 1 ≤ m ∧ m ≤ k
      · rw [if_pos h2, if_pos (by omega)]; rfl
      · rw [if_neg h2, if_neg (by omega)]; rfl
/-- One more. -/
theorem card_more (f : Int → Bool) {m : Int} {k : Nat} (h1 : 1 ≤ m) (h2 : m ≤ k) : cardN (fun n => f n || decide (n = m)) k = cardN f k + (match f m with | true => 0 | false => 1) := by
  have h3 := card_two f (fun n => decide (n = m)) k
  rw [card_one m, if_pos ⟨h1, h2⟩] at h3
  cases hf : f m with
  | false =>
    have h4 : cardN (fun n => f n && decide (n = m)) k = cardN (fun _ => false) k := card_congr fun n _ _ => by
      by_cases e : n = m
      · rw [e, hf]; rfl
      · rw [decide_eq_false e, Bool.and_false]
    rw [h4, card_zero] at h3
    show _ = cardN f k + 1
    omega
  | true =>
    have h4 : cardN (fun n => f n && decide (n = m)) k = cardN (fun n => decide (n = m)) k := card_congr fun n _ _ => by
      by_cases e : n = m
      · rw [e, hf, decide_eq_true rfl]; rfl
      · rw [decide_eq_false e, Bool.and_false]
    rw [h4, card_one m, if_pos ⟨h1, h2⟩] at h3
    show _ = cardN f k + 0
    omega
def sumC : List Rn → Int
  | [] => 0
  | r :: l => (r.to - r.fr + 1) + sumC l
theorem card_run {a b : Int} {k : Nat} (h1 : 1 ≤ a) (h2 : a ≤ b) (h3 : b ≤ k) : cardN (fun n => decide (a ≤ n) && decide (n ≤ b)) k = b - a + 1 := by
  have h4 := card_less (fun n => decide (n ≤ b)) (fun n => decide (n ≤ a - 1)) k
  have h5 : cardN (fun n => decide (n ≤ b) && !decide (n ≤ a - 1)) k = cardN (fun n => decide (a ≤ n) && decide (n ≤ b)) k := card_congr fun n _ _ => by
    by_cases c1 : a ≤ n
    · rw [decide_eq_true c1, decide_eq_false (show ¬ n ≤ a - 1 by omega), Bool.not_false, Bool.and_true, Bool.true_and]
    · rw [decide_eq_false c1, decide_eq_true (show n ≤ a - 1 by omega), Bool.not_true, Bool.and_false, Bool.false_and]
  have h6 : cardN (fun n => decide (n ≤ b) && decide (n ≤ a - 1)) k = cardN (fun n => decide (n ≤ a - 1)) k := card_congr fun n _ _ => by
    by_cases c1 : n ≤ a - 1
    · rw [decide_eq_true c1, decide_eq_true (show n ≤ b by omega)]; rfl
    · rw [decide_eq_false c1, Bool.and_false]
  rw [← h5, h4, h6, card_upto b (by omega) h3, card_upto (a - 1) (by omega) (by omega)]
  omega
theorem sum_card : ∀ {l : List Rn} {k : Nat}, rightC l = true → (k : Int) = 1099511627776 → sumC l = cardN (hasC l) k
  | [], k, _, _ => by show (0 : Int) = cardN (fun _ => false) k; rw [card_zero]
  | r :: l, k, h, hk => by
    have h0 := oneC_iff.1 (rightC_head h)
    have h1 := card_two (inC r) (hasC l) k
    have h2 : cardN (fun n => inC r n && hasC l n) k = cardN (fun _ => false) k := card_congr fun n _ _ => by
      cases hi : inC r n with
      | false => rfl
      | true => cases hl : hasC l n with
        | false => rfl
        | true => have e1 := inC_iff.1 hi; have e2 := hasC_above h hl; omega
    have h3 : cardN (inC r) k = r.to - r.fr + 1 := by
      rw [← card_run (k := k) h0.1 h0.2.1 (by omega)]
      exact card_congr fun n _ _ => by unfold inC; rw [rightC_head h, Bool.true_and]
    rw [h2, card_zero, h3] at h1
    rw [sumC, sum_card (rightC_tail h) hk]
    have h4 : cardN (hasC (r :: l)) k = cardN (fun n => inC r n || hasC l n) k := card_congr fun n _ _ => hasC_cons r l n
    omega
def manyC (l : List Rn) : Int := sumC (ofC l)
def baseC (l : List Rn) : Int := match ofC l with
  | [] => 0
  | r :: _ => match decide (r.fr = 1) with | true => r.to | false => 0
def lastC : List Rn → Int
  | [] => 0
  | [r] => r.to
  | _ :: t :: l => lastC (t :: l)
def mostC (l : List Rn) : Int := lastC (ofC l)
theorem manyC_card (l : List Rn) {k : Nat} (hk : (k : Int) = 1099511627776) : manyC l = cardN (hasC l) k := by
  unfold manyC
  rw [sum_card (ofC_right l) hk]
  exact card_congr fun n _ _ => ofC_has l n
theorem last_ok : ∀ {l : List Rn}, rightC l = true → (∀ n, hasC l n = true → n ≤ lastC l) ∧ (l ≠ [] → hasC l (lastC l) = true) ∧ 0 ≤ lastC l
  | [], _ => ⟨(fun n h => by cases h), (fun h => absurd rfl h), Int.le_refl _⟩
  | [r], h => by
    have h0 := oneC_iff.1 (rightC_head h)
    refine ⟨fun n hn => ?_, fun _ => hasC_first h (by show r.fr ≤ r.to; omega) (Int.le_refl _), by show 0 ≤ r.to; omega⟩
    rw [hasC_cons, hasC_nil, Bool.or_false] at hn
    exact (inC_iff.1 hn).2.2
  | r :: t :: l, h => by
    obtain ⟨h1, h2, h3⟩ := last_ok (rightC_tail h)
    have hg := rightC_gap h
    have ht := oneC_iff.1 (rightC_head (rightC_tail h))
    have h4 := h2 (by simp)
    refine ⟨fun n hn => ?_, fun _ => by rw [hasC_cons, show lastC (r :: t :: l) = lastC (t :: l) from rfl, h4, Bool.or_true], h3⟩
    show n ≤ lastC (t :: l)
    rw [hasC_cons, Bool.or_eq_true] at hn
    rcases hn with hn | hn
    · have e1 := (inC_iff.1 hn).2.2
      have e2 := h1 t.fr (hasC_first (rightC_tail h) (Int.le_refl _) ht.2.1)
      omega
    · exact h1 n hn
theorem most_ok (l : List Rn) : (∀ n, hasC l n = true → n ≤ mostC l) ∧ (0 < mostC l → hasC l (mostC l) = true) ∧ 0 ≤ mostC l ∧ mostC l ≤ 1099511627776 := by
  obtain ⟨h1, h2, h3⟩ := last_ok (ofC_right l)
  have h4 : 0 < mostC l → hasC l (mostC l) = true := fun h => by
    rw [← ofC_has]
    refine h2 fun e => ?_
    unfold mostC at h
    rw [e] at h
    exact absurd h (by decide)
  refine ⟨fun n hn => h1 n (by rw [ofC_has]; exact hn), h4, h3, ?_⟩
  by_cases h : 0 < mostC l
  · exact (hasC_range (h4 h)).2
  · omega
theorem base_ok (l : List Rn) : (∀ n, 1 ≤ n → n ≤ baseC l → hasC l n = true) ∧ hasC l (baseC l + 1) = false ∧ 0 ≤ baseC l ∧ baseC l ≤ mostC l := by
  have hr := ofC_right l
  have hm := most_ok l
  have key : (∀ n, 1 ≤ n → n ≤ baseC l → hasC l n = true) ∧ hasC l (baseC l + 1) = false ∧ 0 ≤ baseC l := by
    unfold baseC
    cases h : ofC l with
    | nil => exact ⟨(fun n h1 h2 => absurd h2 (by show ¬ n ≤ 0; omega)), by rw [← ofC_has, h]; rfl, Int.le_refl _⟩
    | cons r u =>
      rw [h] at hr
      have h0 := oneC_iff.1 (rightC_head hr)
      by_cases h1 : r.fr = 1
      · simp only [decide_eq_true h1]
        refine ⟨fun n h2 h3 => ?_, ?_, by omega⟩
        · rw [← ofC_has, h]; exact hasC_first hr (by omega) h3
        · rw [← ofC_has, h]; exact hasC_behind hr
      · simp only [decide_eq_false h1]
        refine ⟨fun n h2 h3 => by omega, ?_, Int.le_refl _⟩
        rw [← ofC_has, h]
        cases hh : hasC (r :: u) (0 + 1) with
        | false => rfl
        | true => have := hasC_least hr hh; omega
  refine ⟨key.1, key.2.1, key.2.2, ?_⟩
  by_cases h : 1 ≤ baseC l
  · exact hm.1 _ (key.1 _ h (Int.le_refl _))
  · omega
/-- How many against base and greatest. -/
theorem many_ok (l : List Rn) : baseC l ≤ manyC l ∧ manyC l ≤ mostC l ∧ (manyC l = baseC l ↔ baseC l = mostC l) := by
  obtain ⟨k, hk⟩ : ∃ k : Nat, (k : Int) = 1099511627776 := ⟨1099511627776, rfl⟩
  obtain ⟨m1, m2, m3, m4⟩ := most_ok l
  obtain ⟨b1, b2, b3, b4⟩ := base_ok l
  have hc := manyC_card l hk
  have hb := card_upto (baseC l) (k := k) b3 (by omega)
  have hm := card_upto (mostC l) (k := k) m3 (by omega)
  have h1 : baseC l ≤ manyC l := by
    rw [hc]
    have := card_mono (f := fun n => decide (n ≤ baseC l)) (g := hasC l) (k := k) fun n h1 _ h => b1 n h1 (by simpa using h)
    omega
  have h2 : manyC l ≤ mostC l := by
    rw [hc]
    have := card_mono (f := hasC l) (g := fun n => decide (n ≤ mostC l)) (k := k) fun n _ _ h => by simpa using m1 n h
    omega
  refine ⟨h1, h2, fun h => ?_, fun h => by omega⟩
  by_cases e : baseC l = mostC l
  · exact e
  · exfalso
    have h3 := card_more (fun n => decide (n ≤ baseC l)) (m := mostC l) (k := k) (by omega) (by omega)
    rw [decide_eq_false (show ¬ mostC l ≤ baseC l by omega), hb] at h3
    have h4 := card_mono (f := fun n => decide (n ≤ baseC l) || decide (n = mostC l)) (g := hasC l) (k := k) fun n h1 _ h => by
      rcases Bool.or_eq_true _ _ ▸ h with h | h
      · exact b1 n h1 (by simpa using h)
      · rw [show n = mostC l by simpa using h]; exact m2 (by omega)
    simp only at h3
    omega
def runC (n : Int) : Rn := ⟨n, n⟩
theorem run_has (m n : Int) : inC (runC m) n = (decide (n = m) && decide (1 ≤ m ∧ m ≤ 1099511627776)) := by
  unfold inC oneC runC
  by_cases h1 : n = m
  · subst h1; by_cases h2 : 1 ≤ n <;> by_cases h3 : n ≤ 1099511627776 <;> simp [h2, h3]
  · rw [decide_eq_false h1]
    by_cases h2 : m ≤ n
    · by_cases h3 : n ≤ m
      · omega
      · simp [h3]
    · simp [h2]
theorem many_add (l : List Rn) (m : Int) : manyC (l ++ [runC m]) = manyC l + (match decide (1 ≤ m) && (decide (m ≤ 1099511627776) && !hasC l m) with | true => 1 | false => 0) := by
  obtain ⟨k, hk⟩ : ∃ k : Nat, (k : Int) = 1099511627776 := ⟨1099511627776, rfl⟩
  rw [manyC_card _ hk, manyC_card _ hk]
  by_cases hm : 1 ≤ m ∧ m ≤ 1099511627776
  · have h1 : cardN (hasC (l ++ [runC m])) k = cardN (fun n => hasC l n || decide (n = m)) k := card_congr fun n _ _ => by
      rw [hasC_append, hasC_cons, hasC_nil, Bool.or_false, run_has, decide_eq_true hm, Bool.and_true]
    rw [h1, card_more (hasC l) hm.1 (by omega), decide_eq_true hm.1, decide_eq_true hm.2]
    cases hasC l m <;> rfl
  · have h1 : cardN (hasC (l ++ [runC m])) k = cardN (hasC l) k := card_congr fun n _ _ => by
      rw [hasC_append, hasC_cons, hasC_nil, Bool.or_false, run_has, decide_eq_false hm, Bool.and_false, Bool.or_false]
    rw [h1]
    by_cases c1 : 1 ≤ m
    · rw [decide_eq_true c1, decide_eq_false (show ¬ m ≤ 1099511627776 by omega)]; simp
    · rw [decide_eq_false c1]; simp
theorem many_two (a b : List Rn) : manyC (makeC 1 a b) = manyC a + manyC b - manyC (makeC 2 a b) ∧ manyC (makeC 3 a b) = manyC a - manyC (makeC 2 a b) := by
  obtain ⟨k, hk⟩ : ∃ k : Nat, (k : Int) = 1099511627776 := ⟨1099511627776, rfl⟩
  rw [manyC_card _ hk, manyC_card _ hk, manyC_card _ hk, manyC_card _ hk, manyC_card _ hk]
  have h1 := card_two (hasC a) (hasC b) k
  have h2 := card_less (hasC a) (hasC b) k
  have e1 : cardN (hasC (makeC 1 a b)) k = cardN (fun n => hasC a n || hasC b n) k := card_congr fun n _ _ => by rw [makeC_has, gC1]
  have e2 : cardN (hasC (makeC 2 a b)) k = cardN (fun n => hasC a n && hasC b n) k := card_congr fun n _ _ => by rw [makeC_has, gC2]
  have e3 : cardN (hasC (makeC 3 a b)) k = cardN (fun n => hasC a n && !hasC b n) k := card_congr fun n _ _ => by rw [makeC_has, gC3]
  rw [e1, e2, e3]
  exact ⟨by omega, h2⟩
theorem most_two (a b : List Rn) : mostC (makeC 1 a b) = max (mostC a) (mostC b) := by
  obtain ⟨a1, a2, a3, _⟩ := most_ok a
  obtain ⟨b1, b2, b3, _⟩ := most_ok b
  obtain ⟨u1, u2, u3, _⟩ := most_ok (makeC 1 a b)
  have h1 : mostC a ≤ mostC (makeC 1 a b) := by
    by_cases h : 0 < mostC a
    · exact u1 _ (by rw [makeC_has, gC1, a2 h]; rfl)
    · omega
  have h2 : mostC b ≤ mostC (makeC 1 a b) := by
    by_cases h : 0 < mostC b
    · exact u1 _ (by rw [makeC_has, gC1, b2 h, Bool.or_true])
    · omega
  by_cases h : 0 < mostC (makeC 1 a b)
  · have h3 := u2 h
    rw [makeC_has, gC1, Bool.or_eq_true] at h3
    rcases h3 with h3 | h3
    · have := a1 _ h3; omega
    · have := b1 _ h3; omega
  · omega
end Go.Proofs.YtaodifpnfejbbaaGreat

/-
  Layer 13 (counts), the document's words: runs as values; is one right, has a list a count, are two lists the same; a number put among rising ones.
-/
namespace Go.Proofs.YtaodifpnfejbbaaGreat
open Go.RowKit

def rnCells (r : Rn) : List Value := [.int .i64 r.fr, .int .i64 r.to]
noncomputable def kRn : Kind Tryz.prog Rn where
  ty := 59
  el := 58
  size := 2
  bytes := 16
  zero := .agg #[.int .i64 0, .int .i64 0]
  cells := rnCells
  len := fun _ => rfl
  one := fun r u hu => by simp [rnCells] at hu; rcases hu with rfl | rfl <;> rfl
  pos := by decide
  under := Tryz.underlying59
  info := by kernel_rfl
  zsize := rfl
noncomputable def kIt : Kind Tryz.prog Int where
  ty := 139
  el := 3
  size := 1
  bytes := 8
  zero := .int .i64 0
  cells := fun x => [.int .i64 x]
  len := fun _ => rfl
  one := fun r u hu => by simp at hu; subst hu; rfl
  pos := by decide
  under := Tryz.underlying139
  info := by kernel_rfl
  zsize := rfl
theorem rns_at {w : World} {B : Nat} {A : Option Addr} {c : Nat} {l : List Rn} (h : kRn.Rd w B A c l) (hp : 0 < l.length) :
    ∃ b o, A = some ⟨b, o, none⟩ ∧ b < B ∧ ∀ k v, l[k]? = some v → w.cell? ⟨b, o + k * 2, none⟩ = some (.int .i64 v.fr) ∧ w.cell? ⟨b, o + k * 2 + 1, none⟩ = some (.int .i64 v.to) := by
  obtain ⟨b, o, h1, h2, h3⟩ := h.at_ hp
  exact ⟨b, o, h1, h2, fun k n hn => ⟨h3 k n hn 0 _ rfl, h3 k n hn 1 _ rfl⟩⟩
theorem its_at {w : World} {B : Nat} {A : Option Addr} {c : Nat} {l : List Int} (h : kIt.Rd w B A c l) (hp : 0 < l.length) :
    ∃ b o, A = some ⟨b, o, none⟩ ∧ b < B ∧ ∀ k x, l[k]? = some x → w.cell? ⟨b, o + k, none⟩ = some (.int .i64 x) := by
  obtain ⟨b, o, h1, h2, h3⟩ := h.at_ hp
  exact ⟨b, o, h1, h2, fun k x hx => by have := h3 k x hx 0 _ rfl; rwa [show kIt.size = 1 from rfl, Nat.mul_one, Nat.add_zero] at this⟩
theorem int_sizeOf (w : World) : (sizeOf 3).run Tryz.prog w = .ok 1 w := by kernel_rfl
theorem cnt_get {α : Type} {l : List α} {k : Nat} (h : k < l.length) : ∃ x, l[k]? = some x ∧ l.drop k = x :: l.drop (k + 1) ∧ x ∈ l := ⟨l[k], List.getElem?_eq_getElem h, List.drop_eq_getElem_cons h, List.getElem_mem h⟩
theorem rd_maxC {P : Program} {α : Type} {k : Kind P α} {w : World} {B : Nat} {A : Option Addr} {c n : Nat} {l : List α} (h : k.Rd w B A c l) (hn : n = l.length) : n ≤ 9223372036854775807 := by
  have h1 := h.room; have h2 := h.cap; unfold maxLen at h2; omega
theorem eq_rn (i j k m : Int) (q : Bool) (hq : (i == k && j == m) = q) (w : World) :
    (Op.equalIn 10000 58 (.agg #[.int .i64 i, .int .i64 j]) (.agg #[.int .i64 k, .int .i64 m])).run Tryz.prog w = .ok q w := by
  subst hq
  have u2 := Tryz.underlying3
  have a2 := Tryz.isAgg3
  have z2 := Tryz.sizeOf3
  have hS : Tryz.prog.underlying 58 = some (.struct (Tryz.prog.fieldsOf 58)) := by kernel_rfl
  have hp : Tryz.prog.stoodInHeld 58 = false := by kernel_rfl
  rw [show (10000 : Nat) = 9999 + 1 from rfl, run_equalIn_agg w 9999 58 _ _ hS hp]
  simp only [Program.fieldsOf, Tryz.underlying58]
  go_simp
  by_cases h1 : i = k <;> by_cases h2 : j = m <;> simp [h1, h2]
theorem ref_one (r : Rn) (x y : Int) (hx : r.fr = x) (hy : r.to = y) (z : Bool) (hz : oneC r = z) (w : World) :
    Calls Tryz.prog 113 #[.agg #[.int .i64 x, .int .i64 y]] w fun e w' => e = .returned (.bool z) ∧ Below w.heap.size w w' := by
  unfold oneC at hz
  rw [hx, hy] at hz
  have HB := Lib.hid (below_new w (.cells #[.int .i64 x, .int .i64 y] 58))
  obtain ⟨b1, h1⟩ : ∃ b, decide (1 ≤ x) = b := ⟨_, rfl⟩
  obtain ⟨b2, h2⟩ : ∃ b, decide (x ≤ y) = b := ⟨_, rfl⟩
  obtain ⟨b3, h3⟩ : ∃ b, decide (y ≤ 1099511627776) = b := ⟨_, rfl⟩
  rw [h1, h2, h3] at hz
  subst hz
  clear hx hy
  cases b1
  case' true =>
    cases b2
    case' true =>
      cases b3
  all_goals
    go_enter Tryz.func113, Tryz.ntmps113
    go_wp2_with fail
    go_ret
    exact ⟨rfl, HB.out⟩
set_option maxHeartbeats 2000000 in
theorem ref_chas (A : Option Addr) (c n : Nat) (l : List Rn) (x : Int) (hn : n = l.length) (v : Bool) (hv : hasC l x = v) (w : World) (hr : kRn.Rd w w.heap.size A c l) :
    Calls Tryz.prog 84 #[.slice A n c, .int .i64 x] w fun e w' => e = .returned (.bool v) ∧ Below w.heap.size w w' := by
  have HN := Lib.hid hn
  have HR := Lib.hid hr
  have HV := Lib.hid hv
  have hmx := rd_maxC hr hn
  have hcx : n ≤ c := by rw [hn]; exact hr.room
  clear hn hr hv
  go_enter Tryz.func84, Tryz.ntmps84
  go_wp2_with fail
  go_loopw [5] (fun i wr => ∃ k : Nat, k ≤ n ∧ Hid (hasC l x = hasC (l.drop k) x) ∧ i = .int .i64 k ∧ Below w.heap.size w wr) (fun i _ => n - (intOf i).toNat)
  case atStart => exact ⟨0, by omega, rfl, rfl, Below.refl _ _⟩
  case round =>
    obtain ⟨k, hk, HL, rfl, hb⟩ := hrel
    by_cases hlt : k < n
    · obtain ⟨r, hg, hd, -⟩ := cnt_get (l := l) (k := k) (by have := HN.out; omega)
      obtain ⟨b, o, rfl, hb1, hcell⟩ := rns_at (HR.out.below hb) (by have := HN.out; omega)
      obtain ⟨c0, c1⟩ := hcell k r hg
      have hb2 := Nat.lt_of_lt_of_le hb1 hb.size
      obtain ⟨z, hz⟩ : ∃ z, oneC r = z := ⟨_, rfl⟩
      have C := fun w => Lib.hid (ref_one r _ _ rfl rfl z hz w)
      have HL2 := Lib.hid (HL.out.trans (show hasC (l.drop k) x = ((z && (decide (r.fr ≤ x) && decide (x ≤ r.to))) || hasC (l.drop (k + 1)) x) by rw [hd, hasC_cons, inC, hz]))
      obtain ⟨X, hX⟩ : ∃ X, r.fr = X := ⟨_, rfl⟩
      obtain ⟨Y, hY⟩ : ∃ Y, r.to = Y := ⟨_, rfl⟩
      rw [hX, hY] at C HL2
      rw [hX] at c0
      rw [hY] at c1
      obtain ⟨b1, h1⟩ : ∃ b, decide (X ≤ x) = b := ⟨_, rfl⟩
      obtain ⟨b2, h2⟩ : ∃ b, decide (x ≤ Y) = b := ⟨_, rfl⟩
      rw [h1, h2] at HL2
      clear hcell hg hd hX hY hz HL
      cases z
      · go_wp2_with ((with_reducible refine (C _).out.mono ?_); rintro e w2 ⟨rfl, hq⟩; have HB2 := Lib.hid (hb.trans (hq.mono hb.size)); obtain ⟨hc, hf⟩ := bcell hq; clear hq)
        go_roundw
        case rel => exact ⟨k + 1, by omega, HL2, by go_num, HB2.out⟩
        case measure => simp [intOf]; omega
      · cases b1
        · go_wp2_with ((with_reducible refine (C _).out.mono ?_); rintro e w2 ⟨rfl, hq⟩; have HB2 := Lib.hid (hb.trans (hq.mono hb.size)); obtain ⟨hc, hf⟩ := bcell hq; clear hq)
          go_roundw
          case rel => exact ⟨k + 1, by omega, HL2, by go_num, HB2.out⟩
          case measure => simp [intOf]; omega
        · cases b2
          · go_wp2_with ((with_reducible refine (C _).out.mono ?_); rintro e w2 ⟨rfl, hq⟩; have HB2 := Lib.hid (hb.trans (hq.mono hb.size)); obtain ⟨hc, hf⟩ := bcell hq; clear hq)
            go_roundw
            case rel => exact ⟨k + 1, by omega, HL2, by go_num, HB2.out⟩
            case measure => simp [intOf]; omega
          · go_wp2_with ((with_reducible refine (C _).out.mono ?_); rintro e w2 ⟨rfl, hq⟩; have HB2 := Lib.hid (hb.trans (hq.mono hb.size)); obtain ⟨hc, hf⟩ := bcell hq; clear hq)
            go_ret
            exact ⟨ret_bool (HL2.out.symm.trans HV.out), HB2.out⟩
    · have HL2 := Lib.hid (HL.out.trans (show hasC (l.drop k) x = false by rw [List.drop_eq_nil_of_le (by have := HN.out; omega)]; rfl))
      go_wp2_with fail
      go_ret
      exact ⟨ret_bool (HL2.out.symm.trans HV.out), hb⟩
/-- Are two lists the same, run by run? -/
def sameC : List Rn → List Rn → Bool
  | [], [] => true
  | r :: a, t :: b => (r.fr == t.fr && r.to == t.to) && sameC a b
  | _, _ => false
theorem sameC_refl : ∀ a : List Rn, sameC a a = true
  | [] => rfl
  | r :: a => by unfold sameC; rw [sameC_refl a, beq_self_eq_true, beq_self_eq_true]; rfl
set_option maxHeartbeats 1000000 in
theorem ref_csame (A B : Option Addr) (c d n : Nat) (a : List Rn) (hn : n = a.length) (w : World) (ha : kRn.Rd w w.heap.size A c a) (hb : kRn.Rd w w.heap.size B d a) :
    Calls Tryz.prog 48 #[.slice A n c, .slice B n d] w fun e w' => e = .returned (.bool true) ∧ Below w.heap.size w w' := by
  have HN := Lib.hid hn
  have HA := Lib.hid ha
  have HB := Lib.hid hb
  have hmx := rd_maxC ha hn
  have hcx : n ≤ c := by rw [hn]; exact ha.room
  have hcy : n ≤ d := by rw [hn]; exact hb.room
  clear hn ha hb
  go_enter Tryz.func48, Tryz.ntmps48
  go_wp2_with fail
  go_loopw [5] (fun i wr => ∃ k q : Nat, k ≤ n ∧ i = .int .i64 k ∧ wr = w.drewN q) (fun i _ => n - (intOf i).toNat)
  case atStart => exact ⟨0, 0, by omega, rfl, rfl⟩
  case round =>
    obtain ⟨k, q, hk, rfl, rfl⟩ := hrel
    by_cases hlt : k < n
    · obtain ⟨r, hg, -, -⟩ := cnt_get (l := a) (k := k) (by have := HN.out; omega)
      obtain ⟨b1, o1, rfl, hb1, hcell1⟩ := rns_at HA.out (by have := HN.out; omega)
      obtain ⟨b2, o2, rfl, hb2, hcell2⟩ := rns_at HB.out (by have := HN.out; omega)
      obtain ⟨a0, a1⟩ := hcell1 k r hg
      obtain ⟨c0, c1⟩ := hcell2 k r hg
      have EQ := fun w => eq_rn r.fr r.to r.fr r.to true (by simp) w
      have hk0 : (0 : Int) ≤ (k : Int) := by omega
      have hkn : (k : Int) < (n : Int) := by omega
      obtain ⟨X, hX⟩ : ∃ X, r.fr = X := ⟨_, rfl⟩
      obtain ⟨Y, hY⟩ : ∃ Y, r.to = Y := ⟨_, rfl⟩
      rw [hX, hY] at EQ
      rw [hX] at a0 c0
      rw [hY] at a1 c1
      clear hcell1 hcell2 hg hX hY
      go_wp2_with fail
      go_quiet (fail)
      go_wp2_with fail
      go_roundw
      case rel => exact ⟨k + 1, _, by omega, by go_num, rfl⟩
      case measure => simp [intOf]; omega
    · go_wp2_with fail
      go_ret
      exact ⟨rfl, below_drewN (Below.refl _ _) _⟩
theorem its_take (l : List Int) (k : Nat) : kIt.row (l.take k) = (kIt.row l).take k := by
  have := kIt.row_take l k
  rwa [show k * kIt.size = k by show k * 1 = k; omega] at this
theorem its_drop (l : List Int) (k : Nat) : kIt.row (l.drop k) = (kIt.row l).drop k := by
  have := kIt.row_drop l k
  rwa [show k * kIt.size = k by show k * 1 = k; omega] at this
theorem its_len (l : List Int) : (kIt.row l).length = l.length := by
  have := kIt.row_len l
  rwa [show l.length * kIt.size = l.length by show l.length * 1 = l.length; omega] at this
theorem cle_alloc {n : Nat} {w : World} (h : n ≤ w.heap.size) (o : Obj) : n ≤ (w.alloc o).heap.size := by simp; omega
theorem cret_slice {A : Option Addr} {n m c : Nat} (h : n = m) : Ending.returned (.slice A n c) = .returned (.slice A m c) := by rw [h]
def RetI (w : World) (N : Nat) (l : List Int) (e : Ending) (w' : World) : Prop := ∃ A c, e = .returned (.slice A N c) ∧ kIt.Rd w' w'.heap.size A c l ∧ Below w.heap.size w w'
set_option maxHeartbeats 2000000 in
theorem ref_cput (A : Option Addr) (c n : Nat) (l : List Int) (s : Int) (hn : n = l.length) (hnl : n ≤ 900000) (m : List Int) (hm : putI l s = m) (N : Nat) (hN : m.length = N) (w : World) (hr : kIt.Rd w w.heap.size A c l) :
    Calls Tryz.prog 145 #[.slice A n c, .int .i64 s] w (RetI w N m) := by
  have HN := Lib.hid hn
  have HR := Lib.hid hr
  have HM := Lib.hid hm
  have HNN := Lib.hid hN
  have hcx : n ≤ c := by rw [hn]; exact hr.room
  clear hn hr hm hN
  go_enter Tryz.func145, Tryz.ntmps145
  go_wp2_with fail
  go_loop [5] (fun i => ∃ k : Nat, k ≤ n ∧ Hid (putI l s = l.take k ++ putI (l.drop k) s) ∧ i = .int .i64 k) (fun i => n - (intOf i).toNat)
  case atStart => exact ⟨0, by omega, rfl, rfl⟩
  case round =>
    obtain ⟨k, hk, HL, rfl⟩ := hrel
    have HTK := Lib.hid (show k = (l.take k).length by rw [List.length_take]; have := HN.out; omega)
    have HL1 := Lib.hid (show ([] : List Int).length + (l.take k).length ≤ 1000000 by rw [List.length_take, List.length_nil]; omega)
    have HL2 := Lib.hid (show (l.take k).length + [s].length ≤ 1000000 by rw [List.length_take, List.length_singleton]; omega)
    have HDK := Lib.hid (show n - k = (l.drop k).length by rw [List.length_drop, ← HN.out])
    have HL3 := Lib.hid (show (l.take k ++ [s]).length + (l.drop k).length ≤ 1000000 by rw [List.length_append, List.length_take, List.length_drop, List.length_singleton]; have := HN.out; omega)
    have HRT : Hid (RowAt w w.heap.size A (kIt.row (l.take k))) := by rw [its_take]; exact HR.out.row.take k
    have HRD : Hid (RowAt w w.heap.size (cutA A k c) (kIt.row (l.drop k))) := by rw [its_drop]; exact HR.out.row.cut (by rw [its_len]; have := HN.out; omega) (by rw [its_len]; exact HR.out.room)
    have K1 := fun w : World => run_take (T := 139) (E := 3) Tryz.underlying139 int_sizeOf w A n c k (by omega)
    have K2 := fun w : World => run_cut (T := 139) (E := 3) Tryz.underlying139 int_sizeOf w A n c k (by omega)
    obtain ⟨A3, hA3⟩ : ∃ A3, cutA A k c = A3 := ⟨_, rfl⟩
    obtain ⟨c3, hc3⟩ : ∃ c3, c - k = c3 := ⟨_, rfl⟩
    obtain ⟨n3, hn3⟩ : ∃ n3, n - k = n3 := ⟨_, rfl⟩
    rw [hA3, hc3, hn3] at K2
    rw [hA3] at HRD
    rw [hn3] at HDK
    clear hA3 hc3 hn3
    by_cases hlt : k < n
    · obtain ⟨x, hg, hd, -⟩ := cnt_get (l := l) (k := k) (by have := HN.out; omega)
      obtain ⟨b, o, rfl, hb1, hcell⟩ := its_at HR.out (by have := HN.out; omega)
      have c0 := hcell k x hg
      have hkd : decide ((k : Int) < (n : Int)) = true := decide_eq_true (by omega)
      rcases Int.lt_trichotomy x s with h3 | h3 | h3
      · have HX := Lib.hid (HL.out.trans (show l.take k ++ putI (l.drop k) s = l.take (k + 1) ++ putI (l.drop (k + 1)) s by
          rw [hd, putI_less h3, List.take_add_one, hg]; simp))
        have hxd : decide (x < s) = true := decide_eq_true h3
        clear hcell hg hd HL HTK HL1 HL2 HL3 HDK HRT HRD K1 K2
        go_wp2_with fail
        go_round
        case rel => exact ⟨k + 1, by omega, HX, by go_num⟩
        case measure => simp [intOf]; omega
      · have HX := Lib.hid (show m = l by rw [← HM.out, HL.out, hd, putI_same h3, ← hd, List.take_append_drop])
        have hxd : decide (x < s) = false := decide_eq_false (by omega)
        have hxe : (x == s) = true := by rw [h3]; simp
        clear hcell hg hd HL HTK HL1 HL2 HL3 HDK HRT HRD K1 K2
        go_wp2_with fail
        go_ret
        exact ⟨_, c, cret_slice (by rw [← HNN.out, HX.out, HN.out]), by rw [HX.out]; exact HR.out, Below.refl _ _⟩
      · have HX := Lib.hid (show m = (l.take k ++ [s]) ++ l.drop k by rw [← HM.out, HL.out, hd, putI_more h3, List.append_assoc]; rfl)
        have hxd : decide (x < s) = false := decide_eq_false (by omega)
        have hxe : (x == s) = false := beq_eq_false_iff_ne.2 (by omega)
        clear hcell hg hd HL
        go_wp2_with (first
          | (at_builtin; refine wpList_app_k kIt rfl (.tmp 34) (.tmp 37) rfl w.heap.size (.slice none 0 0) [] rfl (Kind.Own.nil _ _) w.heap.size (some ⟨b, o, none⟩) c k (l.take k) HTK.out rfl HRT.out HL1.out (by decide) (Nat.le_refl _) ?_; intro v3 w3 hown3 hg3 hb3 _; replace hown3 := Lib.hid hown3; have hz3 := Lib.hid hb3.size)
          | (at_builtin; refine wpList_app_k kIt rfl (.tmp 39) (.tmp 41) rfl w.heap.size v3 (l.take k) rfl (Kind.Own.alloc hown3.out _) _ (some ⟨w3.heap.size, 0, none⟩) 1 1 [s] rfl rfl (Kind.rd_new (k := kIt) rfl rfl (by simp)).row HL2.out (by decide) (cle_alloc hz3.out _) ?_; intro v4 w4 hown4 hg4 hb4 _; replace hb4 := (hb3.alloc hb3.size _).trans hb4; have hz4 := Lib.hid hb4.size; replace hown4 := Lib.hid hown4; clear hb3)
          | (at_builtin; refine wpList_app_k kIt rfl (.tmp 43) (.tmp 46) rfl w.heap.size v4 (l.take k ++ [s]) rfl hown4.out _ A3 c3 n3 (l.drop k) HDK.out rfl (RowAt.below HRD.out hb4) HL3.out (by decide) hz4.out ?_; intro v5 w5 hown5 hg5 hb5 _; replace hb5 := hb4.trans hb5; have HO5 := Lib.hid hown5; clear hown5))
        go_ret
        obtain ⟨A5, c5, rfl, hrd⟩ := HO5.out.form
        exact ⟨A5, c5, cret_slice (by rw [← HX.out]; exact HNN.out), by rw [HX.out]; exact hrd, hb5⟩
    · have HX := Lib.hid (show m = (l.take k ++ [s]) ++ l.drop k by
        rw [← HM.out, HL.out, List.drop_eq_nil_of_le (by have := HN.out; omega), List.append_nil]; rfl)
      have hkd : decide ((k : Int) < (n : Int)) = false := decide_eq_false (by omega)
      clear HL
      go_wp2_with (first
        | (at_builtin; refine wpList_app_k kIt rfl (.tmp 34) (.tmp 37) rfl w.heap.size (.slice none 0 0) [] rfl (Kind.Own.nil _ _) w.heap.size A c k (l.take k) HTK.out rfl HRT.out HL1.out (by decide) (Nat.le_refl _) ?_; intro v3 w3 hown3 hg3 hb3 _; replace hown3 := Lib.hid hown3; have hz3 := Lib.hid hb3.size)
        | (at_builtin; refine wpList_app_k kIt rfl (.tmp 39) (.tmp 41) rfl w.heap.size v3 (l.take k) rfl (Kind.Own.alloc hown3.out _) _ (some ⟨w3.heap.size, 0, none⟩) 1 1 [s] rfl rfl (Kind.rd_new (k := kIt) rfl rfl (by simp)).row HL2.out (by decide) (cle_alloc hz3.out _) ?_; intro v4 w4 hown4 hg4 hb4 _; replace hb4 := (hb3.alloc hb3.size _).trans hb4; have hz4 := Lib.hid hb4.size; replace hown4 := Lib.hid hown4; clear hb3)
        | (at_builtin; refine wpList_app_k kIt rfl (.tmp 43) (.tmp 46) rfl w.heap.size v4 (l.take k ++ [s]) rfl hown4.out _ A3 c3 n3 (l.drop k) HDK.out rfl (RowAt.below HRD.out hb4) HL3.out (by decide) hz4.out ?_; intro v5 w5 hown5 hg5 hb5 _; replace hb5 := hb4.trans hb5; have HO5 := Lib.hid hown5; clear hown5))
      go_ret
      obtain ⟨A5, c5, rfl, hrd⟩ := HO5.out.form
      exact ⟨A5, c5, cret_slice (by rw [← HX.out]; exact HNN.out), by rw [HX.out]; exact hrd, hb5⟩
end Go.Proofs.YtaodifpnfejbbaaGreat

/-
  Runs that came in as a slice; numbers that came in as a slice (of a Kind).
-/
namespace Go.Proofs.YtaodifpnfejbbaaGreat
open Go.ChangeShapes Go.WideShapes Go.ChangeAt Go.RowKit Go.Joins

theorem rcells_int : Tryz.prog.cellsOf 3 = 1 := by kernel_rfl
set_option maxRecDepth 100000 in
theorem rn_of {H : Type} {enc : TypeId × Value → H} {W : World} (n : Nat) (cs : List Value) (y : DataW H × List MemPlace) (hl : cs.length = 2)
    (hy : DataW.trod enc Tryz.prog W 0 (fun _ => true) true n 58 cs = some y) : ∃ x : Rn, cs = rnCells x ∧ True := by
  obtain ⟨xs, n', _, rfl, -, hlen, hf⟩ := DataW.trod_struct Tryz.underlying58 hy
  match xs, hlen with
  | [y0, y1], _ =>
    have h0 := hf 0 _ rfl
    have h1 := hf 1 _ rfl
    match cs, hl with
    | [a, b], _ =>
      have h0 : DataW.trod enc Tryz.prog W 0 (fun _ => true) true n' 3 (([a, b].drop 0).take (Tryz.prog.cellsOf 3)) = some y0 := by simpa using h0
      have h1 : DataW.trod enc Tryz.prog W 0 (fun _ => true) true n' 3 (([a, b].drop 1).take (Tryz.prog.cellsOf 3)) = some y1 := by simpa using h1
      rw [rcells_int] at h0 h1
      obtain ⟨i, e0, -, w0⟩ := DataW.trod_int Tryz.underlying3 h0
      obtain ⟨j, e1, -, w1⟩ := DataW.trod_int Tryz.underlying3 h1
      simp at e0 e1
      subst e0 e1
      exact ⟨⟨i, j⟩, rfl, trivial⟩
set_option maxRecDepth 100000 in
theorem in_rns {H : Type} {enc : TypeId × Value → H} {W : World} {base : Nat} {v : Value} {d : DataW H} {p : List MemPlace}
    (hok : Value.okWide Tryz.prog W .any base 59 v) (h : DataW.Trod enc Tryz.prog W 0 (fun _ => true) true 59 v d p) :
    ∃ (A : Option Addr) (c : Nat) (l : List Rn), v = .slice A l.length c ∧ kRn.Rd W W.heap.size A c l := by
  obtain ⟨A, c, l, rfl, h1, -, h2, h3⟩ := in_slice rnCells (fun _ => True) Tryz.underlying59 (k := 2) (by kernel_rfl) (by omega) rn_of hok h
  exact ⟨A, c, l, rfl, h1, h2, h3⟩
theorem it_of {H : Type} {enc : TypeId × Value → H} {W : World} (n : Nat) (cs : List Value) (y : DataW H × List MemPlace) (_ : cs.length = 1)
    (hy : DataW.trod enc Tryz.prog W 0 (fun _ => true) true n 3 cs = some y) : ∃ x : Int, cs = [.int .i64 x] ∧ True := by
  obtain ⟨i, e0, -, w0⟩ := DataW.trod_int Tryz.underlying3 hy
  exact ⟨i, e0, trivial⟩
set_option maxRecDepth 100000 in
theorem in_its {H : Type} {enc : TypeId × Value → H} {W : World} {base : Nat} {v : Value} {d : DataW H} {p : List MemPlace}
    (hok : Value.okWide Tryz.prog W .any base 139 v) (h : DataW.Trod enc Tryz.prog W 0 (fun _ => true) true 139 v d p) :
    ∃ (A : Option Addr) (c : Nat) (l : List Int), v = .slice A l.length c ∧ kIt.Rd W W.heap.size A c l := by
  obtain ⟨A, c, l, rfl, h1, -, h2, h3⟩ := in_slice (fun x : Int => [Value.int .i64 x]) (fun _ => True) Tryz.underlying139 (k := 1) (by kernel_rfl) (by omega) it_of hok h
  exact ⟨A, c, l, rfl, h1, h2, h3⟩
end Go.Proofs.YtaodifpnfejbbaaGreat

/-
  Layer 13 (counts), the document's words: is a list right; all edges of two lists.
-/
namespace Go.Proofs.YtaodifpnfejbbaaGreat
open Go.RowKit

/-- Right runs behind one, each at least two above the end of the one ahead. -/
def contC : Rn → List Rn → Bool
  | _, [] => true
  | p, r :: l => oneC r && (decide (p.to + 2 ≤ r.fr) && contC r l)
theorem contC_cons (p r : Rn) (l : List Rn) : contC p (r :: l) = (oneC r && (decide (p.to + 2 ≤ r.fr) && contC r l)) := rfl
theorem rightC_cont : ∀ (r : Rn) (l : List Rn), rightC (r :: l) = (oneC r && contC r l)
  | r, [] => by show oneC r = _; rw [contC, Bool.and_true]
  | r, t :: l => by
    have h := rightC_cont t l
    rw [show rightC (r :: t :: l) = (oneC r && decide (r.to + 2 ≤ t.fr) && rightC (t :: l)) from rfl, h, contC_cons]
    cases oneC r <;> cases oneC t <;> cases decide (r.to + 2 ≤ t.fr) <;> rfl
set_option maxHeartbeats 4000000 in
theorem ref_cright (A : Option Addr) (c n : Nat) (l : List Rn) (hn : n = l.length) (v : Bool) (hv : rightC l = v) (w : World) (hr : kRn.Rd w w.heap.size A c l) :
    Calls Tryz.prog 77 #[.slice A n c] w fun e w' => e = .returned (.bool v) ∧ Below w.heap.size w w' := by
  have HN := Lib.hid hn
  have HR := Lib.hid hr
  have HV := Lib.hid hv
  have hmx := rd_maxC hr hn
  have hcx : n ≤ c := by rw [hn]; exact hr.room
  clear hn hr hv
  go_enter Tryz.func77, Tryz.ntmps77
  go_wp2_with fail
  go_loopw [3] (fun i wr => ∃ k : Nat, k ≤ n ∧ i = .int .i64 k ∧ Hid (k = 0 ∨ ∃ j p, k = j + 1 ∧ l[j]? = some p ∧ oneC p = true ∧ rightC l = contC p (l.drop k)) ∧ Below w.heap.size w wr) (fun i _ => n - (intOf i).toNat)
  case atStart => exact ⟨0, by omega, rfl, .inl rfl, Below.refl _ _⟩
  case round =>
    obtain ⟨k, hk, rfl, HL, hb⟩ := hrel
    by_cases hlt : k < n
    · obtain ⟨r, hg, hd, -⟩ := cnt_get (l := l) (k := k) (by have := HN.out; omega)
      obtain ⟨b, o, rfl, hb1, hcell⟩ := rns_at (HR.out.below hb) (by have := HN.out; omega)
      obtain ⟨c0, c1⟩ := hcell k r hg
      obtain ⟨z, hz⟩ : ∃ z, oneC r = z := ⟨_, rfl⟩
      have C := fun w => ref_one r _ _ rfl rfl z hz w
      have C := Lib.hid (fun L => cellL_of (a := wr) (l := L) C)
      obtain ⟨X, hX⟩ : ∃ X, r.fr = X := ⟨_, rfl⟩
      obtain ⟨Y, hY⟩ : ∃ Y, r.to = Y := ⟨_, rfl⟩
      rw [hX, hY] at C
      rw [hX] at c0
      rw [hY] at c1
      have hk0 : (0 : Int) ≤ (k : Int) := by omega
      have hkn : (k : Int) < (n : Int) := by omega
      rcases HL.out with h0 | ⟨j, p, hkj, hgj, hop, hcj⟩
      · have e0 : l = r :: l.drop (k + 1) := by rw [← hd, h0]; rfl
        have hg0 : decide ((0 : Int) < (k : Int)) = false := decide_eq_false (by omega)
        have hg1 : decide (0 < k) = false := decide_eq_false (by omega)
        have HC := Lib.hid (show CellL wr [(⟨b, o + k * 2, none⟩, .int .i64 X), (⟨b, o + k * 2 + 1, none⟩, .int .i64 Y)] wr from ⟨c0, c1, Below.refl _ _⟩)
        have HF := Lib.hid (fun h : z = false => show false = v by rw [← HV.out, e0, rightC_cont, hz, h]; rfl)
        have HT := Lib.hid (fun h : z = true => show k + 1 = 0 ∨ ∃ j p, k + 1 = j + 1 ∧ l[j]? = some p ∧ oneC p = true ∧ rightC l = contC p (l.drop (k + 1)) from .inr ⟨k, r, rfl, hg, hz.trans h, by
          conv => lhs; rw [e0]
          rw [rightC_cont, hz, h, Bool.true_and]⟩)
        clear hcell hg hd hX hY hz HL c0 c1 h0 e0
        cases z
        · replace HF := Lib.hid (HF.out rfl)
          clear HT
          go_wp2_with fail
          refine q_region (CellL wr [(⟨b, o + k * 2, none⟩, .int .i64 X), (⟨b, o + k * 2 + 1, none⟩, .int .i64 Y)]) (by kernel_rfl) (by kernel_rfl) (cellL_drew HC.out) ?_
          repeat (first
            | go_big_quiet_skip
            | (go_big_quiet_want; (first
              | (refine q_take (v := ?_) ?_ ?_; rotate_left; (focus (intro w hSw; (try simp only [CellL] at hSw); go_split_ands; go_simp; (try (rw [if_neg (by omega)])); (try with_reducible rfl); done)))
              | (refine q_call (C.out _) ?_ ?_; (focus (intro w hSw; (try simp only [CellL] at hSw); go_split_ands; go_simp; (try (rw [if_neg (by omega)])); done)))); (try simp only [Act.put, List.setIfInBounds_toArray, List.set_cons_zero, List.set_cons_succ]); go_big_quiet_on))
          refine wpQuiet_nil ?_
          intro w2 hw2
          have HB2 := Lib.hid (hb.trans ((cellL_size hw2).mono hb.size))
          clear hw2
          go_wp2_with fail
          go_ret
          exact ⟨ret_bool HF.out, HB2.out⟩
        · replace HT := Lib.hid (HT.out rfl)
          clear HF
          go_wp2_with fail
          refine q_region (CellL wr [(⟨b, o + k * 2, none⟩, .int .i64 X), (⟨b, o + k * 2 + 1, none⟩, .int .i64 Y)]) (by kernel_rfl) (by kernel_rfl) (cellL_drew HC.out) ?_
          repeat (first
            | go_big_quiet_skip
            | (go_big_quiet_want; (first
              | (refine q_take (v := ?_) ?_ ?_; rotate_left; (focus (intro w hSw; (try simp only [CellL] at hSw); go_split_ands; go_simp; (try (rw [if_neg (by omega)])); (try with_reducible rfl); done)))
              | (refine q_call (C.out _) ?_ ?_; (focus (intro w hSw; (try simp only [CellL] at hSw); go_split_ands; go_simp; (try (rw [if_neg (by omega)])); done)))); (try simp only [Act.put, List.setIfInBounds_toArray, List.set_cons_zero, List.set_cons_succ]); go_big_quiet_on))
          refine wpQuiet_nil ?_
          intro w2 hw2
          have HB2 := Lib.hid (hb.trans ((cellL_size hw2).mono hb.size))
          clear hw2
          go_wp2_with fail
          go_roundw
          case rel => exact ⟨k + 1, by omega, by go_num, HT, HB2.out⟩
          case measure => simp [intOf]; omega
      · obtain ⟨d0, d1⟩ := hcell j p hgj
        obtain ⟨P, hP⟩ : ∃ P, p.to = P := ⟨_, rfl⟩
        rw [hP] at d1
        have hp9 := (oneC_iff.1 hop).2.2
        have hp1 := (oneC_iff.1 hop)
        rw [hP] at hp9
        have hP1 : 1 ≤ P := by rw [← hP]; omega
        have hg0 : decide ((0 : Int) < (k : Int)) = true := decide_eq_true (by omega)
        have hg1 : decide (0 < k) = true := decide_eq_true (by omega)
        have hj0 : (0 : Int) ≤ (j : Int) := by omega
        have hjn : (j : Int) < (n : Int) := by omega
        have hjd : decide ((j : Int) < 0) = false := decide_eq_false (by omega)
        have hjw : IntKind.i64.wrap ((k : Int) - 1) = (j : Int) := by rw [show (k : Int) - 1 = (j : Int) by omega]; exact IntWalk.i64_in _ (by omega)
        have hpw : IntKind.i64.wrap (P + 2) = P + 2 := IntWalk.i64_in _ (by omega)
        obtain ⟨g, hg2⟩ : ∃ g, decide (X < P + 2) = g := ⟨_, rfl⟩
        have hgg : decide (p.to + 2 ≤ r.fr) = !g := by
          rw [hP, hX, ← hg2]
          by_cases h : X < P + 2
          · rw [decide_eq_true h, decide_eq_false (by omega)]; rfl
          · rw [decide_eq_false h, decide_eq_true (by omega)]; rfl
        have HC := Lib.hid (show CellL wr [(⟨b, o + k * 2, none⟩, .int .i64 X), (⟨b, o + k * 2 + 1, none⟩, .int .i64 Y), (⟨b, o + j * 2 + 1, none⟩, .int .i64 P)] wr from ⟨c0, c1, d1, Below.refl _ _⟩)
        have HE := Lib.hid (show rightC l = (z && (!g && contC r (l.drop (k + 1)))) by rw [hcj, hd, contC_cons, hz, hgg])
        have HG := Lib.hid hg
        have HZ := Lib.hid hz
        clear hcell hg hd hX hY hz HL c0 c1 d0 d1 hkj hgj hop hcj hgg hP hp1
        cases z
        · have HF := Lib.hid (show false = v by rw [← HV.out, HE.out]; rfl)
          go_wp2_with fail
          refine q_region (CellL wr [(⟨b, o + k * 2, none⟩, .int .i64 X), (⟨b, o + k * 2 + 1, none⟩, .int .i64 Y), (⟨b, o + j * 2 + 1, none⟩, .int .i64 P)]) (by kernel_rfl) (by kernel_rfl) (cellL_drew HC.out) ?_
          repeat (first
            | go_big_quiet_skip
            | (go_big_quiet_want; (first
              | (refine q_take (v := ?_) ?_ ?_; rotate_left; (focus (intro w hSw; (try simp only [CellL] at hSw); go_split_ands; go_simp; (try (rw [if_neg (by omega)])); (try with_reducible rfl); done)))
              | (refine q_call (C.out _) ?_ ?_; (focus (intro w hSw; (try simp only [CellL] at hSw); go_split_ands; go_simp; (try (rw [if_neg (by omega)])); done)))); (try simp only [Act.put, List.setIfInBounds_toArray, List.set_cons_zero, List.set_cons_succ]); go_big_quiet_on))
          refine wpQuiet_nil ?_
          intro w2 hw2
          have HB2 := Lib.hid (hb.trans ((cellL_size hw2).mono hb.size))
          clear hw2
          go_wp2_with fail
          go_ret
          exact ⟨ret_bool HF.out, HB2.out⟩
        · cases g
          · have HT := Lib.hid (show k + 1 = 0 ∨ ∃ j p, k + 1 = j + 1 ∧ l[j]? = some p ∧ oneC p = true ∧ rightC l = contC p (l.drop (k + 1)) from .inr ⟨k, r, rfl, HG.out, HZ.out, by rw [HE.out]; rfl⟩)
            go_wp2_with fail
            refine q_region (CellL wr [(⟨b, o + k * 2, none⟩, .int .i64 X), (⟨b, o + k * 2 + 1, none⟩, .int .i64 Y), (⟨b, o + j * 2 + 1, none⟩, .int .i64 P)]) (by kernel_rfl) (by kernel_rfl) (cellL_drew HC.out) ?_
            repeat (first
              | go_big_quiet_skip
              | (go_big_quiet_want; (first
                | (refine q_take (v := ?_) ?_ ?_; rotate_left; (focus (intro w hSw; (try simp only [CellL] at hSw); go_split_ands; go_simp; (try (rw [if_neg (by omega)])); (try with_reducible rfl); done)))
                | (refine q_call (C.out _) ?_ ?_; (focus (intro w hSw; (try simp only [CellL] at hSw); go_split_ands; go_simp; (try (rw [if_neg (by omega)])); done)))); (try simp only [Act.put, List.setIfInBounds_toArray, List.set_cons_zero, List.set_cons_succ]); go_big_quiet_on))
            refine wpQuiet_nil ?_
            intro w2 hw2
            have HB2 := Lib.hid (hb.trans ((cellL_size hw2).mono hb.size))
            clear hw2
            go_wp2_with fail
            go_roundw
            case rel => exact ⟨k + 1, by omega, by go_num, HT, HB2.out⟩
            case measure => simp [intOf]; omega
          · have HF := Lib.hid (show false = v by rw [← HV.out, HE.out]; rfl)
            go_wp2_with fail
            refine q_region (CellL wr [(⟨b, o + k * 2, none⟩, .int .i64 X), (⟨b, o + k * 2 + 1, none⟩, .int .i64 Y), (⟨b, o + j * 2 + 1, none⟩, .int .i64 P)]) (by kernel_rfl) (by kernel_rfl) (cellL_drew HC.out) ?_
            repeat (first
              | go_big_quiet_skip
              | (go_big_quiet_want; (first
                | (refine q_take (v := ?_) ?_ ?_; rotate_left; (focus (intro w hSw; (try simp only [CellL] at hSw); go_split_ands; go_simp; (try (rw [if_neg (by omega)])); (try with_reducible rfl); done)))
                | (refine q_call (C.out _) ?_ ?_; (focus (intro w hSw; (try simp only [CellL] at hSw); go_split_ands; go_simp; (try (rw [if_neg (by omega)])); done)))); (try simp only [Act.put, List.setIfInBounds_toArray, List.set_cons_zero, List.set_cons_succ]); go_big_quiet_on))
            refine wpQuiet_nil ?_
            intro w2 hw2
            have HB2 := Lib.hid (hb.trans ((cellL_size hw2).mono hb.size))
            clear hw2
            go_wp2_with fail
            go_ret
            exact ⟨ret_bool HF.out, HB2.out⟩
    · have HF := Lib.hid (show true = v by
        rw [← HV.out]
        rcases HL.out with h0 | ⟨j, p, _, _, _, hcj⟩
        · have : l = [] := List.eq_nil_of_length_eq_zero (by have := HN.out; omega)
          rw [this]; rfl
        · rw [hcj, List.drop_eq_nil_of_le (by have := HN.out; omega)]; rfl)
      clear HL
      go_wp2_with fail
      go_ret
      exact ⟨ret_bool HF.out, hb⟩
end Go.Proofs.YtaodifpnfejbbaaGreat

/-
  Layer 13 (counts), the document's words: all edges of two lists.
-/
namespace Go.Proofs.YtaodifpnfejbbaaGreat
open Go.RowKit

set_option maxRecDepth 100000 in
set_option maxHeartbeats 4000000 in
theorem ref_cedges (A B : Option Addr) (c d n m : Nat) (a b : List Rn) (hn : n = a.length) (hm : m = b.length) (hnl : n ≤ 100000) (hml : m ≤ 100000) (N : Nat) (hN : (edgesC a b).length = N) (w : World) (ha : kRn.Rd w w.heap.size A c a) (hb : kRn.Rd w w.heap.size B d b) :
    Calls Tryz.prog 133 #[.slice A n c, .slice B m d] w (RetI w N (edgesC a b)) := by
  have HNA := Lib.hid hn
  have HNB := Lib.hid hm
  have HA := Lib.hid ha
  have HB := Lib.hid hb
  have HNN := Lib.hid hN
  have hcx : n ≤ c := by rw [hn]; exact ha.room
  have hdx : m ≤ d := by rw [hm]; exact hb.room
  have HE0 := Lib.hid (show (a.foldl addC []).length ≤ 200000 by have := edges_lenC a []; simp only [List.length_nil] at this; omega)
  clear hn hm ha hb hN
  go_enter Tryz.func133, Tryz.ntmps133
  go_wp2_with fail
  go_loopw [5, 6] (fun v i wr => ∃ (k ne c0 : Nat) (A0 : Option Addr) (E : List Int), k ≤ n ∧ Hid ((a.take k).foldl addC [] = E) ∧ v = .slice A0 ne c0 ∧ Hid (ne = E.length) ∧ Hid (kIt.Rd wr wr.heap.size A0 c0 E) ∧ i = .int .i64 k ∧ Hid (Below w.heap.size w wr)) (fun _ i _ => n - (intOf i).toNat)
  case atStart => exact ⟨0, 0, 0, none, [], by omega, rfl, rfl, rfl, Kind.Rd.nil _ _, rfl, Below.refl _ _⟩
  case round =>
    obtain ⟨k, ne, c0, A0, E, hk, HE, rfl, HV, HD, rfl, HBW⟩ := hrel
    by_cases hlt : k < n
    · obtain ⟨r, hg, -, -⟩ := cnt_get (l := a) (k := k) (by have := HNA.out; omega)
      obtain ⟨b1, o1, rfl, hb1, hcell⟩ := rns_at (HA.out.below HBW.out) (by have := HNA.out; omega)
      obtain ⟨k0, k1⟩ := hcell k r hg
      have hb2 := Nat.lt_of_lt_of_le hb1 HBW.out.size
      obtain ⟨z, hz⟩ : ∃ z, oneC r = z := ⟨_, rfl⟩
      have C := fun w => Lib.hid (ref_one r _ _ rfl rfl z hz w)
      have HX := Lib.hid (show (a.take (k + 1)).foldl addC [] = addC E r by rw [List.take_add_one, hg, Option.toList_some, List.foldl_append, HE.out]; rfl)
      have HK := Lib.hid (show E.length ≤ 500000 by
        rw [← HE.out]
        have h1 := edges_lenC (a.take k) []
        have h2 : (a.take k).length ≤ k := by rw [List.length_take]; omega
        have h3 := (List.length_nil : ([] : List Int).length = 0)
        omega)
      obtain ⟨X, hX⟩ : ∃ X, r.fr = X := ⟨_, rfl⟩
      obtain ⟨Y, hY⟩ : ∃ Y, r.to = Y := ⟨_, rfl⟩
      rw [hX, hY] at C
      rw [hX] at k0
      rw [hY] at k1
      have HZ1 := Lib.hid (fun h : z = false => show (a.take (k + 1)).foldl addC [] = E from HX.out.trans (addC_no (hz.trans h)))
      have HZ2 := Lib.hid (fun h : z = true => show (a.take (k + 1)).foldl addC [] = putI (putI E X) (Y + 1) from HX.out.trans (by rw [addC_one (hz.trans h), hX, hY]))
      have hY9 : z = true → Y ≤ 1099511627776 ∧ 1 ≤ Y := fun h => by have := oneC_iff.1 (hz.trans h); omega
      cases z
      · replace HZ1 := Lib.hid (HZ1.out rfl)
        clear hcell hg hX hY hz HX HZ2 hY9
        go_wp2_with ((with_reducible refine (C _).out.mono ?_); rintro e w2 ⟨rfl, hq⟩; have HB2 := Lib.hid (HBW.out.trans (hq.mono HBW.out.size)); have HD2 := Lib.hid (HD.out.call hq); clear hq)
        go_roundw
        case rel => exact ⟨k + 1, ne, c0, A0, E, by omega, HZ1, rfl, HV, HD2, by go_num, HB2⟩
        case measure => simp [intOf]; omega
      · replace HZ2 := Lib.hid (HZ2.out rfl)
        obtain ⟨hy9, hy1⟩ := hY9 rfl
        obtain ⟨E1, hE1⟩ : ∃ E1, putI E X = E1 := ⟨_, rfl⟩
        obtain ⟨N1, hN1⟩ : ∃ N, E1.length = N := ⟨_, rfl⟩
        obtain ⟨E2, hE2⟩ : ∃ E2, putI E1 (Y + 1) = E2 := ⟨_, rfl⟩
        obtain ⟨N2, hN2⟩ : ∃ N, E2.length = N := ⟨_, rfl⟩
        have P1 := fun w hr => Lib.hid (ref_cput A0 c0 ne E X HV.out (by have := HV.out; have := HK.out; omega) E1 hE1 N1 hN1 w hr)
        have P2 := fun A1 c1 w hr => Lib.hid (ref_cput A1 c1 N1 E1 (Y + 1) hN1.symm (by rw [← hN1, ← hE1]; have := putI_len E X; have := HK.out; omega) E2 hE2 N2 hN2 w hr)
        have HN2 := Lib.hid hN2.symm
        rw [hE1, hE2] at HZ2
        have hyw : IntKind.i64.wrap (Y + 1) = Y + 1 := IntWalk.i64_in _ (by omega)
        have hk0 : (0 : Int) ≤ (k : Int) := by omega
        have hkn : (k : Int) < (n : Int) := by omega
        clear hcell hg hX hY hz HX HZ1 hY9 hE1 hN1 hE2 hN2
        go_wp2_with ((with_reducible refine (C _).out.mono ?_); rintro e w2 ⟨rfl, hq⟩; have HB2 := Lib.hid (HBW.out.trans (hq.mono HBW.out.size)); have HD2 := Lib.hid ((HD.out.call hq).call (Below.refl _ _).drew); have e0 := ((bcell hq).1 _ _ hb2).trans k0; have e1 := ((bcell hq).1 _ _ hb2).trans k1; have hb3 := Nat.lt_of_lt_of_le hb2 hq.size; clear hq k0 k1)
        go_region_held3 (fun w' => w'.cell? ⟨b1, o1 + k * 2, none⟩ = some (.int .i64 X) ∧ w'.cell? ⟨b1, o1 + k * 2 + 1, none⟩ = some (.int .i64 Y) ∧ Below w2.heap.size w2 w') (first | (exact ⟨e0, e1, (Below.refl _ _).drew⟩) | assumption | go_keep) (first
          | ((with_reducible refine (P1 _ HD2.out).out.mono ?_); rintro e w3 ⟨A3, c3, rfl, hrd, hq⟩; have HD3 := Lib.hid hrd; have hS3 : w3.cell? ⟨b1, o1 + k * 2, none⟩ = some (.int .i64 X) ∧ w3.cell? ⟨b1, o1 + k * 2 + 1, none⟩ = some (.int .i64 Y) ∧ Below w2.heap.size w2 w3 := ⟨((bcell hq).1 _ _ hb3).trans e0, ((bcell hq).1 _ _ hb3).trans e1, (Below.refl _ _).drew.trans hq⟩; clear hrd hq)
          | ((with_reducible refine (P2 _ _ _ HD3.out).out.mono ?_); rintro e w4 ⟨A4, c4, rfl, hrd, hq⟩; have HD4 := Lib.hid hrd; have hS4 : w4.cell? ⟨b1, o1 + k * 2, none⟩ = some (.int .i64 X) ∧ w4.cell? ⟨b1, o1 + k * 2 + 1, none⟩ = some (.int .i64 Y) ∧ Below w2.heap.size w2 w4 := ⟨((bcell hq).1 _ _ (Nat.lt_of_lt_of_le hb3 hS3.2.2.size)).trans hS3.1, ((bcell hq).1 _ _ (Nat.lt_of_lt_of_le hb3 hS3.2.2.size)).trans hS3.2.1, hS3.2.2.trans (hq.mono hS3.2.2.size)⟩; clear hrd hq))
        have HB4 := Lib.hid (HB2.out.trans (hS4.2.2.mono HB2.out.size))
        clear hS3 hS4 HD3 HD2 e0 e1
        go_wp2_with fail
        go_roundw
        case rel => exact ⟨k + 1, N2, c4, A4, E2, by omega, HZ2, rfl, HN2, HD4, by go_num, HB4⟩
        case measure => simp [intOf]; omega
    · have HF1 := Lib.hid (show a.foldl addC [] = E by rw [← HE.out, List.take_of_length_le (by have := HNA.out; omega)])
      go_wp2_with fail
      go_loopw [5, 7] (fun v i wr => ∃ (k ne c0 : Nat) (A0 : Option Addr) (E : List Int), k ≤ m ∧ Hid ((b.take k).foldl addC (a.foldl addC []) = E) ∧ v = .slice A0 ne c0 ∧ Hid (ne = E.length) ∧ Hid (kIt.Rd wr wr.heap.size A0 c0 E) ∧ i = .int .i64 k ∧ Hid (Below w.heap.size w wr)) (fun _ i _ => m - (intOf i).toNat)
      case atStart => exact ⟨0, ne, c0, A0, E, by omega, HF1.out, rfl, HV.out, HD.out, rfl, HBW.out⟩
      case round =>
        clear HE HV HD HBW HF1 hlt
        obtain ⟨k, ne, c0, A0, E, hk, HE, rfl, HV, HD, rfl, HBW⟩ := hrel
        by_cases hlt : k < m
        · obtain ⟨r, hg, -, -⟩ := cnt_get (l := b) (k := k) (by have := HNB.out; omega)
          obtain ⟨b1, o1, rfl, hb1, hcell⟩ := rns_at (HB.out.below HBW.out) (by have := HNB.out; omega)
          obtain ⟨k0, k1⟩ := hcell k r hg
          have hb2 := Nat.lt_of_lt_of_le hb1 HBW.out.size
          obtain ⟨z, hz⟩ : ∃ z, oneC r = z := ⟨_, rfl⟩
          have C := fun w => Lib.hid (ref_one r _ _ rfl rfl z hz w)
          have HX := Lib.hid (show (b.take (k + 1)).foldl addC (a.foldl addC []) = addC E r by rw [List.take_add_one, hg, Option.toList_some, List.foldl_append, HE.out]; rfl)
          have HK := Lib.hid (show E.length ≤ 500000 by
            rw [← HE.out]
            have h1 := edges_lenC (b.take k) (a.foldl addC [])
            have h2 : (b.take k).length ≤ k := by rw [List.length_take]; omega
            have h3 := HE0.out
            omega)
          obtain ⟨X, hX⟩ : ∃ X, r.fr = X := ⟨_, rfl⟩
          obtain ⟨Y, hY⟩ : ∃ Y, r.to = Y := ⟨_, rfl⟩
          rw [hX, hY] at C
          rw [hX] at k0
          rw [hY] at k1
          have HZ1 := Lib.hid (fun h : z = false => show (b.take (k + 1)).foldl addC (a.foldl addC []) = E from HX.out.trans (addC_no (hz.trans h)))
          have HZ2 := Lib.hid (fun h : z = true => show (b.take (k + 1)).foldl addC (a.foldl addC []) = putI (putI E X) (Y + 1) from HX.out.trans (by rw [addC_one (hz.trans h), hX, hY]))
          have hY9 : z = true → Y ≤ 1099511627776 ∧ 1 ≤ Y := fun h => by have := oneC_iff.1 (hz.trans h); omega
          cases z
          · replace HZ1 := Lib.hid (HZ1.out rfl)
            clear hcell hg hX hY hz HX HZ2 hY9
            go_wp2_with ((with_reducible refine (C _).out.mono ?_); rintro e w2 ⟨rfl, hq⟩; have HB2 := Lib.hid (HBW.out.trans (hq.mono HBW.out.size)); have HD2 := Lib.hid (HD.out.call hq); clear hq)
            go_roundw
            case rel => exact ⟨k + 1, ne, c0, A0, E, by omega, HZ1, rfl, HV, HD2, by go_num, HB2⟩
            case measure => simp [intOf]; omega
          · replace HZ2 := Lib.hid (HZ2.out rfl)
            obtain ⟨hy9, hy1⟩ := hY9 rfl
            obtain ⟨E1, hE1⟩ : ∃ E1, putI E X = E1 := ⟨_, rfl⟩
            obtain ⟨N1, hN1⟩ : ∃ N, E1.length = N := ⟨_, rfl⟩
            obtain ⟨E2, hE2⟩ : ∃ E2, putI E1 (Y + 1) = E2 := ⟨_, rfl⟩
            obtain ⟨N2, hN2⟩ : ∃ N, E2.length = N := ⟨_, rfl⟩
            have P1 := fun w hr => Lib.hid (ref_cput A0 c0 ne E X HV.out (by have := HV.out; have := HK.out; omega) E1 hE1 N1 hN1 w hr)
            have P2 := fun A1 c1 w hr => Lib.hid (ref_cput A1 c1 N1 E1 (Y + 1) hN1.symm (by rw [← hN1, ← hE1]; have := putI_len E X; have := HK.out; omega) E2 hE2 N2 hN2 w hr)
            have HN2 := Lib.hid hN2.symm
            rw [hE1, hE2] at HZ2
            have hyw : IntKind.i64.wrap (Y + 1) = Y + 1 := IntWalk.i64_in _ (by omega)
            have hk0 : (0 : Int) ≤ (k : Int) := by omega
            have hkn : (k : Int) < (m : Int) := by omega
            clear hcell hg hX hY hz HX HZ1 hY9 hE1 hN1 hE2 hN2
            go_wp2_with ((with_reducible refine (C _).out.mono ?_); rintro e w2 ⟨rfl, hq⟩; have HB2 := Lib.hid (HBW.out.trans (hq.mono HBW.out.size)); have HD2 := Lib.hid ((HD.out.call hq).call (Below.refl _ _).drew); have e0 := ((bcell hq).1 _ _ hb2).trans k0; have e1 := ((bcell hq).1 _ _ hb2).trans k1; have hb3 := Nat.lt_of_lt_of_le hb2 hq.size; clear hq k0 k1)
            go_region_held3 (fun w' => w'.cell? ⟨b1, o1 + k * 2, none⟩ = some (.int .i64 X) ∧ w'.cell? ⟨b1, o1 + k * 2 + 1, none⟩ = some (.int .i64 Y) ∧ Below w2.heap.size w2 w') (first | (exact ⟨e0, e1, (Below.refl _ _).drew⟩) | assumption | go_keep) (first
              | ((with_reducible refine (P1 _ HD2.out).out.mono ?_); rintro e w3 ⟨A3, c3, rfl, hrd, hq⟩; have HD3 := Lib.hid hrd; have hS3 : w3.cell? ⟨b1, o1 + k * 2, none⟩ = some (.int .i64 X) ∧ w3.cell? ⟨b1, o1 + k * 2 + 1, none⟩ = some (.int .i64 Y) ∧ Below w2.heap.size w2 w3 := ⟨((bcell hq).1 _ _ hb3).trans e0, ((bcell hq).1 _ _ hb3).trans e1, (Below.refl _ _).drew.trans hq⟩; clear hrd hq)
              | ((with_reducible refine (P2 _ _ _ HD3.out).out.mono ?_); rintro e w4 ⟨A4, c4, rfl, hrd, hq⟩; have HD4 := Lib.hid hrd; have hS4 : w4.cell? ⟨b1, o1 + k * 2, none⟩ = some (.int .i64 X) ∧ w4.cell? ⟨b1, o1 + k * 2 + 1, none⟩ = some (.int .i64 Y) ∧ Below w2.heap.size w2 w4 := ⟨((bcell hq).1 _ _ (Nat.lt_of_lt_of_le hb3 hS3.2.2.size)).trans hS3.1, ((bcell hq).1 _ _ (Nat.lt_of_lt_of_le hb3 hS3.2.2.size)).trans hS3.2.1, hS3.2.2.trans (hq.mono hS3.2.2.size)⟩; clear hrd hq))
            have HB4 := Lib.hid (HB2.out.trans (hS4.2.2.mono HB2.out.size))
            clear hS3 hS4 HD3 HD2 e0 e1
            go_wp2_with fail
            go_roundw
            case rel => exact ⟨k + 1, N2, c4, A4, E2, by omega, HZ2, rfl, HN2, HD4, by go_num, HB4⟩
            case measure => simp [intOf]; omega
        · have HFIN := Lib.hid (show edgesC a b = E by rw [← HE.out, List.take_of_length_le (by have := HNB.out; omega)]; rfl)
          go_wp2_with fail
          go_ret
          exact ⟨A0, c0, cret_slice (by rw [HV.out, ← HNN.out, HFIN.out]), by rw [HFIN.out]; exact HD.out, HBW.out⟩
end Go.Proofs.YtaodifpnfejbbaaGreat
