/-
  Several texts in one: Frame, Open, OpenVr, OpenItms, ItW, VrOne, Region, VrB, MaxAt, Sys, Law12A, VrC.
-/
import Derived.ProofKit
import Derived.OpenShut
import Derived.ShutString
import Derived.ChangeOld
import Derived.JoinedCond
import Derived.SizedLaws
import Derived.Deep.CondSized
import Derived.Deep.Slices
import Derived.Deep.Strs
import Derived.ChangeMaps5
import Derived.Lib.SmallJoins
import Derived.Deep.RegionHeld3
import Derived.Lib.LaidTab
import Derived.Lib.ItoaNum
import Derived.Test.YtfjaklpddcafdaaMg4
namespace Go.Proofs.Ytfjaklpddcafdaa
open Go.ChangeShapes Go.WideShapes Go.ChangeAt Go.RowKit

theorem own : ownKnob Try.prog.godebug = none := by kernel_rfl
theorem laidOut : laidOutB Try.prog = true := by kernel_rfl

noncomputable def rowsOk (P : Program) (ts : List TypeId) : Bool := ts.all fun t => P.readableRec t && decide (t < P.types.size)

section
variable {P : Program} {H : Type} {enc : TypeId × Value → H} {W W' : World}

theorem trodAll_below (hl : laidOutB P = true) (bel : Below W.heap.size W W') : ∀ {ts : List TypeId} {vs : List Value} {ds : List (DataW H)} {p : List MemPlace}, rowsOk P ts = true →
    DataW.TrodAll enc P W 0 (fun _ => true) true ts vs ds p → DataW.TrodAll enc P W' 0 (fun b => decide (b < W.heap.size)) true ts vs ds p
  | [], [], [], _, _, h => h
  | [], _ :: _, _, _, _, h => h.elim
  | [], [], _ :: _, _, _, h => h.elim
  | _ :: _, [], _, _, _, h => h.elim
  | _ :: _, _ :: _, [], _, _, h => h.elim
  | t :: ts, v :: vs, d :: ds, p, ho, h => by
    obtain ⟨p1, p2, h1, h2, rfl⟩ := h
    have ho' : (P.readableRec t = true ∧ t < P.types.size) ∧ rowsOk P ts = true := by simpa [rowsOk] using ho
    have lt1 : ∀ x ∈ p1, x.block < W.heap.size := by
      have k1 := h1
      obtain ⟨m, hm⟩ := k1
      exact DataW.trod_lt m _ _ _ hm
    exact ⟨p1, p2, Below.trod hl ho'.1.1 ho'.1.2 h1 bel lt1, trodAll_below hl bel ho'.2 h2, rfl⟩

theorem trodAll_len : ∀ {ts : List TypeId} {vs : List Value} {ds : List (DataW H)} {p : List MemPlace}, DataW.TrodAll enc P W 0 (fun _ => true) true ts vs ds p → ds.length = ts.length ∧ vs.length = ts.length
  | [], [], [], _, _ => ⟨rfl, rfl⟩
  | [], _ :: _, _, _, h => h.elim
  | [], [], _ :: _, _, h => h.elim
  | _ :: _, [], _, _, h => h.elim
  | _ :: _, _ :: _, [], _, h => h.elim
  | _ :: _, _ :: _, _ :: _, _, h => by
    obtain ⟨_, _, _, h2, _⟩ := h
    have := trodAll_len h2
    simp [this.1, this.2]
end

section
variable {H : Type} {enc : TypeId × Value → H} {W W' : World}

def Answers (s : ChangeSpec) (n : Nat) : Prop := s.vars = [] ∧ ∀ (H : Type) (ds : List (DataW H)), ds.length = n → s.fn H ds = { results := [.lit (.bool true)], args := ds }

theorem law_post (f : Func) (s : ChangeSpec) {args : Array Value} {ds gs : List (DataW H)} {before : List MemPlace} (ha : Answers s f.params.size)
    (hres : f.resultTypes = #[4]) (hrd : rowsOk Try.prog f.params.toList = true)
    (hW : DataW.Whole enc Try.prog f.params.toList s.vars false W args.toList ds gs before) (bel : Below W.heap.size W W') :
    s.post enc Try.prog f false true false false W args (.bool true) W' := by
  have hW' := hW
  obtain ⟨hv, hfn⟩ := ha
  rw [hv] at hW'
  obtain ⟨p, q, hA, hV, rfl, -, -⟩ := hW'
  obtain ⟨rfl, rfl⟩ := trodVars_none hV
  have hl := (trodAll_len hA).1
  have e := hfn H (ds ++ []) (by rw [List.append_nil, hl, Array.length_toList])
  refine ⟨ds, [], _, [], p, [], hW, ?_, ?_, ?_, bel.frame _, fun h => by cases h⟩
  · rw [e, hres]
    exact trodAll_mk1 (shut_bool Try.underlying4 _)
  · rw [e]
    exact (List.append_nil ds).symm ▸ trodAll_below laidOut bel hrd hA
  · rw [e, hv]; rfl

structure Told (enc : TypeId × Value → H) (f : Func) (W : World) (base : Nat) (args : Array Value) (ds : List (DataW H)) : Prop where
  fits : ∀ (j : Nat) t v, f.params[j]? = some t → args[j]? = some v → Value.okWide Try.prog W .any base t v
  reads : ∃ p, DataW.TrodAll enc Try.prog W 0 (fun _ => true) true f.params.toList args.toList ds p
  reach : (DataW.weightsEach Try.prog f.params.toList ds).all (· ≤ reachBytes) = true

set_option maxRecDepth 100000 in
theorem law_contract (K : FuncId) (f : Func) (s : ChangeSpec) (ha : Answers s f.params.size) (hres : f.resultTypes = #[4]) (hrd : rowsOk Try.prog f.params.toList = true)
    (base : Nat) (args : Array Value) (ds gs : List (DataW H)) (before : List MemPlace)
    (hval : ∀ (j : Nat) t v, f.params[j]? = some t → args[j]? = some v → Value.okWide Try.prog W .any base t v)
    (hW : DataW.Whole enc Try.prog f.params.toList s.vars false W args.toList ds gs before)
    (hsz : (DataW.weightsEach Try.prog (f.params.toList ++ s.plain.varTypes Try.prog) (ds ++ gs)).all (· ≤ reachBytes) = true)
    (walk : Told enc f W base args ds → Calls Try.prog K args W fun e W' => e = .returned (.bool true) ∧ Below W.heap.size W W') :
    Calls Try.prog K args W fun e W' => ∃ v, e = .returned v ∧ s.post enc Try.prog f false true false false W args v W' := by
  have hW' := hW
  rw [ha.1] at hW'
  obtain ⟨p, q, hA, hV, rfl, -, -⟩ := hW'
  obtain ⟨rfl, rfl⟩ := trodVars_none hV
  have hvt : s.plain.varTypes Try.prog = [] := by unfold DataSpec.varTypes; rw [show s.plain.vars = [] from ha.1]; rfl
  rw [hvt, List.append_nil, List.append_nil] at hsz
  exact (walk ⟨hval, ⟨p, hA⟩, hsz⟩).mono fun e W' ⟨he, bel⟩ => ⟨_, he, law_post f s ha hres hrd hW bel⟩
end

section
variable {H : Type} {enc : TypeId × Value → H} {W : World} {base : Nat}

end
end Go.Proofs.Ytfjaklpddcafdaa

namespace Go.Proofs.Ytfjaklpddcafdaa
open Go.ChangeShapes Go.WideShapes Go.ChangeAt Go.RowKit

theorem flat_get {α : Type} (E : α → List Value) (k : Nat) : ∀ (l : List α), (∀ x ∈ l, (E x).length = k) → ∀ j u, (l.flatMap E)[j]? = some u →
    ∃ i r, j = i * k + r ∧ r < k ∧ ∃ x, l[i]? = some x ∧ (E x)[r]? = some u
  | [], _, j, u, h => by simp at h
  | y :: l, hk, j, u, h => by
    have hy := hk y (by simp)
    rw [List.flatMap_cons] at h
    rcases Nat.lt_or_ge j k with hj | hj
    · rw [List.getElem?_append_left (by omega)] at h
      exact ⟨0, j, by omega, hj, y, rfl, h⟩
    · rw [List.getElem?_append_right (by omega), hy] at h
      obtain ⟨i, r, h1, h2, x, h3, h4⟩ := flat_get E k l (fun x hx => hk x (by simp [hx])) (j - k) u h
      exact ⟨i + 1, r, by rw [Nat.add_mul]; omega, h2, x, by simpa using h3, h4⟩

section
variable {H : Type} {enc : TypeId × Value → H} {W : World} {base : Nat}

set_option maxRecDepth 100000 in
theorem in_slice {α : Type} (E : α → List Value) (Good : α → Prop) {t e : TypeId} {k : Nat} {v : Value} {d : DataW H} {p : List MemPlace} (ht : Try.prog.underlying t = some (.slice e)) (hc : Try.prog.cellsOf e = k) (hk : 0 < k)
    (hE : ∀ (n : Nat) (cs : List Value) (y : DataW H × List MemPlace), cs.length = k → DataW.trod enc Try.prog W 0 (fun _ => true) true n e cs = some y → ∃ x, cs = E x ∧ Good x)
    (hok : Value.okWide Try.prog W .any base t v) (h : DataW.Trod enc Try.prog W 0 (fun _ => true) true t v d p) :
    ∃ (A : Option Addr) (c : Nat) (l : List α), v = .slice A l.length c ∧ RowAt W W.heap.size A (l.flatMap E) ∧ (∀ x ∈ l, Good x) ∧ l.length ≤ c ∧ c ≤ maxLen := by
  obtain ⟨a, len, cap, rfl⟩ := okWide_slice ht hok
  obtain ⟨fuel, hf⟩ := h
  rcases Go.Deep.open_slice ht hf with ⟨hcs, -⟩ | ⟨x, l', c', m, n, D, Pl, hcs, -, hl, hm, hmm, -, hi⟩
  · simp [Value.cells] at hcs
    obtain ⟨rfl, rfl, rfl⟩ := hcs
    exact ⟨none, 0, [], rfl, RowAt.nil _ _ _, by intro x hx; simp at hx, Nat.le_refl _, Nat.zero_le _⟩
  · simp [Value.cells] at hcs
    obtain ⟨rfl, rfl, rfl⟩ := hcs
    simp only [if_true] at hmm
    subst hmm
    have each : ∀ i, i < len → ∃ y : α, Good y ∧ (E y).length = k ∧ ∀ r, r < k → W.cell? (x.add (i * k + r)) = (E y)[r]? := by
      intro i hil
      obtain ⟨cs', h1, h2⟩ := hi i (by omega)
      obtain ⟨_, h4, h5⟩ := World.cells?_some h1
      rw [hc] at h4 h5
      obtain ⟨y, rfl, hg⟩ := hE n cs' _ h4 h2
      refine ⟨y, hg, h4, fun r hr => ?_⟩
      rw [← h5 r hr, Go.Deep.add_add]
    rcases Nat.eq_zero_or_pos len with h0 | h0
    · subst h0
      exact ⟨some x, m, [], rfl, .inl rfl, by intro x hx; simp at hx, by simp, hm⟩
    · have hne : Nonempty α := by obtain ⟨y, _⟩ := each 0 h0; exact ⟨y⟩
      have hch : ∃ f : Nat → α, ∀ i, i < len → Good (f i) ∧ (E (f i)).length = k ∧ ∀ r, r < k → W.cell? (x.add (i * k + r)) = (E (f i))[r]? :=
        ⟨fun i => if hi : i < len then (each i hi).choose else Classical.choice hne, fun i hi => by have := (each i hi).choose_spec; simpa only [dif_pos hi] using this⟩
      obtain ⟨f, hf⟩ := hch
      have hcell0 := (hf 0 h0).2.2 0 hk
      rw [List.getElem?_eq_getElem (by rw [(hf 0 h0).2.1]; exact hk)] at hcell0
      obtain ⟨b, o, spot⟩ := x
      have hspot : spot = none := by simpa [Addr.add] using World.cell?_spot hcell0
      subst hspot
      have hb : b < W.heap.size := by
        rw [Go.WideShapes.add_plain] at hcell0
        exact World.block_lt_of_cell? W _ hcell0
      refine ⟨some ⟨b, o, none⟩, m, (List.range len).map f, by simp, .inr ⟨b, o, rfl, hb, fun j u hu => ?_⟩, ?_, by simp; omega, hm⟩
      · obtain ⟨i, r, rfl, hr, y, hy, hyu⟩ := flat_get E k _ (fun y hy => by
          simp only [List.mem_map, List.mem_range] at hy
          obtain ⟨i, hi, rfl⟩ := hy
          exact (hf i hi).2.1) j u hu
        rw [List.getElem?_map] at hy
        rcases Nat.lt_or_ge i len with hil | hil
        · rw [List.getElem?_range hil] at hy
          simp at hy
          subst hy
          have := (hf i hil).2.2 r hr
          rw [Go.WideShapes.add_plain] at this
          rw [this, hyu]
        · rw [List.getElem?_eq_none (by simpa using hil)] at hy
          simp at hy
      · intro y hy
        simp only [List.mem_map, List.mem_range] at hy
        obtain ⟨i, hi, rfl⟩ := hy
        exact (hf i hi).1

set_option maxRecDepth 100000 in
theorem in_str {t : TypeId} {v : Value} {d : DataW H} {p : List MemPlace} (ht : Try.prog.underlying t = some .string)
    (hok : Value.okWide Try.prog W .any base t v) (h : DataW.Trod enc Try.prog W 0 (fun _ => true) true t v d p) :
    ∃ l : List UInt8, v = .string (str l) ∧ l.length ≤ maxLen := by
  obtain ⟨s, rfl, -, -, hs⟩ := ChangeMaps.open_string ht hok h
  exact ⟨s.data.toList, by rw [str_of], by rw [← str_size, str_of]; exact hs⟩
end
end Go.Proofs.Ytfjaklpddcafdaa

namespace Go.Proofs.Ytfjaklpddcafdaa
open Go.ChangeShapes Go.WideShapes Go.ChangeAt Go.RowKit Go.Joins

theorem vcells_int : Try.prog.cellsOf 3 = 1 := by kernel_rfl
set_option maxRecDepth 100000 in
theorem vr_of {H : Type} {enc : TypeId × Value → H} {W : World} (n : Nat) (cs : List Value) (y : DataW H × List MemPlace) (hl : cs.length = 2)
    (hy : DataW.trod enc Try.prog W 0 (fun _ => true) true n 24 cs = some y) : ∃ x : Vr, cs = vrCells x ∧ True := by
  obtain ⟨xs, n', _, rfl, -, hlen, hf⟩ := DataW.trod_struct Try.underlying24 hy
  match xs, hlen with
  | [y0, y1], _ =>
    have h0 := hf 0 _ rfl
    have h1 := hf 1 _ rfl
    match cs, hl with
    | [a, b], _ =>
      have h0 : DataW.trod enc Try.prog W 0 (fun _ => true) true n' 3 (([a, b].drop 0).take (Try.prog.cellsOf 3)) = some y0 := by simpa using h0
      have h1 : DataW.trod enc Try.prog W 0 (fun _ => true) true n' 3 (([a, b].drop 1).take (Try.prog.cellsOf 3)) = some y1 := by simpa using h1
      rw [vcells_int] at h0 h1
      obtain ⟨i, e0, -, w0⟩ := DataW.trod_int Try.underlying3 h0
      obtain ⟨j, e1, -, w1⟩ := DataW.trod_int Try.underlying3 h1
      simp at e0 e1
      subst e0 e1
      exact ⟨⟨i, j⟩, rfl, trivial⟩
end Go.Proofs.Ytfjaklpddcafdaa

namespace Go.Proofs.Ytfjaklpddcafdaa
open Go.ChangeShapes Go.WideShapes Go.ChangeAt Go.RowKit Go.Joins

theorem icells_vr : Try.prog.cellsOf 24 = 2 := by kernel_rfl
theorem icells_str : Try.prog.cellsOf 9 = 1 := by kernel_rfl
theorem icells_bool : Try.prog.cellsOf 4 = 1 := by kernel_rfl
set_option maxRecDepth 100000 in
set_option maxHeartbeats 1000000 in
theorem itm_of {H : Type} {enc : TypeId × Value → H} {W : World} (n : Nat) (cs : List Value) (y : DataW H × List MemPlace) (hl : cs.length = 7)
    (hy : DataW.trod enc Try.prog W 0 (fun _ => true) true n 26 cs = some y) : ∃ x : Itm, cs = itmCells x ∧ True := by
  obtain ⟨xs, n', _, rfl, -, hlen, hf⟩ := DataW.trod_struct Try.underlying26 hy
  match xs, hlen with
  | [y0, y1, y2, y3, y4, y5], _ =>
    have h0 := hf 0 _ rfl
    have h1 := hf 1 _ rfl
    have h2 := hf 2 _ rfl
    have h3 := hf 3 _ rfl
    have h4 := hf 4 _ rfl
    have h5 := hf 5 _ rfl
    match cs, hl with
    | [a0, a1, a2, a3, a4, a5, a6], _ =>
      have h0 : DataW.trod enc Try.prog W 0 (fun _ => true) true n' 9 (([a0, a1, a2, a3, a4, a5, a6].drop 0).take (Try.prog.cellsOf 9)) = some y0 := by simpa using h0
      have h1 : DataW.trod enc Try.prog W 0 (fun _ => true) true n' 24 (([a0, a1, a2, a3, a4, a5, a6].drop 1).take (Try.prog.cellsOf 24)) = some y1 := by simpa using h1
      have h2 : DataW.trod enc Try.prog W 0 (fun _ => true) true n' 3 (([a0, a1, a2, a3, a4, a5, a6].drop 3).take (Try.prog.cellsOf 3)) = some y2 := by simpa using h2
      have h3 : DataW.trod enc Try.prog W 0 (fun _ => true) true n' 3 (([a0, a1, a2, a3, a4, a5, a6].drop 4).take (Try.prog.cellsOf 3)) = some y3 := by simpa using h3
      have h4 : DataW.trod enc Try.prog W 0 (fun _ => true) true n' 4 (([a0, a1, a2, a3, a4, a5, a6].drop 5).take (Try.prog.cellsOf 4)) = some y4 := by simpa using h4
      have h5 : DataW.trod enc Try.prog W 0 (fun _ => true) true n' 9 (([a0, a1, a2, a3, a4, a5, a6].drop 6).take (Try.prog.cellsOf 9)) = some y5 := by simpa using h5
      rw [icells_str] at h0 h5
      rw [icells_vr] at h1
      rw [vcells_int] at h2 h3
      rw [icells_bool] at h4
      obtain ⟨s, e0, -, w0⟩ := DataW.trod_string Try.underlying9 h0
      obtain ⟨v, e1, -⟩ := vr_of _ _ _ (by simp) h1
      obtain ⟨i, e2, -, w2⟩ := DataW.trod_int Try.underlying3 h2
      obtain ⟨j, e3, -, w3⟩ := DataW.trod_int Try.underlying3 h3
      obtain ⟨q, e4, -⟩ := DataW.trod_bool Try.underlying4 h4
      obtain ⟨u, e5, -, w5⟩ := DataW.trod_string Try.underlying9 h5
      simp [vrCells] at e0 e1 e2 e3 e4 e5
      obtain ⟨e11, e12⟩ := e1
      subst e0 e11 e12 e2 e3 e4 e5
      exact ⟨⟨s.data.toList, v, i, j, q, u.data.toList⟩, by simp only [itmCells, str_of], trivial⟩
set_option maxRecDepth 100000 in
theorem in_itms {H : Type} {enc : TypeId × Value → H} {W : World} {base : Nat} {v : Value} {d : DataW H} {p : List MemPlace}
    (hok : Value.okWide Try.prog W .any base 22 v) (h : DataW.Trod enc Try.prog W 0 (fun _ => true) true 22 v d p) :
    ∃ (A : Option Addr) (c : Nat) (l : List Itm), v = .slice A l.length c ∧ kItm.Rd W W.heap.size A c l := by
  obtain ⟨A, c, l, rfl, h1, -, h2, h3⟩ := in_slice itmCells (fun _ => True) Try.underlying22 (k := 7) (by kernel_rfl) (by omega) itm_of hok h
  exact ⟨A, c, l, rfl, h1, h2, h3⟩
set_option maxRecDepth 100000 in
theorem in_itm {H : Type} {enc : TypeId × Value → H} {W : World} {base : Nat} {v : Value} {d : DataW H} {p : List MemPlace}
    (hok : Value.okWide Try.prog W .any base 26 v) (h : DataW.Trod enc Try.prog W 0 (fun _ => true) true 26 v d p) :
    ∃ x : Itm, v = .agg #[.string (str x.key), .int .i64 x.ver.rep, .int .i64 x.ver.cnt, .int .i64 x.rank, .int .i64 x.prio, .bool x.dead, .string (str x.body)] := by
  obtain ⟨cs, rfl, hsz⟩ := okWide_struct Try.underlying26 hok
  obtain ⟨fuel, hf⟩ := h
  obtain ⟨x, e, -⟩ := itm_of fuel cs.toList _ (hsz.trans (by kernel_rfl)) hf
  refine ⟨x, ?_⟩
  rw [show cs = (itmCells x).toArray from by rw [← e]]
  rfl
end Go.Proofs.Ytfjaklpddcafdaa

namespace Go.Proofs.Ytfjaklpddcafdaa
open Go.RowKit

def ItW (w : World) (g : Nat) (K : ByteArray) (r c k p : Int) (d : Bool) (B : ByteArray) : Prop := ItAt w g K r c k p d B ∧ ∀ k, w.frozen? ⟨g, k, none⟩ = false
theorem ItW.lt {w : World} {g : Nat} {K : ByteArray} {r c k p : Int} {d : Bool} {B : ByteArray} (h : ItW w g K r c k p d B) : g < w.heap.size := World.block_lt_of_cell? w _ h.1.1
theorem ItW.grown {w : World} {g : Nat} {K : ByteArray} {r c k p : Int} {d : Bool} {B : ByteArray} {w' : World} {row : Option Nat} (h : ItW w g K r c k p d B) (hg : w.grownBy w' row) (hne : some g ≠ row) : ItW w' g K r c k p d B := by
  obtain ⟨⟨h0, h1, h2, h3, h4, h5, h6⟩, h7⟩ := h
  have hl := World.block_lt_of_cell? w _ h0
  exact ⟨⟨hg.cell h0 hne, hg.cell h1 hne, hg.cell h2 hne, hg.cell h3 hne, hg.cell h4 hne, hg.cell h5 hne, hg.cell h6 hne⟩, fun k => (hg.frozen_far ⟨g, k, none⟩ hl hne).trans (h7 k)⟩
theorem ItW.other {w : World} {g : Nat} {K : ByteArray} {r c k p : Int} {d : Bool} {B : ByteArray} {g' j : Nat} {u : Value} (h : ItW w g K r c k p d B) (hne : g' ≠ g) : ItW (w.setCell ⟨g', j, none⟩ u) g K r c k p d B :=
  h.grown (grownBy_set _ _ _ _) (fun e => hne (by injection e with e; exact e.symm))
theorem itW_new (w : World) (K : ByteArray) (r c k p : Int) (d : Bool) (B : ByteArray) : ItW (w.alloc (itO K r c k p d B)) w.heap.size K r c k p d B := ⟨itAt_new w K r c k p d B, fun j => by
  have hb := heap_new w (itO K r c k p d B) _ rfl
  unfold World.frozen?; rw [hb]; simp⟩
theorem ItW.alloc {w : World} {g : Nat} {K : ByteArray} {r c k p : Int} {d : Bool} {B : ByteArray} (h : ItW w g K r c k p d B) (o : Obj) : ItW (w.alloc o) g K r c k p d B := h.grown (row := none) (grown_of_below (below_new w o) none) (by simp)
theorem ItW.set0 {w : World} {g : Nat} {K : ByteArray} {r c k p : Int} {d : Bool} {B : ByteArray} (h : ItW w g K r c k p d B) (X : ByteArray) : ItW (w.setCell ⟨g, 0, none⟩ (.string X)) g X r c k p d B := by
  obtain ⟨⟨h0, h1, h2, h3, h4, h5, h6⟩, h7⟩ := h
  exact ⟨⟨set_same h0 _, set_other h1 (addr_off (by decide)) _, set_other h2 (addr_off (by decide)) _, set_other h3 (addr_off (by decide)) _, set_other h4 (addr_off (by decide)) _, set_other h5 (addr_off (by decide)) _, set_other h6 (addr_off (by decide)) _⟩, fun j => by rw [World.frozen?_setCell]; exact h7 j⟩
theorem ItW.set1 {w : World} {g : Nat} {K : ByteArray} {r c k p : Int} {d : Bool} {B : ByteArray} (h : ItW w g K r c k p d B) (X : Int) : ItW (w.setCell ⟨g, 1, none⟩ (.int .i64 X)) g K X c k p d B := by
  obtain ⟨⟨h0, h1, h2, h3, h4, h5, h6⟩, h7⟩ := h
  exact ⟨⟨set_other h0 (addr_off (by decide)) _, set_same h1 _, set_other h2 (addr_off (by decide)) _, set_other h3 (addr_off (by decide)) _, set_other h4 (addr_off (by decide)) _, set_other h5 (addr_off (by decide)) _, set_other h6 (addr_off (by decide)) _⟩, fun j => by rw [World.frozen?_setCell]; exact h7 j⟩
theorem ItW.set2 {w : World} {g : Nat} {K : ByteArray} {r c k p : Int} {d : Bool} {B : ByteArray} (h : ItW w g K r c k p d B) (X : Int) : ItW (w.setCell ⟨g, 2, none⟩ (.int .i64 X)) g K r X k p d B := by
  obtain ⟨⟨h0, h1, h2, h3, h4, h5, h6⟩, h7⟩ := h
  exact ⟨⟨set_other h0 (addr_off (by decide)) _, set_other h1 (addr_off (by decide)) _, set_same h2 _, set_other h3 (addr_off (by decide)) _, set_other h4 (addr_off (by decide)) _, set_other h5 (addr_off (by decide)) _, set_other h6 (addr_off (by decide)) _⟩, fun j => by rw [World.frozen?_setCell]; exact h7 j⟩
theorem ItW.set3 {w : World} {g : Nat} {K : ByteArray} {r c k p : Int} {d : Bool} {B : ByteArray} (h : ItW w g K r c k p d B) (X : Int) : ItW (w.setCell ⟨g, 3, none⟩ (.int .i64 X)) g K r c X p d B := by
  obtain ⟨⟨h0, h1, h2, h3, h4, h5, h6⟩, h7⟩ := h
  exact ⟨⟨set_other h0 (addr_off (by decide)) _, set_other h1 (addr_off (by decide)) _, set_other h2 (addr_off (by decide)) _, set_same h3 _, set_other h4 (addr_off (by decide)) _, set_other h5 (addr_off (by decide)) _, set_other h6 (addr_off (by decide)) _⟩, fun j => by rw [World.frozen?_setCell]; exact h7 j⟩
theorem ItW.set4 {w : World} {g : Nat} {K : ByteArray} {r c k p : Int} {d : Bool} {B : ByteArray} (h : ItW w g K r c k p d B) (X : Int) : ItW (w.setCell ⟨g, 4, none⟩ (.int .i64 X)) g K r c k X d B := by
  obtain ⟨⟨h0, h1, h2, h3, h4, h5, h6⟩, h7⟩ := h
  exact ⟨⟨set_other h0 (addr_off (by decide)) _, set_other h1 (addr_off (by decide)) _, set_other h2 (addr_off (by decide)) _, set_other h3 (addr_off (by decide)) _, set_same h4 _, set_other h5 (addr_off (by decide)) _, set_other h6 (addr_off (by decide)) _⟩, fun j => by rw [World.frozen?_setCell]; exact h7 j⟩
theorem ItW.set5 {w : World} {g : Nat} {K : ByteArray} {r c k p : Int} {d : Bool} {B : ByteArray} (h : ItW w g K r c k p d B) (X : Bool) : ItW (w.setCell ⟨g, 5, none⟩ (.bool X)) g K r c k p X B := by
  obtain ⟨⟨h0, h1, h2, h3, h4, h5, h6⟩, h7⟩ := h
  exact ⟨⟨set_other h0 (addr_off (by decide)) _, set_other h1 (addr_off (by decide)) _, set_other h2 (addr_off (by decide)) _, set_other h3 (addr_off (by decide)) _, set_other h4 (addr_off (by decide)) _, set_same h5 _, set_other h6 (addr_off (by decide)) _⟩, fun j => by rw [World.frozen?_setCell]; exact h7 j⟩
theorem ItW.set6 {w : World} {g : Nat} {K : ByteArray} {r c k p : Int} {d : Bool} {B : ByteArray} (h : ItW w g K r c k p d B) (X : ByteArray) : ItW (w.setCell ⟨g, 6, none⟩ (.string X)) g K r c k p d X := by
  obtain ⟨⟨h0, h1, h2, h3, h4, h5, h6⟩, h7⟩ := h
  exact ⟨⟨set_other h0 (addr_off (by decide)) _, set_other h1 (addr_off (by decide)) _, set_other h2 (addr_off (by decide)) _, set_other h3 (addr_off (by decide)) _, set_other h4 (addr_off (by decide)) _, set_other h5 (addr_off (by decide)) _, set_same h6 _⟩, fun j => by rw [World.frozen?_setCell]; exact h7 j⟩
end Go.Proofs.Ytfjaklpddcafdaa

namespace Go.Proofs.Ytfjaklpddcafdaa
open Go.RowKit

def VRightC (F : FuncId) : Prop := ∀ (v : Vr) (x y : Int), v.rep = x → v.cnt = y → ∀ z, rightVr v = z → ∀ w, Calls Try.prog F #[.agg #[.int .i64 x, .int .i64 y]] w fun e w' => e = .returned (.bool z) ∧ Below w.heap.size w w'
set_option maxRecDepth 100000 in
theorem k_vright : VRightC 27 := by
  intro v x y hx hy z hz w
  unfold rightVr at hz
  rw [hx, hy] at hz
  have HB := Lib.hid (below_new w (.cells #[.int .i64 x, .int .i64 y] 24))
  obtain ⟨b1, h1⟩ : ∃ b, decide (1 ≤ x) = b := ⟨_, rfl⟩
  obtain ⟨b2, h2⟩ : ∃ b, decide (x ≤ 16) = b := ⟨_, rfl⟩
  obtain ⟨b3, h3⟩ : ∃ b, decide (1 ≤ y) = b := ⟨_, rfl⟩
  obtain ⟨b4, h4⟩ : ∃ b, decide (y ≤ 1099511627776) = b := ⟨_, rfl⟩
  rw [h1, h2, h3, h4] at hz
  subst hz
  clear hx hy
  cases b1
  case' true =>
    cases b2
    case' true =>
      cases b3
      case' true =>
        cases b4
  all_goals
    go_enter Try.func27, Try.ntmps27
    go_wp2_with fail
    go_ret
    exact ⟨rfl, HB.out⟩
end Go.Proofs.Ytfjaklpddcafdaa

namespace Go.Proofs.Ytfjaklpddcafdaa

section
variable {P : Program} {l : List Oper} {Q : Exit → Act → World → Prop} {md : Region.Mode} {S : World → Prop}

end
end Go.Proofs.Ytfjaklpddcafdaa

namespace Go.Proofs.Ytfjaklpddcafdaa
open Go.RowKit

theorem DigSt.len {n r : Nat} {s : List UInt8} (h : DigSt n s r) : s.length ≤ 21 := by
  obtain ⟨f, _, h⟩ := h
  rcases h with ⟨h1, _⟩ | ⟨_, h2⟩
  · rw [h1]; simp
  · have h3 := digF_len 20 n
    unfold digN at h2
    rw [h2, List.length_append] at h3
    omega
end Go.Proofs.Ytfjaklpddcafdaa

namespace Go.Proofs.Ytfjaklpddcafdaa
open Go.RowKit

def MaxAt (w : World) : Prop := ∃ m, w.cell? ⟨0, 0, none⟩ = some (.int .i64 m)
theorem MaxAt.lt {w : World} (h : MaxAt w) : 0 < w.heap.size := by
  obtain ⟨m, h⟩ := h
  rcases Nat.lt_or_ge 0 w.heap.size with hlt | hge
  · exact hlt
  · exfalso
    simp [World.cell?, Array.getElem?_eq_none hge] at h
theorem MaxAt.below {w w' : World} {B : Nat} (h : MaxAt w) (hb : Below B w w') (hB : w.heap.size ≤ B) : MaxAt w' := by
  have hl := h.lt
  obtain ⟨m, h⟩ := h
  exact ⟨m, (hb.cell (p := ⟨0, 0, none⟩) (by show 0 < B; omega)).trans h⟩
end Go.Proofs.Ytfjaklpddcafdaa

namespace Go.Proofs.Ytfjaklpddcafdaa
open Go.RowKit

theorem var_lt {P : Program} {w : World} {n : String} {cs : Array Value} (h : w.var? P n = some cs) : ∃ g, P.globalNamed n = some g ∧ g < w.heap.size := by
  unfold World.var? at h
  cases hg : P.globalNamed n with
  | none => simp [hg] at h
  | some g =>
    refine ⟨g, rfl, ?_⟩
    rcases Nat.lt_or_ge g w.heap.size with h' | h'
    · exact h'
    · simp [hg, Array.getElem?_eq_none h'] at h
theorem var_below {P : Program} {w w' : World} {B : Nat} {n : String} {cs : Array Value} (h : w.var? P n = some cs) (hb : Below B w w') (hB : w.heap.size ≤ B) : w'.var? P n = some cs := by
  obtain ⟨g, hg, hlt⟩ := var_lt h
  unfold World.var? at h ⊢
  rw [hg] at h ⊢
  simp only [Option.bind_some] at h ⊢
  rw [hb.block g (by omega)]
  exact h
structure SysAt (w : World) : Prop where
  max : MaxAt w
  syn : ∃ t p, w.var? Try.prog "strconv.ErrSyntax" = some #[.iface t p]
  rng : ∃ t p, w.var? Try.prog "strconv.ErrRange" = some #[.iface t p]
  pow : Lib.TabIs Try.prog w "internal/strconv.uint64pow10" .u64 Lib.pow10Tab
theorem SysAt.below {w w' : World} {B : Nat} (h : SysAt w) (hb : Below B w w') (hB : w.heap.size ≤ B) : SysAt w' := by
  refine ⟨h.max.below hb hB, ?_, ?_, var_below h.pow hb hB⟩
  · obtain ⟨t, p, h⟩ := h.syn
    exact ⟨t, p, var_below h hb hB⟩
  · obtain ⟨t, p, h⟩ := h.rng
    exact ⟨t, p, var_below h hb hB⟩
theorem SysAt.call {w w' : World} (h : SysAt w) (hb : Below w.heap.size w w') : SysAt w' := h.below hb (Nat.le_refl _)
end Go.Proofs.Ytfjaklpddcafdaa

namespace Go.Proofs.Ytfjaklpddcafdaa
open Go.RowKit

def VCmpC (F : FuncId) : Prop := ∀ (a b : Vr) (x y u v : Int), a.rep = x → a.cnt = y → b.rep = u → b.cnt = v → ∀ z, cmpVr a b = z → ∀ w, Calls Try.prog F #[.agg #[.int .i64 x, .int .i64 y], .agg #[.int .i64 u, .int .i64 v]] w fun e w' => e = .returned (.int .i64 z) ∧ Below w.heap.size w w'
theorem cmpVr_num (a b : Vr) : (cmpVr a b = -1 ∧ (a.rep < b.rep ∨ a.rep = b.rep ∧ a.cnt < b.cnt)) ∨ (cmpVr a b = 1 ∧ (b.rep < a.rep ∨ b.rep = a.rep ∧ b.cnt < a.cnt)) ∨ (cmpVr a b = 0 ∧ a.rep = b.rep ∧ a.cnt = b.cnt) := by
  rcases cmpVr_three a b with ⟨h1, _, h2, _⟩ | ⟨h1, _, _, h2⟩ | ⟨h1, _, _, _, h2⟩
  · exact .inl ⟨h1, lessVr_iff.1 h2⟩
  · exact .inr (.inl ⟨h1, lessVr_iff.1 h2⟩)
  · exact .inr (.inr ⟨h1, by rw [h2], by rw [h2]⟩)
end Go.Proofs.Ytfjaklpddcafdaa

namespace Go.Proofs.Ytfjaklpddcafdaa
open Go.RowKit

def cmpQ : Bool → Bool → Int
  | true, _ => 0
  | false, true => -1
  | false, false => 1
theorem cmpVr_by {a b : Vr} {x y u v : Int} (hx : a.rep = x) (hy : a.cnt = y) (hu : b.rep = u) (hv : b.cnt = v) {q b1 b2 b3 : Bool} (hq : (x == u && y == v) = q) (h1 : decide (x < u) = b1) (h2 : (x == u) = b2) (h3 : decide (y < v) = b3) :
    cmpVr a b = cmpQ q (b1 || (b2 && b3)) := by
  subst hx hy hu hv hq h1 h2 h3
  rcases cmpVr_num a b with ⟨h, h'⟩ | ⟨h, h'⟩ | ⟨h, h'⟩
  · rw [h]
    have e1 : (a.rep == b.rep && a.cnt == b.cnt) = false := by
      rw [Bool.eq_false_iff]; intro e; simp at e; omega
    have e2 : (decide (a.rep < b.rep) || (a.rep == b.rep && decide (a.cnt < b.cnt))) = true := by
      rcases h' with h' | ⟨h', h''⟩ <;> simp [*]
    rw [e1, e2]; rfl
  · rw [h]
    have e1 : (a.rep == b.rep && a.cnt == b.cnt) = false := by
      rw [Bool.eq_false_iff]; intro e; simp at e; omega
    have e2 : (decide (a.rep < b.rep) || (a.rep == b.rep && decide (a.cnt < b.cnt))) = false := by
      rw [Bool.eq_false_iff]; intro e; simp at e; omega
    rw [e1, e2]; rfl
  · rw [h]
    have e1 : (a.rep == b.rep && a.cnt == b.cnt) = true := by simp [h'.1, h'.2]
    rw [e1]; rfl
set_option maxRecDepth 100000 in
theorem k_vcmp : VCmpC 31 := by
  intro a b x y u v hx hy hu hv z hz w
  have HB := Lib.hid ((below_new w (.cells #[.int .i64 x, .int .i64 y] 24)).alloc (by simp) (.cells #[.int .i64 u, .int .i64 v] 24))
  obtain ⟨q, hq⟩ : ∃ q, (x == u && y == v) = q := ⟨_, rfl⟩
  obtain ⟨b1, h1⟩ : ∃ b, decide (x < u) = b := ⟨_, rfl⟩
  obtain ⟨b2, h2⟩ : ∃ b, (x == u) = b := ⟨_, rfl⟩
  obtain ⟨b3, h3⟩ : ∃ b, decide (y < v) = b := ⟨_, rfl⟩
  have K := cmpVr_by hx hy hu hv hq h1 h2 h3
  rw [hz] at K
  subst K
  have EQ := fun w => eq_vr x y u v q hq w
  clear hx hy hu hv hz hq
  cases q
  case' false =>
    cases b1
    case' false =>
      cases b2
      case' true =>
        cases b3
  all_goals
    go_enter Try.func31, Try.ntmps31
    go_wp2_with fail
    go_ret
    exact ⟨rfl, HB.out⟩
end Go.Proofs.Ytfjaklpddcafdaa
