/-
  Several texts in one: OpenPcss.
-/
import Derived.Test.YtopjhebhdopjpaaGreatMg17
namespace Go.Proofs.YtopjhebhdopjpaaGreat
open Go.ChangeShapes Go.WideShapes Go.ChangeAt Go.RowKit

def PpIn (W : World) (x : SlP × List Pc) : Prop := x.1.n = x.2.length ∧ RdPc W x.1.A x.1.c x.2
theorem rdpc_pairs {W : World} {A : Option Addr} {c : Nat} {sl : List (Ps × Pc)} (h1 : RowAt W W.heap.size A (sl.flatMap fun x => psCells x.1)) (h2 : sl.length ≤ c) (h3 : c ≤ maxLen) (hg : ∀ x ∈ sl, PcIn W x) : RdPc W A c (sl.map (·.2)) := by
  have hr : kPs.Rd W W.heap.size A c (sl.map (·.1)) := by
    refine ⟨?_, by rw [List.length_map]; exact h2, h3⟩
    show RowAt W W.heap.size A ((sl.map (·.1)).flatMap psCells)
    rw [List.flatMap_map]
    exact h1
  refine (show RdPc W A c (sl.map (·.2)) from ⟨(sl.map (fun x : Ps × Pc => x.1) : List Ps), (show kPs.RdS W (fun _ => True) A c (sl.map (fun x : Ps × Pc => x.1)) from hr.inS.mono (fun _ _ => trivial)), by rw [List.length_map, List.length_map], fun i s l hs hl => ?_⟩)
  rw [List.getElem?_map] at hs hl
  cases hx : sl[i]? with
  | none => rw [hx] at hs; cases hs
  | some x =>
    rw [hx] at hs hl
    cases hs; cases hl
    obtain ⟨e1, e2, e3⟩ := hg x (List.mem_of_getElem? hx)
    exact ⟨e1, e2, (rdk_in e3).all⟩
set_option maxRecDepth 100000 in
theorem slp_of {H : Type} {enc : TypeId × Value → H} {W : World} (n : Nat) (cs : List Value) (y : DataW H × List MemPlace) (_ : cs.length = 1)
    (hy : DataW.trod enc Tryz.prog W 0 (fun _ => true) true n 22 cs = some y) : ∃ x : SlP × List Pc, cs = [.slice x.1.A x.1.n x.1.c] ∧ PpIn W x := by
  obtain ⟨A, c', sl, e1, g1, hg, g2, g3⟩ := cells_slice (fun x : Ps × Pc => psCells x.1) (PcIn W) Tryz.underlying22 (k := 4) (by kernel_rfl) (by omega) pc_of hy
  exact ⟨(⟨A, sl.length, c'⟩, sl.map (·.2)), e1, by show sl.length = (sl.map (·.2)).length; rw [List.length_map], rdpc_pairs g1 g2 g3 hg⟩
set_option maxRecDepth 100000 in
theorem in_pcss {H : Type} {enc : TypeId × Value → H} {W : World} {base : Nat} {v : Value} {d : DataW H} {p : List MemPlace}
    (hok : Value.okWide Tryz.prog W .any base 39 v) (h : DataW.Trod enc Tryz.prog W 0 (fun _ => true) true 39 v d p) :
    ∃ (A : Option Addr) (c : Nat) (l : List (List Pc)), v = .slice A l.length c ∧ RdPP W A c l := by
  obtain ⟨A, c, sl, rfl, h1, hg, h2, h3⟩ := in_slice (fun x : SlP × List Pc => [.slice x.1.A x.1.n x.1.c]) (PpIn W) Tryz.underlying39 (k := 1) (by kernel_rfl) (by omega) slp_of hok h
  have hr : kSlP.Rd W W.heap.size A c (sl.map (·.1)) := by
    refine ⟨?_, by rw [List.length_map]; exact h2, h3⟩
    show RowAt W W.heap.size A ((sl.map (·.1)).flatMap fun s : SlP => [.slice s.A s.n s.c])
    rw [List.flatMap_map]
    exact h1
  refine ⟨A, c, sl.map (·.2), (by rw [List.length_map]), (show RdPP W A c (sl.map (·.2)) from ⟨(sl.map (fun x : SlP × List Pc => x.1) : List SlP), (show kSlP.RdS W (fun _ => True) A c (sl.map (fun x : SlP × List Pc => x.1)) from hr.inS.mono (fun _ _ => trivial)), by rw [List.length_map, List.length_map], fun i s l hs hl => ?_⟩)⟩
  rw [List.getElem?_map] at hs hl
  cases hx : sl[i]? with
  | none => rw [hx] at hs; cases hs
  | some x =>
    rw [hx] at hs hl
    cases hs; cases hl
    exact hg x (List.mem_of_getElem? hx)
def BbIn (W : World) (x : SlP × List UInt8) : Prop := x.1.n = x.2.length ∧ RdB W W.heap.size x.1.A x.1.c x.2
set_option maxRecDepth 100000 in
theorem slb_of {H : Type} {enc : TypeId × Value → H} {W : World} (n : Nat) (cs : List Value) (y : DataW H × List MemPlace) (_ : cs.length = 1)
    (hy : DataW.trod enc Tryz.prog W 0 (fun _ => true) true n 25 cs = some y) : ∃ x : SlP × List UInt8, cs = [.slice x.1.A x.1.n x.1.c] ∧ BbIn W x := by
  obtain ⟨x, e, hr⟩ := cells_bytes Tryz.underlying25 Tryz.underlying5 (by kernel_rfl) hy
  exact ⟨(⟨x.1, x.2.2.length, x.2.1⟩, x.2.2), e, rfl, hr⟩
set_option maxRecDepth 100000 in
theorem in_bss {H : Type} {enc : TypeId × Value → H} {W : World} {base : Nat} {v : Value} {d : DataW H} {p : List MemPlace}
    (hok : Value.okWide Tryz.prog W .any base 40 v) (h : DataW.Trod enc Tryz.prog W 0 (fun _ => true) true 40 v d p) :
    ∃ (A : Option Addr) (c : Nat) (l : List (List UInt8)), v = .slice A l.length c ∧ RdBB W A c l := by
  obtain ⟨A, c, sl, rfl, h1, hg, h2, h3⟩ := in_slice (fun x : SlP × List UInt8 => [.slice x.1.A x.1.n x.1.c]) (BbIn W) Tryz.underlying40 (k := 1) (by kernel_rfl) (by omega) slb_of hok h
  have hr : kSlB.Rd W W.heap.size A c (sl.map (·.1)) := by
    refine ⟨?_, by rw [List.length_map]; exact h2, h3⟩
    show RowAt W W.heap.size A ((sl.map (·.1)).flatMap fun s : SlP => [.slice s.A s.n s.c])
    rw [List.flatMap_map]
    exact h1
  refine ⟨A, c, sl.map (·.2), (by rw [List.length_map]), (show RdBB W A c (sl.map (·.2)) from ⟨(sl.map (fun x : SlP × List UInt8 => x.1) : List SlP), (show kSlB.RdS W (fun _ => True) A c (sl.map (fun x : SlP × List UInt8 => x.1)) from hr.inS.mono (fun _ _ => trivial)), by rw [List.length_map, List.length_map], fun i s l hs hl => ?_⟩)⟩
  rw [List.getElem?_map] at hs hl
  cases hx : sl[i]? with
  | none => rw [hx] at hs; cases hs
  | some x =>
    rw [hx] at hs hl
    cases hs; cases hl
    obtain ⟨e1, e2⟩ := hg x (List.mem_of_getElem? hx)
    exact ⟨e1, e2.inS⟩
end Go.Proofs.YtopjhebhdopjpaaGreat
