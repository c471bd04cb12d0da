/-
  The frame that all laws of this project share: a call that answers true and leaves all old memory alone is what the law's row says.
-/
import Derived.Test.YtnfhkmlggajhaaaWords
import Derived.ProofKit
import Derived.OpenShut
import Derived.ShutString
import Derived.ChangeOld
import Derived.JoinedCond
import Derived.SizedLaws
import Derived.Deep.CondSized
namespace Go.Proofs.Ytnfhkmlggajhaaa
open Go.ChangeShapes Go.WideShapes Go.ChangeAt Go.RowKit

theorem own : ownKnob Try.prog.godebug = none := by kernel_rfl
theorem laidOut : laidOutB Try.prog = true := by kernel_rfl

/-- Each of these types can be read. -/
noncomputable def rowsOk (P : Program) (ts : List TypeId) : Bool := ts.all fun t => P.readableRec t && decide (t < P.types.size)

section
variable {P : Program} {H : Type} {enc : TypeId × Value → H} {W W' : World}

theorem trodAll_below (hl : laidOutB P = true) (bel : Below W.heap.size W W') : ∀ {ts : List TypeId} {vs : List Value} {ds : List (DataW H)} {p : List MemPlace}, rowsOk P ts = true →
    DataW.TrodAll enc P W 0 (fun _ => true) true ts vs ds p → DataW.TrodAll enc P W' 0 (fun b => decide (b < W.heap.size)) true ts vs ds p
  | [], [], [], _, _, h => h
  | [], _ :: _, _, _, _, h => h.elim
  | [], [], _ :: _, _, _, h => h.elim
  | _ :: _, [], _, _, _, h => h.elim
  | _ :: _, _ :: _, [], _, _, h => h.elim
  | t :: ts, v :: vs, d :: ds, p, ho, h => by
    obtain ⟨p1, p2, h1, h2, rfl⟩ := h
    have ho' : (P.readableRec t = true ∧ t < P.types.size) ∧ rowsOk P ts = true := by simpa [rowsOk] using ho
    have lt1 : ∀ x ∈ p1, x.block < W.heap.size := by
      have k1 := h1
      obtain ⟨m, hm⟩ := k1
      exact DataW.trod_lt m _ _ _ hm
    exact ⟨p1, p2, Below.trod hl ho'.1.1 ho'.1.2 h1 bel lt1, trodAll_below hl bel ho'.2 h2, rfl⟩

theorem trodAll_len : ∀ {ts : List TypeId} {vs : List Value} {ds : List (DataW H)} {p : List MemPlace}, DataW.TrodAll enc P W 0 (fun _ => true) true ts vs ds p → ds.length = ts.length ∧ vs.length = ts.length
  | [], [], [], _, _ => ⟨rfl, rfl⟩
  | [], _ :: _, _, _, h => h.elim
  | [], [], _ :: _, _, h => h.elim
  | _ :: _, [], _, _, h => h.elim
  | _ :: _, _ :: _, [], _, h => h.elim
  | _ :: _, _ :: _, _ :: _, _, h => by
    obtain ⟨_, _, _, h2, _⟩ := h
    have := trodAll_len h2
    simp [this.1, this.2]
end

section
variable {H : Type} {enc : TypeId × Value → H} {W W' : World}

/-- A law's answer: what its specification gives for every list of data of the right length. -/
def Answers (s : ChangeSpec) (n : Nat) : Prop := s.vars = [] ∧ ∀ (H : Type) (ds : List (DataW H)), ds.length = n → s.fn H ds = { results := [.lit (.bool true)], args := ds }

theorem law_post (f : Func) (s : ChangeSpec) {args : Array Value} {ds gs : List (DataW H)} {before : List MemPlace} (ha : Answers s f.params.size)
    (hres : f.resultTypes = #[4]) (hrd : rowsOk Try.prog f.params.toList = true)
    (hW : DataW.Whole enc Try.prog f.params.toList s.vars false W args.toList ds gs before) (bel : Below W.heap.size W W') :
    s.post enc Try.prog f false true false false W args (.bool true) W' := by
  have hW' := hW
  obtain ⟨hv, hfn⟩ := ha
  rw [hv] at hW'
  obtain ⟨p, q, hA, hV, rfl, -, -⟩ := hW'
  obtain ⟨rfl, rfl⟩ := trodVars_none hV
  have hl := (trodAll_len hA).1
  have e := hfn H (ds ++ []) (by rw [List.append_nil, hl, Array.length_toList])
  refine ⟨ds, [], _, [], p, [], hW, ?_, ?_, ?_, bel.frame _, fun h => by cases h⟩
  · rw [e, hres]
    exact trodAll_mk1 (shut_bool Try.underlying4 _)
  · rw [e]
    exact (List.append_nil ds).symm ▸ trodAll_below laidOut bel hrd hA
  · rw [e, hv]; rfl

/-- What a walk of a law is told: its arguments fit their types, read as data, and each string, slice and map of theirs lies within the form's reach. -/
structure Told (enc : TypeId × Value → H) (f : Func) (W : World) (base : Nat) (args : Array Value) (ds : List (DataW H)) : Prop where
  fits : ∀ (j : Nat) t v, f.params[j]? = some t → args[j]? = some v → Value.okWide Try.prog W .any base t v
  reads : ∃ p, DataW.TrodAll enc Try.prog W 0 (fun _ => true) true f.params.toList args.toList ds p
  reach : (DataW.weightsEach Try.prog f.params.toList ds).all (· ≤ reachBytes) = true

set_option maxRecDepth 100000 in
theorem law_contract (K : FuncId) (f : Func) (s : ChangeSpec) (ha : Answers s f.params.size) (hres : f.resultTypes = #[4]) (hrd : rowsOk Try.prog f.params.toList = true)
    (base : Nat) (args : Array Value) (ds gs : List (DataW H)) (before : List MemPlace)
    (hval : ∀ (j : Nat) t v, f.params[j]? = some t → args[j]? = some v → Value.okWide Try.prog W .any base t v)
    (hW : DataW.Whole enc Try.prog f.params.toList s.vars false W args.toList ds gs before)
    (hsz : (DataW.weightsEach Try.prog (f.params.toList ++ s.plain.varTypes Try.prog) (ds ++ gs)).all (· ≤ reachBytes) = true)
    (walk : Told enc f W base args ds → Calls Try.prog K args W fun e W' => e = .returned (.bool true) ∧ Below W.heap.size W W') :
    Calls Try.prog K args W fun e W' => ∃ v, e = .returned v ∧ s.post enc Try.prog f false true false false W args v W' := by
  have hW' := hW
  rw [ha.1] at hW'
  obtain ⟨p, q, hA, hV, rfl, -, -⟩ := hW'
  obtain ⟨rfl, rfl⟩ := trodVars_none hV
  have hvt : s.plain.varTypes Try.prog = [] := by unfold DataSpec.varTypes; rw [show s.plain.vars = [] from ha.1]; rfl
  rw [hvt, List.append_nil, List.append_nil] at hsz
  exact (walk ⟨hval, ⟨p, hA⟩, hsz⟩).mono fun e W' ⟨he, bel⟩ => ⟨_, he, law_post f s ha hres hrd hW bel⟩
end

section
variable {H : Type} {enc : TypeId × Value → H} {W : World} {base : Nat}

set_option maxRecDepth 100000 in
/-- An int that came in. -/
theorem in_int {t : TypeId} {v : Value} {d : DataW H} {p : List MemPlace} (ht : Try.prog.underlying t = some (.int .i64)) (hok : Value.okWide Try.prog W .any base t v) (h : DataW.Trod enc Try.prog W 0 (fun _ => true) true t v d p) :
    ∃ x : Int, v = .int .i64 x ∧ -9223372036854775808 ≤ x ∧ x ≤ 9223372036854775807 := by
  obtain ⟨x, rfl, -, -, wx⟩ := open_int ht hok h
  exact ⟨x, rfl, wf_bounds wx⟩

set_option maxRecDepth 100000 in
/-- A list of ints that came in. -/
theorem in_ints {t e : TypeId} {v : Value} {d : DataW H} {p : List MemPlace} (ht : Try.prog.underlying t = some (.slice e)) (he : Try.prog.underlying e = some (.int .i64)) (hc : Try.prog.cellsOf e = 1)
    (hok : Value.okWide Try.prog W .any base t v) (h : DataW.Trod enc Try.prog W 0 (fun _ => true) true t v d p) :
    ∃ (A : Option Addr) (c : Nat) (l : List Int), v = .slice A l.length c ∧ RowAt W W.heap.size A (ints l) ∧ AllI64 l ∧ l.length ≤ c ∧ c ≤ maxLen := by
  obtain ⟨a, len, cap, rfl⟩ := okWide_slice ht hok
  have lt1 : ∀ x ∈ p, x.block < W.heap.size := by
    have k1 := h
    obtain ⟨m, hm⟩ := k1
    exact DataW.trod_lt m _ _ _ hm
  obtain ⟨fuel, hf⟩ := h
  rcases open_ints ht he hc hf with ⟨hcs, -⟩ | ⟨x, l, c, zs, hcs, -, hl, hm, hz, hx, hcell, hwz⟩
  · simp [Value.cells] at hcs
    obtain ⟨rfl, rfl, rfl⟩ := hcs
    exact ⟨none, 0, [], rfl, RowAt.nil _ _ _, by intro x hx; simp at hx, Nat.le_refl _, Nat.zero_le _⟩
  · simp [Value.cells] at hcs
    obtain ⟨rfl, rfl, rfl⟩ := hcs
    have hz : zs.length = cap := by simpa using hz
    have hlen : (zs.take len).length = len := by rw [List.length_take, hz]; omega
    refine ⟨some x, cap, zs.take len, by rw [hlen], ?_, ?_, by omega, hm⟩
    · rcases Nat.eq_zero_or_pos zs.length with h0 | h0
      · left; rw [List.eq_nil_of_length_eq_zero h0]; simp
      · obtain ⟨b, o, rfl, hcl⟩ := ints_at hcell h0
        refine .inr ⟨b, o, rfl, ?_, fun k u hu => ?_⟩
        · have := hcl 0 h0
          rcases Nat.lt_or_ge b W.heap.size with hlt | hge
          · exact hlt
          · exfalso
            simp [World.cell?, Array.getElem?_eq_none hge] at this
        · have hk : k < (zs.take len).length := by
            rcases Nat.lt_or_ge k (zs.take len).length with hlt | hge
            · exact hlt
            · rw [ints, List.getElem?_map, List.getElem?_eq_none hge] at hu; cases hu
          rw [ints_get hk] at hu
          injection hu with hu
          subst hu
          rw [hcl k (by omega)]
          have : (zs.take len).getD k 0 = zs.getD k 0 := by
            have hk' : k < len := by omega
            simp [hk']
          rw [this]
    · intro y hy
      exact wf_bounds (hwz y (List.mem_of_mem_take hy))

set_option maxRecDepth 100000 in
/-- Two ints that came in as an array. -/
theorem in_arr2 {t e : TypeId} {v : Value} {d : DataW H} {p : List MemPlace} (ht : Try.prog.underlying t = some (.array 2 e)) (he : Try.prog.underlying e = some (.int .i64)) (hc : Try.prog.cellsOf t = 2) (hce : Try.prog.cellsOf e = 1)
    (hok : Value.okWide Try.prog W .any base t v) (h : DataW.Trod enc Try.prog W 0 (fun _ => true) true t v d p) :
    ∃ x y : Int, v = .agg #[.int .i64 x, .int .i64 y] ∧ -9223372036854775808 ≤ x ∧ x ≤ 9223372036854775807 ∧ -9223372036854775808 ≤ y ∧ y ≤ 9223372036854775807 := by
  simp only [Value.okWide, ht] at hok
  obtain ⟨cs, rfl, hs, -⟩ := hok
  rw [hc] at hs
  obtain ⟨fuel, hf⟩ := h
  obtain ⟨xs, m, -, -, -, hx, hel⟩ := DataW.trod_array ht hf
  obtain ⟨a, b, rfl⟩ : ∃ a b, cs = #[a, b] := by
    match cs, hs with
    | ⟨[a, b]⟩, _ => exact ⟨a, b, rfl⟩
  have h0 := hel 0 (by omega)
  have h1 := hel 1 (by omega)
  rw [hce] at h0 h1
  rw [List.getElem?_eq_getElem (by omega)] at h0 h1
  simp [Value.cells] at h0 h1
  obtain ⟨x, e0, -, w0⟩ := DataW.trod_int he h0
  obtain ⟨y, e1, -, w1⟩ := DataW.trod_int he h1
  simp at e0 e1
  subst e0 e1
  exact ⟨x, y, rfl, (wf_bounds w0).1, (wf_bounds w0).2, (wf_bounds w1).1, (wf_bounds w1).2⟩
end
end Go.Proofs.Ytnfhkmlggajhaaa
