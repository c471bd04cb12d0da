/-
  Several texts in one: Words, Frame, Append, Bytes, Open, More, KeyPure, SpanPure, Rng, Kind, Quiet, VrPure.
-/
import Derived.Test.YtaodifpnfejbbaaGreatRows
import Derived.WalkKit
import Derived.WalkSpells
import Derived.WalkLawsBesides
import Derived.Lib.Hide
import Derived.ProofKit
import Derived.OpenShut
import Derived.ShutString
import Derived.ChangeOld
import Derived.JoinedCond
import Derived.SizedLaws
import Derived.Deep.CondSized
import Derived.Maps.AppendAt
import Derived.Deep.AppendLies
import Derived.RegionTactic
import Derived.OwnWalk
import Derived.Laws.BytesArg
import Derived.Lib.AppendStr
import Derived.OneCell
import Derived.Deep.Slices
import Derived.Deep.Strs
import Derived.ChangeMaps5
import Derived.Outline
import Derived.Laws.OwnMore
import Derived.Deep.QuietTactic
import Derived.BigQuiet
import Derived.Lib.Bytealg
import Derived.Laws.StructEq
import Derived.Laws.Tables
import Derived.Deep.Quiet
/-
  Words for memory that this project's walks share: a row of cells that a slice reads, nil let in.
-/
namespace Go.Proofs.YtaodifpnfejbbaaGreat
open Go.RowKit

/-- The slice at A holds the cells xs, in a block below B (nothing is asked of an empty one). -/
def RowAt (w : World) (B : Nat) (A : Option Addr) (xs : List Value) : Prop :=
  xs = [] ∨ ∃ b o, A = some ⟨b, o, none⟩ ∧ b < B ∧ ∀ k u, xs[k]? = some u → w.cell? ⟨b, o + k, none⟩ = some u

theorem RowAt.nil (w : World) (B : Nat) (A : Option Addr) : RowAt w B A [] := .inl rfl
theorem RowAt.keep {w w' : World} {B : Nat} {A : Option Addr} {xs : List Value} (h : RowAt w B A xs) (hk : ∀ p : Addr, p.block < B → w'.cell? p = w.cell? p) : RowAt w' B A xs := by
  rcases h with h | ⟨b, o, h1, h2, h3⟩
  · exact .inl h
  · exact .inr ⟨b, o, h1, h2, fun k u hu => (hk _ h2).trans (h3 k u hu)⟩
theorem RowAt.below {w w' : World} {B : Nat} {A : Option Addr} {xs : List Value} (h : RowAt w B A xs) (hb : Below B w w') : RowAt w' B A xs := h.keep fun _ hp => hb.cell hp
theorem RowAt.more {w : World} {B B' : Nat} {A : Option Addr} {xs : List Value} (h : RowAt w B A xs) (hB : B ≤ B') : RowAt w B' A xs := by
  rcases h with h | ⟨b, o, h1, h2, h3⟩
  · exact .inl h
  · exact .inr ⟨b, o, h1, by omega, h3⟩

/-- Integers as cells. -/
abbrev ints (l : List Int) : List Value := l.map (Value.int .i64)
theorem ints_get {l : List Int} {k : Nat} (h : k < l.length) : (ints l)[k]? = some (.int .i64 (l.getD k 0)) := by
  simp [ints, List.getD, List.getElem?_eq_getElem h]

/-- Every number lies within an int's bounds. -/
def AllI64 (l : List Int) : Prop := ∀ x ∈ l, -9223372036854775808 ≤ x ∧ x ≤ 9223372036854775807
theorem AllI64.at_ {l : List Int} (h : AllI64 l) {k : Nat} (hk : k < l.length) : -9223372036854775808 ≤ l.getD k 0 ∧ l.getD k 0 ≤ 9223372036854775807 := by
  have := h (l[k]) (List.getElem_mem hk)
  simpa [List.getD, List.getElem?_eq_getElem hk] using this
theorem wf_bounds {x : Int} (h : (Lit.int .i64 x).wf = true) : -9223372036854775808 ≤ x ∧ x ≤ 9223372036854775807 := by
  simpa [Lit.wf, IntKind.min, IntKind.max, IntKind.signed, IntKind.bits] using h
theorem ret_int {k : IntKind} {a b : Int} (h : a = b) : Ending.returned (.int k a) = .returned (.int k b) := by rw [h]
theorem ret_bool {a b : Bool} (h : a = b) : Ending.returned (.bool a) = .returned (.bool b) := by rw [h]
end Go.Proofs.YtaodifpnfejbbaaGreat

/-
  The frame that all laws of this project share: a call that answers true and leaves all old memory alone is what the law's row says.
-/
namespace Go.Proofs.YtaodifpnfejbbaaGreat
open Go.ChangeShapes Go.WideShapes Go.ChangeAt Go.RowKit

theorem own : ownKnob Tryz.prog.godebug = none := by kernel_rfl
theorem laidOut : laidOutB Tryz.prog = true := by kernel_rfl

/-- Each of these types can be read. -/
noncomputable def rowsOk (P : Program) (ts : List TypeId) : Bool := ts.all fun t => P.readableRec t && decide (t < P.types.size)

section
variable {P : Program} {H : Type} {enc : TypeId × Value → H} {W W' : World}

theorem trodAll_below (hl : laidOutB P = true) (bel : Below W.heap.size W W') : ∀ {ts : List TypeId} {vs : List Value} {ds : List (DataW H)} {p : List MemPlace}, rowsOk P ts = true →
    DataW.TrodAll enc P W 0 (fun _ => true) true ts vs ds p → DataW.TrodAll enc P W' 0 (fun b => decide (b < W.heap.size)) true ts vs ds p
  | [], [], [], _, _, h => h
  | [], _ :: _, _, _, _, h => h.elim
  | [], [], _ :: _, _, _, h => h.elim
  | _ :: _, [], _, _, _, h => h.elim
  | _ :: _, _ :: _, [], _, _, h => h.elim
  | t :: ts, v :: vs, d :: ds, p, ho, h => by
    obtain ⟨p1, p2, h1, h2, rfl⟩ := h
    have ho' : (P.readableRec t = true ∧ t < P.types.size) ∧ rowsOk P ts = true := by simpa [rowsOk] using ho
    have lt1 : ∀ x ∈ p1, x.block < W.heap.size := by
      have k1 := h1
      obtain ⟨m, hm⟩ := k1
      exact DataW.trod_lt m _ _ _ hm
    exact ⟨p1, p2, Below.trod hl ho'.1.1 ho'.1.2 h1 bel lt1, trodAll_below hl bel ho'.2 h2, rfl⟩

theorem trodAll_len : ∀ {ts : List TypeId} {vs : List Value} {ds : List (DataW H)} {p : List MemPlace}, DataW.TrodAll enc P W 0 (fun _ => true) true ts vs ds p → ds.length = ts.length ∧ vs.length = ts.length
  | [], [], [], _, _ => ⟨rfl, rfl⟩
  | [], _ :: _, _, _, h => h.elim
  | [], [], _ :: _, _, h => h.elim
  | _ :: _, [], _, _, h => h.elim
  | _ :: _, _ :: _, [], _, h => h.elim
  | _ :: _, _ :: _, _ :: _, _, h => by
    obtain ⟨_, _, _, h2, _⟩ := h
    have := trodAll_len h2
    simp [this.1, this.2]
end

section
variable {H : Type} {enc : TypeId × Value → H} {W W' : World}

/-- A law's answer: what its specification gives for every list of data of the right length. -/
def Answers (s : ChangeSpec) (n : Nat) : Prop := s.vars = [] ∧ ∀ (H : Type) (ds : List (DataW H)), ds.length = n → s.fn H ds = { results := [.lit (.bool true)], args := ds }

theorem law_post (f : Func) (s : ChangeSpec) {args : Array Value} {ds gs : List (DataW H)} {before : List MemPlace} (ha : Answers s f.params.size)
    (hres : f.resultTypes = #[4]) (hrd : rowsOk Tryz.prog f.params.toList = true)
    (hW : DataW.Whole enc Tryz.prog f.params.toList s.vars false W args.toList ds gs before) (bel : Below W.heap.size W W') :
    s.post enc Tryz.prog f false true false false W args (.bool true) W' := by
  have hW' := hW
  obtain ⟨hv, hfn⟩ := ha
  rw [hv] at hW'
  obtain ⟨p, q, hA, hV, rfl, -, -⟩ := hW'
  obtain ⟨rfl, rfl⟩ := trodVars_none hV
  have hl := (trodAll_len hA).1
  have e := hfn H (ds ++ []) (by rw [List.append_nil, hl, Array.length_toList])
  refine ⟨ds, [], _, [], p, [], hW, ?_, ?_, ?_, bel.frame _, fun h => by cases h⟩
  · rw [e, hres]
    exact trodAll_mk1 (shut_bool Tryz.underlying4 _)
  · rw [e]
    exact (List.append_nil ds).symm ▸ trodAll_below laidOut bel hrd hA
  · rw [e, hv]; rfl

/-- What a walk of a law is told: its arguments fit their types, read as data, and each string, slice and map of theirs lies within the form's reach. -/
structure Told (enc : TypeId × Value → H) (f : Func) (W : World) (base : Nat) (args : Array Value) (ds : List (DataW H)) : Prop where
  fits : ∀ (j : Nat) t v, f.params[j]? = some t → args[j]? = some v → Value.okWide Tryz.prog W .any base t v
  reads : ∃ p, DataW.TrodAll enc Tryz.prog W 0 (fun _ => true) true f.params.toList args.toList ds p
  reach : (DataW.weightsEach Tryz.prog f.params.toList ds).all (· ≤ reachBytes) = true

set_option maxRecDepth 100000 in
theorem law_contract (K : FuncId) (f : Func) (s : ChangeSpec) (ha : Answers s f.params.size) (hres : f.resultTypes = #[4]) (hrd : rowsOk Tryz.prog f.params.toList = true)
    (base : Nat) (args : Array Value) (ds gs : List (DataW H)) (before : List MemPlace)
    (hval : ∀ (j : Nat) t v, f.params[j]? = some t → args[j]? = some v → Value.okWide Tryz.prog W .any base t v)
    (hW : DataW.Whole enc Tryz.prog f.params.toList s.vars false W args.toList ds gs before)
    (hsz : (DataW.weightsEach Tryz.prog (f.params.toList ++ s.plain.varTypes Tryz.prog) (ds ++ gs)).all (· ≤ reachBytes) = true)
    (walk : Told enc f W base args ds → Calls Tryz.prog K args W fun e W' => e = .returned (.bool true) ∧ Below W.heap.size W W') :
    Calls Tryz.prog K args W fun e W' => ∃ v, e = .returned v ∧ s.post enc Tryz.prog f false true false false W args v W' := by
  have hW' := hW
  rw [ha.1] at hW'
  obtain ⟨p, q, hA, hV, rfl, -, -⟩ := hW'
  obtain ⟨rfl, rfl⟩ := trodVars_none hV
  have hvt : s.plain.varTypes Tryz.prog = [] := by unfold DataSpec.varTypes; rw [show s.plain.vars = [] from ha.1]; rfl
  rw [hvt, List.append_nil, List.append_nil] at hsz
  exact (walk ⟨hval, ⟨p, hA⟩, hsz⟩).mono fun e W' ⟨he, bel⟩ => ⟨_, he, law_post f s ha hres hrd hW bel⟩
end

section
variable {H : Type} {enc : TypeId × Value → H} {W : World} {base : Nat}

set_option maxRecDepth 100000 in
/-- An int that came in. -/
theorem in_int {t : TypeId} {v : Value} {d : DataW H} {p : List MemPlace} (ht : Tryz.prog.underlying t = some (.int .i64)) (hok : Value.okWide Tryz.prog W .any base t v) (h : DataW.Trod enc Tryz.prog W 0 (fun _ => true) true t v d p) :
    ∃ x : Int, v = .int .i64 x ∧ -9223372036854775808 ≤ x ∧ x ≤ 9223372036854775807 := by
  obtain ⟨x, rfl, -, -, wx⟩ := open_int ht hok h
  exact ⟨x, rfl, wf_bounds wx⟩

set_option maxRecDepth 100000 in
/-- A list of ints that came in. -/
theorem in_ints {t e : TypeId} {v : Value} {d : DataW H} {p : List MemPlace} (ht : Tryz.prog.underlying t = some (.slice e)) (he : Tryz.prog.underlying e = some (.int .i64)) (hc : Tryz.prog.cellsOf e = 1)
    (hok : Value.okWide Tryz.prog W .any base t v) (h : DataW.Trod enc Tryz.prog W 0 (fun _ => true) true t v d p) :
    ∃ (A : Option Addr) (c : Nat) (l : List Int), v = .slice A l.length c ∧ RowAt W W.heap.size A (ints l) ∧ AllI64 l ∧ l.length ≤ c ∧ c ≤ maxLen := by
  obtain ⟨a, len, cap, rfl⟩ := okWide_slice ht hok
  have lt1 : ∀ x ∈ p, x.block < W.heap.size := by
    have k1 := h
    obtain ⟨m, hm⟩ := k1
    exact DataW.trod_lt m _ _ _ hm
  obtain ⟨fuel, hf⟩ := h
  rcases open_ints ht he hc hf with ⟨hcs, -⟩ | ⟨x, l, c, zs, hcs, -, hl, hm, hz, hx, hcell, hwz⟩
  · simp [Value.cells] at hcs
    obtain ⟨rfl, rfl, rfl⟩ := hcs
    exact ⟨none, 0, [], rfl, RowAt.nil _ _ _, by intro x hx; simp at hx, Nat.le_refl _, Nat.zero_le _⟩
  · simp [Value.cells] at hcs
    obtain ⟨rfl, rfl, rfl⟩ := hcs
    have hz : zs.length = cap := by simpa using hz
    have hlen : (zs.take len).length = len := by rw [List.length_take, hz]; omega
    refine ⟨some x, cap, zs.take len, by rw [hlen], ?_, ?_, by omega, hm⟩
    · rcases Nat.eq_zero_or_pos zs.length with h0 | h0
      · left; rw [List.eq_nil_of_length_eq_zero h0]; simp
      · obtain ⟨b, o, rfl, hcl⟩ := ints_at hcell h0
        refine .inr ⟨b, o, rfl, ?_, fun k u hu => ?_⟩
        · have := hcl 0 h0
          rcases Nat.lt_or_ge b W.heap.size with hlt | hge
          · exact hlt
          · exfalso
            simp [World.cell?, Array.getElem?_eq_none hge] at this
        · have hk : k < (zs.take len).length := by
            rcases Nat.lt_or_ge k (zs.take len).length with hlt | hge
            · exact hlt
            · rw [ints, List.getElem?_map, List.getElem?_eq_none hge] at hu; cases hu
          rw [ints_get hk] at hu
          injection hu with hu
          subst hu
          rw [hcl k (by omega)]
          have : (zs.take len).getD k 0 = zs.getD k 0 := by
            have hk' : k < len := by omega
            simp [hk']
          rw [this]
    · intro y hy
      exact wf_bounds (hwz y (List.mem_of_mem_take hy))

set_option maxRecDepth 100000 in
/-- Two ints that came in as an array. -/
theorem in_arr2 {t e : TypeId} {v : Value} {d : DataW H} {p : List MemPlace} (ht : Tryz.prog.underlying t = some (.array 2 e)) (he : Tryz.prog.underlying e = some (.int .i64)) (hc : Tryz.prog.cellsOf t = 2) (hce : Tryz.prog.cellsOf e = 1)
    (hok : Value.okWide Tryz.prog W .any base t v) (h : DataW.Trod enc Tryz.prog W 0 (fun _ => true) true t v d p) :
    ∃ x y : Int, v = .agg #[.int .i64 x, .int .i64 y] ∧ -9223372036854775808 ≤ x ∧ x ≤ 9223372036854775807 ∧ -9223372036854775808 ≤ y ∧ y ≤ 9223372036854775807 := by
  simp only [Value.okWide, ht] at hok
  obtain ⟨cs, rfl, hs, -⟩ := hok
  rw [hc] at hs
  obtain ⟨fuel, hf⟩ := h
  obtain ⟨xs, m, -, -, -, hx, hel⟩ := DataW.trod_array ht hf
  obtain ⟨a, b, rfl⟩ : ∃ a b, cs = #[a, b] := by
    match cs, hs with
    | ⟨[a, b]⟩, _ => exact ⟨a, b, rfl⟩
  have h0 := hel 0 (by omega)
  have h1 := hel 1 (by omega)
  rw [hce] at h0 h1
  rw [List.getElem?_eq_getElem (by omega)] at h0 h1
  simp [Value.cells] at h0 h1
  obtain ⟨x, e0, -, w0⟩ := DataW.trod_int he h0
  obtain ⟨y, e1, -, w1⟩ := DataW.trod_int he h1
  simp at e0 e1
  subst e0 e1
  exact ⟨x, y, rfl, (wf_bounds w0).1, (wf_bounds w0).2, (wf_bounds w1).1, (wf_bounds w1).2⟩
end
end Go.Proofs.YtaodifpnfejbbaaGreat

/-
  append of a row that is read ('RowAt', nil and empty let in) to a row of the call's own, as a law of the walk.
-/
namespace Go.Proofs.YtaodifpnfejbbaaGreat
open Go.RowKit

section
variable {P : Program} (w : World)

theorem append_row (base : Nat) (t ty e : TypeId) (i : TypeInfo) (z : Value) (size bytes : Nat) (ht : P.underlying t = some (.slice e)) (hi : P.info? e = some i) (hz : i.zero = some z)
    (hsize : i.size = size) (hby : i.bytes = bytes) (hzs : z.cells.size = size) (hsz : 0 < size)
    (v : Value) (n : Nat) (xs : List Value) (hown : w.ownsRow base e size v n xs)
    (B : Nat) (A : Option Addr) (m c : Nat) (news : List Value) (hl : news.length = m * size) (hr : RowAt w B A news) (h1 : ∀ u ∈ news, u.oneCell' = true)
    (h63 : n + m ≤ maxLen) (hbytes : (n + m) * bytes ≤ 140737488355328) (hbase : base ≤ w.heap.size) :
    ∃ v' w', (Builtin.append_ #[t, t] ty #[v, .slice A m c]).run P w = .ok v' w' ∧ w'.ownsRow base e size v' (n + m) (xs ++ news) ∧ w.grownBy w' v.ownBlock ∧
      (v'.ownBlock = v.ownBlock ∨ v'.ownBlock = some w.heap.size) := by
  cases A with
  | none =>
    have hn : news = [] := by
      rcases hr with h | ⟨b, o, h, _⟩
      · exact h
      · cases h
    have hm : m = 0 := by
      rw [hn] at hl
      rcases Nat.eq_zero_or_pos m with h | h
      · exact h
      · have := Nat.mul_pos h hsz
        simp at hl
        omega
    subst hm
    subst hn
    refine ⟨v, w, ?_, by simpa using hown, World.grownBy.refl w _, .inl rfl⟩
    rcases hown.2 with ⟨rfl, rfl⟩ | ⟨g, cap, cur, rfl, _, _, hnc, _⟩
    · simp [Builtin.append_, run_underlying ht, sizeOf, typeInfo, hi, Builtin.lenOf, Builtin.firstCells]
    · simp [Builtin.append_, run_underlying ht, sizeOf, typeInfo, hi, Builtin.lenOf, Builtin.firstCells, hnc, storeCells]
  | some ad =>
    have hcells : ∀ j u, news[j]? = some u → w.cell? (ad.add j) = some u := by
      intro j u hu
      rcases hr with h | ⟨b, o, h, _, hc⟩
      · rw [h] at hu; simp at hu
      · injection h with h
        subst h
        rw [Go.WideShapes.add_plain]
        exact hc j u hu
    obtain ⟨v', w', hrun, h2, h3, -, h5⟩ := run_append_own_at (P := P) w base t ty e i z size bytes ht hi hz hsize hby hzs hsz v n xs hown ad m c news hl hcells h1 h63 hbytes hbase
    exact ⟨v', w', hrun, h2, h3, h5⟩

theorem wp_append_row {o : Oper} {a : Act} {K : Act → World → Prop} {Q : Exit → Act → World → Prop} (s x : Operand) (t : TypeId)
    (ho : o.op = .call { callee := .builtin .append, args := #[s, x], argTypes := #[t, t] })
    (base : Nat) (e : TypeId) (i : TypeInfo) (z : Value) (size bytes : Nat) (ht : P.underlying t = some (.slice e)) (hi : P.info? e = some i) (hz : i.zero = some z)
    (hsize : i.size = size) (hby : i.bytes = bytes) (hzs : z.cells.size = size) (hsz : 0 < size)
    (v : Value) (n : Nat) (xs : List Value) (hs : a.eval s = v) (hown : w.ownsRow base e size v n xs)
    (B : Nat) (A : Option Addr) (m c : Nat) (news : List Value) (hx : a.eval x = .slice A m c) (hl : news.length = m * size) (hr : RowAt w B A news) (h1 : ∀ u ∈ news, u.oneCell' = true)
    (h63 : n + m ≤ maxLen) (hbytes : (n + m) * bytes ≤ 140737488355328) (hbase : base ≤ w.heap.size)
    (h : ∀ v' w', w'.ownsRow base e size v' (n + m) (xs ++ news) → w.grownBy w' v.ownBlock → (v'.ownBlock = v.ownBlock ∨ v'.ownBlock = some w.heap.size) → K (a.put o.dst v') w') : o.wp P a w K Q := by
  obtain ⟨v', w', hrun, h2, h3, h4⟩ := append_row (P := P) w base t o.type e i z size bytes ht hi hz hsize hby hzs hsz v n xs hown B A m c news hl hr h1 h63 hbytes hbase
  unfold Oper.wp execOp
  simp only [ho, resolve, invoke, builtin, Sem.run_bind, Sem.run_pure, Result.andThen_ok, List.map_toArray, List.map_cons, List.map_nil, hs, hx, hrun]
  exact h v' w' h2 h3 h4

theorem wpList_append_row {ops : Array Oper} {rest : List Oper} {o : Oper} {a : Act} {Q : Exit → Act → World → Prop} (hgd : o.guard = none) (s x : Operand) (t : TypeId)
    (ho : o.op = .call { callee := .builtin .append, args := #[s, x], argTypes := #[t, t] })
    (base : Nat) (e : TypeId) (i : TypeInfo) (z : Value) (size bytes : Nat) (ht : P.underlying t = some (.slice e)) (hi : P.info? e = some i) (hz : i.zero = some z)
    (hsize : i.size = size) (hby : i.bytes = bytes) (hzs : z.cells.size = size) (hsz : 0 < size)
    (v : Value) (n : Nat) (xs : List Value) (hs : a.eval s = v) (hown : w.ownsRow base e size v n xs)
    (B : Nat) (A : Option Addr) (m c : Nat) (news : List Value) (hx : a.eval x = .slice A m c) (hl : news.length = m * size) (hr : RowAt w B A news) (h1 : ∀ u ∈ news, u.oneCell' = true)
    (h63 : n + m ≤ maxLen) (hbytes : (n + m) * bytes ≤ 140737488355328) (hbase : base ≤ w.heap.size)
    (h : ∀ v' w', w'.ownsRow base e size v' (n + m) (xs ++ news) → w.grownBy w' v.ownBlock → (v'.ownBlock = v.ownBlock ∨ v'.ownBlock = some w.heap.size) → wpList P ops Q rest (a.put o.dst v') w') : wpList P ops Q (o :: rest) a w :=
  wpList_plain hgd fun _ hK => wp_append_row w s x t ho base e i z size bytes ht hi hz hsize hby hzs hsz v n xs hs hown B A m c news hx hl hr h1 h63 hbytes hbase fun v' w' h2 h3 h4 => hK _ _ (h v' w' h2 h3 h4)
end

/-- A row of the call's own reads as a row. -/
theorem RowAt.of_own {w : World} {base : Nat} {e : TypeId} {size n c : Nat} {A : Option Addr} {xs : List Value} (h : w.ownsRow base e size (.slice A n c) n xs) : RowAt w w.heap.size A xs := by
  rcases h.2 with ⟨_, h0⟩ | ⟨g, cap, cur, hv, _, hg, _, _, _, ht⟩
  · left
    have := h.1
    rw [h0, Nat.zero_mul] at this
    exact List.eq_nil_of_length_eq_zero this
  · injection hv with hA _ _
    have hlt : g < w.heap.size := by
      rcases Nat.lt_or_ge g w.heap.size with hlt | hge
      · exact hlt
      · rw [Array.getElem?_eq_none hge] at hg; cases hg
    refine .inr ⟨g, 0, hA, hlt, fun k u hu => ?_⟩
    rw [cell_of_row _ _ _ cur e (0, 0) hg, ← Array.getElem?_toList]
    rw [← ht] at hu
    rw [List.getElem?_take] at hu
    split at hu
    · simpa using hu
    · cases hu
/-- What an owned value looks like. -/
theorem own_form {w : World} {base : Nat} {e : TypeId} {size n : Nat} {v : Value} {xs : List Value} (h : w.ownsRow base e size v n xs) : ∃ A c, v = .slice A n c ∧ n ≤ c := by
  rcases h.2 with ⟨rfl, rfl⟩ | ⟨g, cap, cur, rfl, _, _, hc, _⟩
  · exact ⟨none, 0, rfl, Nat.le_refl _⟩
  · exact ⟨_, cap, rfl, hc⟩
end Go.Proofs.YtaodifpnfejbbaaGreat

/-
  Words for bytes that this project's walks share: a row of bytes, a row of the call's own, a string out of a list.
-/
namespace Go.Proofs.YtaodifpnfejbbaaGreat
open Go.RowKit

theorem byte_info : (Tryz.prog.info? 5).map (fun i => (i.zero, i.size, i.bytes)) = some (some (.int .u8 0), 1, 1) := by kernel_rfl
/-- Bytes as cells. -/
abbrev bytes (l : List UInt8) : List Value := l.map fun c => Value.int .u8 (c.toNat : Int)
theorem bytes_len (l : List UInt8) : (bytes l).length = l.length * 1 := by simp
theorem bytes_one (l : List UInt8) : ∀ u ∈ bytes l, u.oneCell' = true := by
  intro u hu
  obtain ⟨x, _, rfl⟩ := List.mem_map.1 hu
  rfl
theorem bytes_get {l : List UInt8} {k : Nat} (h : k < l.length) : (bytes l)[k]? = some (.int .u8 ((l.getD k 0).toNat : Int)) := by
  simp [bytes, List.getD, List.getElem?_eq_getElem h]
theorem bytes_append (a b : List UInt8) : bytes a ++ bytes b = bytes (a ++ b) := by simp
theorem bytes_inj {a b : List UInt8} (h : bytes a = bytes b) : a = b := by
  induction a generalizing b with
  | nil => cases b with
    | nil => rfl
    | cons y r => simp at h
  | cons x l ih => cases b with
    | nil => simp at h
    | cons y r =>
      simp only [bytes, List.map_cons, List.cons.injEq, Value.int.injEq, true_and] at h
      have e : x = y := UInt8.toNat_inj.1 (by have := h.1; omega)
      rw [e, ih h.2]

/-- A string of bytes. -/
def str (l : List UInt8) : ByteArray := ⟨l.toArray⟩
theorem str_size (l : List UInt8) : (str l).size = l.length := by simp [str, ByteArray.size]
theorem str_data (l : List UInt8) : (str l).data.toList = l := by simp [str]
theorem str_toList (l : List UInt8) : (str l).toList = l := by rw [ByteArray.toList_eq, str_data]
theorem str_of (s : ByteArray) : str s.data.toList = s := by simp [str]
theorem str_drop (l : List UInt8) (k : Nat) : (str l).extract k l.length = str (l.drop k) := by
  rw [str, ByteArray.extract_mk, str, List.take_of_length_le (by simp)]
theorem str_take (l : List UInt8) (k : Nat) : (str l).extract 0 k = str (l.take k) := by
  rw [str, ByteArray.extract_mk, str]
  simp
theorem str_get (l : List UInt8) (k : Nat) (h : k < l.length) : (str l)[k]'(by rw [str_size]; exact h) = l.getD k 0 := by
  show l.toArray[k]'(by simpa using h) = _
  simp [List.getD, List.getElem?_eq_getElem h]
theorem str_inj {a b : List UInt8} (h : str a = str b) : a = b := by
  have := congrArg (fun s : ByteArray => s.data.toList) h
  simpa [str_data] using this
theorem strCells_str (l : List UInt8) : Lib.strCells (str l) = bytes l := by simp [Lib.strCells, str_data]

/-- A row of bytes of the call's own. -/
def OwnB (w : World) (base : Nat) (v : Value) (l : List UInt8) : Prop := w.ownsRow base 5 1 v l.length (bytes l)
theorem OwnB.row {w : World} {base : Nat} {v : Value} {l : List UInt8} (h : OwnB w base v l) : w.ownsRow base 5 1 v l.length (bytes l) := h
theorem OwnB.of_row {w : World} {base n : Nat} {v : Value} {l : List UInt8} (h : w.ownsRow base 5 1 v n (bytes l)) : OwnB w base v l := by
  have := h.1
  rw [bytes_len] at this
  obtain rfl : l.length = n := by omega
  exact h
theorem OwnB.form {w : World} {base : Nat} {v : Value} {l : List UInt8} (h : OwnB w base v l) : ∃ A c, v = .slice A l.length c ∧ l.length ≤ c ∧ c ≤ maxLen ∧ RowAt w w.heap.size A (bytes l) ∧ (∀ k, v.ownBlock = some k → base ≤ k ∧ k < w.heap.size) := by
  obtain ⟨A, c, rfl, hc⟩ := own_form h
  refine ⟨A, c, rfl, hc, ?_, RowAt.of_own h, World.ownsRow.lt h⟩
  rcases h.2 with ⟨hv, _⟩ | ⟨g, cap, cur, hv, _, _, _, hm, _⟩
  · injection hv with _ _ h3
    subst h3
    exact Nat.zero_le _
  · injection hv with _ _ h3
    subst h3
    exact hm
/-- A row that reads as these bytes, with its room: what a call that only reads is handed. -/
structure RdB (w : World) (B : Nat) (A : Option Addr) (c : Nat) (l : List UInt8) : Prop where
  row : RowAt w B A (bytes l)
  room : l.length ≤ c
  cap : c ≤ maxLen
theorem RdB.keep {w w' : World} {B : Nat} {A : Option Addr} {c : Nat} {l : List UInt8} (h : RdB w B A c l) (hk : ∀ p : Addr, p.block < B → w'.cell? p = w.cell? p) : RdB w' B A c l := ⟨h.row.keep hk, h.room, h.cap⟩
theorem RdB.below {w w' : World} {B : Nat} {A : Option Addr} {c : Nat} {l : List UInt8} (h : RdB w B A c l) (hb : Below B w w') : RdB w' B A c l := ⟨h.row.below hb, h.room, h.cap⟩
theorem RdB.more {w : World} {B B' : Nat} {A : Option Addr} {c : Nat} {l : List UInt8} (h : RdB w B A c l) (hB : B ≤ B') : RdB w B' A c l := ⟨h.row.more hB, h.room, h.cap⟩
theorem OwnB.read {w : World} {base : Nat} {v : Value} {l : List UInt8} (h : OwnB w base v l) : ∃ A c, v = .slice A l.length c ∧ RdB w w.heap.size A c l := by
  obtain ⟨A, c, h1, h2, h3, h4, _⟩ := h.form
  exact ⟨A, c, h1, h4, h2, h3⟩
theorem RowAt.bytes_at {w : World} {B : Nat} {A : Option Addr} {l : List UInt8} (h : RowAt w B A (bytes l)) (hp : 0 < l.length) :
    ∃ b o, A = some ⟨b, o, none⟩ ∧ b < B ∧ ∀ k, k < l.length → w.cell? ⟨b, o + k, none⟩ = some (.int .u8 ((l.getD k 0).toNat : Int)) := by
  rcases h with h | ⟨b, o, h1, h2, h3⟩
  · have : l = [] := by simpa [bytes] using h
    subst this; simp at hp
  · exact ⟨b, o, h1, h2, fun k hk => h3 k _ (bytes_get hk)⟩

/-- What comes back is a row of the call's own that holds l; below base all is as it was. -/
def RetB (base : Nat) (w : World) (l : List UInt8) (e : Ending) (w' : World) : Prop := ∃ v, e = .returned v ∧ OwnB w' base v l ∧ Below base w w'

theorem heap_new (w : World) (o : Obj) (g : Nat) (h : g = w.heap.size) : (w.alloc o).heap[g]? = some o := by subst h; exact heap_alloc_new w o
theorem RowAt.of_block {w : World} {g : Nat} {cs : Array Value} {t : TypeId} {f : Nat × Nat} (h : w.heap[g]? = some (.cells cs t f)) : RowAt w (g + 1) (some ⟨g, 0, none⟩) cs.toList := by
  refine .inr ⟨g, 0, rfl, by omega, fun k u hu => ?_⟩
  rw [cell_of_row _ _ _ cs t f h]
  simpa using hu
theorem own_none (w : World) (e : TypeId) (size : Nat) : (w.alloc (.cells #[] e)).ownsRow w.heap.size e size (.slice (some ⟨w.heap.size, 0, none⟩) 0 0) 0 [] :=
  ⟨by simp, .inr ⟨w.heap.size, 0, #[], rfl, Nat.le_refl _, heap_alloc_new w _, Nat.le_refl _, Nat.zero_le _, by simp, by simp⟩⟩
theorem own_base {w : World} {base : Nat} {e : TypeId} {size n : Nat} {v : Value} {xs : List Value} (h : w.ownsRow base e size v n xs) : ∀ k, v.ownBlock = some k → base ≤ k := fun k hk => (World.ownsRow.lt h k hk).1
/-- Old cells and marks read as they did. -/
theorem bcell {B : Nat} {W w1 : World} (hb : Below B W w1) : (∀ b o, b < B → w1.cell? ⟨b, o, none⟩ = W.cell? ⟨b, o, none⟩) ∧ (∀ b o, b < B → w1.frozen? ⟨b, o, none⟩ = W.frozen? ⟨b, o, none⟩) :=
  ⟨fun b o h => hb.cell (p := ⟨b, o, none⟩) h, fun b o h => hb.frozen (p := ⟨b, o, none⟩) h⟩
/-- What grew by no row of ours is, below its first new block, as it was; and back. -/
theorem grown_none {w w' : World} (h : w.grownBy w' none) : Below w.heap.size w w' := (Below.refl _ _).grown h (Nat.le_refl _) (fun k hk => by cases hk)
theorem grown_of_below {w w' : World} (h : Below w.heap.size w w') (row : Option Nat) : w.grownBy w' row := ⟨h.os, h.tape, h.output, h.size, fun k hk _ => h.block k hk⟩

theorem RowAt.ints_at {w : World} {B : Nat} {A : Option Addr} {l : List Int} (h : RowAt w B A (ints l)) (hp : 0 < l.length) :
    ∃ b o, A = some ⟨b, o, none⟩ ∧ b < B ∧ ∀ k, k < l.length → w.cell? ⟨b, o + k, none⟩ = some (.int .i64 (l.getD k 0)) := by
  rcases h with h | ⟨b, o, h1, h2, h3⟩
  · have : l = [] := by simpa [ints] using h
    subst this; simp at hp
  · exact ⟨b, o, h1, h2, fun k hk => h3 k _ (ints_get hk)⟩
/-- Strings as cells. -/
abbrev strs (l : List (List UInt8)) : List Value := l.map fun s => Value.string (str s)
theorem strs_get {l : List (List UInt8)} {k : Nat} (h : k < l.length) : (strs l)[k]? = some (.string (str (l.getD k []))) := by
  simp [strs, List.getD, List.getElem?_eq_getElem h]
theorem RowAt.strs_at {w : World} {B : Nat} {A : Option Addr} {l : List (List UInt8)} (h : RowAt w B A (strs l)) (hp : 0 < l.length) :
    ∃ b o, A = some ⟨b, o, none⟩ ∧ b < B ∧ ∀ k, k < l.length → w.cell? ⟨b, o + k, none⟩ = some (.string (str (l.getD k []))) := by
  rcases h with h | ⟨b, o, h1, h2, h3⟩
  · have : l = [] := by simpa [strs] using h
    subst this; simp at hp
  · exact ⟨b, o, h1, h2, fun k hk => h3 k _ (strs_get hk)⟩
/-- A block of one byte that has just been made. -/
theorem byte_row (w : World) (x : Int) (c : UInt8) (h : x = (c.toNat : Int)) : RowAt (w.alloc (.cells #[.int .u8 x] 5)) (w.heap.size + 1) (some ⟨w.heap.size, 0, none⟩) (bytes [c]) := by
  subst h
  exact RowAt.of_block (heap_new w _ _ rfl)
theorem OwnB.alloc {w : World} {base : Nat} {v : Value} {l : List UInt8} (h : OwnB w base v l) (o : Obj) : OwnB (w.alloc o) base v l := World.ownsRow.alloc h o
theorem OwnB.kept {w w' : World} {row : Option Nat} {base : Nat} {v : Value} {l : List UInt8} (h : OwnB w base v l) (hg : w.grownBy w' row) (hne : v.ownBlock = none ∨ v.ownBlock ≠ row) : OwnB w' base v l := World.ownsRow.kept h hg hne
theorem OwnB.lt {w : World} {base : Nat} {v : Value} {l : List UInt8} (h : OwnB w base v l) : ∀ k, v.ownBlock = some k → base ≤ k ∧ k < w.heap.size := World.ownsRow.lt h
/-- What was the call's own before a call that makes new blocks alone is so behind it. -/
theorem OwnB.below {w w' : World} {base : Nat} {v : Value} {l : List UInt8} (h : OwnB w base v l) (hb : Below w.heap.size w w') : OwnB w' base v l :=
  h.kept (grown_of_below hb none) (by cases hv : v.ownBlock <;> simp)
theorem OwnB.mono {w : World} {base base' : Nat} {v : Value} {l : List UInt8} (h : OwnB w base v l) (hb : base' ≤ base) : OwnB w base' v l := by
  obtain ⟨h1, h2⟩ := h
  refine ⟨h1, ?_⟩
  rcases h2 with h2 | ⟨g, cap, cur, hv, hg, r⟩
  · exact .inl h2
  · exact .inr ⟨g, cap, cur, hv, by omega, r⟩

theorem wpList_app_row_g {w : World} {ops : Array Oper} {rest : List Oper} {o : Oper} {a : Act} {Q : Exit → Act → World → Prop} (hgd : Region.wanted o (yielded ops a.tmps) = true) (s x : Operand)
    (ho : o.op = .call { callee := .builtin .append, args := #[s, x], argTypes := #[112, 112] })
    (base : Nat) (v : Value) (xs : List UInt8) (hs : a.eval s = v) (hown : OwnB w base v xs)
    (B : Nat) (A : Option Addr) (c n : Nat) (ys : List UInt8) (hn : n = ys.length) (hx : a.eval x = .slice A n c) (hr : RowAt w B A (bytes ys)) (hlen : xs.length + ys.length ≤ 140737488355328) (hbase : base ≤ w.heap.size)
    (h : ∀ v' w', OwnB w' base v' (xs ++ ys) → w.grownBy w' v.ownBlock → Below base w w' → (v'.ownBlock = v.ownBlock ∨ v'.ownBlock = some w.heap.size) → wpList Tryz.prog ops Q rest (a.put o.dst v') w') : wpList Tryz.prog ops Q (o :: rest) a w := by
  obtain ⟨i0, hi0, hz0, hz1, hz2⟩ := info_parts byte_info
  subst hn
  refine wpList_step fun K hK => ?_
  rw [if_pos hgd]
  refine wp_append_row w s x _ ho base 5 i0 _ 1 1 Tryz.underlying112 hi0 hz0 hz1 hz2 rfl Nat.one_pos v xs.length (bytes xs) hs hown.row B A ys.length c (bytes ys) hx (bytes_len ys) hr (bytes_one ys) (by unfold maxLen; omega) (by omega) hbase fun v' w' h1 h2 h3 => hK _ _ ?_
  refine h v' w' ?_ h2 ((Below.refl _ _).grown h2 hbase (own_base hown.row)) h3
  rw [bytes_append] at h1
  exact OwnB.of_row h1
theorem wpList_app_row {w : World} {ops : Array Oper} {rest : List Oper} {o : Oper} {a : Act} {Q : Exit → Act → World → Prop} (hgd : o.guard = none) (s x : Operand)
    (ho : o.op = .call { callee := .builtin .append, args := #[s, x], argTypes := #[112, 112] })
    (base : Nat) (v : Value) (xs : List UInt8) (hs : a.eval s = v) (hown : OwnB w base v xs)
    (B : Nat) (A : Option Addr) (c n : Nat) (ys : List UInt8) (hn : n = ys.length) (hx : a.eval x = .slice A n c) (hr : RowAt w B A (bytes ys)) (hlen : xs.length + ys.length ≤ 140737488355328) (hbase : base ≤ w.heap.size)
    (h : ∀ v' w', OwnB w' base v' (xs ++ ys) → w.grownBy w' v.ownBlock → Below base w w' → (v'.ownBlock = v.ownBlock ∨ v'.ownBlock = some w.heap.size) → wpList Tryz.prog ops Q rest (a.put o.dst v') w') : wpList Tryz.prog ops Q (o :: rest) a w :=
  wpList_app_row_g (by simp [Region.wanted, hgd]) s x ho base v xs hs hown B A c n ys hn hx hr hlen hbase h

theorem wpList_app_str {w : World} {ops : Array Oper} {rest : List Oper} {o : Oper} {a : Act} {Q : Exit → Act → World → Prop} (hgd : o.guard = none) (s x : Operand)
    (ho : o.op = .call { callee := .builtin .append, args := #[s, x], argTypes := #[112, 9] })
    (base : Nat) (v : Value) (xs : List UInt8) (hs : a.eval s = v) (hown : OwnB w base v xs)
    (y : ByteArray) (hx : a.eval x = .string y) (hlen : xs.length + y.data.toList.length ≤ 140737488355328) (hbase : base ≤ w.heap.size)
    (h : ∀ v' w', OwnB w' base v' (xs ++ y.data.toList) → w.grownBy w' v.ownBlock → Below base w w' → wpList Tryz.prog ops Q rest (a.put o.dst v') w') : wpList Tryz.prog ops Q (o :: rest) a w := by
  obtain ⟨i0, hi0, hz0, hz1, hz2⟩ := info_parts byte_info
  have hsz : y.size = y.data.toList.length := Array.length_toList.symm
  refine Lib.wpList_append_own_string w hgd s x _ _ ho base 5 i0 Tryz.underlying112 Tryz.underlying9 hi0 hz0 hz1 hz2 v xs.length (bytes xs) hs hown.row y hx (by unfold maxLen; omega) (by omega) hbase fun v' w' h1 h2 _ => ?_
  refine h v' w' ?_ h2 ((Below.refl _ _).grown h2 hbase (own_base hown.row))
  have e : Lib.strCells y = bytes y.data.toList := rfl
  rw [e, bytes_append] at h1
  exact OwnB.of_row h1
end Go.Proofs.YtaodifpnfejbbaaGreat

/-
  What came in, opened: slices of elements of any number of cells, bytes, texts.
-/
namespace Go.Proofs.YtaodifpnfejbbaaGreat
open Go.ChangeShapes Go.WideShapes Go.ChangeAt Go.RowKit

theorem flat_get {α : Type} (E : α → List Value) (k : Nat) : ∀ (l : List α), (∀ x ∈ l, (E x).length = k) → ∀ j u, (l.flatMap E)[j]? = some u →
    ∃ i r, j = i * k + r ∧ r < k ∧ ∃ x, l[i]? = some x ∧ (E x)[r]? = some u
  | [], _, j, u, h => by simp at h
  | y :: l, hk, j, u, h => by
    have hy := hk y (by simp)
    rw [List.flatMap_cons] at h
    rcases Nat.lt_or_ge j k with hj | hj
    · rw [List.getElem?_append_left (by omega)] at h
      exact ⟨0, j, by omega, hj, y, rfl, h⟩
    · rw [List.getElem?_append_right (by omega), hy] at h
      obtain ⟨i, r, h1, h2, x, h3, h4⟩ := flat_get E k l (fun x hx => hk x (by simp [hx])) (j - k) u h
      exact ⟨i + 1, r, by rw [Nat.add_mul]; omega, h2, x, by simpa using h3, h4⟩

theorem flat_one {α : Type} (f : α → Value) : ∀ l : List α, l.flatMap (fun x => [f x]) = l.map f
  | [] => rfl
  | x :: l => by rw [List.flatMap_cons, flat_one f l]; rfl

section
variable {H : Type} {enc : TypeId × Value → H} {W : World} {base : Nat}

set_option maxRecDepth 100000 in
/-- A slice that came in, whatever its elements: each is what E says of some x that is good. -/
theorem in_slice {α : Type} (E : α → List Value) (Good : α → Prop) {t e : TypeId} {k : Nat} {v : Value} {d : DataW H} {p : List MemPlace} (ht : Tryz.prog.underlying t = some (.slice e)) (hc : Tryz.prog.cellsOf e = k) (hk : 0 < k)
    (hE : ∀ (n : Nat) (cs : List Value) (y : DataW H × List MemPlace), cs.length = k → DataW.trod enc Tryz.prog W 0 (fun _ => true) true n e cs = some y → ∃ x, cs = E x ∧ Good x)
    (hok : Value.okWide Tryz.prog W .any base t v) (h : DataW.Trod enc Tryz.prog W 0 (fun _ => true) true t v d p) :
    ∃ (A : Option Addr) (c : Nat) (l : List α), v = .slice A l.length c ∧ RowAt W W.heap.size A (l.flatMap E) ∧ (∀ x ∈ l, Good x) ∧ l.length ≤ c ∧ c ≤ maxLen := by
  obtain ⟨a, len, cap, rfl⟩ := okWide_slice ht hok
  obtain ⟨fuel, hf⟩ := h
  rcases Go.Deep.open_slice ht hf with ⟨hcs, -⟩ | ⟨x, l', c', m, n, D, Pl, hcs, -, hl, hm, hmm, -, hi⟩
  · simp [Value.cells] at hcs
    obtain ⟨rfl, rfl, rfl⟩ := hcs
    exact ⟨none, 0, [], rfl, RowAt.nil _ _ _, by intro x hx; simp at hx, Nat.le_refl _, Nat.zero_le _⟩
  · simp [Value.cells] at hcs
    obtain ⟨rfl, rfl, rfl⟩ := hcs
    simp only [if_true] at hmm
    subst hmm
    have each : ∀ i, i < len → ∃ y : α, Good y ∧ (E y).length = k ∧ ∀ r, r < k → W.cell? (x.add (i * k + r)) = (E y)[r]? := by
      intro i hil
      obtain ⟨cs', h1, h2⟩ := hi i (by omega)
      obtain ⟨_, h4, h5⟩ := World.cells?_some h1
      rw [hc] at h4 h5
      obtain ⟨y, rfl, hg⟩ := hE n cs' _ h4 h2
      refine ⟨y, hg, h4, fun r hr => ?_⟩
      rw [← h5 r hr, Go.Deep.add_add]
    rcases Nat.eq_zero_or_pos len with h0 | h0
    · subst h0
      exact ⟨some x, m, [], rfl, .inl rfl, by intro x hx; simp at hx, by simp, hm⟩
    · have hne : Nonempty α := by obtain ⟨y, _⟩ := each 0 h0; exact ⟨y⟩
      have hch : ∃ f : Nat → α, ∀ i, i < len → Good (f i) ∧ (E (f i)).length = k ∧ ∀ r, r < k → W.cell? (x.add (i * k + r)) = (E (f i))[r]? :=
        ⟨fun i => if hi : i < len then (each i hi).choose else Classical.choice hne, fun i hi => by have := (each i hi).choose_spec; simpa only [dif_pos hi] using this⟩
      obtain ⟨f, hf⟩ := hch
      have hcell0 := (hf 0 h0).2.2 0 hk
      rw [List.getElem?_eq_getElem (by rw [(hf 0 h0).2.1]; exact hk)] at hcell0
      obtain ⟨b, o, spot⟩ := x
      have hspot : spot = none := by simpa [Addr.add] using World.cell?_spot hcell0
      subst hspot
      have hb : b < W.heap.size := by
        rw [Go.WideShapes.add_plain] at hcell0
        exact World.block_lt_of_cell? W _ hcell0
      refine ⟨some ⟨b, o, none⟩, m, (List.range len).map f, by simp, .inr ⟨b, o, rfl, hb, fun j u hu => ?_⟩, ?_, by simp; omega, hm⟩
      · obtain ⟨i, r, rfl, hr, y, hy, hyu⟩ := flat_get E k _ (fun y hy => by
          simp only [List.mem_map, List.mem_range] at hy
          obtain ⟨i, hi, rfl⟩ := hy
          exact (hf i hi).2.1) j u hu
        rw [List.getElem?_map] at hy
        rcases Nat.lt_or_ge i len with hil | hil
        · rw [List.getElem?_range hil] at hy
          simp at hy
          subst hy
          have := (hf i hil).2.2 r hr
          rw [Go.WideShapes.add_plain] at this
          rw [this, hyu]
        · rw [List.getElem?_eq_none (by simpa using hil)] at hy
          simp at hy
      · intro y hy
        simp only [List.mem_map, List.mem_range] at hy
        obtain ⟨i, hi, rfl⟩ := hy
        exact (hf i hi).1

set_option maxRecDepth 100000 in
/-- Bytes that came in. -/
theorem in_bytes {t e : TypeId} {v : Value} {d : DataW H} {p : List MemPlace} (ht : Tryz.prog.underlying t = some (.slice e)) (he : Tryz.prog.underlying e = some (.int .u8)) (hc : Tryz.prog.cellsOf e = 1)
    (hok : Value.okWide Tryz.prog W .any base t v) (h : DataW.Trod enc Tryz.prog W 0 (fun _ => true) true t v d p) :
    ∃ (A : Option Addr) (c : Nat) (l : List UInt8), v = .slice A l.length c ∧ RdB W W.heap.size A c l := by
  obtain ⟨A, c, l, rfl, h1, -, h3, h4⟩ := in_slice (fun x : UInt8 => [Value.int .u8 (x.toNat : Int)]) (fun _ => True) ht hc Nat.one_pos (fun n cs y _ hy => by
    obtain ⟨x, rfl, -, hw⟩ := DataW.trod_int he hy
    have hb : 0 ≤ x ∧ x ≤ 255 := by simpa [Lit.wf, IntKind.min, IntKind.max, IntKind.signed, IntKind.bits] using hw
    exact ⟨UInt8.ofNat x.toNat, by simp; omega, trivial⟩) hok h
  refine ⟨A, c, l, rfl, ?_, h3, h4⟩
  rw [show bytes l = l.flatMap (fun x : UInt8 => [Value.int .u8 (x.toNat : Int)]) from (flat_one _ l).symm]
  exact h1

set_option maxRecDepth 100000 in
/-- A text that came in. -/
theorem in_str {t : TypeId} {v : Value} {d : DataW H} {p : List MemPlace} (ht : Tryz.prog.underlying t = some .string)
    (hok : Value.okWide Tryz.prog W .any base t v) (h : DataW.Trod enc Tryz.prog W 0 (fun _ => true) true t v d p) :
    ∃ l : List UInt8, v = .string (str l) ∧ l.length ≤ maxLen := by
  obtain ⟨s, rfl, -, -, hs⟩ := ChangeMaps.open_string ht hok h
  exact ⟨s.data.toList, by rw [str_of], by rw [← str_size, str_of]; exact hs⟩
set_option maxRecDepth 100000 in
/-- Texts that came in. -/
theorem in_strs {t e : TypeId} {v : Value} {d : DataW H} {p : List MemPlace} (ht : Tryz.prog.underlying t = some (.slice e)) (he : Tryz.prog.underlying e = some .string) (hc : Tryz.prog.cellsOf e = 1)
    (hok : Value.okWide Tryz.prog W .any base t v) (h : DataW.Trod enc Tryz.prog W 0 (fun _ => true) true t v d p) :
    ∃ (A : Option Addr) (c : Nat) (l : List (List UInt8)), v = .slice A l.length c ∧ RowAt W W.heap.size A (strs l) ∧ (∀ s ∈ l, s.length ≤ maxLen) ∧ l.length ≤ c ∧ c ≤ maxLen := by
  obtain ⟨A, c, l, rfl, h1, h2, h3, h4⟩ := in_slice (fun x : List UInt8 => [Value.string (str x)]) (fun s => s.length ≤ maxLen) ht hc Nat.one_pos (fun n cs y _ hy => by
    obtain ⟨s, rfl, -, hw⟩ := DataW.trod_string he hy
    exact ⟨s.data.toList, by rw [str_of], by rw [← str_size, str_of]; exact hw⟩) hok h
  refine ⟨A, c, l, rfl, ?_, h2, h3, h4⟩
  rw [show strs l = l.flatMap (fun x : List UInt8 => [Value.string (str x)]) from (flat_one _ l).symm]
  exact h1
end
end Go.Proofs.YtaodifpnfejbbaaGreat

/-
  More words for bytes and memory that this project's walks share: lists cut at a place, conversions of bytes to a string, rows kept.
-/
namespace Go.Proofs.YtaodifpnfejbbaaGreat
open Go.RowKit

theorem take_snoc_getD (l : List UInt8) (k : Nat) (h : k < l.length) : l.take (k + 1) = l.take k ++ [l.getD k 0] := by
  rw [List.take_succ_eq_append_getElem h]; simp [List.getD, List.getElem?_eq_getElem h]
theorem drop_cons_getD8 (l : List UInt8) (k : Nat) (h : k < l.length) : l.drop k = l.getD k 0 :: l.drop (k + 1) := by
  rw [List.drop_eq_getElem_cons h]; simp [List.getD, List.getElem?_eq_getElem h]
theorem conv_str {P : Program} {w : World} {B : Nat} {A : Option Addr} {l : List UInt8} (c : Nat) (src e dst : TypeId) (hs : P.underlying src = some (.slice e)) (he : P.underlying e = some (.int .u8)) (hd : P.underlying dst = some .string)
    (h : RowAt w B A (bytes l)) : (convert src dst (.slice A l.length c)).run P w = .ok (.string (str l)) w := by
  cases A with
  | none =>
    have hnil : l = [] := by
      rcases h with h | ⟨b, o, h, _⟩
      · simpa [bytes] using h
      · cases h
    subst hnil
    exact run_convert_bytes_nil w src e hs he _ c dst hd
  | some a =>
    rcases Nat.eq_zero_or_pos l.length with h0 | h0
    · have hnil : l = [] := List.eq_nil_of_length_eq_zero h0
      subst hnil
      rw [run_convert_bytes_string w src dst e _ _ c hs he hd, run_bytesToString w a _ c [] (by simp [loadCells, loadCellsFrom])]
      rfl
    · obtain ⟨b, o, hA, _, hc⟩ := h.bytes_at h0
      injection hA with hA
      subst hA
      have := run_convert_bytes_arg (P := P) w src e hs he b o l.length c (l.map fun x => (x.toNat : Int)) (by simp) (fun i hi => by
        rw [hc i hi]
        simp [List.getD, List.getElem?_eq_getElem hi]) dst hd
      rw [this]
      congr 2
      simp [strOfNums, str, Function.comp_def]
theorem heap_setCell_self {w : World} {b o : Nat} {cs : Array Value} {t : TypeId} {f : Nat × Nat} (h : w.heap[b]? = some (.cells cs t f)) (v : Value) : (w.setCell ⟨b, o, none⟩ v).heap[b]? = some (.cells (cs.setIfInBounds o v) t f) := by
  have hlt := lt_of_block h
  have h' : w.heap[b] = .cells cs t f := by simpa [Array.getElem?_eq_getElem hlt] using h
  show (w.heap.modify b _)[b]? = _
  rw [Array.getElem?_eq_getElem (by simpa using hlt), Array.getElem_modify_self, h']
  rfl
theorem grownBy_set (w : World) (b o : Nat) (v : Value) : w.grownBy (w.setCell ⟨b, o, none⟩ v) (some b) :=
  ⟨rfl, rfl, rfl, by simp [World.setCell], fun k _ hne => Below.heap_setCell _ _ _ _ (fun e => hne (by rw [e]))⟩
theorem below_drewN {B : Nat} {a w : World} (h : Below B a w) (n : Nat) : Below B a (w.drewN n) := ⟨h.os, h.tape, h.output, h.size, h.block⟩
theorem take_ne {a b : List UInt8} {k : Nat} (h : a.getD k 0 ≠ b.getD k 0) : a ≠ b := fun e => h (by rw [e])
theorem own_one (w : World) (x : Int) (c : UInt8) (h : x = (c.toNat : Int)) : OwnB (w.alloc (.cells #[.int .u8 x] 5)) w.heap.size (.slice (some ⟨w.heap.size, 0, none⟩) 1 1) [c] := by
  subst h
  refine ⟨by simp, .inr ⟨w.heap.size, 1, _, rfl, Nat.le_refl _, heap_alloc_new w _, Nat.le_refl _, by unfold maxLen; omega, by simp, by simp⟩⟩
theorem rdB_nil (w : World) (B : Nat) : RdB w B none 0 [] := ⟨.inl rfl, Nat.le_refl _, Nat.zero_le _⟩
theorem rdB_block {w : World} {g n : Nat} {cs : Array Value} {l : List UInt8} {t : TypeId} (h : w.heap[g]? = some (.cells cs t (0, 0))) (hl : cs.toList = bytes l) (hn : n = l.length) (hm : l.length ≤ 1000000) : RdB w w.heap.size (some ⟨g, 0, none⟩) n l := by
  subst hn
  exact ⟨hl ▸ (RowAt.of_block h).more (lt_of_block h), Nat.le_refl _, by unfold maxLen; omega⟩
theorem grownBy_drewN {w w' : World} {row : Option Nat} (h : w.grownBy w' row) (k : Nat) : w.grownBy (w'.drewN k) row := ⟨h.os, h.tape, h.output, h.size, h.block⟩
theorem grownBy_drewN' (w : World) (row : Option Nat) (k : Nat) : w.grownBy (w.drewN k) row := grownBy_drewN (World.grownBy.refl w row) k
theorem grown_quiet {w w' : World} {n : Nat} (h : w' = w.drewN n) : w.grownBy w' none := h ▸ grownBy_drewN' _ _ _
theorem below_quiet {B : Nat} {w w' : World} {n : Nat} (h : w' = w.drewN n) : Below B w w' := h ▸ below_drewN (Below.refl _ _) _
theorem RdB.quiet {w w' : World} {B c : Nat} {A : Option Addr} {l : List UInt8} (h : RdB w B A c l) (hg : w.grownBy w' none) (hB : B ≤ w.heap.size) : RdB w' B A c l :=
  h.keep fun p hp => World.cell?_of_block (hg.block p.block (by omega) (by simp))
theorem OwnB.other {w w' : World} {base r : Nat} {v : Value} {l : List UInt8} (h : OwnB w base v l) (hg : w.grownBy w' (some r)) (hr : r < base) : OwnB w' base v l :=
  h.kept hg (by
    cases hv : v.ownBlock with
    | none => exact .inl rfl
    | some k => exact .inr (fun e => by have := (h.lt k hv).1; injection e with e; omega))
theorem below_row {B r : Nat} {a w w' : World} (h : Below B a w) (hg : w.grownBy w' (some r)) (hr : B ≤ r) (hs : B ≤ w.heap.size) : Below B a w' := h.grown hg hs (fun k hk => by injection hk; omega)
theorem heap_old {w : World} {g : Nat} {x : Obj} (o : Obj) (h : w.heap[g]? = some x) : (w.alloc o).heap[g]? = some x := by
  have hlt : g < w.heap.size := by
    rcases Nat.lt_or_ge g w.heap.size with hlt | hge
    · exact hlt
    · rw [Array.getElem?_eq_none hge] at h; cases h
  exact ((World.grownBy_alloc w o none).block g hlt (by simp)).trans h
theorem rdB_mark {w : World} {g n : Nat} {cs : Array Value} {l : List UInt8} {t : TypeId} {f : Nat × Nat} (h : w.heap[g]? = some (.cells cs t f)) (hl : cs.toList = bytes l) (hn : n = l.length) (hm : l.length ≤ 1000000) : RdB w w.heap.size (some ⟨g, 0, none⟩) n l := by
  subst hn
  exact ⟨hl ▸ (RowAt.of_block h).more (lt_of_block h), Nat.le_refl _, by unfold maxLen; omega⟩
theorem OwnB.read_n {w : World} {base n : Nat} {v : Value} {l : List UInt8} (h : OwnB w base v l) (hn : n = l.length) : ∃ A c, v = .slice A n c ∧ RdB w w.heap.size A c l := by
  subst hn; exact h.read
theorem own_block {w : World} {cs : Array Value} {l : List UInt8} {n : Nat} (hl : cs.toList = bytes l) (hn : n = l.length) (hm : l.length ≤ 1000000) : OwnB (w.alloc (.cells cs 5)) w.heap.size (.slice (some ⟨w.heap.size, 0, none⟩) n n) l := by
  subst hn
  have hs : cs.size = l.length := by have := congrArg List.length hl; simpa using this
  exact ⟨by simp, .inr ⟨w.heap.size, l.length, cs, rfl, Nat.le_refl _, heap_alloc_new w _, Nat.le_refl _, by unfold maxLen; omega, by omega, by rw [hl]; exact List.take_of_length_le (by simp)⟩⟩
theorem own_some {w : World} {base n : Nat} {v : Value} {l : List UInt8} (h : OwnB w base v l) (hn : n = l.length) (hp : 0 < n) : ∃ g c, v = .slice (some ⟨g, 0, none⟩) n c ∧ n ≤ c ∧ base ≤ g := by
  subst hn
  rcases h.2 with ⟨_, h0⟩ | ⟨g, cap, cur, hv, hg, _, hc, _⟩
  · omega
  · exact ⟨g, cap, hv, hc, hg⟩
theorem own_free {w : World} {base g n c : Nat} {l : List UInt8} (h : OwnB w base (.slice (some ⟨g, 0, none⟩) n c) l) : ∀ k, w.frozen? ⟨g, k, none⟩ = false := by
  rcases h.2 with ⟨h0, _⟩ | ⟨g', cap, cur, hv, _, hg, _⟩
  · cases h0
  · injection hv with hA _ _
    injection hA with hA
    injection hA with hA _ _
    subst hA
    intro k
    simp [World.frozen?, hg]
theorem own_cells {w : World} {base g n c : Nat} {l : List UInt8} (h : OwnB w base (.slice (some ⟨g, 0, none⟩) n c) l) : ∀ k, k < l.length → w.cell? ⟨g, k, none⟩ = some (.int .u8 ((l.getD k 0).toNat : Int)) := by
  rcases h.2 with ⟨h0, _⟩ | ⟨g', cap, cur, hv, _, hg, _, _, _, ht⟩
  · cases h0
  · injection hv with hA _ _
    injection hA with hA
    injection hA with hA _ _
    subst hA
    intro k hk
    rw [cell_of_row _ _ _ cur _ (0, 0) hg, ← Array.getElem?_toList]
    have h1 := bytes_get hk
    rw [← ht, List.getElem?_take] at h1
    split at h1
    · exact h1
    · cases h1
theorem OwnB.stored {w : World} {base g n c : Nat} {l : List UInt8} (h : OwnB w base (.slice (some ⟨g, 0, none⟩) n c) l) (hn : n = l.length) (j : Nat) (x : UInt8) :
    OwnB (w.setCell ⟨g, j, none⟩ (.int .u8 (x.toNat : Int))) base (.slice (some ⟨g, 0, none⟩) n c) (l.set j x) := by
  subst hn
  have := (World.ownsRow.stored h j (.int .u8 (x.toNat : Int))).1
  rw [show (bytes l).set j (.int .u8 (x.toNat : Int)) = bytes (l.set j x) by simp [bytes, List.map_set]] at this
  exact OwnB.of_row this
theorem below_store {B g : Nat} {w wr : World} (h : Below B w wr) (hg : B ≤ g) (hs : B ≤ wr.heap.size) (q : Nat) (u : Value) : Below B w (wr.setCell ⟨g, q, none⟩ u).drew := (below_row h (grownBy_set wr g q u) hg hs).drew
end Go.Proofs.YtaodifpnfejbbaaGreat

/-
  Plain facts on keys (layer 6): texts in order, what stands behind, what texts begin with. No program in this text.
-/
namespace Go.Proofs.YtaodifpnfejbbaaGreat

/-- Does a text stand ahead of another one? -/
def ltB : List UInt8 → List UInt8 → Bool
  | _, [] => false
  | [], _ :: _ => true
  | x :: a, y :: b => if x = y then ltB a b else decide (x.toNat < y.toNat)

theorem ltB_nil (a : List UInt8) : ltB a [] = false := by cases a <;> rfl
theorem ltB_nil_cons (y : UInt8) (b : List UInt8) : ltB [] (y :: b) = true := rfl
theorem ltB_same (x : UInt8) (a b : List UInt8) : ltB (x :: a) (x :: b) = ltB a b := by simp [ltB]
theorem ltB_other {x y : UInt8} (h : x ≠ y) (a b : List UInt8) : ltB (x :: a) (y :: b) = decide (x.toNat < y.toNat) := by simp [ltB, h]
theorem u8_ne {x y : UInt8} (h : x ≠ y) : x.toNat ≠ y.toNat := fun e => h (UInt8.toNat_inj.1 e)
theorem ltB_irrefl : ∀ a : List UInt8, ltB a a = false
  | [] => rfl
  | x :: a => by rw [ltB_same]; exact ltB_irrefl a
theorem ltB_asymm : ∀ {a b : List UInt8}, ltB a b = true → ltB b a = false
  | a, [], h => by rw [ltB_nil] at h; cases h
  | [], y :: b, _ => rfl
  | x :: a, y :: b, h => by
    by_cases e : x = y
    · subst e; rw [ltB_same] at h ⊢; exact ltB_asymm h
    · rw [ltB_other e, decide_eq_true_eq] at h
      rw [ltB_other (Ne.symm e), decide_eq_false_iff_not]; omega
theorem ltB_total : ∀ {a b : List UInt8}, ltB a b = false → ltB b a = false → a = b
  | [], [], _, _ => rfl
  | [], y :: b, h, _ => by cases h
  | x :: a, [], _, h => by cases h
  | x :: a, y :: b, h, h' => by
    by_cases e : x = y
    · subst e; rw [ltB_same] at h h'; rw [ltB_total h h']
    · rw [ltB_other e, decide_eq_false_iff_not] at h
      rw [ltB_other (Ne.symm e), decide_eq_false_iff_not] at h'
      have := u8_ne e
      omega
theorem ltB_trans : ∀ {a b c : List UInt8}, ltB a b = true → ltB b c = true → ltB a c = true
  | a, [], c, h, _ => by rw [ltB_nil] at h; cases h
  | a, y :: b, [], _, h => by cases h
  | [], y :: b, z :: c, _, _ => rfl
  | x :: a, y :: b, z :: c, h, h' => by
    by_cases e : x = y
    · subst e
      rw [ltB_same] at h
      by_cases e' : x = z
      · subst e'; rw [ltB_same] at h' ⊢; exact ltB_trans h h'
      · rw [ltB_other e'] at h' ⊢; exact h'
    · rw [ltB_other e, decide_eq_true_eq] at h
      by_cases e' : y = z
      · subst e'; rw [ltB_other e, decide_eq_true_eq]; exact h
      · rw [ltB_other e', decide_eq_true_eq] at h'
        have e2 : x ≠ z := fun e2 => by subst e2; omega
        rw [ltB_other e2, decide_eq_true_eq]; omega
/-- What is not behind, and what is ahead: together ahead. -/
theorem ltB_of_le_of_lt {a b c : List UInt8} (h : ltB b a = false) (h' : ltB b c = true) : ltB a c = true := by
  cases hab : ltB a b with
  | true => exact ltB_trans hab h'
  | false => rw [ltB_total hab h]; exact h'
theorem ltB_of_lt_of_le {a b c : List UInt8} (h : ltB a b = true) (h' : ltB c b = false) : ltB a c = true := by
  cases hbc : ltB b c with
  | true => exact ltB_trans h hbc
  | false => rw [← ltB_total hbc h']; exact h
theorem leB_trans {a b c : List UInt8} (h : ltB b a = false) (h' : ltB c b = false) : ltB c a = false := by
  cases hc : ltB c a with
  | false => rfl
  | true => rw [ltB_of_lt_of_le hc h] at h'; cases h'
theorem ltB_append : ∀ (p a b : List UInt8), ltB (p ++ a) (p ++ b) = ltB a b
  | [], _, _ => rfl
  | x :: p, a, b => by rw [List.cons_append, List.cons_append, ltB_same]; exact ltB_append p a b
theorem ltB_prefix : ∀ (p a : List UInt8), ltB (p ++ a) p = false
  | [], a => ltB_nil a
  | x :: p, a => by rw [List.cons_append, ltB_same]; exact ltB_prefix p a

/-- Which of two stands ahead, in words of the order. -/
theorem cmp_ltB : ∀ (a b : List UInt8), Lib.compareBytes a b = if ltB a b = true then -1 else if ltB b a = true then 1 else 0
  | [], [] => rfl
  | [], _ :: _ => rfl
  | _ :: _, [] => rfl
  | x :: a, y :: b => by
    unfold Lib.compareBytes
    by_cases e : x = y
    · subst e
      rw [if_neg (UInt8.lt_irrefl x), if_neg (UInt8.lt_irrefl x), ltB_same, ltB_same]; exact cmp_ltB a b
    · rw [ltB_other e, ltB_other (Ne.symm e)]
      simp only [decide_eq_true_eq, UInt8.lt_iff_toNat_lt]
      have := u8_ne e
      by_cases h : x.toNat < y.toNat
      · rw [if_pos h, if_pos h]
      · rw [if_neg h, if_neg h, if_pos (by omega), if_pos (by omega)]
theorem cmp_lt {a b : List UInt8} (h : ltB a b = true) : Lib.compareBytes a b = -1 := by rw [cmp_ltB, if_pos h]
theorem cmp_gt {a b : List UInt8} (h : ltB b a = true) : Lib.compareBytes a b = 1 := by rw [cmp_ltB, if_neg (by rw [ltB_asymm h]; exact Bool.false_ne_true), if_pos h]
theorem cmp_self (a : List UInt8) : Lib.compareBytes a a = 0 := by rw [cmp_ltB, ltB_irrefl]; rfl
/-- Three ways two texts stand. -/
theorem ltB_three (a b : List UInt8) : (ltB a b = true ∧ ltB b a = false ∧ a ≠ b) ∨ (ltB a b = false ∧ ltB b a = true ∧ a ≠ b) ∨ (ltB a b = false ∧ ltB b a = false ∧ a = b) := by
  cases h : ltB a b with
  | true => exact .inl ⟨rfl, ltB_asymm h, fun e => by rw [e, ltB_irrefl] at h; cases h⟩
  | false => cases h' : ltB b a with
    | true => exact .inr (.inl ⟨rfl, rfl, fun e => by rw [e, ltB_irrefl] at h'; cases h'⟩)
    | false => exact .inr (.inr ⟨rfl, rfl, ltB_total h h'⟩)

/-- The walk of two texts from the left. -/
theorem ltB_step {a b : List UInt8} {k : Nat} (ha : k < a.length) (hb : k < b.length) (h : a.getD k 0 = b.getD k 0) : ltB (a.drop k) (b.drop k) = ltB (a.drop (k + 1)) (b.drop (k + 1)) := by
  rw [List.drop_eq_getElem_cons ha, List.drop_eq_getElem_cons hb]
  simp only [List.getD, List.getElem?_eq_getElem ha, List.getElem?_eq_getElem hb, Option.getD_some] at h
  rw [h, ltB_same]
theorem ltB_stop {a b : List UInt8} {k : Nat} (ha : k < a.length) (hb : k < b.length) (h : a.getD k 0 ≠ b.getD k 0) : ltB (a.drop k) (b.drop k) = decide ((a.getD k 0).toNat < (b.getD k 0).toNat) := by
  rw [List.drop_eq_getElem_cons ha, List.drop_eq_getElem_cons hb]
  simp only [List.getD, List.getElem?_eq_getElem ha, List.getElem?_eq_getElem hb, Option.getD_some] at h ⊢
  rw [ltB_other h]
theorem ltB_out {a b : List UInt8} {k : Nat} (h : b.length ≤ k) : ltB (a.drop k) (b.drop k) = false := by rw [List.drop_eq_nil_of_le h, ltB_nil]
theorem ltB_end {a b : List UInt8} {k : Nat} (ha : a.length = k) (hb : k ≤ b.length) : ltB (a.drop k) (b.drop k) = decide (k < b.length) := by
  rw [List.drop_eq_nil_of_le (by omega)]
  by_cases h : k < b.length
  · rw [List.drop_eq_getElem_cons h, ltB_nil_cons, decide_eq_true h]
  · rw [List.drop_eq_nil_of_le (by omega), ltB_nil, decide_eq_false h]

/-! What stands behind. -/
theorem ltB_next (s : List UInt8) : ltB s (s ++ [0]) = true := by
  have := ltB_append s [] [0]
  rw [List.append_nil] at this
  rw [this]; rfl
theorem next_none : ∀ {s t : List UInt8}, ltB s t = true → ltB t (s ++ [0]) = false
  | s, [], h => by rw [ltB_nil] at h; cases h
  | [], y :: t, _ => by
    by_cases e : y = 0
    · subst e; rw [List.nil_append, ltB_same]; exact ltB_nil t
    · rw [List.nil_append, ltB_other e, decide_eq_false_iff_not]
      show ¬ y.toNat < 0
      omega
  | x :: s, y :: t, h => by
    by_cases e : x = y
    · subst e; rw [ltB_same] at h; rw [List.cons_append, ltB_same]; exact next_none h
    · rw [ltB_other e, decide_eq_true_eq] at h
      rw [List.cons_append, ltB_other (Ne.symm e), decide_eq_false_iff_not]; omega

/-- The first of all texts behind all that begin with one. -/
def endV : List UInt8 → Option (List UInt8)
  | [] => none
  | c :: l => match endV l with
    | some e => some (c :: e)
    | none => if c = 255 then none else some [c + 1]
theorem endV_nil : endV [] = none := rfl
theorem endV_last : ∀ l : List UInt8, endV (l ++ [255]) = endV l
  | [] => rfl
  | c :: l => by rw [List.cons_append, endV, endV, endV_last l]
theorem endV_some {c : UInt8} (h : c ≠ 255) : ∀ l : List UInt8, endV (l ++ [c]) = some (l ++ [c + 1])
  | [] => by rw [List.nil_append, endV, endV]; simp [h]
  | d :: l => by rw [List.cons_append, endV, endV_some h l]; rfl
theorem add_one_nat {c : UInt8} (h : c ≠ 255) : (c + 1).toNat = c.toNat + 1 := by
  have h1 : c.toNat ≠ 255 := u8_ne h
  have := c.toNat_lt
  rw [UInt8.toNat_add]
  show (c.toNat + 1) % 256 = _
  omega
theorem endV_len : ∀ {p e : List UInt8}, endV p = some e → 0 < e.length ∧ e.length ≤ p.length
  | [], e, h => by cases h
  | c :: l, e, h => by
    unfold endV at h
    cases hl : endV l with
    | some e' =>
      rw [hl] at h
      have := endV_len hl
      injection h with h; subst h
      simp; omega
    | none =>
      rw [hl] at h
      by_cases hc : c = 255
      · simp [hc] at h
      · simp only [if_neg hc, Option.some.injEq] at h
        subst h; simp
theorem endV_cons (c : UInt8) (l : List UInt8) : endV (c :: l) = match endV l with | some e => some (c :: e) | none => if c = 255 then none else some [c + 1] := rfl
/-- Does a text stand ahead of an end that may be none? -/
def aheadO (t : List UInt8) : Option (List UInt8) → Bool
  | some e => ltB t e
  | none => true
/-- Between a text and its end stand those that begin with it, and no others. -/
theorem end_between : ∀ (s t : List UInt8), (!ltB t s && aheadO t (endV s)) = s.isPrefixOf t
  | [], t => by rw [ltB_nil]; simp [endV, aheadO]
  | c :: s, [] => by rw [ltB_nil_cons]; simp
  | c :: s, d :: t => by
    have ih := end_between s t
    by_cases e : d = c
    · subst e
      rw [ltB_same, List.isPrefixOf_cons_cons_self, ← ih, endV_cons]
      cases hs : endV s with
      | some e' => simp only [aheadO, ltB_same]
      | none =>
        by_cases hc : d = 255
        · simp [hc, aheadO]
        · have h1 : d ≠ d + 1 := fun e => by have := add_one_nat hc; rw [← e] at this; omega
          simp only [if_neg hc, aheadO, ltB_other h1, add_one_nat hc]
          simp
    · have hp : (c :: s).isPrefixOf (d :: t) = false := by
        simp only [List.isPrefixOf, Bool.and_eq_false_iff, beq_eq_false_iff_ne]
        exact .inl (Ne.symm e)
      rw [hp, ltB_other e]
      have hne := u8_ne e
      by_cases hlt : d.toNat < c.toNat
      · simp [hlt]
      · have hgt : c.toNat < d.toNat := by omega
        rw [endV_cons]
        cases hs : endV s with
        | some e' => simp [aheadO, ltB_other e, hlt]
        | none =>
          by_cases hc : c = 255
          · subst hc
            have := d.toNat_lt
            have : (255 : UInt8).toNat = 255 := rfl
            omega
          · simp only [if_neg hc, aheadO]
            by_cases h1 : d = c + 1
            · subst h1; simp [ltB_same, ltB_nil]
            · have h2 : (c + 1).toNat = c.toNat + 1 := add_one_nat hc
              have h3 := u8_ne h1
              simp [ltB_other h1]; omega

/-! With what texts begin. -/
/-- How many bytes at the beginning of both are the same. -/
def alikeN : List UInt8 → List UInt8 → Nat
  | x :: a, y :: b => if x = y then alikeN a b + 1 else 0
  | _, _ => 0
theorem alikeN_le : ∀ a b : List UInt8, alikeN a b ≤ a.length ∧ alikeN a b ≤ b.length
  | [], b => by simp [alikeN]
  | x :: a, [] => by simp [alikeN]
  | x :: a, y :: b => by
    have := alikeN_le a b
    unfold alikeN
    split <;> simp <;> omega
theorem alikeN_at : ∀ {a b : List UInt8} {k : Nat}, k ≤ a.length → k ≤ b.length → a.take k = b.take k → (k < a.length → k < b.length → a.getD k 0 ≠ b.getD k 0) → alikeN a b = k
  | [], b, k, h, _, _, _ => by simp at h; subst h; simp [alikeN]
  | x :: a, [], k, _, h, _, _ => by simp at h; subst h; simp [alikeN]
  | x :: a, y :: b, 0, _, _, _, h => by
    have := h (by simp) (by simp)
    simp at this
    simp [alikeN, this]
  | x :: a, y :: b, k + 1, h1, h2, h3, h4 => by
    simp only [List.take_succ_cons, List.cons.injEq] at h3
    have := alikeN_at (a := a) (b := b) (k := k) (by simpa using h1) (by simpa using h2) h3.2 (fun u v => by simpa using h4 (by simpa using u) (by simpa using v))
    simp [alikeN, h3.1, this]
theorem alike_take : ∀ a b : List UInt8, a.take (alikeN a b) <+: b
  | [], b => by simp [alikeN]
  | x :: a, [] => by simp [alikeN]
  | x :: a, y :: b => by
    unfold alikeN
    split
    · rename_i h; subst h; rw [List.take_succ_cons]; exact (List.prefix_cons_inj x).2 (alike_take a b)
    · simp
theorem alike_most : ∀ {a b d : List UInt8}, d <+: a → d <+: b → d <+: a.take (alikeN a b)
  | a, b, [], _, _ => List.nil_prefix
  | a, b, z :: d, h1, h2 => by
    obtain ⟨a', rfl⟩ := h1
    obtain ⟨b', rfl⟩ := h2
    rw [List.cons_append, List.cons_append]
    unfold alikeN
    rw [if_pos rfl, List.take_succ_cons]
    exact (List.prefix_cons_inj z).2 (alike_most (List.prefix_append d a') (List.prefix_append d b'))
/-- What is left of a text when more are met. -/
def commonF (s : List UInt8) (r : List (List UInt8)) : List UInt8 := r.foldl (fun all t => all.take (alikeN all t)) s
/-- With what all begin. -/
def commonV : List (List UInt8) → List UInt8
  | [] => []
  | s :: r => commonF s r
theorem commonF_snoc (s : List UInt8) (r : List (List UInt8)) (t : List UInt8) : commonF s (r ++ [t]) = (commonF s r).take (alikeN (commonF s r) t) := by simp [commonF]
theorem commonF_pre : ∀ (r : List (List UInt8)) (s : List UInt8), commonF s r <+: s ∧ ∀ t ∈ r, commonF s r <+: t
  | [], s => ⟨List.prefix_rfl, by simp⟩
  | t :: r, s => by
    have h := commonF_pre r (s.take (alikeN s t))
    refine ⟨h.1.trans (List.take_prefix _ _), fun u hu => ?_⟩
    rcases List.mem_cons.1 hu with rfl | hu
    · exact h.1.trans (alike_take s u)
    · exact h.2 u hu
theorem commonF_most : ∀ (r : List (List UInt8)) (s d : List UInt8), d <+: s → (∀ t ∈ r, d <+: t) → d <+: commonF s r
  | [], _, _, h, _ => h
  | t :: r, _, _, h, h' => commonF_most r _ _ (alike_most h (h' t (List.mem_cons_self ..))) fun u hu => h' u (List.mem_cons_of_mem _ hu)
theorem commonV_pre {l : List (List UInt8)} {t : List UInt8} (h : t ∈ l) : commonV l <+: t := by
  cases l with
  | nil => cases h
  | cons s r =>
    rcases List.mem_cons.1 h with rfl | h
    · exact (commonF_pre r _).1
    · exact (commonF_pre r s).2 t h
theorem commonV_most {l : List (List UInt8)} {d : List UInt8} (hl : l ≠ []) (h : ∀ t ∈ l, d <+: t) : d <+: commonV l := by
  cases l with
  | nil => exact absurd rfl hl
  | cons s r => exact commonF_most r s d (h s (List.mem_cons_self ..)) fun u hu => h u (List.mem_cons_of_mem _ hu)
theorem prefix_getD {p t : List UInt8} (h : p <+: t) : t.take p.length = p := (List.prefix_iff_eq_take.1 h).symm
theorem take_succ_getD {t : List UInt8} {k : Nat} (h : k < t.length) : t.take (k + 1) = t.take k ++ [t.getD k 0] := by
  rw [List.take_succ_eq_append_getElem h]; simp [List.getD, List.getElem?_eq_getElem h]
/-- Nothing longer serves. -/
theorem commonV_longest {l : List (List UInt8)} (h : ∀ t ∈ l, (commonV l).length < t.length) (he : ∀ t ∈ l, t.getD (commonV l).length 0 = (l.getD 0 []).getD (commonV l).length 0) : l = [] := by
  refine Decidable.byContradiction fun hl => ?_
  have hm := commonV_most (d := commonV l ++ [(l.getD 0 []).getD (commonV l).length 0]) hl fun t ht => by
    have h1 := commonV_pre ht
    have h2 := take_succ_getD (h t ht)
    rw [he t ht, prefix_getD h1] at h2
    rw [← h2]
    exact List.take_prefix _ _
  have := hm.length_le
  rw [List.length_append, List.length_singleton] at this
  omega
end Go.Proofs.YtaodifpnfejbbaaGreat

/-
  Plain facts on ranges (layer 7): which are right, which texts they have, what two have together, which ends ahead. No program in this text.
-/
namespace Go.Proofs.YtaodifpnfejbbaaGreat

/-- A range: from lo on, ahead of hi, or Open. -/
structure Rng where
  lo : List UInt8
  hi : List UInt8
  op : Bool
def zeroR : Rng := ⟨[], [], false⟩
def allR : Rng := ⟨[], [], true⟩
def rightR (r : Rng) : Bool := decide (r.lo.length ≤ 17) && (match r.op with | true => r.hi.isEmpty | false => decide (r.hi.length ≤ 17) && ltB r.lo r.hi)
/-- Is a text ahead of a range's end? -/
def aheadR (r : Rng) (s : List UInt8) : Bool := r.op || ltB s r.hi
def hasR (r : Rng) (s : List UInt8) : Bool := rightR r && !ltB s r.lo && aheadR r s
def ofR (k : List UInt8) : Rng := match decide (k.length ≤ 16) with | true => ⟨k, k ++ [0], false⟩ | false => zeroR
def prefixR (p : List UInt8) : Rng := match decide (p.length ≤ 16) with
  | true => (match endV p with | some e => ⟨p, e, false⟩ | none => ⟨p, [], true⟩)
  | false => zeroR

theorem rightR_open {r : Rng} (h : r.op = true) : rightR r = (decide (r.lo.length ≤ 17) && r.hi.isEmpty) := by unfold rightR; rw [h]
theorem rightR_shut {r : Rng} (h : r.op = false) : rightR r = (decide (r.lo.length ≤ 17) && (decide (r.hi.length ≤ 17) && ltB r.lo r.hi)) := by unfold rightR; rw [h]
theorem rightR_lo {r : Rng} (h : rightR r = true) : r.lo.length ≤ 17 := by
  unfold rightR at h; simp only [Bool.and_eq_true, decide_eq_true_eq] at h; exact h.1
theorem rightR_hi {r : Rng} (h : rightR r = true) : r.hi.length ≤ 17 := by
  cases ho : r.op with
  | true => rw [rightR_open ho] at h; simp only [Bool.and_eq_true, List.isEmpty_iff] at h; rw [h.2]; simp
  | false => rw [rightR_shut ho] at h; simp only [Bool.and_eq_true, decide_eq_true_eq] at h; exact h.2.1
theorem rightR_op {r : Rng} (h : rightR r = true) (ho : r.op = true) : r.hi = [] := by
  rw [rightR_open ho] at h; simp only [Bool.and_eq_true, List.isEmpty_iff] at h; exact h.2
theorem rightR_lt {r : Rng} (h : rightR r = true) (ho : r.op = false) : ltB r.lo r.hi = true := by
  rw [rightR_shut ho] at h; simp only [Bool.and_eq_true, decide_eq_true_eq] at h; exact h.2.2
theorem rightR_iff {r : Rng} : rightR r = true ↔ r.lo.length ≤ 17 ∧ r.hi.length ≤ 17 ∧ (r.op = true → r.hi = []) ∧ (r.op = false → ltB r.lo r.hi = true) := by
  constructor
  · intro h; exact ⟨rightR_lo h, rightR_hi h, rightR_op h, rightR_lt h⟩
  · rintro ⟨h1, h2, h3, h4⟩
    cases ho : r.op with
    | true => rw [rightR_open ho, decide_eq_true h1, h3 ho]; rfl
    | false => rw [rightR_shut ho, decide_eq_true h1, decide_eq_true h2, h4 ho]; rfl
theorem rightR_zero : rightR zeroR = false := rfl
theorem hasR_zero (s : List UInt8) : hasR zeroR s = false := rfl
theorem hasR_all (s : List UInt8) : hasR allR s = true := by
  unfold hasR allR aheadR; rw [ltB_nil]; rfl
theorem rightR_first {r : Rng} (h : rightR r = true) : aheadR r r.lo = true := by
  unfold aheadR
  cases ho : r.op with
  | true => rfl
  | false => rw [rightR_lt h ho]; rfl
theorem ofR_short {k : List UInt8} (h : k.length ≤ 16) : ofR k = ⟨k, k ++ [0], false⟩ := by unfold ofR; rw [decide_eq_true h]
theorem ofR_long {k : List UInt8} (h : 16 < k.length) : ofR k = zeroR := by unfold ofR; rw [decide_eq_false (by omega)]
theorem ofR_right {k : List UInt8} (h : k.length ≤ 16) : rightR (ofR k) = true := by
  rw [ofR_short h, rightR_iff]
  exact ⟨by simp only; omega, by simp only [List.length_append, List.length_singleton]; omega, (fun h => by cases h), fun _ => ltB_next k⟩
theorem ofR_has {k : List UInt8} (h : k.length ≤ 16) (s : List UInt8) : hasR (ofR k) s = decide (s = k) := by
  unfold hasR
  rw [ofR_right h, ofR_short h]
  simp only [aheadR, Bool.true_and, Bool.false_or]
  by_cases e : s = k
  · subst e; rw [ltB_irrefl, ltB_next, decide_eq_true rfl]; rfl
  · rw [decide_eq_false e]
    rcases ltB_three s k with ⟨h1, _, _⟩ | ⟨h1, h2, _⟩ | ⟨_, _, h3⟩
    · rw [h1]; rfl
    · rw [h1, next_none h2]; rfl
    · exact absurd h3 e
theorem prefixR_some {p e : List UInt8} (h : p.length ≤ 16) (he : endV p = some e) : prefixR p = ⟨p, e, false⟩ := by unfold prefixR; rw [decide_eq_true h, he]
theorem prefixR_none {p : List UInt8} (h : p.length ≤ 16) (he : endV p = none) : prefixR p = ⟨p, [], true⟩ := by unfold prefixR; rw [decide_eq_true h, he]
theorem prefixR_long {p : List UInt8} (h : 16 < p.length) : prefixR p = zeroR := by unfold prefixR; rw [decide_eq_false (by omega)]
theorem endV_gt : ∀ {p e : List UInt8}, endV p = some e → ltB p e = true := fun {p e} h => by
  have h1 := end_between p p
  rw [ltB_irrefl, h] at h1
  have h2 : p.isPrefixOf p = true := List.isPrefixOf_iff_prefix.2 List.prefix_rfl
  rw [h2] at h1
  simpa [aheadO] using h1
theorem prefixR_right {p : List UInt8} (h : p.length ≤ 16) : rightR (prefixR p) = true := by
  rw [rightR_iff]
  cases he : endV p with
  | some e =>
    rw [prefixR_some h he]
    have := endV_len he
    exact ⟨by simp only; omega, by simp only; omega, (fun h => by cases h), fun _ => endV_gt he⟩
  | none =>
    rw [prefixR_none h he]
    exact ⟨by simp only; omega, by simp, fun _ => rfl, (fun h => by cases h)⟩
theorem prefixR_has {p : List UInt8} (h : p.length ≤ 16) (s : List UInt8) : hasR (prefixR p) s = p.isPrefixOf s := by
  unfold hasR
  rw [prefixR_right h, ← end_between p s, Bool.true_and]
  cases he : endV p with
  | some e => rw [prefixR_some h he]; rfl
  | none => rw [prefixR_none h he]; rfl
theorem prefixR_has_long {p : List UInt8} (h : 16 < p.length) (s : List UInt8) : hasR (prefixR p) s = false := by rw [prefixR_long h]; rfl
theorem ofR_has_long {p : List UInt8} (h : 16 < p.length) (s : List UInt8) : hasR (ofR p) s = false := by rw [ofR_long h]; rfl

/-! Which ends ahead. -/
/-- Does r's end stand ahead of t's? -/
def endLt (r t : Rng) : Bool := !r.op && (t.op || ltB r.hi t.hi)
def endsR (r t : Rng) : Int := match rightR r && rightR t with
  | true => (match endLt r t with | true => -1 | false => (match endLt t r with | true => 1 | false => 0))
  | false => 0
theorem endLt_asymm {r t : Rng} (h : endLt r t = true) : endLt t r = false := by
  unfold endLt at h ⊢
  cases ho : r.op <;> cases hp : t.op <;> rw [ho, hp] at h <;> first | (cases h; done) | rfl | skip
  simp only [Bool.not_false, Bool.true_and, Bool.false_or] at h ⊢
  exact ltB_asymm h
theorem endsR_lt {r t : Rng} (hr : rightR r = true) (ht : rightR t = true) (h : endLt r t = true) : endsR r t = -1 := by unfold endsR; rw [hr, ht, h]; rfl
theorem endsR_gt {r t : Rng} (hr : rightR r = true) (ht : rightR t = true) (h : endLt t r = true) : endsR r t = 1 := by unfold endsR; rw [hr, ht, h, endLt_asymm h]; rfl
theorem endsR_eq {r t : Rng} (h : endLt r t = false) (h' : endLt t r = false) : endsR r t = 0 := by unfold endsR; rw [h, h']; cases rightR r && rightR t <;> rfl
theorem endsR_wrong {r t : Rng} (h : (rightR r && rightR t) = false) : endsR r t = 0 := by unfold endsR; rw [h]
theorem endsR_three (r t : Rng) : (endsR r t = -1 ∧ endsR t r = 1) ∨ (endsR r t = 1 ∧ endsR t r = -1) ∨ (endsR r t = 0 ∧ endsR t r = 0) := by
  cases hr : rightR r with
  | false => exact .inr (.inr ⟨endsR_wrong (by rw [hr]; rfl), endsR_wrong (by rw [hr, Bool.and_false])⟩)
  | true => cases ht : rightR t with
    | false => exact .inr (.inr ⟨endsR_wrong (by rw [ht, Bool.and_false]), endsR_wrong (by rw [ht]; rfl)⟩)
    | true => cases h : endLt r t with
      | true => exact .inl ⟨endsR_lt hr ht h, endsR_gt ht hr h⟩
      | false => cases h' : endLt t r with
        | true => exact .inr (.inl ⟨endsR_gt hr ht h', endsR_lt ht hr h'⟩)
        | false => exact .inr (.inr ⟨endsR_eq h h', endsR_eq h' h⟩)
/-- Ends of right ranges that stand at one place are one. -/
theorem end_same {r t : Rng} (hr : rightR r = true) (ht : rightR t = true) (h : endLt r t = false) (h' : endLt t r = false) : r.hi = t.hi ∧ r.op = t.op := by
  unfold endLt at h h'
  cases ho : r.op <;> cases hp : t.op <;> rw [ho, hp] at h h' <;> first | (cases h; done) | (cases h'; done) | skip
  · simp only [Bool.not_false, Bool.true_and, Bool.false_or] at h h'
    exact ⟨ltB_total h h', rfl⟩
  · exact ⟨by rw [rightR_op hr ho, rightR_op ht hp], rfl⟩
theorem ahead_end {r t : Rng} (h : endLt t r = false) {s : List UInt8} (ha : aheadR r s = true) : aheadR t s = true := by
  unfold endLt at h
  unfold aheadR at ha ⊢
  cases ho : r.op <;> cases hp : t.op <;> rw [ho, hp] at h <;> rw [ho] at ha <;> first | (cases h; done) | rfl | skip
  simp only [Bool.not_false, Bool.true_and, Bool.false_or] at h ha ⊢
  exact ltB_of_lt_of_le ha h

/-! What two have together. -/
/-- The one whose end stands ahead, from the other's lo on. -/
def joinR (a b : Rng) : Rng :=
  let lo := match ltB a.lo b.lo with | true => b.lo | false => a.lo
  match endLt b a with | true => ⟨lo, b.hi, b.op⟩ | false => ⟨lo, a.hi, a.op⟩
def meetR (a b : Rng) : Option Rng := match rightR a && rightR b && rightR (joinR a b) with | true => some (joinR a b) | false => none
theorem joinR_lo (a b : Rng) : (joinR a b).lo = match ltB a.lo b.lo with | true => b.lo | false => a.lo := by
  unfold joinR; cases endLt b a <;> rfl
theorem joinR_lo_or (a b : Rng) : (joinR a b).lo = a.lo ∨ (joinR a b).lo = b.lo := by
  rw [joinR_lo]; cases ltB a.lo b.lo
  · exact .inl rfl
  · exact .inr rfl
theorem joinR_notlt (a b : Rng) (s : List UInt8) : (!ltB s (joinR a b).lo) = (!ltB s a.lo && !ltB s b.lo) := by
  rw [joinR_lo]
  cases h : ltB a.lo b.lo with
  | true =>
    show (!ltB s b.lo) = _
    cases hb : ltB s b.lo with
    | true => simp
    | false =>
      have : ltB s a.lo = false := by
        cases ha : ltB s a.lo with
        | false => rfl
        | true => rw [ltB_trans ha h] at hb; cases hb
      rw [this]; rfl
  | false =>
    show (!ltB s a.lo) = _
    cases ha : ltB s a.lo with
    | true => simp
    | false => rw [leB_trans h ha]; rfl
theorem joinR_ahead (a b : Rng) (s : List UInt8) : aheadR (joinR a b) s = (aheadR a s && aheadR b s) := by
  cases h : endLt b a with
  | true =>
    have e : aheadR (joinR a b) s = aheadR b s := by unfold joinR aheadR; rw [h]
    rw [e]
    cases hb : aheadR b s with
    | false => simp
    | true => rw [ahead_end (endLt_asymm h) hb]; rfl
  | false =>
    have e : aheadR (joinR a b) s = aheadR a s := by unfold joinR aheadR; rw [h]
    rw [e]
    cases ha : aheadR a s with
    | false => simp
    | true => rw [ahead_end h ha]; rfl
theorem joinR_right {a b : Rng} (ha : rightR a = true) (hb : rightR b = true) : rightR (joinR a b) = aheadR (joinR a b) (joinR a b).lo := by
  have hl : (joinR a b).lo.length ≤ 17 := by rcases joinR_lo_or a b with e | e <;> rw [e]; exact rightR_lo ha; exact rightR_lo hb
  have hh : (joinR a b).hi.length ≤ 17 := by
    unfold joinR; cases endLt b a
    · exact rightR_hi (r := a) ha
    · exact rightR_hi (r := b) hb
  have ho : (joinR a b).op = true → (joinR a b).hi = [] := by
    unfold joinR; cases endLt b a
    · exact rightR_op (r := a) ha
    · exact rightR_op (r := b) hb
  generalize joinR a b = m at *
  unfold aheadR
  cases hm : m.op with
  | true => rw [rightR_open hm, decide_eq_true hl, ho hm]; rfl
  | false => rw [rightR_shut hm, decide_eq_true hl, decide_eq_true hh]; rfl
theorem meetR_some {a b m : Rng} (h : meetR a b = some m) : rightR a = true ∧ rightR b = true ∧ rightR m = true ∧ m = joinR a b := by
  unfold meetR at h
  cases h3 : rightR a && rightR b && rightR (joinR a b) with
  | false => rw [h3] at h; cases h
  | true =>
    rw [h3] at h
    simp only [Bool.and_eq_true] at h3
    injection h with h
    subst h
    exact ⟨h3.1.1, h3.1.2, h3.2, rfl⟩
theorem meetR_of {a b : Rng} (ha : rightR a = true) (hb : rightR b = true) (hm : rightR (joinR a b) = true) : meetR a b = some (joinR a b) := by unfold meetR; rw [ha, hb, hm]; rfl
theorem meetR_wrong {a b : Rng} (h : (rightR a && rightR b) = false) : meetR a b = none := by unfold meetR; rw [h]; rfl
theorem meetR_none {a b : Rng} (h : rightR (joinR a b) = false) : meetR a b = none := by unfold meetR; rw [h, Bool.and_false]
theorem meetR_has {a b m : Rng} (h : meetR a b = some m) (s : List UInt8) : hasR m s = (hasR a s && hasR b s) := by
  obtain ⟨ha, hb, hm, rfl⟩ := meetR_some h
  unfold hasR
  rw [ha, hb, hm, joinR_notlt, joinR_ahead]
  cases ltB s a.lo <;> cases ltB s b.lo <;> cases aheadR a s <;> cases aheadR b s <;> rfl
theorem meetR_lo {a b m : Rng} (h : meetR a b = some m) : m.lo = a.lo ∨ m.lo = b.lo := by
  obtain ⟨_, _, _, rfl⟩ := meetR_some h
  exact joinR_lo_or a b
theorem joinR_comm {a b : Rng} (ha : rightR a = true) (hb : rightR b = true) : joinR b a = joinR a b := by
  have e1 : (match ltB b.lo a.lo with | true => a.lo | false => b.lo) = (match ltB a.lo b.lo with | true => b.lo | false => a.lo) := by
    rcases ltB_three a.lo b.lo with ⟨h1, h2, _⟩ | ⟨h1, h2, _⟩ | ⟨h1, h2, h3⟩ <;> rw [h1, h2]
    exact h3.symm
  unfold joinR
  rw [e1]
  cases h : endLt a b with
  | true => rw [endLt_asymm h]
  | false => cases h' : endLt b a with
    | true => rfl
    | false =>
      obtain ⟨e2, e3⟩ := end_same ha hb h h'
      simp only [e2, e3]
theorem meetR_comm (a b : Rng) : meetR b a = meetR a b := by
  cases ha : rightR a with
  | false => rw [meetR_wrong (by rw [ha, Bool.and_false]), meetR_wrong (by rw [ha]; rfl)]
  | true => cases hb : rightR b with
    | false => rw [meetR_wrong (by rw [hb]; rfl), meetR_wrong (by rw [hb, Bool.and_false])]
    | true => unfold meetR; rw [joinR_comm ha hb, ha, hb]
/-- Where two have nothing, the one's first text isn't in both. -/
theorem meetR_no {a b : Rng} (h : meetR a b = none) : (hasR a b.lo && hasR b b.lo) = false := by
  cases h1 : hasR a b.lo with
  | false => rfl
  | true => cases h2 : hasR b b.lo with
    | false => rfl
    | true =>
      unfold hasR at h1 h2
      simp only [Bool.and_eq_true, Bool.not_eq_true'] at h1 h2
      obtain ⟨⟨ha, h3⟩, h4⟩ := h1
      obtain ⟨⟨hb, h5⟩, h6⟩ := h2
      have e : (joinR a b).lo = b.lo := by
        rw [joinR_lo]
        cases h7 : ltB a.lo b.lo with
        | true => rfl
        | false => exact ltB_total h7 h3
      have hm : rightR (joinR a b) = true := by rw [joinR_right ha hb, e, joinR_ahead, h4, h6]; rfl
      rw [meetR_of ha hb hm] at h
      cases h
theorem meetR_no' {a b : Rng} (h : meetR a b = none) : (hasR b a.lo && hasR a a.lo) = false := meetR_no ((meetR_comm a b).trans h)
end Go.Proofs.YtaodifpnfejbbaaGreat

/-
  Ranges as values of the program: named texts, a block that holds one, two held against each other, one that came in.
-/
namespace Go.Proofs.YtaodifpnfejbbaaGreat
open Go.RowKit

/-- A range as a value, its texts named. -/
structure IsR (r : Rng) (S T : ByteArray) (o : Bool) : Prop where
  lo : str r.lo = S
  hi : str r.hi = T
  op : r.op = o
theorem IsR.mk' (r : Rng) : IsR r (str r.lo) (str r.hi) r.op := ⟨rfl, rfl, rfl⟩
theorem below_set3 {B g : Nat} {a w : World} (h : Below B a w) (hg : B ≤ g) (u v x : Value) : Below B a (((w.setCell ⟨g, 0, none⟩ u).setCell ⟨g, 1, none⟩ v).setCell ⟨g, 2, none⟩ x) :=
  ((h.setCell (p := ⟨g, 0, none⟩) hg u).setCell (p := ⟨g, 1, none⟩) hg v).setCell (p := ⟨g, 2, none⟩) hg x
/-- A range lies in block g. -/
def RgAt (w : World) (g : Nat) (S T : ByteArray) (o : Bool) : Prop := w.cell? ⟨g, 0, none⟩ = some (.string S) ∧ w.cell? ⟨g, 1, none⟩ = some (.string T) ∧ w.cell? ⟨g, 2, none⟩ = some (.bool o) ∧ ∀ k, w.frozen? ⟨g, k, none⟩ = false
theorem RgAt.lt {w : World} {g : Nat} {S T : ByteArray} {o : Bool} (h : RgAt w g S T o) : g < w.heap.size := World.block_lt_of_cell? w _ h.1
theorem RgAt.drew {w : World} {g : Nat} {S T : ByteArray} {o : Bool} (h : RgAt w g S T o) : RgAt w.drew g S T o := h
theorem RgAt.below {w w' : World} {g : Nat} {S T : ByteArray} {o : Bool} (h : RgAt w g S T o) (hb : Below w.heap.size w w') : RgAt w' g S T o := by
  obtain ⟨hc, hf⟩ := bcell hb
  have hl := h.lt
  obtain ⟨h0, h1, h2, h3⟩ := h
  exact ⟨(hc _ _ hl).trans h0, (hc _ _ hl).trans h1, (hc _ _ hl).trans h2, fun k => (hf _ _ hl).trans (h3 k)⟩
theorem RgAt.grown {w w' : World} {row : Option Nat} {g : Nat} {S T : ByteArray} {o : Bool} (h : RgAt w g S T o) (hg : w.grownBy w' row) (hne : some g ≠ row) : RgAt w' g S T o :=
  ⟨hg.cell h.1 hne, hg.cell h.2.1 hne, hg.cell h.2.2.1 hne, fun k => (hg.frozen_far ⟨g, k, none⟩ h.lt hne).trans (h.2.2.2 k)⟩
theorem RgAt.keep {w : World} {g : Nat} {S T : ByteArray} {o : Bool} (h : RgAt w g S T o) (x : Obj) : RgAt (w.alloc x) g S T o := h.below ((Below.refl _ _).alloc (Nat.le_refl _) x)
theorem rgAt_new (w : World) (S T : ByteArray) (o : Bool) (t : TypeId) : RgAt (w.alloc (.cells #[.string S, .string T, .bool o] t)) w.heap.size S T o := by
  have h := heap_new w (.cells #[.string S, .string T, .bool o] t) _ rfl
  refine ⟨?_, ?_, ?_, fun k => ?_⟩
  · rw [cell_of_row _ _ _ _ _ _ h]; rfl
  · rw [cell_of_row _ _ _ _ _ _ h]; rfl
  · rw [cell_of_row _ _ _ _ _ _ h]; rfl
  · unfold World.frozen?; rw [h]; simp
theorem set_other {w : World} {a b : Addr} {u : Value} (h : w.cell? b = some u) (hne : a ≠ b) (v : Value) : (w.setCell a v).cell? b = some u := (World.cell?_setCell_other w a b v hne).trans h
theorem set_same {w : World} {a : Addr} {u : Value} (h : w.cell? a = some u) (v : Value) : (w.setCell a v).cell? a = some v := World.cell?_setCell_same w a v h
theorem addr_block {g g' i j : Nat} (h : g ≠ g') : (⟨g, i, none⟩ : Addr) ≠ ⟨g', j, none⟩ := fun e => h (by injection e)
theorem addr_off {g i j : Nat} (h : i ≠ j) : (⟨g, i, none⟩ : Addr) ≠ ⟨g, j, none⟩ := fun e => h (by injection e)
theorem RgAt.other {w : World} {g : Nat} {S T : ByteArray} {o : Bool} (h : RgAt w g S T o) {g' k : Nat} (hne : g' ≠ g) (v : Value) : RgAt (w.setCell ⟨g', k, none⟩ v) g S T o :=
  ⟨set_other h.1 (addr_block hne) v, set_other h.2.1 (addr_block hne) v, set_other h.2.2.1 (addr_block hne) v, fun j => by rw [World.frozen?_setCell]; exact h.2.2.2 j⟩
theorem RgAt.set0 {w : World} {g : Nat} {S T : ByteArray} {o : Bool} (h : RgAt w g S T o) (X : ByteArray) : RgAt (w.setCell ⟨g, 0, none⟩ (.string X)) g X T o :=
  ⟨set_same h.1 _, set_other h.2.1 (addr_off (i := 0) (j := 1) (by decide)) _, set_other h.2.2.1 (addr_off (i := 0) (j := 2) (by decide)) _, fun j => by rw [World.frozen?_setCell]; exact h.2.2.2 j⟩
theorem RgAt.set1 {w : World} {g : Nat} {S T : ByteArray} {o : Bool} (h : RgAt w g S T o) (X : ByteArray) : RgAt (w.setCell ⟨g, 1, none⟩ (.string X)) g S X o :=
  ⟨set_other h.1 (addr_off (i := 1) (j := 0) (by decide)) _, set_same h.2.1 _, set_other h.2.2.1 (addr_off (i := 1) (j := 2) (by decide)) _, fun j => by rw [World.frozen?_setCell]; exact h.2.2.2 j⟩
theorem RgAt.set2 {w : World} {g : Nat} {S T : ByteArray} {o : Bool} (h : RgAt w g S T o) (p : Bool) : RgAt (w.setCell ⟨g, 2, none⟩ (.bool p)) g S T p :=
  ⟨set_other h.1 (addr_off (i := 2) (j := 0) (by decide)) _, set_other h.2.1 (addr_off (i := 2) (j := 1) (by decide)) _, set_same h.2.2.1 _, fun j => by rw [World.frozen?_setCell]; exact h.2.2.2 j⟩
theorem RgAt.set3 {w : World} {g : Nat} {S T : ByteArray} {o : Bool} (h : RgAt w g S T o) (X Y : ByteArray) (p : Bool) : RgAt (((w.setCell ⟨g, 0, none⟩ (.string X)).setCell ⟨g, 1, none⟩ (.string Y)).setCell ⟨g, 2, none⟩ (.bool p)) g X Y p := ((h.set0 X).set1 Y).set2 p
theorem RgAt.other3 {w : World} {g : Nat} {S T : ByteArray} {o : Bool} (h : RgAt w g S T o) {g' : Nat} (hne : g' ≠ g) (x y z : Value) : RgAt (((w.setCell ⟨g', 0, none⟩ x).setCell ⟨g', 1, none⟩ y).setCell ⟨g', 2, none⟩ z) g S T o := ((h.other hne x).other hne y).other hne z
theorem size1 (w : World) (o : Obj) : (w.alloc o).heap.size = w.heap.size + 1 := by simp

theorem rgAt_new1 (w : World) (x : Obj) (S T : ByteArray) (o : Bool) (t : TypeId) : RgAt ((w.alloc x).alloc (.cells #[.string S, .string T, .bool o] t)) (w.heap.size + 1) S T o := by
  have := rgAt_new (w.alloc x) S T o t
  rwa [size1] at this
theorem rgAt_new2 (w : World) (x y : Obj) (S T : ByteArray) (o : Bool) (t : TypeId) : RgAt (((w.alloc x).alloc y).alloc (.cells #[.string S, .string T, .bool o] t)) (w.heap.size + 1 + 1) S T o := by
  have := rgAt_new ((w.alloc x).alloc y) S T o t
  rwa [size1, size1] at this
/-- A range lies in block g, and below the first block of a call all is as it was: what stays so through a drawn statement. -/
abbrev HeldR (a : World) (g : Nat) (S T : ByteArray) (o : Bool) (w : World) : Prop := (w.cell? ⟨g, 0, none⟩ = some (.string S) ∧ w.cell? ⟨g, 1, none⟩ = some (.string T) ∧ w.cell? ⟨g, 2, none⟩ = some (.bool o) ∧ ∀ k, w.frozen? ⟨g, k, none⟩ = false) ∧ Below a.heap.size a w
theorem heldR_call {a w w' : World} {g : Nat} {S T : ByteArray} {o : Bool} (h : HeldR a g S T o w) (hb : Below w.heap.size w w') : HeldR a g S T o w' :=
  ⟨RgAt.below (w := w) h.1 hb, h.2.trans (hb.mono h.2.size)⟩
theorem heldR_alloc {a w : World} {g : Nat} {S T : ByteArray} {o : Bool} (h : HeldR a g S T o w) (x : Obj) : HeldR a g S T o (w.alloc x) := ⟨RgAt.keep (w := w) h.1 x, h.2.alloc h.2.size x⟩
theorem heldR_drew {a w : World} {g : Nat} {S T : ByteArray} {o : Bool} (h : RgAt w g S T o) (hb : Below a.heap.size a w) : HeldR a g S T o w.drew := ⟨h, hb.drew⟩
theorem heldR_set3 {a w : World} {g g' : Nat} {S T : ByteArray} {o : Bool} (h : HeldR a g S T o w) (hg : g < g') (ha : a.heap.size ≤ g') (x y z : Value) : HeldR a g S T o (((w.setCell ⟨g', 0, none⟩ x).setCell ⟨g', 1, none⟩ y).setCell ⟨g', 2, none⟩ z) :=
  ⟨RgAt.other3 (w := w) h.1 (by omega) x y z, below_set3 h.2 ha x y z⟩
/-- The same for some ranges, each in its block. -/
def HeldL (a : World) : List (Nat × ByteArray × ByteArray × Bool) → World → Prop
  | [], w => Below a.heap.size a w
  | (g, S, T, o) :: l, w => RgAt w g S T o ∧ HeldL a l w
theorem heldL_size {a w : World} : ∀ {l : List (Nat × ByteArray × ByteArray × Bool)}, HeldL a l w → Below a.heap.size a w
  | [], h => h
  | _ :: _, h => heldL_size h.2
theorem heldL_call {a w w' : World} (hb : Below w.heap.size w w') : ∀ {l : List (Nat × ByteArray × ByteArray × Bool)}, HeldL a l w → HeldL a l w'
  | [], h => Below.trans h (hb.mono (Below.size h))
  | _ :: _, h => ⟨h.1.below hb, heldL_call hb h.2⟩
theorem heldL_drew {a w : World} : ∀ {l : List (Nat × ByteArray × ByteArray × Bool)}, HeldL a l w → HeldL a l w.drew
  | [], h => Below.drew h
  | _ :: _, h => ⟨h.1.drew, heldL_drew h.2⟩
theorem heldL_alloc {a w : World} (x : Obj) : ∀ {l : List (Nat × ByteArray × ByteArray × Bool)}, HeldL a l w → HeldL a l (w.alloc x)
  | [], h => Below.alloc h (Below.size h) x
  | _ :: _, h => ⟨h.1.keep x, heldL_alloc x h.2⟩
/-- Two that came in, as a call boxes them. -/
theorem heldL_two (w : World) (S T U V : ByteArray) (o p : Bool) (t : TypeId) : HeldL w [(w.heap.size, S, T, o), (w.heap.size + 1, U, V, p)] ((w.alloc (.cells #[.string S, .string T, .bool o] t)).alloc (.cells #[.string U, .string V, .bool p] t)) :=
  ⟨(rgAt_new w S T o t).keep _, rgAt_new1 w _ U V p t, ((Below.refl w.heap.size w).alloc (Nat.le_refl _) _).alloc (by simp) _⟩
theorem heldL_one (w : World) (S T : ByteArray) (o : Bool) (t : TypeId) : HeldL w [(w.heap.size, S, T, o)] (w.alloc (.cells #[.string S, .string T, .bool o] t)) :=
  ⟨rgAt_new w S T o t, (Below.refl w.heap.size w).alloc (Nat.le_refl _) _⟩

/-- Two ranges held against each other. -/
theorem eq_rng (a b c d : ByteArray) (o p : Bool) (w : World) : (Op.equalIn 10000 42 (.agg #[.string a, .string b, .bool o]) (.agg #[.string c, .string d, .bool p])).run Tryz.prog w = .ok (a.toList == c.toList && b.toList == d.toList && o == p) w := by
  have u3 := Tryz.underlying9
  have a3 := Tryz.isAgg9
  have z3 := Tryz.sizeOf9
  have u4 := Tryz.underlying4
  have a4 := Tryz.isAgg4
  have z4 := Tryz.sizeOf4
  have hS : Tryz.prog.underlying 42 = some (.struct (Tryz.prog.fieldsOf 42)) := by kernel_rfl
  have hp : Tryz.prog.stoodInHeld 42 = false := by kernel_rfl
  rw [show (10000 : Nat) = 9999 + 1 from rfl, run_equalIn_agg w 9999 42 _ _ hS hp]
  simp only [Program.fieldsOf, Tryz.underlying42]
  go_simp
  by_cases h1 : a.toList = c.toList <;> by_cases h2 : b.toList = d.toList <;> cases o <;> cases p <;> simp [h1, h2]
theorem eq_rng_is (a b c d : ByteArray) (o p q : Bool) (hq : (a.toList == c.toList && b.toList == d.toList && o == p) = q) (w : World) : (Op.equalIn 10000 42 (.agg #[.string a, .string b, .bool o]) (.agg #[.string c, .string d, .bool p])).run Tryz.prog w = .ok q w := by
  subst hq; exact eq_rng a b c d o p w
end Go.Proofs.YtaodifpnfejbbaaGreat

/-
  Lists of things that take some cells each, as rows of the program: read, owned, appended to, stored into.
-/
namespace Go.Proofs.YtaodifpnfejbbaaGreat
open Go.RowKit

theorem below_new (w : World) (o : Obj) : Below w.heap.size w (w.alloc o) := (Below.refl _ _).alloc (Nat.le_refl _) o
/-- How a thing lies in memory, and in slices of which type. -/
structure Kind (P : Program) (α : Type) where
  ty : TypeId
  el : TypeId
  size : Nat
  bytes : Nat
  zero : Value
  cells : α → List Value
  len : ∀ x, (cells x).length = size
  one : ∀ x, ∀ u ∈ cells x, u.oneCell' = true
  pos : 0 < size
  under : P.underlying ty = some (.slice el)
  info : (P.info? el).map (fun i => (i.zero, i.size, i.bytes)) = some (some zero, size, bytes)
  zsize : zero.cells.size = size

namespace Kind
variable {P : Program} {α : Type} (k : Kind P α)

def row (l : List α) : List Value := l.flatMap k.cells
theorem row_nil : k.row [] = [] := rfl
theorem row_cons (x : α) (l : List α) : k.row (x :: l) = k.cells x ++ k.row l := rfl
theorem row_append (a b : List α) : k.row (a ++ b) = k.row a ++ k.row b := by simp [row]
theorem row_one (x : α) : k.row [x] = k.cells x := by simp [row]
theorem row_len : ∀ l : List α, (k.row l).length = l.length * k.size
  | [] => by simp [row]
  | x :: l => by rw [row_cons, List.length_append, k.len, row_len l, List.length_cons, Nat.succ_mul, Nat.add_comm]
theorem row_cells (l : List α) : ∀ u ∈ k.row l, u.oneCell' = true := fun u hu => by
  obtain ⟨x, _, hx⟩ := List.mem_flatMap.1 hu
  exact k.one x u hx
/-- Cell j of thing i. -/
theorem row_get : ∀ {l : List α} {i j : Nat} {x : α}, l[i]? = some x → j < k.size → (k.row l)[i * k.size + j]? = (k.cells x)[j]?
  | [], i, j, x, h, _ => by cases h
  | y :: l, 0, j, x, h, hj => by
    simp only [List.getElem?_cons_zero, Option.some.injEq] at h
    subst h
    rw [row_cons, Nat.zero_mul, Nat.zero_add, List.getElem?_append_left (by rw [k.len]; exact hj)]
  | y :: l, i + 1, j, x, h, hj => by
    rw [List.getElem?_cons_succ] at h
    rw [row_cons, List.getElem?_append_right (by rw [k.len, Nat.succ_mul]; omega), k.len, ← row_get h hj, Nat.succ_mul]
    congr 1; omega
theorem row_set : ∀ {l : List α} {i j : Nat} {x y : α} {v : Value}, l[i]? = some x → j < k.size → (k.cells x).set j v = k.cells y → (k.row l).set (i * k.size + j) v = k.row (l.set i y)
  | [], i, j, x, y, v, h, _, _ => by cases h
  | z :: l, 0, j, x, y, v, h, hj, he => by
    simp only [List.getElem?_cons_zero, Option.some.injEq] at h
    subst h
    rw [row_cons, Nat.zero_mul, Nat.zero_add, List.set_append_left _ _ (by rw [k.len]; exact hj), he, List.set_cons_zero, row_cons]
  | z :: l, i + 1, j, x, y, v, h, hj, he => by
    rw [List.getElem?_cons_succ] at h
    rw [row_cons, List.set_append_right _ _ (by rw [k.len, Nat.succ_mul]; omega), List.set_cons_succ, row_cons, ← row_set h hj he, k.len]
    congr 2
    rw [Nat.succ_mul]; omega

theorem row_take : ∀ (l : List α) (i : Nat), k.row (l.take i) = (k.row l).take (i * k.size)
  | [], i => by simp [row]
  | x :: l, 0 => by simp [row]
  | x :: l, i + 1 => by
    have e : (i + 1) * k.size = (k.cells x).length + i * k.size := by rw [k.len, Nat.succ_mul, Nat.add_comm]
    rw [List.take_succ_cons, row_cons, row_cons, row_take l i, e, List.take_length_add_append]
theorem row_drop : ∀ (l : List α) (i : Nat), k.row (l.drop i) = (k.row l).drop (i * k.size)
  | [], i => by simp [row]
  | x :: l, 0 => by simp [row]
  | x :: l, i + 1 => by
    have e : (i + 1) * k.size = (k.cells x).length + i * k.size := by rw [k.len, Nat.succ_mul, Nat.add_comm]
    rw [List.drop_succ_cons, row_cons, row_drop l i, e, List.drop_length_add_append]

/-- A row that reads as these things, with its room. -/
structure Rd (w : World) (B : Nat) (A : Option Addr) (c : Nat) (l : List α) : Prop where
  row : RowAt w B A (k.row l)
  room : l.length ≤ c
  cap : c ≤ maxLen
variable {k}
theorem Rd.keep {w w' : World} {B : Nat} {A : Option Addr} {c : Nat} {l : List α} (h : k.Rd w B A c l) (hk : ∀ p : Addr, p.block < B → w'.cell? p = w.cell? p) : k.Rd w' B A c l := ⟨h.row.keep hk, h.room, h.cap⟩
theorem Rd.below {w w' : World} {B : Nat} {A : Option Addr} {c : Nat} {l : List α} (h : k.Rd w B A c l) (hb : Below B w w') : k.Rd w' B A c l := ⟨h.row.below hb, h.room, h.cap⟩
theorem Rd.more {w : World} {B B' : Nat} {A : Option Addr} {c : Nat} {l : List α} (h : k.Rd w B A c l) (hB : B ≤ B') : k.Rd w B' A c l := ⟨h.row.more hB, h.room, h.cap⟩
theorem Rd.call {w w' : World} {A : Option Addr} {c : Nat} {l : List α} (h : k.Rd w w.heap.size A c l) (hb : Below w.heap.size w w') : k.Rd w' w'.heap.size A c l := (h.below hb).more hb.size
theorem Rd.drewN {w : World} {B : Nat} {A : Option Addr} {c : Nat} {l : List α} (h : k.Rd w B A c l) (n : Nat) : k.Rd (w.drewN n) B A c l := ⟨h.row, h.room, h.cap⟩
theorem Rd.nil (w : World) (B : Nat) : k.Rd w B none 0 [] := ⟨.inl rfl, Nat.le_refl _, Nat.zero_le _⟩
/-- Where the things lie. -/
theorem Rd.at_ {w : World} {B : Nat} {A : Option Addr} {c : Nat} {l : List α} (h : k.Rd w B A c l) (hp : 0 < l.length) :
    ∃ b o, A = some ⟨b, o, none⟩ ∧ b < B ∧ ∀ i x, l[i]? = some x → ∀ j u, (k.cells x)[j]? = some u → w.cell? ⟨b, o + (i * k.size + j), none⟩ = some u := by
  rcases h.row with h0 | ⟨b, o, h1, h2, h3⟩
  · exfalso
    have := congrArg List.length h0
    rw [k.row_len, List.length_nil] at this
    have := Nat.mul_pos hp k.pos
    omega
  · refine ⟨b, o, h1, h2, fun i x hx j u hu => h3 _ _ ?_⟩
    have hj : j < k.size := by
      rw [← k.len x]
      exact (List.getElem?_eq_some_iff.1 hu).1
    rw [k.row_get hx hj]; exact hu

/-- A row of the call's own. -/
def Own (k : Kind P α) (w : World) (base : Nat) (v : Value) (l : List α) : Prop := w.ownsRow base k.el k.size v l.length (k.row l)
theorem Own.of_row {w : World} {base n : Nat} {v : Value} {l : List α} (h : w.ownsRow base k.el k.size v n (k.row l)) : k.Own w base v l := by
  have h1 := h.1
  rw [k.row_len] at h1
  obtain rfl : l.length = n := Nat.eq_of_mul_eq_mul_right k.pos h1
  exact h
theorem Own.nil (w : World) (base : Nat) : k.Own w base (.slice none 0 0) [] := ⟨by simp [row], .inl ⟨rfl, rfl⟩⟩
theorem Own.alloc {w : World} {base : Nat} {v : Value} {l : List α} (h : k.Own w base v l) (o : Obj) : k.Own (w.alloc o) base v l := World.ownsRow.alloc h o
theorem Own.kept {w w' : World} {r : Option Nat} {base : Nat} {v : Value} {l : List α} (h : k.Own w base v l) (hg : w.grownBy w' r) (hne : v.ownBlock = none ∨ v.ownBlock ≠ r) : k.Own w' base v l := World.ownsRow.kept h hg hne
theorem Own.lt {w : World} {base : Nat} {v : Value} {l : List α} (h : k.Own w base v l) : ∀ g, v.ownBlock = some g → base ≤ g ∧ g < w.heap.size := World.ownsRow.lt h
theorem Own.below {w w' : World} {base : Nat} {v : Value} {l : List α} (h : k.Own w base v l) (hb : Below w.heap.size w w') : k.Own w' base v l :=
  h.kept (grown_of_below hb none) (by cases hv : v.ownBlock <;> simp)
theorem Own.other {w w' : World} {base r : Nat} {v : Value} {l : List α} (h : k.Own w base v l) (hg : w.grownBy w' (some r)) (hr : r < base) : k.Own w' base v l :=
  h.kept hg (by
    cases hv : v.ownBlock with
    | none => exact .inl rfl
    | some g => exact .inr (fun e => by have := (h.lt g hv).1; injection e with e; omega))
theorem Own.mono {w : World} {base base' : Nat} {v : Value} {l : List α} (h : k.Own w base v l) (hb : base' ≤ base) : k.Own w base' v l := by
  obtain ⟨h1, h2⟩ := h
  refine ⟨h1, ?_⟩
  rcases h2 with h2 | ⟨g, cap, cur, hv, hg, r⟩
  · exact .inl h2
  · exact .inr ⟨g, cap, cur, hv, by omega, r⟩
theorem Own.form {w : World} {base : Nat} {v : Value} {l : List α} (h : k.Own w base v l) : ∃ A c, v = .slice A l.length c ∧ k.Rd w w.heap.size A c l := by
  obtain ⟨A, c, rfl, hc⟩ := own_form h
  refine ⟨A, c, rfl, RowAt.of_own h, hc, ?_⟩
  rcases h.2 with ⟨hv, _⟩ | ⟨g, cap, cur, hv, _, _, _, hm, _⟩
  · injection hv with _ _ h3; subst h3; exact Nat.zero_le _
  · injection hv with _ _ h3; subst h3; exact hm
theorem Own.rd {w : World} {base n c : Nat} {A : Option Addr} {l : List α} (h : k.Own w base (.slice A n c) l) : k.Rd w w.heap.size A c l := by
  obtain ⟨A', c', hv, hr⟩ := h.form
  injection hv with h1 _ h3
  subst h1 h3
  exact hr
theorem Own.read_n {w : World} {base n : Nat} {v : Value} {l : List α} (h : k.Own w base v l) (hn : n = l.length) : ∃ A c, v = .slice A n c ∧ k.Rd w w.heap.size A c l := by subst hn; exact h.form
/-- An own row with something in it lies at the head of a block of the call's own, free, and its cells are known. -/
theorem Own.some_ {w : World} {base n : Nat} {v : Value} {l : List α} (h : k.Own w base v l) (hn : n = l.length) (hp : 0 < n) :
    ∃ g c, v = .slice (some ⟨g, 0, none⟩) n c ∧ n ≤ c ∧ base ≤ g ∧ g < w.heap.size ∧ (∀ j, w.frozen? ⟨g, j, none⟩ = false) ∧ ∀ i x, l[i]? = some x → ∀ j u, (k.cells x)[j]? = some u → w.cell? ⟨g, i * k.size + j, none⟩ = some u := by
  subst hn
  rcases h.2 with ⟨_, h0⟩ | ⟨g, cap, cur, hv, hg, hb, hc, _, _, ht⟩
  · omega
  · refine ⟨g, cap, hv, hc, hg, lt_of_block hb, fun j => by simp [World.frozen?, hb], fun i x hx j u hu => ?_⟩
    rw [cell_of_row _ _ _ cur _ (0, 0) hb, ← Array.getElem?_toList]
    have hj : j < k.size := by
      rw [← k.len x]
      exact (List.getElem?_eq_some_iff.1 hu).1
    have h1 := k.row_get hx hj
    rw [hu, ← ht, List.getElem?_take] at h1
    split at h1
    · exact h1
    · cases h1
theorem Own.at_g {w : World} {base g n c : Nat} {l : List α} (h : k.Own w base (.slice (some ⟨g, 0, none⟩) n c) l) (hn : n = l.length) (hp : 0 < n) :
    base ≤ g ∧ g < w.heap.size ∧ (∀ j, w.frozen? ⟨g, j, none⟩ = false) ∧ ∀ i x, l[i]? = some x → ∀ j u, (k.cells x)[j]? = some u → w.cell? ⟨g, i * k.size + j, none⟩ = some u := by
  obtain ⟨g', c', hv, _, h1, h2, h3, h4⟩ := h.some_ hn hp
  injection hv with hA
  injection hA with hA
  injection hA with hA
  subst hA
  exact ⟨h1, h2, h3, h4⟩
theorem Own.stored {w : World} {base g n c : Nat} {l : List α} (h : k.Own w base (.slice (some ⟨g, 0, none⟩) n c) l) (hn : n = l.length) {i j : Nat} {x y : α} {v : Value} (hx : l[i]? = some x) (hj : j < k.size) (he : (k.cells x).set j v = k.cells y) :
    k.Own (w.setCell ⟨g, i * k.size + j, none⟩ v) base (.slice (some ⟨g, 0, none⟩) n c) (l.set i y) := by
  subst hn
  have := (World.ownsRow.stored h (i * k.size + j) v).1
  rw [k.row_set hx hj he] at this
  exact Own.of_row this
/-- A block that has just been made reads as its things. -/
theorem rd_new {w : World} {cs : Array Value} {l : List α} {t : TypeId} {n : Nat} (hl : cs.toList = k.row l) (hn : n = l.length) (hm : l.length ≤ 1000000) : k.Rd (w.alloc (.cells cs t)) (w.heap.size + 1) (some ⟨w.heap.size, 0, none⟩) n l := by
  subst hn
  exact ⟨hl ▸ RowAt.of_block (heap_new w _ _ rfl), Nat.le_refl _, by unfold maxLen; omega⟩
end Kind

theorem Kind.Rd.empty {P : Program} {α : Type} {k : Kind P α} (w : World) (B : Nat) (A : Option Addr) (c : Nat) (hc : c ≤ maxLen) : k.Rd w B A c [] := ⟨.inl rfl, Nat.zero_le _, hc⟩
/-- append of a row that is read to a row of the call's own. -/
theorem wpList_app_k {P : Program} {α : Type} (k : Kind P α) {w : World} {ops : Array Oper} {rest : List Oper} {o : Oper} {a : Act} {Q : Exit → Act → World → Prop} (hgd : Region.wanted o (yielded ops a.tmps) = true) (s x : Operand)
    (ho : o.op = .call { callee := .builtin .append, args := #[s, x], argTypes := #[k.ty, k.ty] })
    (base : Nat) (v : Value) (xs : List α) (hs : a.eval s = v) (hown : k.Own w base v xs)
    (B : Nat) (A : Option Addr) (c n : Nat) (ys : List α) (hn : n = ys.length) (hx : a.eval x = .slice A n c) (hr : RowAt w B A (k.row ys)) (hlen : xs.length + ys.length ≤ 1000000) (hby : k.bytes ≤ 1000) (hbase : base ≤ w.heap.size)
    (h : ∀ v' w', k.Own w' base v' (xs ++ ys) → w.grownBy w' v.ownBlock → Below base w w' → (v'.ownBlock = v.ownBlock ∨ v'.ownBlock = some w.heap.size) → wpList P ops Q rest (a.put o.dst v') w') : wpList P ops Q (o :: rest) a w := by
  obtain ⟨i0, hi0, hz0, hz1, hz2⟩ := info_parts k.info
  subst hn
  refine wpList_step fun K hK => ?_
  rw [if_pos hgd]
  refine wp_append_row w s x _ ho base k.el i0 _ k.size k.bytes k.under hi0 hz0 hz1 hz2 k.zsize k.pos v xs.length (k.row xs) hs hown B A ys.length c (k.row ys) hx (k.row_len ys) hr (k.row_cells ys) (by unfold maxLen; omega) ?_ hbase fun v' w' h1 h2 h3 => hK _ _ ?_
  · have := Nat.mul_le_mul hlen hby
    omega
  · refine h v' w' ?_ h2 ((Below.refl _ _).grown h2 hbase (fun g hg => (World.ownsRow.lt hown g hg).1)) h3
    rw [← k.row_append] at h1
    exact Kind.Own.of_row h1
/-- The same for one operation of a statement that draws its order. -/
theorem op_app_k {P : Program} {α : Type} (k : Kind P α) {w : World} {o : Oper} {a : Act} {K : Act → World → Prop} {Q : Exit → Act → World → Prop} (s x : Operand)
    (ho : o.op = .call { callee := .builtin .append, args := #[s, x], argTypes := #[k.ty, k.ty] })
    (base : Nat) (v : Value) (xs : List α) (hs : a.eval s = v) (hown : k.Own w base v xs)
    (B : Nat) (A : Option Addr) (c n : Nat) (ys : List α) (hn : n = ys.length) (hx : a.eval x = .slice A n c) (hr : RowAt w B A (k.row ys)) (hlen : xs.length + ys.length ≤ 1000000) (hby : k.bytes ≤ 1000) (hbase : base ≤ w.heap.size)
    (h : ∀ v' w', k.Own w' base v' (xs ++ ys) → w.grownBy w' v.ownBlock → Below base w w' → (v'.ownBlock = v.ownBlock ∨ v'.ownBlock = some w.heap.size) → K (a.put o.dst v') w') : Oper.wp P o a w K Q := by
  obtain ⟨i0, hi0, hz0, hz1, hz2⟩ := info_parts k.info
  subst hn
  refine wp_append_row w s x _ ho base k.el i0 _ k.size k.bytes k.under hi0 hz0 hz1 hz2 k.zsize k.pos v xs.length (k.row xs) hs hown B A ys.length c (k.row ys) hx (k.row_len ys) hr (k.row_cells ys) (by unfold maxLen; omega) ?_ hbase fun v' w' h1 h2 h3 => h v' w' ?_ h2 ((Below.refl _ _).grown h2 hbase (fun g hg => (World.ownsRow.lt hown g hg).1)) h3
  · have := Nat.mul_le_mul hlen hby
    omega
  · rw [← k.row_append] at h1
    exact Kind.Own.of_row h1
end Go.Proofs.YtaodifpnfejbbaaGreat

/-
  A walk through a statement that draws its order, once, in the text's order, where all its operations keep a condition on the world: reads, and calls that make memory of their own.
-/
namespace Go.Proofs.YtaodifpnfejbbaaGreat
open Go.RowKit

section
variable {P : Program} {C : World → Prop} {a : Act} {o : Oper}
theorem q_region {id : Nat} {Q : Exit → Act → World → Prop} {a : Act} {w : World} {l : List Oper} (C : World → Prop) (hm : P.follows .mixedOrders = true) (hB : Region.lexB .any l.toArray = true) (hC : C w.drew)
    (h : wpQuiet P l.toArray C (fun a' => ∀ w', C w' → Q .normal a' w') l a) : (Code.region id l.toArray true).wp P Q a w :=
  wp_region_quiet (C := C) hm hB hC (by simpa using h)
theorem q_take {v : Value} {K : Act → Prop} (hy : ∀ w, C w → (execOp a.eval o).run P w = .ok (.value v) w) (hk : K (a.put o.dst v)) : o.quiet P a C K :=
  ⟨v, fun w hC => by unfold Oper.quietAt; rw [hy w hC]; exact ⟨rfl, rfl⟩, hk⟩
theorem q_call {v : Value} {K : Act → Prop} {f : FuncId} {args : Array Value} (hc : ∀ w, C w → Calls P f args w fun e w' => e = .returned v ∧ C w') (he : ∀ w, C w → (execOp a.eval o).run P w = .ok (.enter f args) w) (hk : K (a.put o.dst v)) : o.quiet P a C K :=
  ⟨v, fun w hC => by unfold Oper.quietAt; rw [he w hC]; exact ⟨rfl, hc w hC⟩, hk⟩
end

/-- Some cells hold these values, and below the first block of a call all is as it was: what stays so through a drawn statement. -/
def CellL (a : World) : List (Addr × Value) → World → Prop
  | [], w => Below a.heap.size a w
  | (p, v) :: l, w => w.cell? p = some v ∧ CellL a l w
theorem cellL_size {a w : World} : ∀ {l : List (Addr × Value)}, CellL a l w → Below a.heap.size a w
  | [], h => h
  | _ :: _, h => cellL_size h.2
theorem cellL_call {a w w' : World} (hb : Below w.heap.size w w') : ∀ {l : List (Addr × Value)}, CellL a l w → CellL a l w'
  | [], h => Below.trans h (hb.mono (Below.size h))
  | (p, _) :: _, h => ⟨(hb.cell (p := p) (World.block_lt_of_cell? w p h.1)).trans h.1, cellL_call hb h.2⟩
theorem cellL_drew {a w : World} : ∀ {l : List (Addr × Value)}, CellL a l w → CellL a l w.drew
  | [], h => Below.drew h
  | _ :: _, h => ⟨h.1, cellL_drew h.2⟩
theorem cellL_of {P : Program} {f : FuncId} {args : Array Value} {v : Value} {a : World} {l : List (Addr × Value)} (h : ∀ w, Calls P f args w fun e w' => e = .returned v ∧ Below w.heap.size w w') :
    ∀ w, CellL a l w → Calls P f args w fun e w' => e = .returned v ∧ CellL a l w' := fun w hC => (h w).mono fun _ _ ⟨h1, h2⟩ => ⟨h1, cellL_call h2 hC⟩
theorem cellL_of_same {P : Program} {f : FuncId} {args : Array Value} {v : Value} {a : World} {l : List (Addr × Value)} (h : ∀ w, Calls P f args w fun e w' => e = .returned v ∧ w = w') :
    ∀ w, CellL a l w → Calls P f args w fun e w' => e = .returned v ∧ CellL a l w' := fun w hC => (h w).mono fun _ _ ⟨h1, h2⟩ => ⟨h1, h2 ▸ hC⟩
theorem alloc_keeps (w : World) (x : Obj) : ∀ b o, b < w.heap.size → (w.alloc x).cell? ⟨b, o, none⟩ = w.cell? ⟨b, o, none⟩ := (bcell ((Below.refl w.heap.size w).alloc (Nat.le_refl _) x)).1
end Go.Proofs.YtaodifpnfejbbaaGreat

/-
  Plain facts on versions (layer 12): right ones, their order, their texts, and lists of them in order. No program in this text.
-/
namespace Go.Proofs.YtaodifpnfejbbaaGreat

structure Vr where
  rep : Int
  cnt : Int
def rightVr (v : Vr) : Bool := decide (1 ≤ v.rep) && (decide (v.rep ≤ 16) && (decide (1 ≤ v.cnt) && decide (v.cnt ≤ 1099511627776)))
theorem rightVr_iff {v : Vr} : rightVr v = true ↔ 1 ≤ v.rep ∧ v.rep ≤ 16 ∧ 1 ≤ v.cnt ∧ v.cnt ≤ 1099511627776 := by
  unfold rightVr; simp only [Bool.and_eq_true, decide_eq_true_eq]
def lessVr (a b : Vr) : Bool := decide (a.rep < b.rep) || (decide (a.rep = b.rep) && decide (a.cnt < b.cnt))
theorem lessVr_iff {a b : Vr} : lessVr a b = true ↔ a.rep < b.rep ∨ a.rep = b.rep ∧ a.cnt < b.cnt := by
  unfold lessVr; simp only [Bool.or_eq_true, Bool.and_eq_true, decide_eq_true_eq]
theorem vr_ext {a b : Vr} (h1 : a.rep = b.rep) (h2 : a.cnt = b.cnt) : a = b := by cases a; cases b; simp_all
def cmpVr (a b : Vr) : Int := match lessVr a b with | true => -1 | false => match lessVr b a with | true => 1 | false => 0
theorem cmpVr_three (a b : Vr) : (cmpVr a b = -1 ∧ cmpVr b a = 1 ∧ lessVr a b = true ∧ lessVr b a = false) ∨ (cmpVr a b = 1 ∧ cmpVr b a = -1 ∧ lessVr a b = false ∧ lessVr b a = true) ∨ (cmpVr a b = 0 ∧ cmpVr b a = 0 ∧ lessVr a b = false ∧ lessVr b a = false ∧ a = b) := by
  unfold cmpVr
  cases h : lessVr a b <;> cases h' : lessVr b a
  · refine .inr (.inr ⟨rfl, rfl, rfl, rfl, ?_⟩)
    have e1 : ¬ (a.rep < b.rep ∨ a.rep = b.rep ∧ a.cnt < b.cnt) := fun e => by rw [lessVr_iff.2 e] at h; cases h
    have e2 : ¬ (b.rep < a.rep ∨ b.rep = a.rep ∧ b.cnt < a.cnt) := fun e => by rw [lessVr_iff.2 e] at h'; cases h'
    exact vr_ext (by omega) (by omega)
  · exact .inr (.inl ⟨rfl, rfl, rfl, rfl⟩)
  · exact .inl ⟨rfl, rfl, rfl, rfl⟩
  · have e1 := lessVr_iff.1 h
    have e2 := lessVr_iff.1 h'
    omega
theorem lessVr_trans {a b c : Vr} (h : lessVr a b = true) (h' : lessVr b c = true) : lessVr a c = true := by
  rw [lessVr_iff] at *; omega
theorem lessVr_irrefl (a : Vr) : lessVr a a = false := by
  cases h : lessVr a a with
  | false => rfl
  | true => rw [lessVr_iff] at h; omega
theorem cmpVr_zero {a b : Vr} : cmpVr a b = 0 ↔ a = b := by
  constructor
  · intro h
    rcases cmpVr_three a b with h1 | h1 | h1
    · rw [h1.1] at h; cases h
    · rw [h1.1] at h; cases h
    · exact h1.2.2.2.2
  · rintro rfl
    unfold cmpVr; rw [lessVr_irrefl]

/-! Numbers as digits. -/
def digC (n : Nat) : UInt8 := UInt8.ofNat (48 + n)
def digF : Nat → Nat → List UInt8
  | 0, n => [digC (n % 10)]
  | f + 1, n => match decide (n < 10) with | true => [digC n] | false => digF f (n / 10) ++ [digC (n % 10)]
def digN (n : Nat) : List UInt8 := digF 20 n
theorem digF_small {f n : Nat} (h : n < 10) : digF f n = [digC n] := by
  cases f with
  | zero => rw [digF, Nat.mod_eq_of_lt h]
  | succ f => rw [digF, decide_eq_true h]
theorem digF_big {f n : Nat} (h : 10 ≤ n) : digF (f + 1) n = digF f (n / 10) ++ [digC (n % 10)] := by rw [digF, decide_eq_false (by omega)]
def digVal : List UInt8 → Nat → Nat
  | [], a => a
  | c :: l, a => digVal l (10 * a + (c.toNat - 48))
theorem digVal_append : ∀ (a b : List UInt8) (x : Nat), digVal (a ++ b) x = digVal b (digVal a x)
  | [], _, _ => rfl
  | c :: a, b, x => by rw [List.cons_append, digVal, digVal, digVal_append a b]
theorem digC_val : ∀ n, n < 10 → (digC n).toNat - 48 = n ∧ 48 ≤ (digC n).toNat ∧ (digC n).toNat ≤ 57 := by decide +kernel
theorem digF_val : ∀ (f n : Nat), n < 10 ^ (f + 1) → digVal (digF f n) 0 = n
  | 0, n, h => by
    rw [digF_small (by simpa using h)]
    show 10 * 0 + ((digC n).toNat - 48) = n
    rw [(digC_val n (by simpa using h)).1]; omega
  | f + 1, n, h => by
    by_cases hn : n < 10
    · rw [digF_small hn]
      show 10 * 0 + ((digC n).toNat - 48) = n
      rw [(digC_val n hn).1]; omega
    · rw [digF_big (by omega), digVal_append, digF_val f (n / 10) (by rw [Nat.pow_succ] at h; omega)]
      show 10 * (n / 10) + ((digC (n % 10)).toNat - 48) = n
      rw [(digC_val (n % 10) (by omega)).1]; omega
theorem digF_digits : ∀ (f n : Nat), ∀ c ∈ digF f n, 48 ≤ c.toNat ∧ c.toNat ≤ 57
  | 0, n, c, hc => by
    rw [digF, List.mem_singleton] at hc
    subst hc
    exact (digC_val (n % 10) (by omega)).2
  | f + 1, n, c, hc => by
    by_cases hn : n < 10
    · rw [digF_small hn, List.mem_singleton] at hc
      subst hc
      exact (digC_val n hn).2
    · rw [digF_big (by omega)] at hc
      rcases List.mem_append.1 hc with hc | hc
      · exact digF_digits f _ c hc
      · rw [List.mem_singleton] at hc
        subst hc
        exact (digC_val (n % 10) (by omega)).2
theorem digF_len : ∀ (f n : Nat), (digF f n).length ≤ f + 1
  | 0, n => by simp [digF]
  | f + 1, n => by
    by_cases hn : n < 10
    · rw [digF_small hn]; simp
    · rw [digF_big (by omega), List.length_append, List.length_singleton]
      have := digF_len f (n / 10)
      omega
theorem digF_ne (f n : Nat) : digF f n ≠ [] := by
  cases f with
  | zero => simp [digF]
  | succ f =>
    by_cases hn : n < 10
    · rw [digF_small hn]; simp
    · rw [digF_big (by omega)]; simp
theorem digN_inj {m n : Nat} (hm : m ≤ 1099511627776) (hn : n ≤ 1099511627776) (h : digN m = digN n) : m = n := by
  have h1 := digF_val 20 m (by omega)
  have h2 := digF_val 20 n (by omega)
  unfold digN at h
  rw [h] at h1
  omega
/-- How the digits come, the last one first. -/
def DigSt (n : Nat) (s : List UInt8) (r : Nat) : Prop := ∃ f, r < 10 ^ (f + 1) ∧ ((s = [] ∧ digN n = digF f r) ∨ (s ≠ [] ∧ digN n = (match decide (r = 0) with | true => [] | false => digF f r) ++ s))
theorem DigSt.start {n : Nat} (h : n ≤ 1099511627776) : DigSt n [] n := ⟨20, by omega, .inl ⟨rfl, rfl⟩⟩
theorem DigSt.step {n r : Nat} {s : List UInt8} (h : DigSt n s r) (hc : s = [] ∨ 0 < r) : DigSt n (digC (r % 10) :: s) (r / 10) := by
  obtain ⟨f, hf, h⟩ := h
  have e : digN n = digF f r ++ s := by
    rcases h with ⟨h1, h2⟩ | ⟨h1, h2⟩
    · rw [h2, h1, List.append_nil]
    · rw [h2, decide_eq_false (by rcases hc with hc | hc; exact absurd hc h1; omega)]
  by_cases hr : r < 10
  · refine ⟨0, by omega, .inr ⟨by simp, ?_⟩⟩
    rw [decide_eq_true (show r / 10 = 0 by omega), e, digF_small hr, Nat.mod_eq_of_lt hr]; rfl
  · cases f with
    | zero => simp at hf; omega
    | succ f =>
      refine ⟨f, by rw [Nat.pow_succ] at hf; omega, .inr ⟨by simp, ?_⟩⟩
      rw [decide_eq_false (show ¬ r / 10 = 0 by omega), e, digF_big (by omega), List.append_assoc]; rfl
theorem DigSt.done {n : Nat} {s : List UInt8} (h : DigSt n s 0) (hs : s ≠ []) : s = digN n := by
  obtain ⟨f, _, h⟩ := h
  rcases h with ⟨h1, _⟩ | ⟨_, h2⟩
  · exact absurd h1 hs
  · exact h2.symm

/-! A version's text. -/
def textVr (v : Vr) : List UInt8 := digN v.rep.toNat ++ 46 :: digN v.cnt.toNat
theorem dot_cut : ∀ {a b r r' : List UInt8}, (∀ c ∈ a, 48 ≤ c.toNat ∧ c.toNat ≤ 57) → (∀ c ∈ b, 48 ≤ c.toNat ∧ c.toNat ≤ 57) → a ++ 46 :: r = b ++ 46 :: r' → a = b ∧ r = r'
  | [], [], r, r', _, _, h => by injection h with _ h; exact ⟨rfl, h⟩
  | [], c :: b, r, r', _, hb, h => by
    injection h with h _
    have := hb c (List.mem_cons_self ..)
    rw [← h] at this
    exact absurd this.1 (by decide)
  | c :: a, [], r, r', ha, _, h => by
    injection h with h _
    have := ha c (List.mem_cons_self ..)
    rw [h] at this
    exact absurd this.1 (by decide)
  | c :: a, d :: b, r, r', ha, hb, h => by
    rw [List.cons_append, List.cons_append] at h
    injection h with h1 h2
    obtain ⟨h3, h4⟩ := dot_cut (fun x hx => ha x (List.mem_cons_of_mem _ hx)) (fun x hx => hb x (List.mem_cons_of_mem _ hx)) h2
    exact ⟨by rw [h1, h3], h4⟩
theorem textVr_inj {a b : Vr} (ha : rightVr a = true) (hb : rightVr b = true) (h : textVr a = textVr b) : a = b := by
  rw [rightVr_iff] at ha hb
  unfold textVr at h
  obtain ⟨h1, h2⟩ := dot_cut (digF_digits 20 _) (digF_digits 20 _) h
  have h3 := digN_inj (by omega) (by omega) h1
  have h4 := digN_inj (by omega) (by omega) h2
  exact vr_ext (by omega) (by omega)
theorem textVr_len (v : Vr) : (textVr v).length ≤ 43 := by
  have h1 := digF_len 20 v.rep.toNat
  have h2 := digF_len 20 v.cnt.toNat
  unfold textVr digN
  rw [List.length_append, List.length_cons]
  omega
/-- The version of a text, if there is one. -/
noncomputable def readVr (s : List UInt8) : Option Vr := by
  classical exact if h : ∃ v, rightVr v = true ∧ textVr v = s then some h.choose else none
theorem readVr_back {s : List UInt8} {v : Vr} (h : readVr s = some v) : rightVr v = true ∧ textVr v = s := by
  unfold readVr at h
  split at h
  · rename_i hx
    injection h with h
    subst h
    exact hx.choose_spec
  · cases h
theorem readVr_some {s : List UInt8} {v : Vr} (h : rightVr v = true) (hs : textVr v = s) : readVr s = some v := by
  have hx : ∃ v, rightVr v = true ∧ textVr v = s := ⟨v, h, hs⟩
  unfold readVr
  rw [dif_pos hx]
  obtain ⟨h1, h2⟩ := hx.choose_spec
  rw [textVr_inj h1 h (h2.trans hs.symm)]
theorem readVr_none {s : List UInt8} (h : readVr s = none) : ∀ v, rightVr v = true → textVr v ≠ s := fun v hv hs => by
  rw [readVr_some hv hs] at h; cases h

/-! Lists of versions. -/
def hasVr (l : List Vr) (v : Vr) : Bool := l.any fun x => decide (x.rep = v.rep) && decide (x.cnt = v.cnt)
theorem hasVr_iff {l : List Vr} {v : Vr} : hasVr l v = true ↔ v ∈ l := by
  unfold hasVr
  rw [List.any_eq_true]
  constructor
  · rintro ⟨x, hx, h⟩
    simp only [Bool.and_eq_true, decide_eq_true_eq] at h
    rw [← vr_ext h.1 h.2]; exact hx
  · intro h
    exact ⟨v, h, by simp⟩
/-- In order, each once. -/
def RiseVr (l : List Vr) : Prop := l.Pairwise fun a b => lessVr a b = true
/-- The right ones of some versions, in order, each once. -/
structure SortVr (l r : List Vr) : Prop where
  rise : RiseVr r
  mem : ∀ v, v ∈ r ↔ v ∈ l ∧ rightVr v = true
theorem SortVr.one {v : Vr} {r : List Vr} (h : SortVr [v, v] r) (hv : rightVr v = true) : r = [v] := by
  have h1 : ∀ x ∈ r, x = v := fun x hx => by have := ((h.mem x).1 hx).1; simpa using this
  match r, h with
  | [], h => have := (h.mem v).2 ⟨by simp, hv⟩; cases this
  | [x], h => rw [h1 x (List.mem_singleton.2 rfl)]
  | x :: y :: r, h =>
    have h2 := (List.pairwise_cons.1 h.rise).1 y (List.mem_cons_self ..)
    rw [h1 x (List.mem_cons_self ..), h1 y (by simp), lessVr_irrefl] at h2
    cases h2
theorem SortVr.next {l r : List Vr} (h : SortVr l r) {k : Nat} {a b : Vr} (ha : r[k]? = some a) (hb : r[k + 1]? = some b) : lessVr a b = true := by
  obtain ⟨h1, rfl⟩ := List.getElem?_eq_some_iff.1 ha
  obtain ⟨h2, rfl⟩ := List.getElem?_eq_some_iff.1 hb
  exact List.pairwise_iff_getElem.1 h.rise k (k + 1) h1 h2 (by omega)
theorem riseVr_nodup {l : List Vr} (h : RiseVr l) : l.Nodup := List.Pairwise.imp (fun {a b} h e => by subst e; rw [lessVr_irrefl] at h; cases h) h
/-- There is one such list. -/
theorem riseVr_unique : ∀ {a b : List Vr}, RiseVr a → RiseVr b → (∀ v, v ∈ a ↔ v ∈ b) → a = b
  | [], [], _, _, _ => rfl
  | [], y :: b, _, _, h => by have := (h y).2 (List.mem_cons_self ..); cases this
  | x :: a, [], _, _, h => by have := (h x).1 (List.mem_cons_self ..); cases this
  | x :: a, y :: b, ha, hb, h => by
    obtain ⟨ha1, ha2⟩ := List.pairwise_cons.1 ha
    obtain ⟨hb1, hb2⟩ := List.pairwise_cons.1 hb
    have e : x = y := by
      rcases List.mem_cons.1 ((h x).1 (List.mem_cons_self ..)) with e | e
      · exact e
      · rcases List.mem_cons.1 ((h y).2 (List.mem_cons_self ..)) with e' | e'
        · exact e'.symm
        · have h1 := hb1 x e
          have h2 := ha1 y e'
          have := lessVr_trans h1 h2
          rw [lessVr_irrefl] at this; cases this
    subst e
    rw [riseVr_unique ha2 hb2 fun v => ?_]
    constructor
    · intro hv
      rcases List.mem_cons.1 ((h v).1 (List.mem_cons_of_mem _ hv)) with e | e
      · subst e; have := ha1 v hv; rw [lessVr_irrefl] at this; cases this
      · exact e
    · intro hv
      rcases List.mem_cons.1 ((h v).2 (List.mem_cons_of_mem _ hv)) with e | e
      · subst e; have := hb1 v hv; rw [lessVr_irrefl] at this; cases this
      · exact e
end Go.Proofs.YtaodifpnfejbbaaGreat
