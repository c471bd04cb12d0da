/-
  Several texts in one: Words, Frame, Append, Bytes, Open, More, KeyPure, SpanPure, Rng, Kind, Quiet, VrPure.
-/
import Derived.Test.YtfpgklpnpplnnaaRows
import Derived.WalkKit
import Derived.WalkSpells
import Derived.WalkLawsBesides
import Derived.Lib.Hide
import Derived.ProofKit
import Derived.OpenShut
import Derived.ShutString
import Derived.ChangeOld
import Derived.JoinedCond
import Derived.SizedLaws
import Derived.Deep.CondSized
import Derived.Maps.AppendAt
import Derived.Deep.AppendLies
import Derived.RegionTactic
import Derived.OwnWalk
import Derived.Laws.BytesArg
import Derived.Lib.AppendStr
import Derived.OneCell
import Derived.Deep.Slices
import Derived.Deep.Strs
import Derived.ChangeMaps5
import Derived.Outline
import Derived.Laws.OwnMore
import Derived.Deep.QuietTactic
import Derived.BigQuiet
import Derived.Lib.Bytealg
import Derived.Laws.StructEq
import Derived.Laws.Tables
import Derived.Deep.Quiet
import Derived.Test.YtfpgklpnpplnnaaMg1
namespace Go.Proofs.Ytfpgklpnpplnnaa
open Go.RowKit

def RowAt (w : World) (B : Nat) (A : Option Addr) (xs : List Value) : Prop :=
  xs = [] ∨ ∃ b o, A = some ⟨b, o, none⟩ ∧ b < B ∧ ∀ k u, xs[k]? = some u → w.cell? ⟨b, o + k, none⟩ = some u

theorem RowAt.nil (w : World) (B : Nat) (A : Option Addr) : RowAt w B A [] := .inl rfl
theorem RowAt.keep {w w' : World} {B : Nat} {A : Option Addr} {xs : List Value} (h : RowAt w B A xs) (hk : ∀ p : Addr, p.block < B → w'.cell? p = w.cell? p) : RowAt w' B A xs := by
  rcases h with h | ⟨b, o, h1, h2, h3⟩
  · exact .inl h
  · exact .inr ⟨b, o, h1, h2, fun k u hu => (hk _ h2).trans (h3 k u hu)⟩
theorem RowAt.below {w w' : World} {B : Nat} {A : Option Addr} {xs : List Value} (h : RowAt w B A xs) (hb : Below B w w') : RowAt w' B A xs := h.keep fun _ hp => hb.cell hp
theorem RowAt.more {w : World} {B B' : Nat} {A : Option Addr} {xs : List Value} (h : RowAt w B A xs) (hB : B ≤ B') : RowAt w B' A xs := by
  rcases h with h | ⟨b, o, h1, h2, h3⟩
  · exact .inl h
  · exact .inr ⟨b, o, h1, by omega, h3⟩

abbrev ints (l : List Int) : List Value := l.map (Value.int .i64)
theorem ints_get {l : List Int} {k : Nat} (h : k < l.length) : (ints l)[k]? = some (.int .i64 (l.getD k 0)) := by
  simp [ints, List.getD, List.getElem?_eq_getElem h]

def AllI64 (l : List Int) : Prop := ∀ x ∈ l, -9223372036854775808 ≤ x ∧ x ≤ 9223372036854775807
theorem AllI64.at_ {l : List Int} (h : AllI64 l) {k : Nat} (hk : k < l.length) : -9223372036854775808 ≤ l.getD k 0 ∧ l.getD k 0 ≤ 9223372036854775807 := by
  have := h (l[k]) (List.getElem_mem hk)
  simpa [List.getD, List.getElem?_eq_getElem hk] using this
theorem ret_int {k : IntKind} {a b : Int} (h : a = b) : Ending.returned (.int k a) = .returned (.int k b) := by rw [h]
theorem ret_bool {a b : Bool} (h : a = b) : Ending.returned (.bool a) = .returned (.bool b) := by rw [h]
end Go.Proofs.Ytfpgklpnpplnnaa

namespace Go.Proofs.Ytfpgklpnpplnnaa
open Go.ChangeShapes Go.WideShapes Go.ChangeAt Go.RowKit

theorem own : ownKnob Try.prog.godebug = none := by kernel_rfl
theorem laidOut : laidOutB Try.prog = true := by kernel_rfl

noncomputable def rowsOk (P : Program) (ts : List TypeId) : Bool := ts.all fun t => P.readableRec t && decide (t < P.types.size)

section
variable {P : Program} {H : Type} {enc : TypeId × Value → H} {W W' : World}

theorem trodAll_below (hl : laidOutB P = true) (bel : Below W.heap.size W W') : ∀ {ts : List TypeId} {vs : List Value} {ds : List (DataW H)} {p : List MemPlace}, rowsOk P ts = true →
    DataW.TrodAll enc P W 0 (fun _ => true) true ts vs ds p → DataW.TrodAll enc P W' 0 (fun b => decide (b < W.heap.size)) true ts vs ds p
  | [], [], [], _, _, h => h
  | [], _ :: _, _, _, _, h => h.elim
  | [], [], _ :: _, _, _, h => h.elim
  | _ :: _, [], _, _, _, h => h.elim
  | _ :: _, _ :: _, [], _, _, h => h.elim
  | t :: ts, v :: vs, d :: ds, p, ho, h => by
    obtain ⟨p1, p2, h1, h2, rfl⟩ := h
    have ho' : (P.readableRec t = true ∧ t < P.types.size) ∧ rowsOk P ts = true := by simpa [rowsOk] using ho
    have lt1 : ∀ x ∈ p1, x.block < W.heap.size := by
      have k1 := h1
      obtain ⟨m, hm⟩ := k1
      exact DataW.trod_lt m _ _ _ hm
    exact ⟨p1, p2, Below.trod hl ho'.1.1 ho'.1.2 h1 bel lt1, trodAll_below hl bel ho'.2 h2, rfl⟩

theorem trodAll_len : ∀ {ts : List TypeId} {vs : List Value} {ds : List (DataW H)} {p : List MemPlace}, DataW.TrodAll enc P W 0 (fun _ => true) true ts vs ds p → ds.length = ts.length ∧ vs.length = ts.length
  | [], [], [], _, _ => ⟨rfl, rfl⟩
  | [], _ :: _, _, _, h => h.elim
  | [], [], _ :: _, _, h => h.elim
  | _ :: _, [], _, _, h => h.elim
  | _ :: _, _ :: _, [], _, h => h.elim
  | _ :: _, _ :: _, _ :: _, _, h => by
    obtain ⟨_, _, _, h2, _⟩ := h
    have := trodAll_len h2
    simp [this.1, this.2]
end

section
variable {H : Type} {enc : TypeId × Value → H} {W W' : World}

def Answers (s : ChangeSpec) (n : Nat) : Prop := s.vars = [] ∧ ∀ (H : Type) (ds : List (DataW H)), ds.length = n → s.fn H ds = { results := [.lit (.bool true)], args := ds }

theorem law_post (f : Func) (s : ChangeSpec) {args : Array Value} {ds gs : List (DataW H)} {before : List MemPlace} (ha : Answers s f.params.size)
    (hres : f.resultTypes = #[4]) (hrd : rowsOk Try.prog f.params.toList = true)
    (hW : DataW.Whole enc Try.prog f.params.toList s.vars false W args.toList ds gs before) (bel : Below W.heap.size W W') :
    s.post enc Try.prog f false true false false W args (.bool true) W' := by
  have hW' := hW
  obtain ⟨hv, hfn⟩ := ha
  rw [hv] at hW'
  obtain ⟨p, q, hA, hV, rfl, -, -⟩ := hW'
  obtain ⟨rfl, rfl⟩ := trodVars_none hV
  have hl := (trodAll_len hA).1
  have e := hfn H (ds ++ []) (by rw [List.append_nil, hl, Array.length_toList])
  refine ⟨ds, [], _, [], p, [], hW, ?_, ?_, ?_, bel.frame _, fun h => by cases h⟩
  · rw [e, hres]
    exact trodAll_mk1 (shut_bool Try.underlying4 _)
  · rw [e]
    exact (List.append_nil ds).symm ▸ trodAll_below laidOut bel hrd hA
  · rw [e, hv]; rfl

structure Told (enc : TypeId × Value → H) (f : Func) (W : World) (base : Nat) (args : Array Value) (ds : List (DataW H)) : Prop where
  fits : ∀ (j : Nat) t v, f.params[j]? = some t → args[j]? = some v → Value.okWide Try.prog W .any base t v
  reads : ∃ p, DataW.TrodAll enc Try.prog W 0 (fun _ => true) true f.params.toList args.toList ds p
  reach : (DataW.weightsEach Try.prog f.params.toList ds).all (· ≤ reachBytes) = true

set_option maxRecDepth 100000 in
theorem law_contract (K : FuncId) (f : Func) (s : ChangeSpec) (ha : Answers s f.params.size) (hres : f.resultTypes = #[4]) (hrd : rowsOk Try.prog f.params.toList = true)
    (base : Nat) (args : Array Value) (ds gs : List (DataW H)) (before : List MemPlace)
    (hval : ∀ (j : Nat) t v, f.params[j]? = some t → args[j]? = some v → Value.okWide Try.prog W .any base t v)
    (hW : DataW.Whole enc Try.prog f.params.toList s.vars false W args.toList ds gs before)
    (hsz : (DataW.weightsEach Try.prog (f.params.toList ++ s.plain.varTypes Try.prog) (ds ++ gs)).all (· ≤ reachBytes) = true)
    (walk : Told enc f W base args ds → Calls Try.prog K args W fun e W' => e = .returned (.bool true) ∧ Below W.heap.size W W') :
    Calls Try.prog K args W fun e W' => ∃ v, e = .returned v ∧ s.post enc Try.prog f false true false false W args v W' := by
  have hW' := hW
  rw [ha.1] at hW'
  obtain ⟨p, q, hA, hV, rfl, -, -⟩ := hW'
  obtain ⟨rfl, rfl⟩ := trodVars_none hV
  have hvt : s.plain.varTypes Try.prog = [] := by unfold DataSpec.varTypes; rw [show s.plain.vars = [] from ha.1]; rfl
  rw [hvt, List.append_nil, List.append_nil] at hsz
  exact (walk ⟨hval, ⟨p, hA⟩, hsz⟩).mono fun e W' ⟨he, bel⟩ => ⟨_, he, law_post f s ha hres hrd hW bel⟩
end

section
variable {H : Type} {enc : TypeId × Value → H} {W : World} {base : Nat}

end
end Go.Proofs.Ytfpgklpnpplnnaa

namespace Go.Proofs.Ytfpgklpnpplnnaa
open Go.RowKit

section
variable {P : Program} (w : World)

theorem append_row (base : Nat) (t ty e : TypeId) (i : TypeInfo) (z : Value) (size bytes : Nat) (ht : P.underlying t = some (.slice e)) (hi : P.info? e = some i) (hz : i.zero = some z)
    (hsize : i.size = size) (hby : i.bytes = bytes) (hzs : z.cells.size = size) (hsz : 0 < size)
    (v : Value) (n : Nat) (xs : List Value) (hown : w.ownsRow base e size v n xs)
    (B : Nat) (A : Option Addr) (m c : Nat) (news : List Value) (hl : news.length = m * size) (hr : RowAt w B A news) (h1 : ∀ u ∈ news, u.oneCell' = true)
    (h63 : n + m ≤ maxLen) (hbytes : (n + m) * bytes ≤ 140737488355328) (hbase : base ≤ w.heap.size) :
    ∃ v' w', (Builtin.append_ #[t, t] ty #[v, .slice A m c]).run P w = .ok v' w' ∧ w'.ownsRow base e size v' (n + m) (xs ++ news) ∧ w.grownBy w' v.ownBlock ∧
      (v'.ownBlock = v.ownBlock ∨ v'.ownBlock = some w.heap.size) := by
  cases A with
  | none =>
    have hn : news = [] := by
      rcases hr with h | ⟨b, o, h, _⟩
      · exact h
      · cases h
    have hm : m = 0 := by
      rw [hn] at hl
      rcases Nat.eq_zero_or_pos m with h | h
      · exact h
      · have := Nat.mul_pos h hsz
        simp at hl
        omega
    subst hm
    subst hn
    refine ⟨v, w, ?_, by simpa using hown, World.grownBy.refl w _, .inl rfl⟩
    rcases hown.2 with ⟨rfl, rfl⟩ | ⟨g, cap, cur, rfl, _, _, hnc, _⟩
    · simp [Builtin.append_, run_underlying ht, sizeOf, typeInfo, hi, Builtin.lenOf, Builtin.firstCells]
    · simp [Builtin.append_, run_underlying ht, sizeOf, typeInfo, hi, Builtin.lenOf, Builtin.firstCells, hnc, storeCells]
  | some ad =>
    have hcells : ∀ j u, news[j]? = some u → w.cell? (ad.add j) = some u := by
      intro j u hu
      rcases hr with h | ⟨b, o, h, _, hc⟩
      · rw [h] at hu; simp at hu
      · injection h with h
        subst h
        rw [Go.WideShapes.add_plain]
        exact hc j u hu
    obtain ⟨v', w', hrun, h2, h3, -, h5⟩ := run_append_own_at (P := P) w base t ty e i z size bytes ht hi hz hsize hby hzs hsz v n xs hown ad m c news hl hcells h1 h63 hbytes hbase
    exact ⟨v', w', hrun, h2, h3, h5⟩

theorem wp_append_row {o : Oper} {a : Act} {K : Act → World → Prop} {Q : Exit → Act → World → Prop} (s x : Operand) (t : TypeId)
    (ho : o.op = .call { callee := .builtin .append, args := #[s, x], argTypes := #[t, t] })
    (base : Nat) (e : TypeId) (i : TypeInfo) (z : Value) (size bytes : Nat) (ht : P.underlying t = some (.slice e)) (hi : P.info? e = some i) (hz : i.zero = some z)
    (hsize : i.size = size) (hby : i.bytes = bytes) (hzs : z.cells.size = size) (hsz : 0 < size)
    (v : Value) (n : Nat) (xs : List Value) (hs : a.eval s = v) (hown : w.ownsRow base e size v n xs)
    (B : Nat) (A : Option Addr) (m c : Nat) (news : List Value) (hx : a.eval x = .slice A m c) (hl : news.length = m * size) (hr : RowAt w B A news) (h1 : ∀ u ∈ news, u.oneCell' = true)
    (h63 : n + m ≤ maxLen) (hbytes : (n + m) * bytes ≤ 140737488355328) (hbase : base ≤ w.heap.size)
    (h : ∀ v' w', w'.ownsRow base e size v' (n + m) (xs ++ news) → w.grownBy w' v.ownBlock → (v'.ownBlock = v.ownBlock ∨ v'.ownBlock = some w.heap.size) → K (a.put o.dst v') w') : o.wp P a w K Q := by
  obtain ⟨v', w', hrun, h2, h3, h4⟩ := append_row (P := P) w base t o.type e i z size bytes ht hi hz hsize hby hzs hsz v n xs hown B A m c news hl hr h1 h63 hbytes hbase
  unfold Oper.wp execOp
  simp only [ho, resolve, invoke, builtin, Sem.run_bind, Sem.run_pure, Result.andThen_ok, List.map_toArray, List.map_cons, List.map_nil, hs, hx, hrun]
  exact h v' w' h2 h3 h4

end

theorem RowAt.of_own {w : World} {base : Nat} {e : TypeId} {size n c : Nat} {A : Option Addr} {xs : List Value} (h : w.ownsRow base e size (.slice A n c) n xs) : RowAt w w.heap.size A xs := by
  rcases h.2 with ⟨_, h0⟩ | ⟨g, cap, cur, hv, _, hg, _, _, _, ht⟩
  · left
    have := h.1
    rw [h0, Nat.zero_mul] at this
    exact List.eq_nil_of_length_eq_zero this
  · injection hv with hA _ _
    have hlt : g < w.heap.size := by
      rcases Nat.lt_or_ge g w.heap.size with hlt | hge
      · exact hlt
      · rw [Array.getElem?_eq_none hge] at hg; cases hg
    refine .inr ⟨g, 0, hA, hlt, fun k u hu => ?_⟩
    rw [cell_of_row _ _ _ cur e (0, 0) hg, ← Array.getElem?_toList]
    rw [← ht] at hu
    rw [List.getElem?_take] at hu
    split at hu
    · simpa using hu
    · cases hu
theorem own_form {w : World} {base : Nat} {e : TypeId} {size n : Nat} {v : Value} {xs : List Value} (h : w.ownsRow base e size v n xs) : ∃ A c, v = .slice A n c ∧ n ≤ c := by
  rcases h.2 with ⟨rfl, rfl⟩ | ⟨g, cap, cur, rfl, _, _, hc, _⟩
  · exact ⟨none, 0, rfl, Nat.le_refl _⟩
  · exact ⟨_, cap, rfl, hc⟩
end Go.Proofs.Ytfpgklpnpplnnaa

namespace Go.Proofs.Ytfpgklpnpplnnaa
open Go.RowKit

theorem byte_info : (Try.prog.info? 5).map (fun i => (i.zero, i.size, i.bytes)) = some (some (.int .u8 0), 1, 1) := by kernel_rfl
abbrev bytes (l : List UInt8) : List Value := l.map fun c => Value.int .u8 (c.toNat : Int)
theorem bytes_len (l : List UInt8) : (bytes l).length = l.length * 1 := by simp
theorem bytes_one (l : List UInt8) : ∀ u ∈ bytes l, u.oneCell' = true := by
  intro u hu
  obtain ⟨x, _, rfl⟩ := List.mem_map.1 hu
  rfl
theorem bytes_get {l : List UInt8} {k : Nat} (h : k < l.length) : (bytes l)[k]? = some (.int .u8 ((l.getD k 0).toNat : Int)) := by
  simp [bytes, List.getD, List.getElem?_eq_getElem h]
theorem bytes_append (a b : List UInt8) : bytes a ++ bytes b = bytes (a ++ b) := by simp
def str (l : List UInt8) : ByteArray := ⟨l.toArray⟩
theorem str_size (l : List UInt8) : (str l).size = l.length := by simp [str, ByteArray.size]
theorem str_data (l : List UInt8) : (str l).data.toList = l := by simp [str]
theorem str_toList (l : List UInt8) : (str l).toList = l := by rw [ByteArray.toList_eq, str_data]
theorem str_of (s : ByteArray) : str s.data.toList = s := by simp [str]
theorem str_drop (l : List UInt8) (k : Nat) : (str l).extract k l.length = str (l.drop k) := by
  rw [str, ByteArray.extract_mk, str, List.take_of_length_le (by simp)]
theorem str_take (l : List UInt8) (k : Nat) : (str l).extract 0 k = str (l.take k) := by
  rw [str, ByteArray.extract_mk, str]
  simp
theorem str_get (l : List UInt8) (k : Nat) (h : k < l.length) : (str l)[k]'(by rw [str_size]; exact h) = l.getD k 0 := by
  show l.toArray[k]'(by simpa using h) = _
  simp [List.getD, List.getElem?_eq_getElem h]
def OwnB (w : World) (base : Nat) (v : Value) (l : List UInt8) : Prop := w.ownsRow base 5 1 v l.length (bytes l)
theorem OwnB.row {w : World} {base : Nat} {v : Value} {l : List UInt8} (h : OwnB w base v l) : w.ownsRow base 5 1 v l.length (bytes l) := h
theorem OwnB.of_row {w : World} {base n : Nat} {v : Value} {l : List UInt8} (h : w.ownsRow base 5 1 v n (bytes l)) : OwnB w base v l := by
  have := h.1
  rw [bytes_len] at this
  obtain rfl : l.length = n := by omega
  exact h
theorem OwnB.form {w : World} {base : Nat} {v : Value} {l : List UInt8} (h : OwnB w base v l) : ∃ A c, v = .slice A l.length c ∧ l.length ≤ c ∧ c ≤ maxLen ∧ RowAt w w.heap.size A (bytes l) ∧ (∀ k, v.ownBlock = some k → base ≤ k ∧ k < w.heap.size) := by
  obtain ⟨A, c, rfl, hc⟩ := own_form h
  refine ⟨A, c, rfl, hc, ?_, RowAt.of_own h, World.ownsRow.lt h⟩
  rcases h.2 with ⟨hv, _⟩ | ⟨g, cap, cur, hv, _, _, _, hm, _⟩
  · injection hv with _ _ h3
    subst h3
    exact Nat.zero_le _
  · injection hv with _ _ h3
    subst h3
    exact hm
structure RdB (w : World) (B : Nat) (A : Option Addr) (c : Nat) (l : List UInt8) : Prop where
  row : RowAt w B A (bytes l)
  room : l.length ≤ c
  cap : c ≤ maxLen
theorem RdB.keep {w w' : World} {B : Nat} {A : Option Addr} {c : Nat} {l : List UInt8} (h : RdB w B A c l) (hk : ∀ p : Addr, p.block < B → w'.cell? p = w.cell? p) : RdB w' B A c l := ⟨h.row.keep hk, h.room, h.cap⟩
theorem RdB.below {w w' : World} {B : Nat} {A : Option Addr} {c : Nat} {l : List UInt8} (h : RdB w B A c l) (hb : Below B w w') : RdB w' B A c l := ⟨h.row.below hb, h.room, h.cap⟩
theorem RdB.more {w : World} {B B' : Nat} {A : Option Addr} {c : Nat} {l : List UInt8} (h : RdB w B A c l) (hB : B ≤ B') : RdB w B' A c l := ⟨h.row.more hB, h.room, h.cap⟩
theorem OwnB.read {w : World} {base : Nat} {v : Value} {l : List UInt8} (h : OwnB w base v l) : ∃ A c, v = .slice A l.length c ∧ RdB w w.heap.size A c l := by
  obtain ⟨A, c, h1, h2, h3, h4, _⟩ := h.form
  exact ⟨A, c, h1, h4, h2, h3⟩
theorem RowAt.bytes_at {w : World} {B : Nat} {A : Option Addr} {l : List UInt8} (h : RowAt w B A (bytes l)) (hp : 0 < l.length) :
    ∃ b o, A = some ⟨b, o, none⟩ ∧ b < B ∧ ∀ k, k < l.length → w.cell? ⟨b, o + k, none⟩ = some (.int .u8 ((l.getD k 0).toNat : Int)) := by
  rcases h with h | ⟨b, o, h1, h2, h3⟩
  · have : l = [] := by simpa [bytes] using h
    subst this; simp at hp
  · exact ⟨b, o, h1, h2, fun k hk => h3 k _ (bytes_get hk)⟩

def RetB (base : Nat) (w : World) (l : List UInt8) (e : Ending) (w' : World) : Prop := ∃ v, e = .returned v ∧ OwnB w' base v l ∧ Below base w w'

theorem heap_new (w : World) (o : Obj) (g : Nat) (h : g = w.heap.size) : (w.alloc o).heap[g]? = some o := by subst h; exact heap_alloc_new w o
theorem RowAt.of_block {w : World} {g : Nat} {cs : Array Value} {t : TypeId} {f : Nat × Nat} (h : w.heap[g]? = some (.cells cs t f)) : RowAt w (g + 1) (some ⟨g, 0, none⟩) cs.toList := by
  refine .inr ⟨g, 0, rfl, by omega, fun k u hu => ?_⟩
  rw [cell_of_row _ _ _ cs t f h]
  simpa using hu
theorem own_none (w : World) (e : TypeId) (size : Nat) : (w.alloc (.cells #[] e)).ownsRow w.heap.size e size (.slice (some ⟨w.heap.size, 0, none⟩) 0 0) 0 [] :=
  ⟨by simp, .inr ⟨w.heap.size, 0, #[], rfl, Nat.le_refl _, heap_alloc_new w _, Nat.le_refl _, Nat.zero_le _, by simp, by simp⟩⟩
theorem own_base {w : World} {base : Nat} {e : TypeId} {size n : Nat} {v : Value} {xs : List Value} (h : w.ownsRow base e size v n xs) : ∀ k, v.ownBlock = some k → base ≤ k := fun k hk => (World.ownsRow.lt h k hk).1
theorem bcell {B : Nat} {W w1 : World} (hb : Below B W w1) : (∀ b o, b < B → w1.cell? ⟨b, o, none⟩ = W.cell? ⟨b, o, none⟩) ∧ (∀ b o, b < B → w1.frozen? ⟨b, o, none⟩ = W.frozen? ⟨b, o, none⟩) :=
  ⟨fun b o h => hb.cell (p := ⟨b, o, none⟩) h, fun b o h => hb.frozen (p := ⟨b, o, none⟩) h⟩
theorem grown_none {w w' : World} (h : w.grownBy w' none) : Below w.heap.size w w' := (Below.refl _ _).grown h (Nat.le_refl _) (fun k hk => by cases hk)
theorem grown_of_below {w w' : World} (h : Below w.heap.size w w') (row : Option Nat) : w.grownBy w' row := ⟨h.os, h.tape, h.output, h.size, fun k hk _ => h.block k hk⟩

theorem RowAt.ints_at {w : World} {B : Nat} {A : Option Addr} {l : List Int} (h : RowAt w B A (ints l)) (hp : 0 < l.length) :
    ∃ b o, A = some ⟨b, o, none⟩ ∧ b < B ∧ ∀ k, k < l.length → w.cell? ⟨b, o + k, none⟩ = some (.int .i64 (l.getD k 0)) := by
  rcases h with h | ⟨b, o, h1, h2, h3⟩
  · have : l = [] := by simpa [ints] using h
    subst this; simp at hp
  · exact ⟨b, o, h1, h2, fun k hk => h3 k _ (ints_get hk)⟩
abbrev strs (l : List (List UInt8)) : List Value := l.map fun s => Value.string (str s)
theorem strs_get {l : List (List UInt8)} {k : Nat} (h : k < l.length) : (strs l)[k]? = some (.string (str (l.getD k []))) := by
  simp [strs, List.getD, List.getElem?_eq_getElem h]
theorem RowAt.strs_at {w : World} {B : Nat} {A : Option Addr} {l : List (List UInt8)} (h : RowAt w B A (strs l)) (hp : 0 < l.length) :
    ∃ b o, A = some ⟨b, o, none⟩ ∧ b < B ∧ ∀ k, k < l.length → w.cell? ⟨b, o + k, none⟩ = some (.string (str (l.getD k []))) := by
  rcases h with h | ⟨b, o, h1, h2, h3⟩
  · have : l = [] := by simpa [strs] using h
    subst this; simp at hp
  · exact ⟨b, o, h1, h2, fun k hk => h3 k _ (strs_get hk)⟩
theorem byte_row (w : World) (x : Int) (c : UInt8) (h : x = (c.toNat : Int)) : RowAt (w.alloc (.cells #[.int .u8 x] 5)) (w.heap.size + 1) (some ⟨w.heap.size, 0, none⟩) (bytes [c]) := by
  subst h
  exact RowAt.of_block (heap_new w _ _ rfl)
theorem OwnB.alloc {w : World} {base : Nat} {v : Value} {l : List UInt8} (h : OwnB w base v l) (o : Obj) : OwnB (w.alloc o) base v l := World.ownsRow.alloc h o
theorem OwnB.kept {w w' : World} {row : Option Nat} {base : Nat} {v : Value} {l : List UInt8} (h : OwnB w base v l) (hg : w.grownBy w' row) (hne : v.ownBlock = none ∨ v.ownBlock ≠ row) : OwnB w' base v l := World.ownsRow.kept h hg hne
theorem OwnB.lt {w : World} {base : Nat} {v : Value} {l : List UInt8} (h : OwnB w base v l) : ∀ k, v.ownBlock = some k → base ≤ k ∧ k < w.heap.size := World.ownsRow.lt h
theorem OwnB.below {w w' : World} {base : Nat} {v : Value} {l : List UInt8} (h : OwnB w base v l) (hb : Below w.heap.size w w') : OwnB w' base v l :=
  h.kept (grown_of_below hb none) (by cases hv : v.ownBlock <;> simp)
theorem OwnB.mono {w : World} {base base' : Nat} {v : Value} {l : List UInt8} (h : OwnB w base v l) (hb : base' ≤ base) : OwnB w base' v l := by
  obtain ⟨h1, h2⟩ := h
  refine ⟨h1, ?_⟩
  rcases h2 with h2 | ⟨g, cap, cur, hv, hg, r⟩
  · exact .inl h2
  · exact .inr ⟨g, cap, cur, hv, by omega, r⟩

theorem wpList_app_row_g {w : World} {ops : Array Oper} {rest : List Oper} {o : Oper} {a : Act} {Q : Exit → Act → World → Prop} (hgd : Region.wanted o (yielded ops a.tmps) = true) (s x : Operand)
    (ho : o.op = .call { callee := .builtin .append, args := #[s, x], argTypes := #[29, 29] })
    (base : Nat) (v : Value) (xs : List UInt8) (hs : a.eval s = v) (hown : OwnB w base v xs)
    (B : Nat) (A : Option Addr) (c n : Nat) (ys : List UInt8) (hn : n = ys.length) (hx : a.eval x = .slice A n c) (hr : RowAt w B A (bytes ys)) (hlen : xs.length + ys.length ≤ 140737488355328) (hbase : base ≤ w.heap.size)
    (h : ∀ v' w', OwnB w' base v' (xs ++ ys) → w.grownBy w' v.ownBlock → Below base w w' → (v'.ownBlock = v.ownBlock ∨ v'.ownBlock = some w.heap.size) → wpList Try.prog ops Q rest (a.put o.dst v') w') : wpList Try.prog ops Q (o :: rest) a w := by
  obtain ⟨i0, hi0, hz0, hz1, hz2⟩ := info_parts byte_info
  subst hn
  refine wpList_step fun K hK => ?_
  rw [if_pos hgd]
  refine wp_append_row w s x _ ho base 5 i0 _ 1 1 Try.underlying29 hi0 hz0 hz1 hz2 rfl Nat.one_pos v xs.length (bytes xs) hs hown.row B A ys.length c (bytes ys) hx (bytes_len ys) hr (bytes_one ys) (by unfold maxLen; omega) (by omega) hbase fun v' w' h1 h2 h3 => hK _ _ ?_
  refine h v' w' ?_ h2 ((Below.refl _ _).grown h2 hbase (own_base hown.row)) h3
  rw [bytes_append] at h1
  exact OwnB.of_row h1
theorem wpList_app_row {w : World} {ops : Array Oper} {rest : List Oper} {o : Oper} {a : Act} {Q : Exit → Act → World → Prop} (hgd : o.guard = none) (s x : Operand)
    (ho : o.op = .call { callee := .builtin .append, args := #[s, x], argTypes := #[29, 29] })
    (base : Nat) (v : Value) (xs : List UInt8) (hs : a.eval s = v) (hown : OwnB w base v xs)
    (B : Nat) (A : Option Addr) (c n : Nat) (ys : List UInt8) (hn : n = ys.length) (hx : a.eval x = .slice A n c) (hr : RowAt w B A (bytes ys)) (hlen : xs.length + ys.length ≤ 140737488355328) (hbase : base ≤ w.heap.size)
    (h : ∀ v' w', OwnB w' base v' (xs ++ ys) → w.grownBy w' v.ownBlock → Below base w w' → (v'.ownBlock = v.ownBlock ∨ v'.ownBlock = some w.heap.size) → wpList Try.prog ops Q rest (a.put o.dst v') w') : wpList Try.prog ops Q (o :: rest) a w :=
  wpList_app_row_g (by simp [Region.wanted, hgd]) s x ho base v xs hs hown B A c n ys hn hx hr hlen hbase h

theorem wpList_app_str {w : World} {ops : Array Oper} {rest : List Oper} {o : Oper} {a : Act} {Q : Exit → Act → World → Prop} (hgd : o.guard = none) (s x : Operand)
    (ho : o.op = .call { callee := .builtin .append, args := #[s, x], argTypes := #[29, 9] })
    (base : Nat) (v : Value) (xs : List UInt8) (hs : a.eval s = v) (hown : OwnB w base v xs)
    (y : ByteArray) (hx : a.eval x = .string y) (hlen : xs.length + y.data.toList.length ≤ 140737488355328) (hbase : base ≤ w.heap.size)
    (h : ∀ v' w', OwnB w' base v' (xs ++ y.data.toList) → w.grownBy w' v.ownBlock → Below base w w' → wpList Try.prog ops Q rest (a.put o.dst v') w') : wpList Try.prog ops Q (o :: rest) a w := by
  obtain ⟨i0, hi0, hz0, hz1, hz2⟩ := info_parts byte_info
  have hsz : y.size = y.data.toList.length := Array.length_toList.symm
  refine Lib.wpList_append_own_string w hgd s x _ _ ho base 5 i0 Try.underlying29 Try.underlying9 hi0 hz0 hz1 hz2 v xs.length (bytes xs) hs hown.row y hx (by unfold maxLen; omega) (by omega) hbase fun v' w' h1 h2 _ => ?_
  refine h v' w' ?_ h2 ((Below.refl _ _).grown h2 hbase (own_base hown.row))
  have e : Lib.strCells y = bytes y.data.toList := rfl
  rw [e, bytes_append] at h1
  exact OwnB.of_row h1
end Go.Proofs.Ytfpgklpnpplnnaa

namespace Go.Proofs.Ytfpgklpnpplnnaa
open Go.ChangeShapes Go.WideShapes Go.ChangeAt Go.RowKit

theorem flat_get {α : Type} (E : α → List Value) (k : Nat) : ∀ (l : List α), (∀ x ∈ l, (E x).length = k) → ∀ j u, (l.flatMap E)[j]? = some u →
    ∃ i r, j = i * k + r ∧ r < k ∧ ∃ x, l[i]? = some x ∧ (E x)[r]? = some u
  | [], _, j, u, h => by simp at h
  | y :: l, hk, j, u, h => by
    have hy := hk y (by simp)
    rw [List.flatMap_cons] at h
    rcases Nat.lt_or_ge j k with hj | hj
    · rw [List.getElem?_append_left (by omega)] at h
      exact ⟨0, j, by omega, hj, y, rfl, h⟩
    · rw [List.getElem?_append_right (by omega), hy] at h
      obtain ⟨i, r, h1, h2, x, h3, h4⟩ := flat_get E k l (fun x hx => hk x (by simp [hx])) (j - k) u h
      exact ⟨i + 1, r, by rw [Nat.add_mul]; omega, h2, x, by simpa using h3, h4⟩

theorem flat_one {α : Type} (f : α → Value) : ∀ l : List α, l.flatMap (fun x => [f x]) = l.map f
  | [] => rfl
  | x :: l => by rw [List.flatMap_cons, flat_one f l]; rfl

section
variable {H : Type} {enc : TypeId × Value → H} {W : World} {base : Nat}

set_option maxRecDepth 100000 in
theorem in_slice {α : Type} (E : α → List Value) (Good : α → Prop) {t e : TypeId} {k : Nat} {v : Value} {d : DataW H} {p : List MemPlace} (ht : Try.prog.underlying t = some (.slice e)) (hc : Try.prog.cellsOf e = k) (hk : 0 < k)
    (hE : ∀ (n : Nat) (cs : List Value) (y : DataW H × List MemPlace), cs.length = k → DataW.trod enc Try.prog W 0 (fun _ => true) true n e cs = some y → ∃ x, cs = E x ∧ Good x)
    (hok : Value.okWide Try.prog W .any base t v) (h : DataW.Trod enc Try.prog W 0 (fun _ => true) true t v d p) :
    ∃ (A : Option Addr) (c : Nat) (l : List α), v = .slice A l.length c ∧ RowAt W W.heap.size A (l.flatMap E) ∧ (∀ x ∈ l, Good x) ∧ l.length ≤ c ∧ c ≤ maxLen := by
  obtain ⟨a, len, cap, rfl⟩ := okWide_slice ht hok
  obtain ⟨fuel, hf⟩ := h
  rcases Go.Deep.open_slice ht hf with ⟨hcs, -⟩ | ⟨x, l', c', m, n, D, Pl, hcs, -, hl, hm, hmm, -, hi⟩
  · simp [Value.cells] at hcs
    obtain ⟨rfl, rfl, rfl⟩ := hcs
    exact ⟨none, 0, [], rfl, RowAt.nil _ _ _, by intro x hx; simp at hx, Nat.le_refl _, Nat.zero_le _⟩
  · simp [Value.cells] at hcs
    obtain ⟨rfl, rfl, rfl⟩ := hcs
    simp only [if_true] at hmm
    subst hmm
    have each : ∀ i, i < len → ∃ y : α, Good y ∧ (E y).length = k ∧ ∀ r, r < k → W.cell? (x.add (i * k + r)) = (E y)[r]? := by
      intro i hil
      obtain ⟨cs', h1, h2⟩ := hi i (by omega)
      obtain ⟨_, h4, h5⟩ := World.cells?_some h1
      rw [hc] at h4 h5
      obtain ⟨y, rfl, hg⟩ := hE n cs' _ h4 h2
      refine ⟨y, hg, h4, fun r hr => ?_⟩
      rw [← h5 r hr, Go.Deep.add_add]
    rcases Nat.eq_zero_or_pos len with h0 | h0
    · subst h0
      exact ⟨some x, m, [], rfl, .inl rfl, by intro x hx; simp at hx, by simp, hm⟩
    · have hne : Nonempty α := by obtain ⟨y, _⟩ := each 0 h0; exact ⟨y⟩
      have hch : ∃ f : Nat → α, ∀ i, i < len → Good (f i) ∧ (E (f i)).length = k ∧ ∀ r, r < k → W.cell? (x.add (i * k + r)) = (E (f i))[r]? :=
        ⟨fun i => if hi : i < len then (each i hi).choose else Classical.choice hne, fun i hi => by have := (each i hi).choose_spec; simpa only [dif_pos hi] using this⟩
      obtain ⟨f, hf⟩ := hch
      have hcell0 := (hf 0 h0).2.2 0 hk
      rw [List.getElem?_eq_getElem (by rw [(hf 0 h0).2.1]; exact hk)] at hcell0
      obtain ⟨b, o, spot⟩ := x
      have hspot : spot = none := by simpa [Addr.add] using World.cell?_spot hcell0
      subst hspot
      have hb : b < W.heap.size := by
        rw [Go.WideShapes.add_plain] at hcell0
        exact World.block_lt_of_cell? W _ hcell0
      refine ⟨some ⟨b, o, none⟩, m, (List.range len).map f, by simp, .inr ⟨b, o, rfl, hb, fun j u hu => ?_⟩, ?_, by simp; omega, hm⟩
      · obtain ⟨i, r, rfl, hr, y, hy, hyu⟩ := flat_get E k _ (fun y hy => by
          simp only [List.mem_map, List.mem_range] at hy
          obtain ⟨i, hi, rfl⟩ := hy
          exact (hf i hi).2.1) j u hu
        rw [List.getElem?_map] at hy
        rcases Nat.lt_or_ge i len with hil | hil
        · rw [List.getElem?_range hil] at hy
          simp at hy
          subst hy
          have := (hf i hil).2.2 r hr
          rw [Go.WideShapes.add_plain] at this
          rw [this, hyu]
        · rw [List.getElem?_eq_none (by simpa using hil)] at hy
          simp at hy
      · intro y hy
        simp only [List.mem_map, List.mem_range] at hy
        obtain ⟨i, hi, rfl⟩ := hy
        exact (hf i hi).1

set_option maxRecDepth 100000 in
theorem in_bytes {t e : TypeId} {v : Value} {d : DataW H} {p : List MemPlace} (ht : Try.prog.underlying t = some (.slice e)) (he : Try.prog.underlying e = some (.int .u8)) (hc : Try.prog.cellsOf e = 1)
    (hok : Value.okWide Try.prog W .any base t v) (h : DataW.Trod enc Try.prog W 0 (fun _ => true) true t v d p) :
    ∃ (A : Option Addr) (c : Nat) (l : List UInt8), v = .slice A l.length c ∧ RdB W W.heap.size A c l := by
  obtain ⟨A, c, l, rfl, h1, -, h3, h4⟩ := in_slice (fun x : UInt8 => [Value.int .u8 (x.toNat : Int)]) (fun _ => True) ht hc Nat.one_pos (fun n cs y _ hy => by
    obtain ⟨x, rfl, -, hw⟩ := DataW.trod_int he hy
    have hb : 0 ≤ x ∧ x ≤ 255 := by simpa [Lit.wf, IntKind.min, IntKind.max, IntKind.signed, IntKind.bits] using hw
    exact ⟨UInt8.ofNat x.toNat, by simp; omega, trivial⟩) hok h
  refine ⟨A, c, l, rfl, ?_, h3, h4⟩
  rw [show bytes l = l.flatMap (fun x : UInt8 => [Value.int .u8 (x.toNat : Int)]) from (flat_one _ l).symm]
  exact h1

end
end Go.Proofs.Ytfpgklpnpplnnaa

namespace Go.Proofs.Ytfpgklpnpplnnaa
open Go.RowKit

theorem take_snoc_getD (l : List UInt8) (k : Nat) (h : k < l.length) : l.take (k + 1) = l.take k ++ [l.getD k 0] := by
  rw [List.take_succ_eq_append_getElem h]; simp [List.getD, List.getElem?_eq_getElem h]
theorem drop_cons_getD8 (l : List UInt8) (k : Nat) (h : k < l.length) : l.drop k = l.getD k 0 :: l.drop (k + 1) := by
  rw [List.drop_eq_getElem_cons h]; simp [List.getD, List.getElem?_eq_getElem h]
theorem conv_str {P : Program} {w : World} {B : Nat} {A : Option Addr} {l : List UInt8} (c : Nat) (src e dst : TypeId) (hs : P.underlying src = some (.slice e)) (he : P.underlying e = some (.int .u8)) (hd : P.underlying dst = some .string)
    (h : RowAt w B A (bytes l)) : (convert src dst (.slice A l.length c)).run P w = .ok (.string (str l)) w := by
  cases A with
  | none =>
    have hnil : l = [] := by
      rcases h with h | ⟨b, o, h, _⟩
      · simpa [bytes] using h
      · cases h
    subst hnil
    exact run_convert_bytes_nil w src e hs he _ c dst hd
  | some a =>
    rcases Nat.eq_zero_or_pos l.length with h0 | h0
    · have hnil : l = [] := List.eq_nil_of_length_eq_zero h0
      subst hnil
      rw [run_convert_bytes_string w src dst e _ _ c hs he hd, run_bytesToString w a _ c [] (by simp [loadCells, loadCellsFrom])]
      rfl
    · obtain ⟨b, o, hA, _, hc⟩ := h.bytes_at h0
      injection hA with hA
      subst hA
      have := run_convert_bytes_arg (P := P) w src e hs he b o l.length c (l.map fun x => (x.toNat : Int)) (by simp) (fun i hi => by
        rw [hc i hi]
        simp [List.getD, List.getElem?_eq_getElem hi]) dst hd
      rw [this]
      congr 2
      simp [strOfNums, str, Function.comp_def]
theorem heap_setCell_self {w : World} {b o : Nat} {cs : Array Value} {t : TypeId} {f : Nat × Nat} (h : w.heap[b]? = some (.cells cs t f)) (v : Value) : (w.setCell ⟨b, o, none⟩ v).heap[b]? = some (.cells (cs.setIfInBounds o v) t f) := by
  have hlt := lt_of_block h
  have h' : w.heap[b] = .cells cs t f := by simpa [Array.getElem?_eq_getElem hlt] using h
  show (w.heap.modify b _)[b]? = _
  rw [Array.getElem?_eq_getElem (by simpa using hlt), Array.getElem_modify_self, h']
  rfl
theorem grownBy_set (w : World) (b o : Nat) (v : Value) : w.grownBy (w.setCell ⟨b, o, none⟩ v) (some b) :=
  ⟨rfl, rfl, rfl, by simp [World.setCell], fun k _ hne => Below.heap_setCell _ _ _ _ (fun e => hne (by rw [e]))⟩
theorem below_drewN {B : Nat} {a w : World} (h : Below B a w) (n : Nat) : Below B a (w.drewN n) := ⟨h.os, h.tape, h.output, h.size, h.block⟩
theorem take_ne {a b : List UInt8} {k : Nat} (h : a.getD k 0 ≠ b.getD k 0) : a ≠ b := fun e => h (by rw [e])
theorem own_one (w : World) (x : Int) (c : UInt8) (h : x = (c.toNat : Int)) : OwnB (w.alloc (.cells #[.int .u8 x] 5)) w.heap.size (.slice (some ⟨w.heap.size, 0, none⟩) 1 1) [c] := by
  subst h
  refine ⟨by simp, .inr ⟨w.heap.size, 1, _, rfl, Nat.le_refl _, heap_alloc_new w _, Nat.le_refl _, by unfold maxLen; omega, by simp, by simp⟩⟩
theorem rdB_nil (w : World) (B : Nat) : RdB w B none 0 [] := ⟨.inl rfl, Nat.le_refl _, Nat.zero_le _⟩
theorem rdB_block {w : World} {g n : Nat} {cs : Array Value} {l : List UInt8} {t : TypeId} (h : w.heap[g]? = some (.cells cs t (0, 0))) (hl : cs.toList = bytes l) (hn : n = l.length) (hm : l.length ≤ 1000000) : RdB w w.heap.size (some ⟨g, 0, none⟩) n l := by
  subst hn
  exact ⟨hl ▸ (RowAt.of_block h).more (lt_of_block h), Nat.le_refl _, by unfold maxLen; omega⟩
theorem grownBy_drewN {w w' : World} {row : Option Nat} (h : w.grownBy w' row) (k : Nat) : w.grownBy (w'.drewN k) row := ⟨h.os, h.tape, h.output, h.size, h.block⟩
theorem grownBy_drewN' (w : World) (row : Option Nat) (k : Nat) : w.grownBy (w.drewN k) row := grownBy_drewN (World.grownBy.refl w row) k
theorem grown_quiet {w w' : World} {n : Nat} (h : w' = w.drewN n) : w.grownBy w' none := h ▸ grownBy_drewN' _ _ _
theorem RdB.quiet {w w' : World} {B c : Nat} {A : Option Addr} {l : List UInt8} (h : RdB w B A c l) (hg : w.grownBy w' none) (hB : B ≤ w.heap.size) : RdB w' B A c l :=
  h.keep fun p hp => World.cell?_of_block (hg.block p.block (by omega) (by simp))
theorem OwnB.other {w w' : World} {base r : Nat} {v : Value} {l : List UInt8} (h : OwnB w base v l) (hg : w.grownBy w' (some r)) (hr : r < base) : OwnB w' base v l :=
  h.kept hg (by
    cases hv : v.ownBlock with
    | none => exact .inl rfl
    | some k => exact .inr (fun e => by have := (h.lt k hv).1; injection e with e; omega))
theorem heap_old {w : World} {g : Nat} {x : Obj} (o : Obj) (h : w.heap[g]? = some x) : (w.alloc o).heap[g]? = some x := by
  have hlt : g < w.heap.size := by
    rcases Nat.lt_or_ge g w.heap.size with hlt | hge
    · exact hlt
    · rw [Array.getElem?_eq_none hge] at h; cases h
  exact ((World.grownBy_alloc w o none).block g hlt (by simp)).trans h
theorem OwnB.read_n {w : World} {base n : Nat} {v : Value} {l : List UInt8} (h : OwnB w base v l) (hn : n = l.length) : ∃ A c, v = .slice A n c ∧ RdB w w.heap.size A c l := by
  subst hn; exact h.read
end Go.Proofs.Ytfpgklpnpplnnaa

namespace Go.Proofs.Ytfpgklpnpplnnaa

def ltB : List UInt8 → List UInt8 → Bool
  | _, [] => false
  | [], _ :: _ => true
  | x :: a, y :: b => if x = y then ltB a b else decide (x.toNat < y.toNat)

theorem ltB_nil (a : List UInt8) : ltB a [] = false := by cases a <;> rfl
theorem ltB_nil_cons (y : UInt8) (b : List UInt8) : ltB [] (y :: b) = true := rfl
theorem ltB_same (x : UInt8) (a b : List UInt8) : ltB (x :: a) (x :: b) = ltB a b := by simp [ltB]
theorem ltB_other {x y : UInt8} (h : x ≠ y) (a b : List UInt8) : ltB (x :: a) (y :: b) = decide (x.toNat < y.toNat) := by simp [ltB, h]
theorem u8_ne {x y : UInt8} (h : x ≠ y) : x.toNat ≠ y.toNat := fun e => h (UInt8.toNat_inj.1 e)
theorem ltB_irrefl : ∀ a : List UInt8, ltB a a = false
  | [] => rfl
  | x :: a => by rw [ltB_same]; exact ltB_irrefl a
theorem ltB_total : ∀ {a b : List UInt8}, ltB a b = false → ltB b a = false → a = b
  | [], [], _, _ => rfl
  | [], y :: b, h, _ => by cases h
  | x :: a, [], _, h => by cases h
  | x :: a, y :: b, h, h' => by
    by_cases e : x = y
    · subst e; rw [ltB_same] at h h'; rw [ltB_total h h']
    · rw [ltB_other e, decide_eq_false_iff_not] at h
      rw [ltB_other (Ne.symm e), decide_eq_false_iff_not] at h'
      have := u8_ne e
      omega
theorem ltB_trans : ∀ {a b c : List UInt8}, ltB a b = true → ltB b c = true → ltB a c = true
  | a, [], c, h, _ => by rw [ltB_nil] at h; cases h
  | a, y :: b, [], _, h => by cases h
  | [], y :: b, z :: c, _, _ => rfl
  | x :: a, y :: b, z :: c, h, h' => by
    by_cases e : x = y
    · subst e
      rw [ltB_same] at h
      by_cases e' : x = z
      · subst e'; rw [ltB_same] at h' ⊢; exact ltB_trans h h'
      · rw [ltB_other e'] at h' ⊢; exact h'
    · rw [ltB_other e, decide_eq_true_eq] at h
      by_cases e' : y = z
      · subst e'; rw [ltB_other e, decide_eq_true_eq]; exact h
      · rw [ltB_other e', decide_eq_true_eq] at h'
        have e2 : x ≠ z := fun e2 => by subst e2; omega
        rw [ltB_other e2, decide_eq_true_eq]; omega
def alikeN : List UInt8 → List UInt8 → Nat
  | x :: a, y :: b => if x = y then alikeN a b + 1 else 0
  | _, _ => 0
theorem alikeN_le : ∀ a b : List UInt8, alikeN a b ≤ a.length ∧ alikeN a b ≤ b.length
  | [], b => by simp [alikeN]
  | x :: a, [] => by simp [alikeN]
  | x :: a, y :: b => by
    have := alikeN_le a b
    unfold alikeN
    split <;> simp <;> omega
theorem alikeN_at : ∀ {a b : List UInt8} {k : Nat}, k ≤ a.length → k ≤ b.length → a.take k = b.take k → (k < a.length → k < b.length → a.getD k 0 ≠ b.getD k 0) → alikeN a b = k
  | [], b, k, h, _, _, _ => by simp at h; subst h; simp [alikeN]
  | x :: a, [], k, _, h, _, _ => by simp at h; subst h; simp [alikeN]
  | x :: a, y :: b, 0, _, _, _, h => by
    have := h (by simp) (by simp)
    simp at this
    simp [alikeN, this]
  | x :: a, y :: b, k + 1, h1, h2, h3, h4 => by
    simp only [List.take_succ_cons, List.cons.injEq] at h3
    have := alikeN_at (a := a) (b := b) (k := k) (by simpa using h1) (by simpa using h2) h3.2 (fun u v => by simpa using h4 (by simpa using u) (by simpa using v))
    simp [alikeN, h3.1, this]
theorem alike_take : ∀ a b : List UInt8, a.take (alikeN a b) <+: b
  | [], b => by simp [alikeN]
  | x :: a, [] => by simp [alikeN]
  | x :: a, y :: b => by
    unfold alikeN
    split
    · rename_i h; subst h; rw [List.take_succ_cons]; exact (List.prefix_cons_inj x).2 (alike_take a b)
    · simp
def commonF (s : List UInt8) (r : List (List UInt8)) : List UInt8 := r.foldl (fun all t => all.take (alikeN all t)) s
def commonV : List (List UInt8) → List UInt8
  | [] => []
  | s :: r => commonF s r
theorem commonF_snoc (s : List UInt8) (r : List (List UInt8)) (t : List UInt8) : commonF s (r ++ [t]) = (commonF s r).take (alikeN (commonF s r) t) := by simp [commonF]
theorem commonF_pre : ∀ (r : List (List UInt8)) (s : List UInt8), commonF s r <+: s ∧ ∀ t ∈ r, commonF s r <+: t
  | [], s => ⟨List.prefix_rfl, by simp⟩
  | t :: r, s => by
    have h := commonF_pre r (s.take (alikeN s t))
    refine ⟨h.1.trans (List.take_prefix _ _), fun u hu => ?_⟩
    rcases List.mem_cons.1 hu with rfl | hu
    · exact h.1.trans (alike_take s u)
    · exact h.2 u hu
theorem take_succ_getD {t : List UInt8} {k : Nat} (h : k < t.length) : t.take (k + 1) = t.take k ++ [t.getD k 0] := by
  rw [List.take_succ_eq_append_getElem h]; simp [List.getD, List.getElem?_eq_getElem h]
end Go.Proofs.Ytfpgklpnpplnnaa

namespace Go.Proofs.Ytfpgklpnpplnnaa

structure Rng where
  lo : List UInt8
  hi : List UInt8
  op : Bool
def rightR (r : Rng) : Bool := decide (r.lo.length ≤ 17) && (match r.op with | true => r.hi.isEmpty | false => decide (r.hi.length ≤ 17) && ltB r.lo r.hi)
theorem rightR_open {r : Rng} (h : r.op = true) : rightR r = (decide (r.lo.length ≤ 17) && r.hi.isEmpty) := by unfold rightR; rw [h]
theorem rightR_shut {r : Rng} (h : r.op = false) : rightR r = (decide (r.lo.length ≤ 17) && (decide (r.hi.length ≤ 17) && ltB r.lo r.hi)) := by unfold rightR; rw [h]
theorem rightR_lo {r : Rng} (h : rightR r = true) : r.lo.length ≤ 17 := by
  unfold rightR at h; simp only [Bool.and_eq_true, decide_eq_true_eq] at h; exact h.1
theorem rightR_hi {r : Rng} (h : rightR r = true) : r.hi.length ≤ 17 := by
  cases ho : r.op with
  | true => rw [rightR_open ho] at h; simp only [Bool.and_eq_true, List.isEmpty_iff] at h; rw [h.2]; simp
  | false => rw [rightR_shut ho] at h; simp only [Bool.and_eq_true, decide_eq_true_eq] at h; exact h.2.1
end Go.Proofs.Ytfpgklpnpplnnaa

namespace Go.Proofs.Ytfpgklpnpplnnaa
open Go.RowKit

structure IsR (r : Rng) (S T : ByteArray) (o : Bool) : Prop where
  lo : str r.lo = S
  hi : str r.hi = T
  op : r.op = o
theorem IsR.mk' (r : Rng) : IsR r (str r.lo) (str r.hi) r.op := ⟨rfl, rfl, rfl⟩
def RgAt (w : World) (g : Nat) (S T : ByteArray) (o : Bool) : Prop := w.cell? ⟨g, 0, none⟩ = some (.string S) ∧ w.cell? ⟨g, 1, none⟩ = some (.string T) ∧ w.cell? ⟨g, 2, none⟩ = some (.bool o) ∧ ∀ k, w.frozen? ⟨g, k, none⟩ = false
theorem RgAt.lt {w : World} {g : Nat} {S T : ByteArray} {o : Bool} (h : RgAt w g S T o) : g < w.heap.size := World.block_lt_of_cell? w _ h.1
theorem RgAt.drew {w : World} {g : Nat} {S T : ByteArray} {o : Bool} (h : RgAt w g S T o) : RgAt w.drew g S T o := h
theorem RgAt.below {w w' : World} {g : Nat} {S T : ByteArray} {o : Bool} (h : RgAt w g S T o) (hb : Below w.heap.size w w') : RgAt w' g S T o := by
  obtain ⟨hc, hf⟩ := bcell hb
  have hl := h.lt
  obtain ⟨h0, h1, h2, h3⟩ := h
  exact ⟨(hc _ _ hl).trans h0, (hc _ _ hl).trans h1, (hc _ _ hl).trans h2, fun k => (hf _ _ hl).trans (h3 k)⟩
theorem RgAt.grown {w w' : World} {row : Option Nat} {g : Nat} {S T : ByteArray} {o : Bool} (h : RgAt w g S T o) (hg : w.grownBy w' row) (hne : some g ≠ row) : RgAt w' g S T o :=
  ⟨hg.cell h.1 hne, hg.cell h.2.1 hne, hg.cell h.2.2.1 hne, fun k => (hg.frozen_far ⟨g, k, none⟩ h.lt hne).trans (h.2.2.2 k)⟩
theorem RgAt.keep {w : World} {g : Nat} {S T : ByteArray} {o : Bool} (h : RgAt w g S T o) (x : Obj) : RgAt (w.alloc x) g S T o := h.below ((Below.refl _ _).alloc (Nat.le_refl _) x)
theorem set_other {w : World} {a b : Addr} {u : Value} (h : w.cell? b = some u) (hne : a ≠ b) (v : Value) : (w.setCell a v).cell? b = some u := (World.cell?_setCell_other w a b v hne).trans h
theorem set_same {w : World} {a : Addr} {u : Value} (h : w.cell? a = some u) (v : Value) : (w.setCell a v).cell? a = some v := World.cell?_setCell_same w a v h
theorem addr_block {g g' i j : Nat} (h : g ≠ g') : (⟨g, i, none⟩ : Addr) ≠ ⟨g', j, none⟩ := fun e => h (by injection e)
theorem addr_off {g i j : Nat} (h : i ≠ j) : (⟨g, i, none⟩ : Addr) ≠ ⟨g, j, none⟩ := fun e => h (by injection e)
theorem RgAt.other {w : World} {g : Nat} {S T : ByteArray} {o : Bool} (h : RgAt w g S T o) {g' k : Nat} (hne : g' ≠ g) (v : Value) : RgAt (w.setCell ⟨g', k, none⟩ v) g S T o :=
  ⟨set_other h.1 (addr_block hne) v, set_other h.2.1 (addr_block hne) v, set_other h.2.2.1 (addr_block hne) v, fun j => by rw [World.frozen?_setCell]; exact h.2.2.2 j⟩
theorem RgAt.set0 {w : World} {g : Nat} {S T : ByteArray} {o : Bool} (h : RgAt w g S T o) (X : ByteArray) : RgAt (w.setCell ⟨g, 0, none⟩ (.string X)) g X T o :=
  ⟨set_same h.1 _, set_other h.2.1 (addr_off (i := 0) (j := 1) (by decide)) _, set_other h.2.2.1 (addr_off (i := 0) (j := 2) (by decide)) _, fun j => by rw [World.frozen?_setCell]; exact h.2.2.2 j⟩
theorem RgAt.set1 {w : World} {g : Nat} {S T : ByteArray} {o : Bool} (h : RgAt w g S T o) (X : ByteArray) : RgAt (w.setCell ⟨g, 1, none⟩ (.string X)) g S X o :=
  ⟨set_other h.1 (addr_off (i := 1) (j := 0) (by decide)) _, set_same h.2.1 _, set_other h.2.2.1 (addr_off (i := 1) (j := 2) (by decide)) _, fun j => by rw [World.frozen?_setCell]; exact h.2.2.2 j⟩
theorem RgAt.set2 {w : World} {g : Nat} {S T : ByteArray} {o : Bool} (h : RgAt w g S T o) (p : Bool) : RgAt (w.setCell ⟨g, 2, none⟩ (.bool p)) g S T p :=
  ⟨set_other h.1 (addr_off (i := 2) (j := 0) (by decide)) _, set_other h.2.1 (addr_off (i := 2) (j := 1) (by decide)) _, set_same h.2.2.1 _, fun j => by rw [World.frozen?_setCell]; exact h.2.2.2 j⟩
theorem RgAt.set3 {w : World} {g : Nat} {S T : ByteArray} {o : Bool} (h : RgAt w g S T o) (X Y : ByteArray) (p : Bool) : RgAt (((w.setCell ⟨g, 0, none⟩ (.string X)).setCell ⟨g, 1, none⟩ (.string Y)).setCell ⟨g, 2, none⟩ (.bool p)) g X Y p := ((h.set0 X).set1 Y).set2 p
theorem size1 (w : World) (o : Obj) : (w.alloc o).heap.size = w.heap.size + 1 := by simp

end Go.Proofs.Ytfpgklpnpplnnaa

namespace Go.Proofs.Ytfpgklpnpplnnaa
open Go.RowKit

theorem below_new (w : World) (o : Obj) : Below w.heap.size w (w.alloc o) := (Below.refl _ _).alloc (Nat.le_refl _) o
structure Kind (P : Program) (α : Type) where
  ty : TypeId
  el : TypeId
  size : Nat
  bytes : Nat
  zero : Value
  cells : α → List Value
  len : ∀ x, (cells x).length = size
  one : ∀ x, ∀ u ∈ cells x, u.oneCell' = true
  pos : 0 < size
  under : P.underlying ty = some (.slice el)
  info : (P.info? el).map (fun i => (i.zero, i.size, i.bytes)) = some (some zero, size, bytes)
  zsize : zero.cells.size = size

namespace Kind
variable {P : Program} {α : Type} (k : Kind P α)

def row (l : List α) : List Value := l.flatMap k.cells
theorem row_cons (x : α) (l : List α) : k.row (x :: l) = k.cells x ++ k.row l := rfl
theorem row_append (a b : List α) : k.row (a ++ b) = k.row a ++ k.row b := by simp [row]
theorem row_one (x : α) : k.row [x] = k.cells x := by simp [row]
theorem row_len : ∀ l : List α, (k.row l).length = l.length * k.size
  | [] => by simp [row]
  | x :: l => by rw [row_cons, List.length_append, k.len, row_len l, List.length_cons, Nat.succ_mul, Nat.add_comm]
theorem row_cells (l : List α) : ∀ u ∈ k.row l, u.oneCell' = true := fun u hu => by
  obtain ⟨x, _, hx⟩ := List.mem_flatMap.1 hu
  exact k.one x u hx
theorem row_get : ∀ {l : List α} {i j : Nat} {x : α}, l[i]? = some x → j < k.size → (k.row l)[i * k.size + j]? = (k.cells x)[j]?
  | [], i, j, x, h, _ => by cases h
  | y :: l, 0, j, x, h, hj => by
    simp only [List.getElem?_cons_zero, Option.some.injEq] at h
    subst h
    rw [row_cons, Nat.zero_mul, Nat.zero_add, List.getElem?_append_left (by rw [k.len]; exact hj)]
  | y :: l, i + 1, j, x, h, hj => by
    rw [List.getElem?_cons_succ] at h
    rw [row_cons, List.getElem?_append_right (by rw [k.len, Nat.succ_mul]; omega), k.len, ← row_get h hj, Nat.succ_mul]
    congr 1; omega
structure Rd (w : World) (B : Nat) (A : Option Addr) (c : Nat) (l : List α) : Prop where
  row : RowAt w B A (k.row l)
  room : l.length ≤ c
  cap : c ≤ maxLen
variable {k}
theorem Rd.keep {w w' : World} {B : Nat} {A : Option Addr} {c : Nat} {l : List α} (h : k.Rd w B A c l) (hk : ∀ p : Addr, p.block < B → w'.cell? p = w.cell? p) : k.Rd w' B A c l := ⟨h.row.keep hk, h.room, h.cap⟩
theorem Rd.below {w w' : World} {B : Nat} {A : Option Addr} {c : Nat} {l : List α} (h : k.Rd w B A c l) (hb : Below B w w') : k.Rd w' B A c l := ⟨h.row.below hb, h.room, h.cap⟩
theorem Rd.more {w : World} {B B' : Nat} {A : Option Addr} {c : Nat} {l : List α} (h : k.Rd w B A c l) (hB : B ≤ B') : k.Rd w B' A c l := ⟨h.row.more hB, h.room, h.cap⟩
theorem Rd.call {w w' : World} {A : Option Addr} {c : Nat} {l : List α} (h : k.Rd w w.heap.size A c l) (hb : Below w.heap.size w w') : k.Rd w' w'.heap.size A c l := (h.below hb).more hb.size
theorem Rd.drewN {w : World} {B : Nat} {A : Option Addr} {c : Nat} {l : List α} (h : k.Rd w B A c l) (n : Nat) : k.Rd (w.drewN n) B A c l := ⟨h.row, h.room, h.cap⟩
theorem Rd.nil (w : World) (B : Nat) : k.Rd w B none 0 [] := ⟨.inl rfl, Nat.le_refl _, Nat.zero_le _⟩
theorem Rd.at_ {w : World} {B : Nat} {A : Option Addr} {c : Nat} {l : List α} (h : k.Rd w B A c l) (hp : 0 < l.length) :
    ∃ b o, A = some ⟨b, o, none⟩ ∧ b < B ∧ ∀ i x, l[i]? = some x → ∀ j u, (k.cells x)[j]? = some u → w.cell? ⟨b, o + (i * k.size + j), none⟩ = some u := by
  rcases h.row with h0 | ⟨b, o, h1, h2, h3⟩
  · exfalso
    have := congrArg List.length h0
    rw [k.row_len, List.length_nil] at this
    have := Nat.mul_pos hp k.pos
    omega
  · refine ⟨b, o, h1, h2, fun i x hx j u hu => h3 _ _ ?_⟩
    have hj : j < k.size := by
      rw [← k.len x]
      exact (List.getElem?_eq_some_iff.1 hu).1
    rw [k.row_get hx hj]; exact hu

def Own (k : Kind P α) (w : World) (base : Nat) (v : Value) (l : List α) : Prop := w.ownsRow base k.el k.size v l.length (k.row l)
theorem Own.of_row {w : World} {base n : Nat} {v : Value} {l : List α} (h : w.ownsRow base k.el k.size v n (k.row l)) : k.Own w base v l := by
  have h1 := h.1
  rw [k.row_len] at h1
  obtain rfl : l.length = n := Nat.eq_of_mul_eq_mul_right k.pos h1
  exact h
theorem Own.nil (w : World) (base : Nat) : k.Own w base (.slice none 0 0) [] := ⟨by simp [row], .inl ⟨rfl, rfl⟩⟩
theorem Own.alloc {w : World} {base : Nat} {v : Value} {l : List α} (h : k.Own w base v l) (o : Obj) : k.Own (w.alloc o) base v l := World.ownsRow.alloc h o
theorem Own.kept {w w' : World} {r : Option Nat} {base : Nat} {v : Value} {l : List α} (h : k.Own w base v l) (hg : w.grownBy w' r) (hne : v.ownBlock = none ∨ v.ownBlock ≠ r) : k.Own w' base v l := World.ownsRow.kept h hg hne
theorem Own.lt {w : World} {base : Nat} {v : Value} {l : List α} (h : k.Own w base v l) : ∀ g, v.ownBlock = some g → base ≤ g ∧ g < w.heap.size := World.ownsRow.lt h
theorem Own.below {w w' : World} {base : Nat} {v : Value} {l : List α} (h : k.Own w base v l) (hb : Below w.heap.size w w') : k.Own w' base v l :=
  h.kept (grown_of_below hb none) (by cases hv : v.ownBlock <;> simp)
theorem Own.other {w w' : World} {base r : Nat} {v : Value} {l : List α} (h : k.Own w base v l) (hg : w.grownBy w' (some r)) (hr : r < base) : k.Own w' base v l :=
  h.kept hg (by
    cases hv : v.ownBlock with
    | none => exact .inl rfl
    | some g => exact .inr (fun e => by have := (h.lt g hv).1; injection e with e; omega))
theorem Own.mono {w : World} {base base' : Nat} {v : Value} {l : List α} (h : k.Own w base v l) (hb : base' ≤ base) : k.Own w base' v l := by
  obtain ⟨h1, h2⟩ := h
  refine ⟨h1, ?_⟩
  rcases h2 with h2 | ⟨g, cap, cur, hv, hg, r⟩
  · exact .inl h2
  · exact .inr ⟨g, cap, cur, hv, by omega, r⟩
theorem Own.form {w : World} {base : Nat} {v : Value} {l : List α} (h : k.Own w base v l) : ∃ A c, v = .slice A l.length c ∧ k.Rd w w.heap.size A c l := by
  obtain ⟨A, c, rfl, hc⟩ := own_form h
  refine ⟨A, c, rfl, RowAt.of_own h, hc, ?_⟩
  rcases h.2 with ⟨hv, _⟩ | ⟨g, cap, cur, hv, _, _, _, hm, _⟩
  · injection hv with _ _ h3; subst h3; exact Nat.zero_le _
  · injection hv with _ _ h3; subst h3; exact hm
theorem Own.rd {w : World} {base n c : Nat} {A : Option Addr} {l : List α} (h : k.Own w base (.slice A n c) l) : k.Rd w w.heap.size A c l := by
  obtain ⟨A', c', hv, hr⟩ := h.form
  injection hv with h1 _ h3
  subst h1 h3
  exact hr
theorem Own.read_n {w : World} {base n : Nat} {v : Value} {l : List α} (h : k.Own w base v l) (hn : n = l.length) : ∃ A c, v = .slice A n c ∧ k.Rd w w.heap.size A c l := by subst hn; exact h.form
theorem rd_new {w : World} {cs : Array Value} {l : List α} {t : TypeId} {n : Nat} (hl : cs.toList = k.row l) (hn : n = l.length) (hm : l.length ≤ 1000000) : k.Rd (w.alloc (.cells cs t)) (w.heap.size + 1) (some ⟨w.heap.size, 0, none⟩) n l := by
  subst hn
  exact ⟨hl ▸ RowAt.of_block (heap_new w _ _ rfl), Nat.le_refl _, by unfold maxLen; omega⟩
end Kind

theorem wpList_app_k {P : Program} {α : Type} (k : Kind P α) {w : World} {ops : Array Oper} {rest : List Oper} {o : Oper} {a : Act} {Q : Exit → Act → World → Prop} (hgd : Region.wanted o (yielded ops a.tmps) = true) (s x : Operand)
    (ho : o.op = .call { callee := .builtin .append, args := #[s, x], argTypes := #[k.ty, k.ty] })
    (base : Nat) (v : Value) (xs : List α) (hs : a.eval s = v) (hown : k.Own w base v xs)
    (B : Nat) (A : Option Addr) (c n : Nat) (ys : List α) (hn : n = ys.length) (hx : a.eval x = .slice A n c) (hr : RowAt w B A (k.row ys)) (hlen : xs.length + ys.length ≤ 1000000) (hby : k.bytes ≤ 1000) (hbase : base ≤ w.heap.size)
    (h : ∀ v' w', k.Own w' base v' (xs ++ ys) → w.grownBy w' v.ownBlock → Below base w w' → (v'.ownBlock = v.ownBlock ∨ v'.ownBlock = some w.heap.size) → wpList P ops Q rest (a.put o.dst v') w') : wpList P ops Q (o :: rest) a w := by
  obtain ⟨i0, hi0, hz0, hz1, hz2⟩ := info_parts k.info
  subst hn
  refine wpList_step fun K hK => ?_
  rw [if_pos hgd]
  refine wp_append_row w s x _ ho base k.el i0 _ k.size k.bytes k.under hi0 hz0 hz1 hz2 k.zsize k.pos v xs.length (k.row xs) hs hown B A ys.length c (k.row ys) hx (k.row_len ys) hr (k.row_cells ys) (by unfold maxLen; omega) ?_ hbase fun v' w' h1 h2 h3 => hK _ _ ?_
  · have := Nat.mul_le_mul hlen hby
    omega
  · refine h v' w' ?_ h2 ((Below.refl _ _).grown h2 hbase (fun g hg => (World.ownsRow.lt hown g hg).1)) h3
    rw [← k.row_append] at h1
    exact Kind.Own.of_row h1
end Go.Proofs.Ytfpgklpnpplnnaa

namespace Go.Proofs.Ytfpgklpnpplnnaa
open Go.RowKit

section
variable {P : Program} {C : World → Prop} {a : Act} {o : Oper}
theorem q_region {id : Nat} {Q : Exit → Act → World → Prop} {a : Act} {w : World} {l : List Oper} (C : World → Prop) (hm : P.follows .mixedOrders = true) (hB : Region.lexB .any l.toArray = true) (hC : C w.drew)
    (h : wpQuiet P l.toArray C (fun a' => ∀ w', C w' → Q .normal a' w') l a) : (Code.region id l.toArray true).wp P Q a w :=
  wp_region_quiet (C := C) hm hB hC (by simpa using h)
theorem q_take {v : Value} {K : Act → Prop} (hy : ∀ w, C w → (execOp a.eval o).run P w = .ok (.value v) w) (hk : K (a.put o.dst v)) : o.quiet P a C K :=
  ⟨v, fun w hC => by unfold Oper.quietAt; rw [hy w hC]; exact ⟨rfl, rfl⟩, hk⟩
theorem q_call {v : Value} {K : Act → Prop} {f : FuncId} {args : Array Value} (hc : ∀ w, C w → Calls P f args w fun e w' => e = .returned v ∧ C w') (he : ∀ w, C w → (execOp a.eval o).run P w = .ok (.enter f args) w) (hk : K (a.put o.dst v)) : o.quiet P a C K :=
  ⟨v, fun w hC => by unfold Oper.quietAt; rw [he w hC]; exact ⟨rfl, hc w hC⟩, hk⟩
end

def CellL (a : World) : List (Addr × Value) → World → Prop
  | [], w => Below a.heap.size a w
  | (p, v) :: l, w => w.cell? p = some v ∧ CellL a l w
theorem cellL_size {a w : World} : ∀ {l : List (Addr × Value)}, CellL a l w → Below a.heap.size a w
  | [], h => h
  | _ :: _, h => cellL_size h.2
theorem cellL_call {a w w' : World} (hb : Below w.heap.size w w') : ∀ {l : List (Addr × Value)}, CellL a l w → CellL a l w'
  | [], h => Below.trans h (hb.mono (Below.size h))
  | (p, _) :: _, h => ⟨(hb.cell (p := p) (World.block_lt_of_cell? w p h.1)).trans h.1, cellL_call hb h.2⟩
theorem cellL_drew {a w : World} : ∀ {l : List (Addr × Value)}, CellL a l w → CellL a l w.drew
  | [], h => Below.drew h
  | _ :: _, h => ⟨h.1, cellL_drew h.2⟩
theorem cellL_of {P : Program} {f : FuncId} {args : Array Value} {v : Value} {a : World} {l : List (Addr × Value)} (h : ∀ w, Calls P f args w fun e w' => e = .returned v ∧ Below w.heap.size w w') :
    ∀ w, CellL a l w → Calls P f args w fun e w' => e = .returned v ∧ CellL a l w' := fun w hC => (h w).mono fun _ _ ⟨h1, h2⟩ => ⟨h1, cellL_call h2 hC⟩
theorem alloc_keeps (w : World) (x : Obj) : ∀ b o, b < w.heap.size → (w.alloc x).cell? ⟨b, o, none⟩ = w.cell? ⟨b, o, none⟩ := (bcell ((Below.refl w.heap.size w).alloc (Nat.le_refl _) x)).1
end Go.Proofs.Ytfpgklpnpplnnaa

namespace Go.Proofs.Ytfpgklpnpplnnaa

structure Vr where
  rep : Int
  cnt : Int
def rightVr (v : Vr) : Bool := decide (1 ≤ v.rep) && (decide (v.rep ≤ 16) && (decide (1 ≤ v.cnt) && decide (v.cnt ≤ 1099511627776)))
def lessVr (a b : Vr) : Bool := decide (a.rep < b.rep) || (decide (a.rep = b.rep) && decide (a.cnt < b.cnt))
theorem lessVr_iff {a b : Vr} : lessVr a b = true ↔ a.rep < b.rep ∨ a.rep = b.rep ∧ a.cnt < b.cnt := by
  unfold lessVr; simp only [Bool.or_eq_true, Bool.and_eq_true, decide_eq_true_eq]
theorem vr_ext {a b : Vr} (h1 : a.rep = b.rep) (h2 : a.cnt = b.cnt) : a = b := by cases a; cases b; simp_all
theorem lessVr_irrefl (a : Vr) : lessVr a a = false := by
  cases h : lessVr a a with
  | false => rfl
  | true => rw [lessVr_iff] at h; omega
def digC (n : Nat) : UInt8 := UInt8.ofNat (48 + n)
def digF : Nat → Nat → List UInt8
  | 0, n => [digC (n % 10)]
  | f + 1, n => match decide (n < 10) with | true => [digC n] | false => digF f (n / 10) ++ [digC (n % 10)]
def digN (n : Nat) : List UInt8 := digF 20 n
theorem digF_small {f n : Nat} (h : n < 10) : digF f n = [digC n] := by
  cases f with
  | zero => rw [digF, Nat.mod_eq_of_lt h]
  | succ f => rw [digF, decide_eq_true h]
theorem digF_big {f n : Nat} (h : 10 ≤ n) : digF (f + 1) n = digF f (n / 10) ++ [digC (n % 10)] := by rw [digF, decide_eq_false (by omega)]
theorem digF_len : ∀ (f n : Nat), (digF f n).length ≤ f + 1
  | 0, n => by simp [digF]
  | f + 1, n => by
    by_cases hn : n < 10
    · rw [digF_small hn]; simp
    · rw [digF_big (by omega), List.length_append, List.length_singleton]
      have := digF_len f (n / 10)
      omega
def DigSt (n : Nat) (s : List UInt8) (r : Nat) : Prop := ∃ f, r < 10 ^ (f + 1) ∧ ((s = [] ∧ digN n = digF f r) ∨ (s ≠ [] ∧ digN n = (match decide (r = 0) with | true => [] | false => digF f r) ++ s))
theorem DigSt.done {n : Nat} {s : List UInt8} (h : DigSt n s 0) (hs : s ≠ []) : s = digN n := by
  obtain ⟨f, _, h⟩ := h
  rcases h with ⟨h1, _⟩ | ⟨_, h2⟩
  · exact absurd h1 hs
  · exact h2.symm

def RiseVr (l : List Vr) : Prop := l.Pairwise fun a b => lessVr a b = true
structure SortVr (l r : List Vr) : Prop where
  rise : RiseVr r
  mem : ∀ v, v ∈ r ↔ v ∈ l ∧ rightVr v = true
theorem SortVr.one {v : Vr} {r : List Vr} (h : SortVr [v, v] r) (hv : rightVr v = true) : r = [v] := by
  have h1 : ∀ x ∈ r, x = v := fun x hx => by have := ((h.mem x).1 hx).1; simpa using this
  match r, h with
  | [], h => have := (h.mem v).2 ⟨by simp, hv⟩; cases this
  | [x], h => rw [h1 x (List.mem_singleton.2 rfl)]
  | x :: y :: r, h =>
    have h2 := (List.pairwise_cons.1 h.rise).1 y (List.mem_cons_self ..)
    rw [h1 x (List.mem_cons_self ..), h1 y (by simp), lessVr_irrefl] at h2
    cases h2
theorem SortVr.next {l r : List Vr} (h : SortVr l r) {k : Nat} {a b : Vr} (ha : r[k]? = some a) (hb : r[k + 1]? = some b) : lessVr a b = true := by
  obtain ⟨h1, rfl⟩ := List.getElem?_eq_some_iff.1 ha
  obtain ⟨h2, rfl⟩ := List.getElem?_eq_some_iff.1 hb
  exact List.pairwise_iff_getElem.1 h.rise k (k + 1) h1 h2 (by omega)
end Go.Proofs.Ytfpgklpnpplnnaa
