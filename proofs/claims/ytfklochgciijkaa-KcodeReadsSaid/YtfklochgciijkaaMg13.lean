/-
  Several texts in one: CntJ, CntK, Full, Law13H, VstM, VstL, VstQ, SpanD, RgsG, KnwL, KnwM, KcpB.
-/
import Derived.Deep.CutRange
import Derived.ArgAppend
import Derived.Lib.SliceRun
import Derived.Deep.RegionHeld3
import Derived.Deep.RegionWith
import Derived.Test.YtfklochgciijkaaMg12
/-
  Layer 13 (counts), the program: a swept list from a count on; the next edge of two.
-/
namespace Go.Proofs.Ytfklochgciijkaa
open Go.RowKit

/-- The edges' row behind a count. -/
def passN (x : Int) (A : Option Addr) (n c : Nat) : List Int → Value
  | [] => .slice A n c
  | y :: _ => match decide (y = x) with | true => .slice (cutA A 1 c) (n - 1) (c - 1) | false => .slice A n c
theorem passN_same {x : Int} {A : Option Addr} {n c : Nat} {l : List Int} : passN x A n c (x :: l) = .slice (cutA A 1 c) (n - 1) (c - 1) := by rw [passN, decide_eq_true rfl]
theorem passN_other {x y : Int} {A : Option Addr} {n c : Nat} {l : List Int} (h : y ≠ x) : passN x A n c (y :: l) = .slice A n c := by rw [passN, decide_eq_false h]
/-- A row of counts that reads, as a value. -/
def SliceI (w : World) (v : Value) (l : List Int) : Prop := ∃ A c, v = .slice A l.length c ∧ kIt.Rd w w.heap.size A c l
theorem passN_reads {x : Int} {A : Option Addr} {c : Nat} {l : List Int} {w : World} (hr : kIt.Rd w w.heap.size A c l) : SliceI w (passN x A l.length c l) (dropI x l) := by
  cases l with
  | nil => exact ⟨A, c, rfl, hr⟩
  | cons y l =>
    by_cases hy : y = x
    · subst hy
      rw [passN_same, dropI_same]
      refine ⟨_, _, rfl, ?_, by have := hr.room; simp only [List.length_cons] at this; omega, by have := hr.cap; omega⟩
      have h1 := RowAt.cut hr.row (k := 1) (c := c) (by rw [its_len]; simp) (by rw [its_len]; exact hr.room)
      rwa [← its_drop, List.drop_one, List.tail_cons] at h1
    · rw [passN_other hy, dropI_other hy]
      exact ⟨_, _, rfl, hr⟩
/-- The next edge, as it is handed back. -/
def curI : Option Int → Int
  | none => 0
  | some e => e
end Go.Proofs.Ytfklochgciijkaa

/-
  Layer 13 (counts), the program: two lists swept together.
-/
namespace Go.Proofs.Ytfklochgciijkaa
open Go.RowKit

/-- What stands open in the list that is made. -/
def pendC : Option Int → List Rn
  | none => []
  | some lo => [⟨lo, 0⟩]
end Go.Proofs.Ytfklochgciijkaa

/-
  append of one thing to a slice that has no room: always a row of the call's own. Slices cut out of rows whose things take a cell each.
-/
namespace Go.Proofs.Ytfklochgciijkaa
open Go.RowKit

theorem run_take3 {T E : TypeId} (ht : Try.prog.underlying T = some (.slice E)) (hs : ∀ w, (sizeOf E).run Try.prog w = .ok 1 w) (w : World) (A : Option Addr) (n c m : Nat) (h2 : m ≤ c) :
    (Instr.slice T (.slice A n c) none (some (.int .i64 (m : Int))) (some (.int .i64 (m : Int)))).run Try.prog w = .ok (.slice A m m) w := by
  have ht' : Try.prog.underlying T = some (.slice (Try.prog.elem T)) := by simp [Program.elem, ht]
  have he : Try.prog.elem T = E := by simp [Program.elem, ht]
  rw [run_slice_hm w T _ _ _ ht' .i64 .i64 _ _ (by omega) (by omega) (by omega), he, hs]
  cases A <;> simp [Result.andThen, sliced, Addr.add]
namespace Kind
variable {P : Program} {α : Type} {k : Kind P α}
theorem Rd.take {w : World} {B : Nat} {A : Option Addr} {c : Nat} {l : List α} (h : k.Rd w B A c l) {j : Nat} (hj : j ≤ l.length) : k.Rd w B A j (l.take j) :=
  ⟨by rw [k.row_take]; exact h.row.take _, by rw [List.length_take]; omega, by have := h.room; have := h.cap; omega⟩
theorem Rd.cut1 {w : World} {B : Nat} {A : Option Addr} {c : Nat} {l : List α} (h1 : k.size = 1) (h : k.Rd w B A c l) {j : Nat} (hj : j ≤ l.length) : k.Rd w B (cutA A j c) (c - j) (l.drop j) := by
  refine ⟨?_, by have := h.room; rw [List.length_drop]; omega, by have := h.cap; omega⟩
  have e : (k.row l).length = l.length := by rw [k.row_len, h1, Nat.mul_one]
  have h2 := RowAt.cut h.row (k := j) (c := c) (by rw [e]; exact hj) (by rw [e]; exact h.room)
  rw [k.row_drop, h1, Nat.mul_one]
  exact h2
/-- A row of no address has nothing in it. -/
theorem Rd.none {w : World} {B : Nat} {c : Nat} {l : List α} (h : k.Rd w B none c l) : l = [] := by
  rcases h.row with h0 | ⟨b, o, h1, _⟩
  · have e := congrArg List.length h0
    rw [k.row_len, List.length_nil] at e
    cases l with
    | nil => rfl
    | cons x l =>
      rw [List.length_cons] at e
      exact absurd e (Nat.ne_of_gt (Nat.mul_pos (Nat.succ_pos l.length) k.pos))
  · cases h1
end Kind
theorem wpList_app_full {P : Program} {α : Type} (k : Kind P α) {w : World} {ops : Array Oper} {rest : List Oper} {o : Oper} {a : Act} {Q : Exit → Act → World → Prop} (hgd : o.guard = none) (s x : Operand)
    (ho : o.op = .call { callee := .builtin .append, args := #[s, x], argTypes := #[k.ty, k.ty] })
    (B : Nat) (A : Option Addr) (n : Nat) (xs : List α) (hn : n = xs.length) (hs : a.eval s = .slice A n n) (hr : k.Rd w B A n xs)
    (B' g : Nat) (y : α) (hx : a.eval x = .slice (some ⟨g, 0, none⟩) 1 1) (hy : RowAt w B' (some ⟨g, 0, none⟩) (k.row [y])) (hlen : n ≤ 100000) (hby : k.bytes ≤ 1000)
    (h : ∀ v' w', k.Own w' w.heap.size v' (xs ++ [y]) → Below w.heap.size w w' → wpList P ops Q rest (a.put o.dst v') w') : wpList P ops Q (o :: rest) a w := by
  obtain ⟨i0, hi0, hz0, hz1, hz2⟩ := info_parts k.info
  refine wpList_append_grows w hgd s x k.ty ho k.el i0 _ k.size k.bytes k.under hi0 hz0 hz1 hz2 k.zsize k.pos A n n (k.row xs) hs ?_ ?_ ?_ ⟨g, 0, none⟩ 1 1 (k.row [y]) hx (k.row_len [y]) ?_ (k.row_cells [y]) (by omega) (by unfold maxLen; omega) ?_ ?_
  · intro e
    subst e
    have := hr.none
    subst this
    exact ⟨hn, hn⟩
  · rw [hn]; exact k.row_len xs
  · intro b hb j u hj
    rcases hr.row with h0 | ⟨b1, o1, rfl, h2, h3⟩
    · rw [h0] at hj; simp at hj
    · injection hb with hb
      subst hb
      rw [Addr.add_lit]
      exact h3 j u hj
  · intro j u hj
    rcases hy with h0 | ⟨b1, o1, h1, h2, h3⟩
    · rw [h0] at hj; simp at hj
    · injection h1 with h1
      injection h1 with h1 h1o
      subst h1 h1o
      rw [Addr.add_lit]
      exact h3 j u hj
  · have := Nat.mul_le_mul (show n + 1 ≤ 100001 by omega) hby
    omega
  · intro v' w' h1 h2
    rw [← k.row_append] at h1
    exact h v' w' (Kind.Own.of_row h1) ((Below.refl _ _).grown h2 (Nat.le_refl _) (fun g hg => by cases hg))
end Go.Proofs.Ytfklochgciijkaa

/-
  The laws of layer 13: what the program's functions do, as they ask it.
-/
namespace Go.Proofs.Ytfklochgciijkaa
open Go.RowKit

/-- What a call hands back that hands two lists on, of the call's own. -/
def CSetOC (F : FuncId) (op : Int) : Prop := ∀ (A B : Option Addr) (c d n m : Nat) (a b : List Rn), n = a.length → m = b.length → n ≤ 100000 → m ≤ 100000 → ∀ U, makeC op a b = U → ∀ N, U.length = N → ∀ w, kRn.Rd w w.heap.size A c a → kRn.Rd w w.heap.size B d b →
  Calls Try.prog F #[.slice A n c, .slice B m d] w (RetOC w N U)
theorem CSetOC.ret {F : FuncId} {op : Int} (h : CSetOC F op) : CSetC F op := fun A B c d n m a b hn hm h1 h2 U hU N hN w ha hb => (h A B c d n m a b hn hm h1 h2 U hU N hN w ha hb).mono fun _ _ h => h.ret
theorem k_cright : CRightC 59 := fun A c n l hn _ v hv w hr => cn_right A c n l hn v hv w hr
end Go.Proofs.Ytfklochgciijkaa

/-
  Layer 14 (vset), the program: a set and some versions more.
-/
namespace Go.Proofs.Ytfklochgciijkaa
open Go.RowKit

theorem le_alloc2 {B : Nat} {w : World} (h : B ≤ w.heap.size) (o : Obj) : B ≤ (w.alloc o).heap.size := by rw [size1]; omega
/-- How the rows stand, in block g, while runs are put behind them. -/
structure PutAt (w0 : World) (g : Nat) (w : World) (V : Nat → Value) (L : Nat → List Rn) : Prop where
  all : GrAt w g V
  rows : RowsG w w0.heap.size V L
  off : ∀ j, j < 16 → (V j).ownBlock ≠ some g
  low : Below w0.heap.size w0 w
  ge : w0.heap.size ≤ g
theorem PutAt.below {w0 w w' : World} {g : Nat} {V : Nat → Value} {L : Nat → List Rn} (h : PutAt w0 g w V L) (hb : Below w.heap.size w w') : PutAt w0 g w' V L := ⟨h.all.below hb, h.rows.below hb, h.off, h.low.trans (hb.mono h.low.size), h.ge⟩
theorem PutAt.congr {w0 w : World} {g : Nat} {V : Nat → Value} {L M : Nat → List Rn} (h : PutAt w0 g w V L) (e : ∀ k, k < 16 → M k = L k) : PutAt w0 g w V M := ⟨h.all, h.rows.congr e, h.off, h.low, h.ge⟩
theorem PutAt.congrV {w0 w : World} {g : Nat} {V W : Nat → Value} {L : Nat → List Rn} (h : PutAt w0 g w V L) (e : ∀ k, k < 16 → W k = V k) : PutAt w0 g w W L := ⟨h.all.congr e, h.rows.congrV e, fun j hj => by rw [e j hj]; exact h.off j hj, h.low, h.ge⟩
theorem putAt_new {w0 w : World} {V : Nat → Value} {L : Nat → List Rn} (h : RowsG w w0.heap.size V L) (hb : Below w0.heap.size w0 w) (t : TypeId) : PutAt w0 w.heap.size (w.alloc (grO V t)) V L :=
  ⟨grAt_new w V t, h.alloc _, fun j hj e => by have := ((h.own j hj).lt _ e).2; omega, hb.alloc hb.size _, hb.size⟩
theorem PutAt.mid {w0 w w' : World} {g : Nat} {V : Nat → Value} {L : Nat → List Rn} (h : PutAt w0 g w V L) {j : Nat} (hj : j < 16) (hg : w.grownBy w' (V j).ownBlock) : GrAt w' g V := h.all.grown hg fun e => h.off j hj e.symm
theorem PutAt.app {w0 w w' : World} {g : Nat} {V : Nat → Value} {L : Nat → List Rn} {v' : Value} {l : List Rn} (h : PutAt w0 g w V L) {j : Nat} (hj : j < 16) (ho : kRn.Own w' w0.heap.size v' l) (hg : w.grownBy w' (V j).ownBlock) (hv : v'.ownBlock = (V j).ownBlock ∨ v'.ownBlock = some w.heap.size) :
    PutAt w0 g (w'.setCell ⟨g, j, none⟩ v') (upd V j v') (upd L j l) := by
  have hr := h.rows.app hj ho hg hv
  have ho' := RowsG.upd_off h.off h.all.lt hv hj
  exact ⟨(h.mid hj hg).set hj _, hr.set ho' _, ho', ((h.low.grown hg h.low.size fun g e => ((h.rows.own j hj).lt g e).1)).setCell (p := ⟨g, j, none⟩) h.ge _, h.ge⟩
/-- How the rows stand while they are put in order, one behind the other: the new ones, and behind them the old. -/
structure OrdAt (w0 : World) (g B : Nat) (w : World) (k : Nat) (VO VN : Nat → Value) (L M : Nat → List Rn) : Prop where
  all : GrAt w g (fun j => if j < k then VN j else VO j)
  old : RowsG w w0.heap.size VO L
  off : ∀ j, j < 16 → (VO j).ownBlock ≠ some g
  new : RowsG w B VN (fun j => if j < k then M j else [])
  low : Below w0.heap.size w0 w
  ge : w0.heap.size ≤ g
  lt : g < B
  le : B ≤ w.heap.size
theorem PutAt.ord {w0 w : World} {g : Nat} {V : Nat → Value} {L : Nat → List Rn} (h : PutAt w0 g w V L) (M : Nat → List Rn) : OrdAt w0 g w.heap.size w 0 V (fun _ => .slice none 0 0) L M :=
  ⟨h.all.congr fun k _ => if_neg (by omega), h.rows, h.off, (rowsG_nil _ _).congr fun k _ => if_neg (by omega), h.low, h.ge, h.all.lt, Nat.le_refl _⟩
theorem OrdAt.below {w0 w w' : World} {g B k : Nat} {VO VN : Nat → Value} {L M : Nat → List Rn} (h : OrdAt w0 g B w k VO VN L M) (hb : Below w.heap.size w w') : OrdAt w0 g B w' k VO VN L M :=
  ⟨h.all.below hb, h.old.below hb, h.off, h.new.below hb, h.low.trans (hb.mono h.low.size), h.ge, h.lt, Nat.le_trans h.le hb.size⟩
theorem OrdAt.next {w0 w w' : World} {g B k : Nat} {VO VN : Nat → Value} {L M : Nat → List Rn} {v' : Value} (h : OrdAt w0 g B w k VO VN L M) (hk : k < 16) (ho : kRn.Own w' w.heap.size v' (M k)) (hb : Below w.heap.size w w') : OrdAt w0 g B (w'.setCell ⟨g, k, none⟩ v') (k + 1) VO (upd VN k v') L M := by
  have hr := h.new.new hk ho hb h.le
  have h1 := h.below hb
  refine ⟨(h1.all.set hk v').congr fun j _ => ?_, h1.old.set h.off _, h.off, (hr.set (hr.low h.lt) _).congr fun j _ => ?_, h1.low.setCell (p := ⟨g, k, none⟩) h.ge _, h.ge, h.lt, ?_⟩
  · by_cases e : j = k
    · subst e; rw [upd_at]; rw [if_pos (by omega), upd_at]
    · rw [upd_far (fun j => if j < k then VN j else VO j) _ e, upd_far VN _ e]
      by_cases h2 : j < k
      · rw [if_pos h2, if_pos (by omega)]
      · rw [if_neg h2, if_neg (by omega)]
  · by_cases e : j = k
    · subst e; rw [upd_at]; exact if_pos (by omega)
    · rw [upd_far _ _ e]
      by_cases h2 : j < k
      · show (if j < k + 1 then M j else []) = if j < k then M j else []
        rw [if_pos h2, if_pos (by omega)]
      · show (if j < k + 1 then M j else []) = if j < k then M j else []
        rw [if_neg h2, if_neg (by omega)]
  · exact Nat.le_trans h1.le (by simp)
theorem OrdAt.fin {w0 w : World} {g B : Nat} {VO VN : Nat → Value} {L M : Nat → List Rn} (h : OrdAt w0 g B w 16 VO VN L M) (N : Nat → Nat) (hN : ∀ k, (M k).length = N k) : ∃ A c, GrAt w g (slV A N c) ∧ ∀ k, k < 16 → kRn.RdS w (fun b => B ≤ b) (A k) (c k) (M k) := by
  have hr := h.new.congr (M := M) fun k hk => (if_pos hk).symm
  obtain ⟨A, c, e⟩ := hr.form N hN
  exact ⟨A, c, h.all.congr fun k hk => by rw [e k hk, if_pos hk], (hr.congrV e).rdSs hN⟩
end Go.Proofs.Ytfklochgciijkaa

/-
  Layer 14 (vset), the program: two sets held against each other by the library's calls.
-/
namespace Go.Proofs.Ytfklochgciijkaa
open Go.RowKit

theorem eq_rn_is (r t : Rn) (X Y Z W : Int) (h1 : r.fr = X) (h2 : r.to = Y) (h3 : t.fr = Z) (h4 : t.to = W) (q : Bool) (hq : (r.fr == t.fr && r.to == t.to) = q) (w : World) : (Op.equalIn 10000 49 (.agg #[.int .i64 X, .int .i64 Y]) (.agg #[.int .i64 Z, .int .i64 W])).run Try.prog w = .ok q w := by
  subst h1 h2 h3 h4; exact eq_rn _ _ _ _ q hq w
theorem sameC_cons (r t : Rn) (a b : List Rn) : sameC (r :: a) (t :: b) = ((r.fr == t.fr && r.to == t.to) && sameC a b) := rfl
set_option maxHeartbeats 1000000 in
theorem vs_equal (A B : Option Addr) (c d n m : Nat) (a b : List Rn) (hn : n = a.length) (hm : m = b.length) (v : Bool) (hv : sameC a b = v) (w : World) (ha : kRn.Rd w w.heap.size A c a) (hb : kRn.Rd w w.heap.size B d b) :
    Calls Try.prog 80 #[.slice A n c, .slice B m d] w fun e w' => e = .returned (.bool v) ∧ Below w.heap.size w w' := by
  have HN := Lib.hid hn
  have HM := Lib.hid hm
  have HA := Lib.hid ha
  have HB := Lib.hid hb
  have hmx := rd_maxC ha hn
  have hmy := rd_maxC hb hm
  have hcx : n ≤ c := by rw [hn]; exact ha.room
  have hcy : m ≤ d := by rw [hm]; exact hb.room
  subst hv
  by_cases hnm : n = m
  · subst hnm
    clear hn hm ha hb
    go_enter Try.func80, Try.ntmps80
    go_wp2_with fail
    go_loopw [13] (fun i wr => ∃ k : Nat, k ≤ n ∧ Hid (sameC a b = sameC (a.drop k) (b.drop k)) ∧ i = .int .i64 k ∧ Hid (Below w.heap.size w wr)) (fun i _ => n - (intOf i).toNat)
    case atStart => exact ⟨0, by omega, rfl, rfl, Below.refl _ _⟩
    case round =>
      obtain ⟨k, hk, HL, rfl, HW⟩ := hrel
      by_cases hlt : k < n
      · obtain ⟨r, hg, hd, -⟩ := cnt_get (l := a) (k := k) (by have := HN.out; omega)
        obtain ⟨t, hg', hd', -⟩ := cnt_get (l := b) (k := k) (by have := HM.out; omega)
        obtain ⟨b1, o1, rfl, hb1, hcell1⟩ := rns_at (HA.out.below HW.out) (by have := HN.out; omega)
        obtain ⟨b2, o2, rfl, hb2, hcell2⟩ := rns_at (HB.out.below HW.out) (by have := HM.out; omega)
        obtain ⟨a0, a1⟩ := hcell1 k r hg
        obtain ⟨c0, c1⟩ := hcell2 k t hg'
        obtain ⟨X, hX⟩ : ∃ X, r.fr = X := ⟨_, rfl⟩
        obtain ⟨Y, hY⟩ : ∃ Y, r.to = Y := ⟨_, rfl⟩
        obtain ⟨Z, hZ⟩ : ∃ Z, t.fr = Z := ⟨_, rfl⟩
        obtain ⟨W, hW⟩ : ∃ W, t.to = W := ⟨_, rfl⟩
        obtain ⟨x, hx⟩ : ∃ x, (r.fr == t.fr && r.to == t.to) = x := ⟨_, rfl⟩
        have EQ := fun w => eq_rn_is r t X Y Z W hX hY hZ hW x hx w
        have HL2 := Lib.hid (HL.out.trans (show sameC (a.drop k) (b.drop k) = (x && sameC (a.drop (k + 1)) (b.drop (k + 1))) by rw [hd, hd', sameC_cons, hx]))
        have hk0 : (0 : Int) ≤ (k : Int) := by omega
        have hkn : (k : Int) < (n : Int) := by omega
        rw [hX] at a0
        rw [hY] at a1
        rw [hZ] at c0
        rw [hW] at c1
        clear hcell1 hcell2 hg hg' hd hd' hx hX hY hZ hW
        cases x
        all_goals
          go_wp2_with fail
          go_quiet (fail)
          go_wp2_with fail
        · go_ret
          exact ⟨ret_bool HL2.out.symm, below_drewN HW.out _⟩
        · go_roundw
          case rel => exact ⟨k + 1, by omega, HL2, by go_num, below_drewN HW.out _⟩
          case measure => simp [intOf]; omega
      · have HL2 := Lib.hid (HL.out.trans (show sameC (a.drop k) (b.drop k) = true by rw [List.drop_eq_nil_of_le (by have := HN.out; omega), List.drop_eq_nil_of_le (by have := HM.out; omega)]; rfl))
        go_wp2_with fail
        go_ret
        exact ⟨ret_bool HL2.out.symm, HW.out⟩
  · have HE := Lib.hid (sameC_len (a := a) (b := b) (by omega))
    have hne : ((n : Int) == (m : Int)) = false := beq_eq_false_iff_ne.2 (by omega)
    have hne2 : ((n : Int) != (m : Int)) = true := by rw [bne, hne]; rfl
    clear hn hm ha hb hnm
    go_enter Try.func80, Try.ntmps80
    go_wp2_with fail
    go_ret
    exact ⟨ret_bool HE.out.symm, Below.refl _ _⟩
end Go.Proofs.Ytfklochgciijkaa

/-
  Layer 14 (vset), the program: are two sets the same, is one within the other?
-/
namespace Go.Proofs.Ytfklochgciijkaa
open Go.RowKit

theorem sameS_cons (x y : Kn) (a b : List Kn) : sameS (x :: a) (y :: b) = (((x.rep == y.rep) && sameC x.runs y.runs) && sameS a b) := rfl
end Go.Proofs.Ytfklochgciijkaa

/-
  Layer 7 (span): which of two ranges ends ahead.
-/
namespace Go.Proofs.Ytfklochgciijkaa
open Go.RowKit

end Go.Proofs.Ytfklochgciijkaa

/-
  Layer 8 (ranges), the program: is there a text between two; is a list right; which texts it has; are two lists the same, range by range.
-/
namespace Go.Proofs.Ytfklochgciijkaa
open Go.RowKit

end Go.Proofs.Ytfklochgciijkaa

/-
  Layer 15 (know), the program: two sets held against each other; may a piece stand in right knowledge, and behind which one; is knowledge right?
-/
namespace Go.Proofs.Ytfklochgciijkaa
open Go.RowKit

/-- A Known of a set held against one of another. -/
theorem kw_alike1 (x y : Kn) (A B : Option Addr) (c d n m : Nat) (hn : n = x.runs.length) (hm : m = y.runs.length) (X Y : Int) (hX : x.rep = X) (hY : y.rep = Y) (v : Bool) (hv : ((x.rep == y.rep) && sameC x.runs y.runs) = v) (w : World) (ha : kRn.Rd w w.heap.size A c x.runs) (hb : kRn.Rd w w.heap.size B d y.runs) :
    Calls Try.prog 79 #[.agg #[.int .i64 X, .slice A n c], .agg #[.int .i64 Y, .slice B m d]] w fun e w' => e = .returned (.bool v) ∧ Below w.heap.size w w' := by
  obtain ⟨z, hz⟩ : ∃ z, sameC x.runs y.runs = z := ⟨_, rfl⟩
  obtain ⟨p, hp⟩ : ∃ p, (X == Y) = p := ⟨_, rfl⟩
  have hb2 : Below w.heap.size w ((w.alloc (.cells #[.int .i64 X, .slice A n c] 52)).alloc (.cells #[.int .i64 Y, .slice B m d] 52)) := (below_new w _).trans ((below_new _ _).mono (by simp))
  have C := Lib.hid (vs_equal A B c d n m x.runs y.runs hn hm z hz _ (ha.call hb2) (hb.call hb2))
  clear hb2
  rw [hX, hY, hz, hp] at hv
  clear ha hb hn hm hz hX hY
  subst hv
  cases p
  · go_enter Try.func79, Try.ntmps79
    go_wp2_with fail
    go_ret
    exact ⟨rfl, (below_new w _).trans ((below_new _ _).mono (by simp))⟩
  · go_enter Try.func79, Try.ntmps79
    go_wp2_with ((with_reducible refine C.out.mono ?_); rintro e w1 ⟨rfl, hq⟩; have HQ := Lib.hid hq; clear hq)
    go_ret
    exact ⟨rfl, (below_new w _).trans (((below_new _ _).mono (by simp)).trans (HQ.out.mono (by simp; omega)))⟩
set_option maxRecDepth 100000 in
set_option maxHeartbeats 2000000 in
theorem kw_equalF (A B : Option Addr) (c d n m : Nat) (a b : List Kn) (hn : n = a.length) (hm : m = b.length) (v : Bool) (hv : sameS a b = v) (w : World) (ha : RdK w w.heap.size A c a) (hb : RdK w w.heap.size B d b) :
    Calls Try.prog 78 #[.slice A n c, .slice B m d, .func (.func 79) #[] #[]] w fun e w' => e = .returned (.bool v) ∧ Below w.heap.size w w' := by
  have HN := Lib.hid hn
  have HM := Lib.hid hm
  have HA := Lib.hid ha
  have HB := Lib.hid hb
  have hmx := rdk_max ha hn
  have hmy := rdk_max hb hm
  have hcx : n ≤ c := by rw [hn]; exact ha.room
  have hcy : m ≤ d := by rw [hm]; exact hb.room
  subst hv
  by_cases hnm : n = m
  · subst hnm
    clear hn hm ha hb
    go_enter Try.func78, Try.ntmps78
    go_wp2_with fail
    go_loopw [17] (fun i wr => ∃ k : Nat, k ≤ n ∧ Hid (sameS a b = sameS (a.drop k) (b.drop k)) ∧ i = .int .i64 k ∧ Hid (Below w.heap.size w wr)) (fun i _ => n - (intOf i).toNat)
    case atStart => exact ⟨0, by omega, rfl, rfl, Below.refl _ _⟩
    case round =>
      obtain ⟨k, hk, HL, rfl, HW⟩ := hrel
      by_cases hlt : k < n
      · obtain ⟨x, hg, hd, -⟩ := cnt_get (l := a) (k := k) (by have := HN.out; omega)
        obtain ⟨y, hg', hd', -⟩ := cnt_get (l := b) (k := k) (by have := HM.out; omega)
        obtain ⟨b1, o1, rfl, hb1, hcell1⟩ := knowns_at (HA.out.call HW.out) (by have := HN.out; omega)
        obtain ⟨b2, o2, rfl, hb2, hcell2⟩ := knowns_at (HB.out.call HW.out) (by have := HM.out; omega)
        obtain ⟨A1, n1, c1, hn1, hr1, p0, p1⟩ := hcell1 k x hg
        obtain ⟨A2, n2, c2, hn2, hr2, q0, q1⟩ := hcell2 k y hg'
        obtain ⟨X, hX⟩ : ∃ X, x.rep = X := ⟨_, rfl⟩
        obtain ⟨Y, hY⟩ : ∃ Y, y.rep = Y := ⟨_, rfl⟩
        rw [hX] at p0
        rw [hY] at q0
        obtain ⟨z, hz⟩ : ∃ z, ((x.rep == y.rep) && sameC x.runs y.runs) = z := ⟨_, rfl⟩
        have hbb : Below wr.heap.size wr ((wr.alloc (.cells #[.int .i64 X, .slice A1 n1 c1] 52)).alloc (.cells #[.int .i64 Y, .slice A2 n2 c2] 52)) := (below_new _ _).trans ((below_new _ _).mono (by simp))
        have C := Lib.hid (kw_alike1 x y A1 A2 c1 c2 n1 n2 hn1 hn2 X Y hX hY z hz _ (hr1.call hbb) (hr2.call hbb))
        have HW1 := Lib.hid (HW.out.trans (hbb.mono HW.out.size))
        have HL2 := Lib.hid (HL.out.trans (show sameS (a.drop k) (b.drop k) = (z && sameS (a.drop (k + 1)) (b.drop (k + 1))) by rw [hd, hd', sameS_cons, hz]))
        have hk0 : (0 : Int) ≤ (k : Int) := by omega
        have hkn : (k : Int) < (n : Int) := by omega
        have p0b := ((bcell (below_new wr (.cells #[.int .i64 X, .slice A1 n1 c1] 52))).1 b2 (o2 + k * 2) (World.block_lt_of_cell? wr _ q0)).trans q0
        have p1b := ((bcell (below_new wr (.cells #[.int .i64 X, .slice A1 n1 c1] 52))).1 b2 (o2 + k * 2 + 1) (World.block_lt_of_cell? wr _ q0)).trans q1
        clear hcell1 hcell2 hg hg' hd hd' hz hX hY hr1 hr2 hn1 hn2 hbb
        cases z
        · go_wp2_with ((with_reducible refine C.out.mono ?_); rintro e w2 ⟨rfl, hq⟩; have HW2 := Lib.hid (HW1.out.trans (hq.mono HW1.out.size)); clear hq)
          go_ret
          exact ⟨ret_bool HL2.out.symm, HW2.out⟩
        · go_wp2_with ((with_reducible refine C.out.mono ?_); rintro e w2 ⟨rfl, hq⟩; have HW2 := Lib.hid (HW1.out.trans (hq.mono HW1.out.size)); clear hq)
          go_roundw
          case rel => exact ⟨k + 1, by omega, HL2, by go_num, HW2⟩
          case measure => simp [intOf]; omega
      · have HL2 := Lib.hid (HL.out.trans (show sameS (a.drop k) (b.drop k) = true by rw [List.drop_eq_nil_of_le (by have := HN.out; omega), List.drop_eq_nil_of_le (by have := HM.out; omega)]; rfl))
        go_wp2_with fail
        go_ret
        exact ⟨ret_bool HL2.out.symm, HW.out⟩
  · have HE := Lib.hid (sameS_len (a := a) (b := b) (by omega))
    have hne : ((n : Int) == (m : Int)) = false := beq_eq_false_iff_ne.2 (by omega)
    have hne2 : ((n : Int) != (m : Int)) = true := by rw [bne, hne]; rfl
    clear hn hm ha hb hnm
    go_enter Try.func78, Try.ntmps78
    go_wp2_with fail
    go_ret
    exact ⟨ret_bool HE.out.symm, Below.refl _ _⟩
theorem kw_alike (A B : Option Addr) (c d n m : Nat) (a b : List Kn) (hn : n = a.length) (hm : m = b.length) (v : Bool) (hv : decide (a = b) = v) (w : World) (ha : RdK w w.heap.size A c a) (hb : RdK w w.heap.size B d b) :
    Calls Try.prog 66 #[.slice A n c, .slice B m d] w fun e w' => e = .returned (.bool v) ∧ Below w.heap.size w w' := by
  have hs : sameS a b = v := by rw [Bool.eq_iff_iff, sameS_iff, ← hv, decide_eq_true_eq]
  have C := Lib.hid (kw_equalF A B c d n m a b hn hm v hs w ha hb)
  clear hn hm hv hs ha hb
  go_enter Try.func66, Try.ntmps66
  go_wp2_with ((with_reducible refine C.out.mono ?_); rintro e w1 ⟨rfl, hq⟩; have HQ := Lib.hid hq; clear hq)
  go_ret
  exact ⟨rfl, HQ.out⟩
/-- A piece as it is handed in. -/
structure PcIs (p : Pc) (S T : ByteArray) (o : Bool) (n : Nat) : Prop where
  rng : IsR p.rng S T o
  len : n = p.set.length
set_option maxRecDepth 100000 in
set_option maxHeartbeats 1000000 in
theorem kw_right1 (x : Pc) (S T : ByteArray) (o : Bool) (A : Option Addr) (c n : Nat) (hx : PcIs x S T o n) (v : Bool) (hv : onePc x = v) (w : World) (hr : RdK w w.heap.size A c x.set) :
    Calls Try.prog 51 #[.agg #[.string S, .string T, .bool o, .slice A n c]] w fun e w' => e = .returned (.bool v) ∧ Below w.heap.size w w' := by
  have hb := below_new w (.cells #[.string S, .string T, .bool o, .slice A n c] 69)
  obtain ⟨h1, hn⟩ := hx
  obtain ⟨z, hz⟩ : ∃ z, rightS x.set = z := ⟨_, rfl⟩
  obtain ⟨p, hp⟩ : ∃ p, rightR x.rng = p := ⟨_, rfl⟩
  obtain ⟨q, hq⟩ : ∃ q, (n == 0) = q := ⟨_, rfl⟩
  have C1 := fun w => Lib.hid (span_right x.rng S T o p h1 hp w)
  have C2 := fun w h => Lib.hid (vs_right A c n x.set hn z hz w h)
  have HB := Lib.hid hb
  have HR := Lib.hid (hr.call hb)
  have hlz : w.heap.size < (w.alloc (.cells #[.string S, .string T, .bool o, .slice A n c] 69)).heap.size := by simp
  have hnew := heap_new w (.cells #[.string S, .string T, .bool o, .slice A n c] 69) _ rfl
  have q3 : (w.alloc (.cells #[.string S, .string T, .bool o, .slice A n c] 69)).cell? ⟨w.heap.size, 3, none⟩ = some (.slice A n c) := by rw [cell_of_row _ _ _ _ _ _ hnew]; rfl
  have Q3 := Lib.hid q3
  have hmx := rdk_max hr hn
  have hvv : v = (p && (!q && z)) := by
    rw [← hv]
    unfold onePc fullK
    rw [hp, hz]
    congr 1
    cases hs : x.set with
    | nil => rw [hs] at hn; subst hn; subst hq; rfl
    | cons a b => rw [hs] at hn; subst hn; subst hq; rfl
  have h3 : decide ((n : Int) > 0) = !q := by
    rw [← hq]
    by_cases h : n = 0
    · subst h; rfl
    · rw [decide_eq_true (by omega), beq_eq_false_iff_ne.2 h]; rfl
  have h4 : decide ((0 : Int) < (n : Int)) = !q := h3
  have h5 : decide (0 < n) = !q := by
    rw [← h3]; exact decide_eq_decide.2 (by omega)
  subst hvv
  clear hn hr hz hp h1 hb hq hv hnew q3
  cases p <;> cases q
  all_goals
    go_enter Try.func51, Try.ntmps51
    go_wp2_with (first
      | ((with_reducible refine (C1 _).out.mono ?_); rintro e w1 ⟨rfl, hq⟩; have HQ := Lib.hid hq; have g3 := ((bcell hq).1 w.heap.size 3 hlz).trans Q3.out; replace HR := Lib.hid (HR.out.call hq); clear hq)
      | ((with_reducible refine (C2 _ HR.out).out.mono ?_); rintro e w2 ⟨rfl, hq⟩; have HQ2 := Lib.hid (HQ.out.trans (hq.mono HQ.out.size)); clear hq))
    go_ret
    first
      | exact ⟨rfl, HB.out.trans (HQ2.out.mono HB.out.size)⟩
      | exact ⟨rfl, HB.out.trans (HQ.out.mono HB.out.size)⟩
theorem gapP_open {p q : Pc} (h : p.rng.op = true) : gapP p q = false := by unfold gapP; rw [h]; rfl
theorem gapP_lt {p q : Pc} (h : p.rng.op = false) (h' : ltB p.rng.hi q.rng.lo = true) : gapP p q = true := by
  unfold gapP
  rw [h, ltB_asymm h', decide_eq_false (show ¬ p.rng.hi = q.rng.lo from fun e => by rw [e, ltB_irrefl] at h'; cases h')]; rfl
theorem gapP_gt {p q : Pc} (h' : ltB q.rng.lo p.rng.hi = true) : gapP p q = false := by unfold gapP; rw [h']; cases p.rng.op <;> rfl
theorem gapP_eq {p q : Pc} (h : p.rng.op = false) (h' : p.rng.hi = q.rng.lo) : gapP p q = !decide (p.set = q.set) := by
  unfold gapP
  rw [h, h', ltB_irrefl, decide_eq_true rfl]; rfl
theorem below_two (w : World) (x y : Obj) : Below w.heap.size w ((w.alloc x).alloc y) := (below_new w x).trans ((below_new _ y).mono (by simp))
set_option maxRecDepth 100000 in
set_option maxHeartbeats 1000000 in
theorem kw_follows (p q : Pc) (S T U V : ByteArray) (o z : Bool) (A B : Option Addr) (c d n m : Nat) (hp : PcIs p S T o n) (hq : PcIs q U V z m) (v : Bool) (hv : gapP p q = v) (w : World) (ha : RdK w w.heap.size A c p.set) (hb : RdK w w.heap.size B d q.set) :
    Calls Try.prog 52 #[.agg #[.string S, .string T, .bool o, .slice A n c], .agg #[.string U, .string V, .bool z, .slice B m d]] w fun e w' => e = .returned (.bool v) ∧ Below w.heap.size w w' := by
  have hb2 := below_two w (.cells #[.string S, .string T, .bool o, .slice A n c] 69) (.cells #[.string U, .string V, .bool z, .slice B m d] 69)
  obtain ⟨⟨-, h2, h3⟩, hn⟩ := hp
  obtain ⟨⟨h4, -, -⟩, hm⟩ := hq
  have HB := Lib.hid hb2
  cases o with
  | true =>
    obtain rfl : v = false := by rw [← hv]; exact gapP_open h3
    clear ha hb hn hm h2 h3 h4 hv hb2
    go_enter Try.func52, Try.ntmps52
    go_wp2_with fail
    go_ret
    exact ⟨rfl, HB.out⟩
  | false =>
    obtain ⟨y, hy⟩ : ∃ y, decide (p.set = q.set) = y := ⟨_, rfl⟩
    have C2 := Lib.hid (kw_alike A B c d n m p.set q.set hn hm y hy _ (ha.call hb2) (hb.call hb2))
    rcases ltB_three p.rng.hi q.rng.lo with ⟨k1, k2, -⟩ | ⟨k1, k2, -⟩ | ⟨k1, k2, k3⟩
    · obtain rfl : v = true := by rw [← hv]; exact gapP_lt h3 k1
      have C := fun w => Lib.hid (cmp_is p.rng.hi q.rng.lo T U h2 h4 (-1) (cmp_lt k1) w)
      clear ha hb hn hm h2 h3 h4 hv hb2 k1 k2 hy C2
      go_enter Try.func52, Try.ntmps52
      go_wp2_with ((with_reducible refine (C _).out.mono ?_); rintro e w1 ⟨rfl, rfl⟩)
      go_ret
      exact ⟨rfl, HB.out⟩
    · obtain rfl : v = false := by rw [← hv]; exact gapP_gt k2
      have C := fun w => Lib.hid (cmp_is p.rng.hi q.rng.lo T U h2 h4 1 (cmp_gt k2) w)
      clear ha hb hn hm h2 h3 h4 hv hb2 k1 k2 hy C2
      go_enter Try.func52, Try.ntmps52
      go_wp2_with ((with_reducible refine (C _).out.mono ?_); rintro e w1 ⟨rfl, rfl⟩)
      go_ret
      exact ⟨rfl, HB.out⟩
    · have hvy : v = !y := by rw [← hv, ← hy]; exact gapP_eq h3 k3
      have C := fun w => Lib.hid (cmp_is p.rng.hi q.rng.lo T U h2 h4 0 (by rw [k3]; exact cmp_self _) w)
      subst hvy
      clear ha hb hn hm h2 h3 h4 hv hb2 k1 k2 k3 hy
      go_enter Try.func52, Try.ntmps52
      go_wp2_with (first
        | ((with_reducible refine (C _).out.mono ?_); rintro e w1 ⟨rfl, rfl⟩)
        | ((with_reducible refine C2.out.mono ?_); rintro e w1 ⟨rfl, hq⟩; have HQ := Lib.hid hq; clear hq))
      go_ret
      exact ⟨rfl, HB.out.trans (HQ.out.mono HB.out.size)⟩
end Go.Proofs.Ytfklochgciijkaa

/-
  Layer 15 (know), the program: is knowledge right?
-/
namespace Go.Proofs.Ytfklochgciijkaa
open Go.RowKit

def chainR : Pc → List Pc → Bool
  | _, [] => true
  | p, q :: l => onePc q && (gapP p q && chainR q l)
theorem rightP_chain : ∀ (l : List Pc) (p : Pc), rightP (p :: l) = (onePc p && chainR p l)
  | [], p => (Bool.and_true _).symm
  | q :: l, p => by
    have h := rightP_chain l q
    show (onePc p && gapP p q && rightP (q :: l)) = (onePc p && (onePc q && (gapP p q && chainR q l)))
    rw [h]
    cases onePc p <;> cases gapP p q <;> cases onePc q <;> cases chainR q l <;> rfl
set_option maxRecDepth 100000 in
set_option maxHeartbeats 8000000 in
theorem kw_right (A : Option Addr) (c n : Nat) (k : List Pc) (hn : n = k.length) (v : Bool) (hv : rightP k = v) (w : World) (hr : RdPc w A c k) :
    Calls Try.prog 32 #[.slice A n c] w fun e w' => e = .returned (.bool v) ∧ Below w.heap.size w w' := by
  have HN := Lib.hid hn
  have HR := Lib.hid hr
  have HV := Lib.hid hv
  have hmx := hr.max hn
  have hcx : n ≤ c := by rw [hn]; exact hr.room
  clear hn hr hv
  go_enter Try.func32, Try.ntmps32
  go_wp2_with fail
  go_loopw [7] (fun i wr => ∃ j : Nat, j ≤ n ∧ i = .int .i64 j ∧ Hid ((j = 0 ∧ rightP k = v) ∨ ∃ i' p, j = i' + 1 ∧ k[i']? = some p ∧ chainR p (k.drop j) = v) ∧ Hid (Below w.heap.size w wr)) (fun i _ => n - (intOf i).toNat)
  case atStart => exact ⟨0, by omega, rfl, .inl ⟨rfl, HV.out⟩, Below.refl _ _⟩
  case round =>
    obtain ⟨j, hj, rfl, HL, HW⟩ := hrel
    by_cases hlt : j < n
    · obtain ⟨r, hg, hd, -⟩ := get_some (l := k) (k := j) (by have := HN.out; omega)
      obtain ⟨b, o, A1, n1, c1, S1, T1, q1, rfl, hb1, hIs1, hn1, hr1, p0, p1, p2, p3⟩ := (HR.out.call HW.out).at_ hg
      obtain ⟨z, hz⟩ : ∃ z, onePc r = z := ⟨_, rfl⟩
      obtain ⟨wb, hwb⟩ : ∃ wb, wr.alloc (.cells #[.string S1, .string T1, .bool q1, .slice A1 n1 c1] 69) = wb := ⟨_, rfl⟩
      have hbb : Below wr.heap.size wr wb := by rw [← hwb]; exact below_new _ _
      have CS := Lib.hid (fun (L : List (Addr × Value)) => fun (W : World) (hC : CellL wb L W) => (kw_right1 r S1 T1 q1 A1 c1 n1 ⟨hIs1, hn1⟩ z hz W ((hr1.call hbb).call (cellL_size hC))).mono fun (e' : Ending) (W' : World) ⟨h1, h2⟩ => (⟨h1, cellL_call h2 hC⟩ : e' = Ending.returned (.bool z) ∧ CellL wb L W'))
      have hnew := heap_new wr (.cells #[.string S1, .string T1, .bool q1, .slice A1 n1 c1] 69) _ rfl
      have t0 : wb.cell? ⟨wr.heap.size, 0, none⟩ = some (.string S1) := by rw [← hwb, cell_of_row _ _ _ _ _ _ hnew]; rfl
      have t1 : wb.cell? ⟨wr.heap.size, 1, none⟩ = some (.string T1) := by rw [← hwb, cell_of_row _ _ _ _ _ _ hnew]; rfl
      have t2 : wb.cell? ⟨wr.heap.size, 2, none⟩ = some (.bool q1) := by rw [← hwb, cell_of_row _ _ _ _ _ _ hnew]; rfl
      have t3 : wb.cell? ⟨wr.heap.size, 3, none⟩ = some (.slice A1 n1 c1) := by rw [← hwb, cell_of_row _ _ _ _ _ _ hnew]; rfl
      have HWB := Lib.hid (HW.out.trans (hbb.mono HW.out.size))
      have hj0 : (0 : Int) ≤ (j : Int) := by omega
      have hjn : (j : Int) < (n : Int) := by omega
      rcases HL.out with ⟨h0, hL⟩ | ⟨i, p, hi, hgi, hL⟩
      · subst h0
        rw [List.drop_zero] at hd
        have HF := Lib.hid (show (z && chainR r (k.drop (0 + 1))) = v by rw [hd, rightP_chain, hz] at hL; exact hL)
        have HNX := Lib.hid (fun (h : chainR r (k.drop (0 + 1)) = v) => show (0 + 1 = 0 ∧ rightP k = v) ∨ ∃ i' p, 0 + 1 = i' + 1 ∧ k[i']? = some p ∧ chainR p (k.drop (0 + 1)) = v from .inr ⟨0, r, rfl, hg, h⟩)
        rw [Nat.zero_mul, Nat.add_zero] at p0 p1 p2 p3
        have HC := Lib.hid (show CellL wb [(⟨wr.heap.size, 0, none⟩, .string S1), (⟨wr.heap.size, 1, none⟩, .string T1), (⟨wr.heap.size, 2, none⟩, .bool q1), (⟨wr.heap.size, 3, none⟩, .slice A1 n1 c1)] wb from ⟨t0, t1, t2, t3, Below.refl _ _⟩)
        clear hg hd hz hL HL hr1 hn1 hIs1 t0 t1 t2 t3 hnew hbb
        cases z
        all_goals
          go_upto_region 4 with fail
          refine q_region (CellL wb [(⟨wr.heap.size, 0, none⟩, .string S1), (⟨wr.heap.size, 1, none⟩, .string T1), (⟨wr.heap.size, 2, none⟩, .bool q1), (⟨wr.heap.size, 3, none⟩, .slice A1 n1 c1)]) (by kernel_rfl) (by kernel_rfl) (cellL_drew HC.out) ?_
          repeat (first
            | go_big_quiet_skip
            | (go_big_quiet_want; (first
              | (refine q_take (v := ?_) ?_ ?_; rotate_left; (focus (intro w hSw; (try simp only [CellL] at hSw); go_split_ands; go_simp; (try (rw [if_neg (by omega)])); (try with_reducible rfl); done)))
              | (refine q_call (CS.out _) ?_ ?_; (focus (intro w hSw; (try simp only [CellL] at hSw); go_split_ands; go_simp; (try (rw [if_neg (by omega)])); done)))); (try simp only [Act.put, List.setIfInBounds_toArray, List.set_cons_zero, List.set_cons_succ]); go_big_quiet_on))
          refine wpQuiet_nil ?_
          intro w2 hw2
          have HB2 := Lib.hid (HWB.out.trans ((cellL_size hw2).mono HWB.out.size))
          clear hw2
          go_wp2_with fail
          first
            | (go_ret; exact ⟨ret_bool (show false = v from HF.out), HB2.out⟩)
            | (go_roundw
               case rel => exact ⟨0 + 1, by omega, by go_num, HNX.out HF.out, HB2⟩
               case measure => simp [intOf]; omega)
      · subst hi
        obtain ⟨b', o', A2, n2, c2, S2, T2, q2, hA, hb2, hIs2, hn2, hr2, u0, u1, u2, u3⟩ := (HR.out.call HW.out).at_ hgi
        injection hA with hA
        injection hA with e1 e2
        subst e1 e2
        obtain ⟨y, hy⟩ : ∃ y, gapP p r = y := ⟨_, rfl⟩
        have CF := Lib.hid (fun (L : List (Addr × Value)) => fun (W : World) (hC : CellL wb L W) => (kw_follows p r S2 T2 S1 T1 q2 q1 A2 A1 c2 c1 n2 n1 ⟨hIs2, hn2⟩ ⟨hIs1, hn1⟩ y hy W ((hr2.call hbb).call (cellL_size hC)) ((hr1.call hbb).call (cellL_size hC))).mono fun (e' : Ending) (W' : World) ⟨h1, h2⟩ => (⟨h1, cellL_call h2 hC⟩ : e' = Ending.returned (.bool y) ∧ CellL wb L W'))
        have HF := Lib.hid (show (z && (y && chainR r (k.drop (i + 1 + 1)))) = v by rw [hd] at hL; rw [← hL, chainR, hz, hy])
        have HNX := Lib.hid (fun (h : chainR r (k.drop (i + 1 + 1)) = v) => show (i + 1 + 1 = 0 ∧ rightP k = v) ∨ ∃ i' p, i + 1 + 1 = i' + 1 ∧ k[i']? = some p ∧ chainR p (k.drop (i + 1 + 1)) = v from .inr ⟨i + 1, r, rfl, hg, h⟩)
        have hk1 : (0 : Int) ≤ (i : Int) + 1 := by omega
        have hkn1 : (i : Int) + 1 < (n : Int) := by omega
        have hi0 : (0 : Int) ≤ (i : Int) := by omega
        have hin : (i : Int) < (n : Int) := by omega
        have hid' : decide ((i : Int) < 0) = false := decide_eq_false (by omega)
        have hjg : decide ((0 : Int) < (i : Int) + 1) = true := decide_eq_true (by omega)
        have hjg2 : decide ((i : Int) + 1 > 0) = true := hjg
        have hjw : IntKind.i64.wrap ((i : Int) + 1 - 1) = (i : Int) := by rw [Int.add_sub_cancel]; exact IntWalk.i64_in _ (by omega)
        have hjw2 : IntKind.i64.wrap (i : Int) = (i : Int) := IntWalk.i64_in _ (by omega)
        have tr : ∀ x u, wr.cell? ⟨b, x, none⟩ = some u → wb.cell? ⟨b, x, none⟩ = some u := fun x u h => ((bcell hbb).1 _ _ (World.block_lt_of_cell? wr _ h)).trans h
        have u0 := tr _ _ u0
        have u1 := tr _ _ u1
        have u2 := tr _ _ u2
        have u3 := tr _ _ u3
        have HC := Lib.hid (show CellL wb [(⟨wr.heap.size, 0, none⟩, .string S1), (⟨wr.heap.size, 1, none⟩, .string T1), (⟨wr.heap.size, 2, none⟩, .bool q1), (⟨wr.heap.size, 3, none⟩, .slice A1 n1 c1), (⟨b, o + i * 4, none⟩, .string S2), (⟨b, o + i * 4 + 1, none⟩, .string T2), (⟨b, o + i * 4 + 2, none⟩, .bool q2), (⟨b, o + i * 4 + 3, none⟩, .slice A2 n2 c2)] wb from ⟨t0, t1, t2, t3, u0, u1, u2, u3, Below.refl _ _⟩)
        clear hg hgi hd hz hy hL HL hr1 hn1 hIs1 hr2 hn2 hIs2 t0 t1 t2 t3 u0 u1 u2 u3 tr hnew hbb
        cases z <;> cases y
        all_goals
          go_upto_region 4 with fail
          refine q_region (CellL wb [(⟨wr.heap.size, 0, none⟩, .string S1), (⟨wr.heap.size, 1, none⟩, .string T1), (⟨wr.heap.size, 2, none⟩, .bool q1), (⟨wr.heap.size, 3, none⟩, .slice A1 n1 c1), (⟨b, o + i * 4, none⟩, .string S2), (⟨b, o + i * 4 + 1, none⟩, .string T2), (⟨b, o + i * 4 + 2, none⟩, .bool q2), (⟨b, o + i * 4 + 3, none⟩, .slice A2 n2 c2)]) (by kernel_rfl) (by kernel_rfl) (cellL_drew HC.out) ?_
          repeat (first
            | go_big_quiet_skip
            | (go_big_quiet_want; (first
              | (refine q_take (v := ?_) ?_ ?_; rotate_left; (focus (intro w hSw; (try simp only [CellL] at hSw); go_split_ands; go_simp; (try (rw [if_neg (by omega)])); (try with_reducible rfl); done)))
              | (refine q_call (CS.out _) ?_ ?_; (focus (intro w hSw; (try simp only [CellL] at hSw); go_split_ands; go_simp; (try (rw [if_neg (by omega)])); done)))
              | (refine q_call (CF.out _) ?_ ?_; (focus (intro w hSw; (try simp only [CellL] at hSw); go_split_ands; go_simp; (try (rw [if_neg (by omega)])); done)))); (try simp only [Act.put, List.setIfInBounds_toArray, List.set_cons_zero, List.set_cons_succ]); go_big_quiet_on))
          refine wpQuiet_nil ?_
          intro w2 hw2
          have HB2 := Lib.hid (HWB.out.trans ((cellL_size hw2).mono HWB.out.size))
          clear hw2
          go_wp2_with fail
          first
            | (go_ret; exact ⟨ret_bool (show false = v from HF.out), HB2.out⟩)
            | (go_roundw
               case rel => exact ⟨i + 1 + 1, by omega, by go_num, HNX.out HF.out, HB2⟩
               case measure => simp [intOf]; omega)
    · have HF := Lib.hid (show true = v by
        rcases HL.out with ⟨h0, hL⟩ | ⟨i, p, hi, hgi, hL⟩
        · have : k = [] := List.eq_nil_of_length_eq_zero (by have := HN.out; omega)
          rw [← hL, this]; rfl
        · rw [← hL, List.drop_eq_nil_of_le (by have := HN.out; omega)]; rfl)
      go_wp2_with fail
      go_ret
      exact ⟨ret_bool HF.out, HW.out⟩
end Go.Proofs.Ytfklochgciijkaa

/-
  Layer 16 (kcode), the program: the bytes of sets and of knowledge.
-/
namespace Go.Proofs.Ytfklochgciijkaa
open Go.RowKit

theorem kIt_ints (l : List Int) : kIt.row l = ints l := by
  induction l with
  | nil => rfl
  | cons x l ih => rw [kIt.row_cons, ih]; rfl
theorem setL_len (n : Int) (s : List Kn) (h : ∀ k ∈ s, k.runs.length ≤ 4096) (hl : s.length ≤ 16) : (n :: s.flatMap knL).length ≤ 140000 := by
  have h1 := fcd_flat_len knL 8194 s fun y hy => knL_len (h y hy)
  have h2 : s.length * 8194 ≤ 16 * 8194 := Nat.mul_le_mul_right _ hl
  rw [List.length_cons]; omega
theorem kc_number (A : Option Addr) (c N : Nat) (b : List UInt8) (hN : N = b.length) (hl : N ≤ 1000000) (n : Nat) (x : Int) (hx : (n : Int) = x) (hn : n ≤ 281474976710656) (M : Nat) (R : List UInt8) (hR : b ++ putV n = R) (hM : M = R.length) (w : World) (hr : RdB w w.heap.size A c b) :
    Calls Try.prog 33 #[.slice A N c, .int .i64 x] w (RetO1 w M R) := by
  subst hx
  have HC := Lib.hid (fcd_put1 A (some ⟨w.heap.size, 0, none⟩) c N b hN hl n hn (w.alloc (.cells #[.int .i64 n] 3)) (by rw [size1]; exact (hr.below (below_new _ _)).more (by omega)) (by rw [size1]; exact int_row w n))
  have HB := Lib.hid (below_new w (.cells #[.int .i64 (n : Int)] 3))
  have HR := Lib.hid hR
  have HM := Lib.hid hM
  clear hN hl hr hR hM
  go_enter Try.func33, Try.ntmps33
  go_wp2_with ((with_reducible refine HC.out.mono ?_); rintro e w1 ⟨v1, rfl, hown, hq⟩; have HF := Lib.hid (retO1_of (w := w) HM.out (by rw [← HR.out]; exact hown.mono (by simp)) (HB.out.trans (hq.mono HB.out.size))); clear hown hq)
  go_ret
  exact HF.out
set_option maxHeartbeats 1000000 in
theorem kc_range (r : Rng) (S T : ByteArray) (o : Bool) (hr : IsR r S T o) (hl : r.lo.length ≤ 10000 ∧ r.hi.length ≤ 10000) (M : Nat) (R : List UInt8) (hR : rngB r = R) (hM : M = R.length) (w : World) :
    Calls Try.prog 34 #[.agg #[.string S, .string T, .bool o]] w (RetO1 w M R) := by
  obtain ⟨WB, hWB⟩ : ∃ WB, w.alloc (.cells #[.string S, .string T, .bool o] 67) = WB := ⟨_, rfl⟩
  have hg : RgAt WB w.heap.size S T o := hWB ▸ rgAt_new _ _ _ _ _
  have HB := Lib.hid (show Below w.heap.size w WB from hWB ▸ below_new _ _)
  have hlo := txtB_len9 r.lo (by omega)
  have hhi := txtB_len9 r.hi (by omega)
  obtain ⟨N, hN⟩ : ∃ N, N = (txtB r.lo).length := ⟨_, rfl⟩
  have C1 := Lib.hid (fcd_texts none (some ⟨WB.heap.size, 0, none⟩) 0 0 1 [] rfl [r.lo] rfl (by omega) N (txtB r.lo) (by rw [textsV_one]; rfl) hN (by omega) (WB.alloc (.cells #[.string S] 9)) (rdB_nil _ _) (by rw [size1]; exact str_row WB _ _ hr.lo))
  have HB1 := Lib.hid (HB.out.alloc HB.out.size (.cells #[.string S] 9))
  have HG := Lib.hid (hg.keep (.cells #[.string S] 9))
  obtain ⟨g0, g1, g2, gz⟩ := hg
  have HO := Lib.hid hr.op
  have HT := Lib.hid hr.hi
  have HN := Lib.hid hN
  have HL := Lib.hid (show N ≤ 20000 by omega)
  have HR := Lib.hid hR
  have HM := Lib.hid hM
  have HHI := Lib.hid hhi
  clear hr hR hM hN hlo hhi gz
  go_enter Try.func34, Try.ntmps34
  go_upto_region 2 with ((with_reducible refine C1.out.mono ?_); rintro e w9 ⟨A1, c1, rfl, -, hrd, hq⟩; replace HG := Lib.hid (HG.out.below hq); have HB9 := Lib.hid (HB1.out.trans (hq.mono HB1.out.size)); have H1 := Lib.hid hrd; clear hrd hq g0 g1 g2; obtain ⟨g0, g1, g2, gz⟩ := HG.out)
  clear C1 gz
  cases o
  · have HX : Hid (txtB r.lo ++ putV 0 ++ textsV [r.hi] = R) := by rw [← HR.out, textsV_one, putV_zero]; unfold rngB; rw [HO.out]; simp [Hid]
    have C2 := fun (W : World) (h : RdB W W.heap.size A1 c1 (txtB r.lo)) => Lib.hid (kc_number A1 c1 N (txtB r.lo) HN.out (by have := HL.out; omega) 0 0 rfl (by omega) (N + 1) (txtB r.lo ++ putV 0) rfl (by rw [List.length_append, HN.out, putV_zero]; rfl) W h)
    have hM9 : M ≤ 1000000 := by
      have h1 := congrArg List.length HX.out
      rw [textsV_one, putV_zero, List.length_append, List.length_append, ← HN.out, ← HM.out, List.length_singleton] at h1
      have := HHI.out
      have := HL.out
      omega
    have C3 := fun (W : World) (A2 A3 : Option Addr) (c3 : Nat) (h : RdB W W.heap.size A3 c3 (txtB r.lo ++ putV 0)) (g : RowAt W W.heap.size A2 (strs [r.hi])) => Lib.hid (fcd_texts A3 A2 c3 (N + 1) 1 (txtB r.lo ++ putV 0) (by rw [List.length_append, HN.out, putV_zero]; rfl) [r.hi] rfl (by omega) M R HX.out HM.out hM9 W h g)
    have HST := fun W : World => Lib.hid (str_row W r.hi T HT.out)
    have HRA := fun W : World => Lib.hid (str_row W r.hi T HT.out)
    go_upto_region 4 with fail
    go_region_law (first
      | (go_simp; (with_reducible refine (C3 _ (some ⟨w8.heap.size, 0, none⟩) A8 c8 (rdB_call H8.out (below_new w8 _)) (by rw [size1]; exact (HST w8).out)).out.mono ?_); rintro e w7 ⟨A7, c7, rfl, ho, hrd, hq⟩; have HF := Lib.hid (retO1_of (w := w) HM.out (OwnB.mono ho (Nat.le_trans HB8.out.size (by simp))) (HB8.out.trans (((below_new w8 _).trans (hq.mono (by simp))).mono HB8.out.size))); clear ho hrd hq)
      | (go_simp; (with_reducible refine (C3 _ (some ⟨w9.heap.size, 0, none⟩) A8 c8 H8.out HR8.out).out.mono ?_); rintro e w7 ⟨A7, c7, rfl, ho, hrd, hq⟩; have HF := Lib.hid (retO1_of (w := w) HM.out (OwnB.mono ho HB8.out.size) (HB8.out.trans (hq.mono HB8.out.size))); clear ho hrd hq)
      | (go_simp; (with_reducible refine (C2 _ H1.out.drew).out.mono ?_); rintro e w8 ⟨A8, c8, rfl, -, hrd, hq⟩; have HB8 := Lib.hid (HB9.out.drew.trans (hq.mono HB9.out.size)); have H8 := Lib.hid hrd; have hg8 := HG.out.drew.below hq; clear g0 g1 g2; obtain ⟨g0, g1, g2, -⟩ := hg8; clear hrd hq)
      | (go_simp; (with_reducible refine (C2 _ (rdB_call H1.out (below_new w9 (.cells #[.string T] 9))).drew).out.mono ?_); rintro e w8 ⟨A8, c8, rfl, -, hrd, hq⟩; have HB8 := Lib.hid ((HB9.out.alloc HB9.out.size (.cells #[.string T] 9)).drew.trans (hq.mono (Nat.le_trans HB9.out.size (by simp)))); have H8 := Lib.hid hrd; have HR8 := Lib.hid ((RowAt.below (HST w9).out ((Below.refl _ _).drew.trans (hq.mono (by simp)))).more (by have := hq.size; simp at this; exact this)); clear hrd hq))
    all_goals
      go_wp2_with fail
      go_ret
      exact HF.out
  · have HX : Hid (txtB r.lo ++ putV 1 = R) := by rw [← HR.out, putV_one]; unfold rngB; rw [HO.out]; exact Lib.hid rfl
    have C2 := Lib.hid (kc_number A1 c1 N (txtB r.lo) HN.out (by have := HL.out; omega) 1 1 rfl (by omega) M R HX.out HM.out w9 H1.out)
    go_wp2_with ((with_reducible refine C2.out.mono ?_); rintro e w8 ⟨A8, c8, rfl, ho, hrd, hq⟩; have HF := Lib.hid (retO1_of (w := w) HM.out (OwnB.mono ho HB9.out.size) (HB9.out.trans (hq.mono HB9.out.size))); clear ho hrd hq)
    go_ret
    exact HF.out
theorem put_all (l : List Int) (hok : okL l = true) (hl : l.length ≤ 1000000) (L : List UInt8) (hL : putsV l = L) (A2 : Option Addr) (n2 c2 : Nat) (h2 : n2 = l.length) (w : World) (h3 : kIt.Rd w w.heap.size A2 c2 l) :
    Calls Try.prog 24 #[.slice none 0 0, .slice A2 n2 c2] w (RetB2 w.heap.size w L) := by
  subst hL
  refine Calls.mono (varint_put none 0 w.heap.size [] A2 n2 c2 l w h2 (rdB_nil _ _) (kIt_ints l ▸ h3.row) (okL_all hok) (Nat.le_refl _) (by rw [List.length_nil]; omega)) fun e w' h => ?_
  rcases h with ⟨-, h⟩ | ⟨h, -⟩
  · exact h
  · rw [hok] at h; cases h
theorem cell_al {w : World} {p : Addr} {v : Value} (h : w.cell? p = some v) (o : Obj) : (w.alloc o).cell? p = some v := ((below_new w o).cell (World.block_lt_of_cell? w p h)).trans h
theorem kit_keep {w w' : World} {v v8 : Value} {b8 : Nat} {l : List Int} (h8 : kIt.Own w b8 v8 l) (hv : ∀ g, v.ownBlock = some g → g < b8) (hg : w.grownBy w' v.ownBlock) : kIt.Own w' b8 v8 l :=
  h8.kept hg (by
    cases e8 : v8.ownBlock with
    | none => exact .inl rfl
    | some g8 => exact .inr fun e => by have h1 := hv g8 e.symm; have h2 := (h8.lt g8 e8).1; omega)
/-- Bytes of the call's own, and no error. -/
def RetBO (w : World) (N : Nat) (l : List UInt8) (e : Ending) (w' : World) : Prop := ∃ A c, e = .returned (.tuple #[.slice A N c, .int .i64 0]) ∧ OwnB w' w.heap.size (.slice A N c) l ∧ Below w.heap.size w w'
theorem RetBO.to {w w' : World} {N : Nat} {l : List UInt8} {e : Ending} (hN : N = l.length) (h : RetBO w N l e w') : RetBX w N 0 l e w' := by
  obtain ⟨A, c, h1, h2, h3⟩ := h
  obtain ⟨A2, c2, hv, h4⟩ := h2.read_n hN
  injection hv with i1 i2 i3
  subst i1 i3
  exact ⟨A, c, h1, h4, h3⟩
set_option maxRecDepth 100000 in
set_option maxHeartbeats 8000000 in
theorem kc_set (A : Option Addr) (c n : Nat) (s : List Kn) (hn : n = s.length) (hsm : ∀ k ∈ s, k.runs.length ≤ 4096) (hrs : rightS s = true) (N : Nat) (L : List UInt8) (hL : setB s = L) (hN : L.length = N) (w : World) (hr : RdK w w.heap.size A c s) :
    Calls Try.prog 8 #[.slice A n c] w (RetBO w N L) := by
  have HR := Lib.hid hr
  have HN := Lib.hid hn
  have HSM := Lib.hid (smallKn_of hrs hsm)
  have HSM2 := Lib.hid hsm
  have hn16 : n ≤ 16 := by rw [hn]; exact rightS_len hrs
  have CR := Lib.hid (vs_right A c n s hn true hrs w hr)
  have CP := fun (w' : World) (A2 : Option Addr) (c2 n2 : Nat) (h2 : n2 = ((n : Int) :: s.flatMap knL).length) (h3 : kIt.Rd w' w'.heap.size A2 c2 ((n : Int) :: s.flatMap knL)) => Lib.hid (put_all ((n : Int) :: s.flatMap knL) (by rw [hn]; exact setL_ok HSM.out (by omega)) (by have := setL_len (n : Int) s hsm (by omega); omega) L (by rw [hn, knL_set]; exact hL) A2 n2 c2 h2 w' h3)
  have HNN := Lib.hid hN
  have hcx : n ≤ c := by rw [hn]; exact hr.room
  clear hr hn hsm hrs hL hN
  go_enter Try.func8, Try.ntmps8
  go_upto_region 3 with ((with_reducible refine CR.out.mono ?_); rintro e w1 ⟨rfl, hq⟩; have HB1 := Lib.hid hq; clear hq)
  clear CR
  have HO1 := Lib.hid (show kIt.Own (w1.alloc (.cells #[.int .i64 (n : Int)] 3)) w.heap.size (.slice (some ⟨w1.heap.size, 0, none⟩) 1 1) [(n : Int)] from (it_own w1 n).mono HB1.out.size)
  have HB2 := Lib.hid (HB1.out.alloc HB1.out.size (.cells #[.int .i64 (n : Int)] 3))
  go_wp2_with fail
  go_loopw [4, 15] (fun v i wr => ∃ k : Nat, k ≤ n ∧ i = .int .i64 k ∧ Hid (kIt.Own wr w.heap.size v ((n : Int) :: (s.take k).flatMap knL)) ∧ Hid (Below w.heap.size w wr)) (fun _ i _ => n - (intOf i).toNat)
  case atStart => exact ⟨0, by omega, rfl, by rw [List.take_zero, List.flatMap_nil]; exact HO1, HB2⟩
  case round =>
    clear HO1 HB1 HB2
    obtain ⟨k, hk, rfl, HO, HB⟩ := hrel
    by_cases hlt : k < n
    · obtain ⟨b, o, hA, hb1, hcell⟩ := knowns_at HR.out (by have := HN.out; omega)
      subst hA
      obtain ⟨x, hg, -, hmem⟩ := cnt_get (l := s) (k := k) (by have := HN.out; omega)
      obtain ⟨A', n', c', hn', hrr, d0, d1⟩ := hcell k x hg
      obtain ⟨s1, s2, s3, s4⟩ := HSM.out x hmem
      have HX : Hid ((n : Int) :: (s.take (k + 1)).flatMap knL = ((n : Int) :: (s.take k).flatMap knL) ++ [x.rep, (n' : Int)] ++ stepsL 0 x.runs) := Lib.hid (by
        rw [fcd_flat_next knL hg, knL, hn']; simp)
      have hm0 : ((n : Int) :: (s.take k).flatMap knL).length ≤ 140000 := setL_len _ _ (fun y hy => HSM2.out y (take_mem hy)) (by rw [List.length_take]; omega)
      obtain ⟨M, hM⟩ : ∃ M, (n : Int) :: (s.take k).flatMap knL = M := ⟨_, rfl⟩
      rw [hM] at HO HX hm0
      obtain ⟨R, hR⟩ : ∃ R, x.rep = R := ⟨_, rfl⟩
      rw [hR] at d0 HX s1 s2
      have hn9 : n' ≤ 4096 := by omega
      have KS := fun (w' : World) (hb : Below w.heap.size w w') => Lib.hid (kc_steps A' c' n' x.runs hn' hn9 s3 (2 * n') rfl w' (hrr.below hb |>.more hb.size))
      obtain ⟨Q, hQ⟩ : ∃ Q, stepsL 0 x.runs = Q := ⟨_, rfl⟩
      have hQl : Q.length = 2 * n' := by rw [← hQ, stepsL_len, hn']
      rw [hQ] at KS HX
      have HQL := Lib.hid hQl
      have HL1 := Lib.hid (show M.length + [R, (n' : Int)].length ≤ 1000000 by rw [List.length_cons, List.length_cons, List.length_nil]; omega)
      have HL2 := Lib.hid (show (M ++ [R, (n' : Int)]).length + Q.length ≤ 1000000 by rw [List.length_append, List.length_cons, List.length_cons, List.length_nil]; omega)
      have c0 := ((bcell HB.out).1 _ _ hb1).trans d0
      have c1 := ((bcell HB.out).1 _ _ hb1).trans d1
      clear d0 d1 hcell hg hmem hM hR hQ hQl hrr s3 hn' s4 hm0 s1 s2
      have hk2 : (0 : Int) ≤ (k : Int) := by omega
      have hkn2 : (k : Int) < (n : Int) := by omega
      have hn'9 : ¬ (4096 : Int) < (n' : Int) := by omega
      obtain ⟨w9, hw9⟩ : ∃ w9, w9 = wr.alloc (.cells #[.int .i64 R, .slice A' n' c'] 52) := ⟨_, rfl⟩
      have HG := Lib.hid (show KnAt w9 wr.heap.size R (.slice A' n' c') by rw [hw9]; exact knAt_new _ _ _ _)
      have HO9 := Lib.hid (show kIt.Own w9 w.heap.size u4 M by rw [hw9]; exact HO.out.alloc _)
      have HB9 := Lib.hid (show Below w.heap.size w w9 by rw [hw9]; exact HB.out.alloc HB.out.size _)
      go_upto_region 7 with fail
      rw [← hw9]
      have HVO := Lib.hid (fun g (hg : u4.ownBlock = some g) => (HO.out.lt g hg).2)
      have HTW := Lib.hid HG.out.lt
      clear hw9 HO HB
      obtain ⟨g0, g1, -⟩ := HG.out
      go_upto_region 9 with fail
      have HGd := Lib.hid (show KnAt w9.drew wr.heap.size R (.slice A' n' c') from HG.out)
      have HB0 := Lib.hid (show Below w.heap.size w w9.drew from HB9.out.drew)
      have HO0 := Lib.hid (show kIt.Own w9.drew w.heap.size u4 M from HO9.out)
      have HB1 := Lib.hid (HB0.out.alloc HB0.out.size (.cells #[.int .i64 R, .int .i64 (n' : Int)] 3))
      have HO1 := Lib.hid (HO0.out.alloc (.cells #[.int .i64 R, .int .i64 (n' : Int)] 3))
      have HR1 := Lib.hid (it_two w9.drew R (n' : Int))
      have HVT := Lib.hid (show (some wr.heap.size : Option Nat) ≠ u4.ownBlock from fun e => Nat.lt_irrefl _ (HVO.out _ e.symm))
      clear HG HO9 HB9
      obtain ⟨N8, hN8⟩ : ∃ N8, N8 = 2 * n' := ⟨_, rfl⟩
      rw [← hN8] at KS
      have HN8 := Lib.hid (hN8.trans HQL.out.symm)
      clear hN8
      go_region_held3 (fun w' => w'.cell? ⟨wr.heap.size, 0, none⟩ = some (.int .i64 R) ∧ w'.cell? ⟨wr.heap.size, 1, none⟩ = some (.slice A' n' c')) (first | (exact ⟨by assumption, by assumption⟩) | (exact ⟨cell_al g0 _, cell_al g1 _⟩) | go_keep)
        (first
          | (refine step_app_k kIt rfl (.tmp 23) (.tmp 29) rfl w.heap.size _ M rfl HO1.out _ (some ⟨w9.heap.size, 0, none⟩) 2 2 [R, (n' : Int)] rfl rfl HR1.out HL1.out (by decide) HB1.out.size ?_; intro v3 w3 hown3 hg3 hb3 hv3; have HVF := Lib.hid (own_off (fun g hg => Nat.ne_of_lt (HVO.out g hg)) hv3 (HGd.out.alloc _).lt); clear hv3; have HOA := Lib.hid hown3; have HBA := Lib.hid (HB1.out.trans hb3); have HGA := Lib.hid ((HGd.out.alloc _).grown hg3 HVT.out); clear hown3 hg3 hb3 g0 g1; obtain ⟨g0, g1, -⟩ := HGA.out)
          | (refine step_app_k kIt rfl (.tmp 23) (.tmp 29) rfl w.heap.size _ M rfl HO4.out _ (some ⟨w9.heap.size, 0, none⟩) 2 2 [R, (n' : Int)] rfl rfl HRW4.out HL1.out (by decide) HB4.out.size ?_; intro v3 w3 hown3 hg3 hb3 hv3; have HVF := Lib.hid (own_off (fun g hg => Nat.ne_of_lt (HVO.out g hg)) hv3 HG4.out.lt); clear hv3; have HOF := Lib.hid hown3; have HBF := Lib.hid (HB4.out.trans hb3); have HRF := Lib.hid (kit_keep HR4.out HV4.out hg3); have HGA := Lib.hid (HG4.out.grown hg3 HVT.out); clear hown3 hg3 hb3 g0 g1; obtain ⟨g0, g1, -⟩ := HGA.out)
          | (refine step_app_k kIt rfl (.tmp 23) (.tmp 29) rfl w.heap.size _ M rfl (Kind.Own.alloc HO4.out _) _ (some ⟨w4.heap.size, 0, none⟩) 2 2 [R, (n' : Int)] rfl rfl (it_two w4 R (n' : Int)) HL1.out (by decide) (le_alloc HB4.out.size _) ?_; intro v3 w3 hown3 hg3 hb3 hv3; have HVF := Lib.hid (own_off (fun g hg => Nat.ne_of_lt (HVO.out g hg)) hv3 (HG4.out.alloc _).lt); clear hv3; have HOF := Lib.hid hown3; have HBF := Lib.hid ((HB4.out.alloc HB4.out.size _).trans hb3); have HRF := Lib.hid (kit_keep (Kind.Own.alloc HR4.out _) HV4.out hg3); have HGA := Lib.hid ((HG4.out.alloc _).grown hg3 HVT.out); clear hown3 hg3 hb3 g0 g1; obtain ⟨g0, g1, -⟩ := HGA.out)
          | (go_at_call 23; (with_reducible refine (KS _ HBA.out).out.mono ?_); rintro e4 w4 ⟨A8, c8, rfl, hown, hq⟩; have HRF := Lib.hid hown; have HOF := Lib.hid (HOA.out.below hq); have HBF := Lib.hid (HBA.out.trans (hq.mono HBA.out.size)); replace HGA := Lib.hid (HGA.out.under hq HGA.out.lt); clear hown hq g0 g1; obtain ⟨g0, g1, -⟩ := HGA.out)
          | (go_at_call 23; (with_reducible refine (KS _ HB1.out).out.mono ?_); rintro e4 w4 ⟨A8, c8, rfl, hown, hq⟩; have HR4 := Lib.hid hown; have HO4 := Lib.hid (HO1.out.below hq); have HRW4 := Lib.hid (HR1.out.below (hq.mono (by simp))); have HB4 := Lib.hid (HB1.out.trans (hq.mono HB1.out.size)); have HV4 := Lib.hid (fun g (hg : u4.ownBlock = some g) => Nat.lt_trans (HVO.out g hg) (Nat.lt_succ_of_lt HTW.out)); have HG4 := Lib.hid ((HGd.out.alloc (.cells #[.int .i64 R, .int .i64 (n' : Int)] 3)).under hq (HGd.out.alloc _).lt); clear hown hq g0 g1; obtain ⟨g0, g1, -⟩ := HG4.out)
          | (go_at_call 23; (with_reducible refine (KS _ HB0.out).out.mono ?_); rintro e4 w4 ⟨A8, c8, rfl, hown, hq⟩; have HR4 := Lib.hid hown; have HO4 := Lib.hid (HO0.out.below hq); have HB4 := Lib.hid (HB0.out.trans (hq.mono HB0.out.size)); have HV4 := Lib.hid (fun g (hg : u4.ownBlock = some g) => Nat.lt_trans (HVO.out g hg) HTW.out); have HG4 := Lib.hid (HGd.out.under hq HGd.out.lt); clear hown hq g0 g1; obtain ⟨g0, g1, -⟩ := HG4.out)
          | (refine step_app_k kIt rfl (.tmp 30) (.tmp 33) rfl w.heap.size _ (M ++ [R, (n' : Int)]) rfl HOF.out _ A8 c8 N8 Q HN8.out rfl HRF.out.rd.row HL2.out (by decide) HBF.out.size ?_; intro v5 w5 hown5 hg5 hb5 _; have HOZ := Lib.hid hown5; have HBZ := Lib.hid (HBF.out.trans hb5); have HGZ := Lib.hid (HGA.out.grown hg5 (fun e => HVF.out _ e.symm rfl)); clear hown5 hg5 hb5 g0 g1; obtain ⟨g0, g1, -⟩ := HGZ.out))
      all_goals
        go_wp2_with fail
        go_roundw
        case rel => exact ⟨k + 1, by omega, by go_num, by rw [HX.out]; exact HOZ, HBZ⟩
        case measure => simp [intOf]; omega
    · have hkn : s.take k = s := List.take_of_length_le (by have := HN.out; omega)
      rw [hkn] at HO
      obtain ⟨N7, hN7⟩ : ∃ N7, N7 = ((n : Int) :: s.flatMap knL).length := ⟨_, rfl⟩
      obtain ⟨A7, c7, rfl, hrd7⟩ := HO.out.read_n hN7
      have C := CP wr A7 c7 N7 hN7 hrd7
      clear CP hN7 hrd7 HO
      go_wp2_with ((with_reducible refine C.out.mono ?_); rintro e w2 ⟨v2, rfl, hown, hq⟩; obtain ⟨A2, c2, rfl, -⟩ := hown.read_n HNN.out.symm; have HF := Lib.hid (hown.mono (base' := w.heap.size) HB.out.size); have HBZ := Lib.hid (HB.out.trans (hq.mono HB.out.size)); clear hown hq)
      go_ret2
      exact ⟨A2, c2, rfl, HF.out, HBZ.out⟩
set_option maxHeartbeats 1000000 in
theorem kc_set_no (A : Option Addr) (c n : Nat) (s : List Kn) (hn : n = s.length) (hrs : rightS s = false) (w : World) (hr : RdK w w.heap.size A c s) :
    Calls Try.prog 8 #[.slice A n c] w (RetBX w 0 2 []) := by
  have CR := Lib.hid (vs_right A c n s hn false hrs w hr)
  clear hr hn hrs
  go_enter Try.func8, Try.ntmps8
  go_wp2_with ((with_reducible refine CR.out.mono ?_); rintro e w1 ⟨rfl, hq⟩; have HB1 := Lib.hid hq; clear hq)
  go_ret2
  exact ⟨none, 0, rfl, rdB_nil _ _, HB1.out⟩
theorem ob_rd {w : World} {base n c : Nat} {A : Option Addr} {l : List UInt8} (h : OwnB w base (.slice A n c) l) (hn : n = l.length) : RdB w w.heap.size A c l := by
  obtain ⟨A2, c2, hv, h4⟩ := h.read_n hn
  injection hv with i1 i2 i3
  subst i1 i3
  exact h4
theorem ob_keep {w w' : World} {v v8 : Value} {b8 : Nat} {l : List UInt8} (h8 : OwnB w b8 v8 l) (hv : ∀ g, v.ownBlock = some g → g < b8) (hg : w.grownBy w' v.ownBlock) : OwnB w' b8 v8 l :=
  h8.kept hg (by
    cases e8 : v8.ownBlock with
    | none => exact .inl rfl
    | some g8 => exact .inr fun e => by have h1 := hv g8 e.symm; have h2 := (h8.lt g8 e8).1; omega)
set_option maxRecDepth 100000 in
set_option maxHeartbeats 8000000 in
theorem kc_know (A : Option Addr) (c n : Nat) (l : List Pc) (hn : n = l.length) (hn9 : n ≤ 4096) (hsm : ∀ p ∈ l, ∀ x ∈ p.set, x.runs.length ≤ 4096) (hrp : rightP l = true) (N : Nat) (L : List UInt8) (hL : knowB l = L) (hN : L.length = N) (w : World) (hr : RdPc w A c l) :
    Calls Try.prog 15 #[.slice A n c] w (RetBO w N L) := by
  have HR := Lib.hid hr
  have HN := Lib.hid hn
  have HSM := Lib.hid (show ∀ p ∈ l, smallPc p from fun p hp => ⟨rightP_all hrp p hp, hsm p hp⟩)
  have CR := Lib.hid (kw_right A c n l hn true hrp w hr)
  obtain ⟨M1, hM1⟩ : ∃ M1, M1 = (putV n).length := ⟨_, rfl⟩
  have h9 := putV_len10 n (by omega)
  have C0 := fun w' => Lib.hid (kc_number none 0 0 [] rfl (by omega) n (n : Int) rfl (by omega) M1 (putV n) rfl hM1 w' (rdB_nil _ _))
  have HLL := Lib.hid (show putV n ++ l.flatMap pieceB = L by rw [hn]; exact hL)
  have HNN := Lib.hid hN
  have hcx : n ≤ c := by rw [hn]; exact hr.room
  have hn4 : ¬ (4096 : Int) < (n : Int) := by omega
  have hn5 : decide (4096 < n) = false := decide_eq_false (by omega)
  clear hr hn hsm hrp hL hN hM1
  go_enter Try.func15, Try.ntmps15
  go_upto_region 4 with (first
    | ((with_reducible refine CR.out.mono ?_); rintro e w1 ⟨rfl, hq⟩; have HB1 := Lib.hid hq; clear hq)
    | ((with_reducible refine (C0 _).out.mono ?_); rintro e w2 ⟨A1, c1, rfl, hown1, -, hq⟩; have HO1 := Lib.hid (hown1.mono (base' := w.heap.size) HB1.out.size); have HB2 := Lib.hid (HB1.out.trans (hq.mono HB1.out.size)); clear hown1 hq))
  clear CR C0
  go_wp2_with fail
  go_loopw [4, 22] (fun v i wr => ∃ k : Nat, k ≤ n ∧ i = .int .i64 k ∧ Hid (OwnB wr w.heap.size v (putV n ++ (l.take k).flatMap pieceB)) ∧ Hid (Below w.heap.size w wr)) (fun _ i _ => n - (intOf i).toNat)
  case atStart => exact ⟨0, by omega, rfl, by rw [List.take_zero, List.flatMap_nil, List.append_nil]; exact HO1, HB2⟩
  case round =>
    clear HO1 HB1 HB2
    obtain ⟨k, hk, rfl, HO, HB⟩ := hrel
    by_cases hlt : k < n
    · obtain ⟨p, hg, -, hmem⟩ := cnt_get (l := l) (k := k) (by have := HN.out; omega)
      obtain ⟨b, o, A', n', c', S, T, q, hA, hb1, hIs, hn', hset, d0, d1, d2, d3⟩ := HR.out.at_ hg
      subst hA
      have hsp := HSM.out p hmem
      obtain ⟨p1, -, p3⟩ := onePc_iff.1 hsp.1
      have HX : Hid (putV n ++ (l.take (k + 1)).flatMap pieceB = (putV n ++ (l.take k).flatMap pieceB) ++ rngB p.rng ++ setB p.set) := Lib.hid (by rw [fcd_flat_next pieceB hg]; unfold pieceB; simp)
      have hm0 : (putV n ++ (l.take k).flatMap pieceB).length ≤ 40000000009 := by
        have := fcd_flat_len pieceB 4000000 (l.take k) (fun x hx => pieceB_len (HSM.out x (take_mem hx)))
        have h2 : (l.take k).length ≤ 4096 := by rw [List.length_take]; omega
        have h3 : (l.take k).length * 4000000 ≤ 4096 * 4000000 := Nat.mul_le_mul_right _ h2
        rw [List.length_append]; omega
      have hm3 := setB_len p3 hsp.2
      have hlo : p.rng.lo.length ≤ 10000 ∧ p.rng.hi.length ≤ 10000 := ⟨by have := rightR_lo p1; omega, by have := rightR_hi p1; omega⟩
      have hm4 := rngB_len (r := p.rng) ⟨by omega, by omega⟩
      obtain ⟨M, hM⟩ : ∃ M, putV n ++ (l.take k).flatMap pieceB = M := ⟨_, rfl⟩
      rw [hM] at HO HX hm0
      obtain ⟨SB, hSB⟩ : ∃ SB, setB p.set = SB := ⟨_, rfl⟩
      obtain ⟨RB, hRB⟩ : ∃ RB, rngB p.rng = RB := ⟨_, rfl⟩
      obtain ⟨N8, hN8⟩ : ∃ N8, N8 = SB.length := ⟨_, rfl⟩
      obtain ⟨N7, hN7⟩ : ∃ N7, N7 = RB.length := ⟨_, rfl⟩
      have KS := fun w' (h : Below w.heap.size w w') => Lib.hid (kc_set A' c' n' p.set hn' hsp.2 p3 N8 SB hSB hN8.symm w' (hset.call h))
      have KG := fun w' => Lib.hid (kc_range p.rng S T q hIs hlo N7 RB hRB hN7 w')
      rw [hSB, hRB] at HX
      rw [hSB] at hm3
      rw [hRB] at hm4
      have HN8 := Lib.hid hN8
      have HN7 := Lib.hid hN7
      have HL1 := Lib.hid (show M.length + RB.length ≤ 140737488355328 by omega)
      have HL2 := Lib.hid (show (M ++ RB).length + SB.length ≤ 140737488355328 by rw [List.length_append]; omega)
      have c0 := ((bcell HB.out).1 _ _ hb1).trans d0
      have c1 := ((bcell HB.out).1 _ _ hb1).trans d1
      have c2 := ((bcell HB.out).1 _ _ hb1).trans d2
      have c3 := ((bcell HB.out).1 _ _ hb1).trans d3
      clear d0 d1 d2 d3 hg hmem hM hSB hRB hN8 hN7 hset p3 p1 hsp hm0 hm3 hm4 hlo hn' hIs h9
      have hk2 : (0 : Int) ≤ (k : Int) := by omega
      have hkn2 : (k : Int) < (n : Int) := by omega
      obtain ⟨w9, hw9⟩ : ∃ w9, w9 = wr.alloc (.cells #[.string S, .string T, .bool q, .slice A' n' c'] 69) := ⟨_, rfl⟩
      have HG := Lib.hid (show PcAt w9 wr.heap.size S T q (.slice A' n' c') by rw [hw9]; exact pcAt_new _ _ _ _ _ _)
      have HO9 := Lib.hid (show OwnB w9 w.heap.size u4 M by rw [hw9]; exact HO.out.alloc _)
      have HB9 := Lib.hid (show Below w.heap.size w w9 by rw [hw9]; exact HB.out.alloc HB.out.size _)
      go_upto_region 7 with fail
      rw [← hw9]
      have HVO := Lib.hid (fun g (hg : u4.ownBlock = some g) => Nat.lt_trans (HO.out.lt g hg).2 HG.out.lt)
      clear hw9 HO HB
      obtain ⟨g0, g1, g2, g3, -⟩ := HG.out
      go_wp2_with (first
        | ((with_reducible refine (KS _ HB9.out).out.mono ?_); rintro e w8 ⟨A8, c8, rfl, hown, hq⟩; have HS8 := Lib.hid hown; have HO8 := Lib.hid (HO9.out.below hq); have HB8 := Lib.hid (HB9.out.trans (hq.mono HB9.out.size)); have HG8 := Lib.hid (HG.out.grown (grown_of_below hq none) (by simp)); clear hown hq g0 g1 g2 g3; obtain ⟨g0, g1, g2, g3, -⟩ := HG8.out)
        | ((with_reducible refine (KG _).out.mono ?_); rintro e w7 ⟨A7, c7, rfl, -, hrd, hq⟩; have HR7 := Lib.hid hrd; have HS7 := Lib.hid (HS8.out.below hq); have HO7 := Lib.hid (HO8.out.below hq); have HB7 := Lib.hid (HB8.out.trans (hq.mono HB8.out.size)); clear hrd hq g0 g1 g2 g3)
        | (at_builtin; refine wpList_app_row rfl (.tmp 35) (.tmp 38) rfl w.heap.size _ M rfl HO7.out _ A7 c7 N7 RB HN7.out rfl HR7.out.row HL1.out HB7.out.size ?_; intro v3 w3 hown3 hg3 hb3 _; have HO3 := Lib.hid hown3; have HS3 := Lib.hid (ob_keep HS7.out HVO.out hg3); have HB3 := Lib.hid (HB7.out.trans hb3); clear hown3 hg3 hb3)
        | (at_builtin; refine wpList_app_row rfl (.tmp 39) (.tmp 40) rfl w.heap.size _ (M ++ RB) rfl HO3.out _ A8 c8 N8 SB HN8.out rfl (ob_rd HS3.out HN8.out).row HL2.out HB3.out.size ?_; intro v5 w5 hown5 hg5 hb5 _; have HO5 := Lib.hid hown5; have HB5 := Lib.hid (HB3.out.trans hb5); clear hown5 hg5 hb5))
      go_roundw
      case rel => exact ⟨k + 1, by omega, by go_num, by rw [HX.out]; exact HO5, HB5⟩
      case measure => simp [intOf]; omega
    · have hkn : l.take k = l := List.take_of_length_le (by have := HN.out; omega)
      rw [hkn, HLL.out] at HO
      obtain ⟨A5, c5, rfl, -⟩ := HO.out.read_n HNN.out.symm
      go_wp2_with fail
      go_ret2
      exact ⟨A5, c5, rfl, HO.out, HB.out⟩
set_option maxHeartbeats 1000000 in
theorem kc_know_no (A : Option Addr) (c n : Nat) (l : List Pc) (hn : n = l.length) (hn9 : n ≤ 4096) (hrp : rightP l = false) (w : World) (hr : RdPc w A c l) :
    Calls Try.prog 15 #[.slice A n c] w (RetBX w 0 2 []) := by
  have CR := Lib.hid (kw_right A c n l hn false hrp w hr)
  have hn4 : ¬ (4096 : Int) < (n : Int) := by omega
  have hn5 : decide (4096 < n) = false := decide_eq_false (by omega)
  clear hr hn hrp
  go_enter Try.func15, Try.ntmps15
  go_wp2_with ((with_reducible refine CR.out.mono ?_); rintro e w1 ⟨rfl, hq⟩; have HB1 := Lib.hid hq; clear hq)
  go_ret2
  exact ⟨none, 0, rfl, rdB_nil _ _, HB1.out⟩
end Go.Proofs.Ytfklochgciijkaa
