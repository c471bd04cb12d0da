/-
  Several texts in one: Law13H, VstM, VstL, VstQ, SpanD, RgsG, KnwL, KnwM, ShelfSortStr, KnwJ, KnwO, CutK.
-/
import Derived.Lib.SliceRun
import Derived.Deep.RegionHeld3
import Derived.Deep.RegionWith
import Derived.Shelf.Slices.CompactS
import Derived.Shelf.Slices.Cells
import Derived.Ground.SlsfProg
import Derived.Shelf.SlSortCmp.Insertion
import Derived.Shelf.SlSortCmp.SiftDown1
import Derived.Shelf.SlSortCmp.HeapSort1
import Derived.Shelf.SlSortCmp.Insertion1
import Derived.Shelf.SlSortCmp.Median1
import Derived.Shelf.SlSortCmp.Pivot1
import Derived.Shelf.SlSortCmp.ReverseRange1
import Derived.Shelf.SlSortCmp.PartialInsertion1
import Derived.Shelf.SlSortCmp.PartitionEqual1
import Derived.Shelf.SlSortCmp.Partition1
import Derived.Shelf.SlSortCmp.Pdq1
import Derived.Shelf.SlSortCmp.Whole1
import Derived.Shelf.SlSortCmp.NoneTotal
import Derived.Test.YtopjhebhdopjpaaGreatProg
import Derived.Sort.OwnSorted
import Derived.Lib.OwnBridge
import Derived.Test.YtopjhebhdopjpaaGreatMg13
namespace Go.Proofs.YtopjhebhdopjpaaGreat
open Go.RowKit

theorem clo_cunion (x y : Bool) (w : World) : Calls Tryz.prog 154 #[.bool x, .bool y] w fun e w' => e = .returned (.bool (x || y)) ∧ w = w' := by
  cases x <;> cases y
  all_goals
    go_enter Tryz.func154, Tryz.ntmps154
    go_wp2_with fail
    go_ret
    exact ⟨rfl, rfl⟩
theorem clo_cless (x y : Bool) (w : World) : Calls Tryz.prog 123 #[.bool x, .bool y] w fun e w' => e = .returned (.bool (x && !y)) ∧ w = w' := by
  cases x <;> cases y
  all_goals
    go_enter Tryz.func123, Tryz.ntmps123
    go_wp2_with fail
    go_ret
    exact ⟨rfl, rfl⟩
def CSetOC (F : FuncId) (op : Int) : Prop := ∀ (A B : Option Addr) (c d n m : Nat) (a b : List Rn), n = a.length → m = b.length → n ≤ 100000 → m ≤ 100000 → ∀ U, makeC op a b = U → ∀ N, U.length = N → ∀ w, kRn.Rd w w.heap.size A c a → kRn.Rd w w.heap.size B d b →
  Calls Tryz.prog F #[.slice A n c, .slice B m d] w (RetOC w N U)
theorem CSetOC.ret {F : FuncId} {op : Int} (h : CSetOC F op) : CSetC F op := fun A B c d n m a b hn hm h1 h2 U hU N hN w ha hb => (h A B c d n m a b hn hm h1 h2 U hU N hN w ha hb).mono fun _ _ h => h.ret
theorem k_cunion_own : CSetOC 132 1 := fun A B c d n m a b hn hm ha' hb' U hU N hN w ha hb => by
  have K := Lib.hid (cn_sweep 154 (fun x y => x || y) clo_cunion (enters_of Tryz.func154 (by kernel_rfl) rfl) 1 rfl A B c d n m a b (fun s => (gC1 _ _).symm) hn hm ha' hb' U hU N hN w ha hb)
  clear hn hm ha' hb' ha hb
  go_enter Tryz.func132, Tryz.ntmps132
  go_wp2_with ((with_reducible refine K.out.mono ?_); rintro e w1 ⟨A1, c1, rfl, hrd, hq⟩; have HR := Lib.hid hrd; clear hrd)
  go_ret
  exact ⟨A1, c1, rfl, HR.out, hq⟩
theorem k_cless_own : CSetOC 100 3 := fun A B c d n m a b hn hm ha' hb' U hU N hN w ha hb => by
  have K := Lib.hid (cn_sweep 123 (fun x y => x && !y) clo_cless (enters_of Tryz.func123 (by kernel_rfl) rfl) 3 rfl A B c d n m a b (fun s => (gC3 _ _).symm) hn hm ha' hb' U hU N hN w ha hb)
  clear hn hm ha' hb' ha hb
  go_enter Tryz.func100, Tryz.ntmps100
  go_wp2_with ((with_reducible refine K.out.mono ?_); rintro e w1 ⟨A1, c1, rfl, hrd, hq⟩; have HR := Lib.hid hrd; clear hrd)
  go_ret
  exact ⟨A1, c1, rfl, HR.out, hq⟩
theorem cn_clone (A : Option Addr) (c n : Nat) (l : List Rn) (hn : n = l.length) (hnl : n ≤ 100000) (w : World) (hr : kRn.Rd w w.heap.size A c l) :
    Calls Tryz.prog 67 #[.slice A n c] w fun e w' => ∃ v, e = .returned v ∧ kRn.Own w' w.heap.size v l ∧ Below w.heap.size w w' := by
  have qT : ∀ (w : World) (a : Option Addr) (n c n' c' : Nat), (binOp .eql 62 (.slice a n c) (.slice none n' c')).run Tryz.prog w = .ok (.bool a.isNone) w := fun w a n c n' c' => Lib.run_eql_slice_nil w _ _ a n c n' c' Tryz.underlying62
  cases A with
  | none =>
    obtain rfl := hr.none
    obtain rfl : n = 0 := hn
    clear hr
    go_enter Tryz.func67, Tryz.ntmps67
    go_wp2_with fail
    go_ret
    exact ⟨_, rfl, Kind.Own.nil _ _, Below.refl _ _⟩
  | some p =>
    have HO : Hid (kRn.Own (w.alloc (.cells #[] 105)) w.heap.size (.slice (some ⟨w.heap.size, 0, none⟩) 0 0) []) := by
      refine Kind.Own.of_row (n := 0) ⟨by simp [Kind.row], .inr ⟨w.heap.size, 0, #[], rfl, Nat.le_refl _, heap_new w _ _ rfl, Nat.le_refl _, Nat.zero_le _, by simp, by simp [Kind.row]⟩⟩
    have HB := Lib.hid (below_new w (.cells #[] 105))
    have HR := Lib.hid (hr.call HB.out).row
    have HN := Lib.hid hn
    have HL := Lib.hid (show ([] : List Rn).length + l.length ≤ 1000000 by rw [List.length_nil]; omega)
    have HS := Lib.hid HB.out.size
    clear hn hr
    go_enter Tryz.func67, Tryz.ntmps67
    go_wp2_with (at_builtin; refine wpList_app_k kRn rfl (.tmp 5) (.tmp 6) rfl w.heap.size _ [] rfl HO.out _ (some p) c n l HN.out rfl HR.out HL.out (by decide) HS.out ?_; intro v3 w3 hown3 hg3 hb3 _; have HO3 := Lib.hid hown3; have HB3 := Lib.hid (HB.out.trans hb3); clear hown3 hb3 hg3)
    go_ret
    exact ⟨_, rfl, HO3.out, HB3.out⟩
end Go.Proofs.YtopjhebhdopjpaaGreat

namespace Go.Proofs.YtopjhebhdopjpaaGreat
open Go.RowKit

structure PutAt (w0 : World) (g : Nat) (w : World) (V : Nat → Value) (L : Nat → List Rn) : Prop where
  all : GrAt w g V
  rows : RowsG w w0.heap.size V L
  off : ∀ j, j < 16 → (V j).ownBlock ≠ some g
  low : Below w0.heap.size w0 w
  ge : w0.heap.size ≤ g
theorem PutAt.below {w0 w w' : World} {g : Nat} {V : Nat → Value} {L : Nat → List Rn} (h : PutAt w0 g w V L) (hb : Below w.heap.size w w') : PutAt w0 g w' V L := ⟨h.all.below hb, h.rows.below hb, h.off, h.low.trans (hb.mono h.low.size), h.ge⟩
theorem PutAt.congr {w0 w : World} {g : Nat} {V : Nat → Value} {L M : Nat → List Rn} (h : PutAt w0 g w V L) (e : ∀ k, k < 16 → M k = L k) : PutAt w0 g w V M := ⟨h.all, h.rows.congr e, h.off, h.low, h.ge⟩
theorem PutAt.congrV {w0 w : World} {g : Nat} {V W : Nat → Value} {L : Nat → List Rn} (h : PutAt w0 g w V L) (e : ∀ k, k < 16 → W k = V k) : PutAt w0 g w W L := ⟨h.all.congr e, h.rows.congrV e, fun j hj => by rw [e j hj]; exact h.off j hj, h.low, h.ge⟩
theorem putAt_new {w0 w : World} {V : Nat → Value} {L : Nat → List Rn} (h : RowsG w w0.heap.size V L) (hb : Below w0.heap.size w0 w) (t : TypeId) : PutAt w0 w.heap.size (w.alloc (grO V t)) V L :=
  ⟨grAt_new w V t, h.alloc _, fun j hj e => by have := ((h.own j hj).lt _ e).2; omega, hb.alloc hb.size _, hb.size⟩
theorem PutAt.mid {w0 w w' : World} {g : Nat} {V : Nat → Value} {L : Nat → List Rn} (h : PutAt w0 g w V L) {j : Nat} (hj : j < 16) (hg : w.grownBy w' (V j).ownBlock) : GrAt w' g V := h.all.grown hg fun e => h.off j hj e.symm
theorem PutAt.app {w0 w w' : World} {g : Nat} {V : Nat → Value} {L : Nat → List Rn} {v' : Value} {l : List Rn} (h : PutAt w0 g w V L) {j : Nat} (hj : j < 16) (ho : kRn.Own w' w0.heap.size v' l) (hg : w.grownBy w' (V j).ownBlock) (hv : v'.ownBlock = (V j).ownBlock ∨ v'.ownBlock = some w.heap.size) :
    PutAt w0 g (w'.setCell ⟨g, j, none⟩ v') (upd V j v') (upd L j l) := by
  have hr := h.rows.app hj ho hg hv
  have ho' := RowsG.upd_off h.off h.all.lt hv hj
  exact ⟨(h.mid hj hg).set hj _, hr.set ho' _, ho', ((h.low.grown hg h.low.size fun g e => ((h.rows.own j hj).lt g e).1)).setCell (p := ⟨g, j, none⟩) h.ge _, h.ge⟩
structure OrdAt (w0 : World) (g B : Nat) (w : World) (k : Nat) (VO VN : Nat → Value) (L M : Nat → List Rn) : Prop where
  all : GrAt w g (fun j => if j < k then VN j else VO j)
  old : RowsG w w0.heap.size VO L
  off : ∀ j, j < 16 → (VO j).ownBlock ≠ some g
  new : RowsG w B VN (fun j => if j < k then M j else [])
  low : Below w0.heap.size w0 w
  ge : w0.heap.size ≤ g
  lt : g < B
  le : B ≤ w.heap.size
theorem PutAt.ord {w0 w : World} {g : Nat} {V : Nat → Value} {L : Nat → List Rn} (h : PutAt w0 g w V L) (M : Nat → List Rn) : OrdAt w0 g w.heap.size w 0 V (fun _ => .slice none 0 0) L M :=
  ⟨h.all.congr fun k _ => if_neg (by omega), h.rows, h.off, (rowsG_nil _ _).congr fun k _ => if_neg (by omega), h.low, h.ge, h.all.lt, Nat.le_refl _⟩
theorem OrdAt.below {w0 w w' : World} {g B k : Nat} {VO VN : Nat → Value} {L M : Nat → List Rn} (h : OrdAt w0 g B w k VO VN L M) (hb : Below w.heap.size w w') : OrdAt w0 g B w' k VO VN L M :=
  ⟨h.all.below hb, h.old.below hb, h.off, h.new.below hb, h.low.trans (hb.mono h.low.size), h.ge, h.lt, Nat.le_trans h.le hb.size⟩
theorem OrdAt.next {w0 w w' : World} {g B k : Nat} {VO VN : Nat → Value} {L M : Nat → List Rn} {v' : Value} (h : OrdAt w0 g B w k VO VN L M) (hk : k < 16) (ho : kRn.Own w' w.heap.size v' (M k)) (hb : Below w.heap.size w w') : OrdAt w0 g B (w'.setCell ⟨g, k, none⟩ v') (k + 1) VO (upd VN k v') L M := by
  have hr := h.new.new hk ho hb h.le
  have h1 := h.below hb
  refine ⟨(h1.all.set hk v').congr fun j _ => ?_, h1.old.set h.off _, h.off, (hr.set (hr.low h.lt) _).congr fun j _ => ?_, h1.low.setCell (p := ⟨g, k, none⟩) h.ge _, h.ge, h.lt, ?_⟩
  · by_cases e : j = k
    · subst e; rw [upd_at]; rw [if_pos (by omega), upd_at]
    · rw [upd_far (fun j => if j < k then VN j else VO j) _ e, upd_far VN _ e]
      by_cases h2 : j < k
      · rw [if_pos h2, if_pos (by omega)]
      · rw [if_neg h2, if_neg (by omega)]
  · by_cases e : j = k
    · subst e; rw [upd_at]; exact if_pos (by omega)
    · rw [upd_far _ _ e]
      by_cases h2 : j < k
      · show (if j < k + 1 then M j else []) = if j < k then M j else []
        rw [if_pos h2, if_pos (by omega)]
      · show (if j < k + 1 then M j else []) = if j < k then M j else []
        rw [if_neg h2, if_neg (by omega)]
  · exact Nat.le_trans h1.le (by simp)
theorem OrdAt.fin {w0 w : World} {g B : Nat} {VO VN : Nat → Value} {L M : Nat → List Rn} (h : OrdAt w0 g B w 16 VO VN L M) (N : Nat → Nat) (hN : ∀ k, (M k).length = N k) : ∃ A c, GrAt w g (slV A N c) ∧ ∀ k, k < 16 → kRn.RdS w (fun b => B ≤ b) (A k) (c k) (M k) := by
  have hr := h.new.congr (M := M) fun k hk => (if_pos hk).symm
  obtain ⟨A, c, e⟩ := hr.form N hN
  exact ⟨A, c, h.all.congr fun k hk => by rw [e k hk, if_pos hk], (hr.congrV e).rdSs hN⟩
set_option maxRecDepth 100000 in
set_option maxHeartbeats 8000000 in
theorem vs_add_new (A B : Option Addr) (c d n m : Nat) (s : List Kn) (l : List Vr) (hn : n = s.length) (hm : m = l.length) (hml : m ≤ 100000) (hnl : ∀ r, (runsV s r).length ≤ 200000) (U : List Kn) (hU : addsS s l = U) (N : Nat) (hN : U.length = N) (w : World) (ha : RdK w w.heap.size A c s) (hb : kVr.Rd w w.heap.size B d l) :
    Calls Tryz.prog 98 #[.slice A n c, .slice B m d] w (RetKF w N U) := by
  obtain ⟨NA, hNA⟩ : ∃ NA : Nat → Nat, ∀ k : Nat, (runsV s ((k : Int) + 1)).length = NA k := ⟨_, fun _ => rfl⟩
  obtain ⟨L, hL⟩ : ∃ L : Nat → List Rn, ∀ k : Nat, runsV s ((k : Int) + 1) ++ versR l ((k : Int) + 1) = L k := ⟨_, fun _ => rfl⟩
  obtain ⟨NL, hNL⟩ : ∃ NL : Nat → Nat, ∀ k : Nat, (L k).length = NL k := ⟨_, fun _ => rfl⟩
  obtain ⟨M, hM⟩ : ∃ M : Nat → List Rn, ∀ k : Nat, ofC (L k) = M k := ⟨_, fun _ => rfl⟩
  obtain ⟨NM, hNM⟩ : ∃ NM : Nat → Nat, ∀ k : Nat, (M k).length = NM k := ⟨_, fun _ => rfl⟩
  have hLl : ∀ k : Nat, NL k ≤ 300000 := fun k => by
    rw [← hNL, ← hL, List.length_append]
    have h1 := hnl ((k : Int) + 1)
    have h2 := versR_len l ((k : Int) + 1)
    omega
  have C1 := Lib.hid (vs_gather A c n s hn (fun r => by have := hnl r; omega) NA hNA w ha)
  have KO := Lib.hid (fun (k : Nat) (A : Option Addr) (c : Nat) W h => cn_of_own A c (NL k) (L k) (hNL k).symm (hLl k) (M k) (hM k) (NM k) (hNM k) W h)
  have KS := Lib.hid (fun (AA : Nat → Option Addr) (cc : Nat → Nat) W h => vs_set_sl (fun g => w.heap.size ≤ g) AA NM cc M hNM (fun r => ofC (runsV s r ++ versR l r)) (fun k => (congrArg ofC (hL k)).trans (hM k)) U (by rw [← hU, addsS_cols]) N hN W h)
  have HNM := Lib.hid hNM
  have HNL := Lib.hid hNL
  have HLL := Lib.hid hL
  have HL9 := Lib.hid hnl
  have HM := Lib.hid hm
  have HR := Lib.hid hb
  have HML := Lib.hid hml
  have hcx : m ≤ d := by rw [hm]; exact hb.room
  have hmx : m ≤ 9223372036854775807 := by omega
  clear ha hb hn hm hnl hml hU hN hNA hNL hL hM hNM hLl
  go_enter Tryz.func98, Tryz.ntmps98
  go_upto_region 2 with ((with_reducible refine C1.out.mono ?_); rintro e w1 ⟨A1, c1, rfl, hrd, hq⟩; have HP := Lib.hid (putAt_new hrd hq 148); clear hrd hq)
  clear C1
  obtain ⟨w2, hw2⟩ : ∃ w2, w2 = w1.alloc (grO (slV A1 NA c1) 148) := ⟨_, rfl⟩
  rw [← hw2] at HP
  rw [← hw2]
  clear hw2
  obtain ⟨g, hg⟩ : ∃ g, g = w1.heap.size := ⟨_, rfl⟩
  rw [← hg] at HP
  rw [← hg]
  clear hg
  go_wp2_with fail
  go_loopw [15] (fun i wr => ∃ (k : Nat) (V : Nat → Value), k ≤ m ∧ i = .int .i64 k ∧ Hid (PutAt w g wr V (fun j => runsV s ((j : Int) + 1) ++ versR (l.take k) ((j : Int) + 1)))) (fun i _ => m - (intOf i).toNat)
  case atStart => exact ⟨0, _, by omega, rfl, HP.out.congr fun k _ => List.append_nil _⟩
  case round =>
    obtain ⟨k, V, hk, rfl, HG⟩ := hrel
    by_cases hlt : k < m
    · obtain ⟨x, hg, -, -⟩ := cnt_get (l := l) (k := k) (by have := HM.out; omega)
      obtain ⟨b, o, rfl, hb1, hcell⟩ := vrs_at (HR.out.below HG.out.low) (by have := HM.out; omega)
      obtain ⟨q0, q1⟩ := hcell k x hg
      obtain ⟨X, hX⟩ : ∃ X, x.rep = X := ⟨_, rfl⟩
      obtain ⟨Y, hY⟩ : ∃ Y, x.cnt = Y := ⟨_, rfl⟩
      rw [hX] at q0
      rw [hY] at q1
      have hT := fun r => versR_take hg r
      obtain ⟨p, hp⟩ : ∃ p, rightVr x = p := ⟨_, rfl⟩
      have C1 := fun w => Lib.hid (k_vright x X Y hX hY p hp w)
      have HG2 := Lib.hid (HG.out.below (below_new wr (.cells #[.int .i64 X, .int .i64 Y] 151)))
      cases p with
      | false =>
        have HE := Lib.hid (fun (j : Nat) (_ : j < 16) => show runsV s ((j : Int) + 1) ++ versR (l.take (k + 1)) ((j : Int) + 1) = runsV s ((j : Int) + 1) ++ versR (l.take k) ((j : Int) + 1) from by rw [hT, runOf_wrong hp, List.append_nil])
        clear hcell hg hT hp hX hY HG
        go_wp2_with ((with_reducible refine (C1 _).out.mono ?_); rintro e w3 ⟨rfl, hq⟩; have HG3 := Lib.hid (HG2.out.below hq); clear hq)
        go_roundw
        case rel => exact ⟨k + 1, V, by omega, by go_num, HG3.out.congr HE.out⟩
        case measure => simp [intOf]; omega
      | true =>
        have hr9 := rightVr_iff.1 hp
        rw [hX] at hr9
        obtain ⟨j, hj⟩ : ∃ j : Nat, X = (j : Int) + 1 := ⟨(X - 1).toNat, by omega⟩
        have hj16 : j < 16 := by omega
        subst hj
        have HE := Lib.hid (fun (j' : Nat) (_ : j' < 16) => show runsV s ((j' : Int) + 1) ++ versR (l.take (k + 1)) ((j' : Int) + 1) = upd (fun j => runsV s ((j : Int) + 1) ++ versR (l.take k) ((j : Int) + 1)) j ((runsV s ((j : Int) + 1) ++ versR (l.take k) ((j : Int) + 1)) ++ [⟨Y, Y⟩]) j' from by
          rw [hT]
          by_cases e : j' = j
          · subst e; rw [upd_at, runOf_yes hp hX, hY, List.append_assoc]
          · rw [upd_far _ _ e, runOf_no (by rw [hX]; omega), List.append_nil])
        have HLE := Lib.hid (show (runsV s ((j : Int) + 1) ++ versR (l.take k) ((j : Int) + 1)).length + [(⟨Y, Y⟩ : Rn)].length ≤ 1000000 by
          have h1 := versR_len (l.take k) ((j : Int) + 1)
          have h2 := HL9.out ((j : Int) + 1)
          have h3 := HML.out
          rw [List.length_take] at h1
          rw [List.length_append, List.length_singleton]
          omega)
        obtain ⟨NJ, hNJ⟩ : ∃ N, ((runsV s ((j : Int) + 1) ++ versR (l.take k) ((j : Int) + 1)) ++ [(⟨Y, Y⟩ : Rn)]).length = N := ⟨_, rfl⟩
        have HNJ := Lib.hid hNJ
        obtain ⟨vj, hvj⟩ : ∃ v, V j = v := ⟨_, rfl⟩
        have hjw : IntKind.i64.wrap ((j : Int) + 1 - 1) = (j : Int) := by rw [Int.add_sub_cancel]; exact IntWalk.i64_in _ (by omega)
        have hj0 : decide ((j : Int) < 0) = false := decide_eq_false (by omega)
        have hj1 : decide ((j : Int) < 16) = true := decide_eq_true (by omega)
        have hjk0 : (0 : Int) ≤ (j : Int) := by omega
        have hjk1 : (j : Int) < 16 := by omega
        clear hcell hg hT hp hX hY HG hr9 hNJ
        have hbx := vbox_new wr ((j : Int) + 1) Y
        have hlz : wr.heap.size < (wr.alloc (.cells #[.int .i64 ((j : Int) + 1), .int .i64 Y] 151)).heap.size := by simp
        go_upto_region 7 with ((with_reducible refine (C1 _).out.mono ?_); rintro e w3 ⟨rfl, hq⟩; have s0 := ((bcell hq).1 wr.heap.size 0 hlz).trans hbx.1; have s1 := ((bcell hq).1 wr.heap.size 1 hlz).trans hbx.2; have lz := Nat.lt_of_lt_of_le hlz hq.size; have HG3 := Lib.hid (HG2.out.below hq); clear hq)
        clear hbx hlz HG2 C1
        have q2 := HG3.out.all.cell j hj16
        rw [hvj] at q2
        have lg := HG3.out.all.lt
        have HG4 := Lib.hid (HG3.out.below ((Below.refl w3.heap.size w3).drew.alloc (Nat.le_refl _) (.cells #[.int .i64 Y, .int .i64 Y] 105)))
        have HO := Lib.hid (HG4.out.rows.own j hj16)
        rw [hvj] at HO
        have HRW := fun w => Lib.hid (rn_row w Y Y)
        have HVJ := Lib.hid hvj
        clear hvj
        go_region_law (first
          | (refine step_app_k kRn rfl (.tmp 28) (.tmp 34) rfl w.heap.size vj (runsV s ((j : Int) + 1) ++ versR (l.take k) ((j : Int) + 1)) rfl HO.out _ (some ⟨w3.heap.size, 0, none⟩) 1 1 [⟨Y, Y⟩] rfl rfl (HRW _).out HLE.out (by decide) (Nat.le_trans HG3.out.low.size (Nat.le_trans (Nat.le_succ _) (Nat.le_of_eq (size1 _ _).symm))) ?_; intro v4 w4 hown hg4 _ hv4; obtain ⟨A4, c4, rfl, -⟩ := hown.read_n HNJ.out.symm; have q3 := (HG4.out.mid hj16 (HVJ.out.symm ▸ hg4)).cell j hj16; have f3 := (HG4.out.mid hj16 (HVJ.out.symm ▸ hg4)).free j; have HG5 := Lib.hid (HG4.out.app hj16 hown (HVJ.out.symm ▸ hg4) (HVJ.out.symm ▸ hv4)); clear hown hg4 hv4))
        all_goals
          clear q2 s0 s1
          go_wp2_with fail
          go_roundw
          case rel => exact ⟨k + 1, upd V j (.slice A4 NJ c4), by omega, by go_num, HG5.out.congr HE.out⟩
          case measure => simp [intOf]; omega
    · have hkn : l.take k = l := List.take_of_length_le (by have := HM.out; omega)
      rw [hkn] at HG
      replace HG := Lib.hid (HG.out.congr fun j _ => (HLL.out j).symm)
      obtain ⟨AA, cc, hV⟩ := HG.out.rows.form NL HNL.out
      replace HG := Lib.hid (HG.out.congrV hV)
      have a0 : wr.cell? ⟨g, 0, none⟩ = some (.slice (AA 0) (NL 0) (cc 0)) := HG.out.all.cell 0 (by omega)
      have a1 : wr.cell? ⟨g, 1, none⟩ = some (.slice (AA 1) (NL 1) (cc 1)) := HG.out.all.cell 1 (by omega)
      have a2 : wr.cell? ⟨g, 2, none⟩ = some (.slice (AA 2) (NL 2) (cc 2)) := HG.out.all.cell 2 (by omega)
      have a3 : wr.cell? ⟨g, 3, none⟩ = some (.slice (AA 3) (NL 3) (cc 3)) := HG.out.all.cell 3 (by omega)
      have a4 : wr.cell? ⟨g, 4, none⟩ = some (.slice (AA 4) (NL 4) (cc 4)) := HG.out.all.cell 4 (by omega)
      have a5 : wr.cell? ⟨g, 5, none⟩ = some (.slice (AA 5) (NL 5) (cc 5)) := HG.out.all.cell 5 (by omega)
      have a6 : wr.cell? ⟨g, 6, none⟩ = some (.slice (AA 6) (NL 6) (cc 6)) := HG.out.all.cell 6 (by omega)
      have a7 : wr.cell? ⟨g, 7, none⟩ = some (.slice (AA 7) (NL 7) (cc 7)) := HG.out.all.cell 7 (by omega)
      have a8 : wr.cell? ⟨g, 8, none⟩ = some (.slice (AA 8) (NL 8) (cc 8)) := HG.out.all.cell 8 (by omega)
      have a9 : wr.cell? ⟨g, 9, none⟩ = some (.slice (AA 9) (NL 9) (cc 9)) := HG.out.all.cell 9 (by omega)
      have a10 : wr.cell? ⟨g, 10, none⟩ = some (.slice (AA 10) (NL 10) (cc 10)) := HG.out.all.cell 10 (by omega)
      have a11 : wr.cell? ⟨g, 11, none⟩ = some (.slice (AA 11) (NL 11) (cc 11)) := HG.out.all.cell 11 (by omega)
      have a12 : wr.cell? ⟨g, 12, none⟩ = some (.slice (AA 12) (NL 12) (cc 12)) := HG.out.all.cell 12 (by omega)
      have a13 : wr.cell? ⟨g, 13, none⟩ = some (.slice (AA 13) (NL 13) (cc 13)) := HG.out.all.cell 13 (by omega)
      have a14 : wr.cell? ⟨g, 14, none⟩ = some (.slice (AA 14) (NL 14) (cc 14)) := HG.out.all.cell 14 (by omega)
      have a15 : wr.cell? ⟨g, 15, none⟩ = some (.slice (AA 15) (NL 15) (cc 15)) := HG.out.all.cell 15 (by omega)
      clear hkn hV
      go_wp2_with fail
      clear a0 a1 a2 a3 a4 a5 a6 a7 a8 a9 a10 a11 a12 a13 a14 a15
      have HQ := Lib.hid (HG.out.ord M)
      clear HG HP
      go_loopw [39] (fun i wx => ∃ (k : Nat) (VN : Nat → Value), k ≤ 16 ∧ i = .int .i64 k ∧ Hid (OrdAt w g wr.heap.size wx k (slV AA NL cc) VN L M)) (fun i _ => 16 - (intOf i).toNat)
      case atStart => exact ⟨0, _, by omega, rfl, HQ⟩
      case round =>
        obtain ⟨q, VN, hq9, rfl, HQ⟩ := hrel
        by_cases hlt2 : q < 16
        · have hd : decide ((q : Int) < 16) = true := decide_eq_true (by omega)
          have hk0 : (0 : Int) ≤ (q : Int) := by omega
          have hk1 : (q : Int) < 16 := by omega
          have I0 : ∀ w, (Instr.index 148 (.agg #[.slice (AA 0) (NL 0) (cc 0), .slice (AA 1) (NL 1) (cc 1), .slice (AA 2) (NL 2) (cc 2), .slice (AA 3) (NL 3) (cc 3), .slice (AA 4) (NL 4) (cc 4), .slice (AA 5) (NL 5) (cc 5), .slice (AA 6) (NL 6) (cc 6), .slice (AA 7) (NL 7) (cc 7), .slice (AA 8) (NL 8) (cc 8), .slice (AA 9) (NL 9) (cc 9), .slice (AA 10) (NL 10) (cc 10), .slice (AA 11) (NL 11) (cc 11), .slice (AA 12) (NL 12) (cc 12), .slice (AA 13) (NL 13) (cc 13), .slice (AA 14) (NL 14) (cc 14), .slice (AA 15) (NL 15) (cc 15)]) (.int .i64 (q : Int))).run Tryz.prog w = .ok (.slice (AA q) (NL q) (cc q)) w := fun w => idx16 (slV AA NL cc) hlt2 w
          have K := Lib.hid (KO.out q (AA q) (cc q) wr ((HQ.out.old.rds q hlt2)))
          go_wp2_with ((with_reducible refine K.out.mono ?_); rintro e w7 ⟨A7, c7, rfl, ho, hq⟩; have HO7 := Lib.hid ho; have HQ7 := Lib.hid hq; have q3 := (HQ.out.below hq).all.cell q hlt2; have f3 := (HQ.out.below hq).all.free q; clear ho hq)
          have HN7 := Lib.hid (HQ.out.next hlt2 HO7.out HQ7.out)
          clear HO7 HQ7 q3 f3 K I0
          go_roundw
          case rel => exact ⟨q + 1, upd VN q (.slice A7 (NM q) c7), by omega, by go_num, HN7⟩
          case measure => simp [intOf]; omega
        · have hd : decide ((q : Int) < 16) = false := decide_eq_false (by omega)
          obtain rfl : q = 16 := by omega
          obtain ⟨A3, c3, hgr, hrd⟩ := HQ.out.fin NM HNM.out
          have K := Lib.hid (KS.out A3 c3 wr fun k hk => (hrd k hk).mono fun b hb => by have h1 := HQ.out.ge; have h2 := HQ.out.lt; omega)
          have a0 : wr.cell? ⟨g, 0, none⟩ = some (.slice (A3 0) (NM 0) (c3 0)) := hgr.cell 0 (by omega)
          have a1 : wr.cell? ⟨g, 1, none⟩ = some (.slice (A3 1) (NM 1) (c3 1)) := hgr.cell 1 (by omega)
          have a2 : wr.cell? ⟨g, 2, none⟩ = some (.slice (A3 2) (NM 2) (c3 2)) := hgr.cell 2 (by omega)
          have a3 : wr.cell? ⟨g, 3, none⟩ = some (.slice (A3 3) (NM 3) (c3 3)) := hgr.cell 3 (by omega)
          have a4 : wr.cell? ⟨g, 4, none⟩ = some (.slice (A3 4) (NM 4) (c3 4)) := hgr.cell 4 (by omega)
          have a5 : wr.cell? ⟨g, 5, none⟩ = some (.slice (A3 5) (NM 5) (c3 5)) := hgr.cell 5 (by omega)
          have a6 : wr.cell? ⟨g, 6, none⟩ = some (.slice (A3 6) (NM 6) (c3 6)) := hgr.cell 6 (by omega)
          have a7 : wr.cell? ⟨g, 7, none⟩ = some (.slice (A3 7) (NM 7) (c3 7)) := hgr.cell 7 (by omega)
          have a8 : wr.cell? ⟨g, 8, none⟩ = some (.slice (A3 8) (NM 8) (c3 8)) := hgr.cell 8 (by omega)
          have a9 : wr.cell? ⟨g, 9, none⟩ = some (.slice (A3 9) (NM 9) (c3 9)) := hgr.cell 9 (by omega)
          have a10 : wr.cell? ⟨g, 10, none⟩ = some (.slice (A3 10) (NM 10) (c3 10)) := hgr.cell 10 (by omega)
          have a11 : wr.cell? ⟨g, 11, none⟩ = some (.slice (A3 11) (NM 11) (c3 11)) := hgr.cell 11 (by omega)
          have a12 : wr.cell? ⟨g, 12, none⟩ = some (.slice (A3 12) (NM 12) (c3 12)) := hgr.cell 12 (by omega)
          have a13 : wr.cell? ⟨g, 13, none⟩ = some (.slice (A3 13) (NM 13) (c3 13)) := hgr.cell 13 (by omega)
          have a14 : wr.cell? ⟨g, 14, none⟩ = some (.slice (A3 14) (NM 14) (c3 14)) := hgr.cell 14 (by omega)
          have a15 : wr.cell? ⟨g, 15, none⟩ = some (.slice (A3 15) (NM 15) (c3 15)) := hgr.cell 15 (by omega)
          clear hgr hrd
          go_wp2_with ((with_reducible refine K.out.mono ?_); rintro e w8 ⟨A8, c8, rfl, hrd, hq⟩; have H8 := Lib.hid hrd; have HQ8 := Lib.hid hq; clear hrd hq)
          go_ret
          exact ⟨A8, c8, rfl, H8.out.mono (fun b hb => by have h1 := HQ.out.low.size; rcases hb with hb | hb <;> omega), HQ.out.low.trans (HQ8.out.mono HQ.out.low.size)⟩
end Go.Proofs.YtopjhebhdopjpaaGreat

namespace Go.Proofs.YtopjhebhdopjpaaGreat
open Go.RowKit

theorem eq_rn_is (r t : Rn) (X Y Z W : Int) (h1 : r.fr = X) (h2 : r.to = Y) (h3 : t.fr = Z) (h4 : t.to = W) (q : Bool) (hq : (r.fr == t.fr && r.to == t.to) = q) (w : World) : (Op.equalIn 10000 105 (.agg #[.int .i64 X, .int .i64 Y]) (.agg #[.int .i64 Z, .int .i64 W])).run Tryz.prog w = .ok q w := by
  subst h1 h2 h3 h4; exact eq_rn _ _ _ _ q hq w
theorem sameC_cons (r t : Rn) (a b : List Rn) : sameC (r :: a) (t :: b) = ((r.fr == t.fr && r.to == t.to) && sameC a b) := rfl
set_option maxHeartbeats 1000000 in
theorem vs_equal (A B : Option Addr) (c d n m : Nat) (a b : List Rn) (hn : n = a.length) (hm : m = b.length) (v : Bool) (hv : sameC a b = v) (w : World) (ha : kRn.Rd w w.heap.size A c a) (hb : kRn.Rd w w.heap.size B d b) :
    Calls Tryz.prog 91 #[.slice A n c, .slice B m d] w fun e w' => e = .returned (.bool v) ∧ Below w.heap.size w w' := by
  have HN := Lib.hid hn
  have HM := Lib.hid hm
  have HA := Lib.hid ha
  have HB := Lib.hid hb
  have hmx := rd_maxC ha hn
  have hmy := rd_maxC hb hm
  have hcx : n ≤ c := by rw [hn]; exact ha.room
  have hcy : m ≤ d := by rw [hm]; exact hb.room
  subst hv
  by_cases hnm : n = m
  · subst hnm
    clear hn hm ha hb
    go_enter Tryz.func91, Tryz.ntmps91
    go_wp2_with fail
    go_loopw [13] (fun i wr => ∃ k : Nat, k ≤ n ∧ Hid (sameC a b = sameC (a.drop k) (b.drop k)) ∧ i = .int .i64 k ∧ Hid (Below w.heap.size w wr)) (fun i _ => n - (intOf i).toNat)
    case atStart => exact ⟨0, by omega, rfl, rfl, Below.refl _ _⟩
    case round =>
      obtain ⟨k, hk, HL, rfl, HW⟩ := hrel
      by_cases hlt : k < n
      · obtain ⟨r, hg, hd, -⟩ := cnt_get (l := a) (k := k) (by have := HN.out; omega)
        obtain ⟨t, hg', hd', -⟩ := cnt_get (l := b) (k := k) (by have := HM.out; omega)
        obtain ⟨b1, o1, rfl, hb1, hcell1⟩ := rns_at (HA.out.below HW.out) (by have := HN.out; omega)
        obtain ⟨b2, o2, rfl, hb2, hcell2⟩ := rns_at (HB.out.below HW.out) (by have := HM.out; omega)
        obtain ⟨a0, a1⟩ := hcell1 k r hg
        obtain ⟨c0, c1⟩ := hcell2 k t hg'
        obtain ⟨X, hX⟩ : ∃ X, r.fr = X := ⟨_, rfl⟩
        obtain ⟨Y, hY⟩ : ∃ Y, r.to = Y := ⟨_, rfl⟩
        obtain ⟨Z, hZ⟩ : ∃ Z, t.fr = Z := ⟨_, rfl⟩
        obtain ⟨W, hW⟩ : ∃ W, t.to = W := ⟨_, rfl⟩
        obtain ⟨x, hx⟩ : ∃ x, (r.fr == t.fr && r.to == t.to) = x := ⟨_, rfl⟩
        have EQ := fun w => eq_rn_is r t X Y Z W hX hY hZ hW x hx w
        have HL2 := Lib.hid (HL.out.trans (show sameC (a.drop k) (b.drop k) = (x && sameC (a.drop (k + 1)) (b.drop (k + 1))) by rw [hd, hd', sameC_cons, hx]))
        have hk0 : (0 : Int) ≤ (k : Int) := by omega
        have hkn : (k : Int) < (n : Int) := by omega
        rw [hX] at a0
        rw [hY] at a1
        rw [hZ] at c0
        rw [hW] at c1
        clear hcell1 hcell2 hg hg' hd hd' hx hX hY hZ hW
        cases x
        all_goals
          go_wp2_with fail
          go_quiet (fail)
          go_wp2_with fail
        · go_ret
          exact ⟨ret_bool HL2.out.symm, below_drewN HW.out _⟩
        · go_roundw
          case rel => exact ⟨k + 1, by omega, HL2, by go_num, below_drewN HW.out _⟩
          case measure => simp [intOf]; omega
      · have HL2 := Lib.hid (HL.out.trans (show sameC (a.drop k) (b.drop k) = true by rw [List.drop_eq_nil_of_le (by have := HN.out; omega), List.drop_eq_nil_of_le (by have := HM.out; omega)]; rfl))
        go_wp2_with fail
        go_ret
        exact ⟨ret_bool HL2.out.symm, HW.out⟩
  · have HE := Lib.hid (sameC_len (a := a) (b := b) (by omega))
    have hne : ((n : Int) == (m : Int)) = false := beq_eq_false_iff_ne.2 (by omega)
    have hne2 : ((n : Int) != (m : Int)) = true := by rw [bne, hne]; rfl
    clear hn hm ha hb hnm
    go_enter Tryz.func91, Tryz.ntmps91
    go_wp2_with fail
    go_ret
    exact ⟨ret_bool HE.out.symm, Below.refl _ _⟩
end Go.Proofs.YtopjhebhdopjpaaGreat

namespace Go.Proofs.YtopjhebhdopjpaaGreat
open Go.RowKit

theorem vs_of_new (A : Option Addr) (c n : Nat) (s : List Kn) (hn : n = s.length) (hnl : ∀ r, (runsV s r).length ≤ 200000) (U : List Kn) (hU : ofS s = U) (N : Nat) (hN : U.length = N) (w : World) (hr : RdK w w.heap.size A c s) :
    Calls Tryz.prog 72 #[.slice A n c] w (RetKF w N U) := by
  have C := Lib.hid (vs_add_new A none c 0 n 0 s [] hn rfl (by omega) hnl U hU N hN w hr (Kind.Rd.nil _ _))
  clear hn hnl hU hN hr
  go_enter Tryz.func72, Tryz.ntmps72
  go_wp2_with ((with_reducible refine C.out.mono ?_); rintro e w1 ⟨A1, c1, rfl, hrd, hq⟩; have HR := Lib.hid hrd; have HQ := Lib.hid hq; clear hrd hq)
  go_ret
  exact ⟨A1, c1, rfl, HR.out, HQ.out⟩
theorem vs_union_new (A B : Option Addr) (c d n m : Nat) (a b : List Kn) (hn : n = a.length) (hm : m = b.length) (hnl : ∀ r, (runsV a r).length ≤ 100000) (hml : ∀ r, (runsV b r).length ≤ 100000) (U : List Kn) (hU : makeS 1 a b = U) (N : Nat) (hN : U.length = N) (w : World) (ha : RdK w w.heap.size A c a) (hb : RdK w w.heap.size B d b) :
    Calls Tryz.prog 111 #[.slice A n c, .slice B m d] w (RetKF w N U) := by
  have C := Lib.hid (vs_both_new 132 1 k_cunion_own (enters_of Tryz.func132 (by kernel_rfl) rfl) A B c d n m a b hn hm hnl hml U hU N hN w ha hb)
  clear hn hm hnl hml hU hN ha hb
  go_enter Tryz.func111, Tryz.ntmps111
  go_wp2_with ((with_reducible refine C.out.mono ?_); rintro e w1 ⟨A1, c1, rfl, hrd, hq⟩; have HR := Lib.hid hrd; have HQ := Lib.hid hq; clear hrd hq)
  go_ret
  exact ⟨A1, c1, rfl, HR.out, HQ.out⟩
theorem vs_less_new (A B : Option Addr) (c d n m : Nat) (a b : List Kn) (hn : n = a.length) (hm : m = b.length) (hnl : ∀ r, (runsV a r).length ≤ 100000) (hml : ∀ r, (runsV b r).length ≤ 100000) (U : List Kn) (hU : makeS 3 a b = U) (N : Nat) (hN : U.length = N) (w : World) (ha : RdK w w.heap.size A c a) (hb : RdK w w.heap.size B d b) :
    Calls Tryz.prog 73 #[.slice A n c, .slice B m d] w (RetKF w N U) := by
  have C := Lib.hid (vs_both_new 100 3 k_cless_own (enters_of Tryz.func100 (by kernel_rfl) rfl) A B c d n m a b hn hm hnl hml U hU N hN w ha hb)
  clear hn hm hnl hml hU hN ha hb
  go_enter Tryz.func73, Tryz.ntmps73
  go_wp2_with ((with_reducible refine C.out.mono ?_); rintro e w1 ⟨A1, c1, rfl, hrd, hq⟩; have HR := Lib.hid hrd; have HQ := Lib.hid hq; clear hrd hq)
  go_ret
  exact ⟨A1, c1, rfl, HR.out, HQ.out⟩
theorem sameS_cons (x y : Kn) (a b : List Kn) : sameS (x :: a) (y :: b) = (((x.rep == y.rep) && sameC x.runs y.runs) && sameS a b) := rfl
end Go.Proofs.YtopjhebhdopjpaaGreat

namespace Go.Proofs.YtopjhebhdopjpaaGreat
open Go.RowKit

end Go.Proofs.YtopjhebhdopjpaaGreat

namespace Go.Proofs.YtopjhebhdopjpaaGreat
open Go.RowKit

end Go.Proofs.YtopjhebhdopjpaaGreat

namespace Go.Proofs.YtopjhebhdopjpaaGreat
open Go.RowKit

theorem kw_alike1 (x y : Kn) (A B : Option Addr) (c d n m : Nat) (hn : n = x.runs.length) (hm : m = y.runs.length) (X Y : Int) (hX : x.rep = X) (hY : y.rep = Y) (v : Bool) (hv : ((x.rep == y.rep) && sameC x.runs y.runs) = v) (w : World) (ha : kRn.Rd w w.heap.size A c x.runs) (hb : kRn.Rd w w.heap.size B d y.runs) :
    Calls Tryz.prog 90 #[.agg #[.int .i64 X, .slice A n c], .agg #[.int .i64 Y, .slice B m d]] w fun e w' => e = .returned (.bool v) ∧ Below w.heap.size w w' := by
  obtain ⟨z, hz⟩ : ∃ z, sameC x.runs y.runs = z := ⟨_, rfl⟩
  obtain ⟨p, hp⟩ : ∃ p, (X == Y) = p := ⟨_, rfl⟩
  have hb2 : Below w.heap.size w ((w.alloc (.cells #[.int .i64 X, .slice A n c] 64)).alloc (.cells #[.int .i64 Y, .slice B m d] 64)) := (below_new w _).trans ((below_new _ _).mono (by simp))
  have C := Lib.hid (vs_equal A B c d n m x.runs y.runs hn hm z hz _ (ha.call hb2) (hb.call hb2))
  clear hb2
  rw [hX, hY, hz, hp] at hv
  clear ha hb hn hm hz hX hY
  subst hv
  cases p
  · go_enter Tryz.func90, Tryz.ntmps90
    go_wp2_with fail
    go_ret
    exact ⟨rfl, (below_new w _).trans ((below_new _ _).mono (by simp))⟩
  · go_enter Tryz.func90, Tryz.ntmps90
    go_wp2_with ((with_reducible refine C.out.mono ?_); rintro e w1 ⟨rfl, hq⟩; have HQ := Lib.hid hq; clear hq)
    go_ret
    exact ⟨rfl, (below_new w _).trans (((below_new _ _).mono (by simp)).trans (HQ.out.mono (by simp; omega)))⟩
set_option maxRecDepth 100000 in
set_option maxHeartbeats 2000000 in
theorem kw_equalF (A B : Option Addr) (c d n m : Nat) (a b : List Kn) (hn : n = a.length) (hm : m = b.length) (v : Bool) (hv : sameS a b = v) (w : World) (ha : RdK w w.heap.size A c a) (hb : RdK w w.heap.size B d b) :
    Calls Tryz.prog 89 #[.slice A n c, .slice B m d, .func (.func 90) #[] #[]] w fun e w' => e = .returned (.bool v) ∧ Below w.heap.size w w' := by
  have HN := Lib.hid hn
  have HM := Lib.hid hm
  have HA := Lib.hid ha
  have HB := Lib.hid hb
  have hmx := rdk_max ha hn
  have hmy := rdk_max hb hm
  have hcx : n ≤ c := by rw [hn]; exact ha.room
  have hcy : m ≤ d := by rw [hm]; exact hb.room
  subst hv
  by_cases hnm : n = m
  · subst hnm
    clear hn hm ha hb
    go_enter Tryz.func89, Tryz.ntmps89
    go_wp2_with fail
    go_loopw [17] (fun i wr => ∃ k : Nat, k ≤ n ∧ Hid (sameS a b = sameS (a.drop k) (b.drop k)) ∧ i = .int .i64 k ∧ Hid (Below w.heap.size w wr)) (fun i _ => n - (intOf i).toNat)
    case atStart => exact ⟨0, by omega, rfl, rfl, Below.refl _ _⟩
    case round =>
      obtain ⟨k, hk, HL, rfl, HW⟩ := hrel
      by_cases hlt : k < n
      · obtain ⟨x, hg, hd, -⟩ := cnt_get (l := a) (k := k) (by have := HN.out; omega)
        obtain ⟨y, hg', hd', -⟩ := cnt_get (l := b) (k := k) (by have := HM.out; omega)
        obtain ⟨b1, o1, rfl, hb1, hcell1⟩ := knowns_at (HA.out.call HW.out) (by have := HN.out; omega)
        obtain ⟨b2, o2, rfl, hb2, hcell2⟩ := knowns_at (HB.out.call HW.out) (by have := HM.out; omega)
        obtain ⟨A1, n1, c1, hn1, hr1, p0, p1⟩ := hcell1 k x hg
        obtain ⟨A2, n2, c2, hn2, hr2, q0, q1⟩ := hcell2 k y hg'
        obtain ⟨X, hX⟩ : ∃ X, x.rep = X := ⟨_, rfl⟩
        obtain ⟨Y, hY⟩ : ∃ Y, y.rep = Y := ⟨_, rfl⟩
        rw [hX] at p0
        rw [hY] at q0
        obtain ⟨z, hz⟩ : ∃ z, ((x.rep == y.rep) && sameC x.runs y.runs) = z := ⟨_, rfl⟩
        have hbb : Below wr.heap.size wr ((wr.alloc (.cells #[.int .i64 X, .slice A1 n1 c1] 64)).alloc (.cells #[.int .i64 Y, .slice A2 n2 c2] 64)) := (below_new _ _).trans ((below_new _ _).mono (by simp))
        have C := Lib.hid (kw_alike1 x y A1 A2 c1 c2 n1 n2 hn1 hn2 X Y hX hY z hz _ (hr1.call hbb) (hr2.call hbb))
        have HW1 := Lib.hid (HW.out.trans (hbb.mono HW.out.size))
        have HL2 := Lib.hid (HL.out.trans (show sameS (a.drop k) (b.drop k) = (z && sameS (a.drop (k + 1)) (b.drop (k + 1))) by rw [hd, hd', sameS_cons, hz]))
        have hk0 : (0 : Int) ≤ (k : Int) := by omega
        have hkn : (k : Int) < (n : Int) := by omega
        have p0b := ((bcell (below_new wr (.cells #[.int .i64 X, .slice A1 n1 c1] 64))).1 b2 (o2 + k * 2) (World.block_lt_of_cell? wr _ q0)).trans q0
        have p1b := ((bcell (below_new wr (.cells #[.int .i64 X, .slice A1 n1 c1] 64))).1 b2 (o2 + k * 2 + 1) (World.block_lt_of_cell? wr _ q0)).trans q1
        clear hcell1 hcell2 hg hg' hd hd' hz hX hY hr1 hr2 hn1 hn2 hbb
        cases z
        · go_wp2_with ((with_reducible refine C.out.mono ?_); rintro e w2 ⟨rfl, hq⟩; have HW2 := Lib.hid (HW1.out.trans (hq.mono HW1.out.size)); clear hq)
          go_ret
          exact ⟨ret_bool HL2.out.symm, HW2.out⟩
        · go_wp2_with ((with_reducible refine C.out.mono ?_); rintro e w2 ⟨rfl, hq⟩; have HW2 := Lib.hid (HW1.out.trans (hq.mono HW1.out.size)); clear hq)
          go_roundw
          case rel => exact ⟨k + 1, by omega, HL2, by go_num, HW2⟩
          case measure => simp [intOf]; omega
      · have HL2 := Lib.hid (HL.out.trans (show sameS (a.drop k) (b.drop k) = true by rw [List.drop_eq_nil_of_le (by have := HN.out; omega), List.drop_eq_nil_of_le (by have := HM.out; omega)]; rfl))
        go_wp2_with fail
        go_ret
        exact ⟨ret_bool HL2.out.symm, HW.out⟩
  · have HE := Lib.hid (sameS_len (a := a) (b := b) (by omega))
    have hne : ((n : Int) == (m : Int)) = false := beq_eq_false_iff_ne.2 (by omega)
    have hne2 : ((n : Int) != (m : Int)) = true := by rw [bne, hne]; rfl
    clear hn hm ha hb hnm
    go_enter Tryz.func89, Tryz.ntmps89
    go_wp2_with fail
    go_ret
    exact ⟨ret_bool HE.out.symm, Below.refl _ _⟩
theorem kw_alike (A B : Option Addr) (c d n m : Nat) (a b : List Kn) (hn : n = a.length) (hm : m = b.length) (v : Bool) (hv : decide (a = b) = v) (w : World) (ha : RdK w w.heap.size A c a) (hb : RdK w w.heap.size B d b) :
    Calls Tryz.prog 61 #[.slice A n c, .slice B m d] w fun e w' => e = .returned (.bool v) ∧ Below w.heap.size w w' := by
  have hs : sameS a b = v := by rw [Bool.eq_iff_iff, sameS_iff, ← hv, decide_eq_true_eq]
  have C := Lib.hid (kw_equalF A B c d n m a b hn hm v hs w ha hb)
  clear hn hm hv hs ha hb
  go_enter Tryz.func61, Tryz.ntmps61
  go_wp2_with ((with_reducible refine C.out.mono ?_); rintro e w1 ⟨rfl, hq⟩; have HQ := Lib.hid hq; clear hq)
  go_ret
  exact ⟨rfl, HQ.out⟩
structure PcIs (p : Pc) (S T : ByteArray) (o : Bool) (n : Nat) : Prop where
  rng : IsR p.rng S T o
  len : n = p.set.length
set_option maxRecDepth 100000 in
set_option maxHeartbeats 1000000 in
theorem kw_right1 (x : Pc) (S T : ByteArray) (o : Bool) (A : Option Addr) (c n : Nat) (hx : PcIs x S T o n) (v : Bool) (hv : onePc x = v) (w : World) (hr : RdK w w.heap.size A c x.set) :
    Calls Tryz.prog 33 #[.agg #[.string S, .string T, .bool o, .slice A n c]] w fun e w' => e = .returned (.bool v) ∧ Below w.heap.size w w' := by
  have hb := below_new w (.cells #[.string S, .string T, .bool o, .slice A n c] 48)
  obtain ⟨h1, hn⟩ := hx
  obtain ⟨z, hz⟩ : ∃ z, rightS x.set = z := ⟨_, rfl⟩
  obtain ⟨p, hp⟩ : ∃ p, rightR x.rng = p := ⟨_, rfl⟩
  obtain ⟨q, hq⟩ : ∃ q, (n == 0) = q := ⟨_, rfl⟩
  have C1 := fun w => Lib.hid (span_right x.rng S T o p h1 hp w)
  have C2 := fun w h => Lib.hid (vs_right A c n x.set hn z hz w h)
  have HB := Lib.hid hb
  have HR := Lib.hid (hr.call hb)
  have hlz : w.heap.size < (w.alloc (.cells #[.string S, .string T, .bool o, .slice A n c] 48)).heap.size := by simp
  have hnew := heap_new w (.cells #[.string S, .string T, .bool o, .slice A n c] 48) _ rfl
  have q3 : (w.alloc (.cells #[.string S, .string T, .bool o, .slice A n c] 48)).cell? ⟨w.heap.size, 3, none⟩ = some (.slice A n c) := by rw [cell_of_row _ _ _ _ _ _ hnew]; rfl
  have Q3 := Lib.hid q3
  have hmx := rdk_max hr hn
  have hvv : v = (p && (!q && z)) := by
    rw [← hv]
    unfold onePc fullK
    rw [hp, hz]
    congr 1
    cases hs : x.set with
    | nil => rw [hs] at hn; subst hn; subst hq; rfl
    | cons a b => rw [hs] at hn; subst hn; subst hq; rfl
  have h3 : decide ((n : Int) > 0) = !q := by
    rw [← hq]
    by_cases h : n = 0
    · subst h; rfl
    · rw [decide_eq_true (by omega), beq_eq_false_iff_ne.2 h]; rfl
  have h4 : decide ((0 : Int) < (n : Int)) = !q := h3
  have h5 : decide (0 < n) = !q := by
    rw [← h3]; exact decide_eq_decide.2 (by omega)
  subst hvv
  clear hn hr hz hp h1 hb hq hv hnew q3
  cases p <;> cases q
  all_goals
    go_enter Tryz.func33, Tryz.ntmps33
    go_wp2_with (first
      | ((with_reducible refine (C1 _).out.mono ?_); rintro e w1 ⟨rfl, hq⟩; have HQ := Lib.hid hq; have g3 := ((bcell hq).1 w.heap.size 3 hlz).trans Q3.out; replace HR := Lib.hid (HR.out.call hq); clear hq)
      | ((with_reducible refine (C2 _ HR.out).out.mono ?_); rintro e w2 ⟨rfl, hq⟩; have HQ2 := Lib.hid (HQ.out.trans (hq.mono HQ.out.size)); clear hq))
    go_ret
    first
      | exact ⟨rfl, HB.out.trans (HQ2.out.mono HB.out.size)⟩
      | exact ⟨rfl, HB.out.trans (HQ.out.mono HB.out.size)⟩
theorem gapP_open {p q : Pc} (h : p.rng.op = true) : gapP p q = false := by unfold gapP; rw [h]; rfl
theorem gapP_lt {p q : Pc} (h : p.rng.op = false) (h' : ltB p.rng.hi q.rng.lo = true) : gapP p q = true := by
  unfold gapP
  rw [h, ltB_asymm h', decide_eq_false (show ¬ p.rng.hi = q.rng.lo from fun e => by rw [e, ltB_irrefl] at h'; cases h')]; rfl
theorem gapP_gt {p q : Pc} (h' : ltB q.rng.lo p.rng.hi = true) : gapP p q = false := by unfold gapP; rw [h']; cases p.rng.op <;> rfl
theorem gapP_eq {p q : Pc} (h : p.rng.op = false) (h' : p.rng.hi = q.rng.lo) : gapP p q = !decide (p.set = q.set) := by
  unfold gapP
  rw [h, h', ltB_irrefl, decide_eq_true rfl]; rfl
theorem below_two (w : World) (x y : Obj) : Below w.heap.size w ((w.alloc x).alloc y) := (below_new w x).trans ((below_new _ y).mono (by simp))
set_option maxRecDepth 100000 in
set_option maxHeartbeats 1000000 in
theorem kw_follows (p q : Pc) (S T U V : ByteArray) (o z : Bool) (A B : Option Addr) (c d n m : Nat) (hp : PcIs p S T o n) (hq : PcIs q U V z m) (v : Bool) (hv : gapP p q = v) (w : World) (ha : RdK w w.heap.size A c p.set) (hb : RdK w w.heap.size B d q.set) :
    Calls Tryz.prog 34 #[.agg #[.string S, .string T, .bool o, .slice A n c], .agg #[.string U, .string V, .bool z, .slice B m d]] w fun e w' => e = .returned (.bool v) ∧ Below w.heap.size w w' := by
  have hb2 := below_two w (.cells #[.string S, .string T, .bool o, .slice A n c] 48) (.cells #[.string U, .string V, .bool z, .slice B m d] 48)
  obtain ⟨⟨-, h2, h3⟩, hn⟩ := hp
  obtain ⟨⟨h4, -, -⟩, hm⟩ := hq
  have HB := Lib.hid hb2
  cases o with
  | true =>
    obtain rfl : v = false := by rw [← hv]; exact gapP_open h3
    clear ha hb hn hm h2 h3 h4 hv hb2
    go_enter Tryz.func34, Tryz.ntmps34
    go_wp2_with fail
    go_ret
    exact ⟨rfl, HB.out⟩
  | false =>
    obtain ⟨y, hy⟩ : ∃ y, decide (p.set = q.set) = y := ⟨_, rfl⟩
    have C2 := Lib.hid (kw_alike A B c d n m p.set q.set hn hm y hy _ (ha.call hb2) (hb.call hb2))
    rcases ltB_three p.rng.hi q.rng.lo with ⟨k1, k2, -⟩ | ⟨k1, k2, -⟩ | ⟨k1, k2, k3⟩
    · obtain rfl : v = true := by rw [← hv]; exact gapP_lt h3 k1
      have C := fun w => Lib.hid (cmp_is p.rng.hi q.rng.lo T U h2 h4 (-1) (cmp_lt k1) w)
      clear ha hb hn hm h2 h3 h4 hv hb2 k1 k2 hy C2
      go_enter Tryz.func34, Tryz.ntmps34
      go_wp2_with ((with_reducible refine (C _).out.mono ?_); rintro e w1 ⟨rfl, rfl⟩)
      go_ret
      exact ⟨rfl, HB.out⟩
    · obtain rfl : v = false := by rw [← hv]; exact gapP_gt k2
      have C := fun w => Lib.hid (cmp_is p.rng.hi q.rng.lo T U h2 h4 1 (cmp_gt k2) w)
      clear ha hb hn hm h2 h3 h4 hv hb2 k1 k2 hy C2
      go_enter Tryz.func34, Tryz.ntmps34
      go_wp2_with ((with_reducible refine (C _).out.mono ?_); rintro e w1 ⟨rfl, rfl⟩)
      go_ret
      exact ⟨rfl, HB.out⟩
    · have hvy : v = !y := by rw [← hv, ← hy]; exact gapP_eq h3 k3
      have C := fun w => Lib.hid (cmp_is p.rng.hi q.rng.lo T U h2 h4 0 (by rw [k3]; exact cmp_self _) w)
      subst hvy
      clear ha hb hn hm h2 h3 h4 hv hb2 k1 k2 k3 hy
      go_enter Tryz.func34, Tryz.ntmps34
      go_wp2_with (first
        | ((with_reducible refine (C _).out.mono ?_); rintro e w1 ⟨rfl, rfl⟩)
        | ((with_reducible refine C2.out.mono ?_); rintro e w1 ⟨rfl, hq⟩; have HQ := Lib.hid hq; clear hq))
      go_ret
      exact ⟨rfl, HB.out.trans (HQ.out.mono HB.out.size)⟩
end Go.Proofs.YtopjhebhdopjpaaGreat

namespace Go.Proofs.YtopjhebhdopjpaaGreat
open Go.RowKit

def chainR : Pc → List Pc → Bool
  | _, [] => true
  | p, q :: l => onePc q && (gapP p q && chainR q l)
theorem rightP_chain : ∀ (l : List Pc) (p : Pc), rightP (p :: l) = (onePc p && chainR p l)
  | [], p => (Bool.and_true _).symm
  | q :: l, p => by
    have h := rightP_chain l q
    show (onePc p && gapP p q && rightP (q :: l)) = (onePc p && (onePc q && (gapP p q && chainR q l)))
    rw [h]
    cases onePc p <;> cases gapP p q <;> cases onePc q <;> cases chainR q l <;> rfl
set_option maxRecDepth 100000 in
set_option maxHeartbeats 8000000 in
theorem kw_right (A : Option Addr) (c n : Nat) (k : List Pc) (hn : n = k.length) (v : Bool) (hv : rightP k = v) (w : World) (hr : RdPc w A c k) :
    Calls Tryz.prog 19 #[.slice A n c] w fun e w' => e = .returned (.bool v) ∧ Below w.heap.size w w' := by
  have HN := Lib.hid hn
  have HR := Lib.hid hr
  have HV := Lib.hid hv
  have hmx := hr.max hn
  have hcx : n ≤ c := by rw [hn]; exact hr.room
  clear hn hr hv
  go_enter Tryz.func19, Tryz.ntmps19
  go_wp2_with fail
  go_loopw [7] (fun i wr => ∃ j : Nat, j ≤ n ∧ i = .int .i64 j ∧ Hid ((j = 0 ∧ rightP k = v) ∨ ∃ i' p, j = i' + 1 ∧ k[i']? = some p ∧ chainR p (k.drop j) = v) ∧ Hid (Below w.heap.size w wr)) (fun i _ => n - (intOf i).toNat)
  case atStart => exact ⟨0, by omega, rfl, .inl ⟨rfl, HV.out⟩, Below.refl _ _⟩
  case round =>
    obtain ⟨j, hj, rfl, HL, HW⟩ := hrel
    by_cases hlt : j < n
    · obtain ⟨r, hg, hd, -⟩ := get_some (l := k) (k := j) (by have := HN.out; omega)
      obtain ⟨b, o, A1, n1, c1, S1, T1, q1, rfl, hb1, hIs1, hn1, hr1, p0, p1, p2, p3⟩ := (HR.out.call HW.out).at_ hg
      obtain ⟨z, hz⟩ : ∃ z, onePc r = z := ⟨_, rfl⟩
      obtain ⟨wb, hwb⟩ : ∃ wb, wr.alloc (.cells #[.string S1, .string T1, .bool q1, .slice A1 n1 c1] 48) = wb := ⟨_, rfl⟩
      have hbb : Below wr.heap.size wr wb := by rw [← hwb]; exact below_new _ _
      have CS := Lib.hid (fun (L : List (Addr × Value)) => fun (W : World) (hC : CellL wb L W) => (kw_right1 r S1 T1 q1 A1 c1 n1 ⟨hIs1, hn1⟩ z hz W ((hr1.call hbb).call (cellL_size hC))).mono fun (e' : Ending) (W' : World) ⟨h1, h2⟩ => (⟨h1, cellL_call h2 hC⟩ : e' = Ending.returned (.bool z) ∧ CellL wb L W'))
      have hnew := heap_new wr (.cells #[.string S1, .string T1, .bool q1, .slice A1 n1 c1] 48) _ rfl
      have t0 : wb.cell? ⟨wr.heap.size, 0, none⟩ = some (.string S1) := by rw [← hwb, cell_of_row _ _ _ _ _ _ hnew]; rfl
      have t1 : wb.cell? ⟨wr.heap.size, 1, none⟩ = some (.string T1) := by rw [← hwb, cell_of_row _ _ _ _ _ _ hnew]; rfl
      have t2 : wb.cell? ⟨wr.heap.size, 2, none⟩ = some (.bool q1) := by rw [← hwb, cell_of_row _ _ _ _ _ _ hnew]; rfl
      have t3 : wb.cell? ⟨wr.heap.size, 3, none⟩ = some (.slice A1 n1 c1) := by rw [← hwb, cell_of_row _ _ _ _ _ _ hnew]; rfl
      have HWB := Lib.hid (HW.out.trans (hbb.mono HW.out.size))
      have hj0 : (0 : Int) ≤ (j : Int) := by omega
      have hjn : (j : Int) < (n : Int) := by omega
      rcases HL.out with ⟨h0, hL⟩ | ⟨i, p, hi, hgi, hL⟩
      · subst h0
        rw [List.drop_zero] at hd
        have HF := Lib.hid (show (z && chainR r (k.drop (0 + 1))) = v by rw [hd, rightP_chain, hz] at hL; exact hL)
        have HNX := Lib.hid (fun (h : chainR r (k.drop (0 + 1)) = v) => show (0 + 1 = 0 ∧ rightP k = v) ∨ ∃ i' p, 0 + 1 = i' + 1 ∧ k[i']? = some p ∧ chainR p (k.drop (0 + 1)) = v from .inr ⟨0, r, rfl, hg, h⟩)
        rw [Nat.zero_mul, Nat.add_zero] at p0 p1 p2 p3
        have HC := Lib.hid (show CellL wb [(⟨wr.heap.size, 0, none⟩, .string S1), (⟨wr.heap.size, 1, none⟩, .string T1), (⟨wr.heap.size, 2, none⟩, .bool q1), (⟨wr.heap.size, 3, none⟩, .slice A1 n1 c1)] wb from ⟨t0, t1, t2, t3, Below.refl _ _⟩)
        clear hg hd hz hL HL hr1 hn1 hIs1 t0 t1 t2 t3 hnew hbb
        cases z
        all_goals
          go_upto_region 4 with fail
          refine q_region (CellL wb [(⟨wr.heap.size, 0, none⟩, .string S1), (⟨wr.heap.size, 1, none⟩, .string T1), (⟨wr.heap.size, 2, none⟩, .bool q1), (⟨wr.heap.size, 3, none⟩, .slice A1 n1 c1)]) (by kernel_rfl) (by kernel_rfl) (cellL_drew HC.out) ?_
          repeat (first
            | go_big_quiet_skip
            | (go_big_quiet_want; (first
              | (refine q_take (v := ?_) ?_ ?_; rotate_left; (focus (intro w hSw; (try simp only [CellL] at hSw); go_split_ands; go_simp; (try (rw [if_neg (by omega)])); (try with_reducible rfl); done)))
              | (refine q_call (CS.out _) ?_ ?_; (focus (intro w hSw; (try simp only [CellL] at hSw); go_split_ands; go_simp; (try (rw [if_neg (by omega)])); done)))); (try simp only [Act.put, List.setIfInBounds_toArray, List.set_cons_zero, List.set_cons_succ]); go_big_quiet_on))
          refine wpQuiet_nil ?_
          intro w2 hw2
          have HB2 := Lib.hid (HWB.out.trans ((cellL_size hw2).mono HWB.out.size))
          clear hw2
          go_wp2_with fail
          first
            | (go_ret; exact ⟨ret_bool (show false = v from HF.out), HB2.out⟩)
            | (go_roundw
               case rel => exact ⟨0 + 1, by omega, by go_num, HNX.out HF.out, HB2⟩
               case measure => simp [intOf]; omega)
      · subst hi
        obtain ⟨b', o', A2, n2, c2, S2, T2, q2, hA, hb2, hIs2, hn2, hr2, u0, u1, u2, u3⟩ := (HR.out.call HW.out).at_ hgi
        injection hA with hA
        injection hA with e1 e2
        subst e1 e2
        obtain ⟨y, hy⟩ : ∃ y, gapP p r = y := ⟨_, rfl⟩
        have CF := Lib.hid (fun (L : List (Addr × Value)) => fun (W : World) (hC : CellL wb L W) => (kw_follows p r S2 T2 S1 T1 q2 q1 A2 A1 c2 c1 n2 n1 ⟨hIs2, hn2⟩ ⟨hIs1, hn1⟩ y hy W ((hr2.call hbb).call (cellL_size hC)) ((hr1.call hbb).call (cellL_size hC))).mono fun (e' : Ending) (W' : World) ⟨h1, h2⟩ => (⟨h1, cellL_call h2 hC⟩ : e' = Ending.returned (.bool y) ∧ CellL wb L W'))
        have HF := Lib.hid (show (z && (y && chainR r (k.drop (i + 1 + 1)))) = v by rw [hd] at hL; rw [← hL, chainR, hz, hy])
        have HNX := Lib.hid (fun (h : chainR r (k.drop (i + 1 + 1)) = v) => show (i + 1 + 1 = 0 ∧ rightP k = v) ∨ ∃ i' p, i + 1 + 1 = i' + 1 ∧ k[i']? = some p ∧ chainR p (k.drop (i + 1 + 1)) = v from .inr ⟨i + 1, r, rfl, hg, h⟩)
        have hk1 : (0 : Int) ≤ (i : Int) + 1 := by omega
        have hkn1 : (i : Int) + 1 < (n : Int) := by omega
        have hi0 : (0 : Int) ≤ (i : Int) := by omega
        have hin : (i : Int) < (n : Int) := by omega
        have hid' : decide ((i : Int) < 0) = false := decide_eq_false (by omega)
        have hjg : decide ((0 : Int) < (i : Int) + 1) = true := decide_eq_true (by omega)
        have hjg2 : decide ((i : Int) + 1 > 0) = true := hjg
        have hjw : IntKind.i64.wrap ((i : Int) + 1 - 1) = (i : Int) := by rw [Int.add_sub_cancel]; exact IntWalk.i64_in _ (by omega)
        have hjw2 : IntKind.i64.wrap (i : Int) = (i : Int) := IntWalk.i64_in _ (by omega)
        have tr : ∀ x u, wr.cell? ⟨b, x, none⟩ = some u → wb.cell? ⟨b, x, none⟩ = some u := fun x u h => ((bcell hbb).1 _ _ (World.block_lt_of_cell? wr _ h)).trans h
        have u0 := tr _ _ u0
        have u1 := tr _ _ u1
        have u2 := tr _ _ u2
        have u3 := tr _ _ u3
        have HC := Lib.hid (show CellL wb [(⟨wr.heap.size, 0, none⟩, .string S1), (⟨wr.heap.size, 1, none⟩, .string T1), (⟨wr.heap.size, 2, none⟩, .bool q1), (⟨wr.heap.size, 3, none⟩, .slice A1 n1 c1), (⟨b, o + i * 4, none⟩, .string S2), (⟨b, o + i * 4 + 1, none⟩, .string T2), (⟨b, o + i * 4 + 2, none⟩, .bool q2), (⟨b, o + i * 4 + 3, none⟩, .slice A2 n2 c2)] wb from ⟨t0, t1, t2, t3, u0, u1, u2, u3, Below.refl _ _⟩)
        clear hg hgi hd hz hy hL HL hr1 hn1 hIs1 hr2 hn2 hIs2 t0 t1 t2 t3 u0 u1 u2 u3 tr hnew hbb
        cases z <;> cases y
        all_goals
          go_upto_region 4 with fail
          refine q_region (CellL wb [(⟨wr.heap.size, 0, none⟩, .string S1), (⟨wr.heap.size, 1, none⟩, .string T1), (⟨wr.heap.size, 2, none⟩, .bool q1), (⟨wr.heap.size, 3, none⟩, .slice A1 n1 c1), (⟨b, o + i * 4, none⟩, .string S2), (⟨b, o + i * 4 + 1, none⟩, .string T2), (⟨b, o + i * 4 + 2, none⟩, .bool q2), (⟨b, o + i * 4 + 3, none⟩, .slice A2 n2 c2)]) (by kernel_rfl) (by kernel_rfl) (cellL_drew HC.out) ?_
          repeat (first
            | go_big_quiet_skip
            | (go_big_quiet_want; (first
              | (refine q_take (v := ?_) ?_ ?_; rotate_left; (focus (intro w hSw; (try simp only [CellL] at hSw); go_split_ands; go_simp; (try (rw [if_neg (by omega)])); (try with_reducible rfl); done)))
              | (refine q_call (CS.out _) ?_ ?_; (focus (intro w hSw; (try simp only [CellL] at hSw); go_split_ands; go_simp; (try (rw [if_neg (by omega)])); done)))
              | (refine q_call (CF.out _) ?_ ?_; (focus (intro w hSw; (try simp only [CellL] at hSw); go_split_ands; go_simp; (try (rw [if_neg (by omega)])); done)))); (try simp only [Act.put, List.setIfInBounds_toArray, List.set_cons_zero, List.set_cons_succ]); go_big_quiet_on))
          refine wpQuiet_nil ?_
          intro w2 hw2
          have HB2 := Lib.hid (HWB.out.trans ((cellL_size hw2).mono HWB.out.size))
          clear hw2
          go_wp2_with fail
          first
            | (go_ret; exact ⟨ret_bool (show false = v from HF.out), HB2.out⟩)
            | (go_roundw
               case rel => exact ⟨i + 1 + 1, by omega, by go_num, HNX.out HF.out, HB2⟩
               case measure => simp [intOf]; omega)
    · have HF := Lib.hid (show true = v by
        rcases HL.out with ⟨h0, hL⟩ | ⟨i, p, hi, hgi, hL⟩
        · have : k = [] := List.eq_nil_of_length_eq_zero (by have := HN.out; omega)
          rw [← hL, this]; rfl
        · rw [← hL, List.drop_eq_nil_of_le (by have := HN.out; omega)]; rfl)
      go_wp2_with fail
      go_ret
      exact ⟨ret_bool HF.out, HW.out⟩
end Go.Proofs.YtopjhebhdopjpaaGreat

namespace Go.Proofs
open Go.Shelf
def Tryz.lays194_ren : Go.Shelf.Ren := ⟨fun | 194 => 96 | n => n, fun | 31 => 78 | 9 => 9 | 3 => 3 | 4 => 4 | 0 => 0 | n => n, fun | n => n⟩
theorem Tryz.lays194 : Go.Proofs.Lays.n194 Tryz.prog Tryz.lays194_ren := {
  mixed := by kernel_rfl
  f194 := Tryz.func96.trans (congrArg some (by kernel_rfl))
  t0 := Tryz.underlying0
  a0 := Tryz.isAgg0
  z0 := Tryz.sizeOf0
  v0 := Tryz.zeroValue0
  t3 := Tryz.underlying3
  a3 := Tryz.isAgg3
  z3 := Tryz.sizeOf3
  v3 := Tryz.zeroValue3
  t4 := Tryz.underlying4
  a4 := Tryz.isAgg4
  z4 := Tryz.sizeOf4
  v4 := Tryz.zeroValue4
  t9 := Tryz.underlying9
  a9 := Tryz.isAgg9
  z9 := Tryz.sizeOf9
  v9 := Tryz.zeroValue9
  t31 := Tryz.underlying78
  a31 := Tryz.isAgg78
  z31 := Tryz.sizeOf78
  v31 := Tryz.zeroValue78 }
open Go.RowKit Go.Lib Go.Sort in
theorem Tryz.slices_Compact_string (blk off cap : Nat) (zs : List (List UInt8)) (w : World) (hH : Holds encStr w blk off zs.toArray) (hsz : zs.length ≤ 9223372036854775807) (hcap : zs.length ≤ cap) :
    Calls Tryz.prog 96 #[.slice (some ⟨blk, off, none⟩) zs.length cap] w fun e w' => e = .returned (.slice (some ⟨blk, off, none⟩) (Lib.compact zs).length cap) ∧ ∃ q, w' = putRow encStr (Sort.ahead w q) blk off (Lib.compact zs ++ List.replicate (zs.length - (Lib.compact zs).length) []).toArray := Any.slices_Compact_string Tryz.lays194 blk off cap zs w hH hsz hcap
open Go.RowKit Go.Lib Go.Sort in
theorem Tryz.slices_Compact_string_empty (a : Option Addr) (cap : Nat) (w : World) :
    Calls Tryz.prog 96 #[.slice a 0 cap] w fun e w' => e = .returned (.slice a 0 cap) ∧ w' = w := Any.slices_Compact_string_empty Tryz.lays194 a cap w
def Tryz.laysSlF6_f127_ren : Go.Shelf.Ren := ⟨fun | 6 => 95 | 15 => 117 | 14 => 116 | 28 => 144 | 29 => 145 | 20 => 136 | 21 => 137 | 22 => 138 | 23 => 139 | 24 => 140 | 25 => 141 | 26 => 142 | 27 => 143 | 46 => 155 | 47 => 156 | 48 => 157 | 49 => 158 | 50 => 159 | 57 => 166 | n => n, fun | 22 => 78 | 24 => 9 | 25 => 97 | 3 => 3 | 39 => 145 | 0 => 0 | 53 => 172 | 55 => 174 | 4 => 4 | 46 => 165 | 45 => 164 | 50 => 169 | 5 => 5 | 9 => 9 | 66 => 186 | 70 => 190 | 76 => 196 | 77 => 197 | n => n, fun | n => n⟩
theorem Tryz.laysSlF6_f127 : Go.Proofs.SlLaysF.n6 Tryz.prog Tryz.laysSlF6_f127_ren := {
  mixed := by kernel_rfl
  f6 := ⟨Tryz.f95.name, by decide, Tryz.func95.trans (congrArg some (by kernel_rfl))⟩
  f14 := ⟨Tryz.f116.name, by decide, Tryz.func116.trans (congrArg some (by kernel_rfl))⟩
  f15 := Tryz.func117.trans (congrArg some (by kernel_rfl))
  f20 := ⟨Tryz.f136.name, by decide, Tryz.func136.trans (congrArg some (by kernel_rfl))⟩
  f21 := ⟨Tryz.f137.name, by decide, Tryz.func137.trans (congrArg some (by kernel_rfl))⟩
  f22 := ⟨Tryz.f138.name, by decide, Tryz.func138.trans (congrArg some (by kernel_rfl))⟩
  f23 := ⟨Tryz.f139.name, by decide, Tryz.func139.trans (congrArg some (by kernel_rfl))⟩
  f24 := ⟨Tryz.f140.name, by decide, Tryz.func140.trans (congrArg some (by kernel_rfl))⟩
  f25 := ⟨Tryz.f141.name, by decide, Tryz.func141.trans (congrArg some (by kernel_rfl))⟩
  f26 := ⟨Tryz.f142.name, by decide, Tryz.func142.trans (congrArg some (by kernel_rfl))⟩
  f27 := ⟨Tryz.f143.name, by decide, Tryz.func143.trans (congrArg some (by kernel_rfl))⟩
  f28 := Tryz.func144.trans (congrArg some (by kernel_rfl))
  f29 := Tryz.func145.trans (congrArg some (by kernel_rfl))
  f46 := ⟨Tryz.f155.name, by decide, Tryz.func155.trans (congrArg some (by kernel_rfl))⟩
  f47 := Tryz.func156.trans (congrArg some (by kernel_rfl))
  f48 := Tryz.func157.trans (congrArg some (by kernel_rfl))
  f49 := ⟨Tryz.f158.name, by decide, Tryz.func158.trans (congrArg some (by kernel_rfl))⟩
  f50 := ⟨Tryz.f159.name, by decide, Tryz.func159.trans (congrArg some (by kernel_rfl))⟩
  f57 := ⟨Tryz.f166.name, by decide, Tryz.func166.trans (congrArg some (by kernel_rfl))⟩
  t0 := Tryz.underlying0
  a0 := Tryz.isAgg0
  z0 := Tryz.sizeOf0
  v0 := Tryz.zeroValue0
  t3 := Tryz.underlying3
  a3 := Tryz.isAgg3
  z3 := Tryz.sizeOf3
  v3 := Tryz.zeroValue3
  t4 := Tryz.underlying4
  a4 := Tryz.isAgg4
  z4 := Tryz.sizeOf4
  v4 := Tryz.zeroValue4
  t5 := Tryz.underlying5
  a5 := Tryz.isAgg5
  z5 := Tryz.sizeOf5
  v5 := Tryz.zeroValue5
  t9 := Tryz.underlying9
  a9 := Tryz.isAgg9
  z9 := Tryz.sizeOf9
  v9 := Tryz.zeroValue9
  t22 := Tryz.underlying78
  a22 := Tryz.isAgg78
  z22 := Tryz.sizeOf78
  v22 := Tryz.zeroValue78
  a24 := Tryz.isAgg9
  z24 := Tryz.sizeOf9
  t25 := Tryz.underlying97
  a25 := Tryz.isAgg97
  z25 := Tryz.sizeOf97
  v25 := Tryz.zeroValue97
  t39 := Tryz.underlying145
  a39 := Tryz.isAgg145
  z39 := Tryz.sizeOf145
  v39 := Tryz.zeroValue145
  t45 := Tryz.underlying164
  a45 := Tryz.isAgg164
  z45 := Tryz.sizeOf164
  v45 := Tryz.zeroValue164
  t46 := Tryz.underlying165
  a46 := Tryz.isAgg165
  z46 := Tryz.sizeOf165
  v46 := Tryz.zeroValue165
  t50 := Tryz.underlying169
  a50 := Tryz.isAgg169
  z50 := Tryz.sizeOf169
  v50 := Tryz.zeroValue169
  t53 := Tryz.underlying172
  a53 := Tryz.isAgg172
  z53 := Tryz.sizeOf172
  v53 := Tryz.zeroValue172
  t55 := Tryz.underlying174
  a55 := Tryz.isAgg174
  z55 := Tryz.sizeOf174
  v55 := Tryz.zeroValue174
  t66 := Tryz.underlying186
  a66 := Tryz.isAgg186
  z66 := Tryz.sizeOf186
  v66 := Tryz.zeroValue186
  t70 := Tryz.underlying190
  a70 := Tryz.isAgg190
  z70 := Tryz.sizeOf190
  v70 := Tryz.zeroValue190
  t76 := Tryz.underlying196
  a76 := Tryz.isAgg196
  z76 := Tryz.sizeOf196
  v76 := Tryz.zeroValue196
  t77 := Tryz.underlying197
  a77 := Tryz.isAgg197
  z77 := Tryz.sizeOf197
  v77 := Tryz.zeroValue197 }
open Go.RowKit Go.Lib Go.Sort in
theorem Tryz.slices_SortFunc {α : Type} [Inhabited α] (enc : α → Value) (h1 : OneCell enc) (cf : α → α → Int) (hO : SWO (ltOf cf)) (g : Nat) (cb : Array Value) (blk off cap : Nat) (d : Array α) (w : World) (eg : ∀ args w, (callFunc g args).run Tryz.prog w = .ok (.enter g args) w) (hcmp : CmpLays1 Tryz.prog g cb enc cf blk off d.size w) (hH : Holds enc w blk off d) (hblk : blk < w.heap.size) (hsz : d.size < 4611686018427387904) :
    Calls Tryz.prog 95 #[.slice (some ⟨blk, off, none⟩) d.size cap, .func (.func g) #[] cb] w fun e w' =>
      e = .returned (.tuple #[]) ∧ ∃ d' n os, PermIn 0 d.size d d' ∧ SortedIn (ltOf cf) 0 d.size d' ∧ w' = sortWorld enc w blk off n d' os := Any.slices_SortFunc Tryz.laysSlF6_f127 enc h1 cf hO g cb blk off cap d w eg hcmp hH hblk hsz
def Tryz.laysSlF06_f127_ren : Go.Shelf.Ren := ⟨fun | 6 => 95 | 15 => 117 | 14 => 116 | 28 => 144 | 29 => 145 | 20 => 136 | 21 => 137 | 22 => 138 | 23 => 139 | 24 => 140 | 25 => 141 | 26 => 142 | 27 => 143 | 46 => 155 | 47 => 156 | 48 => 157 | 49 => 158 | 50 => 159 | 57 => 166 | n => n, fun | 22 => 78 | 24 => 9 | 25 => 97 | 3 => 3 | 39 => 145 | 0 => 0 | 53 => 172 | 55 => 174 | 4 => 4 | 46 => 165 | 45 => 164 | 50 => 169 | 5 => 5 | 9 => 9 | 66 => 186 | 70 => 190 | 76 => 196 | 77 => 197 | n => n, fun | n => n⟩
theorem Tryz.laysSlF06_f127 : Go.Proofs.SlLaysF0.n6 Tryz.prog Tryz.laysSlF06_f127_ren := {
  mixed := by kernel_rfl
  f6 := ⟨Tryz.f95.name, by decide, Tryz.func95.trans (congrArg some (by kernel_rfl))⟩
  f14 := ⟨Tryz.f116.name, by decide, Tryz.func116.trans (congrArg some (by kernel_rfl))⟩
  f15 := Tryz.func117.trans (congrArg some (by kernel_rfl))
  f20 := ⟨Tryz.f136.name, by decide, Tryz.func136.trans (congrArg some (by kernel_rfl))⟩
  f21 := ⟨Tryz.f137.name, by decide, Tryz.func137.trans (congrArg some (by kernel_rfl))⟩
  f22 := ⟨Tryz.f138.name, by decide, Tryz.func138.trans (congrArg some (by kernel_rfl))⟩
  f23 := ⟨Tryz.f139.name, by decide, Tryz.func139.trans (congrArg some (by kernel_rfl))⟩
  f24 := ⟨Tryz.f140.name, by decide, Tryz.func140.trans (congrArg some (by kernel_rfl))⟩
  f25 := ⟨Tryz.f141.name, by decide, Tryz.func141.trans (congrArg some (by kernel_rfl))⟩
  f26 := ⟨Tryz.f142.name, by decide, Tryz.func142.trans (congrArg some (by kernel_rfl))⟩
  f27 := ⟨Tryz.f143.name, by decide, Tryz.func143.trans (congrArg some (by kernel_rfl))⟩
  f28 := Tryz.func144.trans (congrArg some (by kernel_rfl))
  f29 := Tryz.func145.trans (congrArg some (by kernel_rfl))
  f46 := ⟨Tryz.f155.name, by decide, Tryz.func155.trans (congrArg some (by kernel_rfl))⟩
  f47 := Tryz.func156.trans (congrArg some (by kernel_rfl))
  f48 := Tryz.func157.trans (congrArg some (by kernel_rfl))
  f49 := ⟨Tryz.f158.name, by decide, Tryz.func158.trans (congrArg some (by kernel_rfl))⟩
  f50 := ⟨Tryz.f159.name, by decide, Tryz.func159.trans (congrArg some (by kernel_rfl))⟩
  f57 := ⟨Tryz.f166.name, by decide, Tryz.func166.trans (congrArg some (by kernel_rfl))⟩
  t0 := Tryz.underlying0
  a0 := Tryz.isAgg0
  z0 := Tryz.sizeOf0
  v0 := Tryz.zeroValue0
  t3 := Tryz.underlying3
  a3 := Tryz.isAgg3
  z3 := Tryz.sizeOf3
  v3 := Tryz.zeroValue3
  t4 := Tryz.underlying4
  a4 := Tryz.isAgg4
  z4 := Tryz.sizeOf4
  v4 := Tryz.zeroValue4
  t5 := Tryz.underlying5
  a5 := Tryz.isAgg5
  z5 := Tryz.sizeOf5
  v5 := Tryz.zeroValue5
  t9 := Tryz.underlying9
  a9 := Tryz.isAgg9
  z9 := Tryz.sizeOf9
  v9 := Tryz.zeroValue9
  t22 := Tryz.underlying78
  a22 := Tryz.isAgg78
  z22 := Tryz.sizeOf78
  v22 := Tryz.zeroValue78
  t25 := Tryz.underlying97
  a25 := Tryz.isAgg97
  z25 := Tryz.sizeOf97
  v25 := Tryz.zeroValue97
  t39 := Tryz.underlying145
  a39 := Tryz.isAgg145
  z39 := Tryz.sizeOf145
  v39 := Tryz.zeroValue145
  t45 := Tryz.underlying164
  a45 := Tryz.isAgg164
  z45 := Tryz.sizeOf164
  v45 := Tryz.zeroValue164
  t46 := Tryz.underlying165
  a46 := Tryz.isAgg165
  z46 := Tryz.sizeOf165
  v46 := Tryz.zeroValue165
  t50 := Tryz.underlying169
  a50 := Tryz.isAgg169
  z50 := Tryz.sizeOf169
  v50 := Tryz.zeroValue169
  t53 := Tryz.underlying172
  a53 := Tryz.isAgg172
  z53 := Tryz.sizeOf172
  v53 := Tryz.zeroValue172
  t55 := Tryz.underlying174
  a55 := Tryz.isAgg174
  z55 := Tryz.sizeOf174
  v55 := Tryz.zeroValue174
  t66 := Tryz.underlying186
  a66 := Tryz.isAgg186
  z66 := Tryz.sizeOf186
  v66 := Tryz.zeroValue186
  t70 := Tryz.underlying190
  a70 := Tryz.isAgg190
  z70 := Tryz.sizeOf190
  v70 := Tryz.zeroValue190
  t76 := Tryz.underlying196
  a76 := Tryz.isAgg196
  z76 := Tryz.sizeOf196
  v76 := Tryz.zeroValue196
  t77 := Tryz.underlying197
  a77 := Tryz.isAgg197
  z77 := Tryz.sizeOf197
  v77 := Tryz.zeroValue197 }
open Go.RowKit Go.Lib Go.Sort in
theorem Tryz.slices_SortFunc_none {α : Type} [Inhabited α] (p : Option Addr) (cap : Nat) (fv : Value) (w : World) :
    Calls Tryz.prog 95 #[.slice p 0 cap, fv] w fun e w' => e = .returned (.tuple #[]) ∧ w' = w := AnyF.slices_SortFunc_none Tryz.laysSlF06_f127 p cap fv w
end Go.Proofs

namespace Go.Proofs.YtopjhebhdopjpaaGreat
open Go.RowKit Go.Sort Go.Lib

theorem ltB_ne {a b : List UInt8} (h : ltB b a = false) (hne : a ≠ b) : ltB a b = true := by
  cases hab : ltB a b with
  | true => rfl
  | false => exact absurd (ltB_total hab h) hne
theorem compactE_inv (d : Array (List UInt8)) (hs : ∀ i j, i < j → j < d.size → ltB d[j]! d[i]! = false) : ∀ m, m ≤ d.size → UpE (compactUpTo d m) ∧ ∀ v, v ∈ compactUpTo d m ↔ ∃ j, j < m ∧ d[j]! = v
  | 0, _ => ⟨List.Pairwise.nil, fun v => ⟨fun h => by simp [compactUpTo] at h, fun ⟨j, hj, _⟩ => by omega⟩⟩
  | m + 1, hm => by
    obtain ⟨h1, h2⟩ := compactE_inv d hs m (by omega)
    rw [compactUpTo_succ]
    cases hk : keeps d m with
    | true =>
      rw [if_pos rfl]
      refine ⟨List.pairwise_append.2 ⟨h1, List.pairwise_singleton .., fun a ha b hb => ?_⟩, fun v => ?_⟩
      · rw [List.mem_singleton] at hb
        subst hb
        obtain ⟨j, hj, rfl⟩ := (h2 a).1 ha
        have hne : d[m - 1]! ≠ d[m]! := by
          simp only [keeps, decide_eq_true_eq] at hk
          rcases hk with hk | hk
          · omega
          · exact fun e => hk e.symm
        have hl := ltB_ne (hs (m - 1) m (by omega) (by omega)) hne
        by_cases e : j = m - 1
        · subst e; exact hl
        · exact ltB_of_le_of_lt (hs j (m - 1) (by omega) (by omega)) hl
      · rw [List.mem_append, List.mem_singleton, h2]
        constructor
        · rintro (⟨j, hj, rfl⟩ | rfl)
          · exact ⟨j, by omega, rfl⟩
          · exact ⟨m, by omega, rfl⟩
        · rintro ⟨j, hj, rfl⟩
          by_cases e : j = m
          · subst e; exact .inr rfl
          · exact .inl ⟨j, by omega, rfl⟩
    | false =>
      rw [if_neg (by simp), List.append_nil]
      refine ⟨h1, fun v => ?_⟩
      rw [h2]
      simp only [keeps, decide_eq_false_iff_not, not_or, Decidable.not_not] at hk
      constructor
      · rintro ⟨j, hj, rfl⟩
        exact ⟨j, by omega, rfl⟩
      · rintro ⟨j, hj, rfl⟩
        by_cases e : j = m
        · subst e; exact ⟨j - 1, by omega, hk.2.symm⟩
        · exact ⟨j, by omega, rfl⟩
def SortedE (m : List (List UInt8)) : Prop := m.Pairwise fun a b => ltB b a = false
theorem compactE_sort {l m : List (List UInt8)} (hp : m.Perm l) (hs : SortedE m) : UpE (compact m) ∧ ∀ x, x ∈ compact m ↔ x ∈ l := by
  have hg : ∀ j (h : j < m.length), m.toArray[j]! = m[j] := fun j h => by rw [getElem!_pos m.toArray j (by simpa using h)]; simp
  obtain ⟨h1, h2⟩ := compactE_inv m.toArray (fun i j hij hj => by
    have hj' : j < m.length := by simpa using hj
    rw [hg j hj', hg i (by omega)]
    exact List.pairwise_iff_getElem.1 hs i j (by omega) hj' hij) m.length (by simp)
  refine ⟨h1, fun v => ?_⟩
  show v ∈ compactUpTo m.toArray m.length ↔ _
  rw [h2, ← hp.mem_iff]
  constructor
  · rintro ⟨j, hj, rfl⟩
    rw [hg j hj]
    exact List.getElem_mem hj
  · intro hv
    obtain ⟨j, hj, rfl⟩ := List.getElem_of_mem hv
    exact ⟨j, hj, hg j hj⟩
theorem compactE_len (m : List (List UInt8)) : (compact m).length ≤ m.length := by
  unfold compact compactUpTo
  rw [List.length_map]
  exact Nat.le_trans (List.length_filter_le _ _) (by rw [List.length_range]; exact Nat.le_refl _)

theorem str_row : ∀ l : List (List UInt8), kStr.row l = l.map encStr
  | [] => rfl
  | x :: l => by rw [kStr.row_cons, str_row l]; rfl
theorem strs_rowS {w : World} {base : Nat} {v : Value} {l : List (List UInt8)} (h : kStr.Own w base v l) : w.ownsRow base 9 1 v l.length (l.map encStr) := by
  rw [← str_row]; exact h
theorem strs_ownS {w : World} {base n : Nat} {v : Value} {l : List (List UInt8)} (h : w.ownsRow base 9 1 v n (l.map encStr)) : kStr.Own w base v l := Kind.Own.of_row (n := n) (by rw [str_row]; exact h)
theorem lt_cmpE (x y : List UInt8) : ltOf Lib.compareBytes x y = ltB x y := by
  obtain ⟨v, hv, h1, _⟩ := cmp_test x y
  unfold ltOf
  rw [hv]; exact h1
theorem swo_cmpE : SWO (ltOf Lib.compareBytes) where
  irrefl x := by rw [lt_cmpE]; exact ltB_irrefl _
  trans x y z h1 h2 := by rw [lt_cmpE] at *; exact ltB_trans h1 h2
  ntrans x y z h1 h2 := by rw [lt_cmpE] at *; exact leB_trans h2 h1
theorem kw_sort (v : Value) (f : List (List UInt8)) (base : Nat) (w : World) (h : kStr.Own w base v f) (hf : f.length ≤ 1000000) (hb : base ≤ w.heap.size) :
    Calls Tryz.prog 95 #[v, .func (.func 60) #[] #[]] w fun e w' => e = .returned (.tuple #[]) ∧ ∃ m, m.Perm f ∧ SortedE m ∧ kStr.Own w' base v m ∧ Below base w w' := by
  by_cases h0 : f = []
  · subst h0
    obtain ⟨A, c, rfl, _⟩ := h.form
    have K := Tryz.slices_SortFunc_none (α := List UInt8) A c (.func (.func 60) #[] #[]) w
    refine Calls.mono K ?_
    rintro e w' ⟨rfl, rfl⟩
    exact ⟨rfl, [], List.Perm.refl _, List.Pairwise.nil, h, Below.refl _ _⟩
  · have hp : 0 < f.length := List.length_pos_iff.2 h0
    have ho := strs_rowS h
    rcases ho.2 with ⟨_, h1⟩ | ⟨g, cap, cur, rfl, hbase, hbk, h1, h2, h3, h4⟩
    · omega
    have hH := holds_of_block hbk (by simpa using h4)
    have hgl : g < w.heap.size := (Array.getElem?_eq_some_iff.1 hbk).1
    have eg : ∀ args w, (callFunc 60 args).run Tryz.prog w = .ok (.enter 60 args) w := enters_of Tryz.func60 (by kernel_rfl) rfl
    have K := Tryz.slices_SortFunc encStr (fun _ => rfl) Lib.compareBytes swo_cmpE 60 #[] g 0 cap f.toArray w eg (fun m os dk _ x y => (key_cmp x y _).mono fun e w' ⟨h1, h2⟩ => ⟨h1, 0, #[], h2.symm⟩) hH hgl (by rw [List.size_toArray]; omega)
    rw [List.size_toArray] at K
    refine Calls.mono K ?_
    rintro e w' ⟨rfl, d, n, os, hpm, hst, rfl⟩
    have hd : d.size = f.length := by have := hpm.1; rwa [List.size_toArray] at this
    have hst2 := pairs_of_sortedIn (lt := ltOf Lib.compareBytes) (d := d) (by rw [hd]; exact hst)
    have hs := ownsRow_sorted (n := n) (os := os) (ts := d.toList) (by rw [Array.length_toList]; exact hd) hbase hbk h1 h2 h3
    rw [Array.toArray_toList] at hs
    refine ⟨rfl, d.toList, perm_of_permIn (by rw [List.size_toArray]; exact hpm), ?_, strs_ownS hs, (Below.refl _ _).grown (grownBy_sorted d) hb (fun j hj => by injection hj with hj; subst hj; exact hbase)⟩
    unfold SortedE
    exact hst2.imp fun {a b} hab => by rw [← lt_cmpE]; exact hab
theorem kw_compact (v : Value) (f : List (List UInt8)) (base : Nat) (w : World) (h : kStr.Own w base v f) (hf : f.length ≤ 1000000) (hb : base ≤ w.heap.size) :
    Calls Tryz.prog 96 #[v] w fun e w' => ∃ v', e = .returned v' ∧ kStr.Own w' base v' (compact f) ∧ Below base w w' := by
  by_cases h0 : f = []
  · subst h0
    obtain ⟨A, c, rfl, _⟩ := h.form
    have K := Tryz.slices_Compact_string_empty A c w
    refine Calls.mono K ?_
    rintro e w' ⟨rfl, rfl⟩
    exact ⟨_, rfl, h, Below.refl _ _⟩
  · have hp : 0 < f.length := List.length_pos_iff.2 h0
    have ho := strs_rowS h
    rcases ho.2 with ⟨_, h1⟩ | ⟨g, cap, cur, rfl, hbase, hbk, h1, h2, h3, h4⟩
    · omega
    have hH := holds_of_block hbk (by simpa using h4)
    have K := Tryz.slices_Compact_string g 0 cap f w hH (by omega) h1
    refine Calls.mono K ?_
    rintro e w' ⟨rfl, q, rfl⟩
    have hle := compactE_len f
    have hs := Lib.ownsRow_putRow (q := q) (k := (compact f).length) (ys := compact f ++ List.replicate (f.length - (compact f).length) []) ho (by simp; omega) hle
    rw [List.take_left] at hs
    exact ⟨_, rfl, strs_ownS hs, Lib.below_putRow (Below.refl _ _) hbase⟩
end Go.Proofs.YtopjhebhdopjpaaGreat

namespace Go.Proofs.YtopjhebhdopjpaaGreat
open Go.RowKit

theorem str_row0 (w : World) (s : List UInt8) (S : ByteArray) (hS : str s = S) : RowAt (w.alloc (.cells #[.string S] 9)) (w.heap.size + 1) (some ⟨w.heap.size, 0, none⟩) (kStr.row [s]) := by
  subst hS
  exact (Kind.rd_new (k := kStr) (l := [s]) rfl rfl (by simp)).row
theorem le_alloc' {B : Nat} {w : World} (h : B ≤ w.heap.size) (o : Obj) : B ≤ (w.alloc o).heap.size := by rw [size1]; omega
def ApartV (v u : Value) : Prop := v.ownBlock = none ∨ v.ownBlock ≠ u.ownBlock
theorem apart_next {w w' : World} {base : Nat} {v u u' : Value} {bs : List Ps} (h : kPs.Own w base v bs) (ha : ApartV v u) (hg : w.grownBy w' u.ownBlock) (hu : u'.ownBlock = u.ownBlock ∨ u'.ownBlock = some w.heap.size) : kPs.Own w' base v bs ∧ ApartV v u' := by
  refine ⟨h.kept hg ha, ?_⟩
  rcases hu with e | e
  · unfold ApartV; rw [e]; exact ha
  · cases hv : v.ownBlock with
    | none => exact .inl hv
    | some g => exact .inr fun e2 => by rw [e, hv] at e2; injection e2 with e2; have := (h.lt g hv).2; omega
theorem own_piece {w w0 : World} {base n c : Nat} {S : Nat → Prop} {A : Option Addr} {bs : List Ps} {k : List Pc} (h : kPs.Own w base (.slice A n c) bs) (hall : dPc.All w0 S bs k) {j : Nat} {x : Pc} (hx : k[j]? = some x) :
    ∃ (b o : Nat) (A' : Option Addr) (n' c' : Nat), A = some ⟨b, o, none⟩ ∧ b < w.heap.size ∧ w.cell? ⟨b, o + j * 4, none⟩ = some (.string (str x.rng.lo)) ∧ w.cell? ⟨b, o + j * 4 + 1, none⟩ = some (.string (str x.rng.hi)) ∧ w.cell? ⟨b, o + j * 4 + 2, none⟩ = some (.bool x.rng.op) ∧ w.cell? ⟨b, o + j * 4 + 3, none⟩ = some (.slice A' n' c') := by
  have hj : j < bs.length := by rw [hall.1]; exact (List.getElem?_eq_some_iff.1 hx).1
  obtain ⟨y, hy⟩ : ∃ y, bs[j]? = some y := ⟨_, List.getElem?_eq_getElem hj⟩
  obtain ⟨b, o, e1, e2, e3⟩ := h.rd.at_ (by omega)
  have hr := (hall.2 j y x hy hx).1
  refine ⟨b, o, y.A, y.n, y.c, e1, e2, ?_, ?_, ?_, e3 j y hy 3 _ rfl⟩
  · rw [← hr]; exact e3 j y hy 0 _ rfl
  · rw [← hr]; exact e3 j y hy 1 _ rfl
  · rw [← hr]; exact e3 j y hy 2 _ rfl
def tailE (q : Bool) (h : List UInt8) : List (List UInt8) := match q with
  | true => []
  | false => [h]
theorem edgesP_two (p : Pc) : edgesP [p] = [p.rng.lo] ++ tailE p.rng.op p.rng.hi := by
  rw [edgesP_one]
  cases p.rng.op <;> rfl
set_option maxRecDepth 100000 in
set_option maxHeartbeats 8000000 in
theorem kw_edges (A B : Option Addr) (c d n m : Nat) (a b : List Pc) (hn : n = a.length) (hm : m = b.length) (hnl : n ≤ 40000) (hml : m ≤ 40000) (w : World) (ha : RdPc w A c a) (hb : RdPc w B d b) :
    Calls Tryz.prog 68 #[.slice A n c, .slice B m d] w fun e w' => ∃ v es, e = .returned v ∧ EdgesOf a b es ∧ es.length ≤ 2 * (n + m) ∧ kStr.Own w' w.heap.size v es ∧ Below w.heap.size w w' := by
  obtain ⟨w1, hm1, ho1, hb1⟩ := run_make_k kStr w w.heap.size (2 * n + 2 * m) (by omega) (by decide) (Nat.le_refl _)
  have hmk : (Instr.makeSlice 78 (.int .i64 0) (.int .i64 (2 * (n : Int) + 2 * (m : Int)))).run Tryz.prog w = .ok (.slice (some ⟨w.heap.size, 0, none⟩) 0 (2 * n + 2 * m)) w1 := by
    have h := hm1
    rw [show (((2 * n + 2 * m : Nat)) : Int) = 2 * (n : Int) + 2 * (m : Int) by omega] at h
    exact h
  have hcx : n ≤ c := by rw [hn]; exact ha.room
  have hdx : m ≤ d := by rw [hm]; exact hb.room
  obtain ⟨w2, hw2⟩ : ∃ w2, w1.alloc (.cells #[.slice A n c, .slice B m d] 22) = w2 := ⟨_, rfl⟩
  have hb2 : Below w1.heap.size w1 w2 := hw2 ▸ below_new w1 _
  have C := Lib.hid (kw_concat (some ⟨w1.heap.size, 0, none⟩) 2 2 [a, b] rfl (by omega) (fun l hl => by simp at hl; rcases hl with rfl | rfl <;> omega) w2 (hw2 ▸ rdPP_two hn hm (ha.call hb1) (hb.call hb1)))
  obtain ⟨ab, hab⟩ : ∃ ab, a ++ b = ab := ⟨_, rfl⟩
  rw [show [a, b].flatten = a ++ b by simp, hab] at C
  obtain ⟨N, hN⟩ : ∃ N, N = ab.length := ⟨_, rfl⟩
  have hNl : N = n + m := by rw [hN, ← hab, List.length_append, hn, hm]
  have HN := Lib.hid hN
  have HO1 := Lib.hid (ho1.below hb2)
  have HB2 := Lib.hid (hb1.trans (hb2.mono hb1.size))
  have hlt0 : w.heap.size < w2.heap.size := Nat.lt_of_lt_of_le (ho1.lt _ rfl).2 hb2.size
  have HAB := Lib.hid hab
  clear hn hm ha hb ho1 hm1 hb1 hb2 hab hN
  go_enter Tryz.func68, Tryz.ntmps68
  go_wp2_with ((with_reducible refine C.out.mono ?_); rintro e w3 ⟨vv, rfl, ⟨bs, hown, hall⟩, hq⟩; obtain ⟨A9, c9, rfl, -⟩ := hown.read_n (HN.out.trans hall.1.symm); have HV := Lib.hid (hown.mono HB2.out.size); have HVB := Lib.hid (fun g (h : (Value.slice A9 N c9).ownBlock = some g) => (hown.lt g h).1); have HALL := Lib.hid hall; have HO3 := Lib.hid (HO1.out.below hq); have HB3 := Lib.hid (HB2.out.trans (hq.mono HB2.out.size)); clear hown hall hq)
  have HAP := Lib.hid (show ApartV (.slice A9 N c9) (.slice (some ⟨w.heap.size, 0, none⟩) 0 (2 * n + 2 * m)) from by
    cases hv : (Value.slice A9 N c9).ownBlock with
    | none => exact .inl hv
    | some g => exact .inr fun e2 => by rw [hv] at e2; have e3 : some g = some w.heap.size := e2; injection e3 with e3; have := HVB.out g hv; omega)
  have hNc : N ≤ c9 := by rw [HN.out, ← HALL.out.1]; exact HV.out.rd.room
  clear C HVB hw2 hmk
  go_loopw [5, 21] (fun v i wr => ∃ j : Nat, j ≤ N ∧ Hid (kStr.Own wr w.heap.size v (edgesP (ab.take j))) ∧ Hid (kPs.Own wr w.heap.size (.slice A9 N c9) bs ∧ ApartV (.slice A9 N c9) v) ∧ i = .int .i64 j ∧ Hid (Below w.heap.size w wr)) (fun _ i _ => N - (intOf i).toNat)
  case atStart => exact ⟨0, by omega, HO3.out, ⟨HV.out, HAP.out⟩, rfl, HB3.out⟩
  case round =>
    clear HO3 HV HAP HB3
    obtain ⟨j, hj, HO, HP, rfl, HW⟩ := hrel
    by_cases hlt : j < N
    · obtain ⟨x, hg, -, -⟩ := get_some (l := ab) (k := j) (by have := HN.out; omega)
      obtain ⟨b, o, A', n', c', rfl, hb1, p0, p1, p2, p3⟩ := own_piece HP.out.1 HALL.out hg
      obtain ⟨S1, hS1⟩ : ∃ S, str x.rng.lo = S := ⟨_, rfl⟩
      obtain ⟨S2, hS2⟩ : ∃ S, str x.rng.hi = S := ⟨_, rfl⟩
      obtain ⟨q, hq⟩ : ∃ q, x.rng.op = q := ⟨_, rfl⟩
      rw [hS1] at p0
      rw [hS2] at p1
      rw [hq] at p2
      have HE := Lib.hid (show edgesP (ab.take (j + 1)) = edgesP (ab.take j) ++ [x.rng.lo] ++ tailE q x.rng.hi by rw [edgesP_take hg, edgesP_two, hq, List.append_assoc])
      have hel := edgesP_len (ab.take j)
      rw [List.length_take] at hel
      have HLE := Lib.hid (show (edgesP (ab.take j)).length + [x.rng.lo].length ≤ 1000000 by rw [List.length_singleton]; omega)
      have HLE2 := Lib.hid (show (edgesP (ab.take j) ++ [x.rng.lo]).length + [x.rng.hi].length ≤ 1000000 by rw [List.length_append, List.length_singleton, List.length_singleton]; omega)
      obtain ⟨wb, hwb⟩ : ∃ wb, wr.alloc (.cells #[.string S1, .string S2, .bool q, .slice A' n' c'] 48) = wb := ⟨_, rfl⟩
      have hbb : Below wr.heap.size wr wb := by rw [← hwb]; exact below_new _ _
      have hnew := heap_new wr (.cells #[.string S1, .string S2, .bool q, .slice A' n' c'] 48) _ rfl
      have t0 : wb.cell? ⟨wr.heap.size, 0, none⟩ = some (.string S1) := by rw [← hwb, cell_of_row _ _ _ _ _ _ hnew]; rfl
      have t1 : wb.cell? ⟨wr.heap.size, 1, none⟩ = some (.string S2) := by rw [← hwb, cell_of_row _ _ _ _ _ _ hnew]; rfl
      have t2 : wb.cell? ⟨wr.heap.size, 2, none⟩ = some (.bool q) := by rw [← hwb, cell_of_row _ _ _ _ _ _ hnew]; rfl
      have T1 := Lib.hid (((bcell (below_new wb (.cells #[.string S1] 9))).1 _ _ (World.block_lt_of_cell? wb _ t1)).trans t1)
      have T2 := Lib.hid (((bcell (below_new wb (.cells #[.string S1] 9))).1 _ _ (World.block_lt_of_cell? wb _ t2)).trans t2)
      have HNE := Lib.hid (show some wr.heap.size ≠ u5.ownBlock from fun e => by have := (HO.out.lt _ e.symm).2; omega)
      have HOB := Lib.hid ((HO.out.below hbb).alloc (.cells #[.string S1] 9))
      have HPB := Lib.hid ((HP.out.1.below hbb).alloc (.cells #[.string S1] 9))
      have HAB2 := Lib.hid HP.out.2
      have HWB := Lib.hid ((HW.out.trans (hbb.mono HW.out.size)).alloc (Nat.le_trans HW.out.size hbb.size) (.cells #[.string S1] 9))
      have HR1 := Lib.hid (str_row0 wb x.rng.lo S1 hS1)
      have HR2 := fun w => Lib.hid (str_row0 w x.rng.hi S2 hS2)
      have HS5 := Lib.hid (Nat.le_trans (Nat.le_trans HW.out.size hbb.size) (show wb.heap.size ≤ (wb.alloc (.cells #[.string S1] 9)).heap.size by simp))
      clear hg hS1 hS2 hq hel hnew hbb HO HP HW
      cases q
      · have HE2 := Lib.hid (show edgesP (ab.take (j + 1)) = edgesP (ab.take j) ++ [x.rng.lo] ++ [x.rng.hi] from HE.out)
        go_wp2_with (first
          | (at_builtin; refine wpList_app_k kStr rfl (.tmp 25) (.tmp 29) rfl w.heap.size _ _ rfl HOB.out _ (some ⟨wb.heap.size, 0, none⟩) 1 1 [x.rng.lo] rfl rfl HR1.out HLE.out (by decide) HS5.out ?_; intro v5 w5 hown5 hg5 hb5 hv5; have HO5 := Lib.hid hown5; have HP5 := Lib.hid (apart_next HPB.out HAB2.out hg5 hv5); have HW5 := Lib.hid (HWB.out.trans hb5); have g1 := hg5.cell T1.out HNE.out; have g2 := hg5.cell T2.out HNE.out; clear hown5 hg5 hb5 hv5)
          | (at_builtin; refine wpList_app_k kStr rfl (.tmp 35) (.tmp 39) rfl w.heap.size _ _ rfl (HO5.out.alloc _) _ (some ⟨w5.heap.size, 0, none⟩) 1 1 [x.rng.hi] rfl rfl (HR2 w5).out HLE2.out (by decide) (le_alloc' HW5.out.size _) ?_; intro v6 w6 hown6 hg6 hb6 hv6; have HO6 := Lib.hid hown6; have HP6 := Lib.hid (apart_next (HP5.out.1.alloc _) HP5.out.2 hg6 hv6); have HW6 := Lib.hid ((HW5.out.alloc HW5.out.size _).trans hb6); clear hown6 hg6 hb6 hv6))
        go_roundw
        case rel => exact ⟨j + 1, by omega, by rw [HE2.out]; exact HO6, HP6, by go_num, HW6⟩
        case measure => simp [intOf]; omega
      · have HE2 := Lib.hid (show edgesP (ab.take (j + 1)) = edgesP (ab.take j) ++ [x.rng.lo] from HE.out.trans (List.append_nil _))
        go_wp2_with (at_builtin; refine wpList_app_k kStr rfl (.tmp 25) (.tmp 29) rfl w.heap.size _ _ rfl HOB.out _ (some ⟨wb.heap.size, 0, none⟩) 1 1 [x.rng.lo] rfl rfl HR1.out HLE.out (by decide) HS5.out ?_; intro v5 w5 hown5 hg5 hb5 hv5; have HO5 := Lib.hid hown5; have HP5 := Lib.hid (apart_next HPB.out HAB2.out hg5 hv5); have HW5 := Lib.hid (HWB.out.trans hb5); have g1 := hg5.cell T1.out HNE.out; have g2 := hg5.cell T2.out HNE.out; clear hown5 hg5 hb5 hv5)
        go_roundw
        case rel => exact ⟨j + 1, by omega, by rw [HE2.out]; exact HO5, HP5, by go_num, HW5⟩
        case measure => simp [intOf]; omega
    · have HTK := Lib.hid (show ab.take j = ab from List.take_of_length_le (by have := HN.out; omega))
      rw [HTK.out] at HO
      have hel := edgesP_len ab
      have HEL := Lib.hid (show (edgesP ab).length ≤ 2 * (n + m) by have := HN.out; omega)
      have K1 := Lib.hid (kw_sort u5 (edgesP ab) w.heap.size wr HO.out (by have := HN.out; omega) HW.out.size)
      have K2 := Lib.hid (fun (mm : List (List UInt8)) (h9 : mm.length ≤ 1000000) w' h hb => kw_compact u5 mm w.heap.size w' h h9 hb)
      clear HO hel
      go_wp2_with (first
        | ((with_reducible refine K1.out.mono ?_); rintro e w6 ⟨rfl, mm, hm1, hm2, hm3, hm4⟩; have H1 := Lib.hid hm1; have H2 := Lib.hid hm2; have H3 := Lib.hid hm3; have H4 := Lib.hid (HW.out.trans hm4); have H5 := Lib.hid (show mm.length ≤ 1000000 by rw [hm1.length_eq]; have := HEL.out; omega); clear hm1 hm2 hm3 hm4)
        | ((with_reducible refine (K2.out _ H5.out _ H3.out H4.out.size).mono ?_); rintro e w7 ⟨v7, rfl, ho7, hq⟩; have H6 := Lib.hid ho7; have H7 := Lib.hid (H4.out.trans hq); clear ho7 hq))
      go_ret
      have hc := compactE_sort H1.out H2.out
      refine ⟨v7, _, rfl, ⟨hc.1, fun x => by rw [HAB.out]; exact hc.2 x⟩, ?_, H6.out, H7.out⟩
      have := compactE_len mm
      rw [H1.out.length_eq] at this
      exact Nat.le_trans this HEL.out
end Go.Proofs.YtopjhebhdopjpaaGreat

namespace Go.Proofs.YtopjhebhdopjpaaGreat
open Go.RowKit

def cutK (A : Option Addr) (j size c : Nat) : Option Addr := if c = j then A else A.map (·.add (j * size))
theorem Kind.run_cutK {P : Program} {α : Type} (k : Kind P α) (hs : ∀ w, (sizeOf k.el).run P w = .ok k.size w) (w : World) (A : Option Addr) (n c j : Nat) (hj : j ≤ n) :
    (Instr.slice k.ty (.slice A n c) (some (.int .i64 (j : Int))) none none).run P w = .ok (.slice (cutK A j k.size c) (n - j) (c - j)) w := by
  have he : P.elem k.ty = k.el := by simp [Program.elem, k.under]
  have ht' : P.underlying k.ty = some (.slice (P.elem k.ty)) := by rw [he]; exact k.under
  rw [run_slice_l w k.ty _ _ _ ht' .i64 _ (by omega) (by omega), he, hs]
  simp [Result.andThen, sliced, cutK]
theorem Kind.run_takeK {P : Program} {α : Type} (k : Kind P α) (hs : ∀ w, (sizeOf k.el).run P w = .ok k.size w) (w : World) (A : Option Addr) (n c j : Nat) (hj : j ≤ c) :
    (Instr.slice k.ty (.slice A n c) none (some (.int .i64 (j : Int))) none).run P w = .ok (.slice A j c) w := by
  have he : P.elem k.ty = k.el := by simp [Program.elem, k.under]
  have ht' : P.underlying k.ty = some (.slice (P.elem k.ty)) := by rw [he]; exact k.under
  rw [run_slice_h w k.ty _ _ _ ht' .i64 _ (by omega) (by omega), he, hs]
  cases A <;> simp [Result.andThen, sliced, Addr.add]
theorem Kind.RdS.drop {P : Program} {α : Type} {k : Kind P α} {w : World} {S : Nat → Prop} {A : Option Addr} {c : Nat} {l : List α} (h : k.RdS w S A c l) {j : Nat} : k.RdS w S (cutK A j k.size c) (c - j) (l.drop j) := by
  have h1 := h.room
  have h2 := h.cap
  refine ⟨?_, by rw [List.length_drop]; omega, by omega⟩
  unfold cutK
  split
  · left
    rw [List.drop_eq_nil_of_le (by omega)]; rfl
  · rcases h.row with h | ⟨b, o, rfl, h3, h4⟩
    · left; rw [k.row_drop, h]; simp
    · refine .inr ⟨b, o + j * k.size, by simp [Go.WideShapes.add_plain], h3, fun i u hu => ?_⟩
      rw [Nat.add_assoc]
      exact h4 _ u (by rw [← hu, k.row_drop, List.getElem?_drop])
theorem Kind.RdS.take {P : Program} {α : Type} {k : Kind P α} {w : World} {S : Nat → Prop} {A : Option Addr} {c : Nat} {l : List α} (h : k.RdS w S A c l) (j : Nat) : k.RdS w S A c (l.take j) := by
  have h1 := h.room
  refine ⟨?_, by rw [List.length_take]; omega, h.cap⟩
  rcases h.row with h | ⟨b, o, rfl, h3, h4⟩
  · left; rw [k.row_take, h]; simp
  · refine .inr ⟨b, o, rfl, h3, fun i u hu => h4 i u ?_⟩
    rw [k.row_take, List.getElem?_take] at hu
    split at hu
    · exact hu
    · cases hu
theorem Kind.Rd.drop {P : Program} {α : Type} {k : Kind P α} {w : World} {B : Nat} {A : Option Addr} {c : Nat} {l : List α} (h : k.Rd w B A c l) {j : Nat} : k.Rd w B (cutK A j k.size c) (c - j) (l.drop j) := by
  have h1 := h.inS.drop (j := j)
  exact ⟨h1.row, h1.room, h1.cap⟩
namespace Deep
variable {P : Program} {β α : Type} {d : Deep P β α}
theorem All.drop {w : World} {S : Nat → Prop} {bs : List β} {s : List α} (h : d.All w S bs s) (j : Nat) : d.All w S (bs.drop j) (s.drop j) :=
  ⟨by rw [List.length_drop, List.length_drop, h.1], fun i b a h1 h2 => h.2 (j + i) b a (by rwa [List.getElem?_drop] at h1) (by rwa [List.getElem?_drop] at h2)⟩
theorem All.take {w : World} {S : Nat → Prop} {bs : List β} {s : List α} (h : d.All w S bs s) (j : Nat) : d.All w S (bs.take j) (s.take j) := by
  refine ⟨by rw [List.length_take, List.length_take, h.1], fun i b a h1 h2 => ?_⟩
  rw [List.getElem?_take] at h1 h2
  split at h1
  · rw [if_pos (by assumption)] at h2
    exact h.2 i b a h1 h2
  · cases h1
theorem Rd.drop {w : World} {S : Nat → Prop} {A : Option Addr} {c : Nat} {s : List α} (h : d.Rd w S A c s) {j : Nat} : d.Rd w S (cutK A j d.k.size c) (c - j) (s.drop j) := by
  obtain ⟨bs, h1, h2⟩ := h
  exact ⟨_, h1.drop, h2.drop j⟩
theorem Rd.take {w : World} {S : Nat → Prop} {A : Option Addr} {c : Nat} {s : List α} (h : d.Rd w S A c s) (j : Nat) : d.Rd w S A c (s.take j) := by
  obtain ⟨bs, h1, h2⟩ := h
  exact ⟨_, h1.take j, h2.take j⟩
end Deep
end Go.Proofs.YtopjhebhdopjpaaGreat
