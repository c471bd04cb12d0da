/-
  Several texts in one: KnwK, RowsG, VstI, VstMrg, Step, VstJ, CntF, VstO, Law13A, Side, VstK, VrOne.
-/
import Derived.Lib.AppendZeros
import Derived.Deep.RegionLaw
import Derived.Test.YtopjhebhdopjpaaGreatMg11
namespace Go.Proofs.YtopjhebhdopjpaaGreat
open Go.RowKit

theorem run_make_k {P : Program} {α : Type} (k : Kind P α) (w : World) (base c : Nat) (hc : c ≤ 1000000) (hby : k.bytes ≤ 1000) (hb : base ≤ w.heap.size) :
    ∃ w', (Instr.makeSlice k.ty (.int .i64 0) (.int .i64 (c : Int))).run P w = .ok (.slice (some ⟨w.heap.size, 0, none⟩) 0 c) w' ∧ k.Own w' base (.slice (some ⟨w.heap.size, 0, none⟩) 0 c) [] ∧ Below w.heap.size w w' := by
  obtain ⟨i0, hi0, hz0, hz1, hz2⟩ := info_parts k.info
  obtain ⟨w', h1, h2, h3⟩ := run_make_own (P := P) w base k.ty k.el i0 k.zero k.size k.under hi0 hz0 hz1 .i64 .i64 c (by rw [hz2]; have := Nat.mul_le_mul hby hc; omega) (by unfold maxLen; omega) hb
  exact ⟨w', h1, Kind.Own.of_row (n := 0) h2, (Below.refl _ _).grown h3 (Nat.le_refl _) (fun g hg => by cases hg)⟩
theorem own_fresh {P : Program} {α : Type} {k : Kind P α} (w : World) : k.Own (w.alloc (.cells #[] k.el)) w.heap.size (.slice (some ⟨w.heap.size, 0, none⟩) 0 0) [] :=
  Kind.Own.of_row (n := 0) ⟨by simp [Kind.row], .inr ⟨w.heap.size, 0, #[], rfl, Nat.le_refl _, heap_new w _ _ rfl, Nat.le_refl _, Nat.zero_le _, by simp, by simp [Kind.row]⟩⟩
theorem row_nil {P : Program} {α : Type} {k : Kind P α} {l : List α} (h : k.row l = []) : l = [] := by
  have h1 := congrArg List.length h
  rw [k.row_len, List.length_nil] at h1
  have := k.pos
  cases l with
  | nil => rfl
  | cons x l => rw [List.length_cons] at h1; have := Nat.mul_pos (show 0 < l.length + 1 by omega) k.pos; omega
theorem rd_none {P : Program} {α : Type} {k : Kind P α} {w : World} {B c : Nat} {l : List α} (h : k.Rd w B none c l) : l = [] := by
  rcases h.row with h | ⟨b, o, h, _⟩
  · exact row_nil h
  · cases h
set_option maxHeartbeats 1000000 in
theorem kw_cloneP (A : Option Addr) (c n : Nat) (l : List Ps) (hn : n = l.length) (hnl : n ≤ 500000) (w : World) (hr : kPs.Rd w w.heap.size A c l) :
    Calls Tryz.prog 65 #[.slice A n c] w fun e w' => ∃ v, e = .returned v ∧ kPs.Own w' w.heap.size v l ∧ Below w.heap.size w w' := by
  have qT : ∀ (w : World) (a : Option Addr) (n c n' c' : Nat), (binOp .eql 22 (.slice a n c) (.slice none n' c')).run Tryz.prog w = .ok (.bool a.isNone) w := fun w a n c n' c' => Lib.run_eql_slice_nil w _ _ a n c n' c' Tryz.underlying22
  cases A with
  | none =>
    obtain rfl := rd_none hr
    obtain rfl : n = 0 := hn
    clear hr
    go_enter Tryz.func65, Tryz.ntmps65
    go_wp2_with fail
    go_ret
    exact ⟨_, rfl, Kind.Own.nil _ _, Below.refl _ _⟩
  | some p =>
    have HO : Hid (kPs.Own (w.alloc (.cells #[] 48)) w.heap.size (.slice (some ⟨w.heap.size, 0, none⟩) 0 0) []) := own_fresh (k := kPs) w
    have HB := Lib.hid (below_new w (.cells #[] 48))
    have HR := Lib.hid (hr.call HB.out).row
    have HN := Lib.hid hn
    have HL := Lib.hid (show ([] : List Ps).length + l.length ≤ 1000000 by rw [List.length_nil]; omega)
    have HS := Lib.hid HB.out.size
    clear hn hr
    go_enter Tryz.func65, Tryz.ntmps65
    go_wp2_with (at_builtin; refine wpList_app_k kPs rfl (.tmp 5) (.tmp 6) rfl w.heap.size _ [] rfl HO.out _ (some p) c n l HN.out rfl HR.out HL.out (by decide) HS.out ?_; intro v3 w3 hown3 hg3 hb3 _; have HO3 := Lib.hid hown3; have HB3 := Lib.hid (HB.out.trans hb3); clear hown3 hb3 hg3)
    go_ret
    exact ⟨_, rfl, HO3.out, HB3.out⟩
set_option maxHeartbeats 1000000 in
theorem kw_cloneK (A : Option Addr) (c n : Nat) (l : List Ks) (hn : n = l.length) (hnl : n ≤ 500000) (w : World) (hr : kKs.Rd w w.heap.size A c l) :
    Calls Tryz.prog 66 #[.slice A n c] w fun e w' => ∃ v, e = .returned v ∧ kKs.Own w' w.heap.size v l ∧ Below w.heap.size w w' := by
  have qT : ∀ (w : World) (a : Option Addr) (n c n' c' : Nat), (binOp .eql 46 (.slice a n c) (.slice none n' c')).run Tryz.prog w = .ok (.bool a.isNone) w := fun w a n c n' c' => Lib.run_eql_slice_nil w _ _ a n c n' c' Tryz.underlying46
  cases A with
  | none =>
    obtain rfl := rd_none hr
    obtain rfl : n = 0 := hn
    clear hr
    go_enter Tryz.func66, Tryz.ntmps66
    go_wp2_with fail
    go_ret
    exact ⟨_, rfl, Kind.Own.nil _ _, Below.refl _ _⟩
  | some p =>
    have HO : Hid (kKs.Own (w.alloc (.cells #[] 64)) w.heap.size (.slice (some ⟨w.heap.size, 0, none⟩) 0 0) []) := own_fresh (k := kKs) w
    have HB := Lib.hid (below_new w (.cells #[] 64))
    have HR := Lib.hid (hr.call HB.out).row
    have HN := Lib.hid hn
    have HL := Lib.hid (show ([] : List Ks).length + l.length ≤ 1000000 by rw [List.length_nil]; omega)
    have HS := Lib.hid HB.out.size
    clear hn hr
    go_enter Tryz.func66, Tryz.ntmps66
    go_wp2_with (at_builtin; refine wpList_app_k kKs rfl (.tmp 5) (.tmp 6) rfl w.heap.size _ [] rfl HO.out _ (some p) c n l HN.out rfl HR.out HL.out (by decide) HS.out ?_; intro v3 w3 hown3 hg3 hb3 _; have HO3 := Lib.hid hown3; have HB3 := Lib.hid (HB.out.trans hb3); clear hown3 hb3 hg3)
    go_ret
    exact ⟨_, rfl, HO3.out, HB3.out⟩
set_option maxHeartbeats 4000000 in
set_option maxRecDepth 100000 in
theorem kw_grow (n : Nat) (hn9 : n ≤ 500000) (w : World) :
    Calls Tryz.prog 115 #[.slice none 0 0, .int .i64 (n : Int)] w fun e w' => ∃ v, e = .returned v ∧ kPs.Own w' w.heap.size v [] ∧ Below w.heap.size w w' := by
  obtain ⟨i0, hi0, hz0, hz1, hz2⟩ := info_parts kPs.info
  have h1 : ¬ ((n : Int) < 0) := by omega
  by_cases h0 : n = 0
  · subst h0
    have fin : Hid (∃ v, (Ending.returned (.slice none 0 0) : Ending) = .returned v ∧ kPs.Own w w.heap.size v [] ∧ Below w.heap.size w w) := Lib.hid ⟨_, rfl, Kind.Own.nil _ _, Below.refl _ _⟩
    clear hi0 hz0 hz1 hz2
    go_enter Tryz.func115, Tryz.ntmps115
    go_wp2
    go_ret
    exact fin.out
  · have h4 : (n : Int) > 0 := by omega
    have hz2' : i0.bytes = 64 := hz2
    have hz1' : i0.size = 4 := hz1
    have hrz : ∀ ty, (Builtin.append_ #[22, 3] ty #[.slice none 0 0, .int .i64 (n : Int)]).run Tryz.prog w =
        .ok (.slice (some ⟨w.heap.size, 0, none⟩) n (grownCap w n 0 48)) (w.drew.alloc (.cells (Builtin.zeroCells kPs.zero.cells n ++ Builtin.zeroCells kPs.zero.cells (grownCap w n 0 48 - n)) 48)) := fun ty =>
      Lib.run_append_nil_zeros w 22 3 ty 48 i0 kPs.zero .i64 .i64 kPs.under Tryz.underlying3 hi0 hz0 n (by omega) (by omega) (by omega) (by rw [hz2']; omega)
    have hGn : n ≤ grownCap w n 0 48 := grownCap_ge w _ _ _
    have hGm : grownCap w n 0 48 ≤ maxLen := grownCap_le_maxLen w n 0 48 (by unfold maxLen; omega)
    obtain ⟨G, hG⟩ : ∃ G, G = grownCap w n 0 48 := ⟨_, rfl⟩
    rw [← hG] at hrz hGn hGm
    have hG63 : G ≤ 9223372036854775807 := by unfold maxLen at hGm; omega
    have K1 : ∀ W : World, (Instr.slice 22 (.slice none 0 0) none (some (.int .i64 0)) none).run Tryz.prog W = .ok (.slice none 0 0) W := fun W => by kernel_rfl
    have K2 : ∀ W : World, (Instr.slice 22 (.slice (some ⟨w.heap.size, 0, none⟩) n G) none (some (.int .i64 0)) none).run Tryz.prog W = .ok (.slice (some ⟨w.heap.size, 0, none⟩) 0 G) W := fun W => by
      have ht' : Tryz.prog.underlying 22 = some (.slice (Tryz.prog.elem 22)) := by simp [Program.elem, Tryz.underlying22]
      have hs : ∀ w, (sizeOf (Tryz.prog.elem 22)).run Tryz.prog w = .ok 4 w := fun w => by kernel_rfl
      rw [run_slice_h W 22 _ _ _ ht' .i64 _ (by omega) (by omega), hs]
      simp [Result.andThen, sliced, Addr.add]
    have zc (k : Nat) : (Builtin.zeroCells kPs.zero.cells k).size = k * 4 := size_zeroCells _ _
    obtain ⟨w2, hw2⟩ : ∃ w2, w2 = w.drew.alloc (.cells (Builtin.zeroCells kPs.zero.cells n ++ Builtin.zeroCells kPs.zero.cells (G - n)) 48) := ⟨_, rfl⟩
    rw [← hw2] at hrz
    have fin : Hid (∃ v, (Ending.returned (.slice (some ⟨w.heap.size, 0, none⟩) 0 G) : Ending) = .returned v ∧ kPs.Own w2 w.heap.size v [] ∧ Below w.heap.size w w2) := by
      rw [hw2]
      refine ⟨_, rfl, ?_, ((Below.refl w.heap.size w).drew).alloc (Nat.le_refl _) _⟩
      refine Kind.Own.of_row (n := 0) ⟨by simp [Kind.row], .inr ⟨w.heap.size, G, _, rfl, Nat.le_refl _, heap_new w.drew _ _ rfl, by omega, hGm, ?_, ?_⟩⟩
      · rw [Array.size_append, zc, zc]
        show n * 4 + (G - n) * 4 = G * 4
        omega
      · simp [Kind.row]
    clear hG hGm zc hz0 hz1 hz2 hi0 hw2 hz1' hz2'
    go_enter Tryz.func115, Tryz.ntmps115
    go_wp2_with (at_builtin; refine Lib.wpList_append_run _ rfl _ _ _ _ rfl _ _ rfl rfl _ _ (hrz _) ?_)
    go_ret
    exact fin.out
theorem kw_flat_len {ls : List (List Pc)} (h : ∀ l ∈ ls, l.length ≤ 40000) (k : Nat) : (ls.take k).flatten.length ≤ k * 40000 := by
  induction k generalizing ls with
  | zero => simp
  | succ k ih =>
    cases ls with
    | nil => simp
    | cons l ls =>
      have h1 := ih (ls := ls) fun m hm => h m (List.mem_cons_of_mem _ hm)
      have h2 := h l (List.mem_cons_self ..)
      rw [List.take_succ_cons, List.flatten_cons, List.length_append]
      omega
theorem take_flatP {ls : List (List Pc)} {k : Nat} {l : List Pc} (h : ls[k]? = some l) : (ls.take (k + 1)).flatten = (ls.take k).flatten ++ l := by
  rw [List.take_add_one, h, List.flatten_append]; simp
theorem rows_atP {w : World} {A : Option Addr} {c : Nat} {ls : List (List Pc)} (h : RdPP w A c ls) {k : Nat} {l : List Pc} (hl : ls[k]? = some l) :
    ∃ b o A1 n1 c1, A = some ⟨b, o, none⟩ ∧ b < w.heap.size ∧ w.cell? ⟨b, o + k, none⟩ = some (.slice A1 n1 c1) ∧ n1 = l.length ∧ RdPc w A1 c1 l := by
  obtain ⟨b, o, e1, -, e2, e3⟩ := Deep.Rd.at_ h (by have := (List.getElem?_eq_some_iff.1 hl).1; omega)
  obtain ⟨y, ⟨g1, g2⟩, g3⟩ := e3 k l hl
  have h6 := g3 0 _ rfl
  rw [show dSlP.k.size = 1 from rfl, Nat.mul_one, Nat.add_zero] at h6
  exact ⟨b, o, y.A, y.n, y.c, e1, e2, h6, g1, g2⟩
theorem RdPP.room {w : World} {A : Option Addr} {c : Nat} {ls : List (List Pc)} (h : RdPP w A c ls) : ls.length ≤ c := Deep.Rd.room h
set_option maxHeartbeats 4000000 in
set_option maxRecDepth 100000 in
theorem kw_concat (A : Option Addr) (c m : Nat) (ls : List (List Pc)) (hm : m = ls.length) (h9 : m ≤ 10) (hl : ∀ l ∈ ls, l.length ≤ 40000) (w : World) (hr : RdPP w A c ls) :
    Calls Tryz.prog 94 #[.slice A m c] w fun e w' => ∃ v, e = .returned v ∧ dPc.Own w' w.heap.size (fun _ => True) v ls.flatten ∧ Below w.heap.size w w' := by
  have HM := Lib.hid hm
  have HR := Lib.hid hr
  have HL := Lib.hid hl
  have hmc : m ≤ c := by rw [hm]; exact hr.room
  clear hm hr hl
  go_enter Tryz.func94, Tryz.ntmps94
  go_wp2_with fail
  go_loop [3, 11] (fun s i => ∃ k t : Nat, k ≤ m ∧ Hid (t = (ls.take k).flatten.length) ∧ t ≤ k * 40000 ∧ s = .int .i64 t ∧ i = .int .i64 k) (fun _ i => m - (intOf i).toNat)
  case atStart => exact ⟨0, 0, by omega, rfl, by omega, rfl, rfl⟩
  case round =>
    obtain ⟨k, t, hk, HT, ht, rfl, rfl⟩ := hrel
    by_cases hlt : k < m
    · obtain ⟨l, hg, hd, hlm⟩ := get_some (l := ls) (k := k) (by have := HM.out; omega)
      obtain ⟨b, o, A1, n1, c1, rfl, hb1, c0, hn1, -⟩ := rows_atP HR.out hg
      have HT2 := Lib.hid (show t + n1 = (ls.take (k + 1)).flatten.length by rw [take_flatP hg, List.length_append, ← HT.out, hn1])
      have hn9 : n1 ≤ 40000 := by rw [hn1]; exact HL.out l hlm
      have t1 : decide (((t + n1 : Nat) : Int) < 0) = false := decide_eq_false (by omega)
      have t2 : decide ((t : Int) + (n1 : Int) < 0) = false := decide_eq_false (by omega)
      clear hg hd hlm hn1 HT
      go_wp2_with fail
      go_round
      case rel => exact ⟨k + 1, t + n1, by omega, HT2, by omega, by go_num, by go_num⟩
      case measure => simp [intOf]; omega
    · obtain rfl : k = m := by omega
      have ht9 : t ≤ 500000 := by omega
      have G := Lib.hid (kw_grow t ht9 w)
      clear hlt HT
      go_wp2_with ((with_reducible refine G.out.mono ?_); rintro e w1 ⟨v, rfl, hown, hq⟩; have HO := Lib.hid (show dPc.Own w1 w.heap.size (fun _ => True) v [] from ⟨[], hown, .nil _ _⟩); have HB := Lib.hid hq; clear hown hq)
      go_loopw [6, 27] (fun v i wr => ∃ j : Nat, j ≤ k ∧ Hid (dPc.Own wr w.heap.size (fun _ => True) v (ls.take j).flatten) ∧ i = .int .i64 j ∧ Hid (Below w.heap.size w wr)) (fun _ i _ => k - (intOf i).toNat)
      case atStart => exact ⟨0, by omega, HO.out, rfl, HB.out⟩
      case round =>
        obtain ⟨j, hj, HO, rfl, HB⟩ := hrel
        by_cases hlt : j < k
        · obtain ⟨l, hg, hd, hlm⟩ := get_some (l := ls) (k := j) (by have := HM.out; omega)
          obtain ⟨b, o, A1, n1, c1, rfl, hb1, c0, hn1, hrd⟩ := rows_atP HR.out hg
          replace c0 := ((bcell HB.out).1 _ _ hb1).trans c0
          replace hb1 := Nat.lt_of_lt_of_le hb1 HB.out.size
          have HX := Lib.hid (take_flatP hg)
          obtain ⟨ys, hys, hyall⟩ := (Deep.Rd.lives hrd).keep (keptS_under HB.out fun g h => h.2)
          obtain ⟨bs, ho, hall⟩ := HO.out
          have HLE := Lib.hid (show bs.length + ys.length ≤ 1000000 by
            have h1 := kw_flat_len HL.out j
            have h2 := HL.out l hlm
            have h3 := hall.1
            have h4 := hyall.1
            omega)
          have HKO := Lib.hid ho
          have HKA := Lib.hid hall
          have HYA := Lib.hid hyall
          have HRW := Lib.hid (And.intro (hn1.trans hyall.1.symm) hys.row.at_)
          have hs := HB.out.size
          clear hg hd hlm hn1 ho hall hys hyall hrd HO
          go_wp2_with (at_builtin; refine wpList_app_k kPs rfl (.tmp 31) (.tmp 32) rfl w.heap.size _ bs rfl HKO.out _ A1 c1 n1 ys HRW.out.1 rfl HRW.out.2 HLE.out (by decide) hs ?_; intro v3 w3 hown3 hg3 hb3 hv3; have HO3 := Lib.hid (Deep.Own.app HKA.out (HYA.out.mono fun g h => ⟨trivial, fun e => by have := (HKO.out.lt g e).1; have := h.2; omega⟩) hown3 hg3 hv3); have HB3 := Lib.hid (HB.out.trans hb3); clear hown3 hb3 hg3 hv3)
          go_roundw
          case rel => exact ⟨j + 1, by omega, show dPc.Own _ _ _ _ _ from by rw [HX.out]; exact HO3.out, by go_num, HB3⟩
          case measure => simp [intOf]; omega
        · obtain rfl : j = k := by omega
          have HF := Lib.hid (show (ls.take j).flatten = ls.flatten by rw [List.take_of_length_le (by have := HM.out; omega)])
          go_wp2_with fail
          go_ret
          exact ⟨_, rfl, by rw [← HF.out]; exact HO.out, HB.out⟩
end Go.Proofs.YtopjhebhdopjpaaGreat

namespace Go.Proofs.YtopjhebhdopjpaaGreat
open Go.RowKit

def upd {α : Type} (V : Nat → α) (k : Nat) (u : α) : Nat → α := fun j => if j = k then u else V j
theorem upd_at {α : Type} (V : Nat → α) (k : Nat) (u : α) : upd V k u k = u := if_pos rfl
theorem upd_far {α : Type} (V : Nat → α) {k j : Nat} (u : α) (h : j ≠ k) : upd V k u j = V j := if_neg h
structure GrAt (w : World) (g : Nat) (V : Nat → Value) : Prop where
  cell : ∀ k, k < 16 → w.cell? ⟨g, k, none⟩ = some (V k)
  free : ∀ k, w.frozen? ⟨g, k, none⟩ = false
theorem GrAt.lt {w : World} {g : Nat} {V : Nat → Value} (h : GrAt w g V) : g < w.heap.size := World.block_lt_of_cell? w _ (h.cell 0 (by omega))
theorem GrAt.below {w w' : World} {g : Nat} {V : Nat → Value} (h : GrAt w g V) (hb : Below w.heap.size w w') : GrAt w' g V := by
  obtain ⟨hc, hf⟩ := bcell hb
  have hl := h.lt
  exact ⟨fun k hk => (hc _ _ hl).trans (h.cell k hk), fun k => (hf _ _ hl).trans (h.free k)⟩
theorem GrAt.low {w w' : World} {g B : Nat} {V : Nat → Value} (h : GrAt w g V) (hb : Below B w w') (hg : g < B) : GrAt w' g V := by
  refine ⟨fun k hk => (hb.cell (p := ⟨g, k, none⟩) hg).trans (h.cell k hk), fun k => ?_⟩
  have h1 := h.free k
  unfold World.frozen? at h1 ⊢
  rw [hb.block g hg]; exact h1
theorem GrAt.grown {w w' : World} {row : Option Nat} {g : Nat} {V : Nat → Value} (h : GrAt w g V) (hg : w.grownBy w' row) (hne : some g ≠ row) : GrAt w' g V :=
  ⟨fun k hk => hg.cell (h.cell k hk) hne, fun k => (hg.frozen_far ⟨g, k, none⟩ h.lt hne).trans (h.free k)⟩
theorem GrAt.alloc {w : World} {g : Nat} {V : Nat → Value} (h : GrAt w g V) (o : Obj) : GrAt (w.alloc o) g V := h.below (below_new w o)
theorem GrAt.drew {w : World} {g : Nat} {V : Nat → Value} (h : GrAt w g V) : GrAt w.drew g V := ⟨h.cell, h.free⟩
theorem GrAt.other {w : World} {g g' k : Nat} {V : Nat → Value} (h : GrAt w g V) (hne : g' ≠ g) (u : Value) : GrAt (w.setCell ⟨g', k, none⟩ u) g V :=
  h.grown (grownBy_set _ _ _ _) (fun e => hne (by injection e with e; exact e.symm))
theorem GrAt.set {w : World} {g k : Nat} {V : Nat → Value} (h : GrAt w g V) (hk : k < 16) (u : Value) : GrAt (w.setCell ⟨g, k, none⟩ u) g (upd V k u) := by
  refine ⟨fun j hj => ?_, fun j => ?_⟩
  · by_cases e : j = k
    · subst e
      rw [upd_at]
      exact World.cell?_setCell_same w _ _ (h.cell j hj)
    · rw [upd_far V u e, World.cell?_setCell_other w _ _ _ (fun e' => e (by injection e' with _ e'; exact e'.symm))]
      exact h.cell j hj
  · have h1 := h.free j
    obtain ⟨cs, t, f, hb⟩ : ∃ cs t f, w.heap[g]? = some (.cells cs t f) := by
      have h2 := h.cell 0 (by omega)
      unfold World.cell? at h2
      split at h2
      · exact ⟨_, _, _, by assumption⟩
      · cases h2
    unfold World.frozen? at h1 ⊢
    rw [hb] at h1
    rw [heap_setCell_self hb]
    exact h1
abbrev grO (V : Nat → Value) (t : TypeId) : Obj := .cells #[V 0, V 1, V 2, V 3, V 4, V 5, V 6, V 7, V 8, V 9, V 10, V 11, V 12, V 13, V 14, V 15] t
theorem lt16 {k : Nat} (hk : k < 16) : k = 0 ∨ k = 1 ∨ k = 2 ∨ k = 3 ∨ k = 4 ∨ k = 5 ∨ k = 6 ∨ k = 7 ∨ k = 8 ∨ k = 9 ∨ k = 10 ∨ k = 11 ∨ k = 12 ∨ k = 13 ∨ k = 14 ∨ k = 15 := by omega
theorem grAt_new (w : World) (V : Nat → Value) (t : TypeId) : GrAt (w.alloc (grO V t)) w.heap.size V := by
  have hb := heap_new w (grO V t) _ rfl
  refine ⟨fun k hk => ?_, fun k => ?_⟩
  · rw [cell_of_row _ _ _ _ _ _ hb]
    rcases lt16 hk with rfl | rfl | rfl | rfl | rfl | rfl | rfl | rfl | rfl | rfl | rfl | rfl | rfl | rfl | rfl | rfl <;> rfl
  · unfold World.frozen?; rw [hb]; simp
theorem GrAt.congr {w : World} {g : Nat} {V W : Nat → Value} (h : GrAt w g V) (e : ∀ k, k < 16 → W k = V k) : GrAt w g W := ⟨fun k hk => by rw [e k hk]; exact h.cell k hk, h.free⟩

structure RowsG (w : World) (base : Nat) (V : Nat → Value) (L : Nat → List Rn) : Prop where
  own : ∀ k, k < 16 → kRn.Own w base (V k) (L k)
  apart : ∀ i j b, i < 16 → j < 16 → i ≠ j → (V i).ownBlock = some b → (V j).ownBlock ≠ some b
theorem RowsG.below {w w' : World} {base : Nat} {V : Nat → Value} {L : Nat → List Rn} (h : RowsG w base V L) (hb : Below w.heap.size w w') : RowsG w' base V L := ⟨fun k hk => (h.own k hk).below hb, h.apart⟩
theorem RowsG.mono {w : World} {base base' : Nat} {V : Nat → Value} {L : Nat → List Rn} (h : RowsG w base V L) (hb : base' ≤ base) : RowsG w base' V L := ⟨fun k hk => (h.own k hk).mono hb, h.apart⟩
theorem RowsG.alloc {w : World} {base : Nat} {V : Nat → Value} {L : Nat → List Rn} (h : RowsG w base V L) (o : Obj) : RowsG (w.alloc o) base V L := h.below (below_new w o)
theorem RowsG.congr {w : World} {base : Nat} {V : Nat → Value} {L M : Nat → List Rn} (h : RowsG w base V L) (e : ∀ k, k < 16 → M k = L k) : RowsG w base V M := ⟨fun k hk => by rw [e k hk]; exact h.own k hk, h.apart⟩
theorem RowsG.set {w : World} {base g k : Nat} {V : Nat → Value} {L : Nat → List Rn} (h : RowsG w base V L) (hg : ∀ j, j < 16 → (V j).ownBlock ≠ some g) (u : Value) : RowsG (w.setCell ⟨g, k, none⟩ u) base V L :=
  ⟨fun j hj => (h.own j hj).kept (grownBy_set _ _ _ _) (.inr (hg j hj)), h.apart⟩
theorem rowsG_nil (w : World) (base : Nat) : RowsG w base (fun _ => .slice none 0 0) (fun _ => []) := ⟨fun _ _ => Kind.Own.nil _ _, fun i j b _ _ _ h => by cases h⟩
theorem RowsG.app {w w' : World} {base k : Nat} {V : Nat → Value} {L : Nat → List Rn} {v' : Value} {l : List Rn} (h : RowsG w base V L) (hk : k < 16) (ho : kRn.Own w' base v' l) (hg : w.grownBy w' (V k).ownBlock) (hv : v'.ownBlock = (V k).ownBlock ∨ v'.ownBlock = some w.heap.size) : RowsG w' base (upd V k v') (upd L k l) := by
  refine ⟨fun j hj => ?_, fun i j b hi hj hne hb => ?_⟩
  · by_cases e : j = k
    · subst e; rw [upd_at, upd_at]; exact ho
    · rw [upd_far _ _ e, upd_far _ _ e]
      refine (h.own j hj).kept hg ?_
      cases hb : (V j).ownBlock with
      | none => exact .inl rfl
      | some b => exact .inr fun e' => h.apart j k b hj hk e hb e'.symm
  · by_cases e1 : i = k
    · subst e1
      rw [upd_at] at hb
      rw [upd_far _ _ (fun e => hne e.symm)]
      rcases hv with e | e
      · exact h.apart i j b hi hj hne (e ▸ hb)
      · rw [e] at hb
        injection hb with hb
        intro h3
        have := ((h.own j hj).lt b h3).2
        omega
    · rw [upd_far _ _ e1] at hb
      by_cases e2 : j = k
      · subst e2
        rw [upd_at]
        rcases hv with e | e
        · rw [e]; exact h.apart i j b hi hj hne hb
        · rw [e]
          intro h3
          injection h3 with h3
          have := ((h.own i hi).lt b hb).2
          omega
      · rw [upd_far _ _ e2]; exact h.apart i j b hi hj hne hb
theorem RowsG.new {w w' : World} {base k : Nat} {V : Nat → Value} {L : Nat → List Rn} {v' : Value} {l : List Rn} (h : RowsG w base V L) (hk : k < 16) (ho : kRn.Own w' w.heap.size v' l) (hb : Below w.heap.size w w') (hs : base ≤ w.heap.size) : RowsG w' base (upd V k v') (upd L k l) := by
  refine ⟨fun j hj => ?_, fun i j b hi hj hne hb => ?_⟩
  · by_cases e : j = k
    · subst e; rw [upd_at, upd_at]; exact ho.mono hs
    · rw [upd_far _ _ e, upd_far _ _ e]
      exact (h.own j hj).below hb
  · by_cases e1 : i = k
    · subst e1
      rw [upd_at] at hb
      rw [upd_far _ _ (fun e => hne e.symm)]
      intro h3
      have h1 := (ho.lt b hb).1
      have h2 := ((h.own j hj).lt b h3).2
      omega
    · rw [upd_far _ _ e1] at hb
      by_cases e2 : j = k
      · subst e2
        rw [upd_at]
        intro h3
        have h1 := (ho.lt b h3).1
        have h2 := ((h.own i hi).lt b hb).2
        omega
      · rw [upd_far _ _ e2]; exact h.apart i j b hi hj hne hb
theorem RowsG.congrV {w : World} {base : Nat} {V W : Nat → Value} {L : Nat → List Rn} (h : RowsG w base V L) (e : ∀ k, k < 16 → W k = V k) : RowsG w base W L :=
  ⟨fun k hk => by rw [e k hk]; exact h.own k hk, fun i j b hi hj hne hb => by rw [e j hj]; rw [e i hi] at hb; exact h.apart i j b hi hj hne hb⟩
abbrev slV (A : Nat → Option Addr) (n c : Nat → Nat) : Nat → Value := fun k => .slice (A k) (n k) (c k)
theorem RowsG.form {w : World} {base : Nat} {V : Nat → Value} {L : Nat → List Rn} (h : RowsG w base V L) (N : Nat → Nat) (hN : ∀ k, (L k).length = N k) : ∃ A c, ∀ k, k < 16 → slV A N c k = V k := by
  have h1 : ∀ k, ∃ p : Option Addr × Nat, k < 16 → .slice p.1 (N k) p.2 = V k := fun k => by
    by_cases hk : k < 16
    · obtain ⟨A, c, e, -⟩ := (h.own k hk).form
      exact ⟨(A, c), fun _ => by rw [e, hN]⟩
    · exact ⟨(none, 0), fun h => absurd h hk⟩
  exact ⟨fun k => (Classical.choose (h1 k)).1, fun k => (Classical.choose (h1 k)).2, fun k hk => Classical.choose_spec (h1 k) hk⟩
theorem RowsG.upd_off {k g : Nat} {w : World} {V : Nat → Value} {v' : Value} (h : ∀ j, j < 16 → (V j).ownBlock ≠ some g) (hg : g < w.heap.size) (hv : v'.ownBlock = (V k).ownBlock ∨ v'.ownBlock = some w.heap.size) (hk : k < 16) : ∀ j, j < 16 → (upd V k v' j).ownBlock ≠ some g := fun j hj => by
  by_cases e : j = k
  · subst e; rw [upd_at]
    rcases hv with e | e
    · rw [e]; exact h j hj
    · rw [e]; intro h1; injection h1 with h1; omega
  · rw [upd_far _ _ e]; exact h j hj
end Go.Proofs.YtopjhebhdopjpaaGreat

namespace Go.Proofs.YtopjhebhdopjpaaGreat
open Go.RowKit

abbrev grV (V : Nat → Value) : Value := .agg #[V 0, V 1, V 2, V 3, V 4, V 5, V 6, V 7, V 8, V 9, V 10, V 11, V 12, V 13, V 14, V 15]
theorem idx16 (V : Nat → Value) {k : Nat} (hk : k < 16) (w : World) : (Instr.index 148 (grV V) (.int .i64 (k : Int))).run Tryz.prog w = .ok (V k) w := by
  rcases lt16 hk with rfl | rfl | rfl | rfl | rfl | rfl | rfl | rfl | rfl | rfl | rfl | rfl | rfl | rfl | rfl | rfl <;> kernel_rfl
theorem holds_old {w w2 : World} {n c : Nat} {T : Nat → Prop} {A : Option Addr} {l : List Rn} {v : Value} {ks : List Ks} (ho : kKs.Own w2 w.heap.size v ks) (hr : kRn.RdS w T A c l) (hb : Below w.heap.size w w2) (hn : n = l.length) (r : Int) : dKn.rel w2 (fun g => (T g ∨ w.heap.size ≤ g) ∧ v.ownBlock ≠ some g) ⟨r, A, n, c⟩ ⟨r, l⟩ :=
  ⟨rfl, hn, (hr.lives.keep (keptS_under hb fun g h => h.2)).mono fun g hg => ⟨.inl hg.1, fun e => by have := (ho.lt g e).1; have := hg.2; omega⟩⟩
set_option maxRecDepth 100000 in
set_option maxHeartbeats 4000000 in
theorem vs_set_new (T : Nat → Prop) (V : Nat → Value) (L : Nat → List Rn) (hV : ∀ k, k < 16 → ∃ A c, V k = .slice A (L k).length c) (f : Int → List Rn) (hf : ∀ k : Nat, f ((k : Int) + 1) = L k) (U : List Kn) (hU : colS f 16 = U) (N : Nat) (hN : U.length = N) (w : World) (hr : ∀ k A n c, k < 16 → V k = .slice A n c → kRn.RdS w T A c (L k)) :
    Calls Tryz.prog 121 #[grV V] w (dKn.Ret w T N U) := by
  have HV := Lib.hid hV
  have HF := Lib.hid hf
  have HU := Lib.hid hU
  have HN := Lib.hid hN
  have HR := Lib.hid hr
  clear hV hf hU hN hr
  go_enter Tryz.func121, Tryz.ntmps121
  go_wp2_with fail
  go_loopw [3, 7] (fun v i wr => ∃ k : Nat, k ≤ 16 ∧ Hid (dKn.Own wr w.heap.size (fun g => T g ∨ w.heap.size ≤ g) v (colS f k)) ∧ i = .int .i64 (k : Int) ∧ Hid (Below w.heap.size w wr)) (fun _ i _ => 16 - (intOf i).toNat)
  case atStart => exact ⟨0, by omega, Deep.Own.nil _ _ _, rfl, below_new _ _⟩
  case round =>
    obtain ⟨k, hk, HO, rfl, HW⟩ := hrel
    by_cases hlt : k < 16
    · have hd : decide ((k : Int) < 16) = true := decide_eq_true (by omega)
      have HS := Lib.hid (show colS f (k + 1) = colS f k ++ putK ((k : Int) + 1) (f ((k : Int) + 1)) from rfl)
      obtain ⟨A3, c3, hv3⟩ := HV.out k hlt
      obtain ⟨N3, hN3⟩ : ∃ N, (L k).length = N := ⟨_, rfl⟩
      rw [hN3] at hv3
      have hrd := HR.out k A3 N3 c3 hlt hv3
      have hmx := rd_maxC hrd.rd hN3.symm
      have I0 := idx16 V hlt
      rw [hv3] at I0
      have HRD := Lib.hid hrd
      have hlk := colS_len f k
      obtain ⟨ks, ho, hall⟩ := HO.out
      have hlen := hall.1
      have HKO := Lib.hid ho
      have HKA := Lib.hid hall
      have HLE := Lib.hid (show ks.length + [(⟨(k : Int) + 1, none, 0, 0⟩ : Ks)].length ≤ 1000000 by rw [hlen, List.length_singleton]; omega)
      by_cases h0 : N3 = 0
      · have HP := Lib.hid (show putK ((k : Int) + 1) (f ((k : Int) + 1)) = [] by rw [HF.out, List.eq_nil_of_length_eq_zero (hN3.trans h0)]; rfl)
        subst h0
        clear hN3 ho hall hlen hlk HLE HKO HKA hrd hv3 HRD hmx
        go_wp2_with fail
        go_roundw
        case rel => exact ⟨k + 1, by omega, show dKn.Own _ _ _ _ _ from by rw [HS.out, HP.out, List.append_nil]; exact HO.out, by go_num, HW⟩
        case measure => simp [intOf]; omega
      · have HP := Lib.hid (show f ((k : Int) + 1) ≠ [] from fun h => h0 (by rw [← hN3, ← HF.out, h]; rfl))
        have HN3 := Lib.hid hN3
        have hp1 : decide ((0 : Int) < (N3 : Int)) = true := decide_eq_true (by omega)
        have hp2 : decide (0 < N3) = true := decide_eq_true (by omega)
        have hp3 : decide ((N3 : Int) > 0) = true := decide_eq_true (by omega)
        have hmxN : N3 ≤ 9223372036854775807 ∨ True := .inr trivial
        clear hN3 ho hall hlen hlk HO hmxN hrd hv3
        go_wp2_with (at_builtin; refine wpList_app_k kKs rfl (.tmp 14) (.tmp 19) rfl w.heap.size _ ks rfl (Kind.Own.alloc HKO.out _) _ (some ⟨wr.heap.size, 0, none⟩) 1 1 [⟨(k : Int) + 1, A3, N3, c3⟩] rfl rfl (ks_row wr _ _ _ _) HLE.out (by decide) (cle_alloc HW.out.size _) ?_; intro v5 w5 hown5 hg5 hb5 hv5; have HO5 := Lib.hid (Deep.Own.app (HKA.out.keep (keptS_below (below_new wr _) _)) (.one (dKn.keep (holds_old HKO.out HRD.out HW.out HN3.out.symm ((k : Int) + 1)) (keptS_below (below_new wr _) _))) hown5 hg5 hv5); have HW5 := Lib.hid ((HW.out.alloc HW.out.size _).trans hb5); clear hown5 hg5 hb5 hv5)
        go_roundw
        case rel => exact ⟨k + 1, by omega, show dKn.Own _ _ _ _ _ from by rw [HS.out, putK_some HP.out, HF.out]; exact HO5.out, by go_num, HW5⟩
        case measure => simp [intOf]; omega
    · have hd : decide ((k : Int) < 16) = false := decide_eq_false (by omega)
      obtain rfl : k = 16 := by omega
      obtain ⟨A9, c9, rfl, hrd⟩ := HO.out.rd (n := N) (by rw [HU.out]; exact HN.out.symm) fun _ h => .inr h
      rw [HU.out] at hrd
      have HD := Lib.hid hrd
      clear hrd HO
      go_wp2_with fail
      go_ret
      exact ⟨A9, c9, rfl, HD.out, HW.out⟩
end Go.Proofs.YtopjhebhdopjpaaGreat

namespace Go.Proofs.YtopjhebhdopjpaaGreat

def runOf (v : Vr) (r : Int) : List Rn := match rightVr v && decide (v.rep = r) with
  | true => [⟨v.cnt, v.cnt⟩]
  | false => []
theorem runOf_yes {v : Vr} {r : Int} (h : rightVr v = true) (hr : v.rep = r) : runOf v r = [⟨v.cnt, v.cnt⟩] := by unfold runOf; rw [h, decide_eq_true hr]; rfl
theorem runOf_wrong {v : Vr} {r : Int} (h : rightVr v = false) : runOf v r = [] := by unfold runOf; rw [h]; rfl
theorem runOf_no {v : Vr} {r : Int} (hr : v.rep ≠ r) : runOf v r = [] := by unfold runOf; rw [decide_eq_false hr, Bool.and_false]
theorem runOf_len (v : Vr) (r : Int) : (runOf v r).length ≤ 1 := by
  unfold runOf; split <;> simp
def versR (l : List Vr) (r : Int) : List Rn := l.flatMap fun v => runOf v r
theorem versR_nil (r : Int) : versR [] r = [] := rfl
theorem versR_cons (v : Vr) (l : List Vr) (r : Int) : versR (v :: l) r = runOf v r ++ versR l r := rfl
theorem versR_take {l : List Vr} {k : Nat} {v : Vr} (h : l[k]? = some v) (r : Int) : versR (l.take (k + 1)) r = versR (l.take k) r ++ runOf v r := by
  unfold versR
  rw [List.take_add_one, h, Option.toList_some, List.flatMap_append, List.flatMap_singleton]
theorem versR_len : ∀ (l : List Vr) (r : Int), (versR l r).length ≤ l.length
  | [], _ => Nat.le_refl _
  | v :: l, r => by
    have h1 := versR_len l r
    have h2 := runOf_len v r
    rw [versR_cons, List.length_append, List.length_cons]; omega
theorem addS_has (s : List Kn) (v : Vr) (r n : Int) : hasK (addS s v) r n = (hasK s r n || (decide (1 ≤ r) && (decide (r ≤ 16) && hasC (runOf v r) n))) := by
  unfold addS
  cases h : rightVr v with
  | false => rw [runOf_wrong h, hasC_nil, Bool.and_false, Bool.and_false, Bool.or_false]
  | true =>
    show hasK (makeS 1 s (oneS v)) r n = _
    rw [makeS_has, gC1]
    congr 1
    unfold hasK oneS
    rw [runsV]
    by_cases hr : v.rep = r
    · rw [runOf_yes h hr, partV_yes (k := ⟨v.rep, _⟩) hr, runsV, List.append_nil]
    · rw [runOf_no hr, partV_no (k := ⟨v.rep, _⟩) hr, runsV, List.append_nil]
theorem addS_fold_has : ∀ (l : List Vr) (s : List Kn) (r n : Int), hasK (l.foldl addS s) r n = (hasK s r n || (decide (1 ≤ r) && (decide (r ≤ 16) && hasC (versR l r) n)))
  | [], s, r, n => by rw [versR_nil, hasC_nil, Bool.and_false, Bool.and_false, Bool.or_false]; rfl
  | v :: l, s, r, n => by
    rw [List.foldl_cons, addS_fold_has l, addS_has, versR_cons, hasC_append]
    cases hasK s r n <;> cases decide (1 ≤ r) <;> cases decide (r ≤ 16) <;> rfl
theorem addS_fold_right : ∀ (l : List Vr) {s : List Kn}, rightS s = true → rightS (l.foldl addS s) = true
  | [], _, h => h
  | _ :: l, _, h => addS_fold_right l (addS_right h)
theorem addsS_cols (s : List Kn) (l : List Vr) : addsS s l = colS (fun r => ofC (runsV s r ++ versR l r)) 16 := by
  refine rightS_unique (addS_fold_right l (ofS_right s)) (colS_up (fun r => ofC_right _) (Nat.le_refl _)) fun r n => ?_
  unfold addsS
  rw [addS_fold_has, ofS_has]
  by_cases h : 1 ≤ r ∧ r ≤ 16
  · rw [hasK_in h.1 h.2, hasK_in h.1 h.2, decide_eq_true h.1, decide_eq_true h.2, colS_runs, decide_eq_true h.1, decide_eq_true (show r ≤ ((16 : Nat) : Int) by omega)]
    show _ = hasC (ofC _) n
    rw [ofC_has, hasC_append, Bool.true_and, Bool.true_and]
  · rw [hasK_out (by omega), hasK_out (by omega)]
    by_cases h1 : 1 ≤ r
    · rw [decide_eq_false (show ¬ r ≤ 16 by omega), Bool.false_and, Bool.and_false]; rfl
    · rw [decide_eq_false h1, Bool.false_and]; rfl
end Go.Proofs.YtopjhebhdopjpaaGreat

namespace Go.Proofs.YtopjhebhdopjpaaGreat
open Go.RowKit

theorem step_app_k {P : Program} {α : Type} (k : Kind P α) {ops : Array Oper} {w : World} {o : Oper} {a : Act} {K : Act → World → Prop} {Q : Exit → Act → World → Prop} {E : Prop} (hgd : o.guard = none) (s x : Operand)
    (ho : o.op = .call { callee := .builtin .append, args := #[s, x], argTypes := #[k.ty, k.ty] })
    (base : Nat) (v : Value) (xs : List α) (hs : a.eval s = v) (hown : k.Own w base v xs)
    (B : Nat) (A : Option Addr) (c n : Nat) (ys : List α) (hn : n = ys.length) (hx : a.eval x = .slice A n c) (hr : RowAt w B A (k.row ys)) (hlen : xs.length + ys.length ≤ 1000000) (hby : k.bytes ≤ 1000) (hbase : base ≤ w.heap.size)
    (h : ∀ v' w', k.Own w' base v' (xs ++ ys) → w.grownBy w' v.ownBlock → Below base w w' → (v'.ownBlock = v.ownBlock ∨ v'.ownBlock = some w.heap.size) → K (a.put o.dst v') w') :
    if Region.wanted o (yielded ops a.tmps) = true then Oper.wp P o a w K Q else E := by
  rw [if_pos (by simp [Region.wanted, hgd])]
  exact op_app_k k s x ho base v xs hs hown B A c n ys hn hx hr hlen hby hbase h
end Go.Proofs.YtopjhebhdopjpaaGreat

namespace Go.Proofs.YtopjhebhdopjpaaGreat
open Go.RowKit

theorem vs_rep (x : Int) (p : Bool) (hp : (decide (1 ≤ x) && decide (x ≤ 16)) = p) (w : World) :
    Calls Tryz.prog 112 #[.int .i64 x] w fun e w' => e = .returned (.bool p) ∧ w = w' := by
  obtain ⟨a, ha⟩ : ∃ a, decide (1 ≤ x) = a := ⟨_, rfl⟩
  obtain ⟨b, hb⟩ : ∃ b, decide (x ≤ 16) = b := ⟨_, rfl⟩
  rw [ha, hb] at hp
  subst hp
  cases a <;> cases b
  all_goals
    go_enter Tryz.func112, Tryz.ntmps112
    go_wp2_with fail
    go_ret
    exact ⟨rfl, rfl⟩
abbrev set16 (w : World) (g : Nat) (V : Nat → Value) : World := (((((((((((((((w.setCell ⟨g, 0, none⟩ (V 0)).setCell ⟨g, 1, none⟩ (V 1)).setCell ⟨g, 2, none⟩ (V 2)).setCell ⟨g, 3, none⟩ (V 3)).setCell ⟨g, 4, none⟩ (V 4)).setCell ⟨g, 5, none⟩ (V 5)).setCell ⟨g, 6, none⟩ (V 6)).setCell ⟨g, 7, none⟩ (V 7)).setCell ⟨g, 8, none⟩ (V 8)).setCell ⟨g, 9, none⟩ (V 9)).setCell ⟨g, 10, none⟩ (V 10)).setCell ⟨g, 11, none⟩ (V 11)).setCell ⟨g, 12, none⟩ (V 12)).setCell ⟨g, 13, none⟩ (V 13)).setCell ⟨g, 14, none⟩ (V 14)).setCell ⟨g, 15, none⟩ (V 15)
theorem set16_at {w : World} {g : Nat} {Z V : Nat → Value} (h : GrAt w g Z) : GrAt (set16 w g V) g V :=
  ((((((((((((((((h.set (k := 0) (by omega) (V 0)).set (k := 1) (by omega) (V 1)).set (k := 2) (by omega) (V 2)).set (k := 3) (by omega) (V 3)).set (k := 4) (by omega) (V 4)).set (k := 5) (by omega) (V 5)).set (k := 6) (by omega) (V 6)).set (k := 7) (by omega) (V 7)).set (k := 8) (by omega) (V 8)).set (k := 9) (by omega) (V 9)).set (k := 10) (by omega) (V 10)).set (k := 11) (by omega) (V 11)).set (k := 12) (by omega) (V 12)).set (k := 13) (by omega) (V 13)).set (k := 14) (by omega) (V 14)).set (k := 15) (by omega) (V 15)).congr fun k hk => by
    rcases lt16 hk with rfl | rfl | rfl | rfl | rfl | rfl | rfl | rfl | rfl | rfl | rfl | rfl | rfl | rfl | rfl | rfl <;> rfl
theorem below_set16 {B g : Nat} {a w : World} (h : Below B a w) (hg : B ≤ g) (V : Nat → Value) : Below B a (set16 w g V) :=
  (((((((((((((((h.setCell (p := ⟨g, 0, none⟩) hg _).setCell (p := ⟨g, 1, none⟩) hg _).setCell (p := ⟨g, 2, none⟩) hg _).setCell (p := ⟨g, 3, none⟩) hg _).setCell (p := ⟨g, 4, none⟩) hg _).setCell (p := ⟨g, 5, none⟩) hg _).setCell (p := ⟨g, 6, none⟩) hg _).setCell (p := ⟨g, 7, none⟩) hg _).setCell (p := ⟨g, 8, none⟩) hg _).setCell (p := ⟨g, 9, none⟩) hg _).setCell (p := ⟨g, 10, none⟩) hg _).setCell (p := ⟨g, 11, none⟩) hg _).setCell (p := ⟨g, 12, none⟩) hg _).setCell (p := ⟨g, 13, none⟩) hg _).setCell (p := ⟨g, 14, none⟩) hg _).setCell (p := ⟨g, 15, none⟩) hg _
theorem RowsG.set16 {w : World} {base g : Nat} {V : Nat → Value} {L : Nat → List Rn} (h : RowsG w base V L) (hg : ∀ j, j < 16 → (V j).ownBlock ≠ some g) (U : Nat → Value) : RowsG (set16 w g U) base V L :=
  (((((((((((((((h.set hg _).set hg _).set hg _).set hg _).set hg _).set hg _).set hg _).set hg _).set hg _).set hg _).set hg _).set hg _).set hg _).set hg _).set hg _).set hg _
theorem RowsG.low {w : World} {base g : Nat} {V : Nat → Value} {L : Nat → List Rn} (h : RowsG w base V L) (hg : g < base) : ∀ j, j < 16 → (V j).ownBlock ≠ some g := fun j hj e => by have := ((h.own j hj).lt g e).1; omega
structure GatAt (w0 w : World) (V : Nat → Value) (L : Nat → List Rn) : Prop where
  res : GrAt w w0.heap.size (fun _ => .slice none 0 0)
  all : GrAt w (w0.heap.size + 1) V
  rows : RowsG w (w0.heap.size + 1 + 1) V L
  low : Below w0.heap.size w0 w
theorem GatAt.below {w0 w w' : World} {V : Nat → Value} {L : Nat → List Rn} (h : GatAt w0 w V L) (hb : Below w.heap.size w w') : GatAt w0 w' V L := ⟨h.res.below hb, h.all.below hb, h.rows.below hb, h.low.trans (hb.mono h.low.size)⟩
theorem GatAt.congr {w0 w : World} {V : Nat → Value} {L M : Nat → List Rn} (h : GatAt w0 w V L) (e : ∀ k, k < 16 → M k = L k) : GatAt w0 w V M := ⟨h.res, h.all, h.rows.congr e, h.low⟩
theorem gatAt_new (w : World) (t : TypeId) : GatAt w ((w.alloc (grO (fun _ => .slice none 0 0) t)).alloc (grO (fun _ => .slice none 0 0) t)) (fun _ => .slice none 0 0) (fun _ => []) := by
  refine ⟨(grAt_new w _ t).alloc _, ?_, rowsG_nil _ _, (below_new w _).trans ((below_new _ _).mono (by simp))⟩
  have h := grAt_new (w.alloc (grO (fun _ => .slice none 0 0) t)) (fun _ => .slice none 0 0) t
  rw [size1] at h
  exact h
theorem GatAt.own_lt {w0 w : World} {V : Nat → Value} {L : Nat → List Rn} (h : GatAt w0 w V L) {j g : Nat} (hj : j < 16) (hg : g < w0.heap.size + 1 + 1) : some g ≠ (V j).ownBlock := fun e => h.rows.low hg j hj e.symm
theorem GatAt.congrV {w0 w : World} {V W : Nat → Value} {L : Nat → List Rn} (h : GatAt w0 w V L) (e : ∀ k, k < 16 → W k = V k) : GatAt w0 w W L := ⟨h.res, h.all.congr e, h.rows.congrV e, h.low⟩
theorem GatAt.mid {w0 w w' : World} {V : Nat → Value} {L : Nat → List Rn} (h : GatAt w0 w V L) {j : Nat} (hj : j < 16) (hg : w.grownBy w' (V j).ownBlock) : GrAt w' (w0.heap.size + 1) V := h.all.grown hg (h.own_lt hj (by omega))
theorem GatAt.app {w0 w w' : World} {V : Nat → Value} {L : Nat → List Rn} {v' : Value} {l : List Rn} (h : GatAt w0 w V L) {j : Nat} (hj : j < 16) (ho : kRn.Own w' (w0.heap.size + 1 + 1) v' l) (hg : w.grownBy w' (V j).ownBlock) (hv : v'.ownBlock = (V j).ownBlock ∨ v'.ownBlock = some w.heap.size) :
    GatAt w0 (w'.setCell ⟨w0.heap.size + 1, j, none⟩ v') (upd V j v') (upd L j l) := by
  have hr := h.rows.app hj ho hg hv
  refine ⟨(h.res.grown hg (h.own_lt hj (by omega))).other (by omega) _, (h.mid hj hg).set hj _, hr.set (hr.low (by omega)) _, ?_⟩
  exact ((h.low.grown hg h.low.size fun g e => by have := ((h.rows.own j hj).lt g e).1; omega)).setCell (p := ⟨w0.heap.size + 1, j, none⟩) (by show w0.heap.size ≤ w0.heap.size + 1; omega) _
def RetG (w : World) (N : Nat → Nat) (L : Nat → List Rn) (e : Ending) (w' : World) : Prop := ∃ A c, e = .returned (grV (slV A N c)) ∧ RowsG w' w.heap.size (slV A N c) L ∧ Below w.heap.size w w'
theorem gat_end {fn : Func} {a : Act} {w0 w : World} {A : Nat → Option Addr} {N c : Nat → Nat} {L : Nat → List Rn} (h : GatAt w0 w (slV A N c) L) (hd : a.defers = []) (hr : ∀ w', GrAt w' w0.heap.size (slV A N c) → (results fn a.tmps).run Tryz.prog w' = .ok (grV (slV A N c)) w') : bodyPost Tryz.prog fn (RetG w0 N L) .ret a (set16 w w0.heap.size (slV A N c)) :=
  bodyPost_ret (hr _ (set16_at h.res)) hd ⟨A, c, rfl, (h.rows.set16 (h.rows.low (by omega)) _).mono (by omega), below_set16 h.low (Nat.le_refl _) _⟩
set_option maxRecDepth 100000 in
set_option maxHeartbeats 8000000 in
theorem vs_gather (A : Option Addr) (c n : Nat) (s : List Kn) (hn : n = s.length) (hnl : ∀ r, (runsV s r).length ≤ 300000) (NN : Nat → Nat) (hNN : ∀ k : Nat, (runsV s ((k : Int) + 1)).length = NN k) (w : World) (hr : RdK w w.heap.size A c s) :
    Calls Tryz.prog 118 #[.slice A n c] w (RetG w NN fun k => runsV s ((k : Int) + 1)) := by
  have HN := Lib.hid hn
  have HL := Lib.hid hnl
  have HR := Lib.hid hr
  have HNN := Lib.hid hNN
  have hmx := rdk_max hr hn
  have hcx : n ≤ c := by rw [hn]; exact hr.room
  clear hn hnl hr hNN
  go_enter Tryz.func118, Tryz.ntmps118
  go_wp2_with fail
  go_loopw [9] (fun i wr => ∃ (k : Nat) (V : Nat → Value), k ≤ n ∧ i = .int .i64 k ∧ Hid (GatAt w wr V (fun j => runsV (s.take k) ((j : Int) + 1)))) (fun i _ => n - (intOf i).toNat)
  case atStart => exact ⟨0, fun _ => .slice none 0 0, by omega, rfl, gatAt_new w _⟩
  case round =>
    obtain ⟨k, V, hk, rfl, HG⟩ := hrel
    by_cases hlt : k < n
    · obtain ⟨x, hg, -, -⟩ := cnt_get (l := s) (k := k) (by have := HN.out; omega)
      obtain ⟨b, o, rfl, hb1, hcell⟩ := knowns_at (HR.out.below HG.out.low) (by have := HN.out; omega)
      obtain ⟨A1, n1, c1, hn1, hr1, q0, q1⟩ := hcell k x hg
      obtain ⟨X, hX⟩ : ∃ X, x.rep = X := ⟨_, rfl⟩
      rw [hX] at q0
      have hT := fun r => runsV_take r hg
      obtain ⟨p, hp⟩ : ∃ p, (decide (1 ≤ X) && decide (X ≤ 16)) = p := ⟨_, rfl⟩
      have C1 := fun w => Lib.hid (vs_rep X p hp w)
      have HG2 := Lib.hid (HG.out.below (below_new wr (.cells #[.int .i64 X, .slice A1 n1 c1] 64)).drew)
      cases p with
      | false =>
        have HE := Lib.hid ((HG.out.below (below_new wr (.cells #[.int .i64 X, .slice A1 n1 c1] 64))).congr (M := fun j => runsV (s.take (k + 1)) ((j : Int) + 1)) fun j hj => by
          rw [hT, partV_no (by rw [hX]; intro e; rw [e] at hp; simp at hp; omega), List.append_nil])
        clear hcell hg hr1 hn1 hT hp HG2 hX
        go_wp2_with ((with_reducible refine (C1 _).out.mono ?_); rintro e w1 ⟨rfl, rfl⟩)
        go_roundw
        case rel => exact ⟨k + 1, V, by omega, by go_num, HE.out⟩
        case measure => simp [intOf]; omega
      | true =>
        obtain ⟨j, hj⟩ : ∃ j : Nat, X = (j : Int) + 1 := ⟨(X - 1).toNat, by rw [Bool.and_eq_true, decide_eq_true_eq, decide_eq_true_eq] at hp; omega⟩
        have hj16 : j < 16 := by rw [Bool.and_eq_true, decide_eq_true_eq, decide_eq_true_eq] at hp; omega
        subst hj
        have HE := Lib.hid (fun (j' : Nat) (_ : j' < 16) => show runsV (s.take (k + 1)) ((j' : Int) + 1) = upd (fun j => runsV (s.take k) ((j : Int) + 1)) j (runsV (s.take k) ((j : Int) + 1) ++ x.runs) j' from by
          rw [hT]
          by_cases e : j' = j
          · subst e; rw [upd_at, partV_yes hX]
          · rw [upd_far _ _ e, partV_no (by rw [hX]; omega), List.append_nil])
        have HLE := Lib.hid (show (runsV (s.take k) ((j : Int) + 1)).length + x.runs.length ≤ 1000000 by
          have h1 := runsV_part s (k + 1) ((j : Int) + 1)
          rw [hT, partV_yes hX, List.length_append] at h1
          have := HL.out ((j : Int) + 1)
          omega)
        have HN1 := Lib.hid hn1
        have HR1 := Lib.hid (hr1.below ((below_new wr (.cells #[.int .i64 ((j : Int) + 1), .slice A1 n1 c1] 64)).mono HG.out.low.size)).row
        obtain ⟨vj, hvj⟩ : ∃ v, V j = v := ⟨_, rfl⟩
        have HO := Lib.hid (HG2.out.rows.own j hj16)
        have q2 := HG2.out.all.cell j hj16
        have HM := Lib.hid (fun w' (hg : (wr.alloc (.cells #[.int .i64 ((j : Int) + 1), .slice A1 n1 c1] 64)).drew.grownBy w' (V j).ownBlock) => HG2.out.mid hj16 hg)
        rw [hvj] at HO q2 HM
        obtain ⟨NL, hNL⟩ : ∃ N, (runsV (s.take k) ((j : Int) + 1) ++ x.runs).length = N := ⟨_, rfl⟩
        have HNL := Lib.hid hNL
        clear hNL
        have hjw : IntKind.i64.wrap ((j : Int) + 1 - 1) = (j : Int) := by rw [Int.add_sub_cancel]; exact IntWalk.i64_in _ (by omega)
        have hj0 : decide ((j : Int) < 0) = false := decide_eq_false (by omega)
        have hj1 : decide ((j : Int) < 16) = true := decide_eq_true (by omega)
        clear hcell hg hr1 hn1 hT hp hX
        go_upto_region 7 with ((with_reducible refine (C1 _).out.mono ?_); rintro e w1 ⟨rfl, rfl⟩)
        go_region_law (first
          | (refine step_app_k kRn rfl (.tmp 23) (.tmp 25) rfl (w.heap.size + 1 + 1) vj (runsV (s.take k) ((j : Int) + 1)) rfl HO.out _ A1 c1 n1 x.runs HN1.out rfl HR1.out HLE.out (by decide) HG2.out.all.lt ?_; intro v3 w3 hown3 hg3 _ hv3; obtain ⟨A4, c4, rfl, -⟩ := hown3.read_n HNL.out.symm; have q3 := (HM.out w3 hg3).cell j hj16; have f3 := (HM.out w3 hg3).free j; have HG3 := Lib.hid (HG2.out.app hj16 hown3 (hvj.symm ▸ hg3) (hvj.symm ▸ hv3)); clear hown3 hg3 hv3))
        all_goals
          go_wp2_with fail
          go_roundw
          case rel => exact ⟨k + 1, upd V j (.slice A4 NL c4), by omega, by go_num, HG3.out.congr HE.out⟩
          case measure => simp [intOf]; omega
    · have hkn : s.take k = s := List.take_of_length_le (by have := HN.out; omega)
      rw [hkn] at HG
      obtain ⟨AA, cc, hV⟩ := HG.out.rows.form NN HNN.out
      replace HG := Lib.hid (HG.out.congrV hV)
      have a0 : wr.cell? ⟨w.heap.size + 1, 0, none⟩ = some (.slice (AA 0) (NN 0) (cc 0)) := HG.out.all.cell 0 (by omega)
      have a1 : wr.cell? ⟨w.heap.size + 1, 1, none⟩ = some (.slice (AA 1) (NN 1) (cc 1)) := HG.out.all.cell 1 (by omega)
      have a2 : wr.cell? ⟨w.heap.size + 1, 2, none⟩ = some (.slice (AA 2) (NN 2) (cc 2)) := HG.out.all.cell 2 (by omega)
      have a3 : wr.cell? ⟨w.heap.size + 1, 3, none⟩ = some (.slice (AA 3) (NN 3) (cc 3)) := HG.out.all.cell 3 (by omega)
      have a4 : wr.cell? ⟨w.heap.size + 1, 4, none⟩ = some (.slice (AA 4) (NN 4) (cc 4)) := HG.out.all.cell 4 (by omega)
      have a5 : wr.cell? ⟨w.heap.size + 1, 5, none⟩ = some (.slice (AA 5) (NN 5) (cc 5)) := HG.out.all.cell 5 (by omega)
      have a6 : wr.cell? ⟨w.heap.size + 1, 6, none⟩ = some (.slice (AA 6) (NN 6) (cc 6)) := HG.out.all.cell 6 (by omega)
      have a7 : wr.cell? ⟨w.heap.size + 1, 7, none⟩ = some (.slice (AA 7) (NN 7) (cc 7)) := HG.out.all.cell 7 (by omega)
      have a8 : wr.cell? ⟨w.heap.size + 1, 8, none⟩ = some (.slice (AA 8) (NN 8) (cc 8)) := HG.out.all.cell 8 (by omega)
      have a9 : wr.cell? ⟨w.heap.size + 1, 9, none⟩ = some (.slice (AA 9) (NN 9) (cc 9)) := HG.out.all.cell 9 (by omega)
      have a10 : wr.cell? ⟨w.heap.size + 1, 10, none⟩ = some (.slice (AA 10) (NN 10) (cc 10)) := HG.out.all.cell 10 (by omega)
      have a11 : wr.cell? ⟨w.heap.size + 1, 11, none⟩ = some (.slice (AA 11) (NN 11) (cc 11)) := HG.out.all.cell 11 (by omega)
      have a12 : wr.cell? ⟨w.heap.size + 1, 12, none⟩ = some (.slice (AA 12) (NN 12) (cc 12)) := HG.out.all.cell 12 (by omega)
      have a13 : wr.cell? ⟨w.heap.size + 1, 13, none⟩ = some (.slice (AA 13) (NN 13) (cc 13)) := HG.out.all.cell 13 (by omega)
      have a14 : wr.cell? ⟨w.heap.size + 1, 14, none⟩ = some (.slice (AA 14) (NN 14) (cc 14)) := HG.out.all.cell 14 (by omega)
      have a15 : wr.cell? ⟨w.heap.size + 1, 15, none⟩ = some (.slice (AA 15) (NN 15) (cc 15)) := HG.out.all.cell 15 (by omega)
      have z0 : wr.cell? ⟨w.heap.size, 0, none⟩ = some (.slice none 0 0) := HG.out.res.cell 0 (by omega)
      have z1 : wr.cell? ⟨w.heap.size, 1, none⟩ = some (.slice none 0 0) := HG.out.res.cell 1 (by omega)
      have z2 : wr.cell? ⟨w.heap.size, 2, none⟩ = some (.slice none 0 0) := HG.out.res.cell 2 (by omega)
      have z3 : wr.cell? ⟨w.heap.size, 3, none⟩ = some (.slice none 0 0) := HG.out.res.cell 3 (by omega)
      have z4 : wr.cell? ⟨w.heap.size, 4, none⟩ = some (.slice none 0 0) := HG.out.res.cell 4 (by omega)
      have z5 : wr.cell? ⟨w.heap.size, 5, none⟩ = some (.slice none 0 0) := HG.out.res.cell 5 (by omega)
      have z6 : wr.cell? ⟨w.heap.size, 6, none⟩ = some (.slice none 0 0) := HG.out.res.cell 6 (by omega)
      have z7 : wr.cell? ⟨w.heap.size, 7, none⟩ = some (.slice none 0 0) := HG.out.res.cell 7 (by omega)
      have z8 : wr.cell? ⟨w.heap.size, 8, none⟩ = some (.slice none 0 0) := HG.out.res.cell 8 (by omega)
      have z9 : wr.cell? ⟨w.heap.size, 9, none⟩ = some (.slice none 0 0) := HG.out.res.cell 9 (by omega)
      have z10 : wr.cell? ⟨w.heap.size, 10, none⟩ = some (.slice none 0 0) := HG.out.res.cell 10 (by omega)
      have z11 : wr.cell? ⟨w.heap.size, 11, none⟩ = some (.slice none 0 0) := HG.out.res.cell 11 (by omega)
      have z12 : wr.cell? ⟨w.heap.size, 12, none⟩ = some (.slice none 0 0) := HG.out.res.cell 12 (by omega)
      have z13 : wr.cell? ⟨w.heap.size, 13, none⟩ = some (.slice none 0 0) := HG.out.res.cell 13 (by omega)
      have z14 : wr.cell? ⟨w.heap.size, 14, none⟩ = some (.slice none 0 0) := HG.out.res.cell 14 (by omega)
      have z15 : wr.cell? ⟨w.heap.size, 15, none⟩ = some (.slice none 0 0) := HG.out.res.cell 15 (by omega)
      have zf := HG.out.res.free
      clear hkn hV
      go_wp2_with fail
      clear a0 a1 a2 a3 a4 a5 a6 a7 a8 a9 a10 a11 a12 a13 a14 a15 z0 z1 z2 z3 z4 z5 z6 z7 z8 z9 z10 z11 z12 z13 z14 z15 zf
      refine gat_end HG.out ?_ ?_
      · rfl
      intro w' hg
      have r0 : w'.cell? ⟨w.heap.size, 0, none⟩ = some (.slice (AA 0) (NN 0) (cc 0)) := hg.cell 0 (by omega)
      have r1 : w'.cell? ⟨w.heap.size, 1, none⟩ = some (.slice (AA 1) (NN 1) (cc 1)) := hg.cell 1 (by omega)
      have r2 : w'.cell? ⟨w.heap.size, 2, none⟩ = some (.slice (AA 2) (NN 2) (cc 2)) := hg.cell 2 (by omega)
      have r3 : w'.cell? ⟨w.heap.size, 3, none⟩ = some (.slice (AA 3) (NN 3) (cc 3)) := hg.cell 3 (by omega)
      have r4 : w'.cell? ⟨w.heap.size, 4, none⟩ = some (.slice (AA 4) (NN 4) (cc 4)) := hg.cell 4 (by omega)
      have r5 : w'.cell? ⟨w.heap.size, 5, none⟩ = some (.slice (AA 5) (NN 5) (cc 5)) := hg.cell 5 (by omega)
      have r6 : w'.cell? ⟨w.heap.size, 6, none⟩ = some (.slice (AA 6) (NN 6) (cc 6)) := hg.cell 6 (by omega)
      have r7 : w'.cell? ⟨w.heap.size, 7, none⟩ = some (.slice (AA 7) (NN 7) (cc 7)) := hg.cell 7 (by omega)
      have r8 : w'.cell? ⟨w.heap.size, 8, none⟩ = some (.slice (AA 8) (NN 8) (cc 8)) := hg.cell 8 (by omega)
      have r9 : w'.cell? ⟨w.heap.size, 9, none⟩ = some (.slice (AA 9) (NN 9) (cc 9)) := hg.cell 9 (by omega)
      have r10 : w'.cell? ⟨w.heap.size, 10, none⟩ = some (.slice (AA 10) (NN 10) (cc 10)) := hg.cell 10 (by omega)
      have r11 : w'.cell? ⟨w.heap.size, 11, none⟩ = some (.slice (AA 11) (NN 11) (cc 11)) := hg.cell 11 (by omega)
      have r12 : w'.cell? ⟨w.heap.size, 12, none⟩ = some (.slice (AA 12) (NN 12) (cc 12)) := hg.cell 12 (by omega)
      have r13 : w'.cell? ⟨w.heap.size, 13, none⟩ = some (.slice (AA 13) (NN 13) (cc 13)) := hg.cell 13 (by omega)
      have r14 : w'.cell? ⟨w.heap.size, 14, none⟩ = some (.slice (AA 14) (NN 14) (cc 14)) := hg.cell 14 (by omega)
      have r15 : w'.cell? ⟨w.heap.size, 15, none⟩ = some (.slice (AA 15) (NN 15) (cc 15)) := hg.cell 15 (by omega)
      simp [results, Tryz.results118, go_sem, r0, r1, r2, r3, r4, r5, r6, r7, r8, r9, r10, r11, r12, r13, r14, r15]
end Go.Proofs.YtopjhebhdopjpaaGreat

namespace Go.Proofs.YtopjhebhdopjpaaGreat
open Go.RowKit

theorem cn_one (r : Rn) (x y : Int) (hx : r.fr = x) (hy : r.to = y) (z : Bool) (hz : oneC r = z) (w : World) :
    Calls Tryz.prog 133 #[.agg #[.int .i64 x, .int .i64 y]] w fun e w' => e = .returned (.bool z) ∧ Below w.heap.size w w' := by
  unfold oneC at hz
  rw [hx, hy] at hz
  have HB := Lib.hid (below_new w (.cells #[.int .i64 x, .int .i64 y] 105))
  obtain ⟨b1, h1⟩ : ∃ b, decide (1 ≤ x) = b := ⟨_, rfl⟩
  obtain ⟨b2, h2⟩ : ∃ b, decide (x ≤ y) = b := ⟨_, rfl⟩
  obtain ⟨b3, h3⟩ : ∃ b, decide (y ≤ 1099511627776) = b := ⟨_, rfl⟩
  rw [h1, h2, h3] at hz
  subst hz
  clear hx hy
  cases b1
  case' true =>
    cases b2
    case' true =>
      cases b3
  all_goals
    go_enter Tryz.func133, Tryz.ntmps133
    go_wp2_with fail
    go_ret
    exact ⟨rfl, HB.out⟩
theorem cn_apart (p r : Rn) (a b c d : Int) (hb : p.to = b) (hc : r.fr = c) (h1 : oneC p = true) (v : Bool) (hv : gapC p r = v) (w : World) :
    Calls Tryz.prog 134 #[.agg #[.int .i64 a, .int .i64 b], .agg #[.int .i64 c, .int .i64 d]] w fun e w' => e = .returned (.bool v) ∧ Below w.heap.size w w' := by
  have h2 := oneC_iff.1 h1
  have HB := Lib.hid ((below_new w (.cells #[.int .i64 a, .int .i64 b] 105)).alloc (by simp) (.cells #[.int .i64 c, .int .i64 d] 105))
  have hw : IntKind.i64.wrap (b + 1) = b + 1 := IntWalk.i64_in _ (by omega)
  unfold gapC at hv
  rw [hb, hc] at hv
  clear hb hc h1 h2
  go_enter Tryz.func134, Tryz.ntmps134
  cases v
  all_goals
    go_wp2_with fail
    go_ret
    exact ⟨rfl, HB.out⟩
theorem gapC_two (p r : Rn) : decide (p.to + 2 ≤ r.fr) = gapC p r := decide_eq_decide.2 (by omega)
set_option maxHeartbeats 1000000 in
theorem cn_right (A : Option Addr) (c n : Nat) (l : List Rn) (hn : n = l.length) (v : Bool) (hv : rightC l = v) (w : World) (hr : kRn.Rd w w.heap.size A c l) :
    Calls Tryz.prog 113 #[.slice A n c] w fun e w' => e = .returned (.bool v) ∧ Below w.heap.size w w' := by
  have HN := Lib.hid hn
  have HR := Lib.hid hr
  have hmx := rd_maxC hr hn
  have hcx : n ≤ c := by rw [hn]; exact hr.room
  subst hv
  clear hn hr
  go_enter Tryz.func113, Tryz.ntmps113
  go_wp2_with fail
  go_loopw [7] (fun i wr => ∃ k : Nat, k ≤ n ∧ i = .int .i64 k ∧ Hid (k = 0 ∨ ∃ j p, k = j + 1 ∧ l[j]? = some p ∧ oneC p = true ∧ rightC l = contC p (l.drop k)) ∧ Below w.heap.size w wr) (fun i _ => n - (intOf i).toNat)
  case atStart => exact ⟨0, by omega, rfl, .inl rfl, Below.refl _ _⟩
  case round =>
    obtain ⟨k, hk, rfl, HL, hb⟩ := hrel
    by_cases hlt : k < n
    · obtain ⟨r, hg, hd, -⟩ := cnt_get (l := l) (k := k) (by have := HN.out; omega)
      have HR1 := Lib.hid (HR.out.below hb)
      obtain ⟨b, o, rfl, hb1, hcell⟩ := rns_at HR1.out (by have := HN.out; omega)
      obtain ⟨c0, c1⟩ := hcell k r hg
      obtain ⟨d, hdv⟩ : ∃ d, oneC r = d := ⟨_, rfl⟩
      have C := fun w => (cn_one r _ _ rfl rfl d hdv w)
      have hbl := Nat.lt_of_lt_of_le hb1 hb.size
      obtain ⟨X, hX⟩ : ∃ X, r.fr = X := ⟨_, rfl⟩
      obtain ⟨Y, hY⟩ : ∃ Y, r.to = Y := ⟨_, rfl⟩
      have HG := rnAt_new wr X Y 105
      have HB1 := hb.alloc hb.size (.cells #[.int .i64 X, .int .i64 Y] 105)
      have HC : Hid (CellL w [(⟨wr.heap.size, 0, none⟩, .int .i64 X), (⟨wr.heap.size, 1, none⟩, .int .i64 Y)] (wr.alloc (.cells #[.int .i64 X, .int .i64 Y] 105))) := ⟨HG.1, HG.2.1, HB1⟩
      rw [hX, hY] at C
      rw [hX] at c0
      rw [hY] at c1
      cases d
      · have HL2 := Lib.hid (show rightC l = false from by
          rcases HL.out with rfl | ⟨j, p, rfl, hp, h1, h2⟩
          · rw [List.drop_zero] at hd; rw [hd, rightC_cont, hdv]; rfl
          · rw [h2, hd, contC_cons, hdv]; rfl)
        have C := Lib.hid (fun L => cellL_of (a := w) (l := L) C)
        clear hcell hg hd hdv hX hY HG HB1 HL
        go_wp2_with fail
        clear c0 c1
        refine q_region (CellL w [(⟨wr.heap.size, 0, none⟩, .int .i64 X), (⟨wr.heap.size, 1, none⟩, .int .i64 Y)]) (by kernel_rfl) (by kernel_rfl) (cellL_drew HC.out) ?_
        repeat (first
          | go_big_quiet_skip
          | (go_big_quiet_want; (first
            | (refine q_take (v := ?_) ?_ ?_; rotate_left; (focus (intro w hSw; (try simp only [CellL] at hSw); go_split_ands; go_simp; (try (rw [if_neg (by omega)])); (try with_reducible rfl); done)))
            | (refine q_call (C.out _) ?_ ?_; (focus (intro w hSw; (try simp only [CellL] at hSw); go_split_ands; go_simp; (try (rw [if_neg (by omega)])); done)))); (try simp only [Act.put, List.setIfInBounds_toArray, List.set_cons_zero, List.set_cons_succ]); go_big_quiet_on))
        refine wpQuiet_nil ?_
        intro w2 hw2
        go_wp2_with fail
        go_ret
        exact ⟨ret_bool HL2.out.symm, cellL_size hw2⟩
      · have C := Lib.hid (fun L => cellL_of (a := w) (l := L) C)
        cases k with
        | zero =>
          have HL2 := Lib.hid (show (0 : Nat) + 1 = 0 ∨ ∃ j p, 0 + 1 = j + 1 ∧ l[j]? = some p ∧ oneC p = true ∧ rightC l = contC p (l.drop (0 + 1)) from .inr ⟨0, r, rfl, hg, hdv, by rw [List.drop_zero] at hd; rw [hd, rightC_cont, hdv, Bool.true_and]; rfl⟩)
          clear hcell hg hd hdv hX hY HG HB1 HL
          simp only [Nat.zero_mul, Nat.add_zero] at c0 c1
          go_wp2_with fail
          clear c0 c1
          refine q_region (CellL w [(⟨wr.heap.size, 0, none⟩, .int .i64 X), (⟨wr.heap.size, 1, none⟩, .int .i64 Y)]) (by kernel_rfl) (by kernel_rfl) (cellL_drew HC.out) ?_
          repeat (first
            | go_big_quiet_skip
            | (go_big_quiet_want; (first
              | (refine q_take (v := ?_) ?_ ?_; rotate_left; (focus (intro w hSw; (try simp only [CellL] at hSw); go_split_ands; go_simp; (try (rw [if_neg (by omega)])); (try with_reducible rfl); done)))
              | (refine q_call (C.out _) ?_ ?_; (focus (intro w hSw; (try simp only [CellL] at hSw); go_split_ands; go_simp; (try (rw [if_neg (by omega)])); done)))); (try simp only [Act.put, List.setIfInBounds_toArray, List.set_cons_zero, List.set_cons_succ]); go_big_quiet_on))
          refine wpQuiet_nil ?_
          intro w2 hw2
          go_wp2_with fail
          go_roundw
          case rel => exact ⟨1, by omega, rfl, HL2, cellL_size hw2⟩
          case measure => simp [intOf]; omega
        | succ j =>
          obtain ⟨p, hp, hp1, hp2⟩ : ∃ p, l[j]? = some p ∧ oneC p = true ∧ rightC l = contC p (l.drop (j + 1)) := by
            rcases HL.out with h | ⟨j', p, h, h1, h2, h3⟩
            · cases h
            · obtain rfl : j = j' := by omega
              exact ⟨p, h1, h2, h3⟩
          obtain ⟨p0, p1⟩ := hcell j p hp
          obtain ⟨x, hx⟩ : ∃ x, gapC p r = x := ⟨_, rfl⟩
          have CA := fun w => (cn_apart p r p.fr p.to X Y rfl hX hp1 x hx w)
          have CA := Lib.hid (fun L => cellL_of (a := w) (l := L) CA)
          have HL1 := Lib.hid (show rightC l = (x && contC r (l.drop (j + 1 + 1))) from by rw [hp2, hd, contC_cons, hdv, gapC_two, hx, Bool.true_and])
          have HL2 := Lib.hid (fun h : x = true => show j + 1 + 1 = 0 ∨ ∃ j' p', j + 1 + 1 = j' + 1 ∧ l[j']? = some p' ∧ oneC p' = true ∧ rightC l = contC p' (l.drop (j + 1 + 1)) from .inr ⟨j + 1, r, rfl, hg, hdv, by rw [HL1.out, h]; rfl⟩)
          obtain ⟨U, hU⟩ : ∃ U, p.fr = U := ⟨_, rfl⟩
          obtain ⟨V, hV⟩ : ∃ V, p.to = V := ⟨_, rfl⟩
          rw [hU, hV] at CA
          rw [hU] at p0
          rw [hV] at p1
          have HW := alloc_keeps wr (.cells #[.int .i64 X, .int .i64 Y] 105)
          have HC2 : Hid (CellL w [(⟨wr.heap.size, 0, none⟩, .int .i64 X), (⟨wr.heap.size, 1, none⟩, .int .i64 Y), (⟨b, o + j * 2, none⟩, .int .i64 U), (⟨b, o + j * 2 + 1, none⟩, .int .i64 V)] (wr.alloc (.cells #[.int .i64 X, .int .i64 Y] 105))) := ⟨HG.1, HG.2.1, (HW _ _ hbl).trans p0, (HW _ _ hbl).trans p1, HB1⟩
          have hj1 : (0 : Int) < (j : Int) + 1 := by omega
          have hjd : decide ((0 : Int) < (j : Int) + 1) = true := decide_eq_true hj1
          have hjn : (j : Int) < (n : Int) := by omega
          have hj0 : (0 : Int) ≤ (j : Int) := by omega
          have hjw : IntKind.i64.wrap ((j : Int) + 1 - 1) = (j : Int) := by rw [Int.add_sub_cancel]; exact IntWalk.i64_in _ (by omega)
          have hjw2 : IntKind.i64.wrap (j : Int) = (j : Int) := IntWalk.i64_in _ (by omega)
          have HJW := Lib.hid (And.intro hjw hjw2)
          clear hcell hg hd hdv hX hY HG HB1 hp hp1 hp2 hx hU hV HC HW p0 p1 hjw hjw2 HL
          cases x
          all_goals
            go_wp2_with fail
            clear c0 c1
            obtain ⟨hjw, hjw2⟩ := HJW.out
            refine q_region (CellL w [(⟨wr.heap.size, 0, none⟩, .int .i64 X), (⟨wr.heap.size, 1, none⟩, .int .i64 Y), (⟨b, o + j * 2, none⟩, .int .i64 U), (⟨b, o + j * 2 + 1, none⟩, .int .i64 V)]) (by kernel_rfl) (by kernel_rfl) (cellL_drew HC2.out) ?_
            repeat (first
              | go_big_quiet_skip
              | (go_big_quiet_want; (first
                | (refine q_take (v := ?_) ?_ ?_; rotate_left; (focus (intro w hSw; (try simp only [CellL] at hSw); go_split_ands; go_simp; (try (rw [if_neg (by omega)])); (try with_reducible rfl); done)))
                | (refine q_call (C.out _) ?_ ?_; (focus (intro w hSw; (try simp only [CellL] at hSw); go_split_ands; go_simp; (try (rw [if_neg (by omega)])); done)))
                | (refine q_call (CA.out _) ?_ ?_; (focus (intro w hSw; (try simp only [CellL] at hSw); go_split_ands; go_simp; (try (rw [if_neg (by omega)])); done)))); (try simp only [Act.put, List.setIfInBounds_toArray, List.set_cons_zero, List.set_cons_succ]); go_big_quiet_on))
            clear hjw hjw2
            refine wpQuiet_nil ?_
            intro w2 hw2
            go_wp2_with fail
          · go_ret
            exact ⟨ret_bool HL1.out.symm, cellL_size hw2⟩
          · go_roundw
            case rel => exact ⟨j + 2, by omega, by go_num, Lib.hid (by first | exact HL2.out rfl | exact HL2.out trivial), cellL_size hw2⟩
            case measure => simp [intOf]; omega
    · have HL2 := Lib.hid (show rightC l = true from by
        rcases HL.out with rfl | ⟨j, p, rfl, hp, h1, h2⟩
        · rw [show l = [] from List.length_eq_zero_iff.1 (by have := HN.out; omega)]; rfl
        · rw [h2, List.drop_eq_nil_of_le (by have := HN.out; omega)]; rfl)
      clear HL
      go_wp2_with fail
      go_ret
      exact ⟨ret_bool HL2.out.symm, hb⟩
end Go.Proofs.YtopjhebhdopjpaaGreat

namespace Go.Proofs.YtopjhebhdopjpaaGreat
open Go.RowKit

def oneR (k : Kn) : Bool := (decide (1 ≤ k.rep) && decide (k.rep ≤ 16)) && (!(k.runs.length == 0) && rightC k.runs)
theorem upS_one0 (k : Kn) (s : List Kn) : upS 0 (k :: s) = (oneR k && upS k.rep s) := by
  rw [upS_bool]
  unfold oneR
  have e : decide (0 < k.rep) = decide (1 ≤ k.rep) := decide_eq_decide.2 (by omega)
  rw [e]
  cases decide (1 ≤ k.rep) <;> cases decide (k.rep ≤ 16) <;> cases (k.runs.length == 0) <;> cases rightC k.runs <;> rfl
theorem upS_one1 {Z : Int} (hZ : 1 ≤ Z) (k : Kn) (s : List Kn) : upS Z (k :: s) = (oneR k && ((!decide (Z ≥ k.rep)) && upS k.rep s)) := by
  rw [upS_bool]
  unfold oneR
  have e : decide (Z < k.rep) = !decide (Z ≥ k.rep) := by
    by_cases h : Z < k.rep
    · rw [decide_eq_true h, decide_eq_false (by omega)]; rfl
    · rw [decide_eq_false h, decide_eq_true (by omega)]; rfl
  rw [e]
  by_cases h : 1 ≤ k.rep
  · rw [decide_eq_true h]
    cases decide (Z ≥ k.rep) <;> cases decide (k.rep ≤ 16) <;> cases (k.runs.length == 0) <;> cases rightC k.runs <;> rfl
  · rw [decide_eq_false h, decide_eq_true (show Z ≥ k.rep by omega)]; rfl
set_option maxRecDepth 100000 in
theorem vs_right1 (x : Kn) (A : Option Addr) (c n : Nat) (hn : n = x.runs.length) (X : Int) (hX : x.rep = X) (v : Bool) (hv : oneR x = v) (w : World) (hr : kRn.Rd w w.heap.size A c x.runs) :
    Calls Tryz.prog 87 #[.agg #[.int .i64 X, .slice A n c]] w fun e w' => e = .returned (.bool v) ∧ Below w.heap.size w w' := by
  have hb := below_new w (.cells #[.int .i64 X, .slice A n c] 64)
  obtain ⟨z, hz⟩ : ∃ z, rightC x.runs = z := ⟨_, rfl⟩
  obtain ⟨p, hp⟩ : ∃ p, (decide (1 ≤ X) && decide (X ≤ 16)) = p := ⟨_, rfl⟩
  obtain ⟨q, hq⟩ : ∃ q, (n == 0) = q := ⟨_, rfl⟩
  have C1 := fun w => Lib.hid (vs_rep X p hp w)
  have C2 := Lib.hid (cn_right A c n x.runs hn z hz _ (hr.call hb))
  have HB := Lib.hid hb
  have hmx := rd_maxC hr hn
  unfold oneR at hv
  rw [hX, ← hn, hz, hp, hq] at hv
  have h3 : decide ((n : Int) > 0) = !q := by
    rw [← hq]
    by_cases h : n = 0
    · subst h; rfl
    · rw [decide_eq_true (by omega), beq_eq_false_iff_ne.2 h]; rfl
  have h4 : decide ((0 : Int) < (n : Int)) = !q := h3
  have h5 : decide (0 < n) = !q := by
    rw [← h3]; exact decide_eq_decide.2 (by omega)
  subst hv
  clear hn hr hz hp hX hb hq
  cases p <;> cases q
  all_goals
    go_enter Tryz.func87, Tryz.ntmps87
    go_wp2_with (first
      | ((with_reducible refine (C1 _).out.mono ?_); rintro e w1 ⟨rfl, rfl⟩)
      | ((with_reducible refine C2.out.mono ?_); rintro e w1 ⟨rfl, hq⟩; have HQ := Lib.hid hq; clear hq))
    go_ret
    first
      | exact ⟨rfl, HB.out⟩
      | exact ⟨rfl, HB.out.trans (HQ.out.mono HB.out.size)⟩
set_option maxRecDepth 100000 in
set_option maxHeartbeats 8000000 in
theorem vs_right (A : Option Addr) (c n : Nat) (s : List Kn) (hn : n = s.length) (v : Bool) (hv : rightS s = v) (w : World) (hr : RdK w w.heap.size A c s) :
    Calls Tryz.prog 59 #[.slice A n c] w fun e w' => e = .returned (.bool v) ∧ Below w.heap.size w w' := by
  have HN := Lib.hid hn
  have HR := Lib.hid hr
  have HV := Lib.hid hv
  have hmx := rdk_max hr hn
  have hcx : n ≤ c := by rw [hn]; exact hr.room
  clear hn hr hv
  go_enter Tryz.func59, Tryz.ntmps59
  go_wp2_with fail
  go_loopw [7] (fun i wr => ∃ k : Nat, k ≤ n ∧ i = .int .i64 k ∧ Hid ((k = 0 ∧ upS 0 s = v) ∨ ∃ j p, k = j + 1 ∧ s[j]? = some p ∧ 1 ≤ p.rep ∧ upS p.rep (s.drop k) = v) ∧ Hid (Below w.heap.size w wr)) (fun i _ => n - (intOf i).toNat)
  case atStart => exact ⟨0, by omega, rfl, .inl ⟨rfl, HV.out⟩, Below.refl _ _⟩
  case round =>
    obtain ⟨k, hk, rfl, HL, HW⟩ := hrel
    by_cases hlt : k < n
    · obtain ⟨r, hg, hd, -⟩ := cnt_get (l := s) (k := k) (by have := HN.out; omega)
      obtain ⟨b, o, rfl, hb1, hcell⟩ := knowns_at (HR.out.below HW.out) (by have := HN.out; omega)
      obtain ⟨A1, n1, c1, hn1, hr1, q0, q1⟩ := hcell k r hg
      obtain ⟨X, hX⟩ : ∃ X, r.rep = X := ⟨_, rfl⟩
      obtain ⟨z, hz⟩ : ∃ z, oneR r = z := ⟨_, rfl⟩
      have hz1 : z = true → 1 ≤ X := fun h => by
        rw [h] at hz
        unfold oneR at hz
        rw [Bool.and_eq_true, Bool.and_eq_true, decide_eq_true_eq] at hz
        rw [← hX]; exact hz.1.1
      obtain ⟨wb, hwb⟩ : ∃ wb, wr.alloc (.cells #[.int .i64 X, .slice A1 n1 c1] 64) = wb := ⟨_, rfl⟩
      have hbb : Below wr.heap.size wr wb := by rw [← hwb]; exact below_new _ _
      have CS := Lib.hid (fun (L : List (Addr × Value)) => fun (W : World) (hC : CellL wb L W) => (vs_right1 r A1 c1 n1 hn1 X hX z hz W (((hr1.more HW.out.size).call hbb).call (cellL_size hC))).mono fun (e' : Ending) (W' : World) ⟨h1, h2⟩ => (⟨h1, cellL_call h2 hC⟩ : e' = Ending.returned (.bool z) ∧ CellL wb L W'))
      rw [hX] at q0
      have hnew := heap_new wr (.cells #[.int .i64 X, .slice A1 n1 c1] 64) _ rfl
      have t0 : wb.cell? ⟨wr.heap.size, 0, none⟩ = some (.int .i64 X) := by rw [← hwb, cell_of_row _ _ _ _ _ _ hnew]; rfl
      have t1 : wb.cell? ⟨wr.heap.size, 1, none⟩ = some (.slice A1 n1 c1) := by rw [← hwb, cell_of_row _ _ _ _ _ _ hnew]; rfl
      have HWB := Lib.hid (HW.out.trans (hbb.mono HW.out.size))
      have hk0 : (0 : Int) ≤ (k : Int) := by omega
      have hkn : (k : Int) < (n : Int) := by omega
      rcases HL.out with ⟨h0, hL⟩ | ⟨j, p, hj, hgj, hp1, hL⟩
      · subst h0
        rw [List.drop_zero] at hd
        have HF := Lib.hid (show (z && upS X (s.drop (0 + 1))) = v by rw [hd, upS_one0, hX, hz] at hL; exact hL)
        have HNX := Lib.hid (fun (h1 : z = true) (h : upS X (s.drop (0 + 1)) = v) => show (0 + 1 = 0 ∧ upS 0 s = v) ∨ ∃ j p, 0 + 1 = j + 1 ∧ s[j]? = some p ∧ 1 ≤ p.rep ∧ upS p.rep (s.drop (0 + 1)) = v from .inr ⟨0, r, rfl, hg, by rw [hX]; exact hz1 h1, by rw [hX]; exact h⟩)
        rw [Nat.zero_mul, Nat.add_zero] at q0 q1
        have HC := Lib.hid (show CellL wb [(⟨wr.heap.size, 0, none⟩, .int .i64 X), (⟨wr.heap.size, 1, none⟩, .slice A1 n1 c1)] wb from ⟨t0, t1, Below.refl _ _⟩)
        clear hcell hg hd hX hz hz1 hL HL hr1 hn1 t0 t1 hnew hbb
        cases z
        all_goals
          go_upto_region 4 with fail
          refine q_region (CellL wb [(⟨wr.heap.size, 0, none⟩, .int .i64 X), (⟨wr.heap.size, 1, none⟩, .slice A1 n1 c1)]) (by kernel_rfl) (by kernel_rfl) (cellL_drew HC.out) ?_
          repeat (first
            | go_big_quiet_skip
            | (go_big_quiet_want; (first
              | (refine q_take (v := ?_) ?_ ?_; rotate_left; (focus (intro w hSw; (try simp only [CellL] at hSw); go_split_ands; go_simp; (try (rw [if_neg (by omega)])); (try with_reducible rfl); done)))
              | (refine q_call (CS.out _) ?_ ?_; (focus (intro w hSw; (try simp only [CellL] at hSw); go_split_ands; go_simp; (try (rw [if_neg (by omega)])); done)))); (try simp only [Act.put, List.setIfInBounds_toArray, List.set_cons_zero, List.set_cons_succ]); go_big_quiet_on))
          refine wpQuiet_nil ?_
          intro w2 hw2
          have HB2 := Lib.hid (HWB.out.trans ((cellL_size hw2).mono HWB.out.size))
          clear hw2
          go_wp2_with fail
          first
            | (go_ret; exact ⟨ret_bool (show false = v from HF.out), HB2.out⟩)
            | (go_roundw
               case rel => exact ⟨0 + 1, by omega, by go_num, HNX.out rfl HF.out, HB2⟩
               case measure => simp [intOf]; omega)
      · subst hj
        obtain ⟨A2, n2, c2, hn2, hr2, u0, u1⟩ := hcell j p hgj
        obtain ⟨Z, hZ⟩ : ∃ Z, p.rep = Z := ⟨_, rfl⟩
        rw [hZ] at u0 hp1 hL
        obtain ⟨y, hy⟩ : ∃ y, decide (Z ≥ X) = y := ⟨_, rfl⟩
        have hy2 : decide (X ≤ Z) = y := hy
        have HF := Lib.hid (show (z && ((!y) && upS X (s.drop (j + 1 + 1)))) = v by rw [hd, upS_one1 hp1, hX, hz, hy] at hL; exact hL)
        have HNX := Lib.hid (fun (h1 : z = true) (h : upS X (s.drop (j + 1 + 1)) = v) => show (j + 1 + 1 = 0 ∧ upS 0 s = v) ∨ ∃ j' p, j + 1 + 1 = j' + 1 ∧ s[j']? = some p ∧ 1 ≤ p.rep ∧ upS p.rep (s.drop (j + 1 + 1)) = v from .inr ⟨j + 1, r, rfl, hg, by rw [hX]; exact hz1 h1, by rw [hX]; exact h⟩)
        have hk1 : (0 : Int) ≤ (j : Int) + 1 := by omega
        have hkn1 : (j : Int) + 1 < (n : Int) := by omega
        have hj0 : (0 : Int) ≤ (j : Int) := by omega
        have hjn : (j : Int) < (n : Int) := by omega
        have hjd : decide ((j : Int) < 0) = false := decide_eq_false (by omega)
        have hjg : decide ((0 : Int) < (j : Int) + 1) = true := decide_eq_true (by omega)
        have hjg2 : decide ((j : Int) + 1 > 0) = true := hjg
        have hjw : IntKind.i64.wrap ((j : Int) + 1 - 1) = (j : Int) := by rw [Int.add_sub_cancel]; exact IntWalk.i64_in _ (by omega)
        have hjw2 : IntKind.i64.wrap (j : Int) = (j : Int) := IntWalk.i64_in _ (by omega)
        have u2 : wb.cell? ⟨b, o + j * 2, none⟩ = some (.int .i64 Z) := ((bcell hbb).1 _ _ (World.block_lt_of_cell? wr _ u0)).trans u0
        have HC := Lib.hid (show CellL wb [(⟨wr.heap.size, 0, none⟩, .int .i64 X), (⟨wr.heap.size, 1, none⟩, .slice A1 n1 c1), (⟨b, o + j * 2, none⟩, .int .i64 Z)] wb from ⟨t0, t1, u2, Below.refl _ _⟩)
        clear hcell hg hgj hd hX hZ hz hz1 hL HL hr1 hn1 hr2 hn2 t0 t1 u0 u1 u2 hnew hbb
        cases z <;> cases y
        all_goals
          go_upto_region 4 with fail
          refine q_region (CellL wb [(⟨wr.heap.size, 0, none⟩, .int .i64 X), (⟨wr.heap.size, 1, none⟩, .slice A1 n1 c1), (⟨b, o + j * 2, none⟩, .int .i64 Z)]) (by kernel_rfl) (by kernel_rfl) (cellL_drew HC.out) ?_
          repeat (first
            | go_big_quiet_skip
            | (go_big_quiet_want; (first
              | (refine q_take (v := ?_) ?_ ?_; rotate_left; (focus (intro w hSw; (try simp only [CellL] at hSw); go_split_ands; go_simp; (try (rw [if_neg (by omega)])); (try with_reducible rfl); done)))
              | (refine q_call (CS.out _) ?_ ?_; (focus (intro w hSw; (try simp only [CellL] at hSw); go_split_ands; go_simp; (try (rw [if_neg (by omega)])); done)))); (try simp only [Act.put, List.setIfInBounds_toArray, List.set_cons_zero, List.set_cons_succ]); go_big_quiet_on))
          refine wpQuiet_nil ?_
          intro w2 hw2
          have HB2 := Lib.hid (HWB.out.trans ((cellL_size hw2).mono HWB.out.size))
          clear hw2
          go_wp2_with fail
          first
            | (go_ret; exact ⟨ret_bool (show false = v from HF.out), HB2.out⟩)
            | (go_roundw
               case rel => exact ⟨j + 1 + 1, by omega, by go_num, HNX.out rfl HF.out, HB2⟩
               case measure => simp [intOf]; omega)
    · have HF := Lib.hid (show true = v by
        rcases HL.out with ⟨h0, hL⟩ | ⟨j, p, hj, hgj, hp1, hL⟩
        · have : s = [] := List.eq_nil_of_length_eq_zero (by have := HN.out; omega)
          rw [← hL, this]; rfl
        · rw [← hL, List.drop_eq_nil_of_le (by have := HN.out; omega)]; rfl)
      go_wp2_with fail
      go_ret
      exact ⟨ret_bool HF.out, HW.out⟩
end Go.Proofs.YtopjhebhdopjpaaGreat

namespace Go.Proofs.YtopjhebhdopjpaaGreat
open Go.RowKit

def CSetC (F : FuncId) (op : Int) : Prop := ∀ (A B : Option Addr) (c d n m : Nat) (a b : List Rn), n = a.length → m = b.length → n ≤ 100000 → m ≤ 100000 → ∀ U, makeC op a b = U → ∀ N, U.length = N → ∀ w, kRn.Rd w w.heap.size A c a → kRn.Rd w w.heap.size B d b →
  Calls Tryz.prog F #[.slice A n c, .slice B m d] w (RetC w N U)
end Go.Proofs.YtopjhebhdopjpaaGreat

namespace Go.Proofs.YtopjhebhdopjpaaGreat
open Go.RowKit

structure SdAt (w : World) (g : Nat) (v : Bool) (s : Value) : Prop where
  c0 : w.cell? ⟨g, 0, none⟩ = some (.bool v)
  c1 : w.cell? ⟨g, 1, none⟩ = some s
  fr : ∀ k, w.frozen? ⟨g, k, none⟩ = false
theorem SdAt.lt {w : World} {g : Nat} {v : Bool} {s : Value} (h : SdAt w g v s) : g < w.heap.size := World.block_lt_of_cell? w _ h.c0
theorem SdAt.below {w w' : World} {g : Nat} {v : Bool} {s : Value} (h : SdAt w g v s) (hb : Below w.heap.size w w') : SdAt w' g v s := by
  obtain ⟨hc, hf⟩ := bcell hb
  have hl := h.lt
  exact ⟨(hc _ _ hl).trans h.c0, (hc _ _ hl).trans h.c1, fun k => (hf _ _ hl).trans (h.fr k)⟩
theorem SdAt.drew {w : World} {g : Nat} {v : Bool} {s : Value} (h : SdAt w g v s) : SdAt w.drew g v s := ⟨h.c0, h.c1, h.fr⟩
theorem SdAt.kept {w w' : World} {row : Option Nat} {g : Nat} {v : Bool} {s : Value} (h : SdAt w g v s) (hg : w.grownBy w' row) (hne : some g ≠ row) : SdAt w' g v s :=
  ⟨hg.cell h.c0 hne, hg.cell h.c1 hne, fun k => (hg.frozen_far ⟨g, k, none⟩ h.lt hne).trans (h.fr k)⟩
theorem SdAt.other {w : World} {g g' k : Nat} {v : Bool} {s u : Value} (h : SdAt w g v s) (hne : g' ≠ g) : SdAt (w.setCell ⟨g', k, none⟩ u) g v s :=
  ⟨set_other h.c0 (addr_block hne) u, set_other h.c1 (addr_block hne) u, fun j => by rw [World.frozen?_setCell]; exact h.fr j⟩
theorem SdAt.set {w : World} {g : Nat} {v v' : Bool} {s s' : Value} (h : SdAt w g v s) : SdAt ((w.setCell ⟨g, 0, none⟩ (.bool v')).setCell ⟨g, 1, none⟩ s') g v' s' :=
  ⟨set_other (set_same h.c0 _) (addr_off (by decide)) _, set_same (set_other h.c1 (addr_off (by decide)) _) _, fun j => by rw [World.frozen?_setCell, World.frozen?_setCell]; exact h.fr j⟩
theorem SdAt.low {w w' : World} {x : Obj} {g B : Nat} {v : Bool} {s : Value} (h : SdAt w g v s) (hb : Below B (w.alloc x) w') (hg : g < B) : SdAt w' g v s := by
  have h2 := h.below (below_new w x)
  obtain ⟨hc, hf⟩ := bcell hb
  exact ⟨(hc _ _ hg).trans h2.c0, (hc _ _ hg).trans h2.c1, fun k => (hf _ _ hg).trans (h2.fr k)⟩
theorem sdAt_new (w : World) (v : Bool) (s : Value) (t : TypeId) : SdAt (w.alloc (.cells #[.bool v, s] t)) w.heap.size v s := by
  have h := heap_new w (.cells #[.bool v, s] t) _ rfl
  refine ⟨?_, ?_, fun k => ?_⟩
  · rw [cell_of_row _ _ _ _ _ _ h]; rfl
  · rw [cell_of_row _ _ _ _ _ _ h]; rfl
  · unfold World.frozen?; rw [h]; simp
theorem sdAt_new1 (w : World) (x : Obj) (v : Bool) (s : Value) (t : TypeId) : SdAt ((w.alloc x).alloc (.cells #[.bool v, s] t)) (w.heap.size + 1) v s := by
  have := sdAt_new (w.alloc x) v s t
  rwa [size1] at this
theorem below_of_drew {w w' : World} (h : Below w.drew.heap.size w.drew w') : Below w.heap.size w w' := ⟨h.os, h.tape, h.output, h.size, h.block⟩
end Go.Proofs.YtopjhebhdopjpaaGreat

namespace Go.Proofs.YtopjhebhdopjpaaGreat
open Go.RowKit

def CTwoC (F : FuncId) (op : Int) : Prop := ∀ (A B : Option Addr) (c d n m : Nat) (a b : List Rn), n = a.length → m = b.length → n ≤ 100000 → m ≤ 100000 → ∀ U, makeC op a b = U → ∀ N, U.length = N → ∀ w, kRn.Rd w w.heap.size A c a → kRn.Rd w w.heap.size B d b →
  Calls Tryz.prog F #[.slice A n c, .slice B m d] w (RetOC w N U)
theorem RowsG.rds {w : World} {base : Nat} {A : Nat → Option Addr} {N c : Nat → Nat} {L : Nat → List Rn} (h : RowsG w base (slV A N c) L) : ∀ k, k < 16 → kRn.Rd w w.heap.size (A k) (c k) (L k) := fun k hk => (h.own k hk).rd
theorem RowsG.rdSs {w : World} {base : Nat} {A : Nat → Option Addr} {N c : Nat → Nat} {L : Nat → List Rn} (h : RowsG w base (slV A N c) L) (hN : ∀ k, (L k).length = N k) : ∀ k, k < 16 → kRn.RdS w (fun g => base ≤ g) (A k) (c k) (L k) := fun k hk => (h.own k hk).rdS (hN k).symm
theorem vs_set_sl (T : Nat → Prop) (A : Nat → Option Addr) (N c : Nat → Nat) (L : Nat → List Rn) (hL : ∀ k, (L k).length = N k) (f : Int → List Rn) (hf : ∀ k : Nat, f ((k : Int) + 1) = L k) (U : List Kn) (hU : colS f 16 = U) (NU : Nat) (hN : U.length = NU) (w : World) (hr : ∀ k, k < 16 → kRn.RdS w T (A k) (c k) (L k)) :
    Calls Tryz.prog 121 #[grV (slV A N c)] w (dKn.Ret w T NU U) :=
  vs_set_new T (slV A N c) L (fun k _ => ⟨A k, c k, by rw [hL]⟩) f hf U hU NU hN w fun k A' n' c' hk e => by
    injection e with e1 e2 e3
    subst e1 e3
    exact hr k hk
structure MkAt (w0 w : World) (k : Nat) (V : Nat → Value) (L : Nat → List Rn) : Prop where
  all : GrAt w w0.heap.size V
  rows : RowsG w (w0.heap.size + 1) V (fun j => if j < k then L j else [])
  low : Below w0.heap.size w0 w
theorem mkAt_new (w : World) (t : TypeId) (L : Nat → List Rn) : MkAt w (w.alloc (grO (fun _ => .slice none 0 0) t)) 0 (fun _ => .slice none 0 0) L :=
  ⟨grAt_new w _ t, (rowsG_nil _ _).congr fun k _ => if_neg (by omega), below_new w _⟩
theorem MkAt.next {w0 w w' : World} {k : Nat} {V : Nat → Value} {L : Nat → List Rn} {v' : Value} (h : MkAt w0 w k V L) (hk : k < 16) (ho : kRn.Own w' w.heap.size v' (L k)) (hb : Below w.heap.size w w') : MkAt w0 (w'.setCell ⟨w0.heap.size, k, none⟩ v') (k + 1) (upd V k v') L := by
  have hl := h.all.lt
  have hr := h.rows.new hk ho hb hl
  refine ⟨(h.all.below hb).set hk _, (hr.set (hr.low (by omega)) _).congr fun j _ => ?_, (h.low.trans (hb.mono h.low.size)).setCell (p := ⟨w0.heap.size, k, none⟩) (Nat.le_refl _) _⟩
  by_cases e : j = k
  · subst e; rw [upd_at]; exact if_pos (by omega)
  · rw [upd_far _ _ e]
    by_cases h1 : j < k
    · show (if j < k + 1 then L j else []) = if j < k then L j else []
      rw [if_pos h1, if_pos (by omega)]
    · show (if j < k + 1 then L j else []) = if j < k then L j else []
      rw [if_neg h1, if_neg (by omega)]
theorem MkAt.fin {w0 w : World} {V : Nat → Value} {L : Nat → List Rn} (h : MkAt w0 w 16 V L) (N : Nat → Nat) (hN : ∀ k, (L k).length = N k) : ∃ A c, GrAt w w0.heap.size (slV A N c) ∧ ∀ k, k < 16 → kRn.RdS w (fun g => w0.heap.size + 1 ≤ g) (A k) (c k) (L k) := by
  have hr := h.rows.congr (M := L) fun k hk => (if_pos hk).symm
  obtain ⟨A, c, e⟩ := hr.form N hN
  exact ⟨A, c, h.all.congr e, (hr.congrV e).rdSs hN⟩
set_option maxRecDepth 100000 in
set_option maxHeartbeats 8000000 in
theorem vs_both_new (F : FuncId) (op : Int) (HK : CTwoC F op) (eg : ∀ args w, (callFunc F args).run Tryz.prog w = .ok (.enter F args) w) (A B : Option Addr) (c d n m : Nat) (a b : List Kn) (hn : n = a.length) (hm : m = b.length) (hnl : ∀ r, (runsV a r).length ≤ 100000) (hml : ∀ r, (runsV b r).length ≤ 100000) (U : List Kn) (hU : makeS op a b = U) (N : Nat) (hN : U.length = N) (w : World) (ha : RdK w w.heap.size A c a) (hb : RdK w w.heap.size B d b) :
    Calls Tryz.prog 99 #[.slice A n c, .slice B m d, .func (.func F) #[] #[]] w (RetKF w N U) := by
  obtain ⟨NA, hNA⟩ : ∃ NA : Nat → Nat, ∀ k : Nat, (runsV a ((k : Int) + 1)).length = NA k := ⟨_, fun _ => rfl⟩
  obtain ⟨NB, hNB⟩ : ∃ NB : Nat → Nat, ∀ k : Nat, (runsV b ((k : Int) + 1)).length = NB k := ⟨_, fun _ => rfl⟩
  obtain ⟨M, hM⟩ : ∃ M : Nat → List Rn, ∀ k : Nat, makeC op (runsV a ((k : Int) + 1)) (runsV b ((k : Int) + 1)) = M k := ⟨_, fun _ => rfl⟩
  obtain ⟨NM, hNM⟩ : ∃ NM : Nat → Nat, ∀ k : Nat, (M k).length = NM k := ⟨_, fun _ => rfl⟩
  have C1 := Lib.hid (vs_gather A c n a hn (fun r => by have := hnl r; omega) NA hNA w ha)
  have C2 := fun w h => Lib.hid (vs_gather B d m b hm (fun r => by have := hml r; omega) NB hNB w h)
  have KK := Lib.hid (fun (k : Nat) (A B : Option Addr) (c d : Nat) W h1 h2 => HK A B c d (NA k) (NB k) (runsV a ((k : Int) + 1)) (runsV b ((k : Int) + 1)) (hNA k).symm (hNB k).symm (by rw [← hNA]; exact hnl _) (by rw [← hNB]; exact hml _) (M k) (hM k) (NM k) (hNM k) W h1 h2)
  have KS := Lib.hid (fun (AA : Nat → Option Addr) (cc : Nat → Nat) W h => vs_set_sl (fun g => w.heap.size ≤ g) AA NM cc M hNM (fun r => makeC op (runsV a r) (runsV b r)) hM U hU N hN W h)
  have HNM := Lib.hid hNM
  have HB0 := Lib.hid hb
  clear ha hb hn hm hnl hml hU hN hNA hNB hM hNM HK
  go_enter Tryz.func99, Tryz.ntmps99
  go_upto_region 2 with (first
    | ((with_reducible refine C1.out.mono ?_); rintro e w1 ⟨A1, c1, rfl, hrd, hq⟩; have HGA := Lib.hid hrd; have HW1 := Lib.hid hq; replace HB0 := Lib.hid (HB0.out.call hq); clear hrd hq)
    | ((with_reducible refine (C2 _ HB0.out).out.mono ?_); rintro e w2 ⟨A2, c2, rfl, hrd, hq⟩; have HGB := Lib.hid hrd; have HW2 := Lib.hid hq; clear hrd hq))
  clear C1 C2 HB0
  obtain ⟨w5, hw5⟩ : ∃ w5, w5 = (w2.alloc (grO (slV A1 NA c1) 148)).alloc (grO (slV A2 NB c2) 148) := ⟨_, rfl⟩
  have hb5 : Below w2.heap.size w2 w5 := by rw [hw5]; exact (below_new _ _).trans ((below_new _ _).mono (by simp))
  have HA5 := Lib.hid (show GrAt w5 w2.heap.size (slV A1 NA c1) by rw [hw5]; exact (grAt_new _ _ _).alloc _)
  have HB5 := Lib.hid (show GrAt w5 (w2.heap.size + 1) (slV A2 NB c2) by rw [hw5, ← size1 w2 (grO (slV A1 NA c1) 148)]; exact grAt_new _ _ _)
  have HRA := Lib.hid (fun k hk => (((HGA.out.rds k hk).call HW2.out).call hb5))
  have HRB := Lib.hid (fun k hk => ((HGB.out.rds k hk).call hb5))
  have HW5 := Lib.hid ((HW1.out.trans (HW2.out.mono HW1.out.size)).trans (hb5.mono (Nat.le_trans HW1.out.size HW2.out.size)))
  rw [← hw5]
  clear hb5 hw5 HGA HGB HW1 HW2
  go_wp2_with fail
  go_loopw [15] (fun i wr => ∃ (k : Nat) (V : Nat → Value), k ≤ 16 ∧ i = .int .i64 k ∧ Hid (MkAt w5 wr k V M)) (fun i _ => 16 - (intOf i).toNat)
  case atStart => exact ⟨0, _, by omega, rfl, mkAt_new w5 _ M⟩
  case round =>
    obtain ⟨k, V, hk, rfl, HG⟩ := hrel
    by_cases hlt : k < 16
    · have hd : decide ((k : Int) < 16) = true := decide_eq_true (by omega)
      have hk0 : (0 : Int) ≤ (k : Int) := by omega
      have hk1 : (k : Int) < 16 := by omega
      have qa : wr.cell? ⟨w2.heap.size, k, none⟩ = some (.slice (A1 k) (NA k) (c1 k)) := (HA5.out.below HG.out.low).cell k hlt
      have qb : wr.cell? ⟨w2.heap.size + 1, k, none⟩ = some (.slice (A2 k) (NB k) (c2 k)) := (HB5.out.below HG.out.low).cell k hlt
      have K := Lib.hid (KK.out k (A1 k) (A2 k) (c1 k) (c2 k) wr.drew ((HRA.out k hlt).call HG.out.low.drew) ((HRB.out k hlt).call HG.out.low.drew))
      go_upto_region 6 with fail
      go_region_law (first
        | ((try go_simp); (with_reducible refine K.out.mono ?_); rintro e w7 ⟨A7, c7, rfl, ho, hq⟩; (try replace hq := below_of_drew hq); have HO7 := Lib.hid ho; have HQ7 := Lib.hid hq; have q3 := (HG.out.all.below hq).cell k hlt; have f3 := (HG.out.all.below hq).free k; clear ho hq))
      all_goals
        have HN7 := Lib.hid (HG.out.next hlt HO7.out HQ7.out)
        clear HO7 HQ7 q3 f3 qa qb K
        go_wp2_with fail
        go_roundw
        case rel => exact ⟨k + 1, upd V k (.slice A7 (NM k) c7), by omega, by go_num, HN7⟩
        case measure => simp [intOf]; omega
    · have hd : decide ((k : Int) < 16) = false := decide_eq_false (by omega)
      obtain rfl : k = 16 := by omega
      obtain ⟨AA, cc, hgr, hrd⟩ := HG.out.fin NM HNM.out
      have K := Lib.hid (KS.out AA cc wr fun k hk => (hrd k hk).mono fun g hg => by have := HW5.out.size; omega)
      have a0 : wr.cell? ⟨w5.heap.size, 0, none⟩ = some (.slice (AA 0) (NM 0) (cc 0)) := hgr.cell 0 (by omega)
      have a1 : wr.cell? ⟨w5.heap.size, 1, none⟩ = some (.slice (AA 1) (NM 1) (cc 1)) := hgr.cell 1 (by omega)
      have a2 : wr.cell? ⟨w5.heap.size, 2, none⟩ = some (.slice (AA 2) (NM 2) (cc 2)) := hgr.cell 2 (by omega)
      have a3 : wr.cell? ⟨w5.heap.size, 3, none⟩ = some (.slice (AA 3) (NM 3) (cc 3)) := hgr.cell 3 (by omega)
      have a4 : wr.cell? ⟨w5.heap.size, 4, none⟩ = some (.slice (AA 4) (NM 4) (cc 4)) := hgr.cell 4 (by omega)
      have a5 : wr.cell? ⟨w5.heap.size, 5, none⟩ = some (.slice (AA 5) (NM 5) (cc 5)) := hgr.cell 5 (by omega)
      have a6 : wr.cell? ⟨w5.heap.size, 6, none⟩ = some (.slice (AA 6) (NM 6) (cc 6)) := hgr.cell 6 (by omega)
      have a7 : wr.cell? ⟨w5.heap.size, 7, none⟩ = some (.slice (AA 7) (NM 7) (cc 7)) := hgr.cell 7 (by omega)
      have a8 : wr.cell? ⟨w5.heap.size, 8, none⟩ = some (.slice (AA 8) (NM 8) (cc 8)) := hgr.cell 8 (by omega)
      have a9 : wr.cell? ⟨w5.heap.size, 9, none⟩ = some (.slice (AA 9) (NM 9) (cc 9)) := hgr.cell 9 (by omega)
      have a10 : wr.cell? ⟨w5.heap.size, 10, none⟩ = some (.slice (AA 10) (NM 10) (cc 10)) := hgr.cell 10 (by omega)
      have a11 : wr.cell? ⟨w5.heap.size, 11, none⟩ = some (.slice (AA 11) (NM 11) (cc 11)) := hgr.cell 11 (by omega)
      have a12 : wr.cell? ⟨w5.heap.size, 12, none⟩ = some (.slice (AA 12) (NM 12) (cc 12)) := hgr.cell 12 (by omega)
      have a13 : wr.cell? ⟨w5.heap.size, 13, none⟩ = some (.slice (AA 13) (NM 13) (cc 13)) := hgr.cell 13 (by omega)
      have a14 : wr.cell? ⟨w5.heap.size, 14, none⟩ = some (.slice (AA 14) (NM 14) (cc 14)) := hgr.cell 14 (by omega)
      have a15 : wr.cell? ⟨w5.heap.size, 15, none⟩ = some (.slice (AA 15) (NM 15) (cc 15)) := hgr.cell 15 (by omega)
      clear hgr hrd
      go_wp2_with ((with_reducible refine K.out.mono ?_); rintro e w8 ⟨A8, c8, rfl, hrd, hq⟩; have H8 := Lib.hid hrd; have HQ8 := Lib.hid hq; clear hrd hq)
      go_ret
      exact ⟨A8, c8, rfl, H8.out.mono (fun g hg => by have h1 := HW5.out.size; have h2 := HG.out.low.size; rcases hg with hg | hg <;> omega), (HW5.out.trans (HG.out.low.mono HW5.out.size)).trans (HQ8.out.mono (Nat.le_trans HW5.out.size HG.out.low.size))⟩
end Go.Proofs.YtopjhebhdopjpaaGreat

namespace Go.Proofs.YtopjhebhdopjpaaGreat
open Go.RowKit

def VRightC (F : FuncId) : Prop := ∀ (v : Vr) (x y : Int), v.rep = x → v.cnt = y → ∀ z, rightVr v = z → ∀ w, Calls Tryz.prog F #[.agg #[.int .i64 x, .int .i64 y]] w fun e w' => e = .returned (.bool z) ∧ Below w.heap.size w w'
set_option maxRecDepth 100000 in
theorem k_vright : VRightC 119 := by
  intro v x y hx hy z hz w
  unfold rightVr at hz
  rw [hx, hy] at hz
  have HB := Lib.hid (below_new w (.cells #[.int .i64 x, .int .i64 y] 151))
  obtain ⟨b1, h1⟩ : ∃ b, decide (1 ≤ x) = b := ⟨_, rfl⟩
  obtain ⟨b2, h2⟩ : ∃ b, decide (x ≤ 16) = b := ⟨_, rfl⟩
  obtain ⟨b3, h3⟩ : ∃ b, decide (1 ≤ y) = b := ⟨_, rfl⟩
  obtain ⟨b4, h4⟩ : ∃ b, decide (y ≤ 1099511627776) = b := ⟨_, rfl⟩
  rw [h1, h2, h3, h4] at hz
  subst hz
  clear hx hy
  cases b1
  case' true =>
    cases b2
    case' true =>
      cases b3
      case' true =>
        cases b4
  all_goals
    go_enter Tryz.func119, Tryz.ntmps119
    go_wp2_with fail
    go_ret
    exact ⟨rfl, HB.out⟩
end Go.Proofs.YtopjhebhdopjpaaGreat
