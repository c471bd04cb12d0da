/-
  Several texts in one: RdQ, Kept2, KcpC, KcpD, KcpE, Law16H, OpenRngs, OpenPcs.
-/
import Derived.Deep.RegionHeld3
import Derived.Deep.CutRange
import Derived.Handy
import Derived.Deep.Strs
import Derived.Test.YtfklochgciijkaaMg13
/-
  A reader's calls, as a walk meets them; what has grown since then, step by step.
-/
namespace Go.Proofs.Ytfklochgciijkaa
open Go.RowKit

theorem rd_text_q {w : World} {b : Nat} {l s r : List UInt8} {e e2 : Int} {S : ByteArray} {most : Int} (hw : textR most l e = (s, r, e2)) (hS : str s = S) (h : RdAt w b l e) (hl : l.length ≤ 9223372036854775807) :
    Calls Try.prog 81 #[.pointer (some ⟨b, 0, none⟩), .int .i64 most] w (RdPost w b (.string S) r e2) := by
  subst hS
  have := rd_text (givenAt_some h) most hl
  rw [hw] at this
  exact this
theorem rd_bool_q {w : World} {b : Nat} {l r : List UInt8} {e e2 : Int} {n : Nat} (hw : withinR 0 1 l e = (n, r, e2)) {q : Bool} (hq : decide (n = 1) = q) (h : RdAt w b l e) (hl : l.length ≤ 9223372036854775807) :
    Calls Try.prog 82 #[.pointer (some ⟨b, 0, none⟩)] w (RdPost w b (.bool q) r e2) := by
  have := rd_bool (givenAt_some h) hl
  unfold boolR at this
  rw [hw, hq] at this
  exact this
theorem rd_within_q {w : World} {b : Nat} {l r : List UInt8} {e e2 : Int} {n : Nat} {lo hi : Int} (hw : withinR lo hi l e = (n, r, e2)) (h : RdAt w b l e) (hl : l.length ≤ 9223372036854775807) :
    Calls Try.prog 61 #[.pointer (some ⟨b, 0, none⟩), .int .i64 lo, .int .i64 hi] w (RdPost w b (.int .i64 n) r e2) := by
  have := rd_within (givenAt_some h) lo hi hl
  rw [hw] at this
  exact this
theorem grown_alloc {w w' : World} {m : Option Nat} (h : w.grownBy w' m) (o : Obj) : w.grownBy (w'.alloc o) m := h.trans (grown_of_below (below_new w' o) m)
theorem grown_set_new {w w' : World} {m : Option Nat} {g : Nat} (h : w.grownBy w' m) (hg : w.heap.size ≤ g) (k : Nat) (v : Value) : w.grownBy (w'.setCell ⟨g, k, none⟩ v) m := by
  have s := grownBy_set w' g k v
  exact ⟨s.os.trans h.os, s.tape.trans h.tape, s.output.trans h.output, Nat.le_trans h.size s.size, fun j hj hne => (s.block j (Nat.lt_of_lt_of_le hj h.size) (fun e => by injection e with e; omega)).trans (h.block j hj hne)⟩
theorem RdAt.far {w : World} {b g : Nat} {l : List UInt8} {e : Int} (h : RdAt w b l e) (hne : b ≠ g) (k : Nat) (v : Value) : RdAt (w.setCell ⟨g, k, none⟩ v) b l e := h.kept (grownBy_set _ _ _ _) (fun e => hne (by injection e))
def lenOf : Value → Nat
  | .slice _ n _ => n
  | _ => 0
theorem grown_below {w w1 w2 : World} {m : Option Nat} {B : Nat} (h : w.grownBy w1 m) (hb : Below B w1 w2) (hB : w.heap.size ≤ B) : w.grownBy w2 m :=
  ⟨hb.os.trans h.os, hb.tape.trans h.tape, hb.output.trans h.output, Nat.le_trans h.size hb.size, fun j hj hne => (hb.block j (Nat.lt_of_lt_of_le hj hB)).trans (h.block j hj hne)⟩
end Go.Proofs.Ytfklochgciijkaa

/-
  All that was there is as it was, but for two blocks.
-/
namespace Go.Proofs.Ytfklochgciijkaa
open Go.RowKit

structure Kept2 (m E : Nat) (w w' : World) : Prop where
  os : w'.os = w.os
  tape : w'.tape = w.tape
  output : w'.output = w.output
  size : w.heap.size ≤ w'.heap.size
  block : ∀ k, k < w.heap.size → k ≠ m → k ≠ E → w'.heap[k]? = w.heap[k]?
theorem Kept2.refl (m E : Nat) (w : World) : Kept2 m E w w := ⟨rfl, rfl, rfl, Nat.le_refl _, fun _ _ _ _ => rfl⟩
theorem Kept2.trans {m E : Nat} {a b c : World} (h : Kept2 m E a b) (h2 : Kept2 m E b c) : Kept2 m E a c :=
  ⟨h2.os.trans h.os, h2.tape.trans h.tape, h2.output.trans h.output, Nat.le_trans h.size h2.size, fun k hk h3 h4 => (h2.block k (Nat.lt_of_lt_of_le hk h.size) h3 h4).trans (h.block k hk h3 h4)⟩
theorem Kept2.grown {m E : Nat} {a b c : World} (h : Kept2 m E a b) (h2 : b.grownBy c (some m)) : Kept2 m E a c :=
  h.trans ⟨h2.os, h2.tape, h2.output, h2.size, fun k hk h3 _ => h2.block k hk fun e => h3 (by injection e)⟩
theorem Kept2.below {m E B : Nat} {a b c : World} (h : Kept2 m E a b) (h2 : Below B b c) (hB : a.heap.size ≤ B) : Kept2 m E a c :=
  ⟨h2.os.trans h.os, h2.tape.trans h.tape, h2.output.trans h.output, Nat.le_trans h.size h2.size, fun k hk h3 h4 => (h2.block k (Nat.lt_of_lt_of_le hk hB)).trans (h.block k hk h3 h4)⟩
theorem Kept2.alloc {m E : Nat} {a b : World} (h : Kept2 m E a b) (o : Obj) : Kept2 m E a (b.alloc o) := h.below (below_new b o) h.size
theorem Kept2.set {m E g k : Nat} {a b : World} (h : Kept2 m E a b) (hg : a.heap.size ≤ g ∨ g = E) (v : Value) : Kept2 m E a (b.setCell ⟨g, k, none⟩ v) := by
  have s := grownBy_set b g k v
  refine ⟨s.os.trans h.os, s.tape.trans h.tape, s.output.trans h.output, Nat.le_trans h.size s.size, fun j hj h3 h4 => (s.block j (Nat.lt_of_lt_of_le hj h.size) fun e => ?_).trans (h.block j hj h3 h4)⟩
  injection e with e
  rcases hg with hg | hg <;> omega
theorem Kept2.of_drew {m E : Nat} {a b : World} (h : Kept2 m E a.drew b) : Kept2 m E a b := ⟨h.os, h.tape, h.output, h.size, h.block⟩
theorem Kept2.cell {m E : Nat} {w w' : World} (h : Kept2 m E w w') {p : Addr} {v : Value} (hv : w.cell? p = some v) (h1 : p.block ≠ m) (h2 : p.block ≠ E) : w'.cell? p = some v :=
  (World.cell?_of_block (h.block p.block (World.block_lt_of_cell? w p hv) h1 h2)).trans hv
theorem Kept2.gb {m E : Nat} {a w w' : World} (h : Kept2 m E w w') (hg : a.grownBy w (some m)) (hE : a.heap.size ≤ E) : a.grownBy w' (some m) :=
  ⟨h.os.trans hg.os, h.tape.trans hg.tape, h.output.trans hg.output, Nat.le_trans hg.size h.size, fun k hk hne => (h.block k (Nat.lt_of_lt_of_le hk hg.size) (fun e => hne (by rw [e])) (by omega)).trans (hg.block k hk hne)⟩
theorem Kind.Own.kept2 {P : Program} {α : Type} {k : Kind P α} {w w' : World} {base m E : Nat} {v : Value} {l : List α} (h : k.Own w base v l) (h2 : Kept2 m E w w') (hm : m < base) (hE : E < base) : k.Own w' base v l := by
  obtain ⟨h1, h3⟩ := h
  refine ⟨h1, ?_⟩
  rcases h3 with h3 | ⟨g, cap, cur, hv, hg, hb, r⟩
  · exact .inl h3
  · exact .inr ⟨g, cap, cur, hv, hg, (h2.block g (lt_of_block hb) (by omega) (by omega)).trans hb, r⟩
/-- A number in a block of its own. -/
def EndAt (w : World) (E : Nat) (W : Int) : Prop := w.cell? ⟨E, 0, none⟩ = some (.int .i64 W) ∧ ∀ k, w.frozen? ⟨E, k, none⟩ = false
theorem EndAt.lt {w : World} {E : Nat} {W : Int} (h : EndAt w E W) : E < w.heap.size := World.block_lt_of_cell? w _ h.1
theorem EndAt.grown {w w' : World} {row : Option Nat} {E : Nat} {W : Int} (h : EndAt w E W) (hg : w.grownBy w' row) (hne : some E ≠ row) : EndAt w' E W :=
  ⟨hg.cell h.1 hne, fun k => (hg.frozen_far ⟨E, k, none⟩ h.lt hne).trans (h.2 k)⟩
theorem EndAt.alloc {w : World} {E : Nat} {W : Int} (h : EndAt w E W) (o : Obj) : EndAt (w.alloc o) E W := by
  obtain ⟨hc, hf⟩ := bcell (below_new w o)
  exact ⟨(hc _ _ h.lt).trans h.1, fun k => (hf _ _ h.lt).trans (h.2 k)⟩
theorem EndAt.under {w w' : World} {B E : Nat} {W : Int} (h : EndAt w E W) (hb : Below B w w') (hE : E < B) : EndAt w' E W := by
  obtain ⟨hc, hf⟩ := bcell hb
  exact ⟨(hc _ _ hE).trans h.1, fun k => (hf _ _ hE).trans (h.2 k)⟩
theorem cell_under {w w' : World} {B g k : Nat} {v : Value} (h : w.cell? ⟨g, k, none⟩ = some v) (o : Obj) (hb : Below B (w.alloc o) w') (hg : g < B) : w'.cell? ⟨g, k, none⟩ = some v := by
  rw [(bcell hb).1 _ _ hg, (bcell (below_new w o)).1 _ _ (World.block_lt_of_cell? w _ h), h]
theorem EndAt.set {w : World} {E : Nat} {W : Int} (h : EndAt w E W) (X : Int) : EndAt (w.setCell ⟨E, 0, none⟩ (.int .i64 X)) E X :=
  ⟨set_same h.1 _, fun k => by rw [World.frozen?_setCell]; exact h.2 k⟩
theorem EndAt.other {w : World} {E g k : Nat} {W : Int} (h : EndAt w E W) (hne : g ≠ E) (u : Value) : EndAt (w.setCell ⟨g, k, none⟩ u) E W :=
  ⟨set_other h.1 (addr_block hne) u, fun j => by rw [World.frozen?_setCell]; exact h.2 j⟩
theorem endAt_new (w : World) (W : Int) (t : TypeId) : EndAt (w.alloc (.cells #[.int .i64 W] t)) w.heap.size W := by
  have h := heap_new w (.cells #[.int .i64 W] t) _ rfl
  refine ⟨?_, fun k => ?_⟩
  · rw [cell_of_row _ _ _ _ _ _ h]; rfl
  · unfold World.frozen?; rw [h]; simp
theorem rd_number_q {w : World} {b : Nat} {l r : List UInt8} {e e2 : Int} {n : Nat} (hw : numR l e = (n, r, e2)) (h : RdAt w b l e) (hl : l.length ≤ 9223372036854775807) :
    Calls Try.prog 75 #[.pointer (some ⟨b, 0, none⟩)] w (RdPost w b (.int .i64 n) r e2) := by
  have := rd_number (givenAt_some h) hl
  rw [hw] at this
  exact this
theorem box_new (w : World) (m : Nat) (t : TypeId) : (w.alloc (.cells #[.pointer (some ⟨m, 0, none⟩)] t)).cell? ⟨w.heap.size, 0, none⟩ = some (.pointer (some ⟨m, 0, none⟩)) := by
  rw [cell_of_row _ _ _ _ _ _ (heap_new w (.cells #[.pointer (some ⟨m, 0, none⟩)] t) _ rfl)]; rfl
end Go.Proofs.Ytfklochgciijkaa

/-
  Layer 16 (kcode), the program: the runs that a reader reads.
-/
namespace Go.Proofs.Ytfklochgciijkaa
open Go.RowKit

theorem numR_len9 (l : List UInt8) (e : Int) : (numR l e).2.1.length ≤ l.length := numR_len l e
set_option maxRecDepth 100000 in
set_option maxHeartbeats 4000000 in
theorem kc_run (m E G : Nat) (l r : List UInt8) (e e2 W X Z : Int) (hx : runRd W l e = (⟨X, Z⟩, r, e2)) (hW : 0 ≤ W) (hW9 : W ≤ 4611686018427387904) (hl : l.length ≤ 1000000) (hmE : m ≠ E) (hmG : m ≠ G) (hEG : E ≠ G) (w : World) (hr : RdAt w m l e) (hE : EndAt w E W) (hG : w.cell? ⟨G, 0, none⟩ = some (.pointer (some ⟨m, 0, none⟩))) :
    Calls Try.prog 74 #[.pointer (some ⟨E, 0, none⟩), .pointer (some ⟨G, 0, none⟩)] w fun x w' => x = .returned (.agg #[.int .i64 X, .int .i64 Z]) ∧ RdAt w' m r e2 ∧ EndAt w' E Z ∧ w'.cell? ⟨G, 0, none⟩ = some (.pointer (some ⟨m, 0, none⟩)) ∧ Kept2 m E w w' := by
  obtain ⟨xx, q3, x3, hq3⟩ : ∃ xx q3 x3, numR l e = (xx, q3, x3) := ⟨_, _, _, rfl⟩
  obtain ⟨yy, q4, x4, hq4⟩ : ∃ yy q4 x4, numR q3 x3 = (yy, q4, x4) := ⟨_, _, _, rfl⟩
  have hx9 := numR_hi hq3
  have hy9 := numR_hi hq4
  have l3 : q3.length ≤ l.length := by have := numR_len9 l e; rw [hq3] at this; exact this
  have hRU : runRd W l e = (⟨W + (xx : Int), W + (xx : Int) + (yy : Int)⟩, q4, x4) := by unfold runRd; rw [hq3]; simp only; rw [hq4]
  rw [hRU] at hx
  injection hx with h1 h2
  injection h1 with h1 h3
  injection h2 with h2 h4
  subst h2 h4
  rw [h1] at h3
  have w1' : IntKind.i64.wrap (W + (xx : Int)) = X := by rw [h1]; exact IntWalk.i64_in _ (by omega)
  have w2' : IntKind.i64.wrap (X + (yy : Int)) = Z := by rw [h3]; exact IntWalk.i64_in _ (by omega)
  have T1 := fun (w' : World) (hf : RdAt w' m l e) => Lib.hid (rd_number_q hq3 hf (by omega))
  have T2 := fun (w' : World) (hf : RdAt w' m q3 x3) => Lib.hid (rd_number_q hq4 hf (by omega))
  obtain ⟨H, hH⟩ : ∃ H, w.heap.size = H := ⟨_, rfl⟩
  have hmH : m < H := hH ▸ hr.lt
  have hEH : E < H := hH ▸ hE.lt
  have hGH : G < H := hH ▸ World.block_lt_of_cell? w _ hG
  have NmE := Lib.hid (show (some E : Option Nat) ≠ some m from fun e => by injection e with e; omega)
  have NmG := Lib.hid (show (some G : Option Nat) ≠ some m from fun e => by injection e with e; omega)
  have NmH := Lib.hid (show (some H : Option Nat) ≠ some m from fun e => by injection e with e; omega)
  have NEG := Lib.hid hEG
  have NmE2 := Lib.hid hmE
  have NHE := Lib.hid (show H ≠ E by omega)
  have NHG := Lib.hid (show H ≠ G by omega)
  have NHm := Lib.hid (show m ≠ H by omega)
  have HHH := Lib.hid hH
  obtain ⟨w9, hw9⟩ : ∃ w9, w9 = w.alloc (.cells #[.int .i64 0, .int .i64 0] 49) := ⟨_, rfl⟩
  have HR := Lib.hid (show RdAt w9 m l e by rw [hw9]; exact heap_old _ hr)
  have HE := Lib.hid (show EndAt w9 E W by rw [hw9]; exact hE.alloc _)
  have HG := Lib.hid (show w9.cell? ⟨G, 0, none⟩ = some (.pointer (some ⟨m, 0, none⟩)) by rw [hw9, alloc_keeps _ _ _ _ (by omega)]; exact hG)
  have HRN := Lib.hid (show RnAt w9 H 0 0 by rw [hw9, ← hH]; exact rnAt_new _ _ _ _)
  have HK := Lib.hid (show Kept2 m E w w9 by rw [hw9]; exact (Kept2.refl m E w).alloc _)
  clear hr hE hG hq3 hq4 hRU l3 hmH hEH hGH hEG hmE hmG hx9 hy9 h1 h3 hW hW9
  go_enter Try.func74, Try.ntmps74
  go_upto_region 1 with fail
  (try rw [hH])
  rw [← hw9]
  clear hw9 hH
  obtain ⟨e0, e1⟩ := HE.out
  have g0 := HG.out
  have HRd := Lib.hid (show RdAt w9.drew m l e from HR.out)
  go_region_held3 (fun w' => w'.cell? ⟨E, 0, none⟩ = some (.int .i64 W) ∧ w'.cell? ⟨G, 0, none⟩ = some (.pointer (some ⟨m, 0, none⟩))) (first | (exact ⟨by assumption, by assumption⟩) | go_keep)
    (first
      | (go_at_call 75; (with_reducible refine (T1 _ HRd.out).out.mono ?_); rintro x w8 ⟨rfl, hrf, hg⟩; replace hg := gb_of_drew hg; replace HE := Lib.hid (HE.out.grown hg NmE.out); replace HG := Lib.hid (World.grownBy.cell hg HG.out NmG.out); replace HRN := Lib.hid (HRN.out.grown hg NmH.out); replace HK := Lib.hid (HK.out.grown hg); replace HR := Lib.hid hrf; clear hrf hg e0 e1 g0; obtain ⟨e0, e1⟩ := HE.out; have g0 := HG.out))
  clear T1
  clear HRd
  go_upto_region 3 with ((with_reducible refine (T2 _ HR.out).out.mono ?_); rintro x w7 ⟨rfl, hrf, hg⟩; replace HE := Lib.hid (HE.out.grown hg NmE.out); replace HG := Lib.hid (World.grownBy.cell hg HG.out NmG.out); replace HRN := Lib.hid (HRN.out.grown hg NmH.out); replace HK := Lib.hid (HK.out.grown hg); replace HR := Lib.hid hrf; clear hrf hg e0 e1 g0; obtain ⟨e0, e1⟩ := HE.out; have g0 := HG.out)
  clear T2
  obtain ⟨w6, hw6⟩ : ∃ w6, w6 = w7.setCell ⟨E, 0, none⟩ (.int .i64 Z) := ⟨_, rfl⟩
  have HE6 := Lib.hid (show EndAt w6 E Z by rw [hw6]; exact HE.out.set Z)
  have HG6 := Lib.hid (show w6.cell? ⟨G, 0, none⟩ = some (.pointer (some ⟨m, 0, none⟩)) by rw [hw6]; exact set_other HG.out (addr_block NEG.out) _)
  have HN6 := Lib.hid (show RnAt w6 H 0 0 by rw [hw6]; exact HRN.out.other (Ne.symm NHE.out))
  have HR6 := Lib.hid (show RdAt w6 m q4 x4 by rw [hw6]; exact HR.out.far NmE2.out _ _)
  have HK6 := Lib.hid (show Kept2 m E w w6 by rw [hw6]; exact HK.out.set (.inr rfl) _)
  rw [← hw6]
  clear hw6 HE HG HRN HR HK e0 e1 g0
  obtain ⟨e0, e1⟩ := HE6.out
  obtain ⟨r0, r1, r2⟩ := HN6.out
  go_wp2_with fail
  obtain ⟨h0, h1, -⟩ := (HN6.out.set0 X).set1 Z
  exact bodyPost_ret (v := .agg #[.int .i64 X, .int .i64 Z]) (by simp [results, Try.results74, go_sem, h0, h1]) rfl ⟨rfl, (HR6.out.far NHm.out _ _).far NHm.out _ _, (HE6.out.other NHE.out _).other NHE.out _, set_other (set_other HG6.out (addr_block NHG.out) _) (addr_block NHG.out) _, (HK6.out.set (.inl (Nat.le_of_eq HHH.out)) _).set (.inl (Nat.le_of_eq HHH.out)) _⟩
theorem withinR_to {lo hi : Int} (h0 : 0 ≤ hi) (l : List UInt8) (e : Int) : ((withinR lo hi l e).1 : Int) ≤ hi := withinR_hi h0 (r := (withinR lo hi l e).2.1) (e2 := (withinR lo hi l e).2.2) rfl
set_option maxRecDepth 100000 in
set_option maxHeartbeats 8000000 in
theorem kc_sevr (m E G n N : Nat) (l q1 r : List UInt8) (e x1 e2 : Int) (h1 : withinR 0 4096 l e = (n, q1, x1)) (Y : List Rn) (h2 : runsRd n 0 q1 x1 = (Y, r, e2)) (hN : N = Y.length) (hl : l.length ≤ 1000000) (hmE : m ≠ E) (hmG : m ≠ G) (hEG : E ≠ G) (w : World) (hr : RdAt w m l e) (hE : EndAt w E 0) (hG : w.cell? ⟨G, 0, none⟩ = some (.pointer (some ⟨m, 0, none⟩))) :
    Calls Try.prog 73 #[.agg #[.pointer (some ⟨m, 0, none⟩)], .int .i64 4096, .func (.func 74) #[] #[.pointer (some ⟨E, 0, none⟩), .pointer (some ⟨G, 0, none⟩)]] w fun x w' => ∃ A c, x = .returned (.slice A N c) ∧ kRn.Own w' w.heap.size (.slice A N c) Y ∧ RdAt w' m r e2 ∧ Kept2 m E w w' := by
  have hn9 : n ≤ 4096 := by have := withinR_to (lo := 0) (hi := 4096) (by decide) l e; rw [h1] at this; simp only at this; omega
  have hq1 : q1.length ≤ 1000000 := by have := withinR_len 0 4096 l e; rw [h1] at this; simp only at this; omega
  have W1 := fun (w' : World) (hf : RdAt w' m l e) => Lib.hid (rd_within_q h1 hf (by omega))
  obtain ⟨B, hB⟩ : ∃ B, w.heap.size = B := ⟨_, rfl⟩
  have hmB : m < B := hB ▸ hr.lt
  have hEB : E < B := hB ▸ hE.lt
  have hGB : G < B := hB ▸ World.block_lt_of_cell? w _ hG
  have NmE := Lib.hid (show (some E : Option Nat) ≠ some m from fun e => by injection e with e; omega)
  have NmG := Lib.hid (show (some G : Option Nat) ≠ some m from fun e => by injection e with e; omega)
  have NmB := Lib.hid (show (some B : Option Nat) ≠ some m from fun e => by injection e with e; omega)
  have NN := Lib.hid (show m ≠ E ∧ m ≠ G ∧ E ≠ G ∧ m < B + 1 ∧ E < B + 1 ∧ B ≠ m ∧ B ≠ E ∧ G < B + 1 from ⟨hmE, hmG, hEG, by omega, by omega, by omega, by omega, by omega⟩)
  have HBB := Lib.hid hB
  obtain ⟨w9, hw9⟩ : ∃ w9, w9 = w.alloc (.cells #[.pointer (some ⟨m, 0, none⟩)] 60) := ⟨_, rfl⟩
  have HR := Lib.hid (show RdAt w9 m l e by rw [hw9]; exact heap_old _ hr)
  have HE := Lib.hid (show EndAt w9 E 0 by rw [hw9]; exact hE.alloc _)
  have HG := Lib.hid (show w9.cell? ⟨G, 0, none⟩ = some (.pointer (some ⟨m, 0, none⟩)) by rw [hw9, alloc_keeps _ _ _ _ (by omega)]; exact hG)
  have HK := Lib.hid (show Kept2 m E w w9 by rw [hw9]; exact (Kept2.refl m E w).alloc _)
  have p0 : w9.cell? ⟨B, 0, none⟩ = some (.pointer (some ⟨m, 0, none⟩)) := by rw [hw9, ← hB]; exact box_new _ _ _
  have HP := Lib.hid p0
  have HQ1 := Lib.hid hq1
  have HY0 := Lib.hid h2
  have HNN := Lib.hid hN
  have eg := enters_of Try.func74 (by kernel_rfl) rfl
  clear hr hE hG h1 hq1 h2 hN hmB hEB hGB hmE hmG hEG
  go_enter Try.func73, Try.ntmps73
  go_upto_region 1 with fail
  (try rw [hB])
  rw [← hw9]
  clear hw9 hB
  go_upto_region 2 with ((with_reducible refine (W1 _ HR.out).out.mono ?_); rintro e8 w9 ⟨rfl, hrf, hg⟩; replace HE := Lib.hid (HE.out.grown hg NmE.out); replace HG := Lib.hid (World.grownBy.cell hg HG.out NmG.out); replace HK := Lib.hid (HK.out.grown hg); replace HP := Lib.hid (World.grownBy.cell hg HP.out NmB.out); replace HR := Lib.hid hrf; clear hrf hg p0; have p0 := HP.out)
  clear W1
  go_wp2_with fail
  go_loopw [8] (fun v wr => ∃ (k : Nat) (q : List UInt8) (e' : Int) (dn : List Rn), k ≤ n ∧ 0 ≤ wasR 0 dn ∧ wasR 0 dn ≤ (k : Int) * 562949953421312 ∧ Hid (k = dn.length) ∧ Hid (q.length ≤ 1000000) ∧ Hid ((Y, r, e2) = (dn ++ (runsRd (n - k) (wasR 0 dn) q e').1, (runsRd (n - k) (wasR 0 dn) q e').2)) ∧ Hid (RdAt wr m q e') ∧ Hid (EndAt wr E (wasR 0 dn)) ∧ Hid (wr.cell? ⟨G, 0, none⟩ = some (.pointer (some ⟨m, 0, none⟩))) ∧ Hid (kRn.Own wr (B + 1) v dn) ∧ Hid (Kept2 m E w wr) ∧ Hid (wr.cell? ⟨B, 0, none⟩ = some (.pointer (some ⟨m, 0, none⟩)))) (fun v _ => n - lenOf v)
  case atStart => exact ⟨0, q1, x1, [], by omega, Int.le_refl _, by simp [wasR], rfl, HQ1, by rw [Nat.sub_zero, show wasR 0 [] = 0 from rfl, HY0.out]; rfl, HR, HE, HG, Kind.Own.nil _ _, HK, HP⟩
  case round =>
    clear HR HE HG HK HP p0
    obtain ⟨k, q, e', dn, hk, hw0, hw1, HD, HQ, HY, HR, HE, HG, HO, HK, HP⟩ := hrel
    have p0 := HP.out
    obtain ⟨A6, c6, rfl, hrd6⟩ := HO.out.read_n HD.out
    have KE := fun (w' : World) (hr : RdAt w' m q e') => Lib.hid (rd_err (givenAt_some hr))
    have hkc : k ≤ c6 := by rw [HD.out]; exact hrd6.room
    by_cases hc : k < n ∧ e' = 0
    · obtain ⟨hlt, rfl⟩ := hc
      obtain ⟨W, hW⟩ : ∃ W, wasR 0 dn = W := ⟨_, rfl⟩
      rw [hW] at hw0 hw1 HY HE
      obtain ⟨xx, q3, x3, hq3⟩ : ∃ xx q3 x3, numR q 0 = (xx, q3, x3) := ⟨_, _, _, rfl⟩
      obtain ⟨yy, q4, x4, hq4⟩ : ∃ yy q4 x4, numR q3 x3 = (yy, q4, x4) := ⟨_, _, _, rfl⟩
      obtain ⟨X, hX⟩ : ∃ X, W + (xx : Int) = X := ⟨_, rfl⟩
      obtain ⟨Z, hZ⟩ : ∃ Z, X + (yy : Int) = Z := ⟨_, rfl⟩
      have hru : runRd W q 0 = (⟨X, Z⟩, q4, x4) := by unfold runRd; rw [hq3]; simp only; rw [hq4, hX, hZ]
      have a1 := numR_hi hq3
      have a2 := numR_hi hq4
      have a3 : q3.length ≤ q.length := by have := numR_len q 0; rw [hq3] at this; exact this
      have a4 : q4.length ≤ q3.length := by have := numR_len q3 x3; rw [hq4] at this; exact this
      have a5 := HQ.out
      replace hZ : 0 ≤ Z ∧ Z ≤ ((k + 1 : Nat) : Int) * 562949953421312 ∧ q4.length ≤ 1000000 := by omega
      clear hq3 hq4 hX a1 a2 a3 a4 a5
      have KN := fun (w' : World) (hr : RdAt w' m q 0) (he : EndAt w' E W) (hg : w'.cell? ⟨G, 0, none⟩ = some (.pointer (some ⟨m, 0, none⟩))) => Lib.hid (kc_run m E G q q4 0 x4 W X Z hru hw0 (by omega) HQ.out NN.out.1 NN.out.2.1 NN.out.2.2.1 w' hr he hg)
      have HY2 := Lib.hid (show (Y, r, e2) = ((dn ++ [⟨X, Z⟩]) ++ (runsRd (n - (k + 1)) Z q4 x4).1, (runsRd (n - (k + 1)) Z q4 x4).2) by rw [HY.out, runsRd_step hlt, hru, List.append_assoc]; rfl)
      have HLE := Lib.hid (show dn.length + [(⟨X, Z⟩ : Rn)].length ≤ 1000000 by rw [← HD.out, List.length_singleton]; omega)
      have HRW := fun W : World => Lib.hid (rn_row W X Z)
      have HZ := Lib.hid hZ
      clear hru hrd6 hW hw0 hw1 hZ HY
      go_wp2_with (first
        | ((with_reducible refine (KE _ HR.out).out.mono ?_); rintro e8 w9 ⟨rfl, hrf, hg⟩; replace HO := Lib.hid (HO.out.other hg NN.out.2.2.2.1); replace HE := Lib.hid (HE.out.grown hg NmE.out); replace HG := Lib.hid (World.grownBy.cell hg HG.out NmG.out); replace HK := Lib.hid (HK.out.grown hg); replace HP := Lib.hid (World.grownBy.cell hg HP.out NmB.out); replace HR := Lib.hid hrf; clear hrf hg p0; have p0 := HP.out)
        | ((with_reducible refine (KN _ HR.out HE.out HG.out).out.mono ?_); rintro e8 w9 ⟨rfl, hrf, hre, hrg, hk2⟩; replace HO := Lib.hid (HO.out.kept2 hk2 NN.out.2.2.2.1 NN.out.2.2.2.2.1); have HE2 := Lib.hid hre; replace HG := Lib.hid hrg; replace HK := Lib.hid (HK.out.trans hk2); replace HP := Lib.hid (hk2.cell HP.out NN.out.2.2.2.2.2.1 NN.out.2.2.2.2.2.2.1); have HR2 := Lib.hid hrf; clear hrf hre hrg hk2 p0; have p0 := HP.out)
        | (at_builtin; refine wpList_app_k kRn rfl (.tmp 23) (.tmp 26) rfl (B + 1) _ dn rfl (Kind.Own.alloc HO.out _) _ (some ⟨w9.heap.size, 0, none⟩) 1 1 [⟨X, Z⟩] rfl rfl (HRW w9).out HLE.out (by decide) (by have := World.block_lt_of_cell? w9 _ HP.out; rw [size1]; exact Nat.le_succ_of_le this) ?_; intro v3 w3 hown3 hg3 hb3 _; have HV := HO.out.lt; obtain ⟨A7, c7, rfl, -⟩ := hown3.read_n (n := k + 1) (by rw [List.length_append, ← HD.out]; rfl); have HO3 := Lib.hid hown3; have HB3 := Lib.hid hb3; clear hown3 hg3 hb3 HV))
      have HR3 := Lib.hid (RdAt.below (heap_old _ HR2.out) HB3.out NN.out.2.2.2.1)
      have HE3 := Lib.hid ((HE2.out.alloc _).under HB3.out NN.out.2.2.2.2.1)
      have HG3 := Lib.hid (cell_under HG.out _ HB3.out NN.out.2.2.2.2.2.2.2)
      have HP3 := Lib.hid (cell_under HP.out _ HB3.out (Nat.lt_succ_self _))
      have HK3 := Lib.hid ((HK.out.alloc _).below HB3.out (by rw [HBB.out]; exact Nat.le_succ _))
      go_roundw
      case rel => exact ⟨k + 1, q4, x4, dn ++ [⟨X, Z⟩], by omega, by rw [wasR_snoc]; exact HZ.out.1, by rw [wasR_snoc]; exact HZ.out.2.1, by rw [List.length_append, ← HD.out]; rfl, HZ.out.2.2, by rw [wasR_snoc]; exact HY2, HR3, by rw [wasR_snoc]; exact HE3, HG3, HO3, HK3, HP3⟩
      case measure => simp [lenOf]; omega
    · have hor : n - k = 0 ∨ e' ≠ 0 := by
        by_cases h : k < n
        · exact .inr fun he => hc ⟨h, he⟩
        · exact .inl (by omega)
      have HF := Lib.hid (show (Y, r, e2) = (dn, q, e') by rw [HY.out, runsRd_end _ _ _ hor, List.append_nil])
      have hgo : (k < n ∧ (e' == 0) = false) ∨ ¬ k < n := by
        by_cases h : k < n
        · exact .inl ⟨h, beq_eq_false_iff_ne.2 fun he => hc ⟨h, he⟩⟩
        · exact .inr h
      obtain rfl : N = k := by
        have h := HF.out
        injection h with h1 h2
        rw [HNN.out, HD.out, h1]
      clear hc hor hrd6 HE HG HY
      rcases hgo with ⟨hlt, heb⟩ | hlt
      all_goals
        go_wp2_with ((with_reducible refine (KE _ HR.out).out.mono ?_); rintro e8 w9 ⟨rfl, hrf, hg⟩; replace HO := Lib.hid (HO.out.other hg NN.out.2.2.2.1); replace HK := Lib.hid (HK.out.grown hg); replace HP := Lib.hid (World.grownBy.cell hg HP.out NmB.out); replace HR := Lib.hid hrf; clear hrf hg p0; have p0 := HP.out)
        go_ret
        have h := HF.out
        injection h with h1 h2
        injection h2 with h2 h3
        subst h1 h2 h3
        exact ⟨A6, c6, rfl, HO.out.mono (by rw [HBB.out]; exact Nat.le_succ _), HR.out, HK.out⟩
set_option maxRecDepth 100000 in
set_option maxHeartbeats 4000000 in
theorem kc_runs (m n N : Nat) (l q1 r : List UInt8) (e x1 e2 : Int) (h1 : withinR 0 4096 l e = (n, q1, x1)) (Y : List Rn) (h2 : runsRd n 0 q1 x1 = (Y, r, e2)) (hN : N = Y.length) (hl : l.length ≤ 1000000) (w : World) (hr : RdAt w m l e) :
    Calls Try.prog 63 #[.agg #[.pointer (some ⟨m, 0, none⟩)]] w fun x w' => ∃ A c, x = .returned (.slice A N c) ∧ kRn.Own w' w.heap.size (.slice A N c) Y ∧ RdAt w' m r e2 ∧ w.grownBy w' (some m) := by
  have hmw := hr.lt
  obtain ⟨w1, hw1⟩ : ∃ w1, w.alloc (.cells #[.pointer (some ⟨m, 0, none⟩)] 60) = w1 := ⟨_, rfl⟩
  have p0 : w1.cell? ⟨w.heap.size, 0, none⟩ = some (.pointer (some ⟨m, 0, none⟩)) := hw1 ▸ box_new _ _ _
  have hs1 : w1.heap.size = w.heap.size + 1 := by rw [← hw1]; simp
  obtain ⟨w2, hw2⟩ : ∃ w2, w1.alloc (.cells #[.int .i64 0] 3) = w2 := ⟨_, rfl⟩
  have q0 : w2.cell? ⟨w.heap.size, 0, none⟩ = some (.pointer (some ⟨m, 0, none⟩)) := by rw [← hw2, alloc_keeps _ _ _ _ (by omega)]; exact p0
  have hE : EndAt w2 (w.heap.size + 1) 0 := by rw [← hw2, ← hs1]; exact endAt_new _ _ _
  have hR : RdAt w2 m l e := by rw [← hw2, ← hw1]; exact heap_old _ (heap_old _ hr)
  have hgr : w.grownBy w2 (some m) := by rw [← hw2, ← hw1]; exact gb_alloc (gb_alloc (gb_refl _ _) _) _
  have KS := Lib.hid (kc_sevr m (w.heap.size + 1) w.heap.size n N l q1 r e x1 e2 h1 Y h2 hN hl (by omega) (by omega) (by omega) w2 hR hE q0)
  have HG := Lib.hid hgr
  have eg := enters_of Try.func74 (by kernel_rfl) rfl
  clear h1 h2 hN hE hR hgr hr
  subst hw2
  go_enter Try.func63, Try.ntmps63
  go_wp2_with ((with_reducible refine KS.out.mono ?_); rintro x w9 ⟨A9, c9, rfl, hown, hrf, hk⟩; have HO := Lib.hid (hown.mono (base' := w.heap.size) HG.out.size); have HR := Lib.hid hrf; have HK := Lib.hid (hk.gb HG.out (Nat.le_succ _)); clear hown hrf hk)
  go_ret
  exact ⟨A9, c9, rfl, HO.out, HR.out, HK.out⟩
set_option maxRecDepth 100000 in
set_option maxHeartbeats 4000000 in
theorem kc_known (m N : Nat) (l r : List UInt8) (e e2 : Int) (k : Kn) (hk : knRd l e = (k, r, e2)) (hN : N = k.runs.length) (X : Int) (hX : k.rep = X) (hl : l.length ≤ 1000000) (w : World) (hr : RdAt w m l e) :
    Calls Try.prog 50 #[.agg #[.pointer (some ⟨m, 0, none⟩)]] w fun x w' => ∃ A c, x = .returned (.agg #[.int .i64 X, .slice A N c]) ∧ kRn.Own w' w.heap.size (.slice A N c) k.runs ∧ RdAt w' m r e2 ∧ w.grownBy w' (some m) := by
  obtain ⟨rp, q1, x1, hq1⟩ : ∃ rp q1 x1, withinR 1 16 l e = (rp, q1, x1) := ⟨_, _, _, rfl⟩
  obtain ⟨n, q2, x2, hq2⟩ : ∃ n q2 x2, withinR 0 4096 q1 x1 = (n, q2, x2) := ⟨_, _, _, rfl⟩
  obtain ⟨Y, q3, x3, hY⟩ : ∃ Y q3 x3, runsRd n 0 q2 x2 = (Y, q3, x3) := ⟨_, _, _, rfl⟩
  have hkr : knRd l e = (⟨(rp : Int), Y⟩, q3, x3) := by unfold knRd; rw [hq1]; simp only; rw [hq2]; simp only; rw [hY]
  rw [hkr] at hk
  injection hk with k1 k2
  injection k2 with k2 k3
  subst k1 k2 k3 hX
  have l1 : q1.length ≤ l.length := by have := withinR_len 1 16 l e; rw [hq1] at this; exact this
  obtain ⟨H, hH⟩ : ∃ H, w.heap.size = H := ⟨_, rfl⟩
  have hmH : m < H := hH ▸ hr.lt
  have NmH := Lib.hid (show (some H : Option Nat) ≠ some m from fun e => by injection e with e; omega)
  have NmH1 := Lib.hid (show (some (H + 1) : Option Nat) ≠ some m from fun e => by injection e with e; omega)
  have NHm := Lib.hid (show m ≠ H + 1 by omega)
  have HHH := Lib.hid (show w.heap.size ≤ H + 1 by omega)
  have HBH := Lib.hid (show H ≤ H + 1 ∧ w.heap.size = H from ⟨Nat.le_succ _, hH⟩)
  have W1 := fun (w' : World) (hf : RdAt w' m l e) => Lib.hid (rd_within_q hq1 hf (by omega))
  have KR := fun (w' : World) (hf : RdAt w' m q1 x1) => Lib.hid (kc_runs m n N q1 q2 q3 x1 x2 x3 hq2 Y hY hN (by omega) w' hf)
  obtain ⟨w9, hw9⟩ : ∃ w9, w9 = (w.alloc (.cells #[.pointer (some ⟨m, 0, none⟩)] 60)).alloc (.cells #[.int .i64 0, .slice none 0 0] 52) := ⟨_, rfl⟩
  have HR := Lib.hid (show RdAt w9 m l e by rw [hw9]; exact heap_old _ (heap_old _ hr))
  have HK := Lib.hid (show KnAt w9 (H + 1) 0 (.slice none 0 0) by
    have := knAt_new (w.alloc (.cells #[.pointer (some ⟨m, 0, none⟩)] 60)) 0 (.slice none 0 0) 52
    rw [size1, hH] at this
    rw [hw9]; exact this)
  have HG := Lib.hid (show w.grownBy w9 (some m) by rw [hw9]; exact gb_alloc (gb_alloc (gb_refl _ _) _) _)
  have p0 : w9.cell? ⟨H, 0, none⟩ = some (.pointer (some ⟨m, 0, none⟩)) := by
    rw [hw9, alloc_keeps _ _ _ _ (by rw [size1, hH]; omega), ← hH]; exact box_new _ _ _
  have HP := Lib.hid p0
  clear hr hq1 hq2 hY hkr l1 hN hl hmH
  go_enter Try.func50, Try.ntmps50
  go_upto_region 1 with fail
  (try rw [hH])
  rw [← hw9]
  clear hw9 hH
  go_wp2_with (first
    | ((with_reducible refine (W1 _ HR.out).out.mono ?_); rintro e8 w9 ⟨rfl, hrf, hg⟩; replace HK := Lib.hid (HK.out.grown hg NmH1.out); replace HG := Lib.hid (gb_trans HG.out hg); replace HP := Lib.hid (World.grownBy.cell hg HP.out NmH.out); have HR2 := Lib.hid hrf; clear hrf hg p0; have p0 := HP.out)
    | ((with_reducible refine (KR _ HR2.out).out.mono ?_); rintro e8 w8 ⟨A8, c8, rfl, hown, hrf, hg⟩; have HO := Lib.hid (hown.mono (base' := H + 2) (Nat.succ_le_of_lt HK.out.lt)); replace HK := Lib.hid (HK.out.grown hg NmH1.out); replace HG := Lib.hid (gb_trans HG.out hg); have HR3 := Lib.hid hrf; clear hrf hg p0 hown; obtain ⟨k0, k1, k2⟩ := HK.out))
  obtain ⟨h0, h1, -⟩ := (HK.out.set0 (rp : Int)).set1 (.slice A8 N c8)
  exact bodyPost_ret (v := .agg #[.int .i64 (rp : Int), .slice A8 N c8]) (by simp [results, Try.results50, go_sem, h0, h1]) rfl ⟨A8, c8, rfl, (HO.out.other (grownBy_set _ _ _ _) (Nat.lt_succ_self _)).other (grownBy_set _ _ _ _) (Nat.lt_succ_self _) |>.mono (by have := HBH.out; omega), (HR3.out.far NHm.out _ _).far NHm.out _ _, gb_set (gb_set HG.out HHH.out _) HHH.out _⟩
end Go.Proofs.Ytfklochgciijkaa

/-
  Layer 16 (kcode), the program: the set that bytes are.
-/
namespace Go.Proofs.Ytfklochgciijkaa
open Go.RowKit

theorem runsRd_len : ∀ (n : Nat) (was : Int) (l : List UInt8) (e : Int), (runsRd n was l e).2.1.length ≤ l.length
  | 0, _, _, _ => Nat.le_refl _
  | n + 1, was, l, e => by
    rw [runsRd]
    split
    · have h1 : (runRd was l e).2.1.length ≤ l.length := by
        unfold runRd
        have a := numR_len l e
        have b := numR_len (numR l e).2.1 (numR l e).2.2
        simp only
        omega
      have h2 := runsRd_len n (runRd was l e).1.to (runRd was l e).2.1 (runRd was l e).2.2
      show (runsRd n (runRd was l e).1.to (runRd was l e).2.1 (runRd was l e).2.2).2.1.length ≤ l.length
      omega
    · exact Nat.le_refl _
theorem knRd_len (l : List UInt8) (e : Int) : (knRd l e).2.1.length ≤ l.length := by
  unfold knRd
  have a := withinR_len 1 16 l e
  have b := withinR_len 0 4096 (withinR 1 16 l e).2.1 (withinR 1 16 l e).2.2
  have c := runsRd_len (withinR 0 4096 (withinR 1 16 l e).2.1 (withinR 1 16 l e).2.2).1 0 (withinR 0 4096 (withinR 1 16 l e).2.1 (withinR 1 16 l e).2.2).2.1 (withinR 0 4096 (withinR 1 16 l e).2.1 (withinR 1 16 l e).2.2).2.2
  simp only
  omega
theorem manyR_len {α : Type} {f : List UInt8 → Int → α × List UInt8 × Int} (hf : ∀ l e, (f l e).2.1.length ≤ l.length) : ∀ (n : Nat) (l : List UInt8) (e : Int), (manyR f n l e).2.1.length ≤ l.length
  | 0, _, _ => Nat.le_refl _
  | n + 1, l, e => by
    rw [manyR]
    split
    · have h1 := hf l e
      have h2 := manyR_len hf n (f l e).2.1 (f l e).2.2
      show (manyR f n (f l e).2.1 (f l e).2.2).2.1.length ≤ l.length
      omega
    · exact Nat.le_refl _
set_option maxRecDepth 100000 in
set_option maxHeartbeats 8000000 in
theorem kc_sevk (m n N : Nat) (l q1 r : List UInt8) (e x1 e2 : Int) (h1 : withinR 0 16 l e = (n, q1, x1)) (Y : List Kn) (h2 : manyR knRd n q1 x1 = (Y, r, e2)) (hN : N = Y.length) (hl : l.length ≤ 1000000) (w : World) (hr : RdAt w m l e) :
    Calls Try.prog 49 #[.agg #[.pointer (some ⟨m, 0, none⟩)], .int .i64 16, .func (.func 50) #[.agg #[.pointer (some ⟨m, 0, none⟩)]] #[]] w fun x w' => ∃ A c, x = .returned (.slice A N c) ∧ dKn.Own w' w.heap.size (fun g => w.heap.size ≤ g) (.slice A N c) Y ∧ RdAt w' m r e2 ∧ w.grownBy w' (some m) := by
  have hn9 : n ≤ 16 := by have := withinR_to (lo := 0) (hi := 16) (by decide) l e; rw [h1] at this; simp only at this; omega
  have hq1 : q1.length ≤ 1000000 := by have := withinR_len 0 16 l e; rw [h1] at this; simp only at this; omega
  have W1 := fun (w' : World) (hf : RdAt w' m l e) => Lib.hid (rd_within_q h1 hf (by omega))
  obtain ⟨B, hB⟩ : ∃ B, w.heap.size = B := ⟨_, rfl⟩
  have hmB : m < B := hB ▸ hr.lt
  have NmB := Lib.hid (show (some B : Option Nat) ≠ some m from fun e => by injection e with e; omega)
  have NN := Lib.hid (show m < B + 1 by omega)
  have HBB := Lib.hid hB
  obtain ⟨w9, hw9⟩ : ∃ w9, w9 = w.alloc (.cells #[.pointer (some ⟨m, 0, none⟩)] 60) := ⟨_, rfl⟩
  have HR := Lib.hid (show RdAt w9 m l e by rw [hw9]; exact heap_old _ hr)
  have HK := Lib.hid (show w.grownBy w9 (some m) by rw [hw9]; exact gb_alloc (gb_refl _ _) _)
  have p0 : w9.cell? ⟨B, 0, none⟩ = some (.pointer (some ⟨m, 0, none⟩)) := by rw [hw9, ← hB]; exact box_new _ _ _
  have HP := Lib.hid p0
  have HQ1 := Lib.hid hq1
  have HY0 := Lib.hid h2
  have HNN := Lib.hid hN
  have eg := enters_of Try.func50 (by kernel_rfl) rfl
  clear hr h1 hq1 h2 hN hmB
  go_enter Try.func49, Try.ntmps49
  go_upto_region 1 with fail
  (try rw [hB])
  rw [← hw9]
  clear hw9 hB
  go_upto_region 2 with ((with_reducible refine (W1 _ HR.out).out.mono ?_); rintro e8 w9 ⟨rfl, hrf, hg⟩; replace HK := Lib.hid (HK.out.trans hg); replace HP := Lib.hid (World.grownBy.cell hg HP.out NmB.out); replace HR := Lib.hid hrf; clear hrf hg p0; have p0 := HP.out)
  clear W1
  go_wp2_with fail
  go_loopw [8] (fun v wr => ∃ (k : Nat) (q : List UInt8) (e' : Int) (dn : List Kn), k ≤ n ∧ Hid (k = dn.length) ∧ Hid (q.length ≤ 1000000) ∧ Hid ((Y, r, e2) = (dn ++ (manyR knRd (n - k) q e').1, (manyR knRd (n - k) q e').2)) ∧ Hid (RdAt wr m q e') ∧ Hid (dKn.Own wr (B + 1) (fun g => B + 1 ≤ g) v dn) ∧ Hid (w.grownBy wr (some m)) ∧ Hid (wr.cell? ⟨B, 0, none⟩ = some (.pointer (some ⟨m, 0, none⟩)))) (fun v _ => n - lenOf v)
  case atStart => exact ⟨0, q1, x1, [], by omega, rfl, HQ1, by rw [Nat.sub_zero, HY0.out]; rfl, HR, Deep.Own.nil _ _ _, HK, HP⟩
  case round =>
    clear HR HK HP p0
    obtain ⟨k, q, e', dn, hk, HD, HQ, HY, HR, HO, HK, HP⟩ := hrel
    have p0 := HP.out
    obtain ⟨bs, hown, hall⟩ := HO.out
    obtain ⟨A6, c6, rfl, hrd6⟩ := hown.read_n (n := k) (HD.out.trans hall.1.symm)
    have KE := fun (w' : World) (hr : RdAt w' m q e') => Lib.hid (rd_err (givenAt_some hr))
    have hkc : k ≤ c6 := by rw [HD.out, ← hall.1]; exact hrd6.room
    clear hown hall hrd6
    by_cases hc : k < n ∧ e' = 0
    · obtain ⟨hlt, rfl⟩ := hc
      obtain ⟨x, q4, x4, hx⟩ : ∃ x q4 x4, knRd q 0 = (x, q4, x4) := ⟨_, _, _, rfl⟩
      have hq4 : q4.length ≤ 1000000 := by have h5 := knRd_len q 0; rw [hx] at h5; have h6 := HQ.out; simp only at h5; omega
      obtain ⟨X, xl⟩ := x
      obtain ⟨N5, hN5⟩ : ∃ N5, N5 = xl.length := ⟨_, rfl⟩
      have KN := fun (w' : World) (hr : RdAt w' m q 0) => Lib.hid (kc_known m N5 q q4 0 x4 ⟨X, xl⟩ hx hN5 X rfl HQ.out w' hr)
      have HN5 := Lib.hid hN5
      obtain ⟨x, hxx⟩ : ∃ x, (⟨X, xl⟩ : Kn) = x := ⟨_, rfl⟩
      rw [hxx] at hx
      clear hN5
      have HY2 := Lib.hid (show (Y, r, e2) = ((dn ++ [x]) ++ (manyR knRd (n - (k + 1)) q4 x4).1, (manyR knRd (n - (k + 1)) q4 x4).2) by rw [HY.out, manyR_step knRd hlt, hx, List.append_assoc]; rfl)
      have HQ4 := Lib.hid hq4
      clear hx hq4 HY
      go_wp2_with (first
        | ((with_reducible refine (KE _ HR.out).out.mono ?_); rintro e8 w8 ⟨rfl, hrf, hg⟩; replace HO := Lib.hid (deep_other HO.out hg NN.out); replace HK := Lib.hid (HK.out.trans hg); replace HP := Lib.hid (World.grownBy.cell hg HP.out NmB.out); have HR2 := Lib.hid hrf; clear hrf hg p0; have p0 := HP.out)
        | ((with_reducible refine (KN _ HR2.out).out.mono ?_); rintro e8 w9 ⟨A5, c5, rfl, hxo, hrf, hg⟩; obtain ⟨bs0, ho0, -⟩ := HO.out; have HREL := Lib.hid (hxx ▸ holds_new ho0 hxo HN5.out (Nat.succ_le_of_lt (World.block_lt_of_cell? w8 _ HP.out)) X); clear ho0 bs0; obtain ⟨bs, hown, hall⟩ := deep_other HO.out hg NN.out; have HOW := Lib.hid hown; have HAL := Lib.hid hall; have HLE := Lib.hid (show bs.length + [(⟨X, A5, N5, c5⟩ : Ks)].length ≤ 1000000 by rw [hall.1, ← HD.out, List.length_singleton]; omega); have HLN := Lib.hid (show k + 1 = (bs ++ [(⟨X, A5, N5, c5⟩ : Ks)]).length by rw [List.length_append, hall.1, ← HD.out]; rfl); replace HK := Lib.hid (HK.out.trans hg); replace HP := Lib.hid (World.grownBy.cell hg HP.out NmB.out); have HR3 := Lib.hid hrf; clear hrf hg p0 hxo hown hall HO; have p0 := HP.out)
        | (at_builtin; refine wpList_app_k kKs rfl (.tmp 23) (.tmp 26) rfl (B + 1) _ bs rfl (Kind.Own.alloc HOW.out _) _ (some ⟨w9.heap.size, 0, none⟩) 1 1 [⟨X, A5, N5, c5⟩] rfl rfl (ks_row w9 X A5 N5 c5) HLE.out (by decide) (by have := World.block_lt_of_cell? w9 _ HP.out; rw [size1]; exact Nat.le_succ_of_le this) ?_; intro v3 w3 hown3 hg3 hb3 hv3; obtain ⟨A7, c7, rfl, -⟩ := hown3.read_n HLN.out; have HO3 := Lib.hid (Deep.Own.app (HAL.out.keep (keptS_below (below_new w9 _) _)) (.one (dKn.keep HREL.out (keptS_below (below_new w9 _) _))) hown3 hg3 hv3); have HB3 := Lib.hid hb3; clear hown3 hg3 hb3 hv3))
      have HR4 := Lib.hid (RdAt.below (heap_old _ HR3.out) HB3.out NN.out)
      have HP4 := Lib.hid (cell_under HP.out _ HB3.out (Nat.lt_succ_self _))
      have HK4 := Lib.hid (gb_below (gb_alloc HK.out _) HB3.out (by rw [HBB.out]; exact Nat.le_succ _))
      go_roundw
      case rel => exact ⟨k + 1, q4, x4, dn ++ [x], by omega, by rw [List.length_append, ← HD.out]; rfl, HQ4, HY2, HR4, HO3, HK4, HP4⟩
      case measure => simp [lenOf]; omega
    · have hor : n - k = 0 ∨ e' ≠ 0 := by
        by_cases h : k < n
        · exact .inr fun he => hc ⟨h, he⟩
        · exact .inl (by omega)
      have HF := Lib.hid (show (Y, r, e2) = (dn, q, e') by rw [HY.out, manyR_end knRd _ _ hor, List.append_nil])
      have hgo : (k < n ∧ (e' == 0) = false) ∨ ¬ k < n := by
        by_cases h : k < n
        · exact .inl ⟨h, beq_eq_false_iff_ne.2 fun he => hc ⟨h, he⟩⟩
        · exact .inr h
      obtain rfl : N = k := by
        have h := HF.out
        injection h with h1 h2
        rw [HNN.out, HD.out, h1]
      clear hc hor HY
      rcases hgo with ⟨hlt, heb⟩ | hlt
      all_goals
        go_wp2_with ((with_reducible refine (KE _ HR.out).out.mono ?_); rintro e8 w9 ⟨rfl, hrf, hg⟩; replace HO := Lib.hid (deep_other HO.out hg NN.out); replace HK := Lib.hid (HK.out.trans hg); replace HP := Lib.hid (World.grownBy.cell hg HP.out NmB.out); replace HR := Lib.hid hrf; clear hrf hg p0; have p0 := HP.out)
        go_ret
        have h := HF.out
        injection h with h1 h2
        injection h2 with h2 h3
        subst h1 h2 h3
        obtain ⟨bs, hown, hall⟩ := HO.out
        exact ⟨A6, c6, rfl, ⟨bs, hown.mono (by rw [HBB.out]; exact Nat.le_succ _), hall.mono fun g hg => ⟨Nat.le_trans (by rw [HBB.out]; exact Nat.le_succ _) hg.1, hg.2⟩⟩, HR.out, HK.out⟩
set_option maxRecDepth 100000 in
set_option maxHeartbeats 4000000 in
theorem kc_setr (m N : Nat) (l r : List UInt8) (e e2 : Int) (s : List Kn) (hs : setRd l e = (s, r, e2)) (hN : N = s.length) (hl : l.length ≤ 1000000) (w : World) (hr : RdAt w m l e) :
    Calls Try.prog 28 #[.agg #[.pointer (some ⟨m, 0, none⟩)]] w fun x w' => ∃ A c, x = .returned (.slice A N c) ∧ dKn.Own w' w.heap.size (fun g => w.heap.size ≤ g) (.slice A N c) s ∧ RdAt w' m r e2 ∧ w.grownBy w' (some m) := by
  obtain ⟨n, q1, x1, h1⟩ : ∃ n q1 x1, withinR 0 16 l e = (n, q1, x1) := ⟨_, _, _, rfl⟩
  have h2 : manyR knRd n q1 x1 = (s, r, e2) := by have := hs; unfold setRd at this; rw [h1] at this; exact this
  have HS := Lib.hid (show w.heap.size ≤ (w.alloc (.cells #[.pointer (some ⟨m, 0, none⟩)] 60)).heap.size by simp)
  have HG := Lib.hid (show w.grownBy (w.alloc (.cells #[.pointer (some ⟨m, 0, none⟩)] 60)) (some m) from gb_alloc (gb_refl _ _) _)
  have KS := Lib.hid (kc_sevk m n N l q1 r e x1 e2 h1 s h2 hN hl (w.alloc (.cells #[.pointer (some ⟨m, 0, none⟩)] 60)) (heap_old _ hr))
  clear hs h1 h2 hN hr
  go_enter Try.func28, Try.ntmps28
  go_wp2_with ((with_reducible refine KS.out.mono ?_); rintro x w9 ⟨A9, c9, rfl, ⟨bs, hown, hall⟩, hrf, hg⟩; have HO := Lib.hid (show dKn.Own w9 w.heap.size (fun g => w.heap.size ≤ g) (.slice A9 N c9) s from ⟨bs, hown.mono HS.out, hall.mono fun g hg => ⟨Nat.le_trans HS.out hg.1, hg.2⟩⟩); have HR := Lib.hid hrf; replace HG := Lib.hid (HG.out.trans hg); clear hown hall hrf hg)
  go_ret
  exact ⟨A9, c9, rfl, HO.out, HR.out, HG.out⟩
set_option maxRecDepth 100000 in
set_option maxHeartbeats 4000000 in
theorem kc_wholek (m : Nat) (l : List UInt8) (e z : Int) (hz : endR l e = z) (s : List Kn) (n : Nat) (hn : n = s.length) (v : Bool) (hv : rightS s = v) (A : Option Addr) (c : Nat) (S : Nat → Prop) (hS : ∀ g, S g → g ≠ m) (N : Nat) (y : List Kn) (x : Int) (hy : (if z ≠ 0 then ([], z) else match v with | true => (s, 0) | false => ([], 11)) = (y, x)) (hN : N = y.length) (w : World) (hr : RdAt w m l e) (hs : dKn.Rd w S A c s) :
    Calls Try.prog 27 #[.agg #[.pointer (some ⟨m, 0, none⟩)], .slice A n c, .func (.func 22) #[] #[]] w fun e w' => ∃ A' c', e = .returned (.tuple #[.slice A' N c', .int .i64 x]) ∧ RdK w' w'.heap.size A' c' y ∧ w.grownBy w' (some m) := by
  have HB0 := Lib.hid (below_new w (.cells #[.pointer (some ⟨m, 0, none⟩)] 60))
  have HR := Lib.hid (show RdAt (w.alloc (.cells #[.pointer (some ⟨m, 0, none⟩)] 60)) m l e from heap_old _ hr)
  have HG := Lib.hid (show w.grownBy (w.alloc (.cells #[.pointer (some ⟨m, 0, none⟩)] 60)) (some m) from gb_alloc (gb_refl _ _) _)
  have HS := Lib.hid (show dKn.Rd (w.alloc (.cells #[.pointer (some ⟨m, 0, none⟩)] 60)) S A c s from hs.keep (keptS_below (below_new _ _) _))
  have KZ := fun (w' : World) (hr : RdAt w' m l e) => Lib.hid (hz ▸ rd_end (givenAt_some hr))
  have KR := fun (w' : World) (h : (fun w A c s => RdK w w.heap.size A c s) w' A c s) => Lib.hid (vs_right A c n s hn v hv w' h)
  have NS := Lib.hid (show ∀ g, S g → (some m : Option Nat) ≠ some g from fun g hg e => hS g hg (by injection e with e; exact e.symm))
  have HN := Lib.hid hN
  have HN2 := Lib.hid hn
  have eg := enters_of Try.func22 (by kernel_rfl) rfl
  clear hz hv hr hs hN hn hS
  by_cases h0 : z = 0
  · subst h0
    rw [if_neg (by decide)] at hy
    cases v
    · injection hy with h1 h2
      subst h1 h2
      obtain rfl : N = 0 := HN.out
      go_enter Try.func27, Try.ntmps27
      go_wp2_with (first
        | ((with_reducible refine (KZ _ HR.out).out.mono ?_); rintro e8 w9 ⟨rfl, hrf, hg⟩; replace HS := Lib.hid (HS.out.keep (keptS_grown hg NS.out)); replace HG := Lib.hid (HG.out.trans hg); clear hrf hg)
        | ((with_reducible refine (KR _ (rdk_of HS.out)).out.mono ?_); rintro e8 w8 ⟨rfl, hq⟩; replace HG := Lib.hid (HG.out.trans (grown_of_below hq _)); clear hq))
      go_ret2
      exact ⟨none, 0, rfl, rdK_none _ _, HG.out⟩
    · injection hy with h1 h2
      subst h1 h2
      obtain rfl : N = n := HN.out.trans HN2.out.symm
      go_enter Try.func27, Try.ntmps27
      go_wp2_with (first
        | ((with_reducible refine (KZ _ HR.out).out.mono ?_); rintro e8 w9 ⟨rfl, hrf, hg⟩; replace HS := Lib.hid (HS.out.keep (keptS_grown hg NS.out)); replace HG := Lib.hid (HG.out.trans hg); clear hrf hg)
        | ((with_reducible refine (KR _ (rdk_of HS.out)).out.mono ?_); rintro e8 w8 ⟨rfl, hq⟩; replace HS := Lib.hid (HS.out.keep (keptS_below hq _)); replace HG := Lib.hid (HG.out.trans (grown_of_below hq _)); clear hq))
      go_ret2
      exact ⟨A, c, rfl, (rdk_of HS.out), HG.out⟩
  · have hzb : (z == 0) = false := beq_eq_false_iff_ne.2 h0
    rw [if_pos h0] at hy
    injection hy with h1 h2
    subst h1 h2
    obtain rfl : N = 0 := HN.out
    go_enter Try.func27, Try.ntmps27
    go_wp2_with ((with_reducible refine (KZ _ HR.out).out.mono ?_); rintro e8 w9 ⟨rfl, hrf, hg⟩; replace HG := Lib.hid (HG.out.trans hg); clear hrf hg)
    go_ret2
    exact ⟨none, 0, rfl, rdK_none _ _, HG.out⟩
set_option maxRecDepth 100000 in
set_option maxHeartbeats 4000000 in
theorem kc_readset (A : Option Addr) (c n : Nat) (b : List UInt8) (hn : n = b.length) (hn9 : n ≤ 1000000) (N : Nat) (y : List Kn) (x : Int) (hy : readS b = (y, x)) (hN : y.length = N) (w : World) (hr : RdB w w.heap.size A c b) :
    Calls Try.prog 10 #[.slice A n c] w fun e w' => ∃ A' c', e = .returned (.tuple #[.slice A' N c', .int .i64 x]) ∧ RdK w' w'.heap.size A' c' y ∧ Below w.heap.size w w' := by
  obtain ⟨M, hM⟩ : ∃ M, w.heap.size = M := ⟨_, rfl⟩
  have C1 := Lib.hid (show Calls Try.prog 26 #[.slice A n c] w fun e w' => e = .returned (.pointer (some ⟨M, 0, none⟩)) ∧ RdAt w' M b 0 ∧ Below M w w' by
    subst hn hM
    exact varint_new A c w.heap.size b w hr)
  obtain ⟨nn, q1, x1, h1⟩ : ∃ nn q1 x1, withinR 0 16 b 0 = (nn, q1, x1) := ⟨_, _, _, rfl⟩
  obtain ⟨s, r0, e2, h2⟩ : ∃ s r0 e2, manyR knRd nn q1 x1 = (s, r0, e2) := ⟨_, _, _, rfl⟩
  have hs : setRd b 0 = (s, r0, e2) := by unfold setRd; rw [h1]; exact h2
  obtain ⟨z, hz⟩ : ∃ z, endR r0 e2 = z := ⟨_, rfl⟩
  obtain ⟨v, hv⟩ : ∃ v, rightS s = v := ⟨_, rfl⟩
  have hRE : (if z ≠ 0 then ([], z) else match v with | true => (s, 0) | false => ([], 11)) = (y, x) := by
    rw [← hy]
    exact (allR2_of h1 h2 hz hv).symm
  obtain ⟨N6, hN6⟩ : ∃ N6, N6 = s.length := ⟨_, rfl⟩
  have C2 := fun (w' : World) (h : RdAt w' M b 0) => Lib.hid (kc_setr M N6 b r0 0 e2 s hs hN6 (by omega) w' h)
  have C3 := fun (w' : World) (A6 : Option Addr) (c6 : Nat) (h : RdAt w' M r0 e2) (h2 : dKn.Rd w' (fun g => M + 1 ≤ g) A6 c6 s) => Lib.hid (kc_wholek M r0 e2 z hz s N6 hN6 v hv A6 c6 (fun g => M + 1 ≤ g) (fun g hg => by omega) N y x hRE hN.symm w' h h2)
  have HM := Lib.hid hM
  have HN6 := Lib.hid hN6
  clear hy hN hr hM hn9 hn h1 h2 hs hz hv hRE hN6
  go_enter Try.func10, Try.ntmps10
  go_upto_region 2 with ((with_reducible refine C1.out.mono ?_); rintro e w1 ⟨rfl, hr, hq⟩; have HR := Lib.hid hr; have HB := Lib.hid hq; clear hr hq)
  clear C1
  obtain ⟨w2, hw2⟩ : ∃ w2, w2 = w1.alloc (.cells #[.pointer (some ⟨M, 0, none⟩)] 60) := ⟨_, rfl⟩
  have p0 : w2.cell? ⟨w1.heap.size, 0, none⟩ = some (.pointer (some ⟨M, 0, none⟩)) := by rw [hw2]; exact box_new _ _ _
  have HR2 := Lib.hid (show RdAt w2 M b 0 by rw [hw2]; exact heap_old _ HR.out)
  have HB2 := Lib.hid (show Below M w w2 by rw [hw2]; exact HB.out.trans ((below_new w1 _).mono (Nat.le_of_lt HR.out.lt)))
  rw [← hw2]
  have HNB := Lib.hid (show (some w1.heap.size : Option Nat) ≠ some M from fun e => by injection e with e; have := HR.out.lt; omega)
  have HM1 := Lib.hid (show M + 1 ≤ w2.heap.size from HR2.out.lt)
  clear hw2
  have HRd := Lib.hid (show RdAt w2.drew M b 0 from HR2.out)
  go_region_held3 (fun w' => w'.cell? ⟨w1.heap.size, 0, none⟩ = some (.pointer (some ⟨M, 0, none⟩))) (first | assumption | go_keep)
    (first
      | (go_at_call 28; (with_reducible refine (C2 _ HRd.out).out.mono ?_); rintro e w3 ⟨A3, c3, rfl, hown, hrf, hg⟩; replace hg := gb_of_drew hg; obtain ⟨A4, c4, hv4, hrd⟩ := Deep.Own.rd hown HN6.out (fun g hg => hg); injection hv4 with i1 i2 i3; subst i1 i3; have HS3 := Lib.hid (show dKn.Rd w3 (fun g => M + 1 ≤ g) A3 c3 s from hrd.mono fun g hg => Nat.le_trans HM1.out hg); have HR3 := Lib.hid hrf; have HB3 := Lib.hid (below_row HB2.out hg (Nat.le_refl _) (Nat.le_of_lt HR2.out.lt)); replace p0 := World.grownBy.cell hg p0 HNB.out; clear hown hrf hg hrd i2)
      | (go_at_call 27; (with_reducible refine (C3 _ _ _ HR3.out HS3.out).out.mono ?_); rintro e w4 ⟨A5, c5, rfl, hrd, hg⟩; have HF := Lib.hid hrd; have HB4 := Lib.hid (below_row HB3.out hg (Nat.le_refl _) (Nat.le_of_lt HR3.out.lt)); replace p0 := World.grownBy.cell hg p0 HNB.out; clear hrd hg))
  go_wp2_with fail
  go_ret2
  exact ⟨A5, c5, rfl, HF.out, by rw [HM.out]; exact HB4.out⟩
end Go.Proofs.Ytfklochgciijkaa

/-
  Layer 16 (kcode), the program: the knowledge that bytes are.
-/
namespace Go.Proofs.Ytfklochgciijkaa
open Go.RowKit

def piecesRd (l : List UInt8) (e : Int) : List Pc × List UInt8 × Int :=
  let n := withinR 0 4096 l e
  manyR pieceRd n.1 n.2.1 n.2.2
theorem rdp_of {w : World} {S : Nat → Prop} {A : Option Addr} {c : Nat} {k : List Pc} (h : dPc.Rd w S A c k) : RdPc w A c k := Deep.Rd.all h
theorem setRd_len (l : List UInt8) (e : Int) : (setRd l e).2.1.length ≤ l.length := by
  unfold setRd
  have a := withinR_len 0 16 l e
  have b := manyR_len knRd_len (withinR 0 16 l e).1 (withinR 0 16 l e).2.1 (withinR 0 16 l e).2.2
  simp only
  omega
theorem pieceRd_len (l : List UInt8) (e : Int) : (pieceRd l e).2.1.length ≤ l.length := by
  unfold pieceRd
  have a := (rngR_size l e (Nat.le_refl _)).2
  have b := setRd_len (rngR l e).2.1 (rngR l e).2.2
  simp only
  omega
set_option maxRecDepth 100000 in
set_option maxHeartbeats 4000000 in
theorem kc_textrange (b : Nat) (l r : List UInt8) (e e2 : Int) (g : Rng) (hg : rngR l e = (g, r, e2)) (S T : ByteArray) (o : Bool) (hI : IsR g S T o) (hl : l.length ≤ 1000000) (w : World) (hr : RdAt w b l e) :
    Calls Try.prog 67 #[.agg #[.pointer (some ⟨b, 0, none⟩)]] w (RdPost w b (.agg #[.string S, .string T, .bool o]) r e2) := by
  obtain ⟨s, q1, x1, ht1⟩ : ∃ s q1 x1, textR 17 l e = (s, q1, x1) := ⟨_, _, _, rfl⟩
  obtain ⟨n, q2, x2, ht2⟩ : ∃ n q2 x2, withinR 0 1 q1 x1 = (n, q2, x2) := ⟨_, _, _, rfl⟩
  obtain ⟨t, q3, x3, ht3⟩ : ∃ t q3 x3, textR 17 q2 x2 = (t, q3, x3) := ⟨_, _, _, rfl⟩
  have l1 : q1.length ≤ l.length := by have := textR_len 17 l e; rw [ht1] at this; exact this
  have l2 : q2.length ≤ q1.length := by have := withinR_len 0 1 q1 x1; rw [ht2] at this; exact this
  obtain ⟨U, hU⟩ : ∃ U, str s = U := ⟨_, rfl⟩
  obtain ⟨V, hV⟩ : ∃ V, str t = V := ⟨_, rfl⟩
  obtain ⟨q, hq⟩ : ∃ q, decide (n = 1) = q := ⟨_, rfl⟩
  have hG : rngR l e = if n = 1 then (⟨s, [], true⟩, q2, x2) else (⟨s, t, false⟩, q3, x3) := by
    unfold rngR
    rw [ht1]; simp only; rw [ht2]; simp only; rw [ht3]
  have T1 := fun (w' : World) (hf : RdAt w' b l e) => Lib.hid (rd_text_q ht1 hU hf (by omega))
  have T2 := fun (w' : World) (hf : RdAt w' b q1 x1) => Lib.hid (rd_bool_q ht2 hq hf (by omega))
  have T3 := fun (w' : World) (hf : RdAt w' b q2 x2) => Lib.hid (rd_text_q ht3 hV hf (by omega))
  obtain ⟨M, hM⟩ : ∃ M, w.heap.size = M := ⟨_, rfl⟩
  have hbM : b < M := hM ▸ hr.lt
  have HMM := Lib.hid (show w.heap.size ≤ M + 1 by omega)
  have HNE := Lib.hid (show (some M : Option Nat) ≠ some b from fun e => by injection e with e; exact Nat.ne_of_gt hbM e)
  obtain ⟨w9, hw9⟩ : ∃ w9, w9 = (w.alloc (.cells #[.pointer (some ⟨b, 0, none⟩)] 75)).alloc (.cells #[.string ⟨#[]⟩, .string ⟨#[]⟩, .bool false] 67) := ⟨_, rfl⟩
  have HR := Lib.hid (show RdAt w9 b l e by rw [hw9]; exact heap_old _ (heap_old _ hr))
  have HGR := Lib.hid (show w.grownBy w9 (some b) by rw [hw9]; exact grown_alloc (grown_alloc (World.grownBy.refl _ _) _) _)
  have HG := Lib.hid (show RgAt w9 (M + 1) ⟨#[]⟩ ⟨#[]⟩ false by rw [hw9, ← hM]; exact rgAt_new1 _ _ _ _ _ _)
  have p0 : w9.cell? ⟨M, 0, none⟩ = some (.pointer (some ⟨b, 0, none⟩)) := by
    rw [hw9, alloc_keeps _ _ _ _ (by rw [size1, hM]; omega), cell_of_row _ _ _ _ _ _ (heap_new w _ _ hM.symm)]; rfl
  have HP := Lib.hid p0
  have HE := Lib.hid hG
  have HIS := Lib.hid hI
  have HGG := Lib.hid hg
  have HU := Lib.hid hU
  have HV := Lib.hid hV
  have HQ := Lib.hid hq
  clear hr ht1 ht2 ht3 l1 l2 hU hV hq hG hI hg hl
  go_enter Try.func67, Try.ntmps67
  go_upto_region 1 with fail
  rw [← hw9]
  clear hw9 hM
  obtain ⟨g0, g1, g2, gz⟩ := HG.out
  go_upto_region 2 with ((with_reducible refine (T1 _ HR.out).out.mono ?_); rintro e w9 ⟨rfl, hrf, hg⟩; replace HG := Lib.hid (HG.out.kept hg (by omega)); replace HGR := Lib.hid (HGR.out.trans hg); replace HP := Lib.hid (World.grownBy.cell hg HP.out HNE.out); replace HR := Lib.hid hrf; clear hrf hg p0 g0 g1 g2 gz; have p0 := HP.out; obtain ⟨g0, g1, g2, gz⟩ := HG.out)
  clear T1
  cases q
  · have hn : n ≠ 1 := of_decide_eq_false HQ.out
    have e1 := HGG.out.symm.trans (HE.out.trans (if_neg hn))
    injection e1 with e1 e2
    injection e2 with e2 e3
    have e4 := HIS.out
    rw [e1] at e4
    obtain ⟨i1, i2, i3⟩ := e4
    have i1 := HU.out.symm.trans i1
    have i2 := HV.out.symm.trans i2
    subst i1 i2 i3 e2 e3
    clear e1
    go_wp2_with (first | ((with_reducible refine (T2 _ HR.out).out.mono ?_); rintro e w9 ⟨rfl, hrf, hg⟩; replace HG := Lib.hid (HG.out.kept hg (by omega)); replace HGR := Lib.hid (HGR.out.trans hg); replace HP := Lib.hid (World.grownBy.cell hg HP.out HNE.out); replace HR := Lib.hid hrf; clear hrf hg p0 g0 g1 g2 gz; have p0 := HP.out; obtain ⟨g0, g1, g2, gz⟩ := HG.out) | ((with_reducible refine (T3 _ HR.out).out.mono ?_); rintro e w9 ⟨rfl, hrf, hg⟩; replace HG := Lib.hid (HG.out.kept hg (by omega)); replace HGR := Lib.hid (HGR.out.trans hg); replace HP := Lib.hid (World.grownBy.cell hg HP.out HNE.out); replace HR := Lib.hid hrf; clear hrf hg p0 g0 g1 g2 gz; have p0 := HP.out; obtain ⟨g0, g1, g2, gz⟩ := HG.out))
    obtain ⟨h0, h1, h2, -⟩ := HG.out.set3 U V false
    exact bodyPost_ret (v := .agg #[.string U, .string V, .bool false]) (by simp [results, Try.results67, go_sem, h0, h1, h2]) rfl ⟨rfl, ((HR.out.far (by omega) _ _).far (by omega) _ _).far (by omega) _ _, grown_set_new (grown_set_new (grown_set_new HGR.out HMM.out _ _) HMM.out _ _) HMM.out _ _⟩
  · have hn : n = 1 := of_decide_eq_true HQ.out
    have e1 := HGG.out.symm.trans (HE.out.trans (if_pos hn))
    injection e1 with e1 e2
    injection e2 with e2 e3
    have e4 := HIS.out
    rw [e1] at e4
    obtain ⟨i1, i2, i3⟩ := e4
    have i1 := HU.out.symm.trans i1
    have i2 : (⟨#[]⟩ : ByteArray) = T := i2
    subst i1 i2 i3 e2 e3
    clear e1 T3
    go_wp2_with ((with_reducible refine (T2 _ HR.out).out.mono ?_); rintro e w9 ⟨rfl, hrf, hg⟩; replace HG := Lib.hid (HG.out.kept hg (by omega)); replace HGR := Lib.hid (HGR.out.trans hg); replace HP := Lib.hid (World.grownBy.cell hg HP.out HNE.out); replace HR := Lib.hid hrf; clear hrf hg p0 g0 g1 g2 gz; have p0 := HP.out; obtain ⟨g0, g1, g2, gz⟩ := HG.out)
    obtain ⟨h0, h1, h2, -⟩ := HG.out.set3 U ⟨#[]⟩ true
    exact bodyPost_ret (v := .agg #[.string U, .string ⟨#[]⟩, .bool true]) (by simp [results, Try.results67, go_sem, h0, h1, h2]) rfl ⟨rfl, ((HR.out.far (by omega) _ _).far (by omega) _ _).far (by omega) _ _, grown_set_new (grown_set_new (grown_set_new HGR.out HMM.out _ _) HMM.out _ _) HMM.out _ _⟩
set_option maxRecDepth 100000 in
set_option maxHeartbeats 4000000 in
theorem kc_piece (m N : Nat) (l r : List UInt8) (e e2 : Int) (lo hi : List UInt8) (q0 : Bool) (st : List Kn) (U V : ByteArray) (hx : pieceRd l e = (⟨⟨lo, hi, q0⟩, st⟩, r, e2)) (hN : N = st.length) (hU : str lo = U) (hV : str hi = V) (hl : l.length ≤ 1000000) (w : World) (hr : RdAt w m l e) :
    Calls Try.prog 55 #[.agg #[.pointer (some ⟨m, 0, none⟩)]] w fun x w' => ∃ A c, x = .returned (.agg #[.string U, .string V, .bool q0, .slice A N c]) ∧ dKn.Rd w' (fun g => w.heap.size ≤ g) A c st ∧ RdAt w' m r e2 ∧ w.grownBy w' (some m) := by
  obtain ⟨g, q1, x1, hg⟩ : ∃ g q1 x1, rngR l e = (g, q1, x1) := ⟨_, _, _, rfl⟩
  obtain ⟨s, q2, x2, hs⟩ : ∃ s q2 x2, setRd q1 x1 = (s, q2, x2) := ⟨_, _, _, rfl⟩
  have hpr : pieceRd l e = (⟨g, s⟩, q2, x2) := by unfold pieceRd; rw [hg]; simp only; rw [hs]
  rw [hpr] at hx
  injection hx with k1 k2
  injection k2 with k2 k3
  injection k1 with k1 k4
  subst k2 k3 k4 k1
  have l1 : q1.length ≤ l.length := by have h := (rngR_size l e (Nat.le_refl _)).2; rw [hg] at h; exact h
  obtain ⟨H, hH⟩ : ∃ H, w.heap.size = H := ⟨_, rfl⟩
  have hmH : m < H := hH ▸ hr.lt
  have NmH := Lib.hid (show (some H : Option Nat) ≠ some m from fun e => by injection e with e; omega)
  have NmH1 := Lib.hid (show (some (H + 1) : Option Nat) ≠ some m from fun e => by injection e with e; omega)
  have NHm := Lib.hid (show m ≠ H + 1 by omega)
  have NH1 := Lib.hid (show H + 1 ≠ H by omega)
  have HHH := Lib.hid (show w.heap.size ≤ H + 1 by omega)
  have W1 := fun (w' : World) (hf : RdAt w' m l e) => Lib.hid (kc_textrange m l q1 e x1 ⟨lo, hi, q0⟩ hg U V q0 ⟨hU, hV, rfl⟩ (by omega) w' hf)
  have KR := fun (w' : World) (hf : RdAt w' m q1 x1) => Lib.hid (kc_setr m N q1 q2 x1 x2 s hs hN (by omega) w' hf)
  obtain ⟨w9, hw9⟩ : ∃ w9, w9 = (w.alloc (.cells #[.pointer (some ⟨m, 0, none⟩)] 75)).alloc (.cells #[.string ⟨#[]⟩, .string ⟨#[]⟩, .bool false, .slice none 0 0] 69) := ⟨_, rfl⟩
  have HR := Lib.hid (show RdAt w9 m l e by rw [hw9]; exact heap_old _ (heap_old _ hr))
  have HK := Lib.hid (show PcAt w9 (H + 1) ⟨#[]⟩ ⟨#[]⟩ false (.slice none 0 0) by
    have := pcAt_new (w.alloc (.cells #[.pointer (some ⟨m, 0, none⟩)] 75)) ⟨#[]⟩ ⟨#[]⟩ false (.slice none 0 0) 69
    rw [size1, hH] at this
    rw [hw9]; exact this)
  have HG := Lib.hid (show w.grownBy w9 (some m) by rw [hw9]; exact gb_alloc (gb_alloc (gb_refl _ _) _) _)
  have p0 : w9.cell? ⟨H, 0, none⟩ = some (.pointer (some ⟨m, 0, none⟩)) := by
    rw [hw9, alloc_keeps _ _ _ _ (by rw [size1, hH]; omega), ← hH]; exact box_new _ _ _
  have HP := Lib.hid p0
  have HN := Lib.hid hN
  clear hr hg hs hpr l1 hN hl hU hV
  go_enter Try.func55, Try.ntmps55
  go_upto_region 1 with fail
  (try rw [hH])
  rw [← hw9]
  clear hw9
  go_upto_region 2 with ((with_reducible refine (W1 _ HR.out).out.mono ?_); rintro e8 w9 ⟨rfl, hrf, hg⟩; replace HK := Lib.hid (HK.out.grown hg NmH1.out); replace HG := Lib.hid (gb_trans HG.out hg); replace HP := Lib.hid (World.grownBy.cell hg HP.out NmH.out); replace HR := Lib.hid hrf; clear hrf hg p0; have p0 := HP.out)
  clear W1
  obtain ⟨G, hG⟩ : ∃ G, w9.heap.size = G := ⟨_, rfl⟩
  have hHG : H + 1 < G := hG ▸ HK.out.lt
  obtain ⟨w8, hw8⟩ : ∃ w8, w8 = w9.alloc (.cells #[.string U, .string V, .bool q0] 67) := ⟨_, rfl⟩
  have HR8 := Lib.hid (show RdAt w8 m q1 x1 by rw [hw8]; exact heap_old _ HR.out)
  have HT := Lib.hid (show RgAt w8 G U V q0 by rw [hw8, ← hG]; exact rgAt_new _ _ _ _ _)
  have HK8 := Lib.hid (show PcAt w8 (H + 1) ⟨#[]⟩ ⟨#[]⟩ false (.slice none 0 0) by rw [hw8]; exact HK.out.grown (grown_of_below (below_new _ _) none) (by simp))
  have HG8 := Lib.hid (show w.grownBy w8 (some m) by rw [hw8]; exact gb_alloc HG.out _)
  have HP8 := Lib.hid (show w8.cell? ⟨H, 0, none⟩ = some (.pointer (some ⟨m, 0, none⟩)) by rw [hw8, alloc_keeps _ _ _ _ (by omega)]; exact HP.out)
  (try rw [hG])
  rw [← hw8]
  have NmG := Lib.hid (show (some G : Option Nat) ≠ some m from fun e => by injection e with e; omega)
  have NHG := Lib.hid (show H + 1 ≠ G by omega)
  have NmG2 := Lib.hid (show G ≠ m by omega)
  have HS8 := Lib.hid (show H + 1 < w8.heap.size by rw [hw8]; simp; omega)
  have HRd := Lib.hid (show RdAt w8.drew m q1 x1 from HR8.out)
  clear hw8 HK HG HP HR p0 hHG hmH hG
  have p0 := HP8.out
  obtain ⟨t0, t1, t2, t3⟩ := HT.out
  obtain ⟨k0, k1, k2, k3, k4⟩ := HK8.out
  go_region_held3 (fun w' => w'.cell? ⟨H, 0, none⟩ = some (.pointer (some ⟨m, 0, none⟩)) ∧ w'.cell? ⟨G, 0, none⟩ = some (.string U) ∧ w'.cell? ⟨G, 1, none⟩ = some (.string V) ∧ w'.cell? ⟨G, 2, none⟩ = some (.bool q0)) (first | (exact ⟨by assumption, by assumption, by assumption, by assumption⟩) | (exact ⟨set_other (set_other (set_other (set_other p0 (addr_block NH1.out) _) (addr_block NH1.out) _) (addr_block NH1.out) _) (addr_block NH1.out) _, set_other (set_other (set_other (set_other t0 (addr_block NHG.out) _) (addr_block NHG.out) _) (addr_block NHG.out) _) (addr_block NHG.out) _, set_other (set_other (set_other (set_other t1 (addr_block NHG.out) _) (addr_block NHG.out) _) (addr_block NHG.out) _) (addr_block NHG.out) _, set_other (set_other (set_other (set_other t2 (addr_block NHG.out) _) (addr_block NHG.out) _) (addr_block NHG.out) _) (addr_block NHG.out) _⟩) | go_keep)
    (first
      | (go_at_call 28; (with_reducible refine (KR _ HRd.out).out.mono ?_); rintro x w7 ⟨A7, c7, rfl, hown, hrf, hg⟩; replace hg := gb_of_drew hg; obtain ⟨A4, c4, hv4, hrd⟩ := Deep.Own.rd hown HN.out (fun g hg => hg); injection hv4 with i1 i2 i3; subst i1 i3; have HS7 := Lib.hid (show dKn.Rd w7 (fun g => w8.heap.size ≤ g) A7 c7 s from hrd); have HR7 := Lib.hid hrf; have HG7 := Lib.hid (gb_trans HG8.out hg); have HK7 := Lib.hid (HK8.out.grown hg NmH1.out); replace HT := Lib.hid (HT.out.kept hg NmG2.out); replace p0 := World.grownBy.cell hg p0 NmH.out; clear hown hrf hg hrd i2 t0 t1 t2 t3 k0 k1 k2 k3 k4; obtain ⟨t0, t1, t2, t3⟩ := HT.out; obtain ⟨k0, k1, k2, k3, k4⟩ := HK7.out))
  go_wp2_with fail
  have NS := Lib.hid (show ∀ g, w8.heap.size ≤ g → (some (H + 1) : Option Nat) ≠ some g from fun g hg e => by injection e with e; have := HS8.out; omega)
  obtain ⟨h0, h1, h2, h3, -⟩ := (((HK7.out.set0 U).set1 V).set2 q0).set3 (.slice A7 N c7)
  exact bodyPost_ret (v := .agg #[.string U, .string V, .bool q0, .slice A7 N c7]) (by simp [results, Try.results55, go_sem, h0, h1, h2, h3]) rfl ⟨A7, c7, rfl, ((((HS7.out.keep (keptS_grown (grownBy_set _ _ _ _) NS.out)).keep (keptS_grown (grownBy_set _ _ _ _) NS.out)).keep (keptS_grown (grownBy_set _ _ _ _) NS.out)).keep (keptS_grown (grownBy_set _ _ _ _) NS.out)).mono fun g hg => Nat.le_trans HG8.out.size hg, (((HR7.out.far NHm.out _ _).far NHm.out _ _).far NHm.out _ _).far NHm.out _ _, gb_set (gb_set (gb_set (gb_set HG7.out HHH.out _) HHH.out _) HHH.out _) HHH.out _⟩
set_option maxRecDepth 100000 in
set_option maxHeartbeats 8000000 in
theorem kc_sevp (m n N : Nat) (l q1 r : List UInt8) (e x1 e2 : Int) (h1 : withinR 0 4096 l e = (n, q1, x1)) (Y : List Pc) (h2 : manyR pieceRd n q1 x1 = (Y, r, e2)) (hN : N = Y.length) (hl : l.length ≤ 1000000) (w : World) (hr : RdAt w m l e) :
    Calls Try.prog 54 #[.agg #[.pointer (some ⟨m, 0, none⟩)], .int .i64 4096, .func (.func 55) #[.agg #[.pointer (some ⟨m, 0, none⟩)]] #[]] w fun x w' => ∃ A c, x = .returned (.slice A N c) ∧ dPc.Own w' w.heap.size (fun g => w.heap.size ≤ g) (.slice A N c) Y ∧ RdAt w' m r e2 ∧ w.grownBy w' (some m) := by
  have hn9 : n ≤ 4096 := by have := withinR_to (lo := 0) (hi := 4096) (by decide) l e; rw [h1] at this; simp only at this; omega
  have hq1 : q1.length ≤ 1000000 := by have := withinR_len 0 4096 l e; rw [h1] at this; simp only at this; omega
  have W1 := fun (w' : World) (hf : RdAt w' m l e) => Lib.hid (rd_within_q h1 hf (by omega))
  obtain ⟨B, hB⟩ : ∃ B, w.heap.size = B := ⟨_, rfl⟩
  have hmB : m < B := hB ▸ hr.lt
  have NmB := Lib.hid (show (some B : Option Nat) ≠ some m from fun e => by injection e with e; omega)
  have NN := Lib.hid (show m < B + 1 by omega)
  have HBB := Lib.hid hB
  obtain ⟨w9, hw9⟩ : ∃ w9, w9 = w.alloc (.cells #[.pointer (some ⟨m, 0, none⟩)] 60) := ⟨_, rfl⟩
  have HR := Lib.hid (show RdAt w9 m l e by rw [hw9]; exact heap_old _ hr)
  have HK := Lib.hid (show w.grownBy w9 (some m) by rw [hw9]; exact gb_alloc (gb_refl _ _) _)
  have p0 : w9.cell? ⟨B, 0, none⟩ = some (.pointer (some ⟨m, 0, none⟩)) := by rw [hw9, ← hB]; exact box_new _ _ _
  have HP := Lib.hid p0
  have HQ1 := Lib.hid hq1
  have HY0 := Lib.hid h2
  have HNN := Lib.hid hN
  have eg := enters_of Try.func55 (by kernel_rfl) rfl
  clear hr h1 hq1 h2 hN hmB
  go_enter Try.func54, Try.ntmps54
  go_upto_region 1 with fail
  (try rw [hB])
  rw [← hw9]
  clear hw9 hB
  go_upto_region 2 with ((with_reducible refine (W1 _ HR.out).out.mono ?_); rintro e8 w9 ⟨rfl, hrf, hg⟩; replace HK := Lib.hid (HK.out.trans hg); replace HP := Lib.hid (World.grownBy.cell hg HP.out NmB.out); replace HR := Lib.hid hrf; clear hrf hg p0; have p0 := HP.out)
  clear W1
  go_wp2_with fail
  go_loopw [8] (fun v wr => ∃ (k : Nat) (q : List UInt8) (e' : Int) (dn : List Pc), k ≤ n ∧ Hid (k = dn.length) ∧ Hid (q.length ≤ 1000000) ∧ Hid ((Y, r, e2) = (dn ++ (manyR pieceRd (n - k) q e').1, (manyR pieceRd (n - k) q e').2)) ∧ Hid (RdAt wr m q e') ∧ Hid (dPc.Own wr (B + 1) (fun g => B + 1 ≤ g) v dn) ∧ Hid (w.grownBy wr (some m)) ∧ Hid (wr.cell? ⟨B, 0, none⟩ = some (.pointer (some ⟨m, 0, none⟩)))) (fun v _ => n - lenOf v)
  case atStart => exact ⟨0, q1, x1, [], by omega, rfl, HQ1, by rw [Nat.sub_zero, HY0.out]; rfl, HR, Deep.Own.nil _ _ _, HK, HP⟩
  case round =>
    clear HR HK HP p0
    obtain ⟨k, q, e', dn, hk, HD, HQ, HY, HR, HO, HK, HP⟩ := hrel
    have p0 := HP.out
    obtain ⟨bs, hown, hall⟩ := HO.out
    obtain ⟨A6, c6, rfl, hrd6⟩ := hown.read_n (n := k) (HD.out.trans hall.1.symm)
    have KE := fun (w' : World) (hr : RdAt w' m q e') => Lib.hid (rd_err (givenAt_some hr))
    have hkc : k ≤ c6 := by rw [HD.out, ← hall.1]; exact hrd6.room
    clear hown hall hrd6
    by_cases hc : k < n ∧ e' = 0
    · obtain ⟨hlt, rfl⟩ := hc
      obtain ⟨x, q4, x4, hx⟩ : ∃ x q4 x4, pieceRd q 0 = (x, q4, x4) := ⟨_, _, _, rfl⟩
      have hq4 : q4.length ≤ 1000000 := by have h5 := pieceRd_len q 0; rw [hx] at h5; have h6 := HQ.out; simp only at h5; omega
      obtain ⟨⟨lo, hi, q0⟩, st⟩ := x
      obtain ⟨U, hU⟩ : ∃ U, str lo = U := ⟨_, rfl⟩
      obtain ⟨V, hV⟩ : ∃ V, str hi = V := ⟨_, rfl⟩
      obtain ⟨N5, hN5⟩ : ∃ N5, N5 = st.length := ⟨_, rfl⟩
      have KN := fun (w' : World) (hr : RdAt w' m q 0) => Lib.hid (kc_piece m N5 q q4 0 x4 lo hi q0 st U V hx hN5 hU hV HQ.out w' hr)
      obtain ⟨x, hxx⟩ : ∃ x, (⟨⟨lo, hi, q0⟩, st⟩ : Pc) = x := ⟨_, rfl⟩
      rw [hxx] at hx
      have HN5 := Lib.hid hN5
      have HU := Lib.hid hU
      have HV := Lib.hid hV
      clear hN5 hU hV
      have HY2 := Lib.hid (show (Y, r, e2) = ((dn ++ [x]) ++ (manyR pieceRd (n - (k + 1)) q4 x4).1, (manyR pieceRd (n - (k + 1)) q4 x4).2) by rw [HY.out, manyR_step pieceRd hlt, hx, List.append_assoc]; rfl)
      have HQ4 := Lib.hid hq4
      clear hx hq4 HY
      go_wp2_with (first
        | ((with_reducible refine (KE _ HR.out).out.mono ?_); rintro e8 w8 ⟨rfl, hrf, hg⟩; replace HO := Lib.hid (deep_other HO.out hg NN.out); replace HK := Lib.hid (HK.out.trans hg); replace HP := Lib.hid (World.grownBy.cell hg HP.out NmB.out); have HR2 := Lib.hid hrf; clear hrf hg p0; have p0 := HP.out)
        | ((with_reducible refine (KN _ HR2.out).out.mono ?_); rintro e8 w9 ⟨A5, c5, rfl, hxo, hrf, hg⟩; obtain ⟨bs0, ho0, -⟩ := HO.out; have HREL := Lib.hid (show dPc.rel w9 (fun g => B + 1 ≤ g ∧ (Value.slice A6 k c6).ownBlock ≠ some g) (⟨⟨lo, hi, q0⟩, A5, N5, c5⟩ : Ps) x from hxx ▸ ⟨rfl, HN5.out, Deep.Rd.mono hxo fun g hg => ⟨Nat.le_trans (Nat.succ_le_of_lt (World.block_lt_of_cell? w8 _ HP.out)) hg, fun h => by have := (ho0.lt g h).2; omega⟩⟩); clear ho0 bs0; obtain ⟨bs, hown, hall⟩ := deep_other HO.out hg NN.out; have HOW := Lib.hid hown; have HAL := Lib.hid hall; have HLE := Lib.hid (show bs.length + [(⟨⟨lo, hi, q0⟩, A5, N5, c5⟩ : Ps)].length ≤ 1000000 by rw [hall.1, ← HD.out, List.length_singleton]; omega); have HLN := Lib.hid (show k + 1 = (bs ++ [(⟨⟨lo, hi, q0⟩, A5, N5, c5⟩ : Ps)]).length by rw [List.length_append, hall.1, ← HD.out]; rfl); replace HK := Lib.hid (HK.out.trans hg); replace HP := Lib.hid (World.grownBy.cell hg HP.out NmB.out); have HR3 := Lib.hid hrf; clear hrf hg p0 hxo hown hall HO; have p0 := HP.out)
        | (at_builtin; refine wpList_app_k kPs rfl (.tmp 23) (.tmp 26) rfl (B + 1) _ bs rfl (Kind.Own.alloc HOW.out _) _ (some ⟨w9.heap.size, 0, none⟩) 1 1 [⟨⟨lo, hi, q0⟩, A5, N5, c5⟩] rfl rfl (piece_row_n w9 lo hi U V HU.out HV.out q0 A5 N5 c5) HLE.out (by decide) (by have := World.block_lt_of_cell? w9 _ HP.out; rw [size1]; exact Nat.le_succ_of_le this) ?_; intro v3 w3 hown3 hg3 hb3 hv3; obtain ⟨A7, c7, rfl, -⟩ := hown3.read_n HLN.out; have HO3 := Lib.hid (Deep.Own.app (HAL.out.keep (keptS_below (below_new w9 _) _)) (.one (dPc.keep HREL.out (keptS_below (below_new w9 _) _))) hown3 hg3 hv3); have HB3 := Lib.hid hb3; clear hown3 hg3 hb3 hv3))
      have HR4 := Lib.hid (RdAt.below (heap_old _ HR3.out) HB3.out NN.out)
      have HP4 := Lib.hid (cell_under HP.out _ HB3.out (Nat.lt_succ_self _))
      have HK4 := Lib.hid (gb_below (gb_alloc HK.out _) HB3.out (by rw [HBB.out]; exact Nat.le_succ _))
      go_roundw
      case rel => exact ⟨k + 1, q4, x4, dn ++ [x], by omega, by rw [List.length_append, ← HD.out]; rfl, HQ4, HY2, HR4, HO3, HK4, HP4⟩
      case measure => simp [lenOf]; omega
    · have hor : n - k = 0 ∨ e' ≠ 0 := by
        by_cases h : k < n
        · exact .inr fun he => hc ⟨h, he⟩
        · exact .inl (by omega)
      have HF := Lib.hid (show (Y, r, e2) = (dn, q, e') by rw [HY.out, manyR_end pieceRd _ _ hor, List.append_nil])
      have hgo : (k < n ∧ (e' == 0) = false) ∨ ¬ k < n := by
        by_cases h : k < n
        · exact .inl ⟨h, beq_eq_false_iff_ne.2 fun he => hc ⟨h, he⟩⟩
        · exact .inr h
      obtain rfl : N = k := by
        have h := HF.out
        injection h with h1 h2
        rw [HNN.out, HD.out, h1]
      clear hc hor HY
      rcases hgo with ⟨hlt, heb⟩ | hlt
      all_goals
        go_wp2_with ((with_reducible refine (KE _ HR.out).out.mono ?_); rintro e8 w9 ⟨rfl, hrf, hg⟩; replace HO := Lib.hid (deep_other HO.out hg NN.out); replace HK := Lib.hid (HK.out.trans hg); replace HP := Lib.hid (World.grownBy.cell hg HP.out NmB.out); replace HR := Lib.hid hrf; clear hrf hg p0; have p0 := HP.out)
        go_ret
        have h := HF.out
        injection h with h1 h2
        injection h2 with h2 h3
        subst h1 h2 h3
        obtain ⟨bs, hown, hall⟩ := HO.out
        exact ⟨A6, c6, rfl, ⟨bs, hown.mono (by rw [HBB.out]; exact Nat.le_succ _), hall.mono fun g hg => ⟨Nat.le_trans (by rw [HBB.out]; exact Nat.le_succ _) hg.1, hg.2⟩⟩, HR.out, HK.out⟩
set_option maxRecDepth 100000 in
set_option maxHeartbeats 4000000 in
theorem kc_pieces (m N : Nat) (l r : List UInt8) (e e2 : Int) (s : List Pc) (hs : piecesRd l e = (s, r, e2)) (hN : N = s.length) (hl : l.length ≤ 1000000) (w : World) (hr : RdAt w m l e) :
    Calls Try.prog 38 #[.agg #[.pointer (some ⟨m, 0, none⟩)]] w fun x w' => ∃ A c, x = .returned (.slice A N c) ∧ dPc.Own w' w.heap.size (fun g => w.heap.size ≤ g) (.slice A N c) s ∧ RdAt w' m r e2 ∧ w.grownBy w' (some m) := by
  obtain ⟨n, q1, x1, h1⟩ : ∃ n q1 x1, withinR 0 4096 l e = (n, q1, x1) := ⟨_, _, _, rfl⟩
  have h2 : manyR pieceRd n q1 x1 = (s, r, e2) := by have := hs; unfold piecesRd at this; rw [h1] at this; exact this
  have HS := Lib.hid (show w.heap.size ≤ (w.alloc (.cells #[.pointer (some ⟨m, 0, none⟩)] 75)).heap.size by simp)
  have HG := Lib.hid (show w.grownBy (w.alloc (.cells #[.pointer (some ⟨m, 0, none⟩)] 75)) (some m) from gb_alloc (gb_refl _ _) _)
  have KS := Lib.hid (kc_sevp m n N l q1 r e x1 e2 h1 s h2 hN hl (w.alloc (.cells #[.pointer (some ⟨m, 0, none⟩)] 75)) (heap_old _ hr))
  clear hs h1 h2 hN hr
  go_enter Try.func38, Try.ntmps38
  go_wp2_with ((with_reducible refine KS.out.mono ?_); rintro x w9 ⟨A9, c9, rfl, ⟨bs, hown, hall⟩, hrf, hg⟩; have HO := Lib.hid (show dPc.Own w9 w.heap.size (fun g => w.heap.size ≤ g) (.slice A9 N c9) s from ⟨bs, hown.mono HS.out, hall.mono fun g hg => ⟨Nat.le_trans HS.out hg.1, hg.2⟩⟩); have HR := Lib.hid hrf; replace HG := Lib.hid (HG.out.trans hg); clear hown hall hrf hg)
  go_ret
  exact ⟨A9, c9, rfl, HO.out, HR.out, HG.out⟩
set_option maxRecDepth 100000 in
set_option maxHeartbeats 4000000 in
theorem kc_wholep (m : Nat) (l : List UInt8) (e z : Int) (hz : endR l e = z) (s : List Pc) (n : Nat) (hn : n = s.length) (v : Bool) (hv : rightP s = v) (A : Option Addr) (c : Nat) (S : Nat → Prop) (hS : ∀ g, S g → g ≠ m) (N : Nat) (y : List Pc) (x : Int) (hy : (if z ≠ 0 then ([], z) else match v with | true => (s, 0) | false => ([], 11)) = (y, x)) (hN : N = y.length) (w : World) (hr : RdAt w m l e) (hs : dPc.Rd w S A c s) :
    Calls Try.prog 37 #[.agg #[.pointer (some ⟨m, 0, none⟩)], .slice A n c, .func (.func 32) #[] #[]] w fun e w' => ∃ A' c', e = .returned (.tuple #[.slice A' N c', .int .i64 x]) ∧ RdPc w' A' c' y ∧ w.grownBy w' (some m) := by
  have HB0 := Lib.hid (below_new w (.cells #[.pointer (some ⟨m, 0, none⟩)] 60))
  have HR := Lib.hid (show RdAt (w.alloc (.cells #[.pointer (some ⟨m, 0, none⟩)] 60)) m l e from heap_old _ hr)
  have HG := Lib.hid (show w.grownBy (w.alloc (.cells #[.pointer (some ⟨m, 0, none⟩)] 60)) (some m) from gb_alloc (gb_refl _ _) _)
  have HS := Lib.hid (show dPc.Rd (w.alloc (.cells #[.pointer (some ⟨m, 0, none⟩)] 60)) S A c s from hs.keep (keptS_below (below_new _ _) _))
  have KZ := fun (w' : World) (hr : RdAt w' m l e) => Lib.hid (hz ▸ rd_end (givenAt_some hr))
  have KR := fun (w' : World) (h : RdPc w' A c s) => Lib.hid (kw_right A c n s hn v hv w' h)
  have NS := Lib.hid (show ∀ g, S g → (some m : Option Nat) ≠ some g from fun g hg e => hS g hg (by injection e with e; exact e.symm))
  have HN := Lib.hid hN
  have HN2 := Lib.hid hn
  have eg := enters_of Try.func32 (by kernel_rfl) rfl
  clear hz hv hr hs hN hn hS
  by_cases h0 : z = 0
  · subst h0
    rw [if_neg (by decide)] at hy
    cases v
    · injection hy with h1 h2
      subst h1 h2
      obtain rfl : N = 0 := HN.out
      go_enter Try.func37, Try.ntmps37
      go_wp2_with (first
        | ((with_reducible refine (KZ _ HR.out).out.mono ?_); rintro e8 w9 ⟨rfl, hrf, hg⟩; replace HS := Lib.hid (HS.out.keep (keptS_grown hg NS.out)); replace HG := Lib.hid (HG.out.trans hg); clear hrf hg)
        | ((with_reducible refine (KR _ (rdp_of HS.out)).out.mono ?_); rintro e8 w8 ⟨rfl, hq⟩; replace HG := Lib.hid (HG.out.trans (grown_of_below hq _)); clear hq))
      go_ret2
      exact ⟨none, 0, rfl, rdPc_none _, HG.out⟩
    · injection hy with h1 h2
      subst h1 h2
      obtain rfl : N = n := HN.out.trans HN2.out.symm
      go_enter Try.func37, Try.ntmps37
      go_wp2_with (first
        | ((with_reducible refine (KZ _ HR.out).out.mono ?_); rintro e8 w9 ⟨rfl, hrf, hg⟩; replace HS := Lib.hid (HS.out.keep (keptS_grown hg NS.out)); replace HG := Lib.hid (HG.out.trans hg); clear hrf hg)
        | ((with_reducible refine (KR _ (rdp_of HS.out)).out.mono ?_); rintro e8 w8 ⟨rfl, hq⟩; replace HS := Lib.hid (HS.out.keep (keptS_below hq _)); replace HG := Lib.hid (HG.out.trans (grown_of_below hq _)); clear hq))
      go_ret2
      exact ⟨A, c, rfl, (rdp_of HS.out), HG.out⟩
  · have hzb : (z == 0) = false := beq_eq_false_iff_ne.2 h0
    rw [if_pos h0] at hy
    injection hy with h1 h2
    subst h1 h2
    obtain rfl : N = 0 := HN.out
    go_enter Try.func37, Try.ntmps37
    go_wp2_with ((with_reducible refine (KZ _ HR.out).out.mono ?_); rintro e8 w9 ⟨rfl, hrf, hg⟩; replace HG := Lib.hid (HG.out.trans hg); clear hrf hg)
    go_ret2
    exact ⟨none, 0, rfl, rdPc_none _, HG.out⟩
set_option maxRecDepth 100000 in
set_option maxHeartbeats 4000000 in
theorem kc_readknow (A : Option Addr) (c n : Nat) (b : List UInt8) (hn : n = b.length) (hn9 : n ≤ 1000000) (N : Nat) (y : List Pc) (x : Int) (hy : readK b = (y, x)) (hN : y.length = N) (w : World) (hr : RdB w w.heap.size A c b) :
    Calls Try.prog 17 #[.slice A n c] w fun e w' => ∃ A' c', e = .returned (.tuple #[.slice A' N c', .int .i64 x]) ∧ RdPc w' A' c' y ∧ Below w.heap.size w w' := by
  obtain ⟨M, hM⟩ : ∃ M, w.heap.size = M := ⟨_, rfl⟩
  have C1 := Lib.hid (show Calls Try.prog 26 #[.slice A n c] w fun e w' => e = .returned (.pointer (some ⟨M, 0, none⟩)) ∧ RdAt w' M b 0 ∧ Below M w w' by
    subst hn hM
    exact varint_new A c w.heap.size b w hr)
  obtain ⟨nn, q1, x1, h1⟩ : ∃ nn q1 x1, withinR 0 4096 b 0 = (nn, q1, x1) := ⟨_, _, _, rfl⟩
  obtain ⟨s, r0, e2, h2⟩ : ∃ s r0 e2, manyR pieceRd nn q1 x1 = (s, r0, e2) := ⟨_, _, _, rfl⟩
  have hs : piecesRd b 0 = (s, r0, e2) := by unfold piecesRd; rw [h1]; exact h2
  obtain ⟨z, hz⟩ : ∃ z, endR r0 e2 = z := ⟨_, rfl⟩
  obtain ⟨v, hv⟩ : ∃ v, rightP s = v := ⟨_, rfl⟩
  have hRE : (if z ≠ 0 then ([], z) else match v with | true => (s, 0) | false => ([], 11)) = (y, x) := by
    rw [← hy]
    exact (allR2_of h1 h2 hz hv).symm
  obtain ⟨N6, hN6⟩ : ∃ N6, N6 = s.length := ⟨_, rfl⟩
  have C2 := fun (w' : World) (h : RdAt w' M b 0) => Lib.hid (kc_pieces M N6 b r0 0 e2 s hs hN6 (by omega) w' h)
  have C3 := fun (w' : World) (A6 : Option Addr) (c6 : Nat) (h : RdAt w' M r0 e2) (h2 : dPc.Rd w' (fun g => M + 1 ≤ g) A6 c6 s) => Lib.hid (kc_wholep M r0 e2 z hz s N6 hN6 v hv A6 c6 (fun g => M + 1 ≤ g) (fun g hg => by omega) N y x hRE hN.symm w' h h2)
  have HM := Lib.hid hM
  have HN6 := Lib.hid hN6
  clear hy hN hr hM hn9 hn h1 h2 hs hz hv hRE hN6
  go_enter Try.func17, Try.ntmps17
  go_upto_region 2 with ((with_reducible refine C1.out.mono ?_); rintro e w1 ⟨rfl, hr, hq⟩; have HR := Lib.hid hr; have HB := Lib.hid hq; clear hr hq)
  clear C1
  obtain ⟨w2, hw2⟩ : ∃ w2, w2 = w1.alloc (.cells #[.pointer (some ⟨M, 0, none⟩)] 75) := ⟨_, rfl⟩
  have p0 : w2.cell? ⟨w1.heap.size, 0, none⟩ = some (.pointer (some ⟨M, 0, none⟩)) := by rw [hw2]; exact box_new _ _ _
  have HR2 := Lib.hid (show RdAt w2 M b 0 by rw [hw2]; exact heap_old _ HR.out)
  have HB2 := Lib.hid (show Below M w w2 by rw [hw2]; exact HB.out.trans ((below_new w1 _).mono (Nat.le_of_lt HR.out.lt)))
  rw [← hw2]
  have HNB := Lib.hid (show (some w1.heap.size : Option Nat) ≠ some M from fun e => by injection e with e; have := HR.out.lt; omega)
  have HM1 := Lib.hid (show M + 1 ≤ w2.heap.size from HR2.out.lt)
  clear hw2
  have HRd := Lib.hid (show RdAt w2.drew M b 0 from HR2.out)
  go_region_held3 (fun w' => w'.cell? ⟨w1.heap.size, 0, none⟩ = some (.pointer (some ⟨M, 0, none⟩))) (first | assumption | go_keep)
    (first
      | (go_at_call 38; (with_reducible refine (C2 _ HRd.out).out.mono ?_); rintro e w3 ⟨A3, c3, rfl, hown, hrf, hg⟩; replace hg := gb_of_drew hg; obtain ⟨A4, c4, hv4, hrd⟩ := Deep.Own.rd hown HN6.out (fun g hg => hg); injection hv4 with i1 i2 i3; subst i1 i3; have HS3 := Lib.hid (show dPc.Rd w3 (fun g => M + 1 ≤ g) A3 c3 s from hrd.mono fun g hg => Nat.le_trans HM1.out hg); have HR3 := Lib.hid hrf; have HB3 := Lib.hid (below_row HB2.out hg (Nat.le_refl _) (Nat.le_of_lt HR2.out.lt)); replace p0 := World.grownBy.cell hg p0 HNB.out; clear hown hrf hg hrd i2)
      | (go_at_call 37; (with_reducible refine (C3 _ _ _ HR3.out HS3.out).out.mono ?_); rintro e w4 ⟨A5, c5, rfl, hrd, hg⟩; have HF := Lib.hid hrd; have HB4 := Lib.hid (below_row HB3.out hg (Nat.le_refl _) (Nat.le_of_lt HR3.out.lt)); replace p0 := World.grownBy.cell hg p0 HNB.out; clear hrd hg))
  go_wp2_with fail
  go_ret2
  exact ⟨A5, c5, rfl, HF.out, by rw [HM.out]; exact HB4.out⟩
end Go.Proofs.Ytfklochgciijkaa

/-
  The laws of layer 16: what the program's functions do, as they ask it.
-/
namespace Go.Proofs.Ytfklochgciijkaa
open Go.RowKit

theorem k_kset : KPutSC 8 := fun A c n s hn hs =>
  ⟨fun hv N l hl hN w hr => (kc_set A c n s hn hs.2 hv N l hl hN w hr).mono fun _ _ h => RetBO.to hN.symm h, fun hv w hr => kc_set_no A c n s hn hv w hr⟩
theorem k_kknow : KPutKC 15 := fun A c n k hn hs => by
  have hn9 : n ≤ 4096 := by have := CapN.len hs.1; omega
  exact ⟨fun hv N l hl hN w hr => (kc_know A c n k hn hn9 hs.2 hv N l hl hN w hr).mono fun _ _ h => RetBO.to hN.symm h, fun hv w hr => kc_know_no A c n k hn hn9 hv w hr⟩
theorem k_kreads : KReadSC 10 := fun A c n b hn hn9 N y x hy hN w hr => kc_readset A c n b hn hn9 N y x hy hN w hr
theorem k_kreadk : KReadKC 17 := fun A c n b hn hn9 N y x hy hN w hr => kc_readknow A c n b hn hn9 N y x hy hN w hr
end Go.Proofs.Ytfklochgciijkaa

/-
  Ranges that came in as a slice.
-/
namespace Go.Proofs.Ytfklochgciijkaa
open Go.ChangeShapes Go.WideShapes Go.ChangeAt Go.RowKit

theorem cells_string : Try.prog.cellsOf 9 = 1 := by kernel_rfl
theorem cells_bool : Try.prog.cellsOf 4 = 1 := by kernel_rfl
end Go.Proofs.Ytfklochgciijkaa

/-
  Pieces that came in as a slice: each with its range and its set.
-/
namespace Go.Proofs.Ytfklochgciijkaa
open Go.ChangeShapes Go.WideShapes Go.ChangeAt Go.RowKit

theorem pcells_rng : Try.prog.cellsOf 67 = 3 := by kernel_rfl
theorem pcells_set : Try.prog.cellsOf 22 = 1 := by kernel_rfl
/-- What a piece that lies and one that is meant have in common. -/
def PcIn (W : World) (x : Ps × Pc) : Prop := x.1.rng = x.2.rng ∧ x.1.n = x.2.set.length ∧ RdK W W.heap.size x.1.A x.1.c x.2.set
theorem rdk_pairs {W : World} {A : Option Addr} {c : Nat} {sl : List (Ks × Kn)} (h1 : RowAt W W.heap.size A (sl.flatMap fun x => ksCells x.1)) (h2 : sl.length ≤ c) (h3 : c ≤ maxLen) (hg : ∀ x ∈ sl, KnIn W x) : RdK W W.heap.size A c (sl.map (·.2)) := by
  refine ⟨sl.map (·.1), ⟨?_, by rw [List.length_map]; exact h2, h3⟩, by rw [List.length_map, List.length_map], fun i s l hs hl => ?_⟩
  · show RowAt W W.heap.size A ((sl.map (·.1)).flatMap ksCells)
    rw [List.flatMap_map]
    exact h1
  · rw [List.getElem?_map] at hs hl
    cases hx : sl[i]? with
    | none => rw [hx] at hs; cases hs
    | some x =>
      rw [hx] at hs hl
      cases hs; cases hl
      exact hg x (List.mem_of_getElem? hx)
set_option maxRecDepth 100000 in
theorem rng_of {H : Type} {enc : TypeId × Value → H} {W : World} (n : Nat) (cs : List Value) (y : DataW H × List MemPlace) (hl : cs.length = 3)
    (hy : DataW.trod enc Try.prog W 0 (fun _ => true) true n 67 cs = some y) : ∃ r : Rng, cs = rngCells r := by
  obtain ⟨y0, y1, y2, n', -, -, h0, h1, h2⟩ := Go.Deep.trod_struct3 Try.underlying67 hy
  rw [cells_string] at h0 h1
  rw [cells_bool] at h2
  match cs, hl with
  | [a, b, c], _ =>
    obtain ⟨s, e0, -, w0⟩ := DataW.trod_string Try.underlying9 h0
    obtain ⟨t, e1, -, w1⟩ := DataW.trod_string Try.underlying9 h1
    obtain ⟨q, e2, -⟩ := DataW.trod_bool Try.underlying4 h2
    simp at e0 e1 e2
    subst e0 e1 e2
    exact ⟨⟨s.data.toList, t.data.toList, q⟩, by simp only [rngCells, str_of]⟩
set_option maxRecDepth 100000 in
theorem pc_of {H : Type} {enc : TypeId × Value → H} {W : World} (n : Nat) (cs : List Value) (y : DataW H × List MemPlace) (hl : cs.length = 4)
    (hy : DataW.trod enc Try.prog W 0 (fun _ => true) true n 69 cs = some y) : ∃ x : Ps × Pc, cs = psCells x.1 ∧ PcIn W x := by
  obtain ⟨xs, n', _, rfl, -, hlen, hf⟩ := DataW.trod_struct Try.underlying69 hy
  match xs, hlen with
  | [y0, y1], _ =>
    have h0 := hf 0 _ rfl
    have h1 := hf 1 _ rfl
    match cs, hl with
    | [a, b, c, d], _ =>
      have h0 : DataW.trod enc Try.prog W 0 (fun _ => true) true n' 67 (([a, b, c, d].drop 0).take (Try.prog.cellsOf 67)) = some y0 := by simpa using h0
      have h1 : DataW.trod enc Try.prog W 0 (fun _ => true) true n' 22 (([a, b, c, d].drop 3).take (Try.prog.cellsOf 22)) = some y1 := by simpa using h1
      rw [pcells_rng] at h0
      rw [pcells_set] at h1
      obtain ⟨r, e0⟩ := rng_of _ _ _ (by simp) h0
      obtain ⟨A, c', sl, e1, g1, hg, g2, g3⟩ := cells_slice (fun x : Ks × Kn => ksCells x.1) (KnIn W) Try.underlying22 (k := 2) (by kernel_rfl) (by omega) kn_of h1
      simp [rngCells] at e0 e1
      obtain ⟨rfl, rfl, rfl⟩ := e0
      subst e1
      exact ⟨(⟨r, A, sl.length, c'⟩, ⟨r, sl.map (·.2)⟩), rfl, rfl, by show sl.length = (sl.map (·.2)).length; rw [List.length_map], rdk_pairs g1 g2 g3 hg⟩
set_option maxRecDepth 100000 in
theorem in_pcs {H : Type} {enc : TypeId × Value → H} {W : World} {base : Nat} {v : Value} {d : DataW H} {p : List MemPlace}
    (hok : Value.okWide Try.prog W .any base 35 v) (h : DataW.Trod enc Try.prog W 0 (fun _ => true) true 35 v d p) :
    ∃ (A : Option Addr) (c : Nat) (l : List Pc), v = .slice A l.length c ∧ RdPc W A c l := by
  obtain ⟨A, c, sl, rfl, h1, hg, h2, h3⟩ := in_slice (fun x : Ps × Pc => psCells x.1) (PcIn W) Try.underlying35 (k := 4) (by kernel_rfl) (by omega) pc_of hok h
  have hr : kPs.Rd W W.heap.size A c (sl.map (·.1)) := by
    refine ⟨?_, by rw [List.length_map]; exact h2, h3⟩
    show RowAt W W.heap.size A ((sl.map (·.1)).flatMap psCells)
    rw [List.flatMap_map]
    exact h1
  refine ⟨A, c, sl.map (·.2), (by rw [List.length_map]), (show RdPc W A c (sl.map (·.2)) from ⟨(sl.map (fun x : Ps × Pc => x.1) : List Ps), (show kPs.RdS W (fun _ => True) A c (sl.map (fun x : Ps × Pc => x.1)) from hr.inS.mono (fun _ _ => trivial)), by rw [List.length_map, List.length_map], fun i s l hs hl => ?_⟩)⟩
  rw [List.getElem?_map] at hs hl
  cases hx : sl[i]? with
  | none => rw [hx] at hs; cases hs
  | some x =>
    rw [hx] at hs hl
    cases hs; cases hl
    obtain ⟨e1, e2, e3⟩ := hg x (List.mem_of_getElem? hx)
    exact ⟨e1, e2, (rdk_in e3).all⟩
end Go.Proofs.Ytfklochgciijkaa
