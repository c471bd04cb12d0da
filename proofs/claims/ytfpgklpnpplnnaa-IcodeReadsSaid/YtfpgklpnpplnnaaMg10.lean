/-
  Several texts in one: RdQ, CntSets, CntA, RnAt, Kept2, IcpD, IcpE, IcpF, IcpG, Law19H.
-/
import Derived.Laws.StructEq
import Derived.BigQuiet
import Derived.Test.YtfpgklpnpplnnaaMg9
namespace Go.Proofs.Ytfpgklpnpplnnaa
open Go.RowKit

theorem rd_text_q {w : World} {b : Nat} {l s r : List UInt8} {e e2 : Int} {S : ByteArray} {most : Int} (hw : textR most l e = (s, r, e2)) (hS : str s = S) (h : RdAt w b l e) (hl : l.length ≤ 9223372036854775807) :
    Calls Try.prog 42 #[.pointer (some ⟨b, 0, none⟩), .int .i64 most] w (RdPost w b (.string S) r e2) := by
  subst hS
  have := rd_text (givenAt_some h) most hl
  rw [hw] at this
  exact this
theorem rd_bool_q {w : World} {b : Nat} {l r : List UInt8} {e e2 : Int} {n : Nat} (hw : withinR 0 1 l e = (n, r, e2)) {q : Bool} (hq : decide (n = 1) = q) (h : RdAt w b l e) (hl : l.length ≤ 9223372036854775807) :
    Calls Try.prog 44 #[.pointer (some ⟨b, 0, none⟩)] w (RdPost w b (.bool q) r e2) := by
  have := rd_bool (givenAt_some h) hl
  unfold boolR at this
  rw [hw, hq] at this
  exact this
theorem rd_within_q {w : World} {b : Nat} {l r : List UInt8} {e e2 : Int} {n : Nat} {lo hi : Int} (hw : withinR lo hi l e = (n, r, e2)) (h : RdAt w b l e) (hl : l.length ≤ 9223372036854775807) :
    Calls Try.prog 43 #[.pointer (some ⟨b, 0, none⟩), .int .i64 lo, .int .i64 hi] w (RdPost w b (.int .i64 n) r e2) := by
  have := rd_within (givenAt_some h) lo hi hl
  rw [hw] at this
  exact this
theorem RdAt.far {w : World} {b g : Nat} {l : List UInt8} {e : Int} (h : RdAt w b l e) (hne : b ≠ g) (k : Nat) (v : Value) : RdAt (w.setCell ⟨g, k, none⟩ v) b l e := h.kept (grownBy_set _ _ _ _) (fun e => hne (by injection e))
def lenOf : Value → Nat
  | .slice _ n _ => n
  | _ => 0
end Go.Proofs.Ytfpgklpnpplnnaa

namespace Go.Proofs.Ytfpgklpnpplnnaa

end Go.Proofs.Ytfpgklpnpplnnaa

namespace Go.Proofs.Ytfpgklpnpplnnaa
open Go.RowKit

end Go.Proofs.Ytfpgklpnpplnnaa

namespace Go.Proofs.Ytfpgklpnpplnnaa
open Go.RowKit

def RnAt (w : World) (g : Nat) (X Y : Int) : Prop := w.cell? ⟨g, 0, none⟩ = some (.int .i64 X) ∧ w.cell? ⟨g, 1, none⟩ = some (.int .i64 Y) ∧ ∀ k, w.frozen? ⟨g, k, none⟩ = false
theorem RnAt.lt {w : World} {g : Nat} {X Y : Int} (h : RnAt w g X Y) : g < w.heap.size := World.block_lt_of_cell? w _ h.1
theorem RnAt.below {w w' : World} {g : Nat} {X Y : Int} (h : RnAt w g X Y) (hb : Below w.heap.size w w') : RnAt w' g X Y := by
  obtain ⟨hc, hf⟩ := bcell hb
  have hl := h.lt
  exact ⟨(hc _ _ hl).trans h.1, (hc _ _ hl).trans h.2.1, fun k => (hf _ _ hl).trans (h.2.2 k)⟩
theorem RnAt.grown {w w' : World} {row : Option Nat} {g : Nat} {X Y : Int} (h : RnAt w g X Y) (hg : w.grownBy w' row) (hne : some g ≠ row) : RnAt w' g X Y :=
  ⟨hg.cell h.1 hne, hg.cell h.2.1 hne, fun k => (hg.frozen_far ⟨g, k, none⟩ h.lt hne).trans (h.2.2 k)⟩
end Go.Proofs.Ytfpgklpnpplnnaa

namespace Go.Proofs.Ytfpgklpnpplnnaa
open Go.RowKit

structure Kept2 (m E : Nat) (w w' : World) : Prop where
  os : w'.os = w.os
  tape : w'.tape = w.tape
  output : w'.output = w.output
  size : w.heap.size ≤ w'.heap.size
  block : ∀ k, k < w.heap.size → k ≠ m → k ≠ E → w'.heap[k]? = w.heap[k]?
theorem Kept2.refl (m E : Nat) (w : World) : Kept2 m E w w := ⟨rfl, rfl, rfl, Nat.le_refl _, fun _ _ _ _ => rfl⟩
theorem Kept2.trans {m E : Nat} {a b c : World} (h : Kept2 m E a b) (h2 : Kept2 m E b c) : Kept2 m E a c :=
  ⟨h2.os.trans h.os, h2.tape.trans h.tape, h2.output.trans h.output, Nat.le_trans h.size h2.size, fun k hk h3 h4 => (h2.block k (Nat.lt_of_lt_of_le hk h.size) h3 h4).trans (h.block k hk h3 h4)⟩
theorem Kept2.grown {m E : Nat} {a b c : World} (h : Kept2 m E a b) (h2 : b.grownBy c (some m)) : Kept2 m E a c :=
  h.trans ⟨h2.os, h2.tape, h2.output, h2.size, fun k hk h3 _ => h2.block k hk fun e => h3 (by injection e)⟩
theorem Kept2.below {m E B : Nat} {a b c : World} (h : Kept2 m E a b) (h2 : Below B b c) (hB : a.heap.size ≤ B) : Kept2 m E a c :=
  ⟨h2.os.trans h.os, h2.tape.trans h.tape, h2.output.trans h.output, Nat.le_trans h.size h2.size, fun k hk h3 h4 => (h2.block k (Nat.lt_of_lt_of_le hk hB)).trans (h.block k hk h3 h4)⟩
theorem Kept2.alloc {m E : Nat} {a b : World} (h : Kept2 m E a b) (o : Obj) : Kept2 m E a (b.alloc o) := h.below (below_new b o) h.size
theorem Kept2.set {m E g k : Nat} {a b : World} (h : Kept2 m E a b) (hg : a.heap.size ≤ g ∨ g = E) (v : Value) : Kept2 m E a (b.setCell ⟨g, k, none⟩ v) := by
  have s := grownBy_set b g k v
  refine ⟨s.os.trans h.os, s.tape.trans h.tape, s.output.trans h.output, Nat.le_trans h.size s.size, fun j hj h3 h4 => (s.block j (Nat.lt_of_lt_of_le hj h.size) fun e => ?_).trans (h.block j hj h3 h4)⟩
  injection e with e
  rcases hg with hg | hg <;> omega
theorem Kept2.cell {m E : Nat} {w w' : World} (h : Kept2 m E w w') {p : Addr} {v : Value} (hv : w.cell? p = some v) (h1 : p.block ≠ m) (h2 : p.block ≠ E) : w'.cell? p = some v :=
  (World.cell?_of_block (h.block p.block (World.block_lt_of_cell? w p hv) h1 h2)).trans hv
theorem Kind.Own.kept2 {P : Program} {α : Type} {k : Kind P α} {w w' : World} {base m E : Nat} {v : Value} {l : List α} (h : k.Own w base v l) (h2 : Kept2 m E w w') (hm : m < base) (hE : E < base) : k.Own w' base v l := by
  obtain ⟨h1, h3⟩ := h
  refine ⟨h1, ?_⟩
  rcases h3 with h3 | ⟨g, cap, cur, hv, hg, hb, r⟩
  · exact .inl h3
  · exact .inr ⟨g, cap, cur, hv, hg, (h2.block g (lt_of_block hb) (by omega) (by omega)).trans hb, r⟩
def EndAt (w : World) (E : Nat) (W : Int) : Prop := w.cell? ⟨E, 0, none⟩ = some (.int .i64 W) ∧ ∀ k, w.frozen? ⟨E, k, none⟩ = false
theorem EndAt.lt {w : World} {E : Nat} {W : Int} (h : EndAt w E W) : E < w.heap.size := World.block_lt_of_cell? w _ h.1
theorem EndAt.grown {w w' : World} {row : Option Nat} {E : Nat} {W : Int} (h : EndAt w E W) (hg : w.grownBy w' row) (hne : some E ≠ row) : EndAt w' E W :=
  ⟨hg.cell h.1 hne, fun k => (hg.frozen_far ⟨E, k, none⟩ h.lt hne).trans (h.2 k)⟩
theorem EndAt.alloc {w : World} {E : Nat} {W : Int} (h : EndAt w E W) (o : Obj) : EndAt (w.alloc o) E W := by
  obtain ⟨hc, hf⟩ := bcell (below_new w o)
  exact ⟨(hc _ _ h.lt).trans h.1, fun k => (hf _ _ h.lt).trans (h.2 k)⟩
theorem EndAt.under {w w' : World} {B E : Nat} {W : Int} (h : EndAt w E W) (hb : Below B w w') (hE : E < B) : EndAt w' E W := by
  obtain ⟨hc, hf⟩ := bcell hb
  exact ⟨(hc _ _ hE).trans h.1, fun k => (hf _ _ hE).trans (h.2 k)⟩
theorem EndAt.set {w : World} {E : Nat} {W : Int} (h : EndAt w E W) (X : Int) : EndAt (w.setCell ⟨E, 0, none⟩ (.int .i64 X)) E X :=
  ⟨set_same h.1 _, fun k => by rw [World.frozen?_setCell]; exact h.2 k⟩
theorem EndAt.other {w : World} {E g k : Nat} {W : Int} (h : EndAt w E W) (hne : g ≠ E) (u : Value) : EndAt (w.setCell ⟨g, k, none⟩ u) E W :=
  ⟨set_other h.1 (addr_block hne) u, fun j => by rw [World.frozen?_setCell]; exact h.2 j⟩
theorem box_new (w : World) (m : Nat) (t : TypeId) : (w.alloc (.cells #[.pointer (some ⟨m, 0, none⟩)] t)).cell? ⟨w.heap.size, 0, none⟩ = some (.pointer (some ⟨m, 0, none⟩)) := by
  rw [cell_of_row _ _ _ _ _ _ (heap_new w (.cells #[.pointer (some ⟨m, 0, none⟩)] t) _ rfl)]; rfl
end Go.Proofs.Ytfpgklpnpplnnaa

namespace Go.Proofs.Ytfpgklpnpplnnaa
open Go.RowKit

set_option maxRecDepth 100000 in
set_option maxHeartbeats 8000000 in
theorem icp_read (m : Nat) (bg : List UInt8) (G : ByteArray) (hG : str bg = G) (hb : bg.length ≤ 1000000) (l q1 r t key : List UInt8) (e x1 e2 : Int) (h1 : textR 16 l e = (t, q1, x1)) (hk : bg ++ t = key) (y : Itm) (h2 : moreR key q1 x1 = (y, r, e2)) (hl : l.length ≤ 1000000) (Y : ByteArray) (y1 y2 y3 y4 : Int) (d : Bool) (S : ByteArray) (hy : IsI y Y y1 y2 y3 y4 d S) (w : World) (hr : RdAt w m l e) :
    Calls Try.prog 25 #[.agg #[.pointer (some ⟨m, 0, none⟩)], .string G] w fun x w' => x = .returned (itV Y y1 y2 y3 y4 d S) ∧ RdAt w' m r e2 ∧ w.grownBy w' (some m) := by
  obtain ⟨n1, q2, x2, h3⟩ : ∃ u v z, withinR 1 16 q1 x1 = (u, v, z) := ⟨_, _, _, rfl⟩
  obtain ⟨n2, q3, x3, h4⟩ : ∃ u v z, withinR 1 1099511627776 q2 x2 = (u, v, z) := ⟨_, _, _, rfl⟩
  obtain ⟨n3, q4, x4, h5⟩ : ∃ u v z, withinR 1 1099511627776 q3 x3 = (u, v, z) := ⟨_, _, _, rfl⟩
  obtain ⟨n4, q5, x5, h6⟩ : ∃ u v z, withinR 0 255 q4 x4 = (u, v, z) := ⟨_, _, _, rfl⟩
  obtain ⟨n5, q6, x6, h7⟩ : ∃ u v z, withinR 0 1 q5 x5 = (u, v, z) := ⟨_, _, _, rfl⟩
  obtain ⟨s6, q7, x7, h8⟩ : ∃ u v z, textR 64 q6 x6 = (u, v, z) := ⟨_, _, _, rfl⟩
  obtain ⟨rfl, rfl, rfl⟩ : y = ⟨key, ⟨n1, n2⟩, n3, n4, decide (n5 = 1), s6⟩ ∧ r = q7 ∧ e2 = x7 := by
    have h := h2
    unfold moreR at h
    rw [h3] at h
    simp only at h
    rw [h4] at h
    simp only at h
    rw [h5] at h
    simp only at h
    rw [h6] at h
    simp only at h
    rw [h7] at h
    simp only at h
    rw [h8] at h
    simp only [Prod.mk.injEq] at h
    exact ⟨h.1.symm, h.2.1.symm, h.2.2.symm⟩
  obtain ⟨i0, i1, i2, i3, i4, i5, i6⟩ := hy
  subst i1 i2 i3 i4
  obtain ⟨T, hT⟩ : ∃ T, str t = T := ⟨_, rfl⟩
  have KA : ∀ w : World, (Op.stringOp .add G T).run Try.prog w = .ok (.string Y) w := by
    subst hG hT
    rw [← i0, ← hk]
    exact fun w => run_txt_add bg t (by have := textR_hi (m := 16) h1; omega) w
  have e1 : q1.length ≤ l.length := by have := textR_len 16 l e; rw [h1] at this; exact this
  have e2' : q2.length ≤ q1.length := by have := withinR_len 1 16 q1 x1; rw [h3] at this; exact this
  have e3 : q3.length ≤ q2.length := by have := withinR_len 1 1099511627776 q2 x2; rw [h4] at this; exact this
  have e4 : q4.length ≤ q3.length := by have := withinR_len 1 1099511627776 q3 x3; rw [h5] at this; exact this
  have e5 : q5.length ≤ q4.length := by have := withinR_len 0 255 q4 x4; rw [h6] at this; exact this
  have e6 : q6.length ≤ q5.length := by have := withinR_len 0 1 q5 x5; rw [h7] at this; exact this
  have K1 := fun (w' : World) (hf : RdAt w' m l e) => Lib.hid (rd_text_q (most := 16) h1 hT hf (by omega))
  have K2 := fun (w' : World) (hf : RdAt w' m q1 x1) => Lib.hid (rd_within_q h3 hf (by omega))
  have K3 := fun (w' : World) (hf : RdAt w' m q2 x2) => Lib.hid (rd_within_q h4 hf (by omega))
  have K4 := fun (w' : World) (hf : RdAt w' m q3 x3) => Lib.hid (rd_within_q h5 hf (by omega))
  have K5 := fun (w' : World) (hf : RdAt w' m q4 x4) => Lib.hid (rd_within_q h6 hf (by omega))
  have K6 := fun (w' : World) (hf : RdAt w' m q5 x5) => Lib.hid (rd_bool_q h7 i5 hf (by omega))
  have K7 := fun (w' : World) (hf : RdAt w' m q6 x6) => Lib.hid (rd_text_q (most := 64) h8 i6 hf (by omega))
  obtain ⟨H, hH⟩ : ∃ H, w.heap.size = H := ⟨_, rfl⟩
  have hmH : m < H := hH ▸ hr.lt
  have NmH := Lib.hid (show (some H : Option Nat) ≠ some m from fun e => by injection e with e; omega)
  have NmH1 := Lib.hid (show (some (H + 1) : Option Nat) ≠ some m from fun e => by injection e with e; omega)
  have NHm := Lib.hid (show m ≠ H + 1 by omega)
  have NHH := Lib.hid (show H + 1 ≠ H by omega)
  have HHH := Lib.hid (show w.heap.size ≤ H + 1 by omega)
  obtain ⟨w9, hw9⟩ : ∃ w9, w9 = (w.alloc (.cells #[.pointer (some ⟨m, 0, none⟩)] 55)).alloc (itO ⟨#[]⟩ 0 0 0 0 false ⟨#[]⟩) := ⟨_, rfl⟩
  have HR := Lib.hid (show RdAt w9 m l e by rw [hw9]; exact heap_old _ (heap_old _ hr))
  have HZ := Lib.hid (show ItW w9 (H + 1) ⟨#[]⟩ 0 0 0 0 false ⟨#[]⟩ by
    have h := itW_new (w.alloc (.cells #[.pointer (some ⟨m, 0, none⟩)] 55)) ⟨#[]⟩ 0 0 0 0 false ⟨#[]⟩
    rw [size1, hH] at h
    rw [hw9]; exact h)
  have HG := Lib.hid (show w.grownBy w9 (some m) by rw [hw9]; exact gb_alloc (gb_alloc (gb_refl _ _) _) _)
  have p0 : w9.cell? ⟨H, 0, none⟩ = some (.pointer (some ⟨m, 0, none⟩)) := by
    rw [hw9, alloc_keeps _ _ _ _ (by rw [size1, hH]; omega), ← hH]; exact box_new _ _ _
  have S2 := Lib.hid (show w9.drew.cell? ⟨H, 0, none⟩ = some (.pointer (some ⟨m, 0, none⟩)) from p0)
  have HRd := Lib.hid (show RdAt w9.drew m l e from HR.out)
  clear hr h1 h2 h3 h4 h5 h6 h7 h8 i0 i5 i6 hG hT hk hl e1 e2' e3 e4 e5 e6 hmH
  go_enter Try.func25, Try.ntmps25
  go_upto_region 1 with fail
  (try rw [hH])
  rw [← hw9]
  clear hw9 hH
  go_region_held3 (fun w' => w'.cell? ⟨H, 0, none⟩ = some (.pointer (some ⟨m, 0, none⟩))) (first | (with_reducible assumption) | (with_reducible exact S2.out))
    (first
      | (go_at_call 42; (with_reducible refine (K1 _ HRd.out).out.mono ?_); rintro x w1 ⟨rfl, hrf, hg⟩; replace hg := gb_of_drew hg; replace HZ := Lib.hid (HZ.out.grown hg NmH1.out); replace HG := Lib.hid (gb_trans HG.out hg); replace p0 := World.grownBy.cell hg p0 NmH.out; replace HR := Lib.hid hrf; clear hrf hg)
      | (go_at_call 43; (with_reducible refine (K2 _ HR.out).out.mono ?_); rintro x w2 ⟨rfl, hrf, hg⟩; replace HZ := Lib.hid (HZ.out.grown hg NmH1.out); replace HG := Lib.hid (gb_trans HG.out hg); replace p0 := World.grownBy.cell hg p0 NmH.out; replace HR := Lib.hid hrf; clear hrf hg)
      | (go_at_call 43; (with_reducible refine (K3 _ HR.out).out.mono ?_); rintro x w3 ⟨rfl, hrf, hg⟩; replace HZ := Lib.hid (HZ.out.grown hg NmH1.out); replace HG := Lib.hid (gb_trans HG.out hg); replace p0 := World.grownBy.cell hg p0 NmH.out; replace HR := Lib.hid hrf; clear hrf hg)
      | (go_at_call 43; (with_reducible refine (K4 _ HR.out).out.mono ?_); rintro x w4 ⟨rfl, hrf, hg⟩; replace HZ := Lib.hid (HZ.out.grown hg NmH1.out); replace HG := Lib.hid (gb_trans HG.out hg); replace p0 := World.grownBy.cell hg p0 NmH.out; replace HR := Lib.hid hrf; clear hrf hg)
      | (go_at_call 43; (with_reducible refine (K5 _ HR.out).out.mono ?_); rintro x w5 ⟨rfl, hrf, hg⟩; replace HZ := Lib.hid (HZ.out.grown hg NmH1.out); replace HG := Lib.hid (gb_trans HG.out hg); replace p0 := World.grownBy.cell hg p0 NmH.out; replace HR := Lib.hid hrf; clear hrf hg)
      | (go_at_call 44; (with_reducible refine (K6 _ HR.out).out.mono ?_); rintro x w6 ⟨rfl, hrf, hg⟩; replace HZ := Lib.hid (HZ.out.grown hg NmH1.out); replace HG := Lib.hid (gb_trans HG.out hg); replace p0 := World.grownBy.cell hg p0 NmH.out; replace HR := Lib.hid hrf; clear hrf hg)
      | (go_at_call 42; (with_reducible refine (K7 _ HR.out).out.mono ?_); rintro x w7 ⟨rfl, hrf, hg⟩; replace HZ := Lib.hid (HZ.out.grown hg NmH1.out); replace HG := Lib.hid (gb_trans HG.out hg); replace p0 := World.grownBy.cell hg p0 NmH.out; replace HR := Lib.hid hrf; clear hrf hg; obtain ⟨⟨z0, z1, z2, z3, z4, z5, z6⟩, zf⟩ := HZ.out; replace S2 := Lib.hid (show (((((((w7.setCell ⟨H + 1, 0, none⟩ (.string Y)).setCell ⟨H + 1, 1, none⟩ (.int .i64 (n1 : Int))).setCell ⟨H + 1, 2, none⟩ (.int .i64 (n2 : Int))).setCell ⟨H + 1, 3, none⟩ (.int .i64 (n3 : Int))).setCell ⟨H + 1, 4, none⟩ (.int .i64 (n4 : Int))).setCell ⟨H + 1, 5, none⟩ (.bool d)).setCell ⟨H + 1, 6, none⟩ (.string S)).cell? ⟨H, 0, none⟩ = some (.pointer (some ⟨m, 0, none⟩)) from (set_other (set_other (set_other (set_other (set_other (set_other (set_other p0 (addr_block NHH.out) _) (addr_block NHH.out) _) (addr_block NHH.out) _) (addr_block NHH.out) _) (addr_block NHH.out) _) (addr_block NHH.out) _) (addr_block NHH.out) _))))
  clear S2
  go_wp2_with fail
  have HZf := (((((HZ.out.set0 Y).set1 (n1 : Int)).set2 (n2 : Int)).set3 (n3 : Int)).set4 (n4 : Int)).set5 d |>.set6 S
  obtain ⟨⟨y0, y1, y2, y3, y4, y5, y6⟩, -⟩ := HZf
  exact bodyPost_ret (v := itV Y (n1 : Int) (n2 : Int) (n3 : Int) (n4 : Int) d S) (by simp [results, Try.results25, go_sem, y0, y1, y2, y3, y4, y5, y6]) rfl ⟨rfl, (((((((HR.out.far NHm.out _ _).far NHm.out _ _).far NHm.out _ _).far NHm.out _ _).far NHm.out _ _).far NHm.out _ _).far NHm.out _ _), gb_set (gb_set (gb_set (gb_set (gb_set (gb_set (gb_set HG.out HHH.out _) HHH.out _) HHH.out _) HHH.out _) HHH.out _) HHH.out _) HHH.out _⟩
end Go.Proofs.Ytfpgklpnpplnnaa

namespace Go.Proofs.Ytfpgklpnpplnnaa
open Go.RowKit

def endW (z : Int) (v : Bool) : Int := if z ≠ 0 then z else match v with
  | true => 0
  | false => 11
theorem endI_ways (z : Int) (v : Bool) (x : Itm) : (endW z v = 0 ∧ endI z v x = (x, 0)) ∨ (endW z v ≠ 0 ∧ endI z v x = (noI, endW z v)) := by
  unfold endW endI
  by_cases h : z = 0
  · rw [if_neg (by simp [h]), if_neg (by simp [h])]
    cases v
    · exact .inr ⟨by decide, rfl⟩
    · exact .inl ⟨rfl, rfl⟩
  · rw [if_pos h, if_pos h]
    exact .inr ⟨h, rfl⟩
theorem endIs_ways (z : Int) (v : Bool) (x : List Itm) : (endW z v = 0 ∧ endIs z v x = (x, 0)) ∨ (endW z v ≠ 0 ∧ endIs z v x = ([], endW z v)) := by
  unfold endW endIs
  by_cases h : z = 0
  · rw [if_neg (by simp [h]), if_neg (by simp [h])]
    cases v
    · exact .inr ⟨by decide, rfl⟩
    · exact .inl ⟨rfl, rfl⟩
  · rw [if_pos h, if_pos h]
    exact .inr ⟨h, rfl⟩
theorem bl_of_drew {B : Nat} {w w' : World} (h : Below B w.drew w') : Below B w w' := ⟨h.os, h.tape, h.output, h.size, h.block⟩
set_option maxRecDepth 100000 in
set_option maxHeartbeats 4000000 in
theorem icp_whole (m : Nat) (l : List UInt8) (e z : Int) (hz : endR l e = z) (v : Bool) (x : Int) (hx : endW z v = x) (w : World) (hr : RdAt w m l e) :
    Calls Try.prog 26 #[.agg #[.pointer (some ⟨m, 0, none⟩)], .bool v] w fun en w' => en = .returned (.int .i64 x) ∧ w.grownBy w' (some m) := by
  have HR := Lib.hid (show RdAt (w.alloc (.cells #[.pointer (some ⟨m, 0, none⟩)] 55)) m l e from heap_old _ hr)
  have HG := Lib.hid (show w.grownBy (w.alloc (.cells #[.pointer (some ⟨m, 0, none⟩)] 55)) (some m) from gb_alloc (gb_refl _ _) _)
  have KZ := fun (w' : World) (hr : RdAt w' m l e) => Lib.hid (hz ▸ rd_end (givenAt_some hr))
  unfold endW at hx
  clear hz hr
  by_cases h0 : z = 0
  · subst h0
    rw [if_neg (by decide)] at hx
    cases v
    all_goals
      subst hx
      go_enter Try.func26, Try.ntmps26
      go_wp2_with ((with_reducible refine (KZ _ HR.out).out.mono ?_); rintro e8 w9 ⟨rfl, hrf, hg⟩; replace HG := Lib.hid (HG.out.trans hg); clear hrf hg)
      go_ret
      exact ⟨rfl, HG.out⟩
  · have hzb : (z == 0) = false := beq_eq_false_iff_ne.2 h0
    have hzb2 : (z != 0) = true := by rw [bne, hzb]; rfl
    rw [if_pos h0] at hx
    subst hx
    go_enter Try.func26, Try.ntmps26
    go_wp2_with ((with_reducible refine (KZ _ HR.out).out.mono ?_); rintro e8 w9 ⟨rfl, hrf, hg⟩; replace HG := Lib.hid (HG.out.trans hg); clear hrf hg)
    go_ret
    exact ⟨rfl, HG.out⟩
set_option maxRecDepth 100000 in
set_option maxHeartbeats 8000000 in
theorem icp_readitem (A : Option Addr) (c n : Nat) (b : List UInt8) (hn : n = b.length) (hn9 : n ≤ 1000000) (y : Itm) (z : Int) (hs : readI b = (y, z)) (Y : ByteArray) (y1 y2 y3 y4 : Int) (yd : Bool) (YS : ByteArray) (hy : IsI y Y y1 y2 y3 y4 yd YS) (w : World) (hr : RdB w w.heap.size A c b) :
    Calls Try.prog 11 #[.slice A n c] w fun e w' => e = .returned (.tuple #[itV Y y1 y2 y3 y4 yd YS, .int .i64 z]) ∧ Below w.heap.size w w' := by
  obtain ⟨s, q1, x1, h1⟩ : ∃ u v z, textR 16 b 0 = (u, v, z) := ⟨_, _, _, rfl⟩
  obtain ⟨xx, q2, x2, h2⟩ : ∃ u v z, moreR s q1 x1 = (u, v, z) := ⟨_, _, _, rfl⟩
  obtain ⟨z9, hz9⟩ : ∃ z, endR q2 x2 = z := ⟨_, rfl⟩
  obtain ⟨v, hv⟩ : ∃ v, rightI xx = v := ⟨_, rfl⟩
  obtain ⟨X, r, c', k, p, d, S, hI⟩ : ∃ K r c k p d B, IsI xx K r c k p d B := ⟨_, _, _, _, _, _, _, IsI.mk' xx⟩
  obtain ⟨E, hE⟩ : ∃ E, endW z9 v = E := ⟨_, rfl⟩
  have hres : (y, z) = endI z9 v xx := hs.symm.trans (readI_end h1 h2 hz9 hv)
  have hways := endI_ways z9 v xx
  rw [← hres, hE] at hways
  obtain ⟨G, hG⟩ : ∃ G, w.heap.size = G := ⟨_, rfl⟩
  obtain ⟨w0, hw0⟩ : ∃ w0, w0 = w.alloc noO := ⟨_, rfl⟩
  have hs0 : w0.heap.size = G + 1 := by rw [hw0, size1, hG]
  have HZ := Lib.hid (show ItW w0 G ⟨#[]⟩ 0 0 0 0 false ⟨#[]⟩ by rw [hw0, ← hG]; exact itW_new _ _ _ _ _ _ _ _)
  have HB := Lib.hid (show Below G w w0 by rw [hw0, ← hG]; exact below_new _ _)
  have C1 := Lib.hid (show Calls Try.prog 24 #[.slice A n c] w0 fun e w' => e = .returned (.pointer (some ⟨G + 1, 0, none⟩)) ∧ RdAt w' (G + 1) b 0 ∧ Below w0.heap.size w0 w' by
    have h := varint_new A c w.heap.size b w0 (by rw [hw0]; exact hr.below (below_new _ _))
    rw [← hn] at h
    exact h.mono fun e w' ⟨h1, h2, h3⟩ => ⟨hs0 ▸ h1, hs0 ▸ h2, h3⟩)
  have C2 := fun (w' : World) (h : RdAt w' (G + 1) b 0) => Lib.hid (icp_read (G + 1) [] ⟨#[]⟩ rfl (by simp) b q1 q2 s s 0 x1 x2 h1 rfl xx h2 (by omega) X r c' k p d S hI w' h)
  have CR := fun w => Lib.hid (itp_right xx X r c' k p d S hI v hv w)
  have CW := fun (w' : World) (h : RdAt w' (G + 1) q2 x2) => Lib.hid (icp_whole (G + 1) q2 x2 z9 hz9 v E hE w' h)
  have HWY := Lib.hid hways
  have HY := Lib.hid hy
  have HI := Lib.hid hI
  have HGG := Lib.hid hG
  have NGG := Lib.hid (show (some G : Option Nat) ≠ some (G + 1) from fun e => by injection e with e; omega)
  have HG1 := Lib.hid (show G ≤ G + 1 from Nat.le_succ _)
  have HG0 := Lib.hid (Nat.le_refl G)
  have HS0 := Lib.hid (show G ≤ w0.heap.size by omega)
  clear hs hr hn hn9 h1 h2 hz9 hv hI hE hres hways hy hs0
  go_enter Try.func11, Try.ntmps11
  go_upto_region 1 with fail
  (try rw [hG])
  rw [← hw0]
  clear hw0 hG
  go_upto_region 2 with ((with_reducible refine C1.out.mono ?_); rintro e w1 ⟨rfl, hrf, hq⟩; replace HZ := Lib.hid (HZ.out.grown (grown_of_below hq (some (G + 1))) NGG.out); replace HB := Lib.hid (HB.out.trans (hq.mono HS0.out)); have HR := Lib.hid hrf; clear hrf hq)
  clear C1
  obtain ⟨P, hP⟩ : ∃ P, w1.heap.size = P := ⟨_, rfl⟩
  obtain ⟨w2, hw2⟩ : ∃ w2, w2 = w1.alloc (.cells #[.pointer (some ⟨G + 1, 0, none⟩)] 55) := ⟨_, rfl⟩
  have p0 : w2.cell? ⟨P, 0, none⟩ = some (.pointer (some ⟨G + 1, 0, none⟩)) := by rw [hw2, ← hP]; exact box_new _ _ _
  have NPG := Lib.hid (show (some P : Option Nat) ≠ some (G + 1) from fun e => by injection e with e; have := HR.out.lt; omega)
  have HGS := HR.out.lt
  replace HZ := Lib.hid (show ItW w2 G ⟨#[]⟩ 0 0 0 0 false ⟨#[]⟩ by rw [hw2]; exact HZ.out.alloc _)
  replace HB := Lib.hid (show Below G w w2 by rw [hw2]; exact HB.out.trans ((below_new w1 _).mono (by omega)))
  replace HR := Lib.hid (show RdAt w2 (G + 1) b 0 by rw [hw2]; exact heap_old _ HR.out)
  rw [← hw2]
  (try rw [hP])
  clear hw2 hP HGS
  go_upto_region 3 with ((with_reducible refine (C2 _ HR.out).out.mono ?_); rintro e w3 ⟨rfl, hrf, hg⟩; replace HB := Lib.hid (below_far HB.out hg HG1.out (Nat.le_of_lt HZ.out.lt)); replace HZ := Lib.hid (HZ.out.grown hg NGG.out); replace p0 := World.grownBy.cell hg p0 NPG.out; replace HR := Lib.hid hrf; clear hrf hg)
  clear C2
  obtain ⟨G2, hG2⟩ : ∃ G2, w3.heap.size = G2 := ⟨_, rfl⟩
  obtain ⟨w4, hw4⟩ : ∃ w4, w4 = w3.alloc (itO X r c' k p d S) := ⟨_, rfl⟩
  have HX := Lib.hid (show ItW w4 G2 X r c' k p d S by rw [hw4, ← hG2]; exact itW_new _ _ _ _ _ _ _ _)
  have HGS := HR.out.lt
  have NG2 := Lib.hid (show (some G2 : Option Nat) ≠ some (G + 1) from fun e => by injection e with e; omega)
  replace HZ := Lib.hid (show ItW w4 G ⟨#[]⟩ 0 0 0 0 false ⟨#[]⟩ by rw [hw4]; exact HZ.out.alloc _)
  replace HB := Lib.hid (show Below G w w4 by rw [hw4]; exact HB.out.trans ((below_new w3 _).mono (by omega)))
  replace HR := Lib.hid (show RdAt w4 (G + 1) q2 x2 by rw [hw4]; exact heap_old _ HR.out)
  replace p0 : w4.cell? ⟨P, 0, none⟩ = some (.pointer (some ⟨G + 1, 0, none⟩)) := by rw [hw4]; exact cell_alo p0 _
  rw [← hw4]
  (try rw [hG2])
  clear hw4 hG2 HGS
  obtain ⟨⟨u0, u1, u2, u3, u4, u5, u6⟩, -⟩ := HX.out
  go_region_held3 (fun w' => w'.cell? ⟨P, 0, none⟩ = some (.pointer (some ⟨G + 1, 0, none⟩)) ∧ w'.cell? ⟨G2, 0, none⟩ = some (.string X) ∧ w'.cell? ⟨G2, 1, none⟩ = some (.int .i64 r) ∧ w'.cell? ⟨G2, 2, none⟩ = some (.int .i64 c') ∧ w'.cell? ⟨G2, 3, none⟩ = some (.int .i64 k) ∧ w'.cell? ⟨G2, 4, none⟩ = some (.int .i64 p) ∧ w'.cell? ⟨G2, 5, none⟩ = some (.bool d) ∧ w'.cell? ⟨G2, 6, none⟩ = some (.string S)) (first | (exact ⟨by assumption, by assumption, by assumption, by assumption, by assumption, by assumption, by assumption, by assumption⟩) | go_keep)
    (first
      | (go_at_call 20; (with_reducible refine (CR _).out.mono ?_); rintro e w5 ⟨rfl, hq⟩; replace hq := bl_of_drew hq; replace HB := Lib.hid (HB.out.trans (hq.mono (Nat.le_of_lt HZ.out.lt))); replace HR := Lib.hid (RdAt.below HR.out hq HR.out.lt); replace HZ := Lib.hid (HZ.out.below hq); replace HX := Lib.hid (HX.out.below hq); replace p0 := (hq.cell (World.block_lt_of_cell? _ _ p0)).trans p0; clear hq u0 u1 u2 u3 u4 u5 u6; obtain ⟨⟨u0, u1, u2, u3, u4, u5, u6⟩, -⟩ := HX.out)
      | (go_at_call 26; (with_reducible refine (CW _ HR.out).out.mono ?_); rintro e w6 ⟨rfl, hg⟩; replace HB := Lib.hid (below_far HB.out hg HG1.out (Nat.le_of_lt HZ.out.lt)); replace HZ := Lib.hid (HZ.out.grown hg NGG.out); replace HX := Lib.hid (HX.out.grown hg NG2.out); replace p0 := World.grownBy.cell hg p0 NPG.out; clear HR hg u0 u1 u2 u3 u4 u5 u6; obtain ⟨⟨u0, u1, u2, u3, u4, u5, u6⟩, -⟩ := HX.out))
  clear p0
  obtain ⟨⟨t0, t1, t2, t3, t4, t5, t6⟩, tf⟩ := HZ.out
  rcases HWY.out with ⟨rfl, h⟩ | ⟨hE, h⟩
  · injection h with h h2
    subst h h2
    obtain ⟨rfl, rfl, rfl, rfl, rfl, rfl, rfl⟩ : X = Y ∧ r = y1 ∧ c' = y2 ∧ k = y3 ∧ p = y4 ∧ d = yd ∧ S = YS := ⟨HI.out.key.symm.trans HY.out.key, HI.out.rep.symm.trans HY.out.rep, HI.out.cnt.symm.trans HY.out.cnt, HI.out.rank.symm.trans HY.out.rank, HI.out.prio.symm.trans HY.out.prio, HI.out.dead.symm.trans HY.out.dead, HI.out.body.symm.trans HY.out.body⟩
    go_wp2_with fail
    obtain ⟨wz, hwz⟩ : ∃ wz, ((((((World.setCell w6 ⟨G, 0, none⟩ (.string X)).setCell ⟨G, 1, none⟩ (.int .i64 r)).setCell ⟨G, 2, none⟩ (.int .i64 c')).setCell ⟨G, 3, none⟩ (.int .i64 k)).setCell ⟨G, 4, none⟩ (.int .i64 p)).setCell ⟨G, 5, none⟩ (.bool d)).setCell ⟨G, 6, none⟩ (.string S) = wz := ⟨_, rfl⟩
    have HZf : ItW wz G X r c' k p d S := hwz ▸ (((((((HZ.out).set0 X).set1 r).set2 c').set3 k).set4 p).set5 d).set6 S
    have HBf : Below G w wz := hwz ▸ (Below.setCell (Below.setCell (Below.setCell (Below.setCell (Below.setCell (Below.setCell (Below.setCell HB.out HG0.out _) HG0.out _) HG0.out _) HG0.out _) HG0.out _) HG0.out _) HG0.out _)
    rw [hwz]
    obtain ⟨⟨j0, j1, j2, j3, j4, j5, j6⟩, -⟩ := HZf
    exact bodyPost_ret (v := .tuple #[itV X r c' k p d S, .int .i64 0]) (by simp [results, Try.results11, go_sem, j0, j1, j2, j3, j4, j5, j6]) rfl ⟨rfl, by first | exact HBf | exact HGG.out ▸ HBf⟩
  · injection h with h h2
    subst h h2
    obtain ⟨rfl, rfl, rfl, rfl, rfl, rfl, rfl⟩ : ⟨#[]⟩ = Y ∧ 0 = y1 ∧ 0 = y2 ∧ 0 = y3 ∧ 0 = y4 ∧ false = yd ∧ ⟨#[]⟩ = YS := ⟨noI_is.key.symm.trans HY.out.key, noI_is.rep.symm.trans HY.out.rep, noI_is.cnt.symm.trans HY.out.cnt, noI_is.rank.symm.trans HY.out.rank, noI_is.prio.symm.trans HY.out.prio, noI_is.dead.symm.trans HY.out.dead, noI_is.body.symm.trans HY.out.body⟩
    have hzb : (z == 0) = false := beq_eq_false_iff_ne.2 hE
    have hzb2 : (z != 0) = true := by rw [bne, hzb]; rfl
    go_wp2_with fail
    obtain ⟨wz, hwz⟩ : ∃ wz, ((((((World.setCell w6 ⟨G, 0, none⟩ (.string ⟨#[]⟩)).setCell ⟨G, 1, none⟩ (.int .i64 0)).setCell ⟨G, 2, none⟩ (.int .i64 0)).setCell ⟨G, 3, none⟩ (.int .i64 0)).setCell ⟨G, 4, none⟩ (.int .i64 0)).setCell ⟨G, 5, none⟩ (.bool false)).setCell ⟨G, 6, none⟩ (.string ⟨#[]⟩) = wz := ⟨_, rfl⟩
    have HZf : ItW wz G ⟨#[]⟩ 0 0 0 0 false ⟨#[]⟩ := hwz ▸ (((((((HZ.out).set0 ⟨#[]⟩).set1 0).set2 0).set3 0).set4 0).set5 false).set6 ⟨#[]⟩
    have HBf : Below G w wz := hwz ▸ (Below.setCell (Below.setCell (Below.setCell (Below.setCell (Below.setCell (Below.setCell (Below.setCell HB.out HG0.out _) HG0.out _) HG0.out _) HG0.out _) HG0.out _) HG0.out _) HG0.out _)
    rw [hwz]
    obtain ⟨⟨j0, j1, j2, j3, j4, j5, j6⟩, -⟩ := HZf
    exact bodyPost_ret (v := .tuple #[itV ⟨#[]⟩ 0 0 0 0 false ⟨#[]⟩, .int .i64 z]) (by simp [results, Try.results11, go_sem, j0, j1, j2, j3, j4, j5, j6]) rfl ⟨rfl, by first | exact HBf | exact HGG.out ▸ HBf⟩
end Go.Proofs.Ytfpgklpnpplnnaa

namespace Go.Proofs.Ytfpgklpnpplnnaa
open Go.RowKit

def LrAt (w : World) (L m : Nat) (U : ByteArray) (v : Bool) : Prop := w.cell? ⟨L, 0, none⟩ = some (.pointer (some ⟨m, 0, none⟩)) ∧ w.cell? ⟨L, 1, none⟩ = some (.string U) ∧ w.cell? ⟨L, 2, none⟩ = some (.bool v) ∧ ∀ k, w.frozen? ⟨L, k, none⟩ = false
theorem LrAt.lt {w : World} {L m : Nat} {U : ByteArray} {v : Bool} (h : LrAt w L m U v) : L < w.heap.size := World.block_lt_of_cell? w _ h.1
theorem LrAt.grown {w w' : World} {row : Option Nat} {L m : Nat} {U : ByteArray} {v : Bool} (h : LrAt w L m U v) (hg : w.grownBy w' row) (hne : some L ≠ row) : LrAt w' L m U v :=
  ⟨hg.cell h.1 hne, hg.cell h.2.1 hne, hg.cell h.2.2.1 hne, fun k => (hg.frozen_far ⟨L, k, none⟩ h.lt hne).trans (h.2.2.2 k)⟩
theorem LrAt.alloc {w : World} {L m : Nat} {U : ByteArray} {v : Bool} (h : LrAt w L m U v) (o : Obj) : LrAt (w.alloc o) L m U v := h.grown (row := none) (grown_of_below (below_new w o) none) (by simp)
theorem LrAt.below {w w' : World} {L m : Nat} {U : ByteArray} {v : Bool} (h : LrAt w L m U v) (hb : Below w.heap.size w w') : LrAt w' L m U v := h.grown (row := none) (grown_of_below hb none) (by simp)
theorem LrAt.other {w : World} {L m g k : Nat} {U : ByteArray} {v : Bool} (h : LrAt w L m U v) (hne : g ≠ L) (u : Value) : LrAt (w.setCell ⟨g, k, none⟩ u) L m U v := h.grown (grownBy_set _ _ _ _) (fun e => hne (by injection e with e; exact e.symm))
theorem LrAt.set1 {w : World} {L m : Nat} {U : ByteArray} {v : Bool} (h : LrAt w L m U v) (X : ByteArray) : LrAt (w.setCell ⟨L, 1, none⟩ (.string X)) L m X v :=
  ⟨set_other h.1 (addr_off (by decide)) _, set_same h.2.1 _, set_other h.2.2.1 (addr_off (by decide)) _, fun j => by rw [World.frozen?_setCell]; exact h.2.2.2 j⟩
theorem LrAt.set2 {w : World} {L m : Nat} {U : ByteArray} {v : Bool} (h : LrAt w L m U v) (X : Bool) : LrAt (w.setCell ⟨L, 2, none⟩ (.bool X)) L m U X :=
  ⟨set_other h.1 (addr_off (by decide)) _, set_other h.2.1 (addr_off (by decide)) _, set_same h.2.2.1 _, fun j => by rw [World.frozen?_setCell]; exact h.2.2.2 j⟩
theorem LrAt.to1 {w w' : World} {L m : Nat} {U X : ByteArray} {v : Bool} (h : LrAt w L m U v) (e : w' = w.setCell ⟨L, 1, none⟩ (.string X)) : LrAt w' L m X v := by rw [e]; exact h.set1 X
theorem LrAt.far7 {w wf : World} {L m H : Nat} {U : ByteArray} {v : Bool} {a b c d e f g : Value} (h : LrAt w L m U v) (hne : H ≠ L) (hw : (((((((w.setCell ⟨H, 0, none⟩ a).setCell ⟨H, 1, none⟩ b).setCell ⟨H, 2, none⟩ c).setCell ⟨H, 3, none⟩ d).setCell ⟨H, 4, none⟩ e).setCell ⟨H, 5, none⟩ f).setCell ⟨H, 6, none⟩ g) = wf) : LrAt wf L m U v := by rw [← hw]; exact (LrAt.other (LrAt.other (LrAt.other (LrAt.other (LrAt.other (LrAt.other (LrAt.other h hne _) hne _) hne _) hne _) hne _) hne _) hne _)
theorem Kept2.below' {m E : Nat} {a b c : World} (h : Kept2 m E a b) (hb : Below b.heap.size b c) : Kept2 m E a c := h.below hb h.size
theorem alike_drop : ∀ (s : Nat) (a b : List UInt8), s ≤ a.length → s ≤ b.length → a.take s = b.take s → alikeN a b = alikeN (a.drop s) (b.drop s) + s
  | 0, _, _, _, _, _ => rfl
  | s + 1, [], _, h, _, _ => by simp at h
  | s + 1, _ :: _, [], _, h, _ => by simp at h
  | s + 1, x :: a, y :: b, h1, h2, h3 => by
    simp only [List.take_succ_cons, List.cons.injEq] at h3
    obtain ⟨rfl, h3⟩ := h3
    simp only [List.length_cons] at h1 h2
    have ih := alike_drop s a b (by omega) (by omega) h3
    simp only [List.drop_succ_cons]
    rw [alikeN, if_pos rfl, ih]
    omega
theorem alike_none {was key t : List UInt8} {s : Nat} (hs : s ≤ was.length) (hk : was.take s ++ t = key) : ((was.drop s).take (alikeN (was.drop s) (key.drop s))).isEmpty = decide (alikeN was key = s) := by
  have hkt : key.take s = was.take s := by rw [← hk, List.take_append_of_le_length (by rw [List.length_take]; omega), List.take_take, Nat.min_self]
  have hkl : s ≤ key.length := by rw [← hk, List.length_append, List.length_take]; omega
  have h := alike_drop s was key hs hkl hkt.symm
  have h2 := (alikeN_le (was.drop s) (key.drop s)).1
  rw [h]
  cases hc : alikeN (was.drop s) (key.drop s) with
  | zero => simp
  | succ c =>
    rw [hc] at h2
    cases hd : was.drop s with
    | nil => rw [hd] at h2; simp at h2
    | cons x l => simp
set_option maxRecDepth 100000 in
set_option maxHeartbeats 8000000 in
theorem icp_next (m L : Nat) (hmL : m ≠ L) (was : List UInt8) (U : ByteArray) (hU : str was = U) (hw : was.length ≤ 100000) (V : Bool) (l q1 q2 r t key : List UInt8) (e x1 x2 e2 : Int) (s : Nat) (h1 : withinR 0 (was.length : Int) l e = (s, q1, x1)) (h2 : textR 16 q1 x1 = (t, q2, x2)) (hk : was.take s ++ t = key) (y : Itm) (h3 : moreR key q2 x2 = (y, r, e2)) (hl : l.length ≤ 1000000) (v z vv : Bool) (hv : rightI y = v) (hz : decide (alikeN was key = s) = z) (hvv : (V || !(v && z)) = vv) (Y : ByteArray) (y1 y2 y3 y4 : Int) (d : Bool) (S : ByteArray) (hy : IsI y Y y1 y2 y3 y4 d S) (w : World) (hr : RdAt w m l e) (hL : LrAt w L m U V) :
    Calls Try.prog 50 #[.pointer (some ⟨L, 0, none⟩)] w fun x w' => x = .returned (itV Y y1 y2 y3 y4 d S) ∧ RdAt w' m r e2 ∧ LrAt w' L m Y vv ∧ Kept2 m L w w' := by
  have hsw : s ≤ was.length := by have := withinR_hi (by omega) h1; omega
  have htx : t.length ≤ 16 := textR_hi (m := 16) h2
  have hkl : s ≤ key.length ∧ key.length ≤ 100016 := by rw [← hk, List.length_append, List.length_take]; omega
  have hYk : y.key = key := by
    have h := h3
    unfold moreR at h
    simp only [Prod.mk.injEq] at h
    rw [← h.1]
  have hus : U.size = was.length := by rw [← hU, str_size]
  have hke : str key = Y := by rw [← hYk]; exact hy.key
  have hq1 : q1.length ≤ l.length := by have := withinR_len 0 (was.length : Int) l e; rw [h1] at this; exact this
  obtain ⟨G, hG⟩ : ∃ G, str (was.take s) = G := ⟨_, rfl⟩
  obtain ⟨UD, hUD⟩ : ∃ X, str (was.drop s) = X := ⟨_, rfl⟩
  obtain ⟨YD, hYD⟩ : ∃ X, str (key.drop s) = X := ⟨_, rfl⟩
  obtain ⟨cm, hcm⟩ : ∃ c, alikeN (was.drop s) (key.drop s) = c := ⟨_, rfl⟩
  obtain ⟨CM, hCM⟩ : ∃ X, str ((was.drop s).take cm) = X := ⟨_, rfl⟩
  have hce : CM.toList.isEmpty = z := by rw [← hCM, str_toList, ← hcm, alike_none hsw hk, hz]
  have hce2 : (CM.toList == []) = z := by rw [← hce]; cases CM.toList <;> rfl
  have K1 := fun (w' : World) (hf : RdAt w' m l e) => Lib.hid (rd_within_q h1 hf (by omega))
  rw [← hus] at K1
  have K2 := fun (w' : World) (hf : RdAt w' m q1 x1) => Lib.hid (icp_read m (was.take s) G hG (by rw [List.length_take]; omega) q1 q2 r t key x1 x2 e2 h2 hk y h3 (by omega) Y y1 y2 y3 y4 d S hy w' hf)
  have S1 := fun w => run_str_take (P := Try.prog) Try.underlying9 was U G hU s hsw hG w
  have S2 := fun w => run_str_drop (P := Try.prog) Try.underlying9 was U UD hU s hsw hUD w
  have S3 := fun w => run_str_drop (P := Try.prog) Try.underlying9 key Y YD hke s hkl.1 hYD w
  have CR := fun W => Lib.hid (itp_right y Y y1 y2 y3 y4 d S hy v hv W)
  have CC := fun (W : World) (g : Nat) (hg : W.heap.size = g) => Lib.hid (icp_common (was.drop s) (key.drop s) UD YD hUD hYD (by rw [List.length_drop]; omega) (by rw [List.length_drop]; omega) cm hcm CM hCM W g hg)
  obtain ⟨H, hH⟩ : ∃ H, w.heap.size = H := ⟨_, rfl⟩
  have hmH : m < H := hH ▸ hr.lt
  have hLH : L < H := hH ▸ hL.lt
  have NmH := Lib.hid (show (some H : Option Nat) ≠ some m from fun e => by injection e with e; omega)
  have NmL := Lib.hid (show (some L : Option Nat) ≠ some m from fun e => by injection e with e; omega)
  have NHL := Lib.hid (show H ≠ L by omega)
  have NLH := Lib.hid (show L ≠ H by omega)
  have NHm := Lib.hid (show m ≠ H by omega)
  have NLm := Lib.hid hmL
  have HHH := Lib.hid (show w.heap.size ≤ H by omega)
  obtain ⟨w1, hw1⟩ : ∃ w1, w1 = w.alloc noO := ⟨_, rfl⟩
  have HZ := Lib.hid (show ItW w1 H ⟨#[]⟩ 0 0 0 0 false ⟨#[]⟩ by rw [hw1, ← hH]; exact itW_new _ _ _ _ _ _ _ _)
  have HR := Lib.hid (show RdAt w1 m l e by rw [hw1]; exact heap_old _ hr)
  have HL := Lib.hid (show LrAt w1 L m U V by rw [hw1]; exact hL.alloc _)
  have HK := Lib.hid (show Kept2 m L w w1 by rw [hw1]; exact (Kept2.refl m L w).alloc _)
  have HRd := Lib.hid (show RdAt w1.drew m l e from HR.out)
  have HV := Lib.hid hvv
  clear hr hL h1 h2 h3 hk hy hU hw hl hv hz hvv hsw htx hkl hYk hus hke hq1 hG hUD hYD hcm hCM hmH hLH hmL
  obtain ⟨a0, a1, a2, af⟩ := HL.out
  go_enter Try.func50, Try.ntmps50
  go_upto_region 1 with fail
  (try rw [hH])
  rw [← hw1]
  clear hw1 hH
  go_region_held3 (fun (w' : World) => w'.cell? ⟨L, 0, none⟩ = some (.pointer (some ⟨m, 0, none⟩)) ∧ w'.cell? ⟨L, 1, none⟩ = some (.string U)) (first | (exact ⟨by assumption, by assumption⟩) | go_keep)
    (first
      | (go_at_call 43; (with_reducible refine (K1 _ HRd.out).out.mono ?_); rintro x w2 ⟨rfl, hrf, hg⟩; replace hg := gb_of_drew hg; replace HZ := Lib.hid (HZ.out.grown hg NmH.out); replace HL := Lib.hid (HL.out.grown hg NmL.out); replace HK := Lib.hid (HK.out.grown hg); replace HR := Lib.hid hrf; clear hrf hg a0 a1 a2 af; obtain ⟨a0, a1, a2, af⟩ := HL.out))
  clear K1 HRd
  go_upto_region 2 with fail
  have HRd := Lib.hid (show RdAt w2.drew m q1 x1 from HR.out)
  have HRe := Lib.hid (show RdAt (w2.alloc noO).drew m q1 x1 from heap_old _ HR.out)
  have HX0 := Lib.hid (show ItW (w2.alloc noO) w2.heap.size ⟨#[]⟩ 0 0 0 0 false ⟨#[]⟩ from itW_new _ _ _ _ _ _ _ _)
  have HXS := Lib.hid (show w.heap.size ≤ w2.heap.size from HK.out.size)
  have HX3 := Lib.hid (show H < w2.heap.size from HZ.out.lt)
  have N2m := Lib.hid (show (some w2.heap.size : Option Nat) ≠ some m from fun e => by injection e with e; have := HR.out.lt; omega)
  have PD := Lib.hid (show (fun (w' : World) => w'.cell? ⟨L, 0, none⟩ = some (.pointer (some ⟨m, 0, none⟩)) ∧ w'.cell? ⟨L, 1, none⟩ = some (.string U)) w2.drew from ⟨a0, a1⟩)
  have PE := Lib.hid (show (fun (w' : World) => w'.cell? ⟨L, 0, none⟩ = some (.pointer (some ⟨m, 0, none⟩)) ∧ w'.cell? ⟨L, 1, none⟩ = some (.string U)) (w2.alloc noO).drew from ⟨cell_alo a0 _, cell_alo a1 _⟩)
  have P1 := Lib.hid True.intro
  have P2 := Lib.hid True.intro
  have P3 := Lib.hid True.intro
  have P4 := Lib.hid True.intro
  go_region_held3 (fun (w' : World) => w'.cell? ⟨L, 0, none⟩ = some (.pointer (some ⟨m, 0, none⟩)) ∧ w'.cell? ⟨L, 1, none⟩ = some (.string U)) (first | (with_reducible exact ⟨by assumption, by assumption⟩) | (with_reducible exact PD.out) | (with_reducible exact PE.out) | (with_reducible exact P1.out) | (with_reducible exact P2.out) | (with_reducible exact P3.out) | (with_reducible exact P4.out))
    (first
      | (go_at_call 25; (with_reducible refine (K2 w2.drew HRd.out).out.mono ?_); rintro x w3 ⟨rfl, hrf, hg⟩; replace hg := gb_of_drew hg; replace HZ := Lib.hid (HZ.out.grown hg NmH.out); replace HL := Lib.hid (HL.out.grown hg NmL.out); replace HK := Lib.hid (HK.out.grown hg); replace HR := Lib.hid hrf; clear hrf hg a0 a1 a2 af; obtain ⟨a0, a1, a2, af⟩ := HL.out; replace P1 := Lib.hid (show (fun (w' : World) => w'.cell? ⟨L, 0, none⟩ = some (.pointer (some ⟨m, 0, none⟩)) ∧ w'.cell? ⟨L, 1, none⟩ = some (.string U)) (w3.alloc noO) from ⟨cell_alo a0 _, cell_alo a1 _⟩); replace P2 := Lib.hid (show (fun (w' : World) => w'.cell? ⟨L, 0, none⟩ = some (.pointer (some ⟨m, 0, none⟩)) ∧ w'.cell? ⟨L, 1, none⟩ = some (.string U)) (w3.alloc (itO Y y1 y2 y3 y4 d S)) from ⟨cell_alo a0 _, cell_alo a1 _⟩); have N3L := Lib.hid (show w3.heap.size ≠ L from fun e => by have := HL.out.lt; omega); replace P3 := Lib.hid (show (fun (w' : World) => w'.cell? ⟨L, 0, none⟩ = some (.pointer (some ⟨m, 0, none⟩)) ∧ w'.cell? ⟨L, 1, none⟩ = some (.string U)) (((((((((w3.alloc noO).setCell ⟨w3.heap.size, 0, none⟩ (.string Y)).setCell ⟨w3.heap.size, 1, none⟩ (.int .i64 y1)).setCell ⟨w3.heap.size, 2, none⟩ (.int .i64 y2)).setCell ⟨w3.heap.size, 3, none⟩ (.int .i64 y3)).setCell ⟨w3.heap.size, 4, none⟩ (.int .i64 y4)).setCell ⟨w3.heap.size, 5, none⟩ (.bool d)).setCell ⟨w3.heap.size, 6, none⟩ (.string S))) from ⟨(set_other (set_other (set_other (set_other (set_other (set_other (set_other (cell_alo a0 _) (addr_block N3L.out) _) (addr_block N3L.out) _) (addr_block N3L.out) _) (addr_block N3L.out) _) (addr_block N3L.out) _) (addr_block N3L.out) _) (addr_block N3L.out) _), (set_other (set_other (set_other (set_other (set_other (set_other (set_other (cell_alo a1 _) (addr_block N3L.out) _) (addr_block N3L.out) _) (addr_block N3L.out) _) (addr_block N3L.out) _) (addr_block N3L.out) _) (addr_block N3L.out) _) (addr_block N3L.out) _)⟩))
      | (go_at_call 25; (with_reducible refine (K2 (w2.alloc noO).drew HRe.out).out.mono ?_); rintro x w3 ⟨rfl, hrf, hg⟩; replace hg := gb_of_drew hg; have HX1 := Lib.hid (HX0.out.grown hg N2m.out); replace hg := gb_trans (gb_alloc (gb_refl w2 (some m)) noO) hg; have N2L := Lib.hid (show w2.heap.size ≠ L from fun e => by have := HL.out.lt; omega); replace HZ := Lib.hid (HZ.out.grown hg NmH.out); replace HL := Lib.hid (HL.out.grown hg NmL.out); replace HK := Lib.hid (HK.out.grown hg); replace HR := Lib.hid hrf; clear hrf hg a0 a1 a2 af; obtain ⟨a0, a1, a2, af⟩ := HL.out; obtain ⟨⟨x0, x1, x2, x3, x4, x5, x6⟩, xf⟩ := HX1.out; replace P4 := Lib.hid (show (fun (w' : World) => w'.cell? ⟨L, 0, none⟩ = some (.pointer (some ⟨m, 0, none⟩)) ∧ w'.cell? ⟨L, 1, none⟩ = some (.string U)) ((((((((w3.setCell ⟨w2.heap.size, 0, none⟩ (.string Y)).setCell ⟨w2.heap.size, 1, none⟩ (.int .i64 y1)).setCell ⟨w2.heap.size, 2, none⟩ (.int .i64 y2)).setCell ⟨w2.heap.size, 3, none⟩ (.int .i64 y3)).setCell ⟨w2.heap.size, 4, none⟩ (.int .i64 y4)).setCell ⟨w2.heap.size, 5, none⟩ (.bool d)).setCell ⟨w2.heap.size, 6, none⟩ (.string S))) from ⟨(set_other (set_other (set_other (set_other (set_other (set_other (set_other a0 (addr_block N2L.out) _) (addr_block N2L.out) _) (addr_block N2L.out) _) (addr_block N2L.out) _) (addr_block N2L.out) _) (addr_block N2L.out) _) (addr_block N2L.out) _), (set_other (set_other (set_other (set_other (set_other (set_other (set_other a1 (addr_block N2L.out) _) (addr_block N2L.out) _) (addr_block N2L.out) _) (addr_block N2L.out) _) (addr_block N2L.out) _) (addr_block N2L.out) _) (addr_block N2L.out) _)⟩)))
  all_goals (first
    | (obtain ⟨wz, hwz⟩ : ∃ wz, wz = w3.alloc (itO Y y1 y2 y3 y4 d S) := ⟨_, rfl⟩; obtain ⟨Xb, hXb⟩ : ∃ Xb, w3.heap.size = Xb := ⟨_, rfl⟩; have HX := Lib.hid (show ItW wz Xb Y y1 y2 y3 y4 d S by rw [hwz, ← hXb]; exact itW_new _ _ _ _ _ _ _ _); have NXH := Lib.hid (show H ≠ Xb from fun e => by have := HZ.out.lt; omega); have NXL := Lib.hid (show L ≠ Xb from fun e => by have := HL.out.lt; omega); replace HZ := Lib.hid (show ItW wz H ⟨#[]⟩ 0 0 0 0 false ⟨#[]⟩ by rw [hwz]; exact HZ.out.alloc _); replace HL := Lib.hid (show LrAt wz L m U V by rw [hwz]; exact HL.out.alloc _); replace HR := Lib.hid (show RdAt wz m r e2 by rw [hwz]; exact heap_old _ HR.out); replace HK := Lib.hid (show Kept2 m L w wz by rw [hwz]; exact HK.out.alloc _); rw [← hwz, hXb]; clear hwz hXb N3L)
    | (obtain ⟨Xb, hXb⟩ : ∃ Xb, w2.heap.size = Xb := ⟨_, rfl⟩; rw [hXb] at N2m N2L HX1 HX0 HXS HX3; rw [hXb]; obtain ⟨wz, hwz⟩ : ∃ wz, wz = (((((((w3.setCell ⟨Xb, 0, none⟩ (.string Y)).setCell ⟨Xb, 1, none⟩ (.int .i64 y1)).setCell ⟨Xb, 2, none⟩ (.int .i64 y2)).setCell ⟨Xb, 3, none⟩ (.int .i64 y3)).setCell ⟨Xb, 4, none⟩ (.int .i64 y4)).setCell ⟨Xb, 5, none⟩ (.bool d)).setCell ⟨Xb, 6, none⟩ (.string S)) := ⟨_, rfl⟩; have HX := Lib.hid (show ItW wz Xb Y y1 y2 y3 y4 d S by rw [hwz]; exact (((((HX1.out.set0 Y).set1 y1).set2 y2).set3 y3).set4 y4).set5 d |>.set6 S); have NXH := Lib.hid (show H ≠ Xb from fun e => by have := HX3.out; omega); have NXL := Lib.hid (show L ≠ Xb from fun e => N2L.out e.symm); have NXm := Lib.hid (show m ≠ Xb from fun e => N2m.out (by rw [e])); replace HZ := Lib.hid (show ItW wz H ⟨#[]⟩ 0 0 0 0 false ⟨#[]⟩ by rw [hwz]; exact (ItW.other (ItW.other (ItW.other (ItW.other (ItW.other (ItW.other (ItW.other HZ.out (Ne.symm NXH.out)) (Ne.symm NXH.out)) (Ne.symm NXH.out)) (Ne.symm NXH.out)) (Ne.symm NXH.out)) (Ne.symm NXH.out)) (Ne.symm NXH.out))); replace HL := Lib.hid (show LrAt wz L m U V by rw [hwz]; exact (LrAt.other (LrAt.other (LrAt.other (LrAt.other (LrAt.other (LrAt.other (LrAt.other HL.out (Ne.symm NXL.out) _) (Ne.symm NXL.out) _) (Ne.symm NXL.out) _) (Ne.symm NXL.out) _) (Ne.symm NXL.out) _) (Ne.symm NXL.out) _) (Ne.symm NXL.out) _)); replace HR := Lib.hid (show RdAt wz m r e2 by rw [hwz]; exact (RdAt.far (RdAt.far (RdAt.far (RdAt.far (RdAt.far (RdAt.far (RdAt.far HR.out NXm.out _ _) NXm.out _ _) NXm.out _ _) NXm.out _ _) NXm.out _ _) NXm.out _ _) NXm.out _ _)); replace HK := Lib.hid (show Kept2 m L w wz by rw [hwz]; exact (Kept2.set (Kept2.set (Kept2.set (Kept2.set (Kept2.set (Kept2.set (Kept2.set HK.out (.inl HXS.out) _) (.inl HXS.out) _) (.inl HXS.out) _) (.inl HXS.out) _) (.inl HXS.out) _) (.inl HXS.out) _) (.inl HXS.out) _)); rw [← hwz]; clear hwz hXb x0 x1 x2 x3 x4 x5 x6 xf HX1 N2L NXm))
  all_goals
    clear a0 a1 a2 af HX0 HXS HX3 PD PE P1 P2 P3 P4 HRd HRe K2 N2m S1
    obtain ⟨⟨u0, u1, u2, u3, u4, u5, u6⟩, -⟩ := HX.out
    obtain ⟨a0, a1, a2, af⟩ := HL.out
    cases v
    case false =>
      obtain rfl : true = vv := by rw [← HV.out]; simp
      have C := Lib.hid (fun L => cellL_of (a := wz) (l := L) fun W => (CR W).out)
      have HC := Lib.hid (show CellL wz [(⟨Xb, 0, none⟩, .string Y), (⟨Xb, 1, none⟩, .int .i64 y1), (⟨Xb, 2, none⟩, .int .i64 y2), (⟨Xb, 3, none⟩, .int .i64 y3), (⟨Xb, 4, none⟩, .int .i64 y4), (⟨Xb, 5, none⟩, .bool d), (⟨Xb, 6, none⟩, .string S)] wz from ⟨u0, u1, u2, u3, u4, u5, u6, Below.refl _ _⟩)
      go_upto_region 3 with fail
      refine q_region (CellL wz [(⟨Xb, 0, none⟩, .string Y), (⟨Xb, 1, none⟩, .int .i64 y1), (⟨Xb, 2, none⟩, .int .i64 y2), (⟨Xb, 3, none⟩, .int .i64 y3), (⟨Xb, 4, none⟩, .int .i64 y4), (⟨Xb, 5, none⟩, .bool d), (⟨Xb, 6, none⟩, .string S)]) (by kernel_rfl) (by kernel_rfl) (cellL_drew HC.out) ?_
      repeat (first
        | go_big_quiet_skip
        | (go_big_quiet_want; (first
          | (refine q_take (v := ?_) ?_ ?_; rotate_left; (focus (intro w hSw; (try simp only [CellL] at hSw); go_split_ands; go_simp; (try (rw [if_neg (by omega)])); (try with_reducible rfl); done)))
          | (refine q_call (C.out _) ?_ ?_; (focus (intro w hSw; (try simp only [CellL] at hSw); go_split_ands; go_simp; (try (rw [if_neg (by omega)])); done)))); (try simp only [Act.put, List.setIfInBounds_toArray, List.set_cons_zero, List.set_cons_succ]); go_big_quiet_on))
      refine wpQuiet_nil ?_
      intro w9 hw9
      have hq := cellL_size hw9
      clear hw9 HC C CR CC u0 u1 u2 u3 u4 u5 u6 a0 a1 a2 af S2 S3
      replace HK := Lib.hid (HK.out.below' hq)
      replace HZ := Lib.hid (HZ.out.below hq)
      replace HX := Lib.hid (HX.out.below hq)
      replace HR := Lib.hid (RdAt.below HR.out hq HR.out.lt)
      replace HL := Lib.hid (HL.out.below hq)
      clear hq
      obtain ⟨a0, a1, a2, af⟩ := HL.out
      go_upto_region 5 with fail
      obtain ⟨w7, hw7⟩ : ∃ w7, w7 = w9.setCell ⟨L, 2, none⟩ (.bool true) := ⟨_, rfl⟩
      replace HK := Lib.hid (show Kept2 m L w w7 by rw [hw7]; exact HK.out.set (.inr rfl) _)
      replace HZ := Lib.hid (show ItW w7 H ⟨#[]⟩ 0 0 0 0 false ⟨#[]⟩ by rw [hw7]; exact HZ.out.other NLH.out)
      replace HX := Lib.hid (show ItW w7 Xb Y y1 y2 y3 y4 d S by rw [hw7]; exact HX.out.other NXL.out)
      replace HR := Lib.hid (show RdAt w7 m r e2 by rw [hw7]; exact HR.out.far NLm.out _ _)
      replace HL := Lib.hid (show LrAt w7 L m U true by rw [hw7]; exact HL.out.set2 true)
      rw [← hw7]
      clear hw7
      clear a0 a1 a2 af
      obtain ⟨⟨u0, u1, u2, u3, u4, u5, u6⟩, -⟩ := HX.out
      obtain ⟨a0, a1, a2, af⟩ := HL.out
      go_upto_region 6 with fail
      obtain ⟨w6, hw6⟩ : ∃ w6, w6 = World.setCell w7 ⟨L, 1, none⟩ (.string Y) := ⟨_, rfl⟩
      replace HK := Lib.hid (show Kept2 m L w w6 by rw [hw6]; exact HK.out.set (.inr rfl) _)
      replace HZ := Lib.hid (show ItW w6 H ⟨#[]⟩ 0 0 0 0 false ⟨#[]⟩ by rw [hw6]; exact HZ.out.other NLH.out)
      replace HX := Lib.hid (show ItW w6 Xb Y y1 y2 y3 y4 d S by rw [hw6]; exact HX.out.other NXL.out)
      replace HR := Lib.hid (show RdAt w6 m r e2 by rw [hw6]; exact HR.out.far NLm.out _ _)
      replace HL := Lib.hid (HL.out.to1 hw6)
      rw [← hw6]
      clear hw6 u0 u1 u2 u3 u4 u5 u6 a0 a1 a2 af
      obtain ⟨⟨u0, u1, u2, u3, u4, u5, u6⟩, -⟩ := HX.out
      obtain ⟨⟨t0, t1, t2, t3, t4, t5, t6⟩, tf⟩ := HZ.out
      go_wp2_with fail
      obtain ⟨wf, hwf⟩ : ∃ wf, (((((((w6.setCell ⟨H, 0, none⟩ (.string Y)).setCell ⟨H, 1, none⟩ (.int .i64 y1)).setCell ⟨H, 2, none⟩ (.int .i64 y2)).setCell ⟨H, 3, none⟩ (.int .i64 y3)).setCell ⟨H, 4, none⟩ (.int .i64 y4)).setCell ⟨H, 5, none⟩ (.bool d)).setCell ⟨H, 6, none⟩ (.string S)) = wf := ⟨_, rfl⟩
      have HZf : ItW wf H Y y1 y2 y3 y4 d S := by rw [← hwf]; exact (((((HZ.out.set0 Y).set1 y1).set2 y2).set3 y3).set4 y4).set5 d |>.set6 S
      have HLf := HL.out.far7 NHL.out hwf
      have HRf : RdAt wf m r e2 := by rw [← hwf]; exact (RdAt.far (RdAt.far (RdAt.far (RdAt.far (RdAt.far (RdAt.far (RdAt.far HR.out NHm.out _ _) NHm.out _ _) NHm.out _ _) NHm.out _ _) NHm.out _ _) NHm.out _ _) NHm.out _ _)
      have HKf : Kept2 m L w wf := by rw [← hwf]; exact (Kept2.set (Kept2.set (Kept2.set (Kept2.set (Kept2.set (Kept2.set (Kept2.set HK.out (.inl HHH.out) _) (.inl HHH.out) _) (.inl HHH.out) _) (.inl HHH.out) _) (.inl HHH.out) _) (.inl HHH.out) _) (.inl HHH.out) _)
      rw [hwf]
      obtain ⟨⟨j0, j1, j2, j3, j4, j5, j6⟩, -⟩ := HZf
      exact bodyPost_ret (v := itV Y y1 y2 y3 y4 d S) (by simp [results, Try.results50, go_sem, j0, j1, j2, j3, j4, j5, j6]) rfl ⟨rfl, HRf, HLf, HKf⟩
    case true =>
      cases z
      case' false =>
        obtain rfl : true = vv := by rw [← HV.out]; simp
      case' true =>
        obtain rfl : V = vv := by rw [← HV.out]; simp
      all_goals
        go_upto_region 3 with fail
        go_region_held3 (fun (w' : World) => w'.cell? ⟨L, 1, none⟩ = some (.string U) ∧ w'.cell? ⟨Xb, 0, none⟩ = some (.string Y) ∧ w'.cell? ⟨Xb, 1, none⟩ = some (.int .i64 y1) ∧ w'.cell? ⟨Xb, 2, none⟩ = some (.int .i64 y2) ∧ w'.cell? ⟨Xb, 3, none⟩ = some (.int .i64 y3) ∧ w'.cell? ⟨Xb, 4, none⟩ = some (.int .i64 y4) ∧ w'.cell? ⟨Xb, 5, none⟩ = some (.bool d) ∧ w'.cell? ⟨Xb, 6, none⟩ = some (.string S)) (first | (exact ⟨by assumption, by assumption, by assumption, by assumption, by assumption, by assumption, by assumption, by assumption⟩) | (exact ⟨cell_alo a1 _, cell_alo u0 _, cell_alo u1 _, cell_alo u2 _, cell_alo u3 _, cell_alo u4 _, cell_alo u5 _, cell_alo u6 _⟩) | go_keep)
          (first
            | (go_at_call 20; (with_reducible refine (CR _).out.mono ?_); rintro e w9 ⟨rfl, hq⟩; replace hq := bl_of_drew hq; clear u0 u1 u2 u3 u4 u5 u6 a0 a1 a2 af; replace HK := Lib.hid (HK.out.below' hq); replace HZ := Lib.hid (HZ.out.below hq); replace HX := Lib.hid (HX.out.below hq); replace HR := Lib.hid (RdAt.below HR.out hq HR.out.lt); replace HL := Lib.hid (HL.out.below hq); clear hq; obtain ⟨⟨u0, u1, u2, u3, u4, u5, u6⟩, -⟩ := HX.out; obtain ⟨a0, a1, a2, af⟩ := HL.out)
            | (go_at_call 48; (with_reducible refine (CC w9 w9.heap.size rfl).out.mono ?_); rintro e w8 ⟨rfl, hq⟩; replace hq := (below_new w9 (stO2 UD YD)).trans (hq.mono (by simp)); clear u0 u1 u2 u3 u4 u5 u6 a0 a1 a2 af; replace HK := Lib.hid (HK.out.below' hq); replace HZ := Lib.hid (HZ.out.below hq); replace HX := Lib.hid (HX.out.below hq); replace HR := Lib.hid (RdAt.below HR.out hq HR.out.lt); replace HL := Lib.hid (HL.out.below hq); clear hq; obtain ⟨⟨u0, u1, u2, u3, u4, u5, u6⟩, -⟩ := HX.out; obtain ⟨a0, a1, a2, af⟩ := HL.out))
        clear CR CC S2 S3
      case' false =>
        obtain ⟨w9, h99⟩ : ∃ w9, w9 = w8 := ⟨_, rfl⟩
        subst h99
        clear u0 u1 u2 u3 u4 u5 u6
        go_upto_region 5 with fail
        obtain ⟨w7, hw7⟩ : ∃ w7, w7 = w9.setCell ⟨L, 2, none⟩ (.bool true) := ⟨_, rfl⟩
        replace HK := Lib.hid (show Kept2 m L w w7 by rw [hw7]; exact HK.out.set (.inr rfl) _)
        replace HZ := Lib.hid (show ItW w7 H ⟨#[]⟩ 0 0 0 0 false ⟨#[]⟩ by rw [hw7]; exact HZ.out.other NLH.out)
        replace HX := Lib.hid (show ItW w7 Xb Y y1 y2 y3 y4 d S by rw [hw7]; exact HX.out.other NXL.out)
        replace HR := Lib.hid (show RdAt w7 m r e2 by rw [hw7]; exact HR.out.far NLm.out _ _)
        replace HL := Lib.hid (show LrAt w7 L m U true by rw [hw7]; exact HL.out.set2 true)
        rw [← hw7]
        clear hw7
        clear a0 a1 a2 af
        obtain ⟨⟨u0, u1, u2, u3, u4, u5, u6⟩, -⟩ := HX.out
        obtain ⟨a0, a1, a2, af⟩ := HL.out
      case' true =>
        obtain ⟨w7, h77⟩ : ∃ w7, w7 = w8 := ⟨_, rfl⟩
        subst h77
      all_goals
        go_upto_region 6 with fail
        obtain ⟨w6, hw6⟩ : ∃ w6, w6 = World.setCell w7 ⟨L, 1, none⟩ (.string Y) := ⟨_, rfl⟩
        replace HK := Lib.hid (show Kept2 m L w w6 by rw [hw6]; exact HK.out.set (.inr rfl) _)
        replace HZ := Lib.hid (show ItW w6 H ⟨#[]⟩ 0 0 0 0 false ⟨#[]⟩ by rw [hw6]; exact HZ.out.other NLH.out)
        replace HX := Lib.hid (show ItW w6 Xb Y y1 y2 y3 y4 d S by rw [hw6]; exact HX.out.other NXL.out)
        replace HR := Lib.hid (show RdAt w6 m r e2 by rw [hw6]; exact HR.out.far NLm.out _ _)
        replace HL := Lib.hid (HL.out.to1 hw6)
        rw [← hw6]
        clear hw6 u0 u1 u2 u3 u4 u5 u6 a0 a1 a2 af
        obtain ⟨⟨u0, u1, u2, u3, u4, u5, u6⟩, -⟩ := HX.out
        obtain ⟨⟨t0, t1, t2, t3, t4, t5, t6⟩, tf⟩ := HZ.out
        go_wp2_with fail
        obtain ⟨wf, hwf⟩ : ∃ wf, (((((((w6.setCell ⟨H, 0, none⟩ (.string Y)).setCell ⟨H, 1, none⟩ (.int .i64 y1)).setCell ⟨H, 2, none⟩ (.int .i64 y2)).setCell ⟨H, 3, none⟩ (.int .i64 y3)).setCell ⟨H, 4, none⟩ (.int .i64 y4)).setCell ⟨H, 5, none⟩ (.bool d)).setCell ⟨H, 6, none⟩ (.string S)) = wf := ⟨_, rfl⟩
        have HZf : ItW wf H Y y1 y2 y3 y4 d S := by rw [← hwf]; exact (((((HZ.out.set0 Y).set1 y1).set2 y2).set3 y3).set4 y4).set5 d |>.set6 S
        have HLf := HL.out.far7 NHL.out hwf
        have HRf : RdAt wf m r e2 := by rw [← hwf]; exact (RdAt.far (RdAt.far (RdAt.far (RdAt.far (RdAt.far (RdAt.far (RdAt.far HR.out NHm.out _ _) NHm.out _ _) NHm.out _ _) NHm.out _ _) NHm.out _ _) NHm.out _ _) NHm.out _ _)
        have HKf : Kept2 m L w wf := by rw [← hwf]; exact (Kept2.set (Kept2.set (Kept2.set (Kept2.set (Kept2.set (Kept2.set (Kept2.set HK.out (.inl HHH.out) _) (.inl HHH.out) _) (.inl HHH.out) _) (.inl HHH.out) _) (.inl HHH.out) _) (.inl HHH.out) _) (.inl HHH.out) _)
        rw [hwf]
        obtain ⟨⟨j0, j1, j2, j3, j4, j5, j6⟩, -⟩ := HZf
        exact bodyPost_ret (v := itV Y y1 y2 y3 y4 d S) (by simp [results, Try.results50, go_sem, j0, j1, j2, j3, j4, j5, j6]) rfl ⟨rfl, HRf, HLf, HKf⟩
end Go.Proofs.Ytfpgklpnpplnnaa

namespace Go.Proofs.Ytfpgklpnpplnnaa
open Go.RowKit

theorem moreR_len9 {k l r : List UInt8} {e e2 : Int} {y : Itm} (h : moreR k l e = (y, r, e2)) : r.length ≤ l.length := by
  obtain ⟨n1, q2, x2, h3⟩ : ∃ u v z, withinR 1 16 l e = (u, v, z) := ⟨_, _, _, rfl⟩
  obtain ⟨n2, q3, x3, h4⟩ : ∃ u v z, withinR 1 1099511627776 q2 x2 = (u, v, z) := ⟨_, _, _, rfl⟩
  obtain ⟨n3, q4, x4, h5⟩ : ∃ u v z, withinR 1 1099511627776 q3 x3 = (u, v, z) := ⟨_, _, _, rfl⟩
  obtain ⟨n4, q5, x5, h6⟩ : ∃ u v z, withinR 0 255 q4 x4 = (u, v, z) := ⟨_, _, _, rfl⟩
  obtain ⟨n5, q6, x6, h7⟩ : ∃ u v z, withinR 0 1 q5 x5 = (u, v, z) := ⟨_, _, _, rfl⟩
  obtain ⟨s6, q7, x7, h8⟩ : ∃ u v z, textR 64 q6 x6 = (u, v, z) := ⟨_, _, _, rfl⟩
  obtain rfl : r = q7 := by
    unfold moreR at h
    rw [h3] at h
    simp only at h
    rw [h4] at h
    simp only at h
    rw [h5] at h
    simp only at h
    rw [h6] at h
    simp only at h
    rw [h7] at h
    simp only at h
    rw [h8] at h
    simp only [Prod.mk.injEq] at h
    exact h.2.1.symm
  have e2' : q2.length ≤ l.length := by have := withinR_len 1 16 l e; rw [h3] at this; exact this
  have e3 : q3.length ≤ q2.length := by have := withinR_len 1 1099511627776 q2 x2; rw [h4] at this; exact this
  have e4 : q4.length ≤ q3.length := by have := withinR_len 1 1099511627776 q3 x3; rw [h5] at this; exact this
  have e5 : q5.length ≤ q4.length := by have := withinR_len 0 255 q4 x4; rw [h6] at this; exact this
  have e6 : q6.length ≤ q5.length := by have := withinR_len 0 1 q5 x5; rw [h7] at this; exact this
  have e7 : r.length ≤ q6.length := by have := textR_len 64 q6 x6; rw [h8] at this; exact this
  omega
theorem Kept2.low {m E B : Nat} {a b c : World} (h : Below B a b) (h2 : Kept2 m E b c) (hB : B ≤ b.heap.size) (hm : B ≤ m) (hE : B ≤ E) : Below B a c :=
  ⟨h2.os.trans h.os, h2.tape.trans h.tape, h2.output.trans h.output, Nat.le_trans h.size h2.size, fun k hk => (h2.block k (by omega) (by omega) (by omega)).trans (h.block k hk)⟩
set_option maxRecDepth 100000 in
set_option maxHeartbeats 8000000 in
theorem icp_itemsr (m L n N : Nat) (hmL : m ≠ L) (l q1 r : List UInt8) (e x1 e2 : Int) (h1 : withinR 0 4096 l e = (n, q1, x1)) (LL : List Itm) (v : Bool) (h2 : listR n [] q1 x1 = ((LL, v), r, e2)) (hN : N = LL.length) (hl : l.length ≤ 1000000) (w : World) (hr : RdAt w m l e) (hL : LrAt w L m ⟨#[]⟩ false) :
    Calls Try.prog 31 #[.pointer (some ⟨L, 0, none⟩)] w fun x w' => ∃ A c, x = .returned (.slice A N c) ∧ kItm.Own w' w.heap.size (.slice A N c) LL ∧ RdAt w' m r e2 ∧ (∃ U, LrAt w' L m U (!v)) ∧ Kept2 m L w w' := by
  have hn9 : n ≤ 4096 := by have := withinR_hi (by omega) h1; omega
  have hq1 : q1.length ≤ 1000000 := by have := withinR_len 0 4096 l e; rw [h1] at this; simp only at this; omega
  have W1 := fun (w' : World) (hf : RdAt w' m l e) => Lib.hid (rd_within_q h1 hf (by omega))
  have NL := Lib.hid (show (some L : Option Nat) ≠ some m from fun e => by injection e with e; omega)
  have NN := Lib.hid (show m ≠ L ∧ m < w.heap.size ∧ L < w.heap.size from ⟨hmL, hr.lt, hL.lt⟩)
  have HR := Lib.hid hr
  have HL := Lib.hid hL
  have HK := Lib.hid (Kept2.refl m L w)
  have HQ1 := Lib.hid hq1
  have HY0 := Lib.hid h2
  have HNN := Lib.hid hN
  obtain ⟨a0, a1, a2, -⟩ := hL
  clear hr h1 hq1 h2 hN hmL hl
  go_enter Try.func31, Try.ntmps31
  go_upto_region 2 with ((with_reducible refine (W1 _ HR.out).out.mono ?_); rintro e8 w9 ⟨rfl, hrf, hg⟩; replace HL := Lib.hid (HL.out.grown hg NL.out); replace HK := Lib.hid (HK.out.grown hg); replace HR := Lib.hid hrf; clear hrf hg a0 a1 a2; obtain ⟨a0, a1, a2, -⟩ := HL.out)
  clear W1
  go_wp2_with fail
  go_loopw [4] (fun sv wr => ∃ (k : Nat) (q : List UInt8) (e' : Int) (dn : List Itm) (was : List UInt8) (U : ByteArray) (fl : Bool), k ≤ n ∧ was.length ≤ 16 * k ∧ Hid (k = dn.length) ∧ Hid (str was = U) ∧ Hid (q.length ≤ 1000000) ∧ Hid (((LL, v), r, e2) = ((dn ++ (listR (n - k) was q e').1.1, fl && (listR (n - k) was q e').1.2), (listR (n - k) was q e').2)) ∧ Hid (RdAt wr m q e') ∧ Hid (LrAt wr L m U (!fl)) ∧ Hid (kItm.Own wr w.heap.size sv dn) ∧ Hid (Kept2 m L w wr)) (fun sv _ => n - lenOf sv)
  case atStart => exact ⟨0, q1, x1, [], [], ⟨#[]⟩, true, by omega, Nat.zero_le _, rfl, rfl, HQ1, by rw [Nat.sub_zero, HY0.out]; rfl, HR, HL, Kind.Own.nil _ _, HK⟩
  case round =>
    clear HR HL HK HY0 HQ1 a0 a1 a2
    obtain ⟨k, q, e', dn, was, U, fl, hk, hwk, HD, HU, HQ, HY, HR, HL, HO, HK⟩ := hrel
    obtain ⟨a0, a1, a2, -⟩ := HL.out
    obtain ⟨A6, c6, rfl, hrd6⟩ := HO.out.read_n HD.out
    have KE := fun (w' : World) (hr : RdAt w' m q e') => Lib.hid (rd_err (givenAt_some hr))
    have hkc : k ≤ c6 := by rw [HD.out]; exact hrd6.room
    clear hrd6
    by_cases hc : k < n ∧ e' = 0
    · obtain ⟨hlt, rfl⟩ := hc
      obtain ⟨s, p1, z1, g1⟩ : ∃ u v z, withinR 0 (was.length : Int) q 0 = (u, v, z) := ⟨_, _, _, rfl⟩
      obtain ⟨tx, p2, z2, g2⟩ : ∃ u v z, textR 16 p1 z1 = (u, v, z) := ⟨_, _, _, rfl⟩
      obtain ⟨key, hkey⟩ : ∃ key, was.take s ++ tx = key := ⟨_, rfl⟩
      obtain ⟨y, p3, z3, g3⟩ : ∃ u v z, moreR key p2 z2 = (u, v, z) := ⟨_, _, _, rfl⟩
      obtain ⟨vr, hv⟩ : ∃ v, rightI y = v := ⟨_, rfl⟩
      obtain ⟨al, hal⟩ : ∃ al, alikeN was key = al := ⟨_, rfl⟩
      obtain ⟨z, hz⟩ : ∃ z, decide (al = s) = z := ⟨_, rfl⟩
      have hsw : s ≤ was.length := by have := withinR_hi (by omega) g1; omega
      have htx : tx.length ≤ 16 := textR_hi (m := 16) g2
      have hkl : key.length ≤ 16 * (k + 1) := by rw [← hkey, List.length_append, List.length_take]; omega
      have b1 : p1.length ≤ q.length := by have := withinR_len 0 (was.length : Int) q 0; rw [g1] at this; exact this
      have b2 : p2.length ≤ p1.length := by have := textR_len 16 p1 z1; rw [g2] at this; exact this
      have b3 : p3.length ≤ p2.length := moreR_len9 g3
      have HQ3 := Lib.hid (show p3.length ≤ 1000000 by have := HQ.out; omega)
      have hyk : y.key = key := by
        have h := g3
        unfold moreR at h
        simp only [Prod.mk.injEq] at h
        rw [← h.1]
      have HY2 := Lib.hid (show ((LL, v), r, e2) = (((dn ++ [y]) ++ (listR (n - (k + 1)) key p3 z3).1.1, (fl && (vr && z)) && (listR (n - (k + 1)) key p3 z3).1.2), (listR (n - (k + 1)) key p3 z3).2) by
        rw [HY.out, listR_round hlt g1 g2 hkey g3 hv hal hz]; simp only [List.append_assoc, List.singleton_append, Bool.and_assoc])
      obtain ⟨X, r', c', kk, p, d, S, hI⟩ : ∃ K r c k p d B, IsI y K r c k p d B := ⟨_, _, _, _, _, _, _, IsI.mk' y⟩
      have KN := fun (w' : World) (hr : RdAt w' m q 0) (hL : LrAt w' L m U (!fl)) => Lib.hid (icp_next m L NN.out.1 was U HU.out (by omega) (!fl) q p1 p2 p3 tx key 0 z1 z2 z3 s g1 g2 hkey y g3 HQ.out vr z (!(fl && (vr && z))) hv (by rw [hal]; exact hz) (by cases fl <;> rfl) X r' c' kk p d S hI w' hr hL)
      have HXO := Lib.hid (fun w => itm_row w y X r' c' kk p d S hI)
      have HKX := Lib.hid (show str key = X by rw [← hyk]; exact hI.key)
      have HLE := Lib.hid (show dn.length + [y].length ≤ 1000000 by have := HD.out; rw [List.length_singleton]; omega)
      have HKL := Lib.hid hkl
      clear g1 g2 g3 hkey hv hal hz hsw htx hkl b1 b2 b3 hyk hI HY
      go_wp2_with (first
        | ((with_reducible refine (KE _ HR.out).out.mono ?_); rintro e8 w9 ⟨rfl, hrf, hg⟩; replace HO := Lib.hid (HO.out.other hg NN.out.2.1); replace HL := Lib.hid (HL.out.grown hg NL.out); replace HK := Lib.hid (HK.out.grown hg); replace HR := Lib.hid hrf; clear hrf hg a0 a1 a2; obtain ⟨a0, a1, a2, -⟩ := HL.out)
        | ((with_reducible refine (KN _ HR.out HL.out).out.mono ?_); rintro e8 w8 ⟨rfl, hrf, hlr, hk2⟩; have HO2 := Lib.hid (HO.out.kept2 hk2 NN.out.2.1 NN.out.2.2); have HL2 := Lib.hid hlr; have HR2 := Lib.hid hrf; have HK2 := Lib.hid (HK.out.trans hk2); clear hrf hlr hk2 a0 a1 a2)
        | (at_builtin; refine wpList_app_k kItm rfl (.tmp 24) (.tmp 27) rfl w.heap.size (.slice A6 k c6) dn rfl (Kind.Own.alloc HO2.out _) _ _ 1 1 [y] rfl rfl (HXO.out _) HLE.out (by decide) (it_alloc HK2.out.size _) ?_; intro v6 w6 hown6 hg6 hb6 _; obtain ⟨A7, c7, rfl, -⟩ := hown6.read_n (n := k + 1) (by rw [List.length_append, ← HD.out]; rfl); have HO6 := Lib.hid hown6; have HR6 := Lib.hid (RdAt.below (heap_old _ HR2.out) hb6 NN.out.2.1); have HL6 := Lib.hid ((HL2.out.alloc _).grown hg6 (fun e => by have h1 := (HO2.out.lt _ e.symm).1; have h2 := NN.out.2.2; omega)); have HK6 := Lib.hid ((HK2.out.alloc _).below hb6 (Nat.le_refl _)); clear hown6 hg6 hb6))
      go_roundw
      case rel => exact ⟨k + 1, p3, z3, dn ++ [y], key, X, fl && (vr && z), by omega, HKL.out, by rw [List.length_append, ← HD.out]; rfl, HKX, HQ3, HY2, HR6, HL6, HO6, HK6⟩
      case measure => simp [lenOf]; omega
    · have hor : n - k = 0 ∨ e' ≠ 0 := by
        by_cases h : k < n
        · exact .inr fun he => hc ⟨h, he⟩
        · exact .inl (by omega)
      have HF := Lib.hid (show ((LL, v), r, e2) = ((dn, fl), q, e') by rw [HY.out, listR_end _ _ _ hor, List.append_nil, Bool.and_true])
      have hgo : (k < n ∧ (e' == 0) = false) ∨ ¬ k < n := by
        by_cases h : k < n
        · exact .inl ⟨h, beq_eq_false_iff_ne.2 fun he => hc ⟨h, he⟩⟩
        · exact .inr h
      obtain rfl : N = k := by
        have h := HF.out
        injection h with h1 h2
        injection h1 with h1 h3
        rw [HNN.out, HD.out, h1]
      clear hc hor HY
      rcases hgo with ⟨hlt, heb⟩ | hlt
      all_goals
        go_wp2_with ((with_reducible refine (KE _ HR.out).out.mono ?_); rintro e8 w9 ⟨rfl, hrf, hg⟩; replace HO := Lib.hid (HO.out.other hg NN.out.2.1); replace HL := Lib.hid (HL.out.grown hg NL.out); replace HK := Lib.hid (HK.out.grown hg); replace HR := Lib.hid hrf; clear hrf hg a0 a1 a2; obtain ⟨a0, a1, a2, -⟩ := HL.out)
        go_ret
        have h := HF.out
        injection h with h1 h2
        injection h1 with h1 h4
        injection h2 with h2 h3
        subst h1 h2 h3 h4
        exact ⟨A6, c6, rfl, HO.out, HR.out, ⟨_, HL.out⟩, HK.out⟩
set_option maxRecDepth 100000 in
set_option maxHeartbeats 4000000 in
theorem icp_readitems (A : Option Addr) (c n : Nat) (b : List UInt8) (hn : n = b.length) (hn9 : n ≤ 1000000) (y : List Itm) (z : Int) (hs : readIs b = (y, z)) (N : Nat) (hN : y.length = N) (w : World) (hr : RdB w w.heap.size A c b) :
    Calls Try.prog 15 #[.slice A n c] w fun e w' => ∃ A c, e = .returned (.tuple #[.slice A N c, .int .i64 z]) ∧ kItm.Rd w' w'.heap.size A c y ∧ Below w.heap.size w w' := by
  obtain ⟨nn, q1, x1, h1⟩ : ∃ u v z, withinR 0 4096 b 0 = (u, v, z) := ⟨_, _, _, rfl⟩
  obtain ⟨LL, v, r2, e2, h2⟩ : ∃ a b c d, listR nn [] q1 x1 = ((a, b), c, d) := ⟨_, _, _, _, rfl⟩
  obtain ⟨z9, hz9⟩ : ∃ z, endR r2 e2 = z := ⟨_, rfl⟩
  obtain ⟨E, hE⟩ : ∃ E, endW z9 v = E := ⟨_, rfl⟩
  have hres : (y, z) = endIs z9 v LL := hs.symm.trans (readIs_end h1 h2 hz9)
  have hways := endIs_ways z9 v LL
  rw [← hres, hE] at hways
  obtain ⟨N2, hN2⟩ : ∃ N, N = LL.length := ⟨_, rfl⟩
  obtain ⟨M, hM⟩ : ∃ M, w.heap.size = M := ⟨_, rfl⟩
  have C1 := Lib.hid (show Calls Try.prog 24 #[.slice A n c] w fun e w' => e = .returned (.pointer (some ⟨M, 0, none⟩)) ∧ RdAt w' M b 0 ∧ Below M w w' by
    subst hn hM
    exact varint_new A c w.heap.size b w hr)
  have C2 := fun (L : Nat) (hL : M ≠ L) (w' : World) (h : RdAt w' M b 0) (h9 : LrAt w' L M ⟨#[]⟩ false) => Lib.hid (icp_itemsr M L nn N2 hL b q1 r2 0 x1 e2 h1 LL v h2 hN2 (by omega) w' h h9)
  have CW := fun (w' : World) (h : RdAt w' M r2 e2) => Lib.hid (icp_whole M r2 e2 z9 hz9 v E hE w' h)
  have HWY := Lib.hid hways
  have HM := Lib.hid hM
  have HNN := Lib.hid hN
  have HN2 := Lib.hid hN2
  clear hs hr hn hn9 h1 h2 hz9 hE hres hways hN hN2 hM
  go_enter Try.func15, Try.ntmps15
  go_upto_region 2 with ((with_reducible refine C1.out.mono ?_); rintro e w1 ⟨rfl, hrf, hq⟩; have HB := Lib.hid hq; have HR := Lib.hid hrf; clear hrf hq)
  clear C1
  obtain ⟨L, hL⟩ : ∃ L, w1.heap.size = L := ⟨_, rfl⟩
  obtain ⟨w2, hw2⟩ : ∃ w2, w2 = w1.alloc (.cells #[.pointer (some ⟨M, 0, none⟩), .string ⟨#[]⟩, .bool false] 62) := ⟨_, rfl⟩
  have HGS := HR.out.lt
  have HL := Lib.hid (show LrAt w2 L M ⟨#[]⟩ false by
    have hb := heap_new w1 (.cells #[.pointer (some ⟨M, 0, none⟩), .string ⟨#[]⟩, .bool false] 62) _ rfl
    rw [hw2, ← hL]
    refine ⟨?_, ?_, ?_, fun k => ?_⟩
    · rw [cell_of_row _ _ _ _ _ _ hb]; rfl
    · rw [cell_of_row _ _ _ _ _ _ hb]; rfl
    · rw [cell_of_row _ _ _ _ _ _ hb]; rfl
    · unfold World.frozen?; rw [hb]; simp)
  have NML := Lib.hid (show M ≠ L by omega)
  have NLM := Lib.hid (show (some L : Option Nat) ≠ some M from fun e => by injection e with e; omega)
  have HML := Lib.hid (show M ≤ L by omega)
  replace HB := Lib.hid (show Below M w w2 by rw [hw2]; exact HB.out.trans ((below_new w1 _).mono (by omega)))
  replace HR := Lib.hid (show RdAt w2 M b 0 by rw [hw2]; exact heap_old _ HR.out)
  have HMS := Lib.hid (show M ≤ w2.heap.size from Nat.le_of_lt HR.out.lt)
  have HMT := Lib.hid (show M < w2.heap.size from HR.out.lt)
  rw [← hw2]
  (try rw [hL])
  clear hw2 hL HGS
  go_upto_region 4 with (first
    | ((with_reducible refine (C2 L NML.out _ HR.out HL.out).out.mono ?_); rintro e w3 ⟨A3, c3, rfl, hown, hrf, ⟨U3, hlr⟩, hk⟩; have HO := Lib.hid hown; replace HR := Lib.hid hrf; replace HL := Lib.hid hlr; replace HB := Lib.hid (Kept2.low HB.out hk HMS.out (Nat.le_refl _) HML.out); clear hown hrf hlr hk; obtain ⟨a0, a1, a2, -⟩ := HL.out)
    | ((with_reducible refine (CW _ HR.out).out.mono ?_); rintro e w4 ⟨rfl, hg⟩; replace HO := Lib.hid (HO.out.other hg HMT.out); replace HB := Lib.hid (below_far HB.out hg (Nat.le_refl _) (Nat.le_of_lt HR.out.lt)); clear hg a0 a1 a2))
  clear C2 CW HL HR HMS HMT HML NML NLM
  rcases HWY.out with ⟨rfl, h⟩ | ⟨hE, h⟩
  · injection h with h h2
    subst h h2
    obtain rfl : N = N2 := HNN.out.symm.trans HN2.out.symm
    go_wp2_with fail
    go_ret2
    exact ⟨A3, c3, rfl, HO.out.rd, by rw [HM.out]; exact HB.out⟩
  · injection h with h h2
    subst h h2
    have hzb : (z == 0) = false := beq_eq_false_iff_ne.2 hE
    have hzb2 : (z != 0) = true := by rw [bne, hzb]; rfl
    obtain rfl : 0 = N := HNN.out
    go_wp2_with fail
    go_ret2
    exact ⟨none, 0, rfl, Kind.Rd.nil _ _, by rw [HM.out]; exact HB.out⟩
end Go.Proofs.Ytfpgklpnpplnnaa

namespace Go.Proofs.Ytfpgklpnpplnnaa
open Go.RowKit

theorem k_citem : CItemC 8 := fun x K r c k p d B hI _ =>
  ⟨fun hx N l hl hN w => icp_item x hx K r c k p d B hI N l hl hN w, fun hx w => icp_item_no x hx K r c k p d B hI w⟩
theorem k_csize : CSizeC 10 := fun x K r c k p d B hI _ =>
  ⟨fun hx N hN w => icp_size K r c k p d B N 0 (itemB x) (fun w => icp_item x hx K r c k p d B hI N _ rfl hN w) w, fun hx w => icp_size K r c k p d B 0 2 [] (fun w => icp_item_no x hx K r c k p d B hI w) w⟩
theorem k_citems : CItemsC 14 := fun A c n l hn hn9 _ =>
  ⟨fun hx N b hb hN w hr => (icp_items A c n l hn hn9 N b hb hN.symm w hr).mono fun e w' h => by
    rcases h with ⟨-, A', c', h1, h2, h3⟩ | ⟨h, -⟩
    · obtain ⟨A2, c2, hv, h4⟩ := h2.read_n hN.symm
      injection hv with i1 i2 i3
      subst i1 i3
      exact ⟨A', c', h1, h4, h3⟩
    · exact absurd hx h, fun hx w hr => (icp_items A c n l hn hn9 _ _ rfl rfl w hr).mono fun e w' h => by
    rcases h with ⟨h, -⟩ | ⟨-, h1, h2⟩
    · exact absurd h hx
    · exact ⟨none, 0, h1, rdB_nil _ _, h2⟩⟩
theorem k_cread : CReadC 11 := fun A c n b hn hn9 y z hs K r c' k p d B hI w hr => icp_readitem A c n b hn hn9 y z hs K r c' k p d B hI w hr
theorem k_creads : CReadsC 15 := fun A c n b hn hn9 y z hs N hN w hr => icp_readitems A c n b hn hn9 y z hs N hN w hr
end Go.Proofs.Ytfpgklpnpplnnaa
