/-
  Several texts in one: FcdA, FcdB, FcdC, FltC, SpanC, Region, FltD, FcdD, ItW, Gb, IcdB, IcdA.
-/
import Derived.Deep.RegionHeld3
import Derived.Deep.CutRange
import Derived.Test.YtfpgklpnpplnnaaMg6
namespace Go.Proofs.Ytfpgklpnpplnnaa
open Go.RowKit

set_option maxRecDepth 100000 in
set_option maxHeartbeats 1000000 in
theorem ref_vtext (s : List UInt8) (U : ByteArray) (hU : str s = U) (hs : s.length ≤ 1000000) (w : World) : Calls Try.prog 27 #[.string U] w (RetB w.heap.size w (txtB s)) := by
  subst hU
  have hsz : (str s).size = s.length := str_size s
  have hA : ∀ k, (h : k < (str s).size) → (str s)[k] = s.getD k 0 := fun k h => txt_at s k h
  obtain ⟨N, hN⟩ : ∃ N, s.length = N := ⟨_, rfl⟩
  rw [hN] at hsz hs
  have hb := fun w1 => Lib.hid (ref_bytes N N w1 (Nat.le_refl _) (by omega))
  have h9 := putV_len10 N (by omega)
  have HN := Lib.hid hN
  show Calls _ _ _ _ (RetB w.heap.size w (putV s.length ++ s))
  rw [hN]
  clear hN
  go_enter Try.func27, Try.ntmps27
  go_wp2_with ((with_reducible refine (hb _).out.mono ?_); rintro e w1 ⟨v1, rfl, hown1, hb1⟩; have HO1 := Lib.hid hown1; have HB1 := Lib.hid hb1; clear hown1 hb1)
  clear hb
  go_loopw [3, 4] (fun v i wr => ∃ k : Nat, k ≤ N ∧ i = .int .i64 k ∧ Hid (OwnB wr w.heap.size v (putV N ++ s.take k)) ∧ Hid (Below w.heap.size w wr)) (fun _ i _ => N - (intOf i).toNat)
  case atStart => exact ⟨0, by omega, rfl, by rw [List.take_zero, List.append_nil]; exact HO1, HB1⟩
  case round =>
    obtain ⟨k, hk, rfl, HO, HB⟩ := hrel
    by_cases hlt : k < N
    · have HS := Lib.hid (take_snoc_getD s k (by have := HN.out; omega))
      have hln : (s.take k).length ≤ k := by rw [List.length_take]; omega
      obtain ⟨c, hc⟩ : ∃ c, s.getD k 0 = c := ⟨_, rfl⟩
      rw [hc] at HS
      have hck := hA k (by omega)
      rw [hc] at hck
      obtain ⟨M, hM⟩ : ∃ M, putV N ++ s.take k = M := ⟨_, rfl⟩
      have hl1 : M.length + [c].length ≤ 140737488355328 := by rw [← hM, List.length_append, List.length_singleton]; omega
      have HL := Lib.hid hl1
      have HM := Lib.hid hM
      rw [hM] at HO
      have HR := Lib.hid (byte_row wr _ c rfl)
      clear hM hl1 hA hc hln h9
      go_wp2_with (at_builtin; refine wpList_app_row rfl (.tmp 14) (.tmp 18) rfl w.heap.size _ M rfl (HO.out.alloc _) _ _ 1 1 [c] rfl rfl HR.out HL.out (le_alloc HB.out.size _) ?_; intro v2 w2 hown2 _ hb2 _; have HO2 := Lib.hid hown2; have HB2 := Lib.hid ((HB.out.alloc HB.out.size _).trans hb2); clear hown2 hb2)
      go_roundw
      case rel => exact ⟨k + 1, by omega, by go_num, by rw [HS.out, ← List.append_assoc, HM.out]; exact HO2, HB2⟩
      case measure => simp [intOf]; omega
    · obtain rfl : k = N := by omega
      have HT := Lib.hid (show s.take k = s from List.take_of_length_le (by have := HN.out; omega))
      clear hA
      go_wp2_with fail
      go_ret
      exact ⟨_, rfl, by rw [← HT.out]; exact HO.out, HB.out⟩
end Go.Proofs.Ytfpgklpnpplnnaa

namespace Go.Proofs.Ytfpgklpnpplnnaa
open Go.RowKit

end Go.Proofs.Ytfpgklpnpplnnaa

namespace Go.Proofs.Ytfpgklpnpplnnaa
open Go.RowKit

end Go.Proofs.Ytfpgklpnpplnnaa

namespace Go.Proofs.Ytfpgklpnpplnnaa
open Go.RowKit

end Go.Proofs.Ytfpgklpnpplnnaa

namespace Go.Proofs.Ytfpgklpnpplnnaa
open Go.RowKit

end Go.Proofs.Ytfpgklpnpplnnaa

namespace Go.Proofs.Ytfpgklpnpplnnaa

section
variable {P : Program} {l : List Oper} {Q : Exit → Act → World → Prop} {md : Region.Mode} {S : World → Prop}

end
end Go.Proofs.Ytfpgklpnpplnnaa

namespace Go.Proofs.Ytfpgklpnpplnnaa
open Go.RowKit

end Go.Proofs.Ytfpgklpnpplnnaa

namespace Go.Proofs.Ytfpgklpnpplnnaa
open Go.RowKit

def RfQ (w : World) (m : Nat) (A : Option Addr) (N c : Nat) (b : List UInt8) (v : Value) (l : List UInt8) (e : Int) (x : Ending) (w' : World) : Prop :=
  x = .returned v ∧ ∃ a, a ≤ N ∧ l = b.drop a ∧ RfAt w' m A N c a e ∧ w.grownBy w' (some m)
theorem rf_within_q {w : World} {m B a N c : Nat} {A : Option Addr} {b l r : List UInt8} {e e2 : Int} {n : Nat} {lo hi : Int} (hN : N = b.length) (hw : withinR lo hi l e = (n, r, e2)) (hla : l = b.drop a) (h : RfAt w m A N c a e) (hr : RdB w B A c b) (ha : a ≤ N) (hl : N ≤ 1000000) :
    Calls Try.prog 51 #[.pointer (some ⟨m, 0, none⟩), .int .i64 lo, .int .i64 hi] w (RfQ w m A N c b (.int .i64 n) r e2) := by
  subst hN hla
  have := rf_within h hr ha lo hi hl
  rw [hw] at this
  exact this
theorem rf_text_q {w : World} {m B a N c : Nat} {A : Option Addr} {b l r s : List UInt8} {e e2 : Int} {S : ByteArray} {most : Int} (hN : N = b.length) (hw : textR most l e = (s, r, e2)) (hS : str s = S) (hla : l = b.drop a) (h : RfAt w m A N c a e) (hr : RdB w B A c b) (ha : a ≤ N) (hm : B ≤ m) (hl : N ≤ 1000000) :
    Calls Try.prog 34 #[.pointer (some ⟨m, 0, none⟩), .int .i64 most] w (RfQ w m A N c b (.string S) r e2) := by
  subst hN hla hS
  have := rf_text h hr ha hm most hl
  rw [hw] at this
  exact this
theorem rf_end_q {w : World} {m a N c : Nat} {A : Option Addr} {b l : List UInt8} {e x : Int} (hN : N = b.length) (hx : endR l e = x) (hla : l = b.drop a) (h : RfAt w m A N c a e) (ha : a ≤ N) :
    Calls Try.prog 36 #[.pointer (some ⟨m, 0, none⟩)] w (RfQ w m A N c b (.int .i64 x) l e) := by
  subst hN hla hx
  exact rf_end h ha
theorem RgAt.kept {w w' : World} {g m : Nat} {S T : ByteArray} {o : Bool} (h : RgAt w g S T o) (hg : w.grownBy w' (some m)) (hne : g ≠ m) : RgAt w' g S T o := by
  have hb := hg.block g h.lt (fun e => hne (by injection e))
  obtain ⟨h0, h1, h2, h3⟩ := h
  have hn : some g ≠ some m := fun e => hne (by injection e)
  exact ⟨hg.cell h0 hn, hg.cell h1 hn, hg.cell h2 hn, fun k => by
    have := h3 k
    unfold World.frozen? at this ⊢
    simp only [hb]
    exact this⟩
theorem RfAt.far {w : World} {m n c a g k : Nat} {A : Option Addr} {e : Int} (h : RfAt w m A n c a e) (hne : m ≠ g) (u : Value) : RfAt (w.setCell ⟨g, k, none⟩ u) m A n c a e := h.kept (grownBy_set _ _ _ _) (fun e => hne (by injection e))
end Go.Proofs.Ytfpgklpnpplnnaa

namespace Go.Proofs.Ytfpgklpnpplnnaa
open Go.RowKit

theorem gb_trans {a w w' : World} {r : Option Nat} (h : a.grownBy w r) (hg : w.grownBy w' r) : a.grownBy w' r :=
  ⟨hg.os.trans h.os, hg.tape.trans h.tape, hg.output.trans h.output, Nat.le_trans h.size hg.size, fun k hk hne => (hg.block k (Nat.lt_of_lt_of_le hk h.size) hne).trans (h.block k hk hne)⟩
def ItW (w : World) (g : Nat) (K : ByteArray) (r c k p : Int) (d : Bool) (B : ByteArray) : Prop := ItAt w g K r c k p d B ∧ ∀ k, w.frozen? ⟨g, k, none⟩ = false
theorem ItW.lt {w : World} {g : Nat} {K : ByteArray} {r c k p : Int} {d : Bool} {B : ByteArray} (h : ItW w g K r c k p d B) : g < w.heap.size := World.block_lt_of_cell? w _ h.1.1
theorem ItW.grown {w : World} {g : Nat} {K : ByteArray} {r c k p : Int} {d : Bool} {B : ByteArray} {w' : World} {row : Option Nat} (h : ItW w g K r c k p d B) (hg : w.grownBy w' row) (hne : some g ≠ row) : ItW w' g K r c k p d B := by
  obtain ⟨⟨h0, h1, h2, h3, h4, h5, h6⟩, h7⟩ := h
  have hl := World.block_lt_of_cell? w _ h0
  exact ⟨⟨hg.cell h0 hne, hg.cell h1 hne, hg.cell h2 hne, hg.cell h3 hne, hg.cell h4 hne, hg.cell h5 hne, hg.cell h6 hne⟩, fun k => (hg.frozen_far ⟨g, k, none⟩ hl hne).trans (h7 k)⟩
theorem ItW.other {w : World} {g : Nat} {K : ByteArray} {r c k p : Int} {d : Bool} {B : ByteArray} {g' j : Nat} {u : Value} (h : ItW w g K r c k p d B) (hne : g' ≠ g) : ItW (w.setCell ⟨g', j, none⟩ u) g K r c k p d B :=
  h.grown (grownBy_set _ _ _ _) (fun e => hne (by injection e with e; exact e.symm))
theorem itW_new (w : World) (K : ByteArray) (r c k p : Int) (d : Bool) (B : ByteArray) : ItW (w.alloc (itO K r c k p d B)) w.heap.size K r c k p d B := ⟨itAt_new w K r c k p d B, fun j => by
  have hb := heap_new w (itO K r c k p d B) _ rfl
  unfold World.frozen?; rw [hb]; simp⟩
theorem ItW.alloc {w : World} {g : Nat} {K : ByteArray} {r c k p : Int} {d : Bool} {B : ByteArray} (h : ItW w g K r c k p d B) (o : Obj) : ItW (w.alloc o) g K r c k p d B := h.grown (row := none) (grown_of_below (below_new w o) none) (by simp)
theorem ItW.set0 {w : World} {g : Nat} {K : ByteArray} {r c k p : Int} {d : Bool} {B : ByteArray} (h : ItW w g K r c k p d B) (X : ByteArray) : ItW (w.setCell ⟨g, 0, none⟩ (.string X)) g X r c k p d B := by
  obtain ⟨⟨h0, h1, h2, h3, h4, h5, h6⟩, h7⟩ := h
  exact ⟨⟨set_same h0 _, set_other h1 (addr_off (by decide)) _, set_other h2 (addr_off (by decide)) _, set_other h3 (addr_off (by decide)) _, set_other h4 (addr_off (by decide)) _, set_other h5 (addr_off (by decide)) _, set_other h6 (addr_off (by decide)) _⟩, fun j => by rw [World.frozen?_setCell]; exact h7 j⟩
theorem ItW.set1 {w : World} {g : Nat} {K : ByteArray} {r c k p : Int} {d : Bool} {B : ByteArray} (h : ItW w g K r c k p d B) (X : Int) : ItW (w.setCell ⟨g, 1, none⟩ (.int .i64 X)) g K X c k p d B := by
  obtain ⟨⟨h0, h1, h2, h3, h4, h5, h6⟩, h7⟩ := h
  exact ⟨⟨set_other h0 (addr_off (by decide)) _, set_same h1 _, set_other h2 (addr_off (by decide)) _, set_other h3 (addr_off (by decide)) _, set_other h4 (addr_off (by decide)) _, set_other h5 (addr_off (by decide)) _, set_other h6 (addr_off (by decide)) _⟩, fun j => by rw [World.frozen?_setCell]; exact h7 j⟩
theorem ItW.set2 {w : World} {g : Nat} {K : ByteArray} {r c k p : Int} {d : Bool} {B : ByteArray} (h : ItW w g K r c k p d B) (X : Int) : ItW (w.setCell ⟨g, 2, none⟩ (.int .i64 X)) g K r X k p d B := by
  obtain ⟨⟨h0, h1, h2, h3, h4, h5, h6⟩, h7⟩ := h
  exact ⟨⟨set_other h0 (addr_off (by decide)) _, set_other h1 (addr_off (by decide)) _, set_same h2 _, set_other h3 (addr_off (by decide)) _, set_other h4 (addr_off (by decide)) _, set_other h5 (addr_off (by decide)) _, set_other h6 (addr_off (by decide)) _⟩, fun j => by rw [World.frozen?_setCell]; exact h7 j⟩
theorem ItW.set3 {w : World} {g : Nat} {K : ByteArray} {r c k p : Int} {d : Bool} {B : ByteArray} (h : ItW w g K r c k p d B) (X : Int) : ItW (w.setCell ⟨g, 3, none⟩ (.int .i64 X)) g K r c X p d B := by
  obtain ⟨⟨h0, h1, h2, h3, h4, h5, h6⟩, h7⟩ := h
  exact ⟨⟨set_other h0 (addr_off (by decide)) _, set_other h1 (addr_off (by decide)) _, set_other h2 (addr_off (by decide)) _, set_same h3 _, set_other h4 (addr_off (by decide)) _, set_other h5 (addr_off (by decide)) _, set_other h6 (addr_off (by decide)) _⟩, fun j => by rw [World.frozen?_setCell]; exact h7 j⟩
theorem ItW.set4 {w : World} {g : Nat} {K : ByteArray} {r c k p : Int} {d : Bool} {B : ByteArray} (h : ItW w g K r c k p d B) (X : Int) : ItW (w.setCell ⟨g, 4, none⟩ (.int .i64 X)) g K r c k X d B := by
  obtain ⟨⟨h0, h1, h2, h3, h4, h5, h6⟩, h7⟩ := h
  exact ⟨⟨set_other h0 (addr_off (by decide)) _, set_other h1 (addr_off (by decide)) _, set_other h2 (addr_off (by decide)) _, set_other h3 (addr_off (by decide)) _, set_same h4 _, set_other h5 (addr_off (by decide)) _, set_other h6 (addr_off (by decide)) _⟩, fun j => by rw [World.frozen?_setCell]; exact h7 j⟩
theorem ItW.set5 {w : World} {g : Nat} {K : ByteArray} {r c k p : Int} {d : Bool} {B : ByteArray} (h : ItW w g K r c k p d B) (X : Bool) : ItW (w.setCell ⟨g, 5, none⟩ (.bool X)) g K r c k p X B := by
  obtain ⟨⟨h0, h1, h2, h3, h4, h5, h6⟩, h7⟩ := h
  exact ⟨⟨set_other h0 (addr_off (by decide)) _, set_other h1 (addr_off (by decide)) _, set_other h2 (addr_off (by decide)) _, set_other h3 (addr_off (by decide)) _, set_other h4 (addr_off (by decide)) _, set_same h5 _, set_other h6 (addr_off (by decide)) _⟩, fun j => by rw [World.frozen?_setCell]; exact h7 j⟩
theorem ItW.set6 {w : World} {g : Nat} {K : ByteArray} {r c k p : Int} {d : Bool} {B : ByteArray} (h : ItW w g K r c k p d B) (X : ByteArray) : ItW (w.setCell ⟨g, 6, none⟩ (.string X)) g K r c k p d X := by
  obtain ⟨⟨h0, h1, h2, h3, h4, h5, h6⟩, h7⟩ := h
  exact ⟨⟨set_other h0 (addr_off (by decide)) _, set_other h1 (addr_off (by decide)) _, set_other h2 (addr_off (by decide)) _, set_other h3 (addr_off (by decide)) _, set_other h4 (addr_off (by decide)) _, set_other h5 (addr_off (by decide)) _, set_same h6 _⟩, fun j => by rw [World.frozen?_setCell]; exact h7 j⟩
end Go.Proofs.Ytfpgklpnpplnnaa

namespace Go.Proofs.Ytfpgklpnpplnnaa
open Go.RowKit

theorem gb_below {a w w' : World} {r : Option Nat} {B : Nat} (h : a.grownBy w r) (hb : Below B w w') (hB : a.heap.size ≤ B) : a.grownBy w' r :=
  ⟨hb.os.trans h.os, hb.tape.trans h.tape, hb.output.trans h.output, Nat.le_trans h.size hb.size, fun k hk hne => (hb.block k (Nat.lt_of_lt_of_le hk hB)).trans (h.block k hk hne)⟩
theorem gb_set {a w : World} {r : Option Nat} {g k : Nat} (h : a.grownBy w r) (hg : a.heap.size ≤ g) (u : Value) : a.grownBy (w.setCell ⟨g, k, none⟩ u) r :=
  gb_below h ((Below.refl a.heap.size w).setCell (p := ⟨g, k, none⟩) hg u) (Nat.le_refl _)
theorem gb_alloc {a w : World} {r : Option Nat} (h : a.grownBy w r) (o : Obj) : a.grownBy (w.alloc o) r := gb_below h (below_new w o) h.size
theorem gb_drew {a w : World} {r : Option Nat} (h : a.grownBy w r) : a.grownBy w.drew r := ⟨h.os, h.tape, h.output, h.size, h.block⟩
theorem gb_of_drew {w w' : World} {r : Option Nat} (h : w.drew.grownBy w' r) : w.grownBy w' r := ⟨h.os, h.tape, h.output, h.size, h.block⟩
theorem gb_refl (a : World) (r : Option Nat) : a.grownBy a r := ⟨rfl, rfl, rfl, Nat.le_refl _, fun _ _ _ => rfl⟩
theorem RfAt.under {w w' : World} {m n c a B : Nat} {A : Option Addr} {e : Int} (h : RfAt w m A n c a e) (hb : Below B w w') (hm : m < B) : RfAt w' m A n c a e := (hb.block m hm).trans h
theorem withinR_hi {lo hi : Int} {l r : List UInt8} {e e2 : Int} {n : Nat} (h0 : 0 ≤ hi) (h : withinR lo hi l e = (n, r, e2)) : (n : Int) ≤ hi := by
  unfold withinR at h
  split at h
  · injection h with h _; subst h; exact h0
  · rename_i hc
    rw [h] at hc
    simp only at hc
    omega
end Go.Proofs.Ytfpgklpnpplnnaa



namespace Go.Proofs.Ytfpgklpnpplnnaa
open Go.RowKit

set_option maxHeartbeats 400000 in
theorem ref_ialike_x (a b : List UInt8) (ha : a.length ≤ 9223372036854775807) (w : World) : Calls Try.prog 33 #[.string (str a), .string (str b)] w fun e w' => e = .returned (.int .i64 (alikeN a b : Nat)) ∧ ∃ n, w' = w.drewN n := by
  have hza : (str a).size = a.length := str_size a
  have hzb : (str b).size = b.length := str_size b
  have hA : ∀ k, (h : k < (str a).size) → (str a)[k] = a.getD k 0 := fun k h => txt_at a k h
  have hB : ∀ k, (h : k < (str b).size) → (str b)[k] = b.getD k 0 := fun k h => txt_at b k h
  generalize str a = S at hza hA ⊢
  generalize str b = T at hzb hB ⊢
  have HA := Lib.hid hA
  have HB := Lib.hid hB
  have HZA := Lib.hid hza
  have HZB := Lib.hid hzb
  have hmx : S.size ≤ 9223372036854775807 := by omega
  clear hA hB hza hzb
  go_enter Try.func33, Try.ntmps33
  go_wp2_with fail
  go_loopw [5] (fun i wr => ∃ k m : Nat, k ≤ S.size ∧ k ≤ T.size ∧ Hid (a.take k = b.take k) ∧ i = .int .i64 k ∧ wr = w.drewN m) (fun i _ => S.size - (intOf i).toNat)
  case atStart => exact ⟨0, 0, by omega, by omega, rfl, rfl, rfl⟩
  case round =>
    obtain ⟨k, m, hk, hk2, HL, rfl, rfl⟩ := hrel
    have HP := fun h4 => Lib.hid (alike_post HZA.out HZB.out hk hk2 HL.out h4)
    by_cases hlt : k < S.size
    · have d1 : decide ((k : Int) < (S.size : Int)) = true := by simpa using hlt
      by_cases hlt2 : k < T.size
      · have d2 : decide ((k : Int) < (T.size : Int)) = true := by simpa using hlt2
        have c1 := HA.out k hlt
        have c2 := HB.out k hlt2
        have HS := fun (h : a.getD k 0 = b.getD k 0) => Lib.hid (show a.take (k + 1) = b.take (k + 1) by rw [take_succ_getD (t := a) (by have := HZA.out; omega), take_succ_getD (t := b) (by have := HZB.out; omega), HL.out, h])
        obtain ⟨x, hx⟩ : ∃ x, a.getD k 0 = x := ⟨_, rfl⟩
        obtain ⟨y, hy⟩ : ∃ y, b.getD k 0 = y := ⟨_, rfl⟩
        rw [hx] at c1 HP HS
        rw [hy] at c2 HP HS
        clear hx hy
        by_cases hxy : x = y
        · subst hxy
          have HN := HS rfl
          clear HS HP
          go_wp2_with fail
          go_quiet (fail)
          go_wp2_with fail
          go_roundw
          case rel => exact ⟨k + 1, _, by omega, by omega, HN, by go_num, rfl⟩
          case measure => simp [intOf]; omega
        · have hxy' := int_eq_false hxy
          have HN := HP fun _ _ => hxy
          clear HS HP hxy
          go_wp2_with fail
          go_quiet (fail)
          go_wp2_with fail
          go_ret
          exact ⟨ret_int HN.out, drewN2 _ _ _⟩
      · have d2 : decide ((k : Int) < (T.size : Int)) = false := by simpa using hlt2
        have HN := HP fun _ h => absurd h hlt2
        clear HP
        go_wp2_with fail
        go_quiet (fail)
        go_wp2_with fail
        go_ret
        exact ⟨ret_int HN.out, drewN2 _ _ _⟩
    · have d1 : decide ((k : Int) < (S.size : Int)) = false := by simpa using hlt
      have HN := HP fun h _ => absurd h hlt
      clear HP
      go_wp2_with fail
      go_quiet (fail)
      go_wp2_with fail
      go_ret
      exact ⟨ret_int HN.out, drewN2 _ _ _⟩
theorem ref_ialike (a b : List UInt8) (S T : ByteArray) (hS : str a = S) (hT : str b = T) (ha : a.length ≤ 1000000) (n : Nat) (hn : alikeN a b = n) (w : World) : Calls Try.prog 33 #[.string S, .string T] w fun e w' => e = .returned (.int .i64 (n : Int)) ∧ Below w.heap.size w w' := by
  subst hS hT hn
  exact (ref_ialike_x a b (by omega) w).mono fun e w' ⟨h1, _, h2⟩ => ⟨h1, h2 ▸ below_drewN (Below.refl _ _) _⟩
theorem textR_hi {m : Nat} {l s r : List UInt8} {e e2 : Int} (h : textR (m : Int) l e = (s, r, e2)) : s.length ≤ m := by
  obtain ⟨n, q, x, hw⟩ : ∃ n q x, withinR 0 (m : Int) l e = (n, q, x) := ⟨_, _, _, rfl⟩
  unfold textR at h
  rw [hw] at h
  simp only at h
  have hn : (n : Int) ≤ m := by
    unfold withinR at hw
    split at hw
    · injection hw with hw _; omega
    · rename_i hc
      rw [hw] at hc
      simp only at hc
      omega
  split at h
  · injection h with h _; subst h; simp
  · injection h with h _; subst h; rw [List.length_take]; omega
theorem listR_round {n k s : Nat} {was t key l q1 q2 q3 : List UInt8} {x1 x2 x3 : Int} {y : Itm} {v z : Bool} {al : Nat} (h : k < n) (h1 : withinR 0 (was.length : Int) l 0 = (s, q1, x1)) (h2 : textR 16 q1 x1 = (t, q2, x2)) (hk : was.take s ++ t = key) (h3 : moreR key q2 x2 = (y, q3, x3)) (hv : rightI y = v) (ha : alikeN was key = al) (hz : decide (al = s) = z) :
    listR (n - k) was l 0 = ((y :: (listR (n - (k + 1)) key q3 x3).1.1, (v && z) && (listR (n - (k + 1)) key q3 x3).1.2), (listR (n - (k + 1)) key q3 x3).2) := by
  rw [show n - k = (n - (k + 1)) + 1 by omega, listR, if_pos rfl, h1]
  simp only
  rw [h2]
  simp only
  rw [hk, h3]
  simp only
  rw [hv, ha, hz]
theorem listR_end (n : Nat) (was l : List UInt8) {e : Int} (h : n = 0 ∨ e ≠ 0) : listR n was l e = (([], true), l, e) := by
  cases n with
  | zero => rfl
  | succ n =>
    rw [listR, if_neg]
    rcases h with h | h
    · omega
    · exact h
end Go.Proofs.Ytfpgklpnpplnnaa
