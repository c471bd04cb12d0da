/-
  Several texts in one: RgsK, FtpA, IdxA, IdxB, IdxC, FtpB, NdAt, FltG, FltM, FltN, FtpC, FtpD.
-/
import Derived.Laws.RangeAny
import Derived.Laws.Runes
import Derived.Laws.Strings3
import Derived.Deep.LoopGhost
import Derived.WalkMore
import Derived.BigQuiet
import Derived.Lib.OthersKept
import Derived.Lib.AppendZeros
import Derived.Deep.RegionLaw
import Derived.Deep.CutRange
import Derived.Deep.CutBlock
import Derived.Test.YthgcbomidamcfaaDoorMg6
/-
  Layer 8 (ranges), the program: a list that is not swept yet.
-/
namespace Go.Proofs.YthgcbomidamcfaaDoor
open Go.RowKit

theorem RgAt.grown {w w' : World} {row : Option Nat} {g : Nat} {S T : ByteArray} {o : Bool} (h : RgAt w g S T o) (hg : w.grownBy w' row) (hne : some g ≠ row) : RgAt w' g S T o :=
  ⟨hg.cell h.1 hne, hg.cell h.2.1 hne, hg.cell h.2.2.1 hne, fun k => (hg.frozen_far ⟨g, k, none⟩ h.lt hne).trans (h.2.2.2 k)⟩
/-- While a list's edges are gathered: s in the second block of the call, what is handed back in the first one, the list's row as it was. -/
structure BegAt (w w1 : World) (g1 : Nat) (W : World) (v : Value) (L : List (List UInt8)) : Prop where
  s0 : W.cell? ⟨w.heap.size + 1, 0, none⟩ = some (.bool false)
  s1 : W.cell? ⟨w.heap.size + 1, 1, none⟩ = some v
  sf : ∀ j, W.frozen? ⟨w.heap.size + 1, j, none⟩ = false
  r0 : W.cell? ⟨w.heap.size, 0, none⟩ = some (.bool false)
  r1 : W.cell? ⟨w.heap.size, 1, none⟩ = some (.slice none 0 0)
  rf : ∀ j, W.frozen? ⟨w.heap.size, j, none⟩ = false
  own : kStr.Own W w1.heap.size v L
  same : ∀ j, W.cell? ⟨g1, j, none⟩ = w1.cell? ⟨g1, j, none⟩
  below : Below w.heap.size w W
  size : w1.heap.size ≤ W.heap.size
theorem BegAt.alloc {w w1 W : World} {g1 : Nat} {v : Value} {L : List (List UInt8)} (h : BegAt w w1 g1 W v L) (h2 : w.heap.size + 2 ≤ w1.heap.size) (h3 : g1 < w1.heap.size) (x : Obj) : BegAt w w1 g1 (W.alloc x) v L := by
  have hz := h.size
  obtain ⟨kc, kf⟩ := bcell (below_new W x)
  exact ⟨(kc _ _ (by omega)).trans h.s0, (kc _ _ (by omega)).trans h.s1, fun j => (kf _ _ (by omega)).trans (h.sf j), (kc _ _ (by omega)).trans h.r0, (kc _ _ (by omega)).trans h.r1, fun j => (kf _ _ (by omega)).trans (h.rf j), h.own.alloc x, fun j => (kc _ _ (by omega)).trans (h.same j), h.below.alloc h.below.size x, le_alloc hz x⟩
theorem BegAt.app {w w1 W W' : World} {g1 : Nat} {v v' : Value} {L L' : List (List UInt8)} (h : BegAt w w1 g1 W v L) (h2 : w.heap.size + 2 ≤ w1.heap.size) (h3 : g1 < w1.heap.size) (h4 : g1 ≠ w.heap.size + 1) (ho : kStr.Own W' w1.heap.size v' L') (hb : Below w1.heap.size W W') :
    BegAt w w1 g1 (W'.setCell ⟨w.heap.size + 1, 1, none⟩ v') v' L' := by
  obtain ⟨kc, kf⟩ := bcell hb
  have fr : ∀ p, (W'.setCell ⟨w.heap.size + 1, 1, none⟩ v').frozen? p = W'.frozen? p := fun p => by rw [World.frozen?_setCell]
  refine ⟨set_other ((kc _ _ (by omega)).trans h.s0) (addr_off (by decide)) _, set_same ((kc _ _ (by omega)).trans h.s1) _, fun j => (fr _).trans ((kf _ _ (by omega)).trans (h.sf j)), set_other ((kc _ _ (by omega)).trans h.r0) (addr_block (by omega)) _, set_other ((kc _ _ (by omega)).trans h.r1) (addr_block (by omega)) _,
    fun j => (fr _).trans ((kf _ _ (by omega)).trans (h.rf j)), ho.other (grownBy_set _ _ _ _) (by omega), fun j => (World.cell?_setCell_other _ _ _ _ (addr_block (Ne.symm h4))).trans ((kc _ _ h3).trans (h.same j)), ?_, ?_⟩
  · exact (h.below.trans (hb.mono (by omega))).setCell (p := ⟨w.heap.size + 1, 1, none⟩) (Nat.le_succ _) _
  · have h5 := hb.size
    have h6 := h.size
    have : (W'.setCell ⟨w.heap.size + 1, 1, none⟩ v').heap.size = W'.heap.size := by simp
    omega
theorem edgesR_next {m : List Rng} {k : Nat} {r : Rng} (h : m[k]? = some r) : edgesR (m.take (k + 1)) = edgesR (m.take k) ++ (match r.op with | true => [r.lo] | false => [r.lo, r.hi]) := by
  have e : edgesR [r] = (match r.op with | true => [r.lo] | false => [r.lo, r.hi]) := by cases ho : r.op <;> simp [edgesR, ho]
  rw [List.take_add_one, h, edgesR_append]
  exact congrArg _ e
theorem row_new1 (w : World) (x : Obj) (s : List UInt8) (S : ByteArray) (hS : str s = S) : RowAt ((w.alloc x).alloc (.cells #[.string S] 9)) (w.heap.size + 1 + 1) (some ⟨w.heap.size + 1, 0, none⟩) (kStr.row [s]) := by
  subst hS
  have := (Kind.rd_new (k := kStr) (w := w.alloc x) (cs := #[.string (str s)]) (l := [s]) (t := 9) (n := 1) rfl rfl (by simp)).row
  rwa [size1] at this
theorem row_newS (w : World) (p : Addr) (v : Value) (s : List UInt8) (S : ByteArray) (hS : str s = S) : RowAt ((w.setCell p v).alloc (.cells #[.string S] 9)) (w.heap.size + 1) (some ⟨w.heap.size, 0, none⟩) (kStr.row [s]) := by
  subst hS
  have := (Kind.rd_new (k := kStr) (w := w.setCell p v) (cs := #[.string (str s)]) (l := [s]) (t := 9) (n := 1) rfl rfl (by simp)).row
  rwa [show (w.setCell p v).heap.size = w.heap.size from by simp] at this
end Go.Proofs.YthgcbomidamcfaaDoor

/-
  Layer 11 (ftext), the program: the reader's state in its block; fail, whole, take, must.
-/
namespace Go.Proofs.YthgcbomidamcfaaDoor
open Go.RowKit

/-- The reader's state lies in block b, its nodes behind it. -/
structure PsAt (b : Nat) (s : Ps) (v : Value) (W : World) : Prop where
  r0 : W.cell? ⟨b, 0, none⟩ = some (.string (str s.rest))
  r1 : W.cell? ⟨b, 1, none⟩ = some (.bool s.wrong)
  r2 : W.cell? ⟨b, 2, none⟩ = some v
  r3 : W.cell? ⟨b, 3, none⟩ = some (.int .i64 ((32 - s.left : Nat) : Int))
  free : ∀ j, W.frozen? ⟨b, j, none⟩ = false
  own : kNd.Own W (b + 1) v s.nodes
theorem PsAt.lt {b : Nat} {s : Ps} {v : Value} {W : World} (h : PsAt b s v W) : b < W.heap.size := by
  rcases Nat.lt_or_ge b W.heap.size with hlt | hge
  · exact hlt
  · have h := h.r0
    simp [World.cell?, Array.getElem?_eq_none hge] at h
theorem PsAt.below {b : Nat} {s : Ps} {v : Value} {w w' : World} (h : PsAt b s v w) (hb : Below w.heap.size w w') : PsAt b s v w' := by
  obtain ⟨kc, kf⟩ := bcell hb
  have hl := h.lt
  exact ⟨(kc _ _ hl).trans h.r0, (kc _ _ hl).trans h.r1, (kc _ _ hl).trans h.r2, (kc _ _ hl).trans h.r3, fun j => (kf _ _ hl).trans (h.free j), h.own.below hb⟩
theorem PsAt.set0 {b : Nat} {s : Ps} {v : Value} {w : World} (h : PsAt b s v w) (r : List UInt8) {R : ByteArray} (hR : str r = R) : PsAt b ⟨r, s.wrong, s.nodes, s.left⟩ v (w.setCell ⟨b, 0, none⟩ (.string R)) := by
  subst hR
  exact ⟨set_same h.r0 _, set_other h.r1 (addr_off (by decide)) _, set_other h.r2 (addr_off (by decide)) _, set_other h.r3 (addr_off (by decide)) _, fun j => by rw [World.frozen?_setCell]; exact h.free j, h.own.other (grownBy_set _ _ _ _) (Nat.lt_succ_self _)⟩
theorem PsAt.set1 {b : Nat} {s : Ps} {v : Value} {w : World} (h : PsAt b s v w) (x : Bool) : PsAt b ⟨s.rest, x, s.nodes, s.left⟩ v (w.setCell ⟨b, 1, none⟩ (.bool x)) :=
  ⟨set_other h.r0 (addr_off (by decide)) _, set_same h.r1 _, set_other h.r2 (addr_off (by decide)) _, set_other h.r3 (addr_off (by decide)) _, fun j => by rw [World.frozen?_setCell]; exact h.free j, h.own.other (grownBy_set _ _ _ _) (Nat.lt_succ_self _)⟩
theorem PsAt.set3 {b : Nat} {s : Ps} {v : Value} {w : World} (h : PsAt b s v w) (L : Nat) {x : Int} (hx : x = ((32 - L : Nat) : Int)) : PsAt b ⟨s.rest, s.wrong, s.nodes, L⟩ v (w.setCell ⟨b, 3, none⟩ (.int .i64 x)) := by
  subst hx
  exact ⟨set_other h.r0 (addr_off (by decide)) _, set_other h.r1 (addr_off (by decide)) _, set_other h.r2 (addr_off (by decide)) _, set_same h.r3 _, fun j => by rw [World.frozen?_setCell]; exact h.free j, h.own.other (grownBy_set _ _ _ _) (Nat.lt_succ_self _)⟩
/-- What a step of the reader turns: its block, its nodes' row; what else stood is as it was. -/
structure Turn (b : Nat) (v v' : Value) (w w' : World) : Prop where
  below : Below b w w'
  keep : ∀ j, j < w.heap.size → j ≠ b → v.ownBlock ≠ some j → w'.heap[j]? = w.heap[j]?
  own : ∀ g, v'.ownBlock = some g → v.ownBlock = some g ∨ w.heap.size ≤ g
theorem Turn.refl (b : Nat) (v : Value) (w : World) : Turn b v v w w := ⟨Below.refl _ _, fun _ _ _ _ => rfl, fun _ h => .inl h⟩
theorem Turn.trans {b : Nat} {v1 v2 v3 : Value} {w1 w2 w3 : World} (h : Turn b v1 v2 w1 w2) (k : Turn b v2 v3 w2 w3) : Turn b v1 v3 w1 w3 := by
  refine ⟨h.below.trans k.below, fun j hj hb hv => ?_, fun g hg => ?_⟩
  · refine (k.keep j (Nat.lt_of_lt_of_le hj h.below.size) hb fun e => ?_).trans (h.keep j hj hb hv)
    rcases h.own j e with h1 | h1
    · exact hv h1
    · omega
  · rcases k.own g hg with h1 | h1
    · exact h.own g h1
    · exact .inr (Nat.le_trans h.below.size h1)
theorem Turn.of_below {b : Nat} {v : Value} {w w' : World} (hb : Below w.heap.size w w') (hl : b < w.heap.size) : Turn b v v w w' :=
  ⟨hb.mono (Nat.le_of_lt hl), fun j hj _ _ => hb.block j hj, fun _ h => .inl h⟩
theorem set_turn {w : World} {b k : Nat} {x v : Value} : Turn b v v w (w.setCell ⟨b, k, none⟩ x) :=
  ⟨(Below.refl b w).setCell (p := ⟨b, k, none⟩) (Nat.le_refl _) x, fun j hj hb _ => (grownBy_set w b k x).block j hj (fun e => hb (by injection e)), fun _ h => .inl h⟩

set_option maxHeartbeats 1000000 in
theorem ftx_fail (b : Nat) (s : Ps) (v : Value) (w : World) (h : PsAt b s v w) :
    Calls Tryd.prog 22 #[.pointer (some ⟨b, 0, none⟩)] w fun e w' => e = .returned (.tuple #[]) ∧ PsAt b (failP s) v w' ∧ Turn b v v w w' := by
  have H := Lib.hid ((h.set0 [] (R := ⟨#[]⟩) rfl).set1 true)
  have HB := Lib.hid ((set_turn (w := w) (b := b) (v := v) (k := 0) (x := .string ⟨#[]⟩)).trans (set_turn (k := 1) (x := .bool true)))
  obtain ⟨r0, r1, r2, r3, rf, -⟩ := h
  go_enter Tryd.func22, Tryd.ntmps22
  go_wp2
  go_end0
  exact ⟨rfl, H.out, HB.out⟩
set_option maxHeartbeats 1000000 in
theorem ftx_whole (b : Nat) (s : Ps) (v : Value) (x : Bool) (hx : (s.rest.isEmpty && !s.wrong) = x) (w : World) (h : PsAt b s v w) :
    Calls Tryd.prog 16 #[.pointer (some ⟨b, 0, none⟩)] w fun e w' => e = .returned (.bool x) ∧ w = w' := by
  obtain ⟨r0, r1, r2, r3, rf, -⟩ := h
  obtain ⟨S, hS⟩ : ∃ S, str s.rest = S := ⟨_, rfl⟩
  have h1 : S.toList.isEmpty = s.rest.isEmpty := by rw [← hS, str_toList]
  rw [hS] at r0
  obtain ⟨y, hy⟩ : ∃ y, s.rest.isEmpty = y := ⟨_, rfl⟩
  rw [hy] at h1 hx
  obtain ⟨z, hz⟩ : ∃ z, s.wrong = z := ⟨_, rfl⟩
  rw [hz] at r1 hx
  subst hx
  clear hS hy hz
  cases y <;> cases z
  all_goals
    go_enter Tryd.func16, Tryd.ntmps16
    go_wp2
    go_ret
    exact ⟨rfl, rfl⟩
/-- What take does: it goes on behind the sign, if it stands there. -/
def takeP (c : UInt8) (s : Ps) : Ps := match s.rest with
  | [] => s
  | d :: q => if d = c then ⟨q, s.wrong, s.nodes, s.left⟩ else s
def takesP (c : UInt8) (s : Ps) : Bool := s.rest.head? == some c
theorem take_rest (c : UInt8) (s : Ps) : Lib.trimPrefix s.rest [c] = (takeP c s).rest ∧ Lib.hasPrefix s.rest [c] = takesP c s ∧ takeP c s = ⟨(takeP c s).rest, s.wrong, s.nodes, s.left⟩ := by
  obtain ⟨r, x, n, l⟩ := s
  cases r with
  | nil => exact ⟨rfl, rfl, rfl⟩
  | cons d q =>
    by_cases h : d = c
    · subst h
      have e1 : Lib.hasPrefix (d :: q) [d] = true := by simp [Lib.hasPrefix]
      refine ⟨?_, ?_, ?_⟩
      · simp [Lib.trimPrefix, e1, takeP]
      · simp [e1, takesP]
      · simp [takeP]
    · have e1 : Lib.hasPrefix (d :: q) [c] = false := by simp [Lib.hasPrefix, List.isPrefixOf, Ne.symm h]
      refine ⟨?_, ?_, ?_⟩
      · simp [Lib.trimPrefix, e1, takeP, h]
      · simp [e1, takesP, h]
      · simp [takeP, h]
theorem must_take (c : UInt8) (s : Ps) : (takesP c s = true → mustP c s = takeP c s) ∧ (takesP c s = false → mustP c s = failP s ∧ takeP c s = s) := by
  unfold takesP mustP takeP
  cases s.rest with
  | nil => exact ⟨fun h => (by cases h), fun _ => ⟨rfl, rfl⟩⟩
  | cons d q =>
    by_cases h : d = c
    · subst h; simp
    · simp [h]
set_option maxHeartbeats 1000000 in
theorem ftx_take (b : Nat) (s : Ps) (v : Value) (c : UInt8) (C : ByteArray) (hC : str [c] = C) (x : Bool) (hx : takesP c s = x) (w : World) (h : PsAt b s v w) :
    Calls Tryd.prog 38 #[.pointer (some ⟨b, 0, none⟩), .string C] w fun e w' => e = .returned (.bool x) ∧ PsAt b (takeP c s) v w' ∧ Turn b v v w w' := by
  obtain ⟨h1, h2, h3⟩ := take_rest c s
  obtain ⟨R, hR⟩ : ∃ R, str (takeP c s).rest = R := ⟨_, rfl⟩
  have H := Lib.hid (h.set0 (takeP c s).rest hR)
  rw [← h3] at H
  have HB := Lib.hid (set_turn (w := w) (b := b) (v := v) (k := 0) (x := .string R))
  have K : ∀ S, str s.rest = S → ∀ w, Calls Tryd.prog 53 #[.string S, .string C] w fun e w' => e = .returned (.tuple #[.string R, .bool x]) ∧ w' = w := by
    rintro S rfl w
    have := Tryd.strings_CutPrefix (str s.rest) C w
    subst hC
    rw [show (str s.rest).data.toList = s.rest from rfl, show (str [c]).data.toList = [c] from rfl, h1, h2, hx] at this
    subst hR
    exact this
  have K := fun S hS w => Lib.hid (K S hS w)
  obtain ⟨r0, r1, r2, r3, rf, -⟩ := h
  obtain ⟨S, hS⟩ : ∃ S, str s.rest = S := ⟨_, rfl⟩
  rw [hS] at r0
  have K := K S hS
  clear h1 h2 h3 hR hx hS
  go_enter Tryd.func38, Tryd.ntmps38
  go_wp2_with ((with_reducible refine (K _).out.mono ?_); rintro e w9 ⟨rfl, rfl⟩)
  go_ret
  exact ⟨rfl, H.out, HB.out⟩
set_option maxHeartbeats 1000000 in
theorem ftx_must (b : Nat) (s : Ps) (v : Value) (c : UInt8) (C : ByteArray) (hC : str [c] = C) (w : World) (h : PsAt b s v w) :
    Calls Tryd.prog 25 #[.pointer (some ⟨b, 0, none⟩), .string C] w fun e w' => e = .returned (.tuple #[]) ∧ PsAt b (mustP c s) v w' ∧ Turn b v v w w' := by
  obtain ⟨x, hx⟩ : ∃ x, takesP c s = x := ⟨_, rfl⟩
  have T := Lib.hid (ftx_take b s v c C hC x hx w h)
  have F := fun w9 (h9 : PsAt b (takeP c s) v w9) => Lib.hid (ftx_fail b _ v w9 h9)
  obtain ⟨m1, m2⟩ := must_take c s
  cases x
  · obtain ⟨e1, e2⟩ := m2 hx
    rw [e1]
    rw [e2] at F T
    clear m1 m2 hx h e1 e2
    go_enter Tryd.func25, Tryd.ntmps25
    go_wp2_with (first
      | ((with_reducible refine T.out.mono ?_); rintro e w9 ⟨rfl, hp, hq⟩; have HP := Lib.hid hp; have HQ := Lib.hid hq; clear hp hq)
      | ((with_reducible refine (F _ HP.out).out.mono ?_); rintro e w8 ⟨rfl, hp, hq⟩; replace HP := Lib.hid hp; replace HQ := Lib.hid (HQ.out.trans hq); clear hp hq))
    go_end0
    exact ⟨rfl, HP.out, HQ.out⟩
  · rw [m1 hx]
    clear m1 m2 hx h F
    go_enter Tryd.func25, Tryd.ntmps25
    go_wp2_with ((with_reducible refine T.out.mono ?_); rintro e w9 ⟨rfl, hp, hq⟩; have HP := Lib.hid hp; have HQ := Lib.hid hq; clear hp hq)
    go_end0
    exact ⟨rfl, HP.out, HQ.out⟩
end Go.Proofs.YthgcbomidamcfaaDoor

/-
  strings.IndexAny over any text, short ones with bytes of 128 and more too, for the three signs of layer 11.
-/

namespace Go.Proofs.YthgcbomidamcfaaDoor
open Go.RowKit

/-! ### Runes -/
theorem get_bang (s : ByteArray) (i : Nat) (h : i < s.size) : s.get! i = s[i]'h := by
  simp [ByteArray.get!, getElem!_pos, h]
  rfl
/-- A rune that a byte of 128 or more begins: its bytes are all so. -/
theorem decode_bytes (s : ByteArray) (pos : Nat) (h : pos < s.size) (ha : 128 ≤ (s[pos]'h).toNat) :
    pos + (Utf8.decode s pos).2 ≤ s.size ∧ ∀ j, j < (Utf8.decode s pos).2 → ∃ hj : pos + j < s.size, 128 ≤ (s[pos + j]'hj).toNat := by
  have hn : ¬ (s[pos]'h).toNat < 128 := by omega
  have one : pos + 1 ≤ s.size ∧ ∀ j, j < 1 → ∃ hj : pos + j < s.size, 128 ≤ (s[pos + j]'hj).toNat := by
    refine ⟨h, fun j hj => ?_⟩
    obtain rfl : j = 0 := by omega
    exact ⟨h, ha⟩
  have up : ∀ k, (decide (pos + k < s.size) && (s.get! (pos + k)).toNat / 64 == 2) = true → ∃ hj : pos + k < s.size, 128 ≤ (s[pos + k]'hj).toNat := fun k hk => by
    rw [Bool.and_eq_true, decide_eq_true_eq, beq_iff_eq] at hk
    refine ⟨hk.1, ?_⟩
    rw [get_bang s _ hk.1] at hk
    omega
  simp only [Utf8.decode, get_at s pos h, hn, if_false]
  split
  · rename_i h1
    rw [Bool.and_eq_true] at h1
    obtain ⟨u1, v1⟩ := up 1 h1.2
    split
    · refine ⟨by simp only; omega, fun j hj => ?_⟩
      simp only at hj
      have : j = 0 ∨ j = 1 := by omega
      rcases this with rfl | rfl
      · exact ⟨h, ha⟩
      · exact ⟨u1, v1⟩
    · exact one
  · split
    · rename_i h1
      rw [Bool.and_eq_true, Bool.and_eq_true] at h1
      obtain ⟨u1, v1⟩ := up 1 h1.1.2
      obtain ⟨u2, v2⟩ := up 2 h1.2
      split
      · refine ⟨by simp only; omega, fun j hj => ?_⟩
        simp only at hj
        have : j = 0 ∨ j = 1 ∨ j = 2 := by omega
        rcases this with rfl | rfl | rfl
        · exact ⟨h, ha⟩
        · exact ⟨u1, v1⟩
        · exact ⟨u2, v2⟩
      · exact one
    · split
      · rename_i h1
        rw [Bool.and_eq_true, Bool.and_eq_true, Bool.and_eq_true] at h1
        obtain ⟨u1, v1⟩ := up 1 h1.1.1.2
        obtain ⟨u2, v2⟩ := up 2 h1.1.2
        obtain ⟨u3, v3⟩ := up 3 h1.2
        split
        · refine ⟨by simp only; omega, fun j hj => ?_⟩
          simp only at hj
          have : j = 0 ∨ j = 1 ∨ j = 2 ∨ j = 3 := by omega
          rcases this with rfl | rfl | rfl | rfl
          · exact ⟨h, ha⟩
          · exact ⟨u1, v1⟩
          · exact ⟨u2, v2⟩
          · exact ⟨u3, v3⟩
        · exact one
      · exact one
/-- A rune of 128 or more as bytes: two to four, the last one of 128 or more. -/
theorem encode_last (r : Int) (h : 128 ≤ r) : ∃ L : Nat, (L = 1 ∨ L = 2 ∨ L = 3) ∧ (Utf8.encode r).size = L + 1 ∧ ∀ hL : L < (Utf8.encode r).size, 128 ≤ ((Utf8.encode r)[L]'hL).toNat := by
  have hb : ∀ n : Nat, 128 ≤ (UInt8.ofNat (128 + n % 64)).toNat := fun n => by
    rw [UInt8.toNat_ofNat']
    omega
  have hc : ¬ (if Utf8.valid r then r.toNat else Utf8.runeError) < 128 := by
    split
    · omega
    · decide
  have he : ∃ c : Nat, Utf8.encode r = (if c < 0x800 then ⟨#[UInt8.ofNat (0xC0 + c / 64), UInt8.ofNat (0x80 + c % 64)]⟩ else if c < 0x10000 then ⟨#[UInt8.ofNat (0xE0 + c / 4096), UInt8.ofNat (0x80 + c / 64 % 64), UInt8.ofNat (0x80 + c % 64)]⟩
      else ⟨#[UInt8.ofNat (0xF0 + c / 262144), UInt8.ofNat (0x80 + c / 4096 % 64), UInt8.ofNat (0x80 + c / 64 % 64), UInt8.ofNat (0x80 + c % 64)]⟩) := ⟨_, by simp only [Utf8.encode]; rw [if_neg hc]⟩
  obtain ⟨c, he⟩ := he
  generalize Utf8.encode r = E at he ⊢
  split at he
  · subst he
    exact ⟨1, .inl rfl, rfl, fun hL => hb _⟩
  · split at he
    · subst he
      exact ⟨2, .inr (.inl rfl), rfl, fun hL => hb _⟩
    · subst he
      exact ⟨3, .inr (.inr rfl), rfl, fun hL => hb _⟩
end Go.Proofs.YthgcbomidamcfaaDoor

/-
  strings.IndexRune and strings.IndexAny with the three signs of layer 11, for runes of 128 and more, and for any text.
-/

namespace Go.Proofs.YthgcbomidamcfaaDoor
open Go.RowKit

/-- The three signs, as the program writes them. -/
abbrev sgnS : ByteArray := ⟨#[40, 44, 41]⟩
theorem sgn_at : ∀ k, (h : k < sgnS.size) → (sgnS[k]'h).toNat < 128 := by
  have : ∀ k, (h : k < 3) → (sgnS[k]'h).toNat < 128 := by decide +kernel
  exact this
theorem iter_below (w : World) (s : ByteArray) (p : Nat) : Below w.heap.size w (w.iter s p) := (Below.refl _ _).alloc (Nat.le_refl _) _
set_option maxHeartbeats 2000000 in
set_option maxRecDepth 100000 in
theorem idx_rune_err (w : World) : Calls Tryd.prog 49 #[.string sgnS, .int .i32 65533] w fun e w' => e = .returned (.int .i64 (-1)) ∧ Below w.heap.size w w' := by
  obtain ⟨S, hS⟩ : ∃ S, sgnS = S := ⟨_, rfl⟩
  have hat : ∀ k, (h : k < S.size) → (S[k]'h).toNat < 128 := by rw [← hS]; exact sgn_at
  have HAT := Lib.hid hat
  rw [hS]
  clear hat hS
  go_enter Tryd.func49, Tryd.ntmps49
  go_wp2_with fail
  go_loopg [5, 6] S.size (fun g _ _ wx => ∃ i : Nat, i + g = S.size ∧ wx = w.iter S i)
  case atStart => exact ⟨0, by omega, rfl⟩
  case round =>
    obtain ⟨i, hig, rfl⟩ := hrel
    cases gk with
    | zero =>
      obtain rfl : i = S.size := by omega
      have hnx := run_next_end (P := Tryd.prog) w S S.size
      go_wp2
      go_ret
      exact ⟨rfl, iter_below _ _ _⟩
    | succ g =>
      have hi : i < S.size := by omega
      have hx128 := HAT.out i hi
      obtain ⟨x, hx⟩ : ∃ x : UInt8, S[i]'hi = x := ⟨_, rfl⟩
      have hnx := fun ty => run_next_ascii (P := Tryd.prog) w S i ty hi hx128
      rw [hx] at hnx hx128
      clear hx
      have hne : ((x.toNat : Int) == 65533) = false := beq_eq_false_iff_ne.2 (by omega)
      go_wp2
      go_roundg g
      case measure => omega
      case rel => exact ⟨i + 1, by omega, rfl⟩
theorem idx_byte_none (S : ByteArray) (x : Int) (hx : 128 ≤ x) (h2 : x < 256) (hS : ∀ k, (h : k < S.size) → (S[k]'h).toNat < 128) (w : World) :
    Calls Tryd.prog 59 #[.string S, .int .u8 x] w fun e w' => e = .returned (.int .i64 (-1)) ∧ w = w' := by
  refine (Tryd.strings_IndexByte S x w).mono ?_
  rintro e w' ⟨rfl, hw⟩
  refine ⟨?_, hw.symm⟩
  have hn : S.data.toList.contains x.toNat.toUInt8 = false := by
    rw [← Bool.not_eq_true, List.contains_iff_mem]
    intro hm
    obtain ⟨k, hk, he⟩ := List.getElem_of_mem hm
    have h1 := hS k (by rw [Lib.size_eq]; exact hk)
    have h2 : S[k]'(by rw [Lib.size_eq]; exact hk) = x.toNat.toUInt8 := by rw [← he]; rfl
    rw [h2] at h1
    have : (x.toNat.toUInt8).toNat = x.toNat := by
      show (UInt8.ofNat x.toNat).toNat = _
      rw [UInt8.toNat_ofNat']
      omega
    omega
  have h3 := indexByte_mem S.data.toList x.toNat.toUInt8
  rw [hn, decide_eq_false_iff_not] at h3
  have h4 := Lib.indexByte_ge S.data.toList x.toNat.toUInt8
  rw [show Lib.indexByte S.data.toList x.toNat.toUInt8 = -1 by omega]
set_option maxHeartbeats 2000000 in
set_option maxRecDepth 100000 in
theorem idx_rune (r : Int) (h : 128 ≤ r) (h2 : r ≤ 2147483647) (w : World) : Calls Tryd.prog 49 #[.string sgnS, .int .i32 r] w fun e w' => e = .returned (.int .i64 (-1)) ∧ Below w.heap.size w w' := by
  by_cases he : r = 65533
  · subst he; exact idx_rune_err w
  · have hne : (r == 65533) = false := beq_eq_false_iff_ne.2 he
    have hz : decide ((0 : Int) ≤ r) = true := decide_eq_true (by omega)
    have h8 : decide (r < (128 : Int)) = false := decide_eq_false (by omega)
    have V : ∀ w, Hid (Calls Tryd.prog 60 #[.int .i32 r] w fun e w' => e = .returned (.bool (Lib.validRune r)) ∧ w = w') := fun w => Lib.hid ((Tryd.utf8_ValidRune r w).mono fun _ _ ⟨h1, h2⟩ => ⟨h1, h2.symm⟩)
    have hu : (Tryd.prog.underlying 21).isSome = true := by kernel_rfl
    obtain ⟨x, hx⟩ : ∃ x, Lib.validRune r = x := ⟨_, rfl⟩
    rw [hx] at V
    clear hx
    obtain ⟨S, hS⟩ : ∃ S, sgnS = S := ⟨_, rfl⟩
    have hat : ∀ k, (h : k < S.size) → (S[k]'h).toNat < 128 := by rw [← hS]; exact sgn_at
    have hsz : S.size = 3 := by rw [← hS]; rfl
    rw [hS]
    clear hS
    cases x
    · clear hat hsz
      go_enter Tryd.func49, Tryd.ntmps49
      go_wp2_with ((with_reducible refine (V _).out.mono ?_); rintro e w9 ⟨rfl, rfl⟩)
      go_ret
      exact ⟨rfl, Below.refl _ _⟩
    · obtain ⟨L, hL, hE, hlast⟩ := encode_last r h
      obtain ⟨E, hEE⟩ : ∃ E, Utf8.encode r = E := ⟨_, rfl⟩
      simp only [hEE] at hE hlast
      have hl := hlast (by omega)
      have hcv : ∀ w : World, (convert 21 9 (.int .i32 r)).run Tryd.prog w = .ok (.string E) w := fun w => by rw [← hEE]; exact run_convert_int_string w _ _ _ r hu Tryd.underlying9
      have hLE : L < E.size := by omega
      have NB : ∀ w, Calls Tryd.prog 59 #[.string (S.extract (L + 1) 3), .int .u8 ((E[L]'hLE).toNat : Int)] w fun e w' => e = .returned (.int .i64 (-1)) ∧ w = w' := fun w => by
        have := (E[L]'hLE).toNat_lt
        refine idx_byte_none _ _ (by omega) (by omega) (fun k hk => ?_) w
        rw [ByteArray.getElem_extract]
        exact hat _ _
      have NB := fun w => Lib.hid (NB w)
      have HAT := Lib.hid hat
      obtain ⟨y, hy⟩ : ∃ y, E[L]'hLE = y := ⟨_, rfl⟩
      rw [hy] at NB hl
      clear hat hlast
      by_cases h3 : L = 3
      · subst h3
        go_enter Tryd.func49, Tryd.ntmps49
        go_wp2_with ((with_reducible refine (V _).out.mono ?_); rintro e w9 ⟨rfl, rfl⟩)
        go_step3
        go_wp2
        go_loopw [9] (fun i wr => i = .int .i64 3 ∧ wr = w) (fun i _ => 0)
        case atStart => exact ⟨by go_num, rfl⟩
        case round =>
          obtain ⟨rfl, rfl⟩ := hrel
          go_wp2
          rw [Exit.noGoto_ret]
          go_ret
          exact ⟨rfl, Below.refl _ _⟩
      · have hLS : L < S.size := by omega
        obtain ⟨x, hx⟩ : ∃ x, S[L]'hLS = x := ⟨_, rfl⟩
        have hx1 := HAT.out L hLS
        rw [hx] at hx1
        have hxy : ((x.toNat : Int) == (y.toNat : Int)) = false := beq_eq_false_iff_ne.2 (by omega)
        have hL3 : L < 3 := by omega
        clear hL h3
        go_enter Tryd.func49, Tryd.ntmps49
        go_wp2_with ((with_reducible refine (V _).out.mono ?_); rintro e w9 ⟨rfl, rfl⟩)
        go_step3
        go_wp2
        go_loopw [9] (fun i wr => i = .int .i64 (L : Nat) ∧ wr = w) (fun i _ => 0)
        case atStart => exact ⟨by go_num, rfl⟩
        case round =>
          obtain ⟨rfl, rfl⟩ := hrel
          go_wp2
          go_step3
          go_wp2_with (first | (go_quiet ((first | (go_at_call 59; exact (NB _).out.mono fun _ _ ⟨h1, h2⟩ => ⟨h1, _, h2.symm⟩)))))
          rw [Exit.noGoto_ret]
          go_wp2
          rw [Exit.noGoto_ret]
          go_ret
          exact ⟨rfl, below_quiet rfl⟩
end Go.Proofs.YthgcbomidamcfaaDoor

/-
  strings.IndexAny with the three signs of layer 11, over any text.
-/
namespace Go.Proofs.YthgcbomidamcfaaDoor
open Go.RowKit

/-! ### IndexAny -/
theorem sgn_contains (x : UInt8) : ([40, 44, 41] : List UInt8).contains x = !cleanB x := by
  unfold cleanB
  simp only [List.contains_cons, List.contains_nil, Bool.or_false, Bool.not_not]
  cases x == 40 <;> cases x == 41 <;> cases x == 44 <;> rfl
theorem high_clean {x : UInt8} (h : 128 ≤ x.toNat) : ([40, 44, 41] : List UInt8).contains x = false := by
  rw [← Bool.not_eq_true, List.contains_iff_mem]
  intro hm
  simp only [List.mem_cons, List.not_mem_nil, or_false] at hm
  rcases hm with rfl | rfl | rfl <;> simp at h
theorem NoAny.run {s chars : List UInt8} {i k : Nat} (h : Lib.NoAny s chars i) (hk : ∀ j, j < k → ∃ x, s[i + j]? = some x ∧ chars.contains x = false) : Lib.NoAny s chars (i + k) := fun j b hj hb => by
  by_cases e : j < i
  · exact h j b e hb
  · obtain ⟨x, hx, hc⟩ := hk (j - i) (by omega)
    rw [show i + (j - i) = j by omega, hb] at hx
    cases hx
    exact hc
set_option maxHeartbeats 4000000 in
set_option maxRecDepth 100000 in
theorem idx_any_short (s : ByteArray) (h8 : s.size ≤ 8) (w : World) :
    Calls Tryd.prog 37 #[.string s, .string sgnS] w fun e w' => e = .returned (.int .i64 (Lib.indexAny s.data.toList [40, 44, 41])) ∧ Below w.heap.size w w' := by
  have h8z : decide ((8 : Int) < (s.size : Int)) = false := decide_eq_false (by omega)
  have HA := fun x (h : x < (128 : Nat)) w => Lib.hid (Tryd.strings_IndexRune_ascii sgnS (x : Int) w (by omega) (by omega))
  have HI := fun (r : Int) (h : 128 ≤ r) (h2 : r ≤ 2147483647) w => Lib.hid (idx_rune r h h2 w)
  have SU : ∀ w, Hid (Calls Tryd.prog 50 #[.int .i64 (s.size : Int)] w fun e w' => e = .returned (.bool false) ∧ w = w') := fun w => Lib.hid (by
    go_enter Tryd.func50, Tryd.ntmps50
    go_wp2
    go_ret
    exact ⟨rfl, rfl⟩)
  go_enter Tryd.func37, Tryd.ntmps37
  go_wp2_with ((with_reducible refine (SU _).out.mono ?_); rintro e w9 ⟨rfl, rfl⟩)
  go_loopg [9, 10] s.size (fun g _ _ wx => ∃ i : Nat, i + g = s.size ∧ w.heap.size < wx.heap.size ∧ wx.heap[w.heap.size]? = some (.stringIter s i) ∧ Below w.heap.size w wx ∧ Hid (Lib.NoAny s.data.toList [40, 44, 41] i))
  case atStart => exact ⟨0, by omega, (by show _ < (w.heap.push _).size; simp), World.iter_heap w s 0, iter_below _ _ _, Lib.hid (Lib.NoAny.zero _ _)⟩
  case round =>
    obtain ⟨i, hig, hlt, hk, hb, HN⟩ := hrel
    cases gk with
    | zero =>
      obtain rfl : i = s.size := by omega
      have hnx := fun ty => Lib.run_next_end_at (P := Tryd.prog) wr w.heap.size s s.size ty hk (by omega)
      have HB := Lib.hid hb
      clear hb
      go_wp2_with fail
      go_ret
      exact ⟨ret_int (Lib.indexAny_none (by have := HN.out; rwa [Lib.size_eq] at this)).symm, HB.out⟩
    | succ g =>
      have hi : i < s.size := by omega
      have HB := Lib.hid hb
      clear hb
      have hsz : s.data.toList.length = s.size := (Lib.size_eq s).symm
      by_cases ha : (s[i]'hi).toNat < 128
      · have hnx := fun ty => Lib.run_next_ascii_at (P := Tryd.prog) wr w.heap.size s i ty hk hi ha
        obtain ⟨x, hx⟩ : ∃ x : UInt8, s[i]'hi = x := ⟨_, rfl⟩
        have hxl : s.data.toList[i]? = some x := by rw [← hx]; exact Lib.data_getElem? s i hi
        have Hx := Lib.hid hxl
        rw [hx] at hnx ha
        have HK := Lib.hid (Lib.iterAt_heap wr w.heap.size s i (i + 1) hk)
        have HB2 := Lib.hid (Lib.below_iterAt HB.out (Nat.le_refl _) s (i + 1))
        have HL := Lib.hid (show w.heap.size < (wr.iterAt w.heap.size s (i + 1)).heap.size by rw [Lib.iterAt_size]; exact hlt)
        have HA1 := HA x.toNat ha
        have hback : ((x.toNat : Int)).toNat.toUInt8 = x := by simp
        rw [hback] at HA1
        have hcon := Lib.contains_iff_indexByte [40, 44, 41] x
        obtain ⟨v, hv⟩ : ∃ v : Int, Lib.indexByte [40, 44, 41] x = v := ⟨_, rfl⟩
        rw [hv] at HA1
        rw [hv] at hcon
        clear hxl hx hk HA
        cases hin : ([40, 44, 41] : List UInt8).contains x
        · rw [hin] at hcon
          have hneg : ¬ ((0 : Int) ≤ v) := of_decide_eq_false hcon.symm
          have HN2 := Lib.hid (HN.out.succ Hx.out hin)
          clear hcon hin
          go_wp2_with ((with_reducible refine (HA1 _).out.mono ?_); rintro e w9 ⟨rfl, rfl⟩)
          go_roundg g
          case measure => omega
          case rel => exact ⟨i + 1, by omega, HL.out, HK.out, HB2.out, HN2⟩
        · rw [hin] at hcon
          have hge : (0 : Int) ≤ v := of_decide_eq_true hcon.symm
          have HE := Lib.hid (Lib.indexAny_hit HN.out Hx.out hin)
          clear hcon hin
          go_wp2_with ((with_reducible refine (HA1 _).out.mono ?_); rintro e w9 ⟨rfl, rfl⟩)
          go_ret
          exact ⟨ret_int HE.out.symm, HB2.out⟩
      · have hnx := fun ty => Lib.run_next_any_at (P := Tryd.prog) wr w.heap.size s i ty hk hi
        obtain ⟨h1, h2⟩ := decode_high s i hi (by omega)
        obtain ⟨h3, h4⟩ := decode_bytes s i hi (by omega)
        have h5 := decode_le s i
        obtain ⟨r, hr⟩ : ∃ r, (Utf8.decode s i).1 = r := ⟨_, rfl⟩
        obtain ⟨k, hkk⟩ : ∃ k, (Utf8.decode s i).2 = k := ⟨_, rfl⟩
        rw [hr, hkk] at hnx
        rw [hr] at h1 h5
        rw [hkk] at h2 h3 h4
        have HK := Lib.hid (Lib.iterAt_heap wr w.heap.size s i (i + k) hk)
        have HB2 := Lib.hid (Lib.below_iterAt HB.out (Nat.le_refl _) s (i + k))
        have HL := Lib.hid (show w.heap.size < (wr.iterAt w.heap.size s (i + k)).heap.size by rw [Lib.iterAt_size]; exact hlt)
        have HI1 := HI (r : Int) (by omega) (by omega)
        have HN2 : Hid (Lib.NoAny s.data.toList [40, 44, 41] (i + k)) := Lib.hid (NoAny.run HN.out fun j hj => by
          obtain ⟨hj1, hj2⟩ := h4 j hj
          exact ⟨_, Lib.data_getElem? s (i + j) hj1, high_clean hj2⟩)
        clear hr hkk h4 hk HI ha HA
        go_wp2_with ((with_reducible refine (HI1 _).out.mono ?_); rintro e w9 ⟨rfl, hq⟩; have HQ := Lib.hid hq; clear hq)
        go_roundg (s.size - (i + k))
        case measure => omega
        case rel => exact ⟨i + k, by omega, Nat.lt_of_lt_of_le HL.out HQ.out.size, (HQ.out.block _ HL.out).trans HK.out, HB2.out.trans (HQ.out.mono (Nat.le_of_lt HL.out)), HN2⟩
theorem idx_any (s : List UInt8) (S : ByteArray) (hS : str s = S) (hl : s.length ≤ 1000000) (w : World) :
    Calls Tryd.prog 37 #[.string S, .string sgnS] w fun e w' => e = .returned (.int .i64 (Lib.indexAny s [40, 44, 41])) ∧ Below w.heap.size w w' := by
  subst hS
  by_cases h : (str s).size ≤ 8
  · exact idx_any_short (str s) h w
  · refine (Tryd.strings_IndexAny_long (zero_of_info (P := Tryd.prog) (t := 81) (n := 256) (by kernel_rfl)).1 (str s) sgnS w (by decide) (by omega) (by rw [str_size]; omega) (by decide) fun j b hb => ?_).mono ?_
    · have : ∀ b ∈ ([40, 44, 41] : List UInt8), b.toNat < 128 := by decide
      exact this b (List.mem_of_getElem? hb)
    · rintro e w' ⟨rfl, rfl⟩
      exact ⟨rfl, ((Below.refl _ _).alloc (Nat.le_refl _) _).alloc (by simp) _⟩
/-- Where the first sign stands. -/
theorem idx_clean : ∀ s : List UInt8, Lib.indexAny s [40, 44, 41] = (if behindP s = [] then -1 else ((plainP s).length : Int))
  | [] => rfl
  | c :: s => by
    have ih := idx_clean s
    unfold Lib.indexAny
    rw [sgn_contains]
    cases hc : cleanB c with
    | false => simp [behindP, plainP, hc]
    | true =>
      have e1 : behindP (c :: s) = behindP s := by simp [behindP, hc]
      have e2 : plainP (c :: s) = c :: plainP s := by simp [plainP, hc]
      rw [ih, e1, e2]
      by_cases hb : behindP s = []
      · rw [if_pos hb, if_pos hb]; rfl
      · rw [if_neg hb, if_neg hb]
        have : (((plainP s).length : Int) == -1) = false := beq_eq_false_iff_ne.2 (by omega)
        simp [this]
end Go.Proofs.YthgcbomidamcfaaDoor

/-
  Layer 11 (ftext), the program: the names' table; plain, text, kind.
-/
namespace Go.Proofs.YthgcbomidamcfaaDoor
open Go.RowKit

theorem plain_cut (r : List UInt8) : (str r).extract 0 (plainP r).length = str (plainP r) ∧ (str r).extract (plainP r).length (str r).size = str (behindP r) := by
  have e1 := List.take_left (l₁ := plainP r) (l₂ := behindP r)
  have e2 := List.drop_left (l₁ := plainP r) (l₂ := behindP r)
  rw [plain_behind] at e1 e2
  exact ⟨by rw [str_take, e1], str_cut r (behindP r) _ e2⟩
set_option maxHeartbeats 1000000 in
theorem ftx_plain (b : Nat) (s : Ps) (v : Value) (hl : s.rest.length ≤ 1000000) (P : ByteArray) (hP : str (plainP s.rest) = P) (w : World) (h : PsAt b s v w) :
    Calls Tryd.prog 24 #[.pointer (some ⟨b, 0, none⟩)] w fun e w' => e = .returned (.string P) ∧ PsAt b (cutP s) v w' ∧ Turn b v v w w' := by
  have hlt := h.lt
  obtain ⟨S, hS⟩ : ∃ S, str s.rest = S := ⟨_, rfl⟩
  obtain ⟨R, hR⟩ : ∃ R, str (behindP s.rest) = R := ⟨_, rfl⟩
  have I := fun w => Lib.hid (idx_any s.rest S hS hl w)
  rw [idx_clean] at I
  have hz : S.size = s.rest.length := by rw [← hS]; exact str_size _
  obtain ⟨N, hN⟩ : ∃ N, (plainP s.rest).length = N := ⟨_, rfl⟩
  obtain ⟨c1, c2⟩ := plain_cut s.rest
  rw [hN, hS] at c1 c2
  rw [hP] at c1
  rw [hR] at c2
  have hN9 : N ≤ S.size := by rw [hz, ← hN]; exact plain_len _
  rw [hN] at I
  have HS := fun w (h : PsAt b s v w) => Lib.hid (h.set0 (behindP s.rest) hR)
  have HX := Lib.hid h
  have hs9 : S.size ≤ 1000000 := by omega
  have CE : behindP s.rest = [] → N = S.size := fun e => by
    have := congrArg List.length (plain_behind s.rest)
    rw [List.length_append, hN, e] at this
    simp at this; omega
  have r0 := h.r0
  have rf := h.free
  rw [hS] at r0
  have HSS := Lib.hid hS
  have hNn : ¬ ((N : Int) < 0) := by omega
  by_cases hb : behindP s.rest = []
  · have hNS := CE hb
    rw [if_pos hb] at I
    have hRe : R = ByteArray.empty := by rw [← hR, hb]; rfl
    rw [hRe] at HS
    clear CE hN hR hP hS hb h hRe c2
    rw [hNS, hz] at c1
    clear hNS hNn hN9
    go_enter Tryd.func24, Tryd.ntmps24
    go_wp2_with ((with_reducible refine (I _).out.mono ?_); rintro e w9 ⟨rfl, hq⟩; replace HX := Lib.hid (HX.out.below hq); have HQ := Lib.hid (Turn.of_below (b := b) (v := v) hq hlt); replace r0 := HX.out.r0; replace rf := HX.out.free; rw [HSS.out] at r0; clear hq; replace HS := HS _ HX.out)
    go_ret
    exact ⟨rfl, HS.out, HQ.out.trans set_turn⟩
  · rw [if_neg hb] at I
    rw [hz] at c2
    clear CE hN hR hP hS hb h
    go_enter Tryd.func24, Tryd.ntmps24
    go_wp2_with ((with_reducible refine (I _).out.mono ?_); rintro e w9 ⟨rfl, hq⟩; replace HX := Lib.hid (HX.out.below hq); have HQ := Lib.hid (Turn.of_below (b := b) (v := v) hq hlt); replace r0 := HX.out.r0; replace rf := HX.out.free; rw [HSS.out] at r0; clear hq; replace HS := HS _ HX.out)
    go_ret
    exact ⟨rfl, HS.out, HQ.out.trans set_turn⟩
/-! ### Words and names -/
theorem textP_some {s : Ps} {t : List UInt8} (h : ofV t = plainP s.rest) : textP s = (t, cutP s) := by
  unfold textP; rw [← h, wordP_some rfl]
theorem textP_none {s : Ps} (h : ∀ t, ofV t ≠ plainP s.rest) : textP s = ([], failP s) := by
  unfold textP; rw [wordP_none h]
set_option maxHeartbeats 1000000 in
theorem ftx_text (b : Nat) (s : Ps) (v : Value) (hl : s.rest.length ≤ 1000000) (T : ByteArray) (hT : str (textP s).1 = T) (w : World) (h : PsAt b s v w) :
    Calls Tryd.prog 26 #[.pointer (some ⟨b, 0, none⟩)] w fun e w' => e = .returned (.string T) ∧ PsAt b (textP s).2 v w' ∧ Turn b v v w w' := by
  have hlt := h.lt
  obtain ⟨P, hP⟩ : ∃ P, str (plainP s.rest) = P := ⟨_, rfl⟩
  have K := Lib.hid (ftx_plain b s v hl P hP w h)
  have R := fun w => Lib.hid (wrd_read (plainP s.rest) (Nat.le_trans (plain_len _) hl) w)
  rw [hP] at R
  have F := fun w (h : PsAt b (cutP s) v w) => Lib.hid (ftx_fail b (cutP s) v w h)
  by_cases hx : ∃ t, ofV t = plainP s.rest
  · obtain ⟨t, ht⟩ := hx
    rw [textP_some ht] at hT ⊢
    have R : ∀ w, Hid (Calls Tryd.prog 39 #[.string P] w fun e w' => e = .returned (.tuple #[.string T, .bool true]) ∧ Below w.heap.size w w') := fun w => Lib.hid ((R w).out.mono fun e w' hr => by
      rcases hr with ⟨⟨t2, h1, h2⟩ | ⟨h1, h2⟩, h3⟩
      · rw [ofV_inj (h1.trans ht.symm)] at h2
        rw [← hT]
        exact ⟨h2, h3⟩
      · exact absurd ht (h1 t))
    clear hT ht hP h
    go_enter Tryd.func26, Tryd.ntmps26
    go_wp2_with (first
      | ((with_reducible refine K.out.mono ?_); rintro e w9 ⟨rfl, hp, hq⟩; have HP := Lib.hid hp; have HQ := Lib.hid hq; clear hp hq)
      | ((with_reducible refine (R _).out.mono ?_); rintro e w8 ⟨rfl, hq⟩; replace HQ := Lib.hid (HQ.out.trans (Turn.of_below hq HP.out.lt)); replace HP := Lib.hid (HP.out.below hq); clear hq))
    go_ret
    exact ⟨rfl, HP.out, HQ.out⟩
  · have hno : ∀ t, ofV t ≠ plainP s.rest := fun t ht => hx ⟨t, ht⟩
    rw [textP_none hno] at hT ⊢
    have R : ∀ w, Hid (Calls Tryd.prog 39 #[.string P] w fun e w' => e = .returned (.tuple #[.string T, .bool false]) ∧ Below w.heap.size w w') := fun w => Lib.hid ((R w).out.mono fun e w' hr => by
      rcases hr with ⟨⟨t2, h1, h2⟩ | ⟨h1, h2⟩, h3⟩
      · exact absurd h1 (hno t2)
      · rw [← hT]
        exact ⟨h2, h3⟩)
    have F : ∀ w (h : PsAt b (cutP s) v w), Hid (Calls Tryd.prog 22 #[.pointer (some ⟨b, 0, none⟩)] w fun e w' => e = .returned (.tuple #[]) ∧ PsAt b (failP s) v w' ∧ Turn b v v w w') := F
    clear hT hno hP h hx
    go_enter Tryd.func26, Tryd.ntmps26
    go_wp2_with (first
      | ((with_reducible refine K.out.mono ?_); rintro e w9 ⟨rfl, hp, hq⟩; have HP := Lib.hid hp; have HQ := Lib.hid hq; clear hp hq)
      | ((with_reducible refine (R _).out.mono ?_); rintro e w8 ⟨rfl, hq⟩; replace HQ := Lib.hid (HQ.out.trans (Turn.of_below hq HP.out.lt)); replace HP := Lib.hid (HP.out.below hq); clear hq)
      | ((with_reducible refine (F _ HP.out).out.mono ?_); rintro e w7 ⟨rfl, hp, hq⟩; replace HP := Lib.hid hp; replace HQ := Lib.hid (HQ.out.trans hq); clear hp hq))
    go_ret
    exact ⟨rfl, HP.out, HQ.out⟩
/-- The list of names as a value. -/
abbrev nmsV : Value := .agg #[.string ⟨#[]⟩, .string ⟨#[97, 108, 108]⟩, .string ⟨#[110, 111, 110, 101]⟩, .string ⟨#[112, 114, 101, 102, 105, 120]⟩, .string ⟨#[114, 97, 110, 103, 101]⟩, .string ⟨#[102, 114, 111, 109]⟩, .string ⟨#[110, 111, 116]⟩, .string ⟨#[97, 110, 100]⟩, .string ⟨#[111, 114]⟩]
theorem kindV_other {p : List UInt8} (h : ∀ j, j < 9 → namesL.getD j [] ≠ p) : kindV p = 0 := by
  unfold kindV
  rw [if_neg (fun e => h 1 (by omega) e.symm), if_neg (fun e => h 2 (by omega) e.symm), if_neg (fun e => h 3 (by omega) e.symm), if_neg (fun e => h 4 (by omega) e.symm), if_neg (fun e => h 5 (by omega) e.symm), if_neg (fun e => h 6 (by omega) e.symm), if_neg (fun e => h 7 (by omega) e.symm), if_neg (fun e => h 8 (by omega) e.symm)]
set_option maxHeartbeats 4000000 in
theorem ftx_kind (p : List UInt8) (P : ByteArray) (hP : str p = P) (w : World) (hn : NmsAt w) :
    Calls Tryd.prog 23 #[.string P] w fun e w' => e = .returned (.int .i64 (kindV p)) ∧ w = w' := by
  obtain ⟨n0, n1, n2, n3, n4, n5, n6, n7, n8⟩ := hn
  have HTL := Lib.hid (show P.toList = p by rw [← hP]; exact str_toList p)
  clear hP
  obtain ⟨K, hK⟩ : ∃ K, kindV p = K := ⟨_, rfl⟩
  rw [hK]
  have HKK := Lib.hid hK
  clear hK
  have i0 : ∀ w, (Instr.index 45 nmsV (.int .i64 0)).run Tryd.prog w = .ok (.string ⟨#[]⟩) w := fun w => by kernel_rfl
  have i1 : ∀ w, (Instr.index 45 nmsV (.int .i64 1)).run Tryd.prog w = .ok (.string ⟨#[97, 108, 108]⟩) w := fun w => by kernel_rfl
  have i2 : ∀ w, (Instr.index 45 nmsV (.int .i64 2)).run Tryd.prog w = .ok (.string ⟨#[110, 111, 110, 101]⟩) w := fun w => by kernel_rfl
  have i3 : ∀ w, (Instr.index 45 nmsV (.int .i64 3)).run Tryd.prog w = .ok (.string ⟨#[112, 114, 101, 102, 105, 120]⟩) w := fun w => by kernel_rfl
  have i4 : ∀ w, (Instr.index 45 nmsV (.int .i64 4)).run Tryd.prog w = .ok (.string ⟨#[114, 97, 110, 103, 101]⟩) w := fun w => by kernel_rfl
  have i5 : ∀ w, (Instr.index 45 nmsV (.int .i64 5)).run Tryd.prog w = .ok (.string ⟨#[102, 114, 111, 109]⟩) w := fun w => by kernel_rfl
  have i6 : ∀ w, (Instr.index 45 nmsV (.int .i64 6)).run Tryd.prog w = .ok (.string ⟨#[110, 111, 116]⟩) w := fun w => by kernel_rfl
  have i7 : ∀ w, (Instr.index 45 nmsV (.int .i64 7)).run Tryd.prog w = .ok (.string ⟨#[97, 110, 100]⟩) w := fun w => by kernel_rfl
  have i8 : ∀ w, (Instr.index 45 nmsV (.int .i64 8)).run Tryd.prog w = .ok (.string ⟨#[111, 114]⟩) w := fun w => by kernel_rfl
  go_enter Tryd.func23, Tryd.ntmps23
  go_wp2
  go_loopw [3, 4, 6] (fun _ _ i wr => ∃ k : Nat, k ≤ 9 ∧ i = .int .i64 k ∧ wr = w ∧ Hid (∀ j, j < k → namesL.getD j [] ≠ p)) (fun _ _ i _ => 9 - (intOf i).toNat)
  case atStart => exact ⟨0, by omega, by go_num, rfl, Lib.hid fun j hj => absurd hj (Nat.not_lt_zero _)⟩
  case round =>
    obtain ⟨k, hk, rfl, rfl, HJ⟩ := hrel
    have hks : k = 0 ∨ k = 1 ∨ k = 2 ∨ k = 3 ∨ k = 4 ∨ k = 5 ∨ k = 6 ∨ k = 7 ∨ k = 8 ∨ k = 9 := by omega
    rcases hks with rfl | rfl | rfl | rfl | rfl | rfl | rfl | rfl | rfl | rfl
    · by_cases hp : p = []
      · have hK : K = 0 := by rw [← HKK.out, hp]; decide +kernel
        have h1 : P.toList = [] := by rw [HTL.out, hp]
        have h2 : P.toList.isEmpty = true := by rw [h1]; rfl
        go_wp2
        go_ret
        exact ⟨ret_int hK.symm, rfl⟩
      · have h1 : P.toList.isEmpty = false := by rw [HTL.out]; exact list_empty hp
        go_wp2
        go_roundw
        case rel => exact ⟨1, by omega, by go_num, by first | trivial | rfl, Lib.hid fun j hj => by
          rcases Nat.lt_or_ge j 0 with h | h
          · exact HJ.out j h
          · obtain rfl : j = 0 := by omega
            exact fun e => hp e.symm⟩
        case measure => simp [intOf]
    · by_cases hp : p = [97, 108, 108]
      · have hK : K = 1 := by rw [← HKK.out, hp]; decide +kernel
        have h1 : P.toList = [97, 108, 108] := by rw [HTL.out, hp]
        go_wp2
        go_ret
        exact ⟨ret_int hK.symm, rfl⟩
      · have h1 : (P.toList == [97, 108, 108]) = false := by rw [HTL.out]; exact list_ne hp
        go_wp2
        go_roundw
        case rel => exact ⟨2, by omega, by go_num, by first | trivial | rfl, Lib.hid fun j hj => by
          rcases Nat.lt_or_ge j 1 with h | h
          · exact HJ.out j h
          · obtain rfl : j = 1 := by omega
            exact fun e => hp e.symm⟩
        case measure => simp [intOf]
    · by_cases hp : p = [110, 111, 110, 101]
      · have hK : K = 2 := by rw [← HKK.out, hp]; decide +kernel
        have h1 : P.toList = [110, 111, 110, 101] := by rw [HTL.out, hp]
        go_wp2
        go_ret
        exact ⟨ret_int hK.symm, rfl⟩
      · have h1 : (P.toList == [110, 111, 110, 101]) = false := by rw [HTL.out]; exact list_ne hp
        go_wp2
        go_roundw
        case rel => exact ⟨3, by omega, by go_num, by first | trivial | rfl, Lib.hid fun j hj => by
          rcases Nat.lt_or_ge j 2 with h | h
          · exact HJ.out j h
          · obtain rfl : j = 2 := by omega
            exact fun e => hp e.symm⟩
        case measure => simp [intOf]
    · by_cases hp : p = [112, 114, 101, 102, 105, 120]
      · have hK : K = 3 := by rw [← HKK.out, hp]; decide +kernel
        have h1 : P.toList = [112, 114, 101, 102, 105, 120] := by rw [HTL.out, hp]
        go_wp2
        go_ret
        exact ⟨ret_int hK.symm, rfl⟩
      · have h1 : (P.toList == [112, 114, 101, 102, 105, 120]) = false := by rw [HTL.out]; exact list_ne hp
        go_wp2
        go_roundw
        case rel => exact ⟨4, by omega, by go_num, by first | trivial | rfl, Lib.hid fun j hj => by
          rcases Nat.lt_or_ge j 3 with h | h
          · exact HJ.out j h
          · obtain rfl : j = 3 := by omega
            exact fun e => hp e.symm⟩
        case measure => simp [intOf]
    · by_cases hp : p = [114, 97, 110, 103, 101]
      · have hK : K = 4 := by rw [← HKK.out, hp]; decide +kernel
        have h1 : P.toList = [114, 97, 110, 103, 101] := by rw [HTL.out, hp]
        go_wp2
        go_ret
        exact ⟨ret_int hK.symm, rfl⟩
      · have h1 : (P.toList == [114, 97, 110, 103, 101]) = false := by rw [HTL.out]; exact list_ne hp
        go_wp2
        go_roundw
        case rel => exact ⟨5, by omega, by go_num, by first | trivial | rfl, Lib.hid fun j hj => by
          rcases Nat.lt_or_ge j 4 with h | h
          · exact HJ.out j h
          · obtain rfl : j = 4 := by omega
            exact fun e => hp e.symm⟩
        case measure => simp [intOf]
    · by_cases hp : p = [102, 114, 111, 109]
      · have hK : K = 5 := by rw [← HKK.out, hp]; decide +kernel
        have h1 : P.toList = [102, 114, 111, 109] := by rw [HTL.out, hp]
        go_wp2
        go_ret
        exact ⟨ret_int hK.symm, rfl⟩
      · have h1 : (P.toList == [102, 114, 111, 109]) = false := by rw [HTL.out]; exact list_ne hp
        go_wp2
        go_roundw
        case rel => exact ⟨6, by omega, by go_num, by first | trivial | rfl, Lib.hid fun j hj => by
          rcases Nat.lt_or_ge j 5 with h | h
          · exact HJ.out j h
          · obtain rfl : j = 5 := by omega
            exact fun e => hp e.symm⟩
        case measure => simp [intOf]
    · by_cases hp : p = [110, 111, 116]
      · have hK : K = 6 := by rw [← HKK.out, hp]; decide +kernel
        have h1 : P.toList = [110, 111, 116] := by rw [HTL.out, hp]
        go_wp2
        go_ret
        exact ⟨ret_int hK.symm, rfl⟩
      · have h1 : (P.toList == [110, 111, 116]) = false := by rw [HTL.out]; exact list_ne hp
        go_wp2
        go_roundw
        case rel => exact ⟨7, by omega, by go_num, by first | trivial | rfl, Lib.hid fun j hj => by
          rcases Nat.lt_or_ge j 6 with h | h
          · exact HJ.out j h
          · obtain rfl : j = 6 := by omega
            exact fun e => hp e.symm⟩
        case measure => simp [intOf]
    · by_cases hp : p = [97, 110, 100]
      · have hK : K = 7 := by rw [← HKK.out, hp]; decide +kernel
        have h1 : P.toList = [97, 110, 100] := by rw [HTL.out, hp]
        go_wp2
        go_ret
        exact ⟨ret_int hK.symm, rfl⟩
      · have h1 : (P.toList == [97, 110, 100]) = false := by rw [HTL.out]; exact list_ne hp
        go_wp2
        go_roundw
        case rel => exact ⟨8, by omega, by go_num, by first | trivial | rfl, Lib.hid fun j hj => by
          rcases Nat.lt_or_ge j 7 with h | h
          · exact HJ.out j h
          · obtain rfl : j = 7 := by omega
            exact fun e => hp e.symm⟩
        case measure => simp [intOf]
    · by_cases hp : p = [111, 114]
      · have hK : K = 8 := by rw [← HKK.out, hp]; decide +kernel
        have h1 : P.toList = [111, 114] := by rw [HTL.out, hp]
        go_wp2
        go_ret
        exact ⟨ret_int hK.symm, rfl⟩
      · have h1 : (P.toList == [111, 114]) = false := by rw [HTL.out]; exact list_ne hp
        go_wp2
        go_roundw
        case rel => exact ⟨9, by omega, by go_num, by first | trivial | rfl, Lib.hid fun j hj => by
          rcases Nat.lt_or_ge j 8 with h | h
          · exact HJ.out j h
          · obtain rfl : j = 8 := by omega
            exact fun e => hp e.symm⟩
        case measure => simp [intOf]
    · have hz : K = 0 := by rw [← HKK.out]; exact kindV_other HJ.out
      go_wp2
      go_ret
      exact ⟨ret_int hz.symm, rfl⟩
end Go.Proofs.YthgcbomidamcfaaDoor

/-
  A node in a block of its own.
-/
namespace Go.Proofs.YthgcbomidamcfaaDoor
open Go.RowKit

/-- A node lies in block g. -/
def NdAt (w : World) (g : Nat) (O K : Int) (S T : ByteArray) : Prop := w.cell? ⟨g, 0, none⟩ = some (.int .i64 O) ∧ w.cell? ⟨g, 1, none⟩ = some (.int .i64 K) ∧ w.cell? ⟨g, 2, none⟩ = some (.string S) ∧ w.cell? ⟨g, 3, none⟩ = some (.string T) ∧ ∀ k, w.frozen? ⟨g, k, none⟩ = false
section
variable {w w' : World} {g : Nat} {O K : Int} {S T : ByteArray}
theorem NdAt.lt (h : NdAt w g O K S T) : g < w.heap.size := World.block_lt_of_cell? w _ h.1
theorem ndAt_new (w : World) (O K : Int) (S T : ByteArray) (t : TypeId) : NdAt (w.alloc (.cells #[.int .i64 O, .int .i64 K, .string S, .string T] t)) w.heap.size O K S T := by
  have h := heap_new w (.cells #[.int .i64 O, .int .i64 K, .string S, .string T] t) _ rfl
  refine ⟨?_, ?_, ?_, ?_, fun k => ?_⟩
  · rw [cell_of_row _ _ _ _ _ _ h]; rfl
  · rw [cell_of_row _ _ _ _ _ _ h]; rfl
  · rw [cell_of_row _ _ _ _ _ _ h]; rfl
  · rw [cell_of_row _ _ _ _ _ _ h]; rfl
  · unfold World.frozen?; rw [h]; simp
theorem NdAt.kept {m : Nat} (h : NdAt w g O K S T) (hg : w.grownBy w' (some m)) (hne : g ≠ m) : NdAt w' g O K S T := by
  have hb := hg.block g h.lt (fun e => hne (by injection e))
  obtain ⟨h0, h1, h2, h3, h4⟩ := h
  have hn : some g ≠ some m := fun e => hne (by injection e)
  exact ⟨hg.cell h0 hn, hg.cell h1 hn, hg.cell h2 hn, hg.cell h3 hn, fun k => by
    have := h4 k
    unfold World.frozen? at this ⊢
    simp only [hb]
    exact this⟩
theorem NdAt.set0 (h : NdAt w g O K S T) (X : Int) : NdAt (w.setCell ⟨g, 0, none⟩ (.int .i64 X)) g X K S T :=
  ⟨set_same h.1 _, set_other h.2.1 (addr_off (by decide)) _, set_other h.2.2.1 (addr_off (by decide)) _, set_other h.2.2.2.1 (addr_off (by decide)) _, fun j => by rw [World.frozen?_setCell]; exact h.2.2.2.2 j⟩
theorem NdAt.set1 (h : NdAt w g O K S T) (X : Int) : NdAt (w.setCell ⟨g, 1, none⟩ (.int .i64 X)) g O X S T :=
  ⟨set_other h.1 (addr_off (by decide)) _, set_same h.2.1 _, set_other h.2.2.1 (addr_off (by decide)) _, set_other h.2.2.2.1 (addr_off (by decide)) _, fun j => by rw [World.frozen?_setCell]; exact h.2.2.2.2 j⟩
theorem NdAt.set2 (h : NdAt w g O K S T) (X : ByteArray) : NdAt (w.setCell ⟨g, 2, none⟩ (.string X)) g O K X T :=
  ⟨set_other h.1 (addr_off (by decide)) _, set_other h.2.1 (addr_off (by decide)) _, set_same h.2.2.1 _, set_other h.2.2.2.1 (addr_off (by decide)) _, fun j => by rw [World.frozen?_setCell]; exact h.2.2.2.2 j⟩
theorem NdAt.set3 (h : NdAt w g O K S T) (X : ByteArray) : NdAt (w.setCell ⟨g, 3, none⟩ (.string X)) g O K S X :=
  ⟨set_other h.1 (addr_off (by decide)) _, set_other h.2.1 (addr_off (by decide)) _, set_other h.2.2.1 (addr_off (by decide)) _, set_same h.2.2.2.1 _, fun j => by rw [World.frozen?_setCell]; exact h.2.2.2.2 j⟩
end
end Go.Proofs.YthgcbomidamcfaaDoor

/-
  Layer 9 (filter), the program: the range of a node by itself; is a node right; is a filter right.
-/
namespace Go.Proofs.YthgcbomidamcfaaDoor
open Go.RowKit

theorem eq_nd_bare (O K k : Int) (S T : ByteArray) (x y z : Bool) (hx : (K == k) = x) (hy : (S.toList == []) = y) (hz : (T.toList == []) = z) (w : World) :
    (Op.equalIn 10000 35 (.agg #[.int .i64 O, .int .i64 K, .string S, .string T]) (.agg #[.int .i64 O, .int .i64 k, .string ⟨#[]⟩, .string ⟨#[]⟩])).run Tryd.prog w = .ok (x && y && z) w := by
  refine eq_nd _ _ _ _ _ _ _ _ _ ?_ w
  have e : (⟨#[]⟩ : ByteArray).toList = [] := str_toList []
  rw [e, hx, hy, hz, beq_self_eq_true, Bool.true_and]
set_option maxHeartbeats 1000000 in
theorem flt_own (n : Nd) (O K : Int) (S T : ByteArray) (hO : n.op = O) (hS : str n.lo = S) (hT : str n.hi = T) (hl : n.lo.length ≤ 1000000) (r : Rng) (hr : ownR n = r) (U V : ByteArray) (p : Bool) (h : IsR r U V p) (w : World) :
    Calls Tryd.prog 30 #[.agg #[.int .i64 O, .int .i64 K, .string S, .string T]] w fun e w' => e = .returned (.agg #[.string U, .string V, .bool p]) ∧ Below w.heap.size w w' := by
  have HB := Lib.hid (((Below.refl w.heap.size w).alloc (Nat.le_refl _) (.cells #[.int .i64 O, .int .i64 K, .string S, .string T] 35)).alloc (by simp) (.cells #[.string U, .string V, .bool p] 56))
  unfold ownR at hr
  rw [hO] at hr
  by_cases h1 : O = 1
  · rw [if_pos h1] at hr
    subst hr
    have C := fun w => Lib.hid (all_is U V p h w)
    subst h1
    clear hO hS hT h hl HB
    go_enter Tryd.func30, Tryd.ntmps30
    go_wp2_with ((with_reducible refine (C _).out.mono ?_); rintro e w' ⟨rfl, hb⟩; obtain ⟨hc, hf⟩ := bcell hb; replace hb := (((Below.refl w.heap.size w).alloc (Nat.le_refl _) _).alloc (by simp) _).trans (hb.mono (by simp; omega)))
    exact bodyPost_ret (v := .agg #[.string U, .string V, .bool p]) (by simp [results, Tryd.results30, go_sem, hc]) rfl ⟨rfl, below_set3 hb (Nat.le_succ _) _ _ _⟩
  · rw [if_neg h1] at hr
    have n1 : (O == 1) = false := beq_eq_false_iff_ne.2 h1
    by_cases h3 : O = 3
    · rw [if_pos h3] at hr
      have C := fun w => Lib.hid (span_prefix n.lo r S U V p hS hl hr h w)
      subst h3
      clear hO hS hT h hl hr HB h1
      go_enter Tryd.func30, Tryd.ntmps30
      go_wp2_with ((with_reducible refine (C _).out.mono ?_); rintro e w' ⟨rfl, hb⟩; obtain ⟨hc, hf⟩ := bcell hb; replace hb := (((Below.refl w.heap.size w).alloc (Nat.le_refl _) _).alloc (by simp) _).trans (hb.mono (by simp; omega)))
      exact bodyPost_ret (v := .agg #[.string U, .string V, .bool p]) (by simp [results, Tryd.results30, go_sem, hc]) rfl ⟨rfl, below_set3 hb (Nat.le_succ _) _ _ _⟩
    · rw [if_neg h3] at hr
      have n3 : (O == 3) = false := beq_eq_false_iff_ne.2 h3
      by_cases h4 : O = 4
      · rw [if_pos h4] at hr
        subst hr
        obtain ⟨hU, hV, rfl⟩ := h
        obtain rfl : S = U := hS.symm.trans hU
        obtain rfl : T = V := hT.symm.trans hV
        subst h4
        clear hO hS hT hl h1 h3 hU hV
        go_enter Tryd.func30, Tryd.ntmps30
        go_wp2_with fail
        exact bodyPost_ret (v := .agg #[.string S, .string T, .bool false]) (by simp [results, Tryd.results30, go_sem]) rfl ⟨rfl, HB.out⟩
      · rw [if_neg h4] at hr
        have n4 : (O == 4) = false := beq_eq_false_iff_ne.2 h4
        by_cases h5 : O = 5
        · rw [if_pos h5] at hr
          subst hr
          obtain ⟨hU, hV, rfl⟩ := h
          obtain rfl : S = U := hS.symm.trans hU
          obtain rfl : T = V := hT.symm.trans hV
          subst h5
          clear hO hS hT hl h1 h3 h4 hU hV
          go_enter Tryd.func30, Tryd.ntmps30
          go_wp2_with fail
          exact bodyPost_ret (v := .agg #[.string S, .string T, .bool true]) (by simp [results, Tryd.results30, go_sem]) rfl ⟨rfl, HB.out⟩
        · rw [if_neg h5] at hr
          have n5 : (O == 5) = false := beq_eq_false_iff_ne.2 h5
          subst hr
          obtain ⟨rfl, rfl, rfl⟩ := h
          clear hO hS hT hl h1 h3 h4 h5
          go_enter Tryd.func30, Tryd.ntmps30
          go_wp2_with fail
          exact bodyPost_ret (v := .agg #[.string ⟨#[]⟩, .string ⟨#[]⟩, .bool false]) (by simp [results, Tryd.results30, go_sem]) rfl ⟨rfl, HB.out⟩
theorem nodeV_own {n : Nd} (h : n.op = 4 ∨ n.op = 5) : nodeV n = ((n.kids == 0) && rightR (ownR n)) := by
  rcases h with h | h
  · rw [nodeV_4 h]; unfold ownR; rw [if_neg (by omega), if_neg (by omega), if_pos h]
  · rw [nodeV_5 h]; unfold ownR; rw [if_neg (by omega), if_neg (by omega), if_neg (by omega), if_pos h, rightR_open rfl]
theorem nodeV_pre {n : Nd} (h : n.op = 3) : nodeV n = ((n.kids == 0) && (n.hi.isEmpty && rightR (ownR n))) := by
  rw [nodeV_3 h]; unfold ownR; rw [if_neg (by omega), if_pos h, prefixR_rightV, Bool.and_comm (decide _)]
set_option maxHeartbeats 4000000 in
theorem flt_node (n : Nd) (O K : Int) (S T : ByteArray) (hO : n.op = O) (hK : n.kids = K) (hS : str n.lo = S) (hT : str n.hi = T) (hl : n.lo.length ≤ 1000000) (v : Bool) (hv : nodeV n = v) (w : World) :
    Calls Tryd.prog 18 #[.agg #[.int .i64 O, .int .i64 K, .string S, .string T]] w fun e w' => e = .returned (.bool v) ∧ Below w.heap.size w w' := by
  have HB := Lib.hid ((Below.refl w.heap.size w).alloc (Nat.le_refl _) (.cells #[.int .i64 O, .int .i64 K, .string S, .string T] 35))
  have eS := txt_empty hS
  have eT := txt_empty hT
  obtain ⟨vl, hvl⟩ : ∃ vl, n.lo.isEmpty = vl := ⟨_, rfl⟩
  obtain ⟨vh, hvh⟩ : ∃ vh, n.hi.isEmpty = vh := ⟨_, rfl⟩
  rw [hvl] at eS
  rw [hvh] at eT
  obtain ⟨k0, hk0⟩ : ∃ k0, (K == 0) = k0 := ⟨_, rfl⟩
  obtain ⟨r, hr⟩ : ∃ r, ownR n = r := ⟨_, rfl⟩
  obtain ⟨U, hU⟩ : ∃ U, str r.lo = U := ⟨_, rfl⟩
  obtain ⟨V, hV⟩ : ∃ V, str r.hi = V := ⟨_, rfl⟩
  obtain ⟨p, hp⟩ : ∃ p, r.op = p := ⟨_, rfl⟩
  obtain ⟨z, hz⟩ : ∃ z, rightR r = z := ⟨_, rfl⟩
  have CO := fun w => Lib.hid (flt_own n O K S T hO hS hT hl r hr U V p ⟨hU, hV, hp⟩ w)
  have CR := fun w => Lib.hid (span_right r U V p z ⟨hU, hV, hp⟩ hz w)
  clear hU hV hp hl
  by_cases h1 : O = 1 ∨ O = 2
  · have e := nodeV_12 (n := n) (by rw [hO]; exact h1)
    rw [hv, hvl, hvh, hK, hk0, ← Bool.and_assoc] at e
    have EQ := fun w => eq_nd_bare O K 0 S T k0 vl vh hk0 eS eT w
    clear hv hS hT hvl hvh hK hO CO CR hr hz hk0 eS eT
    rw [← e] at EQ
    clear e
    rcases h1 with rfl | rfl
    all_goals
      go_enter Tryd.func18, Tryd.ntmps18
      go_wp2_with fail
      go_ret
      exact ⟨rfl, HB.out⟩
  · have n1 : (O == 1) = false := beq_eq_false_iff_ne.2 fun e => h1 (.inl e)
    have n2 : (O == 2) = false := beq_eq_false_iff_ne.2 fun e => h1 (.inr e)
    by_cases h3 : O = 3
    · have e := nodeV_pre (n := n) (by rw [hO]; exact h3)
      rw [hv, hvh, hK, hk0, hr, hz] at e
      subst e
      clear hv hS hT hvl hvh hK hO eS h1 hr hz
      subst h3
      cases k0
      case' true =>
        cases vh
        case' true =>
          cases z
      all_goals
        go_enter Tryd.func18, Tryd.ntmps18
        go_wp2_with (first
          | ((with_reducible refine (CO _).out.mono ?_); rintro e w1 ⟨rfl, hq⟩; replace HB := Lib.hid (HB.out.trans (hq.mono (by simp))); clear hq)
          | ((with_reducible refine (CR _).out.mono ?_); rintro e w2 ⟨rfl, hq⟩; replace HB := Lib.hid (HB.out.trans (hq.mono HB.out.size)); clear hq))
        go_ret
        exact ⟨rfl, HB.out⟩
    · have n3 : (O == 3) = false := beq_eq_false_iff_ne.2 h3
      by_cases h4 : O = 4 ∨ O = 5
      · have e := nodeV_own (n := n) (by rw [hO]; exact h4)
        rw [hv, hK, hk0, hr, hz] at e
        subst e
        clear hv hS hT hvl hvh hK hO eS eT h1 hr hz h3
        rcases h4 with rfl | rfl
        all_goals
          cases k0
          case' true =>
            cases z
        all_goals
          go_enter Tryd.func18, Tryd.ntmps18
          go_wp2_with (first
            | ((with_reducible refine (CO _).out.mono ?_); rintro e w1 ⟨rfl, hq⟩; replace HB := Lib.hid (HB.out.trans (hq.mono (by simp))); clear hq)
            | ((with_reducible refine (CR _).out.mono ?_); rintro e w2 ⟨rfl, hq⟩; replace HB := Lib.hid (HB.out.trans (hq.mono HB.out.size)); clear hq))
          go_ret
          exact ⟨rfl, HB.out⟩
      · have n4 : (O == 4) = false := beq_eq_false_iff_ne.2 fun e => h4 (.inl e)
        have n5 : (O == 5) = false := beq_eq_false_iff_ne.2 fun e => h4 (.inr e)
        by_cases h6 : O = 6
        · have e := nodeV_6 (n := n) (by rw [hO]; exact h6)
          obtain ⟨k1, hk1⟩ : ∃ k1, (K == 1) = k1 := ⟨_, rfl⟩
          rw [hv, hvl, hvh, hK, hk1, ← Bool.and_assoc, Bool.and_comm, ← Bool.and_assoc] at e
          have EQ := fun w => eq_nd_bare O K 1 S T k1 vl vh hk1 eS eT w
          clear hv hS hT hvl hvh hK hO CO CR hr hz hk0 hk1 eS eT h1 h3 h4
          rw [← e] at EQ
          clear e
          subst h6
          go_enter Tryd.func18, Tryd.ntmps18
          go_wp2_with fail
          go_ret
          exact ⟨rfl, HB.out⟩
        · have n6 : (O == 6) = false := beq_eq_false_iff_ne.2 h6
          by_cases h7 : O = 7 ∨ O = 8
          · have e := nodeV_78 (n := n) (by rw [hO]; exact h7)
            obtain ⟨ka, hka⟩ : ∃ ka, decide (1 ≤ K) = ka := ⟨_, rfl⟩
            obtain ⟨kb, hkb⟩ : ∃ kb, decide (K ≤ 32) = kb := ⟨_, rfl⟩
            have EQ := fun w => eq_nd_bare O K K S T true vl vh (beq_self_eq_true K) eS eT w
            rw [hv, hvl, hvh, hK, hka, hkb] at e
            subst e
            clear hv hS hT hvl hvh hK hO CO CR hr hz hk0 eS eT h1 h3 h4 h6
            rcases h7 with rfl | rfl
            all_goals
              cases vl
              case' true =>
                cases vh
                case' true =>
                  cases ka
                  case' true =>
                    cases kb
            all_goals
              go_enter Tryd.func18, Tryd.ntmps18
              go_wp2_with fail
              go_ret
              exact ⟨rfl, HB.out⟩
          · have n7 : (O == 7) = false := beq_eq_false_iff_ne.2 fun e => h7 (.inl e)
            have n8 : (O == 8) = false := beq_eq_false_iff_ne.2 fun e => h7 (.inr e)
            have e := nodeV_no (n := n) (by rw [hO]; omega)
            rw [hv] at e
            subst e
            clear hv hS hT hvl hvh hK hO CO CR hr hz hk0 eS eT h1 h3 h4 h6 h7
            go_enter Tryd.func18, Tryd.ntmps18
            go_wp2_with fail
            go_ret
            exact ⟨rfl, HB.out⟩
set_option maxHeartbeats 1000000 in
theorem flt_right (A : Option Addr) (c n : Nat) (l : List Nd) (hn : n = l.length) (hl : ∀ r ∈ l, r.lo.length ≤ 1000000) (v : Bool) (hv : rightN l = v) (w : World) (hr : kNd.Rd w w.heap.size A c l) :
    Calls Tryd.prog 12 #[.slice A n c] w fun e w' => e = .returned (.bool v) ∧ Below w.heap.size w w' := by
  have HN := Lib.hid hn
  have HR := Lib.hid hr
  have HV := Lib.hid hv
  have HL := Lib.hid hl
  have hmx : n ≤ 9223372036854775807 := rd_max hr hn
  have hcx : n ≤ c := by rw [hn]; exact hr.room
  by_cases h32 : n ≤ 32
  · have HD : Hid (rightN l = (decide (1 ≤ n) && decide (depV l 0 = some 1))) := by
      unfold rightN
      rw [← hn, decide_eq_true h32, Bool.and_true]
      rfl
    clear hn hr hv hl
    go_enter Tryd.func12, Tryd.ntmps12
    go_wp2_with fail
    go_loopw [3, 11] (fun o i wr => ∃ k d : Nat, k ≤ n ∧ d ≤ k ∧ (0 < k → 0 < d) ∧ Hid (depV l 0 = depV (l.drop k) d) ∧ o = .int .i64 d ∧ i = .int .i64 k ∧ Below w.heap.size w wr) (fun _ i _ => n - (intOf i).toNat)
    case atStart => exact ⟨0, 0, by omega, by omega, by omega, rfl, rfl, rfl, Below.refl _ _⟩
    case round =>
      obtain ⟨k, d, hk, hd9, hd0, HE, rfl, rfl, hb⟩ := hrel
      by_cases hlt : k < n
      · obtain ⟨r, hg, hd, hrm⟩ := get_some (l := l) (k := k) (by have := HN.out; omega)
        obtain ⟨b, o, rfl, hb1, hcell⟩ := nds_at (HR.out.below hb) (by have := HN.out; omega)
        obtain ⟨c0, c1, c2, c3⟩ := hcell k r hg
        obtain ⟨x, hx⟩ : ∃ x, nodeV r = x := ⟨_, rfl⟩
        have C := fun w => Lib.hid (flt_node r _ _ _ _ rfl rfl rfl rfl (HL.out r hrm) x hx w)
        have hb2 := Nat.lt_of_lt_of_le hb1 hb.size
        obtain ⟨O, hO⟩ : ∃ O, r.op = O := ⟨_, rfl⟩
        obtain ⟨K, hK⟩ : ∃ K, r.kids = K := ⟨_, rfl⟩
        obtain ⟨S, hS⟩ : ∃ S, str r.lo = S := ⟨_, rfl⟩
        obtain ⟨T, hT⟩ : ∃ T, str r.hi = T := ⟨_, rfl⟩
        rw [hO, hK, hS, hT] at C
        rw [hO] at c0
        rw [hK] at c1
        rw [hS] at c2
        rw [hT] at c3
        have HB1 := Lib.hid (hb.alloc hb.size (.cells #[.int .i64 O, .int .i64 K, .string S, .string T] 35))
        cases x
        · have HF : Hid (false = v) := by
            have e := HV.out
            rw [HD.out, HE.out, hd, depV_wrong (.inl hx), decide_eq_false (p := none = some 1) (by simp), Bool.and_false] at e
            exact e
          clear hcell hg hd hO hK hS hT hx HE
          go_wp2_with ((with_reducible refine (C _).out.mono ?_); rintro e w2 ⟨rfl, hq⟩; have HB2 := Lib.hid (HB1.out.trans (hq.mono HB1.out.size)); clear hq)
          go_ret
          exact ⟨ret_bool HF.out, HB2.out⟩
        · obtain ⟨g0, g32⟩ := nodeV_kids hx
          rw [hK] at g0 g32
          obtain ⟨q, rfl⟩ : ∃ q : Nat, K = (q : Int) := ⟨K.toNat, by omega⟩
          have hq9 : q ≤ 32 := by omega
          have hkq : kidsN r = q := by unfold kidsN; rw [hK]; rfl
          by_cases hqd : q ≤ d
          · have HE2 := Lib.hid (HE.out.trans (show depV (l.drop k) d = depV (l.drop (k + 1)) (d - q + 1) by rw [hd, depV_node hx (by omega), hkq]))
            have t1 : decide (d < q) = false := decide_eq_false (by omega)
            have t2 : decide ((d : Int) < (q : Int)) = false := decide_eq_false (by omega)
            have hd32 : d ≤ 32 := by omega
            clear hcell hg hd hO hK hS hT hx HE hkq
            go_wp2_with ((with_reducible refine (C _).out.mono ?_); rintro e w2 ⟨rfl, hq⟩; have HB2 := Lib.hid (HB1.out.trans (hq.mono HB1.out.size)); obtain ⟨hc, hf⟩ := bcell hq; clear hq)
            go_roundw
            case rel => exact ⟨k + 1, d - q + 1, by omega, by omega, by omega, HE2, by go_num, by go_num, HB2.out⟩
            case measure => simp [intOf]; omega
          · have HF : Hid (false = v) := by
              have e := HV.out
              rw [HD.out, HE.out, hd, depV_wrong (.inr (by omega)), decide_eq_false (p := none = some 1) (by simp), Bool.and_false] at e
              exact e
            have t1 : decide (d < q) = true := decide_eq_true (by omega)
            have t2 : decide ((d : Int) < (q : Int)) = true := decide_eq_true (by omega)
            clear hcell hg hd hO hK hS hT hx HE hkq
            go_wp2_with ((with_reducible refine (C _).out.mono ?_); rintro e w2 ⟨rfl, hq⟩; have HB2 := Lib.hid (HB1.out.trans (hq.mono HB1.out.size)); obtain ⟨hc, hf⟩ := bcell hq; clear hq)
            go_ret
            exact ⟨ret_bool HF.out, HB2.out⟩
      · have HE2 := Lib.hid (HE.out.trans (show depV (l.drop k) d = some d by rw [List.drop_eq_nil_of_le (by have := HN.out; omega)]; rfl))
        have HF : Hid (((d : Int) == 1) = v) := by
          have e := HV.out
          rw [HD.out, HE2.out] at e
          rw [← e]
          by_cases h1 : d = 1
          · subst h1; rw [decide_eq_true (show 1 ≤ n by omega)]; rfl
          · rw [decide_eq_false (p := some d = some 1) (by simpa using h1), Bool.and_false]
            exact beq_eq_false_iff_ne.2 (by omega)
        clear HE
        go_wp2_with fail
        go_ret
        exact ⟨ret_bool HF.out, hb⟩
  · have HD : Hid (false = v) := by
      have e := HV.out
      unfold rightN at e
      rw [← hn, decide_eq_false h32, Bool.and_false, Bool.false_and] at e
      exact e
    clear hn hr hv hl
    go_enter Tryd.func12, Tryd.ntmps12
    go_wp2_with fail
    go_ret
    exact ⟨ret_bool HD.out, Below.refl _ _⟩
end Go.Proofs.YthgcbomidamcfaaDoor

/-
  Layer 9 (filter), the program: lists of nodes, one behind the other.
-/
namespace Go.Proofs.YthgcbomidamcfaaDoor
open Go.RowKit

theorem flat_len {ls : List (List Nd)} (h : ∀ l ∈ ls, l.length ≤ 1000) (k : Nat) : (ls.take k).flatten.length ≤ k * 1000 := by
  induction k generalizing ls with
  | zero => simp
  | succ k ih =>
    cases ls with
    | nil => simp
    | cons l ls =>
      have h1 := ih (ls := ls) fun m hm => h m (List.mem_cons_of_mem _ hm)
      have h2 := h l (List.mem_cons_self ..)
      rw [List.take_succ_cons, List.flatten_cons, List.length_append]
      omega
theorem take_flat {ls : List (List Nd)} {k : Nat} {l : List Nd} (h : ls[k]? = some l) : (ls.take (k + 1)).flatten = (ls.take k).flatten ++ l := by
  rw [List.take_add_one, h, List.flatten_append]; simp
end Go.Proofs.YthgcbomidamcfaaDoor

/-
  Layer 9 (filter), the program: what is built of lists of nodes.
-/
namespace Go.Proofs.YthgcbomidamcfaaDoor
open Go.RowKit

theorem step_app_k {P : Program} {α : Type} (k : Kind P α) {ops : Array Oper} {w : World} {o : Oper} {a : Act} {K : Act → World → Prop} {Q : Exit → Act → World → Prop} {E : Prop} (hgd : o.guard = none) (s x : Operand)
    (ho : o.op = .call { callee := .builtin .append, args := #[s, x], argTypes := #[k.ty, k.ty] })
    (base : Nat) (v : Value) (xs : List α) (hs : a.eval s = v) (hown : k.Own w base v xs)
    (B : Nat) (A : Option Addr) (c n : Nat) (ys : List α) (hn : n = ys.length) (hx : a.eval x = .slice A n c) (hr : RowAt w B A (k.row ys)) (hlen : xs.length + ys.length ≤ 1000000) (hby : k.bytes ≤ 1000) (hbase : base ≤ w.heap.size)
    (h : ∀ v' w', k.Own w' base v' (xs ++ ys) → w.grownBy w' v.ownBlock → Below base w w' → (v'.ownBlock = v.ownBlock ∨ v'.ownBlock = some w.heap.size) → K (a.put o.dst v') w') :
    if Region.wanted o (yielded ops a.tmps) = true then Oper.wp P o a w K Q else E := by
  rw [if_pos (by simp [Region.wanted, hgd])]
  exact op_app_k k s x ho base v xs hs hown B A c n ys hn hx hr hlen hby hbase h
theorem nd_row (W : World) (n : Nd) (O Q : Int) (S T : ByteArray) (h : n.op = O ∧ n.kids = Q ∧ str n.lo = S ∧ str n.hi = T) :
    RowAt (W.alloc (.cells #[.int .i64 O, .int .i64 Q, .string S, .string T] 35)) (W.heap.size + 1) (some ⟨W.heap.size, 0, none⟩) (kNd.row [n]) := by
  obtain ⟨rfl, rfl, rfl, rfl⟩ := h
  exact (Kind.rd_new (k := kNd) (l := [n]) (n := 1) (by rw [kNd.row_one]; rfl) rfl (by simp)).row
end Go.Proofs.YthgcbomidamcfaaDoor

/-
  Layer 11 (ftext), the program: kids, over next.
-/
namespace Go.Proofs.YthgcbomidamcfaaDoor
open Go.RowKit

/-- What may be handed to the reader of a filter. -/
structure FitP (f : Nat) (s : Ps) : Prop where
  left : s.left ≤ f
  count : s.nodes.length + s.left ≤ 32
  rest : s.rest.length ≤ 1000000
theorem FitP.step {f : Nat} {s t : Ps} (h : FitP f s) (k : StepP s t) : FitP f t := ⟨Nat.le_trans k.left h.left, Nat.le_trans k.count h.count, Nat.le_trans k.rest h.rest⟩
theorem take_step (c : UInt8) (s : Ps) : StepP s (takeP c s) := by
  cases h : takesP c s with
  | false => rw [((must_take c s).2 h).2]; exact StepP.refl s
  | true => rw [← (must_take c s).1 h]; exact must_step c s
theorem loop_stop {g : Ps → Ps} {S : Ps} {m n : Nat} (h : takesP 44 S = false) : loopP g m S n = (n, S) := by
  unfold takesP at h
  cases m with
  | zero => rfl
  | succ m =>
    unfold loopP
    split
    · rfl
    · rename_i d q e
      rw [if_neg]
      intro hd
      rw [e, hd] at h
      simp at h
theorem loop_go {g : Ps → Ps} {S : Ps} {m n : Nat} (h : takesP 44 S = true) (hm : S.rest.length ≤ m) : ∃ m', m = m' + 1 ∧ loopP g m S n = loopP g m' (g (takeP 44 S)) (n + 1) ∧ (takeP 44 S).rest.length ≤ m' := by
  unfold takesP at h
  obtain ⟨r, x, l, k⟩ := S
  cases r with
  | nil => simp at h
  | cons d q =>
    have hd : d = 44 := by simpa using h
    subst hd
    cases m with
    | zero => simp at hm
    | succ m => exact ⟨m, rfl, by simp [loopP, takeP], by simp [takeP] at hm ⊢; omega⟩
/-- The contract of next. -/
def NextAt (f b : Nat) : Prop := ∀ (s : Ps) (v : Value) (w : World), FitP f s → NmsAt w → PsAt b s v w →
  Calls Tryd.prog 15 #[.pointer (some ⟨b, 0, none⟩)] w fun e w' => ∃ v', e = .returned (.tuple #[]) ∧ PsAt b (nextP f s) v' w' ∧ Turn b v v' w w'
set_option maxHeartbeats 4000000 in
theorem ftx_kids (f b : Nat) (hg : 0 < b) (hN : NextAt f b) (s : Ps) (v : Value) (w : World) (hf : FitP f s) (hn : NmsAt w) (h : PsAt b s v w) (K : Int) (hK : ((kidsP (nextP f) s).1 : Int) = K) :
    Calls Tryd.prog 27 #[.pointer (some ⟨b, 0, none⟩)] w fun e w' => ∃ v', e = .returned (.int .i64 K) ∧ PsAt b (kidsP (nextP f) s).2 v' w' ∧ Turn b v v' w w' := by
  have N1 := Lib.hid (hN s v w hf hn h)
  have N2 := fun (S : Ps) (v9 : Value) (w9 : World) (h1 : FitP f S) (h2 : NmsAt w9) (h3 : PsAt b S v9 w9) => Lib.hid (hN S v9 w9 h1 h2 h3)
  have T0 := fun (S : Ps) (v9 : Value) (w9 : World) (x : Bool) (hx : takesP 44 S = x) (h3 : PsAt b S v9 w9) => Lib.hid (ftx_take b S v9 44 ⟨#[44]⟩ rfl x hx w9 h3)
  have HF0 := Lib.hid (hf.step (next_step f s hf.left))
  have HNM := Lib.hid hn
  obtain ⟨FIN, hFIN⟩ : ∃ p, kidsP (nextP f) s = p := ⟨_, rfl⟩
  rw [hFIN] at hK ⊢
  have HFIN := Lib.hid hFIN
  have HKK := Lib.hid hK
  have HHN := Lib.hid hN
  clear hN hf hn h hFIN hK
  go_enter Tryd.func27, Tryd.ntmps27
  go_wp2_with ((with_reducible refine N1.out.mono ?_); rintro e w1 ⟨v1, rfl, hp, hq⟩; have HP := Lib.hid hp; have HT := Lib.hid hq; clear hp hq)
  go_loopg [3] (nextP f s).rest.length (fun m i wr => ∃ (n : Nat) (S : Ps) (v9 : Value), i = .int .i64 (n : Int) ∧ Hid (loopP (nextP f) m S n = FIN) ∧ Hid (S.rest.length ≤ m) ∧ n + m ≤ 2000000 ∧ Hid (FitP f S) ∧ Hid (PsAt b S v9 wr) ∧ Hid (Turn b v v9 w wr))
  case atStart => exact ⟨1, _, _, by go_num, HFIN, Lib.hid (Nat.le_refl _), by have := HF0.out.rest; omega, HF0, HP, HT⟩
  case round =>
    obtain ⟨n, S, v9, rfl, HL, HM, hnm, HF, HPS, HTS⟩ := hrel
    clear HP HT HF0 HFIN
    obtain ⟨x, hx⟩ : ∃ x, takesP 44 S = x := ⟨_, rfl⟩
    have T1 := T0 S v9 wr x hx HPS.out
    have HXX := Lib.hid hx
    clear T0 hx
    cases x
    · have HE := HL.out
      rw [loop_stop HXX.out] at HE
      have HEE := Lib.hid HE
      have HTK := Lib.hid ((must_take 44 S).2 HXX.out).2
      clear HE
      go_wp2_with ((with_reducible refine T1.out.mono ?_); rintro e w2 ⟨rfl, hp, hq⟩; have HP := Lib.hid hp; have HT := Lib.hid (HTS.out.trans hq); clear hp hq)
      go_ret
      refine ⟨v9, ret_int ?_, ?_, HT.out⟩
      · rw [← HKK.out, ← HEE.out]
      · have := HP.out; rw [HTK.out] at this; rw [← HEE.out]; exact this
    · obtain ⟨m', hm', hl', hr'⟩ := loop_go (g := nextP f) (n := n) HXX.out HM.out
      subst hm'
      have HE := Lib.hid (hl'.symm.trans HL.out)
      have HF2 := Lib.hid (HF.out.step (take_step 44 S))
      have HST := Lib.hid (next_step f (takeP 44 S) HF2.out.left)
      have HR := Lib.hid (Nat.le_trans HST.out.rest hr')
      clear hl' hr'
      go_wp2_with (first
        | ((with_reducible refine T1.out.mono ?_); rintro e w2 ⟨rfl, hp, hq⟩; have HP := Lib.hid hp; have HT := Lib.hid (HTS.out.trans hq); have HN9 := Lib.hid (HNM.out.below HT.out.below hg); clear hp hq)
        | ((with_reducible refine (N2 _ _ _ HF2.out HN9.out HP.out).out.mono ?_); rintro e w3 ⟨v3, rfl, hp, hq⟩; replace HP := Lib.hid hp; replace HT := Lib.hid (HT.out.trans hq); clear hp hq))
      go_roundg m'
      case measure => omega
      case rel => exact ⟨n + 1, _, v3, by go_num, HE, HR, by omega, Lib.hid (HF2.out.step HST.out), HP, HT⟩
end Go.Proofs.YthgcbomidamcfaaDoor

/-
  Layer 11 (ftext), the program: next.
-/
namespace Go.Proofs.YthgcbomidamcfaaDoor
open Go.RowKit

theorem NdAt.turn {b g : Nat} {v v' : Value} {w w' : World} {O K : Int} {S T : ByteArray} (h : NdAt w g O K S T) (k : Turn b v v' w w') (hb : g ≠ b) (hv : v.ownBlock ≠ some g) : NdAt w' g O K S T := by
  have e := k.keep g h.lt hb hv
  obtain ⟨h0, h1, h2, h3, h4⟩ := h
  have ec : ∀ k, w'.cell? ⟨g, k, none⟩ = w.cell? ⟨g, k, none⟩ := fun k => by unfold World.cell?; simp only [e]
  have ef : ∀ k, w'.frozen? ⟨g, k, none⟩ = w.frozen? ⟨g, k, none⟩ := fun k => by unfold World.frozen?; simp only [e]
  exact ⟨(ec 0).trans h0, (ec 1).trans h1, (ec 2).trans h2, (ec 3).trans h3, fun k => (ef k).trans (h4 k)⟩
theorem PsAt.far {b g k : Nat} {s : Ps} {v x : Value} {w : World} (h : PsAt b s v w) (hb : g ≠ b) (hv : v.ownBlock ≠ some g) : PsAt b s v (w.setCell ⟨g, k, none⟩ x) :=
  ⟨set_other h.r0 (addr_block hb) _, set_other h.r1 (addr_block hb) _, set_other h.r2 (addr_block hb) _, set_other h.r3 (addr_block hb) _, fun j => by rw [World.frozen?_setCell]; exact h.free j, h.own.kept (grownBy_set _ _ _ _) (.inr hv)⟩
/-- The node's block stands apart from the reader's. -/
structure ApartP (b g : Nat) (w0 : World) (v0 v : Value) (w : World) : Prop where
  ne : g ≠ b
  own : v.ownBlock ≠ some g
  below : Below b w0 w
  far : ∀ j, j < w0.heap.size → j ≠ b → v0.ownBlock ≠ some j → w.heap[j]? = w0.heap[j]?
  from_ : ∀ j, v.ownBlock = some j → v0.ownBlock = some j ∨ w0.heap.size ≤ j
  new : w0.heap.size ≤ g
theorem ApartP.turn {b g : Nat} {w0 w w' : World} {v0 v v' : Value} (h : ApartP b g w0 v0 v w) (k : Turn b v v' w w') (hl : g < w.heap.size) : ApartP b g w0 v0 v' w' := by
  have h0 : Turn b v0 v w0 w := ⟨h.below, h.far, h.from_⟩
  have h1 := h0.trans k
  refine ⟨h.ne, fun e => ?_, h1.below, h1.keep, h1.own, h.new⟩
  rcases k.own g e with h2 | h2
  · exact h.own h2
  · omega
theorem ApartP.set {b g k : Nat} {w0 w : World} {v0 v x : Value} (h : ApartP b g w0 v0 v w) (hb : b ≤ w0.heap.size) : ApartP b g w0 v0 v (w.setCell ⟨g, k, none⟩ x) := by
  have hg := h.new
  refine ⟨h.ne, h.own, h.below.setCell (p := ⟨g, k, none⟩) (by show b ≤ g; omega) x, fun j hj hb hv => ((grownBy_set w g k x).block j (Nat.lt_of_lt_of_le hj h.below.size) (fun e => ?_)).trans (h.far j hj hb hv), h.from_, h.new⟩
  injection e with e
  omega
theorem set_below_at {w w0 : World} {b g k : Nat} {x : Value} (hg : w0.heap.size ≤ g) (hb : b ≤ w0.heap.size) : Below b w (w.setCell ⟨g, k, none⟩ x) := (Below.refl b w).setCell (p := ⟨g, k, none⟩) (by show b ≤ g; omega) x
/-- What stands ahead of the last statement of next: the node is made. -/
def TailP (b g : Nat) (w0 : World) (v0 : Value) (R : Ps) (wx : World) : Prop := ∃ (S : Ps) (v9 : Value) (n : Nd) (O K : Int) (X Y : ByteArray),
  putP n S = R ∧ PsAt b S v9 wx ∧ NdAt wx g O K X Y ∧ (n.op = O ∧ n.kids = K ∧ str n.lo = X ∧ str n.hi = Y) ∧ ApartP b g w0 v0 v9 wx ∧ S.nodes.length ≤ 100
theorem next_end {b g : Nat} {w wc w2 w3 : World} {v v9 v3 : Value} {S R : Ps} {n : Nd} (h : PsAt b S v9 wc) (ha : ApartP b g w v v9 wc) (h2 : PsAt b S v9 w2) (ho : kNd.Own w3 (b + 1) v3 (S.nodes ++ [n])) (hg : w2.grownBy w3 v9.ownBlock) (hb : Below (b + 1) w2 w3) (hv : v3.ownBlock = v9.ownBlock ∨ v3.ownBlock = some w2.heap.size) (hp : putP n S = R)
    (h12 : Below wc.heap.size wc w2) : ∃ v', Ending.returned (.tuple #[]) = .returned (.tuple #[]) ∧ PsAt b R v' (w3.setCell ⟨b, 2, none⟩ v3) ∧ Turn b v v' w (w3.setCell ⟨b, 2, none⟩ v3) := by
  subst hp
  obtain ⟨kc, kf⟩ := bcell hb
  have hl := Nat.lt_succ_self b
  refine ⟨v3, rfl, ⟨?_, ?_, ?_, ?_, fun j => ?_, ?_⟩, ?_⟩
  · exact set_other ((kc _ _ hl).trans h2.r0) (addr_off (by decide)) _
  · exact set_other ((kc _ _ hl).trans h2.r1) (addr_off (by decide)) _
  · exact set_same ((kc _ _ hl).trans h2.r2) _
  · exact set_other ((kc _ _ hl).trans h2.r3) (addr_off (by decide)) _
  · rw [World.frozen?_setCell]; exact (kf _ _ hl).trans (h2.free j)
  · exact ho.other (grownBy_set _ _ _ _) hl
  · have t1 : Turn b v v9 w wc := ⟨ha.below, ha.far, ha.from_⟩
    have t2 : Turn b v9 v9 wc w2 := Turn.of_below h12 h.lt
    have t3 : Turn b v9 v3 w2 w3 := by
      refine ⟨hb.mono (Nat.le_succ b), fun j hj _ hv9 => hg.block j hj (fun e => hv9 e.symm), fun q hq => ?_⟩
      rcases hv with e | e
      · exact .inl (e ▸ hq)
      · rw [e] at hq; injection hq with hq; exact .inr (Nat.le_of_eq hq)
    exact ((t1.trans t2).trans t3).trans set_turn
set_option maxHeartbeats 8000000 in
set_option maxRecDepth 100000 in
theorem ftx_next_go (f b : Nat) (hg : 0 < b) (hN : NextAt f b) (s : Ps) (v : Value) (w : World) (hl : 1 ≤ s.left) (hf : FitP (f + 1) s) (hn : NmsAt w) (h : PsAt b s v w) :
    Calls Tryd.prog 15 #[.pointer (some ⟨b, 0, none⟩)] w fun e w' => ∃ v', e = .returned (.tuple #[]) ∧ PsAt b (nextP (f + 1) s) v' w' ∧ Turn b v v' w w' := by
  have hnx : nextP (f + 1) s = bodyP (nextP f) (kindV (plainP s.rest)) (cutP (beginP s)) := by rw [nextP, if_neg (by omega)]
  rw [hnx]
  clear hnx
  have hlt := h.lt
  have hrl := hf.rest
  obtain ⟨M, hM⟩ : ∃ M, 32 - s.left = M := ⟨_, rfl⟩
  have hM9 : M ≤ 31 := by omega
  have r3 := h.r3
  have rf := h.free
  rw [hM] at r3
  have ht : ((M : Int) == 32) = false := beq_eq_false_iff_ne.2 (by omega)
  have HP0 := Lib.hid (h.set3 (s.left - 1) (x := (M : Int) + 1) (by have := hf.count; omega))
  have HT0 := Lib.hid (set_turn (w := w) (b := b) (v := v) (k := 3) (x := .int .i64 ((M : Int) + 1)))
  have HN0 := Lib.hid (hn.below HT0.out.below hg)
  obtain ⟨P, hP⟩ : ∃ P, str (plainP s.rest) = P := ⟨_, rfl⟩
  have K1 := Lib.hid (ftx_plain b (beginP s) v hf.rest P hP _ HP0.out)
  have K2 := fun w9 (h9 : NmsAt w9) => Lib.hid (ftx_kind (plainP s.rest) P hP w9 h9)
  obtain ⟨op, hop⟩ : ∃ op, kindV (plainP s.rest) = op := ⟨_, rfl⟩
  rw [hop] at K2 ⊢
  have hops : op = 0 ∨ op = 1 ∨ op = 2 ∨ op = 3 ∨ op = 4 ∨ op = 5 ∨ op = 6 ∨ op = 7 ∨ op = 8 := by
    rcases kind_name (b := plainP s.rest) with h | ⟨h1, h2, -⟩ <;> omega
  have HF0 : Hid (FitP f (cutP (beginP s))) := Lib.hid ⟨by simp only [cutP, beginP]; have := hf.left; omega, by simp only [cutP, beginP]; have := hf.count; omega, Nat.le_trans (drop_len _) hf.rest⟩
  obtain ⟨s0, hs0⟩ : ∃ s0, cutP (beginP s) = s0 := ⟨_, rfl⟩
  rw [hs0] at HF0 K1 ⊢
  have HHN := Lib.hid hN
  have HOPS := Lib.hid hops
  obtain ⟨R, hR⟩ : ∃ R, bodyP (nextP f) op s0 = R := ⟨_, rfl⟩
  rw [hR]
  have HRR := Lib.hid hR
  have hbw : b ≤ w.heap.size := Nat.le_of_lt hlt
  have HVL := Lib.hid h.own.lt
  clear hM hP hop hops hs0 hf hn h hrl hN hR hl
  go_enter Tryd.func15, Tryd.ntmps15
  go_upto_block 0 with (first
    | ((with_reducible refine K1.out.mono ?_); rintro e w1 ⟨rfl, hp, hq⟩; have HP := Lib.hid hp; have HT := Lib.hid (HT0.out.trans hq); have HN1 := Lib.hid (HN0.out.below hq.below hg); clear hp hq K1 HP0 HT0 HN0 rf r3)
    | ((with_reducible refine (K2 _ HN1.out).out.mono ?_); rintro e w2 ⟨rfl, rfl⟩))
  have HG := Lib.hid (ndAt_new w1 op 0 ⟨#[]⟩ ⟨#[]⟩ 35)
  have HPN := Lib.hid (HP.out.below (below_new w1 (.cells #[.int .i64 op, .int .i64 0, .string ⟨#[]⟩, .string ⟨#[]⟩] 35)))
  have HA : Hid (ApartP b w1.heap.size w v v (w1.alloc (.cells #[.int .i64 op, .int .i64 0, .string ⟨#[]⟩, .string ⟨#[]⟩] 35))) := by
    have h1 := HT.out.trans (Turn.of_below (v := v) (below_new w1 (.cells #[.int .i64 op, .int .i64 0, .string ⟨#[]⟩, .string ⟨#[]⟩] 35)) HP.out.lt)
    refine Lib.hid ⟨Nat.ne_of_gt HP.out.lt, fun e => ?_, h1.below, h1.keep, h1.own, HT.out.below.size⟩
    have := (HVL.out _ e).2
    have := HT.out.below.size
    omega
  have HN := Lib.hid (HN1.out.below (below_new w1 (.cells #[.int .i64 op, .int .i64 0, .string ⟨#[]⟩, .string ⟨#[]⟩] 35)) (Nat.lt_trans hg HP.out.lt))
  clear HP HT HN1
  have HP := HPN
  have HF := HF0
  clear HPN HF0
  obtain ⟨w2, hw2⟩ : ∃ w2, w1.alloc (.cells #[.int .i64 op, .int .i64 0, .string ⟨#[]⟩, .string ⟨#[]⟩] 35) = w2 := ⟨_, rfl⟩
  obtain ⟨G, hG⟩ : ∃ G, w1.heap.size = G := ⟨_, rfl⟩
  rw [hw2] at HG HP HA HN ⊢
  rw [hG] at HG HA ⊢
  clear hw2 hG
  go_cut [] from 31 to 88 (fun wx => Hid (TailP b G w v R wx))
  case first =>
    rcases HOPS.out with rfl | rfl | rfl | rfl | rfl | rfl | rfl | rfl | rfl
    · have hR := HRR.out
      rw [bodyP, if_neg (by decide), if_neg (by decide), if_neg (by decide), if_neg (by decide)] at hR
      go_wp2_with fail
      refine (ftx_fail b _ _ _ HP.out).mono ?_
      rintro e w3 ⟨rfl, hp, hq⟩
      have hl := HG.out.lt; replace HG := Lib.hid (HG.out.turn hq HA.out.ne HA.out.own); replace HA := Lib.hid (HA.out.turn hq hl); replace HN := Lib.hid (HN.out.below hq.below hg); replace HP := Lib.hid hp; replace HF := Lib.hid (HF.out.step (fail_step _)); clear hp hq hl
      go_wp2_with fail
      go_meet
      refine Lib.hid ⟨_, _, ⟨0, 0, [], []⟩, _, _, _, _, hR, HP.out, HG.out, ⟨rfl, rfl, rfl, rfl⟩, HA.out, by have := HF.out.count; omega⟩
    · have hR := HRR.out
      rw [bodyP, if_pos (by decide)] at hR
      go_wp2_with fail
      go_meet
      refine Lib.hid ⟨_, _, ⟨1, 0, [], []⟩, _, _, _, _, hR, HP.out, HG.out, ⟨rfl, rfl, rfl, rfl⟩, HA.out, by have := HF.out.count; omega⟩
    · have hR := HRR.out
      rw [bodyP, if_pos (by decide)] at hR
      go_wp2_with fail
      go_meet
      refine Lib.hid ⟨_, _, ⟨2, 0, [], []⟩, _, _, _, _, hR, HP.out, HG.out, ⟨rfl, rfl, rfl, rfl⟩, HA.out, by have := HF.out.count; omega⟩
    · have hR := HRR.out
      rw [bodyP, if_neg (by decide), if_pos (by decide)] at hR
      obtain ⟨T1, hT1⟩ : ∃ T, str (textP (mustP 40 s0)).1 = T := ⟨_, rfl⟩
      go_wp2_with fail
      refine (ftx_must b _ _ 40 ⟨#[40]⟩ rfl _ HP.out).mono ?_
      rintro e w3 ⟨rfl, hp, hq⟩
      have hl := HG.out.lt; replace HG := Lib.hid (HG.out.turn hq HA.out.ne HA.out.own); replace HA := Lib.hid (HA.out.turn hq hl); replace HN := Lib.hid (HN.out.below hq.below hg); replace HP := Lib.hid hp; replace HF := Lib.hid (HF.out.step (must_step 40 _)); clear hp hq hl
      go_wp2_with fail
      refine (ftx_text b _ _ HF.out.rest T1 hT1 _ HP.out).mono ?_
      rintro e w4 ⟨rfl, hp, hq⟩
      have hl := HG.out.lt; replace HG := Lib.hid (HG.out.turn hq HA.out.ne HA.out.own); replace HA := Lib.hid (HA.out.turn hq hl); replace HN := Lib.hid (HN.out.below hq.below hg); replace HP := Lib.hid hp; replace HF := Lib.hid (HF.out.step (text_step _).1); clear hp hq hl
      obtain ⟨g0, g1, g2, g3, gz⟩ := HG.out
      go_wp2_with fail
      replace HG := Lib.hid (HG.out.set2 T1)
      replace HP := Lib.hid (HP.out.far (k := 2) (x := .string T1) HA.out.ne HA.out.own)
      replace HN := Lib.hid (HN.out.below (set_below_at (k := 2) (x := .string T1) HA.out.new hbw) hg)
      replace HA := Lib.hid (HA.out.set (k := 2) (x := .string T1) hbw)
      clear g0 g1 g2 g3 gz
      go_wp2_with fail
      refine (ftx_must b _ _ 41 ⟨#[41]⟩ rfl _ HP.out).mono ?_
      rintro e w5 ⟨rfl, hp, hq⟩
      have hl := HG.out.lt; replace HG := Lib.hid (HG.out.turn hq HA.out.ne HA.out.own); replace HA := Lib.hid (HA.out.turn hq hl); replace HN := Lib.hid (HN.out.below hq.below hg); replace HP := Lib.hid hp; replace HF := Lib.hid (HF.out.step (must_step 41 _)); clear hp hq hl
      go_wp2_with fail
      go_meet
      refine Lib.hid ⟨_, _, ⟨3, 0, _, []⟩, _, _, _, _, hR, HP.out, HG.out, ⟨rfl, rfl, hT1, rfl⟩, HA.out, by have := HF.out.count; omega⟩
    · have hR := HRR.out
      rw [bodyP, if_neg (by decide), if_neg (by decide), if_pos (by decide)] at hR
      obtain ⟨T1, hT1⟩ : ∃ T, str (textP (mustP 40 s0)).1 = T := ⟨_, rfl⟩
      obtain ⟨T2, hT2⟩ : ∃ T, str (textP (mustP 44 (textP (mustP 40 s0)).2)).1 = T := ⟨_, rfl⟩
      go_wp2_with fail
      refine (ftx_must b _ _ 40 ⟨#[40]⟩ rfl _ HP.out).mono ?_
      rintro e w3 ⟨rfl, hp, hq⟩
      have hl := HG.out.lt; replace HG := Lib.hid (HG.out.turn hq HA.out.ne HA.out.own); replace HA := Lib.hid (HA.out.turn hq hl); replace HN := Lib.hid (HN.out.below hq.below hg); replace HP := Lib.hid hp; replace HF := Lib.hid (HF.out.step (must_step 40 _)); clear hp hq hl
      go_wp2_with fail
      refine (ftx_text b _ _ HF.out.rest T1 hT1 _ HP.out).mono ?_
      rintro e w4 ⟨rfl, hp, hq⟩
      have hl := HG.out.lt; replace HG := Lib.hid (HG.out.turn hq HA.out.ne HA.out.own); replace HA := Lib.hid (HA.out.turn hq hl); replace HN := Lib.hid (HN.out.below hq.below hg); replace HP := Lib.hid hp; replace HF := Lib.hid (HF.out.step (text_step _).1); clear hp hq hl
      obtain ⟨g0, g1, g2, g3, gz⟩ := HG.out
      go_wp2_with fail
      replace HG := Lib.hid (HG.out.set2 T1)
      replace HP := Lib.hid (HP.out.far (k := 2) (x := .string T1) HA.out.ne HA.out.own)
      replace HN := Lib.hid (HN.out.below (set_below_at (k := 2) (x := .string T1) HA.out.new hbw) hg)
      replace HA := Lib.hid (HA.out.set (k := 2) (x := .string T1) hbw)
      clear g0 g1 g2 g3 gz
      go_wp2_with fail
      refine (ftx_must b _ _ 44 ⟨#[44]⟩ rfl _ HP.out).mono ?_
      rintro e w5 ⟨rfl, hp, hq⟩
      have hl := HG.out.lt; replace HG := Lib.hid (HG.out.turn hq HA.out.ne HA.out.own); replace HA := Lib.hid (HA.out.turn hq hl); replace HN := Lib.hid (HN.out.below hq.below hg); replace HP := Lib.hid hp; replace HF := Lib.hid (HF.out.step (must_step 44 _)); clear hp hq hl
      go_wp2_with fail
      refine (ftx_text b _ _ HF.out.rest T2 hT2 _ HP.out).mono ?_
      rintro e w6 ⟨rfl, hp, hq⟩
      have hl := HG.out.lt; replace HG := Lib.hid (HG.out.turn hq HA.out.ne HA.out.own); replace HA := Lib.hid (HA.out.turn hq hl); replace HN := Lib.hid (HN.out.below hq.below hg); replace HP := Lib.hid hp; replace HF := Lib.hid (HF.out.step (text_step _).1); clear hp hq hl
      obtain ⟨g0, g1, g2, g3, gz⟩ := HG.out
      go_wp2_with fail
      replace HG := Lib.hid (HG.out.set3 T2)
      replace HP := Lib.hid (HP.out.far (k := 3) (x := .string T2) HA.out.ne HA.out.own)
      replace HN := Lib.hid (HN.out.below (set_below_at (k := 3) (x := .string T2) HA.out.new hbw) hg)
      replace HA := Lib.hid (HA.out.set (k := 3) (x := .string T2) hbw)
      clear g0 g1 g2 g3 gz
      go_wp2_with fail
      refine (ftx_must b _ _ 41 ⟨#[41]⟩ rfl _ HP.out).mono ?_
      rintro e w7 ⟨rfl, hp, hq⟩
      have hl := HG.out.lt; replace HG := Lib.hid (HG.out.turn hq HA.out.ne HA.out.own); replace HA := Lib.hid (HA.out.turn hq hl); replace HN := Lib.hid (HN.out.below hq.below hg); replace HP := Lib.hid hp; replace HF := Lib.hid (HF.out.step (must_step 41 _)); clear hp hq hl
      go_wp2_with fail
      go_meet
      refine Lib.hid ⟨_, _, ⟨4, 0, _, _⟩, _, _, _, _, hR, HP.out, HG.out, ⟨rfl, rfl, hT1, hT2⟩, HA.out, by have := HF.out.count; omega⟩
    · have hR := HRR.out
      rw [bodyP, if_neg (by decide), if_pos (by decide)] at hR
      obtain ⟨T1, hT1⟩ : ∃ T, str (textP (mustP 40 s0)).1 = T := ⟨_, rfl⟩
      go_wp2_with fail
      refine (ftx_must b _ _ 40 ⟨#[40]⟩ rfl _ HP.out).mono ?_
      rintro e w3 ⟨rfl, hp, hq⟩
      have hl := HG.out.lt; replace HG := Lib.hid (HG.out.turn hq HA.out.ne HA.out.own); replace HA := Lib.hid (HA.out.turn hq hl); replace HN := Lib.hid (HN.out.below hq.below hg); replace HP := Lib.hid hp; replace HF := Lib.hid (HF.out.step (must_step 40 _)); clear hp hq hl
      go_wp2_with fail
      refine (ftx_text b _ _ HF.out.rest T1 hT1 _ HP.out).mono ?_
      rintro e w4 ⟨rfl, hp, hq⟩
      have hl := HG.out.lt; replace HG := Lib.hid (HG.out.turn hq HA.out.ne HA.out.own); replace HA := Lib.hid (HA.out.turn hq hl); replace HN := Lib.hid (HN.out.below hq.below hg); replace HP := Lib.hid hp; replace HF := Lib.hid (HF.out.step (text_step _).1); clear hp hq hl
      obtain ⟨g0, g1, g2, g3, gz⟩ := HG.out
      go_wp2_with fail
      replace HG := Lib.hid (HG.out.set2 T1)
      replace HP := Lib.hid (HP.out.far (k := 2) (x := .string T1) HA.out.ne HA.out.own)
      replace HN := Lib.hid (HN.out.below (set_below_at (k := 2) (x := .string T1) HA.out.new hbw) hg)
      replace HA := Lib.hid (HA.out.set (k := 2) (x := .string T1) hbw)
      clear g0 g1 g2 g3 gz
      go_wp2_with fail
      refine (ftx_must b _ _ 41 ⟨#[41]⟩ rfl _ HP.out).mono ?_
      rintro e w5 ⟨rfl, hp, hq⟩
      have hl := HG.out.lt; replace HG := Lib.hid (HG.out.turn hq HA.out.ne HA.out.own); replace HA := Lib.hid (HA.out.turn hq hl); replace HN := Lib.hid (HN.out.below hq.below hg); replace HP := Lib.hid hp; replace HF := Lib.hid (HF.out.step (must_step 41 _)); clear hp hq hl
      go_wp2_with fail
      go_meet
      refine Lib.hid ⟨_, _, ⟨5, 0, _, []⟩, _, _, _, _, hR, HP.out, HG.out, ⟨rfl, rfl, hT1, rfl⟩, HA.out, by have := HF.out.count; omega⟩
    · have hR := HRR.out
      rw [bodyP, if_neg (by decide), if_neg (by decide), if_neg (by decide), if_pos (by decide)] at hR
      obtain ⟨K1, hK1⟩ : ∃ K : Int, ((kidsP (nextP f) (mustP 40 s0)).1 : Int) = K := ⟨_, rfl⟩
      go_wp2_with fail
      refine (ftx_must b _ _ 40 ⟨#[40]⟩ rfl _ HP.out).mono ?_
      rintro e w3 ⟨rfl, hp, hq⟩
      have hl := HG.out.lt; replace HG := Lib.hid (HG.out.turn hq HA.out.ne HA.out.own); replace HA := Lib.hid (HA.out.turn hq hl); replace HN := Lib.hid (HN.out.below hq.below hg); replace HP := Lib.hid hp; replace HF := Lib.hid (HF.out.step (must_step 40 _)); clear hp hq hl
      go_wp2_with fail
      refine (ftx_kids f b hg HHN.out _ _ _ HF.out HN.out HP.out K1 hK1).mono ?_
      rintro e w4 ⟨v4, rfl, hp, hq⟩
      have hl := HG.out.lt; replace HG := Lib.hid (HG.out.turn hq HA.out.ne HA.out.own); replace HA := Lib.hid (HA.out.turn hq hl); replace HN := Lib.hid (HN.out.below hq.below hg); replace HP := Lib.hid hp; replace HF := Lib.hid (HF.out.step (kids_step (fun s h => next_step f s h) _ HF.out.left)); clear hp hq hl
      obtain ⟨g0, g1, g2, g3, gz⟩ := HG.out
      go_wp2_with fail
      replace HG := Lib.hid (HG.out.set1 K1)
      replace HP := Lib.hid (HP.out.far (k := 1) (x := .int .i64 K1) HA.out.ne HA.out.own)
      replace HN := Lib.hid (HN.out.below (set_below_at (k := 1) (x := .int .i64 K1) HA.out.new hbw) hg)
      replace HA := Lib.hid (HA.out.set (k := 1) (x := .int .i64 K1) hbw)
      clear g0 g1 g2 g3 gz
      go_wp2_with fail
      refine (ftx_must b _ _ 41 ⟨#[41]⟩ rfl _ HP.out).mono ?_
      rintro e w5 ⟨rfl, hp, hq⟩
      have hl := HG.out.lt; replace HG := Lib.hid (HG.out.turn hq HA.out.ne HA.out.own); replace HA := Lib.hid (HA.out.turn hq hl); replace HN := Lib.hid (HN.out.below hq.below hg); replace HP := Lib.hid hp; replace HF := Lib.hid (HF.out.step (must_step 41 _)); clear hp hq hl
      go_wp2_with fail
      go_meet
      refine Lib.hid ⟨_, _, ⟨6, _, [], []⟩, _, _, _, _, hR, HP.out, HG.out, ⟨rfl, hK1, rfl, rfl⟩, HA.out, by have := HF.out.count; omega⟩
    · have hR := HRR.out
      rw [bodyP, if_neg (by decide), if_neg (by decide), if_neg (by decide), if_pos (by decide)] at hR
      obtain ⟨K1, hK1⟩ : ∃ K : Int, ((kidsP (nextP f) (mustP 40 s0)).1 : Int) = K := ⟨_, rfl⟩
      go_wp2_with fail
      refine (ftx_must b _ _ 40 ⟨#[40]⟩ rfl _ HP.out).mono ?_
      rintro e w3 ⟨rfl, hp, hq⟩
      have hl := HG.out.lt; replace HG := Lib.hid (HG.out.turn hq HA.out.ne HA.out.own); replace HA := Lib.hid (HA.out.turn hq hl); replace HN := Lib.hid (HN.out.below hq.below hg); replace HP := Lib.hid hp; replace HF := Lib.hid (HF.out.step (must_step 40 _)); clear hp hq hl
      go_wp2_with fail
      refine (ftx_kids f b hg HHN.out _ _ _ HF.out HN.out HP.out K1 hK1).mono ?_
      rintro e w4 ⟨v4, rfl, hp, hq⟩
      have hl := HG.out.lt; replace HG := Lib.hid (HG.out.turn hq HA.out.ne HA.out.own); replace HA := Lib.hid (HA.out.turn hq hl); replace HN := Lib.hid (HN.out.below hq.below hg); replace HP := Lib.hid hp; replace HF := Lib.hid (HF.out.step (kids_step (fun s h => next_step f s h) _ HF.out.left)); clear hp hq hl
      obtain ⟨g0, g1, g2, g3, gz⟩ := HG.out
      go_wp2_with fail
      replace HG := Lib.hid (HG.out.set1 K1)
      replace HP := Lib.hid (HP.out.far (k := 1) (x := .int .i64 K1) HA.out.ne HA.out.own)
      replace HN := Lib.hid (HN.out.below (set_below_at (k := 1) (x := .int .i64 K1) HA.out.new hbw) hg)
      replace HA := Lib.hid (HA.out.set (k := 1) (x := .int .i64 K1) hbw)
      clear g0 g1 g2 g3 gz
      go_wp2_with fail
      refine (ftx_must b _ _ 41 ⟨#[41]⟩ rfl _ HP.out).mono ?_
      rintro e w5 ⟨rfl, hp, hq⟩
      have hl := HG.out.lt; replace HG := Lib.hid (HG.out.turn hq HA.out.ne HA.out.own); replace HA := Lib.hid (HA.out.turn hq hl); replace HN := Lib.hid (HN.out.below hq.below hg); replace HP := Lib.hid hp; replace HF := Lib.hid (HF.out.step (must_step 41 _)); clear hp hq hl
      go_wp2_with fail
      go_meet
      refine Lib.hid ⟨_, _, ⟨7, _, [], []⟩, _, _, _, _, hR, HP.out, HG.out, ⟨rfl, hK1, rfl, rfl⟩, HA.out, by have := HF.out.count; omega⟩
    · have hR := HRR.out
      rw [bodyP, if_neg (by decide), if_neg (by decide), if_neg (by decide), if_pos (by decide)] at hR
      obtain ⟨K1, hK1⟩ : ∃ K : Int, ((kidsP (nextP f) (mustP 40 s0)).1 : Int) = K := ⟨_, rfl⟩
      go_wp2_with fail
      refine (ftx_must b _ _ 40 ⟨#[40]⟩ rfl _ HP.out).mono ?_
      rintro e w3 ⟨rfl, hp, hq⟩
      have hl := HG.out.lt; replace HG := Lib.hid (HG.out.turn hq HA.out.ne HA.out.own); replace HA := Lib.hid (HA.out.turn hq hl); replace HN := Lib.hid (HN.out.below hq.below hg); replace HP := Lib.hid hp; replace HF := Lib.hid (HF.out.step (must_step 40 _)); clear hp hq hl
      go_wp2_with fail
      refine (ftx_kids f b hg HHN.out _ _ _ HF.out HN.out HP.out K1 hK1).mono ?_
      rintro e w4 ⟨v4, rfl, hp, hq⟩
      have hl := HG.out.lt; replace HG := Lib.hid (HG.out.turn hq HA.out.ne HA.out.own); replace HA := Lib.hid (HA.out.turn hq hl); replace HN := Lib.hid (HN.out.below hq.below hg); replace HP := Lib.hid hp; replace HF := Lib.hid (HF.out.step (kids_step (fun s h => next_step f s h) _ HF.out.left)); clear hp hq hl
      obtain ⟨g0, g1, g2, g3, gz⟩ := HG.out
      go_wp2_with fail
      replace HG := Lib.hid (HG.out.set1 K1)
      replace HP := Lib.hid (HP.out.far (k := 1) (x := .int .i64 K1) HA.out.ne HA.out.own)
      replace HN := Lib.hid (HN.out.below (set_below_at (k := 1) (x := .int .i64 K1) HA.out.new hbw) hg)
      replace HA := Lib.hid (HA.out.set (k := 1) (x := .int .i64 K1) hbw)
      clear g0 g1 g2 g3 gz
      go_wp2_with fail
      refine (ftx_must b _ _ 41 ⟨#[41]⟩ rfl _ HP.out).mono ?_
      rintro e w5 ⟨rfl, hp, hq⟩
      have hl := HG.out.lt; replace HG := Lib.hid (HG.out.turn hq HA.out.ne HA.out.own); replace HA := Lib.hid (HA.out.turn hq hl); replace HN := Lib.hid (HN.out.below hq.below hg); replace HP := Lib.hid hp; replace HF := Lib.hid (HF.out.step (must_step 41 _)); clear hp hq hl
      go_wp2_with fail
      go_meet
      refine Lib.hid ⟨_, _, ⟨8, _, [], []⟩, _, _, _, _, hR, HP.out, HG.out, ⟨rfl, hK1, rfl, rfl⟩, HA.out, by have := HF.out.count; omega⟩
  case rest =>
    obtain ⟨S, v9, n, O, K, X, Y, hput, HP, HG, hnd, HA, hlen⟩ := hcut.out
    have r2 := HP.r2
    have rf := HP.free
    obtain ⟨g0, g1, g2, g3, gz⟩ := HG
    have HNR := fun W : World => Lib.hid (nd_row W n O K X Y hnd)
    have HPH := Lib.hid HP
    have HAH := Lib.hid HA
    have HPUT := Lib.hid hput
    have HLE := Lib.hid (show S.nodes.length + [n].length ≤ 1000000 by rw [List.length_singleton]; omega)
    clear hcut hput HP hnd HA hlen
    go_upto_region 25 with fail
    have HAL := Lib.hid (HPH.out.below (below_new wc (.cells #[.int .i64 O, .int .i64 K, .string X, .string Y] 35)))
    have HLT := Lib.hid HPH.out.lt
    have r2b := HAL.out.r2
    have rfb := HAL.out.free
    obtain ⟨NL, hNL⟩ : ∃ N, (S.nodes ++ [n]).length = N := ⟨_, rfl⟩
    have HNL := Lib.hid hNL
    clear hNL
    go_region_law (first
      | (refine step_app_k kNd rfl (.tmp 93) (.tmp 95) rfl (b + 1) v9 S.nodes rfl HAL.out.own _ (some ⟨wc.heap.size, 0, none⟩) 1 1 [n] rfl rfl (HNR wc).out HLE.out (by decide) (le_alloc HLT.out _) ?_; intro v3 w3 hown3 hg3 hb3 ho3; obtain ⟨A3, c3, rfl, -⟩ := hown3.read_n HNL.out.symm; have HO3 := Lib.hid hown3; have HG3 := Lib.hid hg3; have HB3 := Lib.hid hb3; have HV3 := Lib.hid ho3; have c2 := ((bcell hb3).1 b 2 (Nat.lt_succ_self b)).trans HAL.out.r2; have cf := fun j => ((bcell hb3).2 b j (Nat.lt_succ_self b)).trans (HAL.out.free j); clear hown3 hg3 hb3 ho3))
    all_goals
      go_wp2_with fail
      go_end0
      exact next_end HPH.out HAH.out (HAL.out.below (Below.refl _ _).drew) HO3.out HG3.out HB3.out HV3.out HPUT.out (below_new _ _).drew
set_option maxHeartbeats 1000000 in
theorem ftx_next_stop (f b : Nat) (s : Ps) (v : Value) (w : World) (hl : s.left = 0) (h : PsAt b s v w) :
    Calls Tryd.prog 15 #[.pointer (some ⟨b, 0, none⟩)] w fun e w' => ∃ v', e = .returned (.tuple #[]) ∧ PsAt b (nextP f s) v' w' ∧ Turn b v v' w w' := by
  have hnx : nextP f s = failP s := by
    cases f with
    | zero => rfl
    | succ f => rw [nextP, if_pos hl]
  rw [hnx]
  have r3 := h.r3
  rw [hl] at r3
  have F := fun (h9 : PsAt b s v w) => Lib.hid (ftx_fail b s v w h9)
  have HP := Lib.hid h
  clear hnx hl h
  have r3 : w.cell? ⟨b, 3, none⟩ = some (.int .i64 32) := r3
  go_enter Tryd.func15, Tryd.ntmps15
  go_wp2_with ((with_reducible refine (F HP.out).out.mono ?_); rintro e w9 ⟨rfl, hp, hq⟩; have HP2 := Lib.hid hp; have HT := Lib.hid hq; clear hp hq)
  (try simp only [Exit.inBlock, Exit.then]); refine bodyPost_ret (results_none rfl _ _ _) rfl ?_
  exact ⟨v, rfl, HP2.out, HT.out⟩
theorem ftx_next (b : Nat) (hg : 0 < b) : ∀ f, NextAt f b
  | 0, s, v, w, hf, _, h => ftx_next_stop 0 b s v w (by have := hf.left; omega) h
  | f + 1, s, v, w, hf, hn, h => by
    by_cases hl : s.left = 0
    · exact ftx_next_stop (f + 1) b s v w hl h
    · exact ftx_next_go f b hg (ftx_next b hg f) s v w (by omega) hf hn h
end Go.Proofs.YthgcbomidamcfaaDoor
