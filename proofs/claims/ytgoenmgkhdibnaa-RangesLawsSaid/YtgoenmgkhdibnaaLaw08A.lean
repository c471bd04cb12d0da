/-
  The laws of layer 8: what they ask of the program's functions; the chapter's examples.
-/
import Derived.Test.YtgoenmgkhdibnaaRgsF
namespace Go.Proofs.Ytgoenmgkhdibnaa
open Go.RowKit

/-- A function that makes the right list of what two lists have. -/
def SetC (F : FuncId) (op : Int) : Prop := ∀ (A B : Option Addr) (c d n m : Nat) (a b : List Rng), n = a.length → m = b.length → SmallL 400 a → SmallL 400 b → ∀ w, kRng.Rd w w.heap.size A c a → kRng.Rd w w.heap.size B d b →
  Calls Try.prog F #[.slice A n c, .slice B m d] w (RetR w (makeV op a b))
/-- .. of what one list has. -/
def OneC (F : FuncId) (op : Int) : Prop := ∀ (A : Option Addr) (c n : Nat) (a : List Rng), n = a.length → SmallL 400 a → ∀ w, kRng.Rd w w.heap.size A c a → Calls Try.prog F #[.slice A n c] w (RetR w (makeV op a []))
/-- A function that tells something of two lists. -/
def TellC (F : FuncId) (f : List Rng → List Rng → Bool) : Prop := ∀ (A B : Option Addr) (c d n m : Nat) (a b : List Rng), n = a.length → m = b.length → SmallL 400 a → SmallL 400 b → ∀ v, f a b = v → ∀ w, kRng.Rd w w.heap.size A c a → kRng.Rd w w.heap.size B d b →
  Calls Try.prog F #[.slice A n c, .slice B m d] w fun e w' => e = .returned (.bool v) ∧ Below w.heap.size w w'
def RightC (F : FuncId) : Prop := ∀ (A : Option Addr) (c n : Nat) (a : List Rng), n = a.length → SmallL 400 a → ∀ v, rightL a = v → ∀ w, kRng.Rd w w.heap.size A c a → Calls Try.prog F #[.slice A n c] w fun e w' => e = .returned (.bool v) ∧ Below w.heap.size w w'
def HasC (F : FuncId) : Prop := ∀ (A : Option Addr) (c n : Nat) (a : List Rng) (s : List UInt8), n = a.length → SmallL 400 a → s.length ≤ 1000 → ∀ v, hasL a s = v → ∀ w, kRng.Rd w w.heap.size A c a → Calls Try.prog F #[.slice A n c, .string (str s)] w fun e w' => e = .returned (.bool v) ∧ Below w.heap.size w w'

theorem below_new (w : World) (o : Obj) : Below w.heap.size w (w.alloc o) := (Below.refl _ _).alloc (Nat.le_refl _) o
theorem Kind.Rd.empty {P : Program} {α : Type} {k : Kind P α} (w : World) (B : Nat) (A : Option Addr) (c : Nat) (hc : c ≤ maxLen) : k.Rd w B A c [] := ⟨.inl rfl, Nat.zero_le _, hc⟩
theorem same_is (A B : Option Addr) (c d : Nat) (a b : List Rng) (v : Bool) (hv : sameL a b = v) (w : World) (ha : kRng.Rd w w.heap.size A c a) (hb : kRng.Rd w w.heap.size B d b) :
    Calls Try.prog 14 #[.slice A a.length c, .slice B b.length d] w fun e w' => e = .returned (.bool v) ∧ Below w.heap.size w w' :=
  (ref_same A B c d _ _ a b rfl rfl v hv w ha hb).mono fun _ _ ⟨h1, _, h2⟩ => ⟨h1, below_quiet h2⟩
theorem make_is (op : Int) (A B : Option Addr) (c d n m : Nat) (a b U : List Rng) (hU : makeV op a b = U) (hn : n = a.length) (hm : m = b.length) (ha' : SmallL 400 a) (hb' : SmallL 400 b) (w : World) (ha : kRng.Rd w w.heap.size A c a) (hb : kRng.Rd w w.heap.size B d b) :
    Calls Try.prog 20 #[.int .i64 op, .slice A n c, .slice B m d] w (RetR w U) := by
  subst hU
  exact ref_make op A B c d n m a b hn hm (by have := ha'.1; omega) (by have := hb'.1; omega) w ha hb
theorem set_is {F : FuncId} {op : Int} (h : SetC F op) (A B : Option Addr) (c d n m : Nat) (a b U : List Rng) (hU : makeV op a b = U) (hn : n = a.length) (hm : m = b.length) (ha' : SmallL 400 a) (hb' : SmallL 400 b) (w : World) (ha : kRng.Rd w w.heap.size A c a) (hb : kRng.Rd w w.heap.size B d b) :
    Calls Try.prog F #[.slice A n c, .slice B m d] w (RetR w U) := by
  subst hU
  exact h A B c d n m a b hn hm ha' hb' w ha hb
theorem one_is {F : FuncId} {op : Int} (h : OneC F op) (A : Option Addr) (c n : Nat) (a U : List Rng) (hU : makeV op a [] = U) (hn : n = a.length) (ha' : SmallL 400 a) (w : World) (ha : kRng.Rd w w.heap.size A c a) :
    Calls Try.prog F #[.slice A n c] w (RetR w U) := by
  subst hU
  exact h A c n a hn ha' w ha
set_option maxHeartbeats 400000 in
theorem ref_lof (A : Option Addr) (c n : Nat) (a U : List Rng) (hU : makeV 1 a [] = U) (hn : n = a.length) (ha' : SmallL 400 a) (w : World) (ha : kRng.Rd w w.heap.size A c a) :
    Calls Try.prog 15 #[.slice A n c] w (RetR w U) := by
  have M := fun w B ha hb => Lib.hid (make_is 1 A B c 0 n 0 a [] U hU hn rfl ha' (smallL_nil _) w ha hb)
  have HA := Lib.hid (ha.call (below_new w (.cells #[] 35)))
  clear hU hn ha' ha
  go_enter Try.func15, Try.ntmps15
  go_wp2_with ((with_reducible refine (M _ _ HA.out (Kind.Rd.empty _ _ _ _ (Nat.zero_le _))).out.mono ?_); rintro e w1 ⟨A1, c1, rfl, hrd, hq⟩; have HR := Lib.hid hrd; clear hrd)
  go_ret
  exact ⟨A1, c1, rfl, HR.out, (below_new _ _).trans (hq.mono (by simp))⟩
theorem longL_small {most : Nat} {l : List Rng} (h : longL most l = false) : SmallL most l := by
  unfold longL at h
  simp only [Bool.or_eq_false_iff, decide_eq_false_iff_not, List.any_eq_false, Bool.or_eq_true, decide_eq_true_eq, not_or] at h
  exact ⟨by omega, fun r hr => by have := h.2 r hr; omega⟩
end Go.Proofs.Ytgoenmgkhdibnaa
