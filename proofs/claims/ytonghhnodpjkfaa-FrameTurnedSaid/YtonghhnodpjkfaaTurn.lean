/-
  Words for bits that are turned one by one: what the loop keeps.
-/
import Derived.Test.YtonghhnodpjkfaaCrcPure
import Derived.Laws.BitsAllLaws
namespace Go.Proofs.Ytonghhnodpjkfaa
open Go.RowKit

/-- What the loop of turning keeps, and whether a bit was turned. -/
structure TurnSt (b : List UInt8) (f t i : Nat) (c : List UInt8) (r : Bool) : Prop where
  inv : TurnInv b f t i c
  was : r = true ↔ t % 2 ^ i ≠ 0
  same : r = false → c = b
theorem TurnSt.start (b : List UInt8) (f t : Nat) : TurnSt b f t 0 b false := ⟨.start b f t, by simp [Nat.mod_one], fun _ => rfl⟩
theorem TurnSt.skip {b c : List UInt8} {f t i : Nat} {r : Bool} (h : TurnSt b f t i c r) (h0 : t / 2 ^ i % 2 = 0) : TurnSt b f t (i + 1) c r := ⟨h.inv.skip h0, by rw [low_same h0]; exact h.was, h.same⟩
theorem TurnSt.turn {b c : List UInt8} {f t i q : Nat} {r : Bool} {x : UInt8} (h : TurnSt b f t i c r) (h1 : t / 2 ^ i % 2 = 1) (hk : f + i < 8 * b.length) (hq : (f + i) / 8 = q) (hx : c.getD q 0 = x) :
    TurnSt b f t (i + 1) (c.set q (flipB x (f + i))) true := by
  subst hq hx
  exact ⟨h.inv.turn h1 hk, by simp [low_some h1], fun h => by cases h⟩
theorem flip_int (x : UInt8) {k s : Nat} (h : k % 8 = s) : bits .xor .u8 (x.toNat : Int) (2 ^ s % 256) = ((flipB x k).toNat : Int) := by
  subst h
  have h1 : 2 ^ (k % 8) < 2 ^ 8 := Nat.pow_lt_pow_right (by decide) (Nat.mod_lt _ (by decide))
  have e : ((2 ^ (k % 8) : Nat) : Int) = (2 : Int) ^ (k % 8) := by simp
  have hf := flipB_toNat x k
  rw [← e]
  generalize 2 ^ (k % 8) = p at *
  have h2 : (p : Int) % 256 = (p : Int) := by omega
  rw [h2, u8_xor_nat _ _ (byte_lt x) h1, hf]
/-- A byte within a middle part. -/
theorem mid_getD {a b : List UInt8} (c : List UInt8) {p q : Nat} (hp : p = a.length) (h : q < b.length) : (a ++ b ++ c).getD (p + q) 0 = b.getD q 0 := by
  subst hp
  rw [List.getD, List.getD, List.getElem?_append_left (by rw [List.length_append]; omega), List.getElem?_append_right (by omega), Nat.add_sub_cancel_left]
theorem mid_set {a b : List UInt8} (c : List UInt8) {p q : Nat} (hp : p = a.length) (h : q < b.length) (y : UInt8) : (a ++ b ++ c).set (p + q) y = a ++ b.set q y ++ c := by
  subst hp
  rw [List.set_append_left _ _ (by rw [List.length_append]; omega), List.set_append_right _ _ (by omega), Nat.add_sub_cancel_left]
end Go.Proofs.Ytonghhnodpjkfaa
