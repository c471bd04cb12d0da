/-
  Several texts in one: FltPure, FcdPure, IcdPure, ItmB, ItmC, ItmD, ItmE, ItmMk, KeyC, KeyD, Cut, KeyE.
-/
import Derived.Deep.RegionHeld3
import Derived.Deep.RegionLaw
import Derived.BigRegion
import Derived.Lib.SliceRun
import Derived.Test.YtfpgklpnpplnnaaMg3
namespace Go.Proofs.Ytfpgklpnpplnnaa

end Go.Proofs.Ytfpgklpnpplnnaa

namespace Go.Proofs.Ytfpgklpnpplnnaa

def txtB (s : List UInt8) : List UInt8 := putV s.length ++ s
theorem withinR_put {lo hi : Int} (n : Nat) (r : List UInt8) (h : n ≤ 281474976710656) (h1 : lo ≤ n) (h2 : (n : Int) ≤ hi) : withinR lo hi (putV n ++ r) 0 = (n, r, 0) := by
  unfold withinR
  rw [numR_put n r h, if_neg]
  show ¬ ((n : Int) < lo ∨ hi < (n : Int))
  omega
theorem textR_most {m : Int} (s r : List UInt8) (h : (s.length : Int) ≤ m) (h2 : m ≤ 281474976710656) : textR m (txtB s ++ r) 0 = (s, r, 0) := by
  have e : withinR 0 m (putV s.length ++ (s ++ r)) 0 = (s.length, s ++ r, 0) := withinR_put _ _ (by omega) (by omega) h
  unfold textR txtB
  rw [List.append_assoc, e]
  simp
theorem numR_of {l r : List UInt8} {e : Int} {n : Nat} (h : numR l e = (n, r, 0)) : e = 0 ∧ l = putV n ++ r := by
  unfold numR at h
  split at h
  · rename_i he
    refine ⟨he, ?_⟩
    split at h
    · rename_i hc
      obtain ⟨h1, h2, h3⟩ := cutV_back (l := l) (n := (cutV l).1) (k := (cutV l).2.1) (by rw [← hc])
      simp only [Prod.mk.injEq] at h
      obtain ⟨rfl, rfl, -⟩ := h
      rw [← h2, List.take_append_drop]
    · rename_i hc
      simp only [Prod.mk.injEq] at h
      omega
  · rename_i he
    simp only [Prod.mk.injEq] at h
    exact absurd h.2.2 he
theorem withinR_back {lo hi : Int} {l r : List UInt8} {e : Int} {n : Nat} (h : withinR lo hi l e = (n, r, 0)) : e = 0 ∧ l = putV n ++ r ∧ lo ≤ n ∧ (n : Int) ≤ hi := by
  unfold withinR at h
  split at h
  · rename_i hc
    simp only [Prod.mk.injEq] at h
    split at h <;> omega
  · rename_i hc
    obtain ⟨h1, h2⟩ := numR_of h
    rw [h] at hc
    exact ⟨h1, h2, by simp only at hc; omega, by simp only at hc; omega⟩
theorem textR_back {m : Int} {l s r : List UInt8} {e : Int} (h : textR m l e = (s, r, 0)) : e = 0 ∧ l = txtB s ++ r ∧ (s.length : Int) ≤ m := by
  unfold textR at h
  split at h
  · simp only [Prod.mk.injEq] at h
    split at h <;> omega
  · rename_i hc
    obtain ⟨n, l1, e1, hw⟩ : ∃ n l1 e1, withinR 0 m l e = (n, l1, e1) := ⟨_, _, _, rfl⟩
    rw [hw] at h hc
    simp only [Prod.mk.injEq] at h
    obtain ⟨rfl, rfl, rfl⟩ := h
    obtain ⟨h1, h2, -, h4⟩ := withinR_back hw
    simp only at hc
    have hl : (l1.take n).length = n := by rw [List.length_take]; omega
    refine ⟨h1, ?_, by rw [hl]; exact h4⟩
    unfold txtB
    rw [hl, h2, List.append_assoc, List.take_append_drop]
theorem endR_zero {l : List UInt8} {e : Int} (h : endR l e = 0) : e = 0 ∧ l = [] := by
  unfold endR at h
  split at h
  · omega
  · rename_i hn
    subst h
    exact ⟨rfl, by simpa using hn⟩
end Go.Proofs.Ytfpgklpnpplnnaa

namespace Go.Proofs.Ytfpgklpnpplnnaa

def deadN (d : Bool) : Nat := match d with
  | true => 1
  | false => 0
theorem deadN_le (d : Bool) : deadN d ≤ 1 := by cases d <;> decide
def restB (x : Itm) : List UInt8 := putV x.ver.rep.toNat ++ (putV x.ver.cnt.toNat ++ (putV x.rank.toNat ++ (putV x.prio.toNat ++ (putV (deadN x.dead) ++ txtB x.body))))
def itemB (x : Itm) : List UInt8 := txtB x.key ++ restB x
def listB : List UInt8 → List Itm → List UInt8
  | _, [] => []
  | was, x :: l => putV (alikeN was x.key) ++ (txtB (x.key.drop (alikeN was x.key)) ++ (restB x ++ listB x.key l))
def itemsB (l : List Itm) : List UInt8 := putV l.length ++ listB [] l
def moreR (k l : List UInt8) (e : Int) : Itm × List UInt8 × Int :=
  let a := withinR 1 16 l e
  let b := withinR 1 1099511627776 a.2.1 a.2.2
  let c := withinR 1 1099511627776 b.2.1 b.2.2
  let d := withinR 0 255 c.2.1 c.2.2
  let f := withinR 0 1 d.2.1 d.2.2
  let g := textR 64 f.2.1 f.2.2
  (⟨k, ⟨a.1, b.1⟩, c.1, d.1, decide (f.1 = 1), g.1⟩, g.2)
def itemR (l : List UInt8) (e : Int) : Itm × List UInt8 × Int :=
  let k := textR 16 l e
  moreR k.1 k.2.1 k.2.2
def noI : Itm := ⟨[], ⟨0, 0⟩, 0, 0, false, []⟩
def readI (b : List UInt8) : Itm × Int :=
  let x := itemR b 0
  if endR x.2.1 x.2.2 ≠ 0 then (noI, endR x.2.1 x.2.2)
  else match rightI x.1 with
    | true => (x.1, 0)
    | false => (noI, 11)
def listR : Nat → List UInt8 → List UInt8 → Int → (List Itm × Bool) × List UInt8 × Int
  | 0, _, l, e => (([], true), l, e)
  | n + 1, was, l, e =>
    if e = 0 then
      let s := withinR 0 was.length l e
      let t := textR 16 s.2.1 s.2.2
      let k := was.take s.1 ++ t.1
      let x := moreR k t.2.1 t.2.2
      let r := listR n k x.2.1 x.2.2
      ((x.1 :: r.1.1, (rightI x.1 && decide (alikeN was k = s.1)) && r.1.2), r.2)
    else (([], true), l, e)
def readIs (b : List UInt8) : List Itm × Int :=
  let n := withinR 0 4096 b 0
  let y := listR n.1 [] n.2.1 n.2.2
  if endR y.2.1 y.2.2 ≠ 0 then ([], endR y.2.1 y.2.2)
  else match y.1.2 with
    | true => (y.1.1, 0)
    | false => ([], 11)
theorem rightI_iff {x : Itm} : rightI x = true ↔ 1 ≤ x.key.length ∧ x.key.length ≤ 16 ∧ rightVr x.ver = true ∧ 1 ≤ x.rank ∧ x.rank ≤ 1099511627776 ∧ 0 ≤ x.prio ∧ x.prio ≤ 255 ∧ x.body.length ≤ 64 ∧ (x.dead = true → x.body = []) := by
  unfold rightI
  simp only [Bool.and_eq_true, decide_eq_true_eq, Bool.not_eq_true', Bool.and_eq_false_iff, decide_eq_false_iff_not]
  constructor
  · rintro ⟨h1, h2, h3, h4, h5, h6, h7, h8, h9⟩
    refine ⟨h1, h2, h3, h4, h5, h6, h7, h8, fun hd => ?_⟩
    rcases h9 with h9 | h9
    · rw [hd] at h9; cases h9
    · exact List.eq_nil_of_length_eq_zero (by omega)
  · rintro ⟨h1, h2, h3, h4, h5, h6, h7, h8, h9⟩
    refine ⟨h1, h2, h3, h4, h5, h6, h7, h8, ?_⟩
    cases hd : x.dead with
    | false => exact .inl rfl
    | true => exact .inr (by rw [h9 hd]; simp)
theorem rightVr_nums {v : Vr} (h : rightVr v = true) : 1 ≤ v.rep ∧ v.rep ≤ 16 ∧ 1 ≤ v.cnt ∧ v.cnt ≤ 1099511627776 := by
  unfold rightVr at h
  simp only [Bool.and_eq_true, decide_eq_true_eq] at h
  omega
theorem deadN_one (d : Bool) : decide (deadN d = 1) = d := by cases d <;> rfl
theorem moreR_put {x : Itm} (h : rightI x = true) (r : List UInt8) : moreR x.key (restB x ++ r) 0 = (x, r, 0) := by
  obtain ⟨h1, h2, h3, h4, h5, h6, h7, h8, -⟩ := rightI_iff.1 h
  obtain ⟨v1, v2, v3, v4⟩ := rightVr_nums h3
  have hd := deadN_le x.dead
  unfold moreR restB
  rw [List.append_assoc, withinR_put _ _ (by omega) (by omega) (by omega)]
  simp only
  rw [List.append_assoc, withinR_put _ _ (by omega) (by omega) (by omega)]
  simp only
  rw [List.append_assoc, withinR_put _ _ (by omega) (by omega) (by omega)]
  simp only
  rw [List.append_assoc, withinR_put _ _ (by omega) (by omega) (by omega)]
  simp only
  rw [List.append_assoc, withinR_put _ _ (by omega) (by omega) (by omega)]
  simp only
  rw [textR_most _ _ (by omega) (by omega)]
  simp only [deadN_one]
  rw [Int.toNat_of_nonneg (by omega), Int.toNat_of_nonneg (by omega), Int.toNat_of_nonneg (by omega), Int.toNat_of_nonneg (by omega)]
theorem itemR_put {x : Itm} (h : rightI x = true) (r : List UInt8) : itemR (itemB x ++ r) 0 = (x, r, 0) := by
  obtain ⟨h1, h2, -⟩ := rightI_iff.1 h
  unfold itemR itemB
  rw [List.append_assoc, textR_most _ _ (by omega) (by omega)]
  simp only
  exact moreR_put h r
theorem readI_put {x : Itm} (h : rightI x = true) : readI (itemB x) = (x, 0) := by
  have h1 := itemR_put h []
  rw [List.append_nil] at h1
  unfold readI
  rw [h1]
  simp only
  rw [if_neg (by simp [endR]), h]
theorem alike_both (a b : List UInt8) : a.take (alikeN a b) = b.take (alikeN a b) := by
  obtain ⟨t, ht⟩ := alike_take a b
  have h := congrArg (List.take (alikeN a b)) ht
  rw [List.take_append_of_le_length (by rw [List.length_take]; have := alikeN_le a b; omega), List.take_take, Nat.min_self] at h
  exact h
theorem alike_key (a b : List UInt8) : a.take (alikeN a b) ++ b.drop (alikeN a b) = b := by rw [alike_both, List.take_append_drop]
theorem listR_put : ∀ (l : List Itm) (was r : List UInt8), was.length ≤ 16 → (∀ x ∈ l, rightI x = true) → listR l.length was (listB was l ++ r) 0 = ((l, true), r, 0)
  | [], _, _, _, _ => rfl
  | x :: l, was, r, hw, h => by
    have hx := h x (List.mem_cons_self ..)
    obtain ⟨h1, h2, -⟩ := rightI_iff.1 hx
    have ha := alikeN_le was x.key
    have ih := listR_put l x.key r h2 fun y hy => h y (List.mem_cons_of_mem _ hy)
    rw [listB, List.length_cons, listR, if_pos rfl, List.append_assoc, withinR_put _ _ (by omega) (by omega) (by omega)]
    simp only
    rw [List.append_assoc, textR_most _ _ (by rw [List.length_drop]; omega) (by omega)]
    simp only
    rw [alike_key, List.append_assoc, moreR_put hx]
    simp only
    rw [ih, hx]
    simp
theorem readIs_put {l : List Itm} (h : ∀ x ∈ l, rightI x = true) (hl : l.length ≤ 4096) : readIs (itemsB l) = (l, 0) := by
  have h1 := listR_put l [] [] (by simp) h
  rw [List.append_nil] at h1
  unfold readIs itemsB
  rw [withinR_put _ _ (by omega) (by omega) (by omega)]
  simp only
  rw [h1]
  simp only
  rw [if_neg (by simp [endR])]
theorem moreR_back {k l r : List UInt8} {e : Int} {x : Itm} (h : moreR k l e = (x, r, 0)) : e = 0 ∧ l = restB x ++ r ∧ x.key = k := by
  unfold moreR at h
  obtain ⟨a, l1, e1, ha⟩ : ∃ a l1 e1, withinR 1 16 l e = (a, l1, e1) := ⟨_, _, _, rfl⟩
  rw [ha] at h
  simp only at h
  obtain ⟨b, l2, e2, hb⟩ : ∃ u v z, withinR 1 1099511627776 l1 e1 = (u, v, z) := ⟨_, _, _, rfl⟩
  rw [hb] at h
  simp only at h
  obtain ⟨c, l3, e3, hc⟩ : ∃ u v z, withinR 1 1099511627776 l2 e2 = (u, v, z) := ⟨_, _, _, rfl⟩
  rw [hc] at h
  simp only at h
  obtain ⟨d, l4, e4, hd⟩ : ∃ u v z, withinR 0 255 l3 e3 = (u, v, z) := ⟨_, _, _, rfl⟩
  rw [hd] at h
  simp only at h
  obtain ⟨f, l5, e5, hf⟩ : ∃ u v z, withinR 0 1 l4 e4 = (u, v, z) := ⟨_, _, _, rfl⟩
  rw [hf] at h
  simp only at h
  obtain ⟨g, l6, e6, hg⟩ : ∃ u v z, textR 64 l5 e5 = (u, v, z) := ⟨_, _, _, rfl⟩
  rw [hg] at h
  simp only [Prod.mk.injEq] at h
  obtain ⟨rfl, rfl, rfl⟩ := h
  obtain ⟨rfl, g2, -⟩ := textR_back hg
  obtain ⟨rfl, f2, -, f4⟩ := withinR_back hf
  obtain ⟨rfl, d2, -⟩ := withinR_back hd
  obtain ⟨rfl, c2, -⟩ := withinR_back hc
  obtain ⟨rfl, b2, -⟩ := withinR_back hb
  obtain ⟨a1, a2, -⟩ := withinR_back ha
  have hdd : deadN (decide (f = 1)) = f := by
    by_cases h1 : f = 1
    · rw [decide_eq_true h1, h1]; rfl
    · rw [decide_eq_false h1]
      show 0 = f
      omega
  refine ⟨a1, ?_, rfl⟩
  unfold restB
  simp only [Int.toNat_natCast, hdd]
  rw [a2, b2, c2, d2, f2, g2]
  simp only [List.append_assoc]
theorem itemR_back {l r : List UInt8} {e : Int} {x : Itm} (h : itemR l e = (x, r, 0)) : e = 0 ∧ l = itemB x ++ r := by
  unfold itemR at h
  obtain ⟨k, l1, e1, hk⟩ : ∃ a l1 e1, textR 16 l e = (a, l1, e1) := ⟨_, _, _, rfl⟩
  rw [hk] at h
  simp only at h
  obtain ⟨rfl, h2, h3⟩ := moreR_back h
  obtain ⟨h4, h5, -⟩ := textR_back hk
  exact ⟨h4, by rw [h5, h2, itemB, h3, List.append_assoc]⟩
theorem readI_back {b : List UInt8} {x : Itm} (h : readI b = (x, 0)) : itemB x = b ∧ rightI x = true := by
  unfold readI at h
  obtain ⟨y, l1, e1, hy⟩ : ∃ a l1 e1, itemR b 0 = (a, l1, e1) := ⟨_, _, _, rfl⟩
  rw [hy] at h
  simp only at h
  split at h
  · rename_i hn
    simp only [Prod.mk.injEq] at h
    exact absurd h.2 hn
  · rename_i hn
    obtain ⟨rfl, rfl⟩ := endR_zero (Classical.not_not.1 hn)
    cases hr : rightI y with
    | false => rw [hr] at h; simp at h
    | true =>
      rw [hr] at h
      simp only [Prod.mk.injEq] at h
      obtain ⟨rfl, -⟩ := h
      obtain ⟨-, h2⟩ := itemR_back hy
      exact ⟨by rw [h2, List.append_nil], hr⟩
theorem listR_back : ∀ (n : Nat) (was l : List UInt8) (e : Int) (L : List Itm) (r : List UInt8), was.length ≤ 16 → listR n was l e = ((L, true), r, 0) → e = 0 ∧ l = listB was L ++ r ∧ L.length = n ∧ ∀ x ∈ L, rightI x = true
  | 0, was, l, e, L, r, _, h => by
    simp only [listR, Prod.mk.injEq] at h
    obtain ⟨⟨rfl, -⟩, rfl, rfl⟩ := h
    exact ⟨rfl, rfl, rfl, fun x hx => by cases hx⟩
  | n + 1, was, l, e, L, r, hw, h => by
    rw [listR] at h
    split at h
    · rename_i he
      subst he
      obtain ⟨s, l1, e1, hs⟩ : ∃ u v z, withinR 0 was.length l 0 = (u, v, z) := ⟨_, _, _, rfl⟩
      rw [hs] at h
      simp only at h
      obtain ⟨t, l2, e2, ht⟩ : ∃ u v z, textR 16 l1 e1 = (u, v, z) := ⟨_, _, _, rfl⟩
      rw [ht] at h
      simp only at h
      obtain ⟨k, hk⟩ : ∃ k, was.take s ++ t = k := ⟨_, rfl⟩
      rw [hk] at h
      obtain ⟨x, l3, e3, hx⟩ : ∃ u v z, moreR k l2 e2 = (u, v, z) := ⟨_, _, _, rfl⟩
      rw [hx] at h
      simp only at h
      obtain ⟨M, v, l4, e4, hm⟩ : ∃ u v y z, listR n k l3 e3 = ((u, v), y, z) := ⟨_, _, _, _, rfl⟩
      rw [hm] at h
      simp only [Prod.mk.injEq, Bool.and_eq_true, decide_eq_true_eq] at h
      obtain ⟨⟨rfl, ⟨hr, hal⟩, rfl⟩, rfl, rfl⟩ := h
      obtain ⟨q1, q2, -⟩ := rightI_iff.1 hr
      have hkey : x.key = k := by
        unfold moreR at hx
        simp only [Prod.mk.injEq] at hx
        rw [← hx.1]
      obtain ⟨rfl, h2, h3, h4⟩ := listR_back n k l3 e3 M l4 (by rw [← hkey]; exact q2) hm
      obtain ⟨rfl, h5, -⟩ := moreR_back hx
      obtain ⟨rfl, h6, -⟩ := textR_back ht
      obtain ⟨-, h7, -, h8⟩ := withinR_back hs
      have hdr : k.drop s = t := by
        rw [← hk, List.drop_append_of_le_length (by rw [List.length_take]; omega), List.drop_eq_nil_of_le (by rw [List.length_take]; omega), List.nil_append]
      refine ⟨rfl, ?_, by rw [List.length_cons, h3], fun y hy => ?_⟩
      · rw [listB, hkey, hal, hdr, h7, h6, h5, h2]
        simp only [List.append_assoc]
      · rcases List.mem_cons.1 hy with rfl | hy
        · exact hr
        · exact h4 y hy
    · rename_i he
      simp only [Prod.mk.injEq] at h
      exact absurd h.2.2 he
theorem readIs_back {b : List UInt8} {l : List Itm} (h : readIs b = (l, 0)) : itemsB l = b ∧ (∀ x ∈ l, rightI x = true) ∧ l.length ≤ 4096 := by
  unfold readIs at h
  obtain ⟨n, b1, e1, hn⟩ : ∃ n b1 e1, withinR 0 4096 b 0 = (n, b1, e1) := ⟨_, _, _, rfl⟩
  rw [hn] at h
  simp only at h
  obtain ⟨M, v, b2, e2, hm⟩ : ∃ M v b2 e2, listR n [] b1 e1 = ((M, v), b2, e2) := ⟨_, _, _, _, rfl⟩
  rw [hm] at h
  simp only at h
  split at h
  · rename_i hz
    simp only [Prod.mk.injEq] at h
    exact absurd h.2 hz
  · rename_i hz
    obtain ⟨rfl, rfl⟩ := endR_zero (Classical.not_not.1 hz)
    cases v with
    | false => simp at h
    | true =>
      simp only [Prod.mk.injEq] at h
      obtain ⟨rfl, -⟩ := h
      obtain ⟨rfl, h2, h3, h4⟩ := listR_back n [] b1 e1 M [] (by simp) hm
      obtain ⟨-, h5, -, h6⟩ := withinR_back hn
      exact ⟨by rw [h5, h2, itemsB, h3, List.append_nil], h4, by omega⟩
end Go.Proofs.Ytfpgklpnpplnnaa

namespace Go.Proofs.Ytfpgklpnpplnnaa
open Go.RowKit

abbrev itO (K : ByteArray) (r c k p : Int) (d : Bool) (B : ByteArray) : Obj := .cells #[.string K, .int .i64 r, .int .i64 c, .int .i64 k, .int .i64 p, .bool d, .string B] 25
abbrev itV (K : ByteArray) (r c k p : Int) (d : Bool) (B : ByteArray) : Value := .agg #[.string K, .int .i64 r, .int .i64 c, .int .i64 k, .int .i64 p, .bool d, .string B]
def ItAt (w : World) (g : Nat) (K : ByteArray) (r c k p : Int) (d : Bool) (B : ByteArray) : Prop := w.cell? ⟨g, 0, none⟩ = some (.string K) ∧ w.cell? ⟨g, 1, none⟩ = some (.int .i64 r) ∧ w.cell? ⟨g, 2, none⟩ = some (.int .i64 c) ∧ w.cell? ⟨g, 3, none⟩ = some (.int .i64 k) ∧ w.cell? ⟨g, 4, none⟩ = some (.int .i64 p) ∧ w.cell? ⟨g, 5, none⟩ = some (.bool d) ∧ w.cell? ⟨g, 6, none⟩ = some (.string B)
theorem ItAt.below {w w' : World} {g : Nat} {K : ByteArray} {r c k p : Int} {d : Bool} {B : ByteArray} (h : ItAt w g K r c k p d B) (hb : Below w.heap.size w w') : ItAt w' g K r c k p d B := by
  obtain ⟨h0, h1, h2, h3, h4, h5, h6⟩ := h
  have hc := (bcell hb).1
  have hl := World.block_lt_of_cell? w _ h0
  exact ⟨(hc _ _ hl).trans h0, (hc _ _ hl).trans h1, (hc _ _ hl).trans h2, (hc _ _ hl).trans h3, (hc _ _ hl).trans h4, (hc _ _ hl).trans h5, (hc _ _ hl).trans h6⟩
theorem itAt_new (w : World) (K : ByteArray) (r c k p : Int) (d : Bool) (B : ByteArray) : ItAt (w.alloc (itO K r c k p d B)) w.heap.size K r c k p d B := by
  have hb := heap_new w (itO K r c k p d B) _ rfl
  refine ⟨?_, ?_, ?_, ?_, ?_, ?_, ?_⟩ <;> (rw [cell_of_row _ _ _ _ _ _ hb]; rfl)
theorem rightI_parts (x : Itm) : rightI x = (rightB x.key && (rightVr x.ver && ((!decide (x.rank < 1)) && ((!decide (x.rank > 1099511627776)) && ((!decide (x.prio < 0)) && ((!decide (x.prio > 255)) && (decide (x.body.length ≤ 64) && !(x.dead && decide (0 < x.body.length))))))))) := by
  have e1 : decide (1 ≤ x.rank) = !decide (x.rank < 1) := by rw [← decide_not]; exact decide_eq_decide.2 (by omega)
  have e2 : decide (x.rank ≤ 1099511627776) = !decide (x.rank > 1099511627776) := by rw [← decide_not]; exact decide_eq_decide.2 (by omega)
  have e3 : decide (0 ≤ x.prio) = !decide (x.prio < 0) := by rw [← decide_not]; exact decide_eq_decide.2 (by omega)
  have e4 : decide (x.prio ≤ 255) = !decide (x.prio > 255) := by rw [← decide_not]; exact decide_eq_decide.2 (by omega)
  unfold rightI rightB
  rw [e1, e2, e3, e4, Bool.and_assoc]
set_option maxRecDepth 100000 in
set_option maxHeartbeats 2000000 in
theorem ref_iright (x : Itm) (K : ByteArray) (r c k p : Int) (d : Bool) (B : ByteArray) (hx : IsI x K r c k p d B) (v : Bool) (hv : rightI x = v) (w : World) :
    Calls Try.prog 9 #[itV K r c k p d B] w fun e w' => e = .returned (.bool v) ∧ Below w.heap.size w w' := by
  have HB := Lib.hid (below_new w (itO K r c k p d B))
  rw [rightI_parts, hx.rank, hx.prio, hx.dead] at hv
  have hz : B.size = x.body.length := by rw [← hx.body]; exact str_size _
  obtain ⟨b1, h1⟩ : ∃ b, rightB x.key = b := ⟨_, rfl⟩
  obtain ⟨b2, h2⟩ : ∃ b, rightVr x.ver = b := ⟨_, rfl⟩
  obtain ⟨c1, g1⟩ : ∃ b, decide (k < 1) = b := ⟨_, rfl⟩
  obtain ⟨c2, g2⟩ : ∃ b, decide (k > 1099511627776) = b := ⟨_, rfl⟩
  obtain ⟨c3, g3⟩ : ∃ b, decide (p < 0) = b := ⟨_, rfl⟩
  obtain ⟨c4, g4⟩ : ∃ b, decide (p > 255) = b := ⟨_, rfl⟩
  obtain ⟨c5, g5⟩ : ∃ b, decide ((B.size : Int) ≤ 64) = b := ⟨_, rfl⟩
  obtain ⟨c6, g6⟩ : ∃ b, decide ((B.size : Int) > 0) = b := ⟨_, rfl⟩
  have e5 : decide (x.body.length ≤ 64) = c5 := by rw [← g5, ← hz]; exact decide_eq_decide.2 (by omega)
  have e6 : decide (0 < x.body.length) = c6 := by rw [← g6, ← hz]; exact decide_eq_decide.2 (by omega)
  have f2 : decide ((1099511627776 : Int) < k) = c2 := g2
  have f4 : decide ((255 : Int) < p) = c4 := g4
  have f6 : decide ((0 : Int) < (B.size : Int)) = c6 := g6
  have f5 : decide (B.size ≤ 64) = c5 := by rw [← g5]; exact decide_eq_decide.2 (by omega)
  have f7 : decide (0 < B.size) = c6 := by rw [← g6]; exact decide_eq_decide.2 (by omega)
  rw [h1, h2, g1, g2, g3, g4, e5, e6] at hv
  have C1 := fun w => Lib.hid (ref_right x.key w)
  rw [h1, hx.key] at C1
  have C2 := fun w => Lib.hid (ref_vrright x.ver r c hx.rep hx.cnt b2 h2 w)
  have HV := Lib.hid hv
  have HI := Lib.hid (itAt_new w K r c k p d B)
  clear hx hz h1 h2 e5 e6 hv
  cases b1
  case' true =>
    cases b2
    case' true =>
      cases c1
      case' false =>
        cases c2
        case' false =>
          cases c3
          case' false =>
            cases c4
            case' false =>
              cases c5
              case' true =>
                cases d
                case' true =>
                  cases c6
  all_goals
    go_enter Try.func9, Try.ntmps9
    go_wp2_with (first
      | ((with_reducible refine (C1 _).out.mono ?_); rintro e w1 ⟨rfl, rfl⟩)
      | ((with_reducible refine (C2 _).out.mono ?_); rintro e w1 ⟨rfl, hq⟩; replace HB := Lib.hid (HB.out.trans (hq.mono HB.out.size)); obtain ⟨-, -, -, t3, t4, t5, t6⟩ := HI.out.below hq; clear hq))
    go_ret
    exact ⟨ret_bool HV.out, HB.out⟩
end Go.Proofs.Ytfpgklpnpplnnaa

namespace Go.Proofs.Ytfpgklpnpplnnaa
open Go.RowKit

end Go.Proofs.Ytfpgklpnpplnnaa

namespace Go.Proofs.Ytfpgklpnpplnnaa
open Go.RowKit

theorem eq_itm (a b a' b' : ByteArray) (r c k p r' c' k' p' : Int) (d d' : Bool) (w : World) : (Op.equalIn 10000 25 (itV a r c k p d b) (itV a' r' c' k' p' d' b')).run Try.prog w = .ok (a.toList == a'.toList && ((r == r' && c == c') && (k == k' && (p == p' && (d == d' && b.toList == b'.toList))))) w := by
  have u3 := Try.underlying9
  have a3 := Try.isAgg9
  have z3 := Try.sizeOf9
  have u4 := Try.underlying4
  have a4 := Try.isAgg4
  have z4 := Try.sizeOf4
  have u5 := Try.underlying3
  have a5 := Try.isAgg3
  have z5 := Try.sizeOf3
  have a6 := Try.isAgg23
  have z6 := Try.sizeOf23
  have hS : Try.prog.underlying 25 = some (.struct (Try.prog.fieldsOf 25)) := by kernel_rfl
  have hp : Try.prog.stoodInHeld 25 = false := by kernel_rfl
  have hS2 : Try.prog.underlying 23 = some (.struct (Try.prog.fieldsOf 23)) := by kernel_rfl
  have hp2 : Try.prog.stoodInHeld 23 = false := by kernel_rfl
  have hV : ∀ (w : World) (x y x' y' : Int), (Op.equalIn 9999 23 (.agg #[.int .i64 x, .int .i64 y]) (.agg #[.int .i64 x', .int .i64 y'])).run Try.prog w = .ok (x == x' && y == y') w := fun w x y x' y' => by
    rw [show (9999 : Nat) = 9998 + 1 from rfl, run_equalIn_agg w 9998 23 _ _ hS2 hp2]
    simp only [Program.fieldsOf, Try.underlying23]
    go_simp
    by_cases h1 : x = x' <;> by_cases h2 : y = y' <;> simp [h1, h2]
  rw [show (10000 : Nat) = 9999 + 1 from rfl, run_equalIn_agg w 9999 25 _ _ hS hp]
  simp only [Program.fieldsOf, Try.underlying25]
  clear hS hp hS2 hp2
  go_simp
  by_cases h1 : a.toList = a'.toList <;> by_cases h2 : r = r' <;> by_cases h3 : c = c' <;> by_cases h4 : k = k' <;> by_cases h5 : p = p' <;> by_cases h6 : b.toList = b'.toList <;> cases d <;> cases d' <;> simp [h1, h2, h3, h4, h5, h6]
def eqI (x y : Itm) : Bool := decide (x.key = y.key) && ((x.ver.rep == y.ver.rep && x.ver.cnt == y.ver.cnt) && (x.rank == y.rank && (x.prio == y.prio && (x.dead == y.dead && decide (x.body = y.body)))))
theorem eqI_iff {x y : Itm} : eqI x y = true ↔ x = y := by
  unfold eqI
  simp only [Bool.and_eq_true, decide_eq_true_eq, beq_iff_eq]
  constructor
  · rintro ⟨h1, ⟨h2, h3⟩, h4, h5, h6, h7⟩
    exact itm_ext h1 (vr_ext h2 h3) h4 h5 h6 h7
  · rintro rfl; simp
theorem eq_itms (x y : Itm) (K : ByteArray) (r c k p : Int) (d : Bool) (B : ByteArray) (hx : IsI x K r c k p d B) (K' : ByteArray) (r' c' k' p' : Int) (d' : Bool) (B' : ByteArray) (hy : IsI y K' r' c' k' p' d' B') (v : Bool) (hv : eqI x y = v) (w : World) :
    (Op.equalIn 10000 25 (itV K r c k p d B) (itV K' r' c' k' p' d' B')).run Try.prog w = .ok v w := by
  rw [eq_itm]
  have e : ∀ a b : List UInt8, (a == b) = decide (a = b) := fun a b => by by_cases h : a = b <;> simp [h]
  rw [← hv, ← hx.key, ← hy.key, ← hx.body, ← hy.body, ← hx.rep, ← hx.cnt, ← hx.rank, ← hx.prio, ← hx.dead, ← hy.rep, ← hy.cnt, ← hy.rank, ← hy.prio, ← hy.dead, str_toList, str_toList, str_toList, str_toList, e, e]
  rfl
def sameI : List Itm → List Itm → Bool
  | [], [] => true
  | x :: a, y :: b => eqI x y && sameI a b
  | _, _ => false
theorem sameI_iff : ∀ {a b : List Itm}, sameI a b = true ↔ a = b
  | [], [] => by simp [sameI]
  | [], _ :: _ => by simp [sameI]
  | _ :: _, [] => by simp [sameI]
  | r :: a, t :: b => by rw [sameI, Bool.and_eq_true, eqI_iff, sameI_iff (a := a), List.cons.injEq]
theorem sameI_cons (x y : Itm) (a b : List Itm) : sameI (x :: a) (y :: b) = (eqI x y && sameI a b) := rfl
theorem sameI_len {a b : List Itm} (h : a.length ≠ b.length) : sameI a b = false := by
  cases h1 : sameI a b
  · rfl
  · exact absurd (congrArg List.length (sameI_iff.1 h1)) h
set_option maxRecDepth 100000 in
set_option maxHeartbeats 2000000 in
theorem ref_isame (A B : Option Addr) (c d n m : Nat) (a b : List Itm) (hn : n = a.length) (hm : m = b.length) (v : Bool) (hv : sameI a b = v) (w : World) (ha : kItm.Rd w w.heap.size A c a) (hb : kItm.Rd w w.heap.size B d b) :
    Calls Try.prog 17 #[.slice A n c, .slice B m d] w fun e w' => e = .returned (.bool v) ∧ Below w.heap.size w w' := by
  have HN := Lib.hid hn
  have HM := Lib.hid hm
  have HA := Lib.hid ha
  have HB := Lib.hid hb
  have hmx := rd_maxI ha hn
  have hmy := rd_maxI hb hm
  have hcx : n ≤ c := by rw [hn]; exact ha.room
  have hcy : m ≤ d := by rw [hm]; exact hb.room
  subst hv
  by_cases hnm : n = m
  · subst hnm
    clear hn hm ha hb
    go_enter Try.func17, Try.ntmps17
    go_wp2_with fail
    go_loopw [5] (fun i wr => ∃ k : Nat, k ≤ n ∧ Hid (sameI a b = sameI (a.drop k) (b.drop k)) ∧ i = .int .i64 k ∧ Hid (Below w.heap.size w wr)) (fun i _ => n - (intOf i).toNat)
    case atStart => exact ⟨0, by omega, rfl, rfl, Below.refl _ _⟩
    case round =>
      obtain ⟨k, hk, HL, rfl, HW⟩ := hrel
      by_cases hlt : k < n
      · obtain ⟨x, hg, hd, -⟩ := get_some (l := a) (k := k) (by have := HN.out; omega)
        obtain ⟨y, hg', hd', -⟩ := get_some (l := b) (k := k) (by have := HM.out; omega)
        obtain ⟨b1, o1, rfl, hb1, hcell1⟩ := itms_at (HA.out.below HW.out) (by have := HN.out; omega)
        obtain ⟨b2, o2, rfl, hb2, hcell2⟩ := itms_at (HB.out.below HW.out) (by have := HM.out; omega)
        obtain ⟨p0, p1, p2, p3, p4, p5, p6⟩ := hcell1 k x hg
        obtain ⟨q0, q1, q2, q3, q4, q5, q6⟩ := hcell2 k y hg'
        obtain ⟨K, r, cc, rk, pp, dd, BB, hI⟩ : ∃ K r c k p d B, IsI x K r c k p d B := ⟨_, _, _, _, _, _, _, IsI.mk' x⟩
        obtain ⟨K', r', cc', rk', pp', dd', BB', hJ⟩ : ∃ K r c k p d B, IsI y K r c k p d B := ⟨_, _, _, _, _, _, _, IsI.mk' y⟩
        rw [hI.key] at p0
        rw [hI.rep] at p1
        rw [hI.cnt] at p2
        rw [hI.rank] at p3
        rw [hI.prio] at p4
        rw [hI.dead] at p5
        rw [hI.body] at p6
        rw [hJ.key] at q0
        rw [hJ.rep] at q1
        rw [hJ.cnt] at q2
        rw [hJ.rank] at q3
        rw [hJ.prio] at q4
        rw [hJ.dead] at q5
        rw [hJ.body] at q6
        obtain ⟨z, hz⟩ : ∃ z, eqI x y = z := ⟨_, rfl⟩
        have EQ := fun w => eq_itms x y K r cc rk pp dd BB hI K' r' cc' rk' pp' dd' BB' hJ z hz w
        have HL2 := Lib.hid (HL.out.trans (show sameI (a.drop k) (b.drop k) = (z && sameI (a.drop (k + 1)) (b.drop (k + 1))) by rw [hd, hd', sameI_cons, hz]))
        have hk0 : (0 : Int) ≤ (k : Int) := by omega
        have hkn : (k : Int) < (n : Int) := by omega
        clear hcell1 hcell2 hg hg' hd hd' hz hI hJ
        cases z
        all_goals
          go_wp2_with fail
          go_quiet (fail)
          go_wp2_with fail
        · go_ret
          exact ⟨ret_bool HL2.out.symm, below_drewN HW.out _⟩
        · go_roundw
          case rel => exact ⟨k + 1, by omega, HL2, by go_num, below_drewN HW.out _⟩
          case measure => simp [intOf]; omega
      · have HL2 := Lib.hid (HL.out.trans (show sameI (a.drop k) (b.drop k) = true by rw [List.drop_eq_nil_of_le (by have := HN.out; omega), List.drop_eq_nil_of_le (by have := HM.out; omega)]; rfl))
        go_wp2_with fail
        go_ret
        exact ⟨ret_bool HL2.out.symm, HW.out⟩
  · have HE := Lib.hid (sameI_len (a := a) (b := b) (by omega))
    have hne : ((n : Int) == (m : Int)) = false := beq_eq_false_iff_ne.2 (by omega)
    have hne2 : ((n : Int) != (m : Int)) = true := by rw [bne, hne]; rfl
    clear hn hm ha hb hnm
    go_enter Try.func17, Try.ntmps17
    go_wp2_with fail
    go_ret
    exact ⟨ret_bool HE.out.symm, Below.refl _ _⟩
def longIt (x : Itm) : Bool := decide (60 < x.key.length) || decide (200 < x.body.length)
def longI (m : Nat) (l : List Itm) : Bool := decide (m < l.length) || l.any longIt
theorem longI_no {m : Nat} {l : List Itm} (h : longI m l = false) : l.length ≤ m ∧ ∀ x ∈ l, x.key.length ≤ 60 ∧ x.body.length ≤ 200 := by
  unfold longI at h
  rw [Bool.or_eq_false_iff, decide_eq_false_iff_not, List.any_eq_false] at h
  refine ⟨by omega, fun x hx => ?_⟩
  have h1 := h.2 x hx
  unfold longIt at h1
  simp only [Bool.or_eq_true, decide_eq_true_eq, not_or] at h1
  omega
set_option maxRecDepth 100000 in
set_option maxHeartbeats 2000000 in
theorem ref_ilong (m : Nat) (y : Int) (hy : (m : Int) = y) (hml : m ≤ 1000) (A : Option Addr) (c n : Nat) (l : List Itm) (hn : n = l.length) (v : Bool) (hv : longI m l = v) (w : World) (hr : kItm.Rd w w.heap.size A c l) :
    Calls Try.prog 7 #[.slice A n c, .int .i64 y] w fun e w' => e = .returned (.bool v) ∧ Below w.heap.size w w' := by
  subst hy
  have HN := Lib.hid hn
  have HR := Lib.hid hr
  have hmx := rd_maxI hr hn
  have hcx : n ≤ c := by rw [hn]; exact hr.room
  by_cases h1 : m < n
  · have HE : Hid (true = v) := by rw [← hv]; unfold longI; rw [decide_eq_true (by omega)]; rfl
    clear hn hr hv
    go_enter Try.func7, Try.ntmps7
    go_wp2_with fail
    go_ret
    exact ⟨ret_bool HE.out, Below.refl _ _⟩
  · have hdm : decide (m < n) = false := decide_eq_false h1
    have HE : Hid (l.any longIt = v) := by rw [← hv]; unfold longI; rw [decide_eq_false (by omega), Bool.false_or]; rfl
    clear hn hr hv
    go_enter Try.func7, Try.ntmps7
    go_wp2_with fail
    go_loopw [5] (fun i wr => ∃ j : Nat, j ≤ n ∧ Hid ((l.drop j).any longIt = v) ∧ i = .int .i64 j ∧ Hid (Below w.heap.size w wr)) (fun i _ => n - (intOf i).toNat)
    case atStart => exact ⟨0, by omega, HE, rfl, Below.refl _ _⟩
    case round =>
      obtain ⟨j, hj, HL, rfl, HW⟩ := hrel
      by_cases hlt : j < n
      · obtain ⟨x, hg, hd, -⟩ := get_some (l := l) (k := j) (by have := HN.out; omega)
        obtain ⟨b, o, rfl, hb1, hcell⟩ := itms_at (HR.out.below HW.out) (by have := HN.out; omega)
        obtain ⟨q0, -, -, -, -, -, q6⟩ := hcell j x hg
        obtain ⟨S, hS⟩ : ∃ S, str x.key = S := ⟨_, rfl⟩
        obtain ⟨T, hT⟩ : ∃ T, str x.body = T := ⟨_, rfl⟩
        rw [hS] at q0
        rw [hT] at q6
        have HL2 := Lib.hid (show (longIt x || (l.drop (j + 1)).any longIt) = v from by rw [← List.any_cons, ← hd]; exact HL.out)
        have hz1 : S.size = x.key.length := by rw [← hS]; exact str_size _
        have hz2 : T.size = x.body.length := by rw [← hT]; exact str_size _
        clear hcell hg hd HE hS hT
        by_cases g1 : x.key.length ≤ 60
        · by_cases g2 : x.body.length ≤ 200
          · have k1 : S.size ≤ 60 := by omega
            have k2 : T.size ≤ 200 := by omega
            have HE := Lib.hid (show (l.drop (j + 1)).any longIt = v from by
              rw [← HL2.out]
              unfold longIt
              rw [decide_eq_false (show ¬ 60 < x.key.length by omega), decide_eq_false (show ¬ 200 < x.body.length by omega)]; rfl)
            clear hz1 hz2 g1 g2 HL2
            go_wp2_with fail
            go_roundw
            case rel => exact ⟨j + 1, by omega, HE, by go_num, HW⟩
            case measure => simp [intOf]; omega
          · have k1 : S.size ≤ 60 := by omega
            have k2 : 200 < T.size := by omega
            have HE := Lib.hid (show true = v from by
              rw [← HL2.out]
              unfold longIt
              rw [decide_eq_true (show 200 < x.body.length by omega), Bool.or_true]; rfl)
            clear hz1 hz2 g1 g2 HL2
            go_wp2_with fail
            go_ret
            exact ⟨ret_bool HE.out, HW.out⟩
        · have k1 : 60 < S.size := by omega
          have HE := Lib.hid (show true = v from by
            rw [← HL2.out]
            unfold longIt
            rw [decide_eq_true (show 60 < x.key.length by omega), Bool.true_or]; rfl)
          clear hz1 hz2 g1 HL2
          go_wp2_with fail
          go_ret
          exact ⟨ret_bool HE.out, HW.out⟩
      · have HE2 := Lib.hid (show false = v by rw [← HL.out, List.drop_eq_nil_of_le (by have := HN.out; omega)]; rfl)
        go_wp2_with fail
        go_ret
        exact ⟨ret_bool HE2.out, HW.out⟩
end Go.Proofs.Ytfpgklpnpplnnaa

namespace Go.Proofs.Ytfpgklpnpplnnaa
open Go.RowKit

def BestAt (p : Itm → Bool) (l : List Itm) (k : Nat) (z : Int) : Prop := (z = -1 ∧ bestF p (l.take k) = none) ∨ ∃ (j : Nat) (x : Itm), z = (j : Int) ∧ j < k ∧ l[j]? = some x ∧ bestF p (l.take k) = some x
theorem BestAt.first {p : Itm → Bool} {l : List Itm} {k : Nat} {x : Itm} (h : bestF p (l.take k) = none) (hx : l[k]? = some x) (hp : p x = true) : BestAt p l (k + 1) (k : Int) :=
  .inr ⟨k, x, rfl, by omega, hx, by rw [bestF_take hx, keepO_yes hp, h]; rfl⟩
theorem BestAt.next {p : Itm → Bool} {l : List Itm} {k : Nat} {x y : Itm} (h : bestF p (l.take k) = some y) (hx : l[k]? = some x) (hp : p x = true) (hb : beatsI x y = true) : BestAt p l (k + 1) (k : Int) :=
  .inr ⟨k, x, rfl, by omega, hx, by rw [bestF_take hx, keepO_yes hp, h, combO_yes hb]⟩
end Go.Proofs.Ytfpgklpnpplnnaa

namespace Go.Proofs.Ytfpgklpnpplnnaa

def aboveI (c : Option (List UInt8)) (x : Itm) : Bool := match c with
  | none => true
  | some k => ltB k x.key
def candI (c : Option (List UInt8)) (x : Itm) : Bool := rightI x && aboveI c x
def LeastAt (c : Option (List UInt8)) (l : List Itm) (k : Nat) (z : Int) : Prop := (z = -1 ∧ ∀ x ∈ l.take k, candI c x = false) ∨ ∃ (j : Nat) (x : Itm), z = (j : Int) ∧ j < k ∧ l[j]? = some x ∧ candI c x = true ∧ ∀ y ∈ l.take k, candI c y = true → ltB y.key x.key = false
theorem itake_mem {l : List Itm} {k : Nat} {x y : Itm} (hx : l[k]? = some x) (hy : y ∈ l.take (k + 1)) : y ∈ l.take k ∨ y = x := by
  rw [List.take_add_one, hx, Option.toList_some, List.mem_append, List.mem_singleton] at hy
  exact hy
theorem LeastAt.first {c : Option (List UInt8)} {l : List Itm} {k : Nat} {x : Itm} (h : ∀ x ∈ l.take k, candI c x = false) (hx : l[k]? = some x) (hp : candI c x = true) : LeastAt c l (k + 1) (k : Int) :=
  .inr ⟨k, x, rfl, by omega, hx, hp, fun u hu hc => (itake_mem hx hu).elim (fun m => by rw [h u m] at hc; cases hc) fun e => by rw [e]; exact ltB_irrefl _⟩
theorem LeastAt.next {c : Option (List UInt8)} {l : List Itm} {k : Nat} {x y : Itm} (h : ∀ u ∈ l.take k, candI c u = true → ltB u.key y.key = false) (hx : l[k]? = some x) (hp : candI c x = true) (hb : ltB x.key y.key = true) : LeastAt c l (k + 1) (k : Int) :=
  .inr ⟨k, x, rfl, by omega, hx, hp, fun u hu hc => (itake_mem hx hu).elim (fun m => by
    cases hux : ltB u.key x.key with
    | false => rfl
    | true => rw [← h u m hc, ltB_trans hux hb]) fun e => by rw [e]; exact ltB_irrefl _⟩
end Go.Proofs.Ytfpgklpnpplnnaa

namespace Go.Proofs.Ytfpgklpnpplnnaa
open Go.RowKit

theorem run_str_to {P : Program} {t : TypeId} (ht : P.underlying t = some .string) (w : World) (S : ByteArray) (k : Nat) (i : Int) (hi : i = (k : Int)) (hk : k ≤ S.size) :
    (Instr.slice t (.string S) none (some (.int .i64 i)) none).run P w = .ok (.string (S.extract 0 k)) w := by
  subst hi
  rw [run_slice_string_to_if w t S .i64 _ ht, if_pos (by omega)]
  rfl
end Go.Proofs.Ytfpgklpnpplnnaa

namespace Go.Proofs.Ytfpgklpnpplnnaa
open Go.RowKit

theorem run_txt_add {P : Program} (a b : List UInt8) (h : a.length + b.length ≤ 9223372036854775807) (w : World) : (Op.stringOp .add (str a) (str b)).run P w = .ok (.string (str (a ++ b))) w := by
  rw [run_string_add_sum _ _ _ (by rw [str_size, str_size]; exact h), txt_app]
theorem drewN2 (w : World) (a b : Nat) : ∃ n, (w.drewN a).drewN b = w.drewN n := ⟨_, World.drewN_drewN _ _ _⟩
theorem alike_post {a b : List UInt8} {k na nb : Nat} (ha : na = a.length) (hb : nb = b.length) (h1 : k ≤ na) (h2 : k ≤ nb) (h3 : a.take k = b.take k) (h4 : k < na → k < nb → a.getD k 0 ≠ b.getD k 0) : (k : Int) = (alikeN a b : Nat) := by
  rw [alikeN_at (by omega) (by omega) h3 (fun u v => h4 (by omega) (by omega))]
set_option maxHeartbeats 400000 in
theorem key_alike (a b : List UInt8) (ha : a.length ≤ 9223372036854775807) (w : World) : Calls Try.prog 57 #[.string (str a), .string (str b)] w fun e w' => e = .returned (.int .i64 (alikeN a b : Nat)) ∧ ∃ n, w' = w.drewN n := by
  have hza : (str a).size = a.length := str_size a
  have hzb : (str b).size = b.length := str_size b
  have hA : ∀ k, (h : k < (str a).size) → (str a)[k] = a.getD k 0 := fun k h => txt_at a k h
  have hB : ∀ k, (h : k < (str b).size) → (str b)[k] = b.getD k 0 := fun k h => txt_at b k h
  generalize str a = S at hza hA ⊢
  generalize str b = T at hzb hB ⊢
  have HA := Lib.hid hA
  have HB := Lib.hid hB
  have HZA := Lib.hid hza
  have HZB := Lib.hid hzb
  have hmx : S.size ≤ 9223372036854775807 := by omega
  clear hA hB hza hzb
  go_enter Try.func57, Try.ntmps57
  go_wp2_with fail
  go_loopw [5] (fun i wr => ∃ k m : Nat, k ≤ S.size ∧ k ≤ T.size ∧ Hid (a.take k = b.take k) ∧ i = .int .i64 k ∧ wr = w.drewN m) (fun i _ => S.size - (intOf i).toNat)
  case atStart => exact ⟨0, 0, by omega, by omega, rfl, rfl, rfl⟩
  case round =>
    obtain ⟨k, m, hk, hk2, HL, rfl, rfl⟩ := hrel
    have HP := fun h4 => Lib.hid (alike_post HZA.out HZB.out hk hk2 HL.out h4)
    by_cases hlt : k < S.size
    · have d1 : decide ((k : Int) < (S.size : Int)) = true := by simpa using hlt
      by_cases hlt2 : k < T.size
      · have d2 : decide ((k : Int) < (T.size : Int)) = true := by simpa using hlt2
        have c1 := HA.out k hlt
        have c2 := HB.out k hlt2
        have HS := fun (h : a.getD k 0 = b.getD k 0) => Lib.hid (show a.take (k + 1) = b.take (k + 1) by rw [take_succ_getD (t := a) (by have := HZA.out; omega), take_succ_getD (t := b) (by have := HZB.out; omega), HL.out, h])
        obtain ⟨x, hx⟩ : ∃ x, a.getD k 0 = x := ⟨_, rfl⟩
        obtain ⟨y, hy⟩ : ∃ y, b.getD k 0 = y := ⟨_, rfl⟩
        rw [hx] at c1 HP HS
        rw [hy] at c2 HP HS
        clear hx hy
        by_cases hxy : x = y
        · subst hxy
          have HN := HS rfl
          clear HS HP
          go_wp2_with fail
          go_quiet (fail)
          go_wp2_with fail
          go_roundw
          case rel => exact ⟨k + 1, _, by omega, by omega, HN, by go_num, rfl⟩
          case measure => simp [intOf]; omega
        · have hxy' := int_eq_false hxy
          have HN := HP fun _ _ => hxy
          clear HS HP hxy
          go_wp2_with fail
          go_quiet (fail)
          go_wp2_with fail
          go_ret
          exact ⟨ret_int HN.out, drewN2 _ _ _⟩
      · have d2 : decide ((k : Int) < (T.size : Int)) = false := by simpa using hlt2
        have HN := HP fun _ h => absurd h hlt2
        clear HP
        go_wp2_with fail
        go_quiet (fail)
        go_wp2_with fail
        go_ret
        exact ⟨ret_int HN.out, drewN2 _ _ _⟩
    · have d1 : decide ((k : Int) < (S.size : Int)) = false := by simpa using hlt
      have HN := HP fun h _ => absurd h hlt
      clear HP
      go_wp2_with fail
      go_quiet (fail)
      go_wp2_with fail
      go_ret
      exact ⟨ret_int HN.out, drewN2 _ _ _⟩
end Go.Proofs.Ytfpgklpnpplnnaa

namespace Go.Proofs.Ytfpgklpnpplnnaa
open Go.RowKit

def cutA (A : Option Addr) (k c : Nat) : Option Addr := if c = k then A else A.map (·.add k)
theorem run_cut {T E : TypeId} (ht : Try.prog.underlying T = some (.slice E)) (hs : ∀ w, (sizeOf E).run Try.prog w = .ok 1 w) (w : World) (A : Option Addr) (n c k : Nat) (hk : k ≤ n) :
    (Instr.slice T (.slice A n c) (some (.int .i64 (k : Int))) none none).run Try.prog w = .ok (.slice (cutA A k c) (n - k) (c - k)) w := by
  have ht' : Try.prog.underlying T = some (.slice (Try.prog.elem T)) := by simp [Program.elem, ht]
  have he : Try.prog.elem T = E := by simp [Program.elem, ht]
  rw [run_slice_l w T _ _ _ ht' .i64 _ (by omega) (by omega), he, hs]
  simp [Result.andThen, sliced, cutA]
theorem RowAt.cut {w : World} {B : Nat} {A : Option Addr} {l : List Value} {k c : Nat} (h : RowAt w B A l) (hk : k ≤ l.length) (hc : l.length ≤ c) : RowAt w B (cutA A k c) (l.drop k) := by
  unfold cutA
  split
  · left
    exact List.drop_of_length_le (by omega)
  · rcases h with h | ⟨b, o, rfl, h2, h3⟩
    · left; rw [h]; simp
    · refine .inr ⟨b, o + k, by simp [Go.WideShapes.add_plain], h2, fun j u hu => ?_⟩
      rw [Nat.add_assoc]
      exact h3 _ u (by rw [← hu, List.getElem?_drop])
theorem RowAt.drewN {w : World} {B : Nat} {A : Option Addr} {l : List Value} (h : RowAt w B A l) (k : Nat) : RowAt (w.drewN k) B A l := h
theorem RdB.cut {w : World} {B : Nat} {A : Option Addr} {c k : Nat} {l : List UInt8} (h : RdB w B A c l) (hk : k ≤ l.length) : RdB w B (cutA A k c) (c - k) (l.drop k) :=
  ⟨by have := RowAt.cut h.row (k := k) (c := c) (by simpa using hk) (by simpa using h.room)
      simpa [bytes] using this, by have := h.room; simp; omega, by have := h.cap; omega⟩
theorem byte_size (w : World) : (sizeOf 5).run Try.prog w = .ok 1 w := by kernel_rfl
theorem run_cut2 {T E : TypeId} (ht : Try.prog.underlying T = some (.slice E)) (hs : ∀ w, (sizeOf E).run Try.prog w = .ok 1 w) (w : World) (A : Option Addr) (n c k : Nat) (h : Int) (h1 : (k : Int) ≤ h) (h2 : h ≤ c) :
    (Instr.slice T (.slice A n c) (some (.int .i64 (k : Int))) (some (.int .i64 h)) none).run Try.prog w = .ok (.slice (cutA A k c) (h.toNat - k) (c - k)) w := by
  have ht' : Try.prog.underlying T = some (.slice (Try.prog.elem T)) := by simp [Program.elem, ht]
  have he : Try.prog.elem T = E := by simp [Program.elem, ht]
  rw [run_slice_lh w T _ _ _ ht' .i64 .i64 _ _ (by omega) h1 h2, he, hs]
  simp [Result.andThen, sliced, cutA]
theorem RowAt.take {w : World} {B : Nat} {A : Option Addr} {l : List Value} (h : RowAt w B A l) (k : Nat) : RowAt w B A (l.take k) := by
  rcases h with h | ⟨b, o, rfl, h2, h3⟩
  · left; rw [h]; simp
  · refine .inr ⟨b, o, rfl, h2, fun j u hu => h3 j u ?_⟩
    rw [List.getElem?_take] at hu
    split at hu
    · exact hu
    · cases hu
theorem RdB.take {w : World} {B : Nat} {A : Option Addr} {c : Nat} {l : List UInt8} (h : RdB w B A c l) (k : Nat) : RdB w B A c (l.take k) :=
  ⟨by have := RowAt.take h.row k
      simpa [bytes] using this, by have := h.room; simp; omega, h.cap⟩
end Go.Proofs.Ytfpgklpnpplnnaa

namespace Go.Proofs.Ytfpgklpnpplnnaa
open Go.RowKit

theorem commonF_len (s : List UInt8) (r : List (List UInt8)) : (commonF s r).length ≤ s.length := ((commonF_pre r s).1).length_le
theorem strs_take_step {r : List (List UInt8)} {k : Nat} (s : List UInt8) (h : k < r.length) : commonF s (r.take (k + 1)) = (commonF s (r.take k)).take (alikeN (commonF s (r.take k)) (r.getD k [])) := by
  have e : r.take (k + 1) = r.take k ++ [r.getD k []] := by
    rw [List.take_succ_eq_append_getElem h]; simp [List.getD, List.getElem?_eq_getElem h]
  rw [e, commonF_snoc]
theorem string_size (w : World) : (sizeOf 9).run Try.prog w = .ok 1 w := by kernel_rfl
set_option maxHeartbeats 400000 in
theorem key_common (A : Option Addr) (c n B : Nat) (l : List (List UInt8)) (hn : n = l.length) (hc : n ≤ c) (hcm : c ≤ maxLen) (hl : ∀ x ∈ l, x.length ≤ maxLen) (w : World) (hr : RowAt w B A (strs l)) :
    Calls Try.prog 48 #[.slice A n c] w fun e w' => e = .returned (.string (str (commonV l))) ∧ ∃ n, w' = w.drewN n := by
  unfold maxLen at hcm hl
  cases l with
  | nil =>
    simp at hn
    subst hn
    go_enter Try.func48, Try.ntmps48
    go_wp2_with fail
    go_ret
    exact ⟨rfl, 0, rfl⟩
  | cons s r =>
    obtain ⟨m, hm⟩ : ∃ m, r.length = m := ⟨_, rfl⟩
    rw [List.length_cons, hm] at hn
    subst hn
    have hr2 : RowAt w B (cutA A 1 c) (strs r) := by
      have := RowAt.cut (k := 1) (c := c) hr (by simp) (by simp [hm]; omega)
      simpa using this
    have K1 : ∀ w : World, (Instr.slice 88 (.slice A (m + 1) c) (some (.int .i64 1)) none none).run Try.prog w = .ok (.slice (cutA A 1 c) m (c - 1)) w :=
      fun w : World => run_cut (T := 88) (E := 9) Try.underlying88 string_size w A (m + 1) c 1 (by omega)
    obtain ⟨b0, o0, rfl, hb0, hcell⟩ := hr.strs_at (by simp)
    have h0 : w.cell? ⟨b0, o0, none⟩ = some (.string (str s)) := by simpa using hcell 0 (by simp)
    have hs : s.length ≤ 9223372036854775807 := by have := hl s (List.mem_cons_self ..); omega
    have HM := Lib.hid hm
    have HS : Hid (∀ k, (commonF s (r.take k)).length ≤ s.length) := fun k => commonF_len _ _
    have HR2 := Lib.hid hr2
    clear hl hr hm hcell hr2
    obtain ⟨A2, hA2⟩ : ∃ A2, cutA (some ⟨b0, o0, none⟩) 1 c = A2 := ⟨_, rfl⟩
    rw [hA2] at HR2 K1
    clear hA2
    have hm0 : ((m : Int) + 1 == 0) = false := by rw [beq_eq_false_iff_ne]; omega
    go_enter Try.func48, Try.ntmps48
    go_wp2_with fail
    go_loopw [3, 15] (fun v i wr => ∃ k q : Nat, k ≤ m ∧ v = .string (str (commonF s (r.take k))) ∧ i = .int .i64 k ∧ wr = w.drewN q) (fun _ i _ => m - (intOf i).toNat)
    case atStart => exact ⟨0, 0, by omega, rfl, rfl, rfl⟩
    case round =>
      obtain ⟨k, q, hk, rfl, rfl, rfl⟩ := hrel
      have hlen := HS.out k
      by_cases hlt : k < m
      · obtain ⟨b1, o1, rfl, hb1, hcell⟩ := HR2.out.strs_at (by have := HM.out; omega)
        have hx := hcell k (by have := HM.out; omega)
        have HN := Lib.hid (strs_take_step (r := r) s (by have := HM.out; omega : k < r.length))
        clear hcell
        obtain ⟨t, ht⟩ : ∃ t, commonF s (r.take k) = t := ⟨_, rfl⟩
        obtain ⟨x, hx'⟩ : ∃ x, r.getD k [] = x := ⟨_, rfl⟩
        rw [ht] at HN hlen
        rw [hx'] at hx HN
        rw [ht]
        clear ht hx'
        obtain ⟨a, ha⟩ : ∃ a, alikeN t x = a := ⟨_, rfl⟩
        have hat : a ≤ t.length := by rw [← ha]; exact (alikeN_le t x).1
        have HK := Lib.hid fun w => key_alike t x (by omega) w
        rw [ha] at HK HN
        clear ha
        have hsz : (str t).size = t.length := str_size t
        have HX : Hid ((str t).extract 0 a = str (t.take a)) := str_take t a
        generalize str t = T at HK hsz HX ⊢
        go_wp2_with ((with_reducible refine (HK.out _).mono ?_); rintro e w' ⟨rfl, q2, rfl⟩)
        go_roundw
        case rel => exact ⟨k + 1, _, by omega, by rw [HN.out, HX.out], by go_num, rfl⟩
        case measure => simp [intOf]; omega
      · have HF : Hid (r.take k = r) := List.take_of_length_le (by have := HM.out; omega)
        rw [HF.out]
        clear hlen
        go_wp2_with fail
        go_ret
        exact ⟨rfl, _, rfl⟩
end Go.Proofs.Ytfpgklpnpplnnaa
