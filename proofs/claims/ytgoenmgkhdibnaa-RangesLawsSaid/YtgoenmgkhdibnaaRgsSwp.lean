/-
  Plain facts on two lists swept together (layer 8): what holds from edge to edge. No program in this text.
-/
import Derived.Test.YtgoenmgkhdibnaaRgsMrg
namespace Go.Proofs.Ytgoenmgkhdibnaa

/-- What holds at an edge, ahead of it: what is left of both lists' edges tells what both have from there on. -/
def SwOk (a b : List Rng) (n : Nat) (cur : Option (List UInt8)) (x : Bool) (ea : List (List UInt8)) (y : Bool) (eb : List (List UInt8)) : Prop :=
  ∀ e, cur = some e → FromE e ea ∧ FromE e eb ∧ (∀ s, ltB s e = false → togV x ea s = hasL a s) ∧ (∀ s, ltB s e = false → togV y eb s = hasL b s) ∧ (dropE e ea).length + (dropE e eb).length ≤ n
/-- How many edges are left, at most. -/
def wtE (n : Nat) : Option (List UInt8) → Nat
  | none => 0
  | some _ => n + 1
theorem SwOk.start (a b : List Rng) (n : Nat) (hn : (edgesR (normV a)).length + (edgesR (normV b)).length ≤ n) : SwOk a b n (some []) false (edgesR (normV a)) false (edgesR (normV b)) := fun e he => by
  injection he with he
  subst he
  have ra : rightL (normV a) = true := makeV_right _ _ _
  have rb : rightL (normV b) = true := makeV_right _ _ _
  refine ⟨⟨edgesR_riseB ra, fun x _ => ltB_nil x⟩, ⟨edgesR_riseB rb, fun x _ => ltB_nil x⟩, fun s _ => by rw [togV_edges ra, normV_has], fun s _ => by rw [togV_edges rb, normV_has], ?_⟩
  have := dropE_len [] (edgesR (normV a))
  have := dropE_len [] (edgesR (normV b))
  omega
theorem SwOk.val {a b : List Rng} {n : Nat} {e : List UInt8} {x y : Bool} {ea eb : List (List UInt8)} (h : SwOk a b n (some e) x ea y eb) : passB e x ea = hasL a e ∧ passB e y eb = hasL b e := by
  obtain ⟨h1, h2, h3, h4, _⟩ := h e rfl
  exact ⟨by rw [← h1.at, h3 e (ltB_irrefl e)], by rw [← h2.at, h4 e (ltB_irrefl e)]⟩
theorem SwOk.next {a b : List Rng} {n : Nat} {e : List UInt8} {x y : Bool} {ea eb : List (List UInt8)} (h : SwOk a b n (some e) x ea y eb) :
    SwOk a b (n - 1) (nearE (dropE e ea) (dropE e eb)) (passB e x ea) (dropE e ea) (passB e y eb) (dropE e eb) ∧ wtE (n - 1) (nearE (dropE e ea) (dropE e eb)) ≤ n ∧ restE n ea eb (some e) = e :: restE (n - 1) (dropE e ea) (dropE e eb) (nearE (dropE e ea) (dropE e eb)) := by
  obtain ⟨h1, h2, h3, h4, h5⟩ := h e rfl
  refine ⟨fun e' he' => ?_, ?_, ?_⟩
  · obtain ⟨k1, k2, k3, k4, _⟩ := nearE_some h1.drop h2.drop he'
    refine ⟨k2, k3, fun s hs => ?_, fun s hs => ?_, by omega⟩
    · have : ltB s e = false := leB_trans (ltB_asymm k1) hs
      rw [h1.pass this, h3 s this]
    · have : ltB s e = false := leB_trans (ltB_asymm k1) hs
      rw [h2.pass this, h4 s this]
  · cases hn : nearE (dropE e ea) (dropE e eb) with
    | none => exact Nat.zero_le _
    | some e' =>
      obtain ⟨_, _, _, k4, _⟩ := nearE_some h1.drop h2.drop hn
      show n - 1 + 1 ≤ n
      omega
  · show e :: mrgE n (dropE e ea) (dropE e eb) = _
    congr 1
    cases n with
    | zero =>
      have e1 : dropE e ea = [] := List.length_eq_zero_iff.1 (by omega)
      have e2 : dropE e eb = [] := List.length_eq_zero_iff.1 (by omega)
      rw [e1, e2]; rfl
    | succ n => exact restE_next n _ _
end Go.Proofs.Ytgoenmgkhdibnaa
