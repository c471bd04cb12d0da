/-
  The laws of layer 7: SpanMeets.
-/
import Derived.Test.YtmdalbglekjcjaaLaw07E
import Derived.Test.YtmdalbglekjcjaaLaw07F
namespace Go.Proofs.Ytmdalbglekjcjaa
open Go.RowKit

theorem spanMeets_walk (a b : Rng) (s : List UInt8) (w : World) : Calls Try.prog 4 #[rngV a, rngV b, .string (str s)] w fun e w' => e = .returned (.bool true) ∧ Below w.heap.size w w' := by
  by_cases hs : (str a.lo).size ≤ 300 ∧ (str a.hi).size ≤ 300 ∧ (str b.lo).size ≤ 300 ∧ (str b.hi).size ≤ 300 ∧ (str s).size ≤ 300
  · cases hm : meetR a b with
    | some m =>
      cases h1 : hasR a s with
      | false => cases hx : ((str m.lo).toList == (str a.lo).toList) with
        | true => exact spanMeets_w1 a b m s _ _ _ _ _ _ _ _ _ _ (IsR.mk' a) (IsR.mk' b) (IsR.mk' m) rfl hm h1 hx hs w
        | false => exact spanMeets_w2 a b m s _ _ _ _ _ _ _ _ _ _ (IsR.mk' a) (IsR.mk' b) (IsR.mk' m) rfl hm h1 hx hs w
      | true => cases hx : ((str m.lo).toList == (str a.lo).toList) with
        | true => exact spanMeets_w3 a b m s _ _ _ _ _ _ _ _ _ _ (IsR.mk' a) (IsR.mk' b) (IsR.mk' m) rfl hm h1 hx hs w
        | false => exact spanMeets_w4 a b m s _ _ _ _ _ _ _ _ _ _ (IsR.mk' a) (IsR.mk' b) (IsR.mk' m) rfl hm h1 hx hs w
    | none => exact spanMeets_none a b _ _ _ _ _ _ _ (IsR.mk' a) (IsR.mk' b) hm hs w
  · exact spanMeets_long _ _ _ _ _ _ _ hs w
end Go.Proofs.Ytmdalbglekjcjaa
