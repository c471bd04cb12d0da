/-
  Layer 8 (ranges), the document's words: is a list right; is it too long; are two the same.
-/
import Derived.Test.YtgoenmgkhdibnaaRgsA
import Derived.BigRegion
import Derived.Deep.QuietTactic
import Derived.BigQuiet
import Derived.IntWalk
namespace Go.Proofs.Ytgoenmgkhdibnaa
open Go.RowKit

/-- Is what comes behind a range right? -/
def rightF : Option Rng → List Rng → Bool
  | _, [] => true
  | none, r :: l => rightR r && rightF (some r) l
  | some p, r :: l => rightR r && (gapR p r && rightF (some r) l)
theorem rightF_some : ∀ (r : Rng) (l : List Rng), (rightR r && rightF (some r) l) = rightL (r :: l)
  | r, [] => by simp [rightF, rightL]
  | r, t :: l => by
    have := rightF_some t l
    unfold rightF rightL
    rw [← this]
    cases rightR r <;> cases gapR r t <;> cases rightR t <;> simp
theorem rightF_none (l : List Rng) : rightF none l = rightL l := by
  cases l with
  | nil => rfl
  | cons r l => rw [← rightF_some]; rfl
/-- The range ahead of place k. -/
def prevR (l : List Rng) : Nat → Option Rng
  | 0 => none
  | k + 1 => l[k]?
theorem less_q (a b : List UInt8) (S T : ByteArray) (hS : str a = S) (hT : str b = T) (ha : a.length ≤ 9223372036854775807) (v : Bool) (hv : ltB a b = v) (w : World) : Calls Try.prog 28 #[.string S, .string T] w fun e w' => e = .returned (.bool v) ∧ ∃ n, w' = w.drewN n := by
  subst hS hT hv
  exact ref_less a b ha w
set_option maxHeartbeats 1000000 in
theorem ref_lright (A : Option Addr) (c n : Nat) (l : List Rng) (hn : n = l.length) (hl : ∀ r ∈ l, r.hi.length ≤ 9223372036854775807) (v : Bool) (hv : rightL l = v) (w : World) (hr : kRng.Rd w w.heap.size A c l) :
    Calls Try.prog 11 #[.slice A n c] w fun e w' => e = .returned (.bool v) ∧ Below w.heap.size w w' := by
  have HN := Lib.hid hn
  have HR := Lib.hid hr
  have HLN := Lib.hid hl
  have hmx : n ≤ 9223372036854775807 := rd_max hr hn
  have hcx : n ≤ c := by rw [hn]; exact hr.room
  subst hv
  clear hn hr hl
  go_enter Try.func11, Try.ntmps11
  go_wp2_with fail
  go_loopw [3] (fun i wr => ∃ k : Nat, k ≤ n ∧ Hid (rightL l = rightF (prevR l k) (l.drop k)) ∧ i = .int .i64 k ∧ Below w.heap.size w wr) (fun i _ => n - (intOf i).toNat)
  case atStart => exact ⟨0, by omega, (rightF_none l).symm, rfl, Below.refl _ _⟩
  case round =>
    obtain ⟨k, hk, HL, rfl, hb⟩ := hrel
    by_cases hlt : k < n
    · obtain ⟨r, hg, hd, -⟩ := get_some (l := l) (k := k) (by have := HN.out; omega)
      have HR1 := Lib.hid (HR.out.below hb)
      obtain ⟨b, o, rfl, hb1, hcell⟩ := rngs_at HR1.out (by have := HN.out; omega)
      obtain ⟨c0, c1, c2⟩ := hcell k r hg
      obtain ⟨d, hdv⟩ : ∃ d, rightR r = d := ⟨_, rfl⟩
      have C := fun w => Lib.hid (ref_rright r _ _ _ d (IsR.mk' r) hdv w)
      cases d
      · have HL2 := Lib.hid (HL.out.trans (show rightF (prevR l k) (l.drop k) = false by rw [hd]; cases prevR l k <;> simp [rightF, hdv]))
        clear hcell hg hd hdv
        go_wp2_with ((with_reducible refine (C _).out.mono ?_); rintro e w2 ⟨rfl, hq⟩; replace hb := hb.trans (hq.mono hb.size); clear hq)
        go_ret
        exact ⟨ret_bool HL2.out.symm, hb⟩
      · cases k with
        | zero =>
          have HL2 := Lib.hid (HL.out.trans (show rightF (prevR l 0) (l.drop 0) = rightF (prevR l 1) (l.drop 1) by rw [hd]; show rightF none _ = rightF l[0]? _; rw [hg]; simp [rightF, hdv]))
          clear hcell hg hd hdv
          simp only [Nat.zero_mul, Nat.add_zero] at c0 c1 c2
          go_wp2_with ((with_reducible refine (C _).out.mono ?_); rintro e w2 ⟨rfl, hq⟩; replace hb := hb.trans (hq.mono hb.size); clear hq)
          go_quiet (fail)
          go_wp2_with fail
          go_roundw
          case rel => exact ⟨1, by omega, HL2, rfl, below_drewN hb _⟩
          case measure => simp [intOf]; omega
        | succ j =>
          obtain ⟨p, hp, -, hpm⟩ := get_some (l := l) (k := j) (by have := HN.out; omega)
          obtain ⟨p0, p1, p2⟩ := hcell j p hp
          have HL2 := Lib.hid (HL.out.trans (show rightF (prevR l (j + 1)) (l.drop (j + 1)) = (gapR p r && rightF (prevR l (j + 2)) (l.drop (j + 2))) by rw [hd]; show rightF l[j]? _ = (_ && rightF l[j + 1]? _); rw [hp, hg]; simp [rightF, hdv]))
          obtain ⟨x, hx⟩ : ∃ x, ltB p.hi r.lo = x := ⟨_, rfl⟩
          have CL := fun w => Lib.hid (less_q p.hi r.lo _ _ rfl rfl (HLN.out p hpm) x hx w)
          obtain ⟨q, hq⟩ : ∃ q, p.op = q := ⟨_, rfl⟩
          have HGP := Lib.hid (show gapR p r = (!q && x) by unfold gapR; rw [hq, hx])
          rw [hq] at p2
          have hl2 := Nat.lt_of_lt_of_le hb1 hb.size
          have hj1 : (0 : Int) < (j : Int) + 1 := by omega
          have hjd : decide ((0 : Int) < (j : Int) + 1) = true := decide_eq_true hj1
          have hjn : (j : Int) < (n : Int) := by omega
          have hj0 : (0 : Int) ≤ (j : Int) := by omega
          have hjw : IntKind.i64.wrap ((j : Int) + 1 - 1) = (j : Int) := by rw [Int.add_sub_cancel]; exact IntWalk.i64_in _ (by omega)
          have hjn1 : (j : Int) + 1 < (n : Int) := by omega
          have hjw1 : IntKind.i64.wrap ((j : Int) + 1) = (j : Int) + 1 := IntWalk.i64_in _ (by omega)
          have hjt : ((j : Int) + 1).toNat = j + 1 := by omega
          have HJ := Lib.hid hjw
          have HJ1 := Lib.hid hjw1
          have HJT := Lib.hid hjt
          clear hcell hg hd hdv hp hpm hx hq hjw hjw1 hjt
          cases q <;> cases x
          all_goals
            go_wp2_with ((with_reducible refine (C _).out.mono ?_); rintro e w2 ⟨rfl, hq⟩; replace c0 := ((bcell hq).1 _ _ hl2).trans c0; replace p1 := ((bcell hq).1 _ _ hl2).trans p1; replace p2 := ((bcell hq).1 _ _ hl2).trans p2; replace hb := hb.trans (hq.mono hb.size); clear hq)
            have hjw := HJ.out
            have hjw1 := HJ1.out
            have hjt := HJT.out
            go_quiet ((go_at_call 28; exact Calls.quiet_of (CL _).out))
            clear hjw hjw1 hjt
            go_wp2_with fail
          all_goals first
            | (have HE := Lib.hid (HL2.out.trans (show (gapR p r && rightF (prevR l (j + 2)) (l.drop (j + 2))) = rightF (prevR l (j + 2)) (l.drop (j + 2)) by rw [HGP.out]; rfl))
               go_roundw
               case rel => exact ⟨j + 2, by omega, HE, by go_num, below_drewN hb _⟩
               case measure => simp [intOf]; omega)
            | (have HE := Lib.hid (HL2.out.trans (show (gapR p r && rightF (prevR l (j + 2)) (l.drop (j + 2))) = false by rw [HGP.out]; rfl))
               go_ret
               exact ⟨ret_bool HE.out.symm, below_drewN hb _⟩)
    · have HL2 := Lib.hid (HL.out.trans (show rightF (prevR l k) (l.drop k) = true by rw [List.drop_eq_nil_of_le (by have := HN.out; omega)]; cases prevR l k <;> rfl))
      go_wp2_with fail
      go_ret
      exact ⟨ret_bool HL2.out.symm, hb⟩
end Go.Proofs.Ytgoenmgkhdibnaa
