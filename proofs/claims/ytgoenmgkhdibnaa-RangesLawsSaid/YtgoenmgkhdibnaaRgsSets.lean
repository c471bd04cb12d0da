/-
  Plain facts on lists of ranges as sets of texts (layer 8): union, meet, what is left, what a list hasn't. No program in this text.
-/
import Derived.Test.YtgoenmgkhdibnaaRgsPure
namespace Go.Proofs.Ytgoenmgkhdibnaa

/-- What is meant by a number: 1 of one of both, 2 of both, 3 of a and not b, else of none of both. -/
def gV (op : Int) (x y : Bool) : Bool :=
  match decide (op = 1) with
  | true => x || y
  | false => match decide (op = 2) with
    | true => x && y
    | false => match decide (op = 3) with
      | true => x && !y
      | false => !x && !y
def inV (op : Int) (a b : List Rng) (s : List UInt8) : Bool := gV op (hasL a s) (hasL b s)
/-- The right list of what is meant. -/
def makeV (op : Int) (a b : List Rng) : List Rng := mkR (inV op a b) (edgesL (a ++ b)) none
theorem makeV_right (op : Int) (a b : List Rng) : rightL (makeV op a b) = true := (make_ok a b (gV op)).1
theorem makeV_has (op : Int) (a b : List Rng) (s : List UInt8) : hasL (makeV op a b) s = gV op (hasL a s) (hasL b s) := (make_ok a b (gV op)).2 s
theorem makeV_unique {op : Int} {a b u : List Rng} (h : rightL u = true) (hs : ∀ s, hasL u s = gV op (hasL a s) (hasL b s)) : u = makeV op a b :=
  rightL_unique h (makeV_right op a b) fun s => by rw [hs, makeV_has]
theorem gV1 (x y : Bool) : gV 1 x y = (x || y) := rfl
theorem gV2 (x y : Bool) : gV 2 x y = (x && y) := rfl
theorem gV3 (x y : Bool) : gV 3 x y = (x && !y) := rfl
theorem gV4 (x y : Bool) : gV 4 x y = (!x && !y) := rfl
theorem hasL_nil (s : List UInt8) : hasL [] s = false := rfl
/-- The right list of a list's texts. -/
def normV (a : List Rng) : List Rng := makeV 1 a []
def notV (a : List Rng) : List Rng := makeV 4 a []
theorem normV_has (a : List Rng) (s : List UInt8) : hasL (normV a) s = hasL a s := by rw [normV, makeV_has, gV1, hasL_nil, Bool.or_false]
theorem notV_has (a : List Rng) (s : List UInt8) : hasL (notV a) s = !hasL a s := by rw [notV, makeV_has, gV4, hasL_nil, Bool.not_false, Bool.and_true]
theorem normV_right {a : List Rng} (h : rightL a = true) : normV a = a := (makeV_unique h fun s => by rw [gV1, hasL_nil, Bool.or_false]).symm
instance : DecidableEq Rng := fun r t => match decEq r.lo t.lo, decEq r.hi t.hi, decEq r.op t.op with
  | .isTrue h1, .isTrue h2, .isTrue h3 => .isTrue (rng_ext h1 h2 h3)
  | .isFalse h, _, _ => .isFalse fun e => h (by rw [e])
  | _, .isFalse h, _ => .isFalse fun e => h (by rw [e])
  | _, _, .isFalse h => .isFalse fun e => h (by rw [e])
def sameV (a b : List Rng) : Bool := decide (normV a = normV b)
def withinV (a b : List Rng) : Bool := (makeV 3 a b).isEmpty
theorem rightL_empty {u : List Rng} (h : rightL u = true) (hs : ∀ s, hasL u s = false) : u = [] := rightL_unique h rfl fun s => by rw [hs]; rfl
theorem sameV_iff {a b : List Rng} : sameV a b = true ↔ ∀ s, hasL a s = hasL b s := by
  unfold sameV
  rw [decide_eq_true_eq]
  constructor
  · intro h s; rw [← normV_has a, h, normV_has]
  · intro h; exact rightL_unique (makeV_right _ _ _) (makeV_right _ _ _) fun s => by rw [normV_has, normV_has, h]
theorem withinV_iff {a b : List Rng} : withinV a b = true ↔ ∀ s, hasL a s = true → hasL b s = true := by
  unfold withinV
  rw [List.isEmpty_iff]
  constructor
  · intro h s hs
    have := makeV_has 3 a b s
    rw [h, hasL_nil, gV3, hs, Bool.true_and] at this
    cases hb : hasL b s with
    | true => rfl
    | false => rw [hb] at this; cases this
  · intro h
    refine rightL_empty (makeV_right _ _ _) fun s => ?_
    rw [makeV_has, gV3]
    cases ha : hasL a s with
    | false => rfl
    | true => rw [h s ha]; rfl
theorem sameV_within (a b : List Rng) : sameV a b = (withinV a b && withinV b a) := by
  rw [Bool.eq_iff_iff, Bool.and_eq_true, sameV_iff, withinV_iff, withinV_iff]
  constructor
  · intro h; exact ⟨fun s e => by rw [← h]; exact e, fun s e => by rw [h]; exact e⟩
  · intro ⟨h1, h2⟩ s
    cases ha : hasL a s with
    | true => exact (h1 s ha).symm
    | false => cases hb : hasL b s with
      | false => rfl
      | true => rw [h2 s hb] at ha; cases ha
theorem notV_notV (a : List Rng) : sameV (notV (notV a)) a = true := sameV_iff.2 fun s => by rw [notV_has, notV_has, Bool.not_not]
theorem not_union (a b : List Rng) : sameV (notV (makeV 1 a b)) (makeV 2 (notV a) (notV b)) = true := sameV_iff.2 fun s => by
  rw [notV_has, makeV_has, makeV_has, notV_has, notV_has, gV1, gV2, Bool.not_or]
theorem less_meet (a b : List Rng) : sameV (makeV 1 (makeV 3 a b) (makeV 2 a b)) a = true := sameV_iff.2 fun s => by
  rw [makeV_has, makeV_has, makeV_has, gV1, gV2, gV3]; cases hasL a s <;> cases hasL b s <;> rfl
theorem meet_union (a b c : List Rng) : makeV 2 a (makeV 1 b c) = makeV 1 (makeV 2 a b) (makeV 2 a c) := makeV_unique (makeV_right _ _ _) fun s => by
  rw [makeV_has, makeV_has, makeV_has, makeV_has, gV1, gV1, gV2, gV2, gV2]; cases hasL a s <;> cases hasL b s <;> cases hasL c s <;> rfl
theorem union_meet (a b c : List Rng) : makeV 1 a (makeV 2 b c) = makeV 2 (makeV 1 a b) (makeV 1 a c) := makeV_unique (makeV_right _ _ _) fun s => by
  rw [makeV_has, makeV_has, makeV_has, makeV_has, gV1, gV1, gV1, gV2, gV2]; cases hasL a s <;> cases hasL b s <;> cases hasL c s <;> rfl
theorem less_union (a b c : List Rng) : makeV 3 (makeV 1 a b) c = makeV 1 (makeV 3 a c) (makeV 3 b c) := makeV_unique (makeV_right _ _ _) fun s => by
  rw [makeV_has, makeV_has, makeV_has, makeV_has, gV1, gV1, gV3, gV3, gV3]; cases hasL a s <;> cases hasL b s <;> cases hasL c s <;> rfl
theorem union_comm (a b : List Rng) : makeV 1 a b = makeV 1 b a := makeV_unique (makeV_right _ _ _) fun s => by rw [makeV_has, gV1, gV1, Bool.or_comm]
theorem norm_append (a b : List Rng) : normV (a ++ b) = makeV 1 a b := makeV_unique (makeV_right _ _ _) fun s => by rw [normV_has, hasL_append, gV1]
/-- How many ranges, and how long their texts. -/
def SmallL (n : Nat) (l : List Rng) : Prop := l.length ≤ n ∧ ∀ r ∈ l, r.lo.length ≤ 1000 ∧ r.hi.length ≤ 1000
theorem rightL_all : ∀ {l : List Rng}, rightL l = true → ∀ r ∈ l, rightR r = true
  | [], _, _, h => by cases h
  | t :: l, h, r, hr => by
    rcases List.mem_cons.1 hr with rfl | hr
    · exact rightL_head h
    · exact rightL_all (rightL_tail h) r hr
theorem mkR_len (f : List UInt8 → Bool) : ∀ (es : List (List UInt8)) (o : Option (List UInt8)), (mkR f es o).length ≤ es.length + 1
  | [], none => by simp [mkR]
  | [], some lo => by simp [mkR]
  | e :: es, none => by
    rw [mkR]
    cases f e
    · have := mkR_len f es none; simp; omega
    · have := mkR_len f es (some e); simp; omega
  | e :: es, some lo => by
    rw [mkR]
    cases f e
    · have := mkR_len f es none; simp; omega
    · have := mkR_len f es (some lo); simp; omega
theorem putL_len : ∀ (l : List (List UInt8)) (s : List UInt8), (putL l s).length ≤ l.length + 1
  | [], s => by simp [putL]
  | x :: l, s => by
    have := putL_len l s
    rw [putL]
    cases ltB x s with
    | true => simp; omega
    | false => cases decide (x = s) <;> simp
theorem addE_len (E : List (List UInt8)) (r : Rng) : (addE E r).length ≤ E.length + 2 := by
  unfold addE
  have h1 := putL_len E r.lo
  have h2 := putL_len (putL E r.lo) r.hi
  cases rightR r with
  | false => simp
  | true => cases r.op <;> simp <;> omega
theorem edges_len : ∀ (l : List Rng) (E : List (List UInt8)), (l.foldl addE E).length ≤ E.length + 2 * l.length
  | [], E => by simp
  | r :: l, E => by
    have h1 := edges_len l (addE E r)
    have h2 := addE_len E r
    simp only [List.foldl_cons, List.length_cons]
    omega
theorem edgesL_len (l : List Rng) : (edgesL l).length ≤ 1 + 2 * l.length := edges_len l [[]]
theorem makeV_small (op : Int) {a b : List Rng} {n m : Nat} (ha : SmallL n a) (hb : SmallL m b) : SmallL (2 * (n + m) + 2) (makeV op a b) := by
  refine ⟨?_, fun r hr => ?_⟩
  · have h1 := mkR_len (inV op a b) (edgesL (a ++ b)) none
    have h2 := edgesL_len (a ++ b)
    rw [List.length_append] at h2
    have h3 := ha.1
    have h4 := hb.1
    unfold makeV
    omega
  · have := rightL_all (makeV_right op a b) r hr
    have h1 := rightR_lo this
    have h2 := rightR_hi this
    omega
theorem smallL_nil (n : Nat) : SmallL n [] := ⟨by simp, by simp⟩
theorem SmallL.mono {n m : Nat} {l : List Rng} (h : SmallL n l) (hm : n ≤ m) : SmallL m l := ⟨Nat.le_trans h.1 hm, h.2⟩
end Go.Proofs.Ytgoenmgkhdibnaa
