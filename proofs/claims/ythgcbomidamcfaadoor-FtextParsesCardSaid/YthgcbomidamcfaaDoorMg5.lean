/-
  Several texts in one: FltMrg, WordPure, FtxPure, FtxStk, WordA, ShelfStrs, ShelfWB, WordB, WordC, WordD.
-/
import Derived.Lib.SplitLaws
import Derived.Lib.Join
import Derived.Outline
import Derived.Shelf.Strings.Builder1
import Derived.Shelf.Strings.Builder2
import Derived.Shelf.Strings.OnBuilder
import Derived.Shelf.Small.Strs
import Derived.Shelf.Strings.Search1
import Derived.Shelf.Strings.Search2
import Derived.Shelf.Strings.Search3
import Derived.Shelf.LaysM
import Derived.Shelf.Strings.Shaped
import Derived.Shelf.Strings.Prefix
import Derived.Shelf.Strings.Split
import Derived.Shelf.Strings.SplitShaped
import Derived.Test.YthgcbomidamcfaaDoorProg
import Derived.BigQuiet
import Derived.Deep.QuietTactic
import Derived.Test.YthgcbomidamcfaaDoorMg4
/-
  Plain facts on filters, as the program goes through them: the range of a node by itself, and what a list comes to, node by node, with what stands open. No program in this text.
-/
namespace Go.Proofs.YthgcbomidamcfaaDoor

/-- The range of a node that takes no kids. -/
def ownR (n : Nd) : Rng :=
  if n.op = 1 then allR else if n.op = 3 then prefixR n.lo else if n.op = 4 then ⟨n.lo, n.hi, false⟩ else if n.op = 5 then ⟨n.lo, n.hi, true⟩ else zeroR
theorem prefixR_rightV (p : List UInt8) : rightR (prefixR p) = decide (p.length ≤ 16) := by
  by_cases h : p.length ≤ 16
  · rw [decide_eq_true h, prefixR_right h]
  · rw [decide_eq_false h, prefixR_long (by omega)]; rfl
theorem own_leaf {n : Nd} (h1 : n.op ≠ 6) (h2 : n.op ≠ 7) (h3 : n.op ≠ 8) (hn : nodeV n = true) (ks : List TxtP) (s : List UInt8) : hasR (ownR n) s = valN n ks s := by
  cases hr : leafR n with
  | some r =>
    obtain ⟨hrr, hv⟩ := det_leaf hn hr
    rw [hv]
    unfold leafR at hr
    unfold ownR
    by_cases h3 : n.op = 3
    · rw [if_pos h3] at hr
      injection hr with hr
      rw [if_neg (by omega), if_pos h3, hr]
    · rw [if_neg h3] at hr
      by_cases h4 : n.op = 4
      · rw [if_pos h4] at hr
        injection hr with hr
        rw [if_neg (by omega), if_neg h3, if_pos h4, hr]
      · rw [if_neg h4] at hr
        by_cases h5 : n.op = 5
        · rw [if_pos h5] at hr
          injection hr with hr
          rw [if_neg (by omega), if_neg h3, if_neg h4, if_pos h5, ← hr]
          have hn5 : n.hi = [] := by
            unfold nodeV at hn
            rw [if_neg (by omega), if_neg h3, if_neg h4, if_pos h5] at hn
            simp only [Bool.and_eq_true, List.isEmpty_iff] at hn
            exact hn.2.2
          rw [hn5]
        · rw [if_neg h5] at hr; cases hr
  | none =>
    have ho := nodeV_op hn
    unfold leafR at hr
    have h3 : n.op ≠ 3 := fun h => by rw [if_pos h] at hr; cases hr
    rw [if_neg h3] at hr
    have h4 : n.op ≠ 4 := fun h => by rw [if_pos h] at hr; cases hr
    rw [if_neg h4] at hr
    have h5 : n.op ≠ 5 := fun h => by rw [if_pos h] at hr; cases hr
    unfold ownR valN
    by_cases h1 : n.op = 1
    · rw [if_pos h1, if_pos h1, hasR_all]
    · rw [if_neg h1, if_neg h3, if_neg h4, if_neg h5, if_neg h1, if_neg h3, if_neg h4, if_neg h5, if_neg (by omega), if_neg (by omega), if_neg (by omega)]; rfl

/-- What a list of nodes comes to: f tells it of each node, and of what its kids came to; the first of what stands open first. -/
def foldG {T : Type} (f : Nd → List T → T) : List Nd → List T → List T
  | [], st => st
  | n :: l, st => foldG f l (st.take (st.length - kidsN n) ++ [f n (st.drop (st.length - kidsN n))])
theorem foldG_cons {T : Type} (f : Nd → List T → T) (n : Nd) (l : List Nd) (st : List T) {m : Nat} (h : st.length - kidsN n = m) : foldG f (n :: l) st = foldG f l (st.take m ++ [f n (st.drop m)]) := by subst h; rfl
/-- Where the next node finds its kids. -/
theorem dep_step {n : Nd} {l : List Nd} {d e : Nat} (h : depV (n :: l) d = some e) : nodeV n = true ∧ kidsN n ≤ d ∧ depV l (d - kidsN n + 1) = some e := by
  by_cases hn : nodeV n = true ∧ kidsN n ≤ d
  · rw [depV_node hn.1 hn.2] at h; exact ⟨hn.1, hn.2, h⟩
  · have h' : nodeV n = false ∨ ¬ kidsN n ≤ d := by
      cases hm : nodeV n with
      | false => exact .inl rfl
      | true => exact .inr fun hk => hn ⟨hm, hk⟩
    rw [depV_wrong h'] at h; cases h
theorem foldG_len {T : Type} (f : Nd → List T → T) : ∀ (l : List Nd) (st : List T) (e : Nat), depV l st.length = some e → (foldG f l st).length = e
  | [], st, e, h => by injection h
  | n :: l, st, e, h => by
    obtain ⟨_, h2, h3⟩ := dep_step h
    rw [foldG]
    refine foldG_len f l _ e ?_
    rw [List.length_append, List.length_take, List.length_singleton, Nat.min_eq_left (by omega)]
    exact h3
/-- What each of those that stand open keeps. -/
theorem foldG_all {T : Type} (f : Nd → List T → T) (C : T → Prop) : ∀ (l : List Nd) (st : List T) (e : Nat), (∀ n ∈ l, nodeV n = true → ∀ ks, ks.length = kidsN n → (∀ k ∈ ks, C k) → C (f n ks)) → (∀ k ∈ st, C k) → depV l st.length = some e → ∀ k ∈ foldG f l st, C k
  | [], _, _, _, hs, _ => hs
  | n :: l, st, e, hf, hs, h => by
    obtain ⟨h1, h2, h3⟩ := dep_step h
    rw [foldG]
    refine foldG_all f C l _ e (fun m hm => hf m (List.mem_cons_of_mem _ hm)) (fun k hk => ?_) (by rw [List.length_append, List.length_take, List.length_singleton, Nat.min_eq_left (by omega)]; exact h3)
    rcases List.mem_append.1 hk with hk | hk
    · exact hs k (List.mem_of_mem_take hk)
    · rw [List.mem_singleton] at hk
      subst hk
      exact hf n (List.mem_cons_self ..) h1 _ (by rw [List.length_drop]; omega) fun k hk => hs k (List.mem_of_mem_drop hk)
theorem foldG_map {T U : Type} (f : Nd → List T → T) (g : Nd → List U → U) (p : T → U) (hp : ∀ n ks, p (f n ks) = g n (ks.map p)) : ∀ (l : List Nd) (st : List T), (foldG f l st).map p = foldG g l (st.map p)
  | [], _ => rfl
  | n :: l, st => by
    rw [foldG, foldG, foldG_map f g p hp l, List.map_append, List.map_take, List.map_cons, List.map_nil, hp, List.map_drop, List.length_map]
/-- With texts told, it is what the document says. -/
theorem foldG_ev : ∀ (l : List Nd) (st : List TxtP) (e : Nat), depV l st.length = some e → (foldG (fun n ks => valN n ks.reverse) l st).reverse = evV l st.reverse
  | [], _, _, _ => rfl
  | n :: l, st, e, h => by
    obtain ⟨h1, h2, h3⟩ := dep_step h
    have e1 : st.reverse.take (kidsN n) = (st.drop (st.length - kidsN n)).reverse := by rw [List.take_reverse]
    have e2 : st.reverse.drop (kidsN n) = (st.take (st.length - kidsN n)).reverse := by rw [List.drop_reverse]
    rw [foldG, evV, foldG_ev l _ e (by rw [List.length_append, List.length_take, List.length_singleton, Nat.min_eq_left (by omega)]; exact h3), e1, e2, List.reverse_append, List.reverse_singleton]
    rfl
/-- What is told of each value, against the document's word. -/
theorem foldG_right {T : Type} (f : Nd → List T → T) (C : T → TxtP → Prop) {l : List Nd} (hl : rightN l = true)
    (hf : ∀ n ∈ l, nodeV n = true → ∀ ks : List (T × TxtP), ks.length = kidsN n → (∀ k ∈ ks, C k.1 k.2) → C (f n (ks.map (·.1))) (valN n (ks.map (·.2)).reverse)) :
    ∃ x, foldG f l [] = [x] ∧ C x (topV l) := by
  obtain ⟨_, _, h3⟩ := rightN_iff.1 hl
  let g : Nd → List (T × TxtP) → T × TxtP := fun n ks => (f n (ks.map (·.1)), valN n (ks.map (·.2)).reverse)
  have e1 : (foldG g l []).map (·.1) = foldG f l [] := foldG_map g f (·.1) (fun n ks => rfl) l []
  have e2 : (foldG g l []).map (·.2) = foldG (fun n ks => valN n ks.reverse) l [] := foldG_map g (fun n ks => valN n ks.reverse) (·.2) (fun n ks => rfl) l []
  have e3 := foldG_ev l [] 1 h3
  have hc := foldG_all g (fun k => C k.1 k.2) l [] 1 hf (fun k hk => by cases hk) h3
  have hlen := foldG_len g l [] 1 h3
  match hg : foldG g l [], hlen with
  | [k], _ =>
    rw [hg] at e1 e2 hc
    refine ⟨k.1, e1.symm, ?_⟩
    rw [← e2] at e3
    have : topV l = k.2 := by
      unfold topV stkV
      rw [show evV l [] = evV l ([] : List TxtP).reverse from rfl, ← e3]; rfl
    rw [this]
    exact hc k (List.mem_singleton.2 rfl)

/-! Whether it has a text. -/
/-- What a node comes to, of what its kids came to. -/
def boolN (s : List UInt8) (n : Nd) (ks : List Bool) : Bool :=
  if n.op = 6 then !(ks.headD false) else if n.op = 7 then !ks.contains false else if n.op = 8 then ks.contains true else hasR (ownR n) s
theorem all_contains (ks : List TxtP) (s : List UInt8) : (ks.all fun k => k s) = !(ks.map fun k => k s).contains false := by
  induction ks with
  | nil => rfl
  | cons k ks ih =>
    rw [List.all_cons, List.map_cons, List.contains_cons, Bool.not_or, ih]
    cases k s <;> rfl
theorem any_contains (ks : List TxtP) (s : List UInt8) : (ks.any fun k => k s) = (ks.map fun k => k s).contains true := by
  induction ks with
  | nil => rfl
  | cons k ks ih =>
    rw [List.any_cons, List.map_cons, List.contains_cons, ih]
    cases k s <;> rfl
theorem nodeV_not {n : Nd} (hn : nodeV n = true) (h : n.op = 6) : kidsN n = 1 := by
  unfold nodeV at hn
  rw [if_neg (by omega), if_neg (by omega), if_neg (by omega), if_neg (by omega)] at hn
  simp only [Bool.and_eq_true, Bool.or_eq_true, decide_eq_true_eq] at hn
  unfold kidsN
  omega
theorem nodeV_some {n : Nd} (hn : nodeV n = true) (h : n.op = 7 ∨ n.op = 8) : 1 ≤ kidsN n := by
  unfold nodeV at hn
  rw [if_neg (by omega), if_neg (by omega), if_neg (by omega), if_neg (by omega)] at hn
  simp only [Bool.and_eq_true, Bool.or_eq_true, decide_eq_true_eq] at hn
  unfold kidsN
  omega
theorem boolN_val {n : Nd} (hn : nodeV n = true) (s : List UInt8) (ks : List (Bool × TxtP)) (hk : ks.length = kidsN n) (hc : ∀ k ∈ ks, k.1 = k.2 s) : boolN s n (ks.map (·.1)) = valN n (ks.map (·.2)).reverse s := by
  have e : ks.map (·.1) = (ks.map (·.2)).map fun k => k s := by
    rw [List.map_map]
    exact List.map_congr_left fun k hk => hc k hk
  unfold boolN
  by_cases h6 : n.op = 6
  · have h1 := nodeV_not hn h6
    rw [h1] at hk
    match ks, hk, hc with
    | [k], _, hc =>
      rw [if_pos h6]
      unfold valN
      rw [if_neg (by omega), if_neg (by omega), if_neg (by omega), if_neg (by omega), if_pos h6]
      have := hc k (List.mem_singleton.2 rfl)
      simp [this]
  · rw [if_neg h6]
    by_cases h7 : n.op = 7
    · rw [if_pos h7, e, ← all_contains]
      unfold valN
      rw [if_neg (by omega), if_neg (by omega), if_neg (by omega), if_neg (by omega), if_neg h6, if_pos h7, List.all_reverse]
    · rw [if_neg h7]
      by_cases h8 : n.op = 8
      · rw [if_pos h8, e, ← any_contains]
        unfold valN
        rw [if_neg (by omega), if_neg (by omega), if_neg (by omega), if_neg (by omega), if_neg h6, if_neg h7, if_pos h8, List.any_reverse]
      · rw [if_neg h8, own_leaf h6 h7 h8 hn]
theorem fold_match {l : List Nd} (hl : rightN l = true) (s : List UInt8) : foldG (boolN s) l [] = [matchN l s] := by
  obtain ⟨x, h1, h2⟩ := foldG_right (boolN s) (fun b p => b = p s) hl fun n _ hn ks hk hc => boolN_val hn s ks hk hc
  rw [h1, h2]
  unfold matchN
  rw [hl, Bool.true_and]

/-! Its list of ranges. -/
/-- What two lists make, of all of them. -/
def togL (op : Int) : List (List Rng) → List Rng
  | [] => []
  | a :: l => l.foldl (makeV op) a
def listN (n : Nd) (ks : List (List Rng)) : List Rng :=
  if n.op = 6 then notV (ks.headD []) else if n.op = 7 then togL 2 ks else if n.op = 8 then togL 1 ks else normV [ownR n]
/-- A right list that turns at no other texts than these. -/
def OkL (E : List (List UInt8)) (l : List Rng) : Prop := rightL l = true ∧ Det (hasL l) E
theorem tog_ok (op : Int) (E : List (List UInt8)) (g : List UInt8 → List TxtP → Bool) : ∀ (l : List (List Rng)) (a : List Rng), OkL E a → (∀ k ∈ l, OkL E k) → OkL E (l.foldl (makeV op) a)
  | [], a, ha, _ => ha
  | b :: l, a, ha, hl => by
    rw [List.foldl_cons]
    refine tog_ok op E g l _ ⟨makeV_right _ _ _, fun s c h => ?_⟩ fun k hk => hl k (List.mem_cons_of_mem _ hk)
    rw [makeV_has, makeV_has, ha.2 s c h, (hl b (List.mem_cons_self ..)).2 s c h]
theorem tog_and : ∀ (l : List (List Rng)) (a : List Rng) (s : List UInt8), hasL (l.foldl (makeV 2) a) s = (hasL a s && l.all fun k => hasL k s)
  | [], a, s => by simp
  | b :: l, a, s => by rw [List.foldl_cons, tog_and l, makeV_has, gV2, List.all_cons, Bool.and_assoc]
theorem tog_or : ∀ (l : List (List Rng)) (a : List Rng) (s : List UInt8), hasL (l.foldl (makeV 1) a) s = (hasL a s || l.any fun k => hasL k s)
  | [], a, s => by simp
  | b :: l, a, s => by rw [List.foldl_cons, tog_or l, makeV_has, gV1, List.any_cons, Bool.or_assoc]
theorem listN_ok {E : List (List UInt8)} {n : Nd} (hn : nodeV n = true) (hE : ∀ r, leafR n = some r → Det (hasR r) E) (ks : List (List Rng × TxtP)) (hk : ks.length = kidsN n) (hc : ∀ k ∈ ks, OkL E k.1 ∧ ∀ s, hasL k.1 s = k.2 s) :
    OkL E (listN n (ks.map (·.1))) ∧ ∀ s, hasL (listN n (ks.map (·.1))) s = valN n (ks.map (·.2)).reverse s := by
  have key : rightL (listN n (ks.map (·.1))) = true ∧ ∀ s, hasL (listN n (ks.map (·.1))) s = valN n (ks.map (·.2)).reverse s := by
    unfold listN
    by_cases h6 : n.op = 6
    · have h1 := nodeV_not hn h6
      rw [h1] at hk
      match ks, hk, hc with
      | [k], _, hc =>
        rw [if_pos h6]
        refine ⟨makeV_right _ _ _, fun s => ?_⟩
        unfold valN
        rw [if_neg (by omega), if_neg (by omega), if_neg (by omega), if_neg (by omega), if_pos h6]
        have := (hc k (List.mem_singleton.2 rfl)).2 s
        simp [notV_has, this]
    · rw [if_neg h6]
      by_cases h7 : n.op = 7
      · have h1 := nodeV_some hn (.inl h7)
        rw [if_pos h7]
        match ks, hk, hc with
        | [], hk, _ => simp at hk; omega
        | k :: ks, _, hc =>
          rw [List.map_cons, togL]
          refine ⟨(tog_ok 2 E (fun _ _ => true) _ _ (hc k (List.mem_cons_self ..)).1 fun m hm => ?_).1, fun s => ?_⟩
          · obtain ⟨q, hq, rfl⟩ := List.mem_map.1 hm
            exact (hc q (List.mem_cons_of_mem _ hq)).1
          · rw [tog_and]
            unfold valN
            rw [if_neg (by omega), if_neg (by omega), if_neg (by omega), if_neg (by omega), if_neg h6, if_pos h7, List.all_reverse, List.map_cons, List.all_cons, (hc k (List.mem_cons_self ..)).2 s, List.all_map, List.all_map]
            congr 1
            rw [Bool.eq_iff_iff, List.all_eq_true, List.all_eq_true]
            constructor
            · intro h q hq; have := h q hq; simp only [Function.comp] at this ⊢; rw [← (hc q (List.mem_cons_of_mem _ hq)).2 s]; exact this
            · intro h q hq; have := h q hq; simp only [Function.comp] at this ⊢; rw [(hc q (List.mem_cons_of_mem _ hq)).2 s]; exact this
      · rw [if_neg h7]
        by_cases h8 : n.op = 8
        · have h1 := nodeV_some hn (.inr h8)
          rw [if_pos h8]
          match ks, hk, hc with
          | [], hk, _ => simp at hk; omega
          | k :: ks, _, hc =>
            rw [List.map_cons, togL]
            refine ⟨(tog_ok 1 E (fun _ _ => true) _ _ (hc k (List.mem_cons_self ..)).1 fun m hm => ?_).1, fun s => ?_⟩
            · obtain ⟨q, hq, rfl⟩ := List.mem_map.1 hm
              exact (hc q (List.mem_cons_of_mem _ hq)).1
            · rw [tog_or]
              unfold valN
              rw [if_neg (by omega), if_neg (by omega), if_neg (by omega), if_neg (by omega), if_neg h6, if_neg h7, if_pos h8, List.any_reverse, List.map_cons, List.any_cons, (hc k (List.mem_cons_self ..)).2 s, List.any_map, List.any_map]
              congr 1
              rw [Bool.eq_iff_iff, List.any_eq_true, List.any_eq_true]
              constructor
              · rintro ⟨q, hq, h⟩; refine ⟨q, hq, ?_⟩; simp only [Function.comp] at h ⊢; rw [← (hc q (List.mem_cons_of_mem _ hq)).2 s]; exact h
              · rintro ⟨q, hq, h⟩; refine ⟨q, hq, ?_⟩; simp only [Function.comp] at h ⊢; rw [(hc q (List.mem_cons_of_mem _ hq)).2 s]; exact h
        · rw [if_neg h8]
          refine ⟨makeV_right _ _ _, fun s => ?_⟩
          rw [normV_has, hasL_cons, hasL_nil, Bool.or_false, own_leaf h6 h7 h8 hn]
  refine ⟨⟨key.1, ?_⟩, key.2⟩
  have : Det (valN n (ks.map (·.2)).reverse) E := det_val hn hE fun p hp => by
    obtain ⟨q, hq, rfl⟩ := List.mem_map.1 (List.mem_reverse.1 hp)
    intro s c h
    rw [← (hc q hq).2, ← (hc q hq).2]
    exact (hc q hq).1.2 s c h
  intro s c h
  rw [key.2, key.2]
  exact this s c h
def edgeN (l : List Nd) : List (List UInt8) := edgesL (leavesL l)
theorem leaf_det {l : List Nd} {n : Nd} (h : n ∈ l) (hn : nodeV n = true) {r : Rng} (hr : leafR n = some r) : Det (hasR r) (edgeN l) := by
  obtain ⟨h8, h9⟩ := edges_mem (leavesL l) [[]] (List.mem_filterMap.2 ⟨n, h, hr⟩) (det_leaf hn hr).1
  exact det_has h8 h9
/-- A right list that turns at no other texts than a filter's edges isn't longer than they are. -/
theorem okL_small {l : List Nd} {a : List Rng} (h : OkL (edgeN l) a) (hl : l.length ≤ 64) : SmallL 200 a := by
  obtain ⟨m, h4, h5, h6⟩ := edgesL_ok (leavesL l)
  have hd : Det (hasL a) ([] :: m) := by rw [← h4]; exact h.2
  have hm := mkR_all h5 h6 hd
  have e : a = mkR (hasL a) ([] :: m) none := rightL_unique h.1 hm.1 fun s => (hm.2 s).symm
  have h7 := mkR_len (hasL a) ([] :: m) none
  have h8 := edgesL_len (leavesL l)
  have h9 : (leavesL l).length ≤ l.length := List.length_filterMap_le _ _
  rw [h4] at h8
  rw [← e] at h7
  refine ⟨by omega, fun r hr => ?_⟩
  have hrr := rightL_all h.1 r hr
  have := rightR_lo hrr
  have := rightR_hi hrr
  omega
theorem fold_ranges {l : List Nd} (hl : rightN l = true) : foldG listN l [] = [rangesN l] := by
  obtain ⟨x, h1, h2, h3⟩ := foldG_right listN (fun a p => OkL (edgeN l) a ∧ ∀ s, hasL a s = p s) hl fun n hm hn ks hk hc => listN_ok hn (fun r hr => leaf_det hm hn hr) ks hk hc
  rw [h1]
  obtain ⟨h4, h5⟩ := rangesN_ok l
  have : x = rangesN l := rightL_unique h2.1 h4 fun s => by
    rw [h3, h5]
    unfold matchN
    rw [hl, Bool.true_and]
  rw [this]
/-- What stands open on the way keeps to it. -/
theorem open_ok {l : List Nd} {ks : List (List Rng)} {n : Nd} (hm : n ∈ l) (hn : nodeV n = true) (hk : ks.length = kidsN n) (hc : ∀ k ∈ ks, OkL (edgeN l) k) : OkL (edgeN l) (listN n ks) := by
  have := (listN_ok (E := edgeN l) hn (fun r hr => leaf_det hm hn hr) (ks.map fun k => (k, hasL k)) (by rw [List.length_map]; exact hk) (fun k hk => by
    obtain ⟨q, hq, rfl⟩ := List.mem_map.1 hk
    exact ⟨hc q hq, fun s => rfl⟩)).1
  rwa [List.map_map, show ((fun x : List Rng × TxtP => x.1) ∘ fun k => (k, hasL k)) = id from rfl, List.map_id] at this
end Go.Proofs.YthgcbomidamcfaaDoor

/-
  Plain facts on words (layer 5): a text's word, its first letter, lines of words. No program in this text.
-/
namespace Go.Proofs.YthgcbomidamcfaaDoor

/-- Does a byte stand in a word as it is? -/
def plainB (c : UInt8) : Bool := decide (97 ≤ c.toNat ∧ c.toNat ≤ 122) || decide (48 ≤ c.toNat ∧ c.toNat ≤ 57)
/-- The digits of base sixteen. -/
def digL : List UInt8 := [48, 49, 50, 51, 52, 53, 54, 55, 56, 57, 97, 98, 99, 100, 101, 102]
/-- A digit of base sixteen. -/
def hexD (n : Nat) : UInt8 := digL.getD n 0
/-- Which digit a byte is, or -1. -/
def digI (c : UInt8) : Int := Lib.indexByte digL c
/-- How a byte is spelt. -/
def spell (c : UInt8) : List UInt8 := if plainB c = true then [c] else [45, hexD (c.toNat / 16), hexD (c.toNat % 16)]
def spells (l : List UInt8) : List UInt8 := (l.map spell).flatten
/-- A text's word. -/
def ofV (l : List UInt8) : List UInt8 := if l = [] then [95] else spells l
/-- The byte of two digits. -/
def byteOf (x y : UInt8) : UInt8 := UInt8.ofNat ((digI x).toNat * 16 + (digI y).toNat)

theorem spells_nil : spells [] = [] := rfl
theorem spells_cons (c : UInt8) (l : List UInt8) : spells (c :: l) = spell c ++ spells l := rfl
theorem spells_snoc (l : List UInt8) (c : UInt8) : spells (l ++ [c]) = spells l ++ spell c := by simp [spells]
theorem spell_plain {c : UInt8} (h : plainB c = true) : spell c = [c] := if_pos h
theorem spell_other {c : UInt8} (h : plainB c = false) : spell c = [45, hexD (c.toNat / 16), hexD (c.toNat % 16)] := if_neg (by simp [h])
theorem spell_ne (c : UInt8) : spell c ≠ [] := by unfold spell; split <;> simp
theorem spell_len (c : UInt8) : 1 ≤ (spell c).length ∧ (spell c).length ≤ 3 := by unfold spell; split <;> simp
theorem spells_len (l : List UInt8) : l.length ≤ (spells l).length ∧ (spells l).length ≤ 3 * l.length := by
  induction l with
  | nil => simp [spells]
  | cons c l ih =>
    have := spell_len c
    rw [spells_cons, List.length_append, List.length_cons]
    omega
theorem ofV_nil : ofV [] = [95] := rfl
theorem ofV_some {l : List UInt8} (h : l ≠ []) : ofV l = spells l := if_neg h
theorem ofV_len (l : List UInt8) : 1 ≤ (ofV l).length ∧ (ofV l).length ≤ 3 * l.length + 1 := by
  unfold ofV
  split
  · simp
  · rename_i h
    have := spells_len l
    have : 0 < l.length := List.length_pos_iff.2 h
    omega
theorem ofV_ne (l : List UInt8) : ofV l ≠ [] := by
  intro h
  have := (ofV_len l).1
  rw [h] at this
  simp at this

theorem digI_all : ∀ n, n < 256 → (-1 ≤ digI (UInt8.ofNat n) ∧ digI (UInt8.ofNat n) < 16) ∧ (0 ≤ digI (UInt8.ofNat n) → hexD (digI (UInt8.ofNat n)).toNat = UInt8.ofNat n) := by decide +kernel
theorem byte_nat (c : UInt8) : UInt8.ofNat c.toNat = c := by simp
theorem digI_bound (c : UInt8) : -1 ≤ digI c ∧ digI c < 16 := by
  have := (digI_all c.toNat c.toNat_lt).1
  rwa [byte_nat] at this
theorem hexD_digI {c : UInt8} (h : 0 ≤ digI c) : hexD (digI c).toNat = c := by
  have := (digI_all c.toNat c.toNat_lt).2
  rw [byte_nat] at this
  exact this h
theorem digI_hexD : ∀ n, n < 16 → digI (hexD n) = n := by decide +kernel
theorem hexD_inj {m n : Nat} (hm : m < 16) (hn : n < 16) (h : hexD m = hexD n) : m = n := by
  have := digI_hexD m hm
  rw [h, digI_hexD n hn] at this
  omega
theorem stroke_not_plain : plainB 45 = false := rfl
theorem byteOf_hexD (c : UInt8) : byteOf (hexD (c.toNat / 16)) (hexD (c.toNat % 16)) = c := by
  have := c.toNat_lt
  unfold byteOf
  rw [digI_hexD _ (by omega), digI_hexD _ (by omega)]
  have e : ((c.toNat / 16 : Nat) : Int).toNat * 16 + ((c.toNat % 16 : Nat) : Int).toNat = c.toNat := by omega
  rw [e, byte_nat]
theorem byteOf_nat {x y : UInt8} (hx : 0 ≤ digI x) (hy : 0 ≤ digI y) : (byteOf x y).toNat = (digI x).toNat * 16 + (digI y).toNat := by
  have h1 := digI_bound x
  have h2 := digI_bound y
  unfold byteOf
  simp only [UInt8.toNat_ofNat']
  omega
theorem spell_byteOf {x y : UInt8} (hx : 0 ≤ digI x) (hy : 0 ≤ digI y) (hp : plainB (byteOf x y) = false) : spell (byteOf x y) = [45, x, y] := by
  have h1 := digI_bound x
  have h2 := digI_bound y
  rw [spell_other hp, byteOf_nat hx hy]
  have e1 : ((digI x).toNat * 16 + (digI y).toNat) / 16 = (digI x).toNat := by omega
  have e2 : ((digI x).toNat * 16 + (digI y).toNat) % 16 = (digI y).toNat := by omega
  rw [e1, e2, hexD_digI hx, hexD_digI hy]

/-- No letter's spelling begins another's: what stands behind is told apart. -/
theorem spell_cut {c d : UInt8} {a b : List UInt8} (h : spell c ++ a = spell d ++ b) : c = d ∧ a = b := by
  cases hc : plainB c <;> cases hd : plainB d
  · rw [spell_other hc, spell_other hd] at h
    simp only [List.cons_append, List.nil_append, List.cons.injEq, true_and] at h
    obtain ⟨h1, h2, h3⟩ := h
    have := c.toNat_lt
    have := d.toNat_lt
    have e1 := hexD_inj (by omega) (by omega) h1
    have e2 := hexD_inj (by omega) (by omega) h2
    exact ⟨UInt8.toNat_inj.1 (by omega), h3⟩
  · rw [spell_other hc, spell_plain hd] at h
    simp only [List.cons_append, List.nil_append, List.cons.injEq] at h
    rw [← h.1, stroke_not_plain] at hd
    cases hd
  · rw [spell_plain hc, spell_other hd] at h
    simp only [List.cons_append, List.nil_append, List.cons.injEq] at h
    rw [h.1, stroke_not_plain] at hc
    cases hc
  · rw [spell_plain hc, spell_plain hd] at h
    simpa using h
theorem spells_cut : ∀ (t t' : List UInt8) (r : List UInt8), spells t ++ r = spells t' → ∃ q, r = spells q ∧ t' = t ++ q
  | [], t', r, h => ⟨t', by simpa [spells] using h, rfl⟩
  | c :: t, [], r, h => by
    rw [spells_cons, spells_nil, List.append_assoc] at h
    exact absurd (List.append_eq_nil_iff.1 h).1 (spell_ne c)
  | c :: t, d :: t', r, h => by
    rw [spells_cons, spells_cons, List.append_assoc] at h
    obtain ⟨rfl, h'⟩ := spell_cut h
    obtain ⟨q, h1, h2⟩ := spells_cut t t' r h'
    exact ⟨q, h1, by rw [h2]; rfl⟩
theorem spells_inj {s t : List UInt8} (h : spells s = spells t) : s = t := by
  obtain ⟨q, h1, h2⟩ := spells_cut s t [] (by simpa using h)
  have : q = [] := by
    cases q with
    | nil => rfl
    | cons c q => rw [spells_cons] at h1; exact absurd (List.append_eq_nil_iff.1 h1.symm).1 (spell_ne c)
  rw [h2, this, List.append_nil]
/-- The sign of the empty text is no other text's word: it is no byte's spelling. -/
theorem none_not_spells (t : List UInt8) : spells t ≠ [95] := by
  cases t with
  | nil => simp [spells]
  | cons c t =>
    rw [spells_cons]
    intro h
    cases hc : plainB c
    · rw [spell_other hc] at h; simp at h
    · rw [spell_plain hc] at h
      simp only [List.cons_append, List.nil_append, List.cons.injEq] at h
      rw [h.1] at hc
      exact absurd hc (by decide)
theorem ofV_inj {s t : List UInt8} (h : ofV s = ofV t) : s = t := by
  unfold ofV at h
  split at h <;> split at h
  · simp_all
  · exact absurd h.symm (none_not_spells t)
  · exact absurd h (none_not_spells s)
  · exact spells_inj h

/-- WHAT BEGINS A WORD: nothing does that is no spelling. -/
def noFirst (r : List UInt8) : Prop := ∀ c a, r ≠ spell c ++ a
theorem first_plain {c : UInt8} {a : List UInt8} (h : plainB c = true) : c :: a = spell c ++ a := by rw [spell_plain h]; rfl
theorem first_three {x y : UInt8} {a : List UInt8} (hx : 0 ≤ digI x) (hy : 0 ≤ digI y) (hp : plainB (byteOf x y) = false) : 45 :: x :: y :: a = spell (byteOf x y) ++ a := by rw [spell_byteOf hx hy hp]; rfl
theorem noFirst_head {c : UInt8} {a : List UInt8} (hp : plainB c = false) (hc : c ≠ 45) : noFirst (c :: a) := by
  intro d b h
  cases hd : plainB d
  · rw [spell_other hd] at h
    simp only [List.cons_append, List.nil_append, List.cons.injEq] at h
    exact hc h.1
  · rw [spell_plain hd] at h
    simp only [List.cons_append, List.nil_append, List.cons.injEq] at h
    rw [← h.1, hp] at hd
    cases hd
theorem noFirst_short {c : UInt8} {a : List UInt8} (hp : plainB c = false) (hl : (c :: a).length < 3) : noFirst (c :: a) := by
  intro d b h
  cases hd : plainB d
  · rw [spell_other hd] at h
    rw [h] at hl
    simp at hl
    omega
  · rw [spell_plain hd] at h
    simp only [List.cons_append, List.nil_append, List.cons.injEq] at h
    rw [← h.1, hp] at hd
    cases hd
theorem noFirst_digits {x y : UInt8} {a : List UInt8} (h : digI x < 0 ∨ digI y < 0) : noFirst (45 :: x :: y :: a) := by
  intro d b e
  cases hd : plainB d
  · rw [spell_other hd] at e
    simp only [List.cons_append, List.nil_append, List.cons.injEq, true_and] at e
    have := d.toNat_lt
    rw [e.1, e.2.1, digI_hexD _ (by omega), digI_hexD _ (by omega)] at h
    omega
  · rw [spell_plain hd] at e
    simp only [List.cons_append, List.nil_append, List.cons.injEq] at e
    rw [← e.1, stroke_not_plain] at hd
    cases hd
theorem noFirst_spelt {x y : UInt8} {a : List UInt8} (hp : plainB (byteOf x y) = true) : noFirst (45 :: x :: y :: a) := by
  intro d b e
  cases hd : plainB d
  · rw [spell_other hd] at e
    simp only [List.cons_append, List.nil_append, List.cons.injEq, true_and] at e
    rw [e.1, e.2.1, byteOf_hexD, hd] at hp
    cases hp
  · rw [spell_plain hd] at e
    simp only [List.cons_append, List.nil_append, List.cons.injEq] at e
    rw [← e.1, stroke_not_plain] at hd
    cases hd
/-- Where nothing begins what is left, the whole is no word. -/
theorem no_word {w t r : List UInt8} (hw : w ≠ [95]) (h : w = spells t ++ r) (hr : r ≠ []) (hn : noFirst r) : ∀ s, ofV s ≠ w := by
  intro s hs
  unfold ofV at hs
  split at hs
  · exact hw hs.symm
  · rw [h] at hs
    obtain ⟨q, h1, -⟩ := spells_cut t s r hs.symm
    cases q with
    | nil => exact hr h1
    | cons c q => exact hn c (spells q) (by rw [h1, spells_cons])
theorem word_of {w t : List UInt8} (hw : w ≠ []) (h : w = spells t) : ofV t = w := by
  have : t ≠ [] := by
    intro e
    subst e
    exact hw h
  rw [ofV_some this, h]

/-! ### Lines -/
/-- May a word stand in a line? -/
def mayB (w : List UInt8) : Bool := !w.isEmpty && !w.contains 32 && !w.contains 10
def lineV (l : List (List UInt8)) : List UInt8 := Lib.join l [32]
theorem lineV_nil : lineV [] = [] := rfl
theorem lineV_first (x : List UInt8) : lineV [x] = x := Lib.join_one x [32]
theorem lineV_cons (x : List UInt8) (r : List (List UInt8)) : lineV (x :: r) = x ++ Lib.joinTail [32] r := Lib.join_cons x r [32]
theorem lineV_snoc {l : List (List UInt8)} (h : l ≠ []) (x : List UInt8) : lineV (l ++ [x]) = lineV l ++ [32] ++ x := by
  cases l with
  | nil => exact absurd rfl h
  | cons y r =>
    rw [List.cons_append, lineV_cons, lineV_cons]
    simp [Lib.joinTail]
theorem lineV_len (l : List (List UInt8)) (m : Nat) (h : ∀ x ∈ l, x.length ≤ m) : (lineV l).length ≤ l.length * (m + 1) := by
  cases l with
  | nil => simp [lineV_nil]
  | cons y r =>
    have hj : (lineV (y :: r)).length = [32].length * r.length + Lib.lens (y :: r) := Lib.join_length y r [32]
    have hl : ∀ (q : List (List UInt8)), (∀ x ∈ q, x.length ≤ m) → Lib.lens q ≤ q.length * m := by
      intro q
      induction q with
      | nil => intro _; simp [Lib.lens]
      | cons z q ih =>
        intro hq
        have h1 := ih fun x hx => hq x (List.mem_cons_of_mem _ hx)
        have h2 := hq z (List.mem_cons_self ..)
        simp only [Lib.lens, List.map_cons, List.sum_cons, List.length_cons] at h1 ⊢
        rw [Nat.succ_mul]
        omega
    have := hl _ h
    rw [hj]
    simp only [List.length_cons, List.length_nil, Nat.zero_add, Nat.one_mul] at this ⊢
    rw [Nat.mul_succ]
    omega

/-- A line, cut at each blank. -/
def cutsV : List UInt8 → List (List UInt8)
  | [] => [[]]
  | c :: l => if c = 32 then [] :: cutsV l else match cutsV l with
    | h :: t => (c :: h) :: t
    | [] => [[c]]
theorem cutsV_ne (l : List UInt8) : cutsV l ≠ [] := by
  cases l with
  | nil => simp [cutsV]
  | cons c l =>
    unfold cutsV
    split
    · simp
    · split <;> simp
theorem cutsV_blank (l : List UInt8) : cutsV (32 :: l) = [] :: cutsV l := by simp [cutsV]
theorem cutsV_other {c : UInt8} (hc : c ≠ 32) {l h : List UInt8} {t : List (List UInt8)} (e : cutsV l = h :: t) : cutsV (c :: l) = (c :: h) :: t := by
  simp [cutsV, hc, e]
theorem cutsV_app {a : List UInt8} (ha : (32 : UInt8) ∉ a) {l h : List UInt8} {t : List (List UInt8)} (e : cutsV l = h :: t) : cutsV (a ++ l) = (a ++ h) :: t := by
  induction a with
  | nil => exact e
  | cons c a ih =>
    have h1 : c ≠ 32 := fun e => ha (by simp [e])
    have h2 := ih fun e => ha (List.mem_cons_of_mem _ e)
    rw [List.cons_append, cutsV_other h1 h2]
    rfl
theorem cutsV_whole {a : List UInt8} (ha : (32 : UInt8) ∉ a) : cutsV a = [a] := by
  have := cutsV_app ha (l := []) (h := []) (t := []) rfl
  simpa using this
theorem cutsV_hit {a : List UInt8} (ha : (32 : UInt8) ∉ a) (b : List UInt8) : cutsV (a ++ 32 :: b) = a :: cutsV b := by
  have := cutsV_app ha (l := 32 :: b) (cutsV_blank b)
  simpa using this
theorem index_mem (s : List UInt8) : (Lib.index s [32] = -1 ∧ (32 : UInt8) ∉ s) ∨ ∃ a b : List UInt8, Lib.index s [32] = a.length ∧ s = a ++ 32 :: b ∧ (32 : UInt8) ∉ a := by
  induction s with
  | nil => exact .inl ⟨rfl, by simp⟩
  | cons c l ih =>
    by_cases hc : c = 32
    · subst hc
      exact .inr ⟨[], l, by simp [Lib.index], rfl, by simp⟩
    · have hp : ([32] : List UInt8).isPrefixOf (c :: l) = false := by simp [List.isPrefixOf, Ne.symm hc]
      rcases ih with ⟨h1, h2⟩ | ⟨a, b, h1, h2, h3⟩
      · refine .inl ⟨by unfold Lib.index; rw [hp, h1]; rfl, ?_⟩
        simp [Ne.symm hc, h2]
      · refine .inr ⟨c :: a, b, ?_, by rw [h2]; rfl, by simp [Ne.symm hc, h3]⟩
        unfold Lib.index
        rw [hp, h1]
        have : ((a.length : Int) == -1) = false := by rw [beq_eq_false_iff_ne]; omega
        simp [this]
theorem split_cuts : ∀ (n : Nat) (s : List UInt8), s.length ≤ n → Lib.split s [32] = cutsV s := by
  intro n
  induction n with
  | zero =>
    intro s h
    obtain rfl : s = [] := List.eq_nil_of_length_eq_zero (by omega)
    rfl
  | succ n ih =>
    intro s h
    rcases index_mem s with ⟨h1, h2⟩ | ⟨a, b, h1, h2, h3⟩
    · unfold Lib.split
      rw [Lib.count_miss h1, cutsV_whole h2]
      rfl
    · have hd : s.drop (a.length + 1) = b := by rw [h2]; simp
      have ht : s.take a.length = a := by rw [h2]; simp
      have hb : b.length ≤ n := by rw [h2] at h; simp at h; omega
      unfold Lib.split
      rw [Lib.count_hit (by simp) h1, Nat.add_comm 1, Lib.splitK, h1]
      have : ((a.length : Int) == -1) = false := by rw [beq_eq_false_iff_ne]; omega
      rw [this]
      simp only [Bool.false_eq_true, if_false, Int.toNat_natCast, Nat.add_zero, List.length_cons, List.length_nil, Nat.zero_add]
      rw [hd, ht, h2, cutsV_hit h3]
      exact congrArg (a :: ·) (ih b hb)
theorem join_cuts (s : List UInt8) : lineV (cutsV s) = s := by
  induction s with
  | nil => rfl
  | cons c l ih =>
    obtain ⟨h, t, e⟩ := List.exists_cons_of_ne_nil (cutsV_ne l)
    rw [e, lineV_cons] at ih
    by_cases hc : c = 32
    · subst hc
      rw [cutsV_blank, e, lineV_cons]
      simp only [Lib.joinTail, List.map_cons, List.flatten_cons, List.nil_append] at ih ⊢
      rw [List.append_assoc, ih]
      rfl
    · rw [cutsV_other hc e, lineV_cons, List.cons_append, ih]
theorem cuts_none (s : List UInt8) : ∀ p ∈ cutsV s, (32 : UInt8) ∉ p := by
  induction s with
  | nil => simp [cutsV]
  | cons c l ih =>
    obtain ⟨h, t, e⟩ := List.exists_cons_of_ne_nil (cutsV_ne l)
    by_cases hc : c = 32
    · subst hc
      rw [cutsV_blank]
      intro p hp
      rcases List.mem_cons.1 hp with rfl | hp
      · simp
      · exact ih p hp
    · rw [cutsV_other hc e]
      rw [e] at ih
      intro p hp
      rcases List.mem_cons.1 hp with rfl | hp
      · have := ih h (List.mem_cons_self ..)
        simp [Ne.symm hc, this]
      · exact ih p (List.mem_cons_of_mem _ hp)
theorem cuts_line {l : List (List UInt8)} (hne : l ≠ []) (h : ∀ p ∈ l, (32 : UInt8) ∉ p) : cutsV (lineV l) = l := by
  induction l with
  | nil => exact absurd rfl hne
  | cons x r ih =>
    cases r with
    | nil => rw [lineV_first, cutsV_whole (h x (List.mem_cons_self ..))]
    | cons y r =>
      have e : lineV (x :: y :: r) = x ++ 32 :: lineV (y :: r) := by
        rw [lineV_cons, lineV_cons]
        simp [Lib.joinTail]
      rw [e, cutsV_hit (h x (List.mem_cons_self ..)), ih (by simp) fun p hp => h p (List.mem_cons_of_mem _ hp)]
theorem mem_joinTail {r : List (List UInt8)} {p : List UInt8} {c : UInt8} (hp : p ∈ r) (hc : c ∈ p) : c ∈ Lib.joinTail [32] r := by
  unfold Lib.joinTail
  rw [List.mem_flatten]
  exact ⟨[32] ++ p, List.mem_map.2 ⟨p, hp, rfl⟩, List.mem_append_right _ hc⟩
theorem mem_line {l : List (List UInt8)} {p : List UInt8} {c : UInt8} (hp : p ∈ l) (hc : c ∈ p) : c ∈ lineV l := by
  cases l with
  | nil => cases hp
  | cons x r =>
    rw [lineV_cons]
    rcases List.mem_cons.1 hp with rfl | hp
    · exact List.mem_append_left _ hc
    · exact List.mem_append_right _ (mem_joinTail hp hc)
theorem of_mem_line {l : List (List UInt8)} {c : UInt8} (h : c ∈ lineV l) (hc : c ≠ 32) : ∃ p ∈ l, c ∈ p := by
  cases l with
  | nil => cases h
  | cons x r =>
    rw [lineV_cons] at h
    rcases List.mem_append.1 h with h | h
    · exact ⟨x, List.mem_cons_self .., h⟩
    · unfold Lib.joinTail at h
      obtain ⟨q, hq, hcq⟩ := List.mem_flatten.1 h
      obtain ⟨p, hp, rfl⟩ := List.mem_map.1 hq
      rcases List.mem_append.1 hcq with h | h
      · simp only [List.mem_singleton] at h; exact absurd h hc
      · exact ⟨p, List.mem_cons_of_mem _ hp, h⟩

/-- Two blanks side by side. -/
def twoB (s : List UInt8) : Prop := ∃ a b : List UInt8, s = a ++ 32 :: 32 :: b
theorem twoB_nil : ¬ twoB [] := by rintro ⟨a, b, h⟩; simp at h
theorem twoB_cons (c : UInt8) (l : List UInt8) : twoB (c :: l) ↔ (c = 32 ∧ l.head? = some 32) ∨ twoB l := by
  constructor
  · rintro ⟨a, b, h⟩
    cases a with
    | nil =>
      simp only [List.nil_append, List.cons.injEq] at h
      exact .inl ⟨h.1, by rw [h.2]; rfl⟩
    | cons d a =>
      simp only [List.cons_append, List.cons.injEq] at h
      exact .inr ⟨a, b, h.2⟩
  · rintro (⟨rfl, h⟩ | ⟨a, b, rfl⟩)
    · cases l with
      | nil => cases h
      | cons d l => simp only [List.head?_cons, Option.some.injEq] at h; subst h; exact ⟨[], l, rfl⟩
    · exact ⟨c :: a, b, rfl⟩
theorem cuts_head (l : List UInt8) : ∃ h t, cutsV l = h :: t ∧ (h = [] ↔ l = [] ∨ l.head? = some 32) := by
  cases l with
  | nil => exact ⟨[], [], rfl, by simp⟩
  | cons c l =>
    by_cases hc : c = 32
    · subst hc
      exact ⟨[], _, cutsV_blank l, by simp⟩
    · obtain ⟨h, t, e⟩ := List.exists_cons_of_ne_nil (cutsV_ne l)
      exact ⟨c :: h, t, cutsV_other hc e, by simp [hc]⟩
theorem cuts_tail (s : List UInt8) : [] ∈ (cutsV s).tail ↔ s.getLast? = some 32 ∨ twoB s := by
  induction s with
  | nil => simp [cutsV, twoB_nil]
  | cons c l ih =>
    obtain ⟨h, t, e, hh⟩ := cuts_head l
    rw [e, List.tail_cons] at ih
    by_cases hc : c = 32
    · subst hc
      rw [cutsV_blank, List.tail_cons, e, List.mem_cons, ih, twoB_cons]
      have e1 : ([] = h) ↔ (l = [] ∨ l.head? = some 32) := by rw [eq_comm]; exact hh
      rw [e1]
      cases l with
      | nil => simp
      | cons d l => simp only [List.getLast?_cons_cons]; simp [or_left_comm]
    · rw [cutsV_other hc e, List.tail_cons, ih, twoB_cons]
      cases l with
      | nil => simp [hc, twoB_nil]
      | cons d l => simp only [List.getLast?_cons_cons]; simp [hc]
/-- Some piece is empty where the line begins or ends in a blank, or two stand side by side. -/
theorem cuts_empty (s : List UInt8) (hs : s ≠ []) : [] ∈ cutsV s ↔ s.head? = some 32 ∨ s.getLast? = some 32 ∨ twoB s := by
  obtain ⟨h, t, e, hh⟩ := cuts_head s
  have ht := cuts_tail s
  rw [e, List.tail_cons] at ht
  rw [e, List.mem_cons, ht, eq_comm, hh]
  simp [hs]

/-! ### What the library's searches say of these -/
theorem indexByte_mem (s : List UInt8) (c : UInt8) : decide (0 ≤ Lib.indexByte s c) = s.contains c := by
  induction s with
  | nil => rfl
  | cons b l ih =>
    unfold Lib.indexByte
    have hge := Lib.indexByte_ge l c
    by_cases hb : b = c
    · subst hb; simp
    · have h1 : (b == c) = false := by simpa using hb
      have h2 : (c == b) = false := by simpa using Ne.symm hb
      rw [List.contains_cons, h1, h2, Bool.false_or, ← ih]
      by_cases hm : Lib.indexByte l c = -1
      · simp [hm]
      · have : (Lib.indexByte l c == -1) = false := by simpa using hm
        simp only [this, Bool.false_eq_true, if_false]
        rw [decide_eq_decide]
        omega
theorem contains_two (s : List UInt8) : Lib.contains s [32, 32] = true ↔ twoB s := by
  unfold Lib.contains
  rw [decide_eq_true_eq]
  constructor
  · intro h
    rcases Lib.index_spec s [32, 32] with ⟨h1, _⟩ | ⟨i, _, _, h3, _⟩
    · omega
    · unfold Lib.occAt at h3
      obtain ⟨b, hb⟩ := List.isPrefixOf_iff_prefix.1 h3
      refine ⟨s.take i, b, ?_⟩
      have e := List.take_append_drop i s
      rw [← hb] at e
      exact e.symm
  · rintro ⟨a, b, rfl⟩
    rcases Lib.index_spec (a ++ 32 :: 32 :: b) [32, 32] with ⟨_, h2⟩ | ⟨i, h1, _⟩
    · have := h2 a.length (by simp)
      simp [Lib.occAt, List.isPrefixOf] at this
    · omega
theorem prefix_head (s : List UInt8) : Lib.hasPrefix s [32] = true ↔ s.head? = some 32 := by
  cases s with
  | nil => simp [Lib.hasPrefix]
  | cons c l =>
    unfold Lib.hasPrefix
    rw [List.isPrefixOf_iff_prefix, List.head?_cons, Option.some.injEq]
    constructor
    · rintro ⟨a, h⟩; exact (List.cons.inj h).1.symm
    · rintro rfl; exact ⟨l, rfl⟩
theorem suffix_last (s : List UInt8) : Lib.hasSuffix s [32] = true ↔ s.getLast? = some 32 := by
  unfold Lib.hasSuffix
  rw [List.isSuffixOf_iff_suffix, List.getLast?_eq_some_iff]
  constructor
  · rintro ⟨a, rfl⟩; exact ⟨a, rfl⟩
  · rintro ⟨a, rfl⟩; exact ⟨a, rfl⟩

/-- Is a line none? -/
def badB (s : List UInt8) : Bool := s.contains 10 || Lib.contains s [32, 32] || Lib.hasPrefix s [32] || Lib.hasSuffix s [32]
theorem mayB_iff (w : List UInt8) : mayB w = true ↔ w ≠ [] ∧ (32 : UInt8) ∉ w ∧ (10 : UInt8) ∉ w := by
  unfold mayB
  simp only [Bool.and_eq_true, Bool.not_eq_true', List.isEmpty_eq_false_iff, List.contains_eq_mem, decide_eq_false_iff_not]
  exact ⟨fun ⟨⟨a, b⟩, c⟩ => ⟨a, b, c⟩, fun ⟨a, b, c⟩ => ⟨⟨a, b⟩, c⟩⟩
theorem badB_iff {s : List UInt8} (hs : s ≠ []) : badB s = false ↔ ∀ p ∈ cutsV s, mayB p = true := by
  have hb : badB s = true ↔ (10 : UInt8) ∈ s ∨ [] ∈ cutsV s := by
    rw [cuts_empty s hs]
    unfold badB
    simp only [Bool.or_eq_true, List.contains_eq_mem, decide_eq_true_eq, contains_two, prefix_head, suffix_last]
    constructor
    · rintro (((h | h) | h) | h)
      · exact .inl h
      · exact .inr (.inr (.inr h))
      · exact .inr (.inl h)
      · exact .inr (.inr (.inl h))
    · rintro (h | h | h | h)
      · exact .inl (.inl (.inl h))
      · exact .inl (.inr h)
      · exact .inr h
      · exact .inl (.inl (.inr h))
  constructor
  · intro h p hp
    rw [mayB_iff]
    have hn : ¬ ((10 : UInt8) ∈ s ∨ [] ∈ cutsV s) := fun e => by rw [hb.2 e] at h; cases h
    refine ⟨fun e => hn (.inr (e ▸ hp)), cuts_none s p hp, fun e => hn (.inl ?_)⟩
    have := mem_line hp e
    rwa [join_cuts] at this
  · intro h
    cases hbb : badB s
    · rfl
    · exfalso
      rcases hb.1 hbb with e | e
      · rw [← join_cuts s] at e
        obtain ⟨p, hp, hc⟩ := of_mem_line e (by decide)
        exact ((mayB_iff p).1 (h p hp)).2.2 hc
      · exact ((mayB_iff []).1 (h [] e)).1 rfl
/-- The words of words' line are these. -/
theorem line_good {l : List (List UInt8)} (hne : l ≠ []) (h : ∀ p ∈ l, mayB p = true) : lineV l ≠ [] ∧ badB (lineV l) = false ∧ cutsV (lineV l) = l := by
  have hc := cuts_line hne fun p hp => ((mayB_iff p).1 (h p hp)).2.1
  have hn : lineV l ≠ [] := by
    cases l with
    | nil => exact absurd rfl hne
    | cons x r =>
      rw [lineV_cons]
      intro e
      exact ((mayB_iff x).1 (h x (List.mem_cons_self ..))).1 (List.append_eq_nil_iff.1 e).1
  exact ⟨hn, (badB_iff hn).2 (by rw [hc]; exact h), hc⟩
end Go.Proofs.YthgcbomidamcfaaDoor

/-
  Plain facts on filters as texts (layer 11): a filter's text, and that one text is one filter's. No program in this text.
-/
namespace Go.Proofs.YthgcbomidamcfaaDoor

/-- May a byte stand in a name or a word? -/
def cleanB (c : UInt8) : Bool := !(c == 40 || c == 41 || c == 44)
/-- Nothing, or what begins with a bracket or a comma. -/
def EndB (r : List UInt8) : Prop := ∀ c q, r = c :: q → cleanB c = false
theorem endB_nil : EndB [] := fun c q h => by cases h
theorem endB_cons {c : UInt8} {q : List UInt8} (h : cleanB c = false) : EndB (c :: q) := fun d p e => by injection e with e; subst e; exact h
theorem clean_cut : ∀ {a b r r' : List UInt8}, (∀ c ∈ a, cleanB c = true) → (∀ c ∈ b, cleanB c = true) → EndB r → EndB r' → a ++ r = b ++ r' → a = b ∧ r = r'
  | [], [], r, r', _, _, _, _, h => ⟨rfl, h⟩
  | [], c :: b, r, r', _, hb, hr, _, h => by
    have h1 := hr c (b ++ r') h
    rw [hb c (List.mem_cons_self ..)] at h1; cases h1
  | c :: a, [], r, r', ha, _, _, hr', h => by
    have h1 := hr' c (a ++ r) h.symm
    rw [ha c (List.mem_cons_self ..)] at h1; cases h1
  | c :: a, d :: b, r, r', ha, hb, hr, hr', h => by
    rw [List.cons_append, List.cons_append] at h
    injection h with h1 h2
    obtain ⟨h3, h4⟩ := clean_cut (fun x hx => ha x (List.mem_cons_of_mem _ hx)) (fun x hx => hb x (List.mem_cons_of_mem _ hx)) hr hr' h2
    exact ⟨by rw [h1, h3], h4⟩
theorem hexD_clean : ∀ n, n < 16 → cleanB (hexD n) = true := by decide +kernel
theorem plain_clean {c : UInt8} (h : plainB c = true) : cleanB c = true := by
  unfold cleanB
  have : ∀ d : UInt8, plainB d = false → c ≠ d := fun d hd e => by subst e; rw [h] at hd; cases hd
  rw [beq_eq_false_iff_ne.2 (this 40 rfl), beq_eq_false_iff_ne.2 (this 41 rfl), beq_eq_false_iff_ne.2 (this 44 rfl)]; rfl
theorem spell_clean (c : UInt8) : ∀ x ∈ spell c, cleanB x = true := fun x hx => by
  cases h : plainB c with
  | true => rw [spell_plain h, List.mem_singleton] at hx; subst hx; exact plain_clean h
  | false =>
    rw [spell_other h] at hx
    have := c.toNat_lt
    simp only [List.mem_cons, List.not_mem_nil, or_false] at hx
    rcases hx with rfl | rfl | rfl
    · rfl
    · exact hexD_clean _ (by omega)
    · exact hexD_clean _ (by omega)
theorem ofV_clean (l : List UInt8) : ∀ x ∈ ofV l, cleanB x = true := fun x hx => by
  unfold ofV at hx
  split at hx
  · rw [List.mem_singleton] at hx; subst hx; rfl
  · unfold spells at hx
    obtain ⟨y, hy, hxy⟩ := List.mem_flatten.1 hx
    obtain ⟨c, _, rfl⟩ := List.mem_map.1 hy
    exact spell_clean c x hxy

def nameV (op : Int) : List UInt8 :=
  if op = 1 then [97, 108, 108] else if op = 2 then [110, 111, 110, 101] else if op = 3 then [112, 114, 101, 102, 105, 120] else if op = 4 then [114, 97, 110, 103, 101] else if op = 5 then [102, 114, 111, 109] else if op = 6 then [110, 111, 116] else if op = 7 then [97, 110, 100] else [111, 114]
theorem nameV_clean (op : Int) : ∀ c ∈ nameV op, cleanB c = true := by
  unfold nameV
  repeat' split
  all_goals decide
theorem nameV_inj {a b : Int} (ha : 1 ≤ a ∧ a ≤ 8) (hb : 1 ≤ b ∧ b ≤ 8) (h : nameV a = nameV b) : a = b := by
  have e1 : a = 1 ∨ a = 2 ∨ a = 3 ∨ a = 4 ∨ a = 5 ∨ a = 6 ∨ a = 7 ∨ a = 8 := by omega
  have e2 : b = 1 ∨ b = 2 ∨ b = 3 ∨ b = 4 ∨ b = 5 ∨ b = 6 ∨ b = 7 ∨ b = 8 := by omega
  rcases e1 with rfl | rfl | rfl | rfl | rfl | rfl | rfl | rfl <;> rcases e2 with rfl | rfl | rfl | rfl | rfl | rfl | rfl | rfl <;> first | rfl | (exfalso; revert h; decide)
/-- Texts, a comma between each two. -/
def joinC : List (List UInt8) → List UInt8
  | [] => []
  | [a] => a
  | a :: b :: r => a ++ 44 :: joinC (b :: r)
theorem joinC_cons {a : List UInt8} {r : List (List UInt8)} (h : r ≠ []) : joinC (a :: r) = a ++ 44 :: joinC r := by
  cases r with
  | nil => exact absurd rfl h
  | cons b r => rfl
/-- What stands behind a node's name. -/
def restV (n : Nd) (ks : List (List UInt8)) : List UInt8 :=
  if n.op = 1 ∨ n.op = 2 then [] else if n.op = 3 ∨ n.op = 5 then 40 :: (ofV n.lo ++ [41]) else if n.op = 4 then 40 :: (ofV n.lo ++ 44 :: (ofV n.hi ++ [41])) else if n.op = 6 then 40 :: (ks.headD [] ++ [41]) else 40 :: (joinC ks ++ [41])
/-- A node's text, of its kids' texts. -/
def textG (n : Nd) (ks : List (List UInt8)) : List UInt8 := nameV n.op ++ restV n ks
/-- A filter's text. -/
def topT (l : List Nd) : List UInt8 := (foldG textG l []).headD []
def FullN (l : List Nd) : Prop := depV l 0 = some 1
theorem full_top {l : List Nd} (h : FullN l) : foldG textG l [] = [topT l] := by
  have := foldG_len textG l [] 1 h
  unfold topT
  match foldG textG l [], this with
  | [t], _ => rfl
theorem foldG_append {T : Type} (f : Nd → List T → T) : ∀ (a b : List Nd) (st : List T), foldG f (a ++ b) st = foldG f b (foldG f a st)
  | [], _, _ => rfl
  | n :: a, b, st => by rw [List.cons_append, foldG, foldG, foldG_append f a b]
theorem foldG_up {T : Type} (f : Nd → List T → T) : ∀ (a : List Nd) (st tt : List T) (e : Nat), depV a tt.length = some e → foldG f a (st ++ tt) = st ++ foldG f a tt
  | [], _, _, _, _ => rfl
  | n :: a, st, tt, e, h => by
    obtain ⟨h1, h2, h3⟩ := dep_step h
    have e1 : (st ++ tt).length - kidsN n = st.length + (tt.length - kidsN n) := by rw [List.length_append]; omega
    rw [foldG_cons f n a (st ++ tt) e1, foldG, List.take_length_add_append, List.drop_length_add_append, List.append_assoc]
    exact foldG_up f a st _ e (by rw [List.length_append, List.length_take, List.length_singleton, Nat.min_eq_left (by omega)]; exact h3)
theorem dep_flat : ∀ {P : List (List Nd)}, (∀ p ∈ P, FullN p) → depV P.flatten 0 = some P.length
  | [], _ => rfl
  | p :: P, h => by
    have h1 := h p (List.mem_cons_self ..)
    have h2 := dep_flat (P := P) fun q hq => h q (List.mem_cons_of_mem _ hq)
    rw [List.flatten_cons, depV_append, h1]
    have := depV_up P.flatten 0 P.length 1 h2
    rw [Nat.zero_add] at this
    exact this
theorem fold_flat : ∀ {P : List (List Nd)}, (∀ p ∈ P, FullN p) → foldG textG P.flatten [] = P.map topT
  | [], _ => rfl
  | p :: P, h => by
    have h1 := h p (List.mem_cons_self ..)
    have h2 := fold_flat (P := P) fun q hq => h q (List.mem_cons_of_mem _ hq)
    have h3 := dep_flat (P := P) fun q hq => h q (List.mem_cons_of_mem _ hq)
    rw [List.flatten_cons, foldG_append, full_top h1, show [topT p] = [topT p] ++ [] from rfl, foldG_up textG _ [topT p] [] _ h3, h2]
    rfl
/-- A list of nodes is some filters, one behind the other. -/
theorem parts_of : ∀ (N : Nat) (l : List Nd) (d : Nat), l.length ≤ N → depV l 0 = some d → ∃ P : List (List Nd), P.length = d ∧ P.flatten = l ∧ ∀ p ∈ P, FullN p
  | N, l, d, hN, h => by
    rcases List.eq_nil_or_concat l with rfl | ⟨l0, n, rfl⟩
    · have : some 0 = some d := h
      injection this with this
      exact ⟨[], this, rfl, fun p hp => by cases hp⟩
    · cases N with
      | zero => simp at hN
      | succ N =>
        rw [List.concat_eq_append, depV_append] at h
        cases he : depV l0 0 with
        | none => rw [he] at h; cases h
        | some e =>
          rw [he] at h
          obtain ⟨h1, h2, h3⟩ := depV_one.1 h
          obtain ⟨P, hP1, hP2, hP3⟩ := parts_of N l0 e (by simp at hN; omega) he
          have hd : ∀ p ∈ P.drop (e - kidsN n), FullN p := fun p hp => hP3 p (List.mem_of_mem_drop hp)
          refine ⟨P.take (e - kidsN n) ++ [(P.drop (e - kidsN n)).flatten ++ [n]], ?_, ?_, ?_⟩
          · rw [List.length_append, List.length_take, List.length_singleton, h3]; omega
          · rw [List.flatten_append, List.flatten_singleton, ← List.append_assoc, ← List.flatten_append, List.take_append_drop, hP2, List.concat_eq_append]
          · intro p hp
            rcases List.mem_append.1 hp with hp | hp
            · exact hP3 p (List.mem_of_mem_take hp)
            · rw [List.mem_singleton] at hp
              subst hp
              show depV _ 0 = some 1
              rw [depV_append, dep_flat hd]
              exact depV_one.2 ⟨h1, by rw [List.length_drop]; omega, by rw [List.length_drop]; omega⟩
/-- A filter is its kids, and a node behind them. -/
theorem full_cases {l : List Nd} (h : FullN l) : ∃ (K : List (List Nd)) (n : Nd), l = K.flatten ++ [n] ∧ nodeV n = true ∧ K.length = kidsN n ∧ (∀ p ∈ K, FullN p) ∧ topT l = textG n (K.map topT) := by
  have h0 : depV l 0 = some 1 := h
  rcases List.eq_nil_or_concat l with rfl | ⟨l0, n, rfl⟩
  · cases h0
  · rw [List.concat_eq_append, depV_append] at h0
    cases he : depV l0 0 with
    | none => rw [he] at h0; cases h0
    | some e =>
      rw [he] at h0
      obtain ⟨h1, h2, h3⟩ := depV_one.1 h0
      obtain ⟨P, hP1, hP2, hP3⟩ := parts_of l0.length l0 e (Nat.le_refl _) he
      refine ⟨P, n, by rw [hP2, List.concat_eq_append], h1, by omega, hP3, ?_⟩
      unfold topT
      rw [List.concat_eq_append, foldG_append, ← hP2, fold_flat hP3, foldG_cons textG n [] (P.map topT) (m := 0) (by rw [List.length_map]; omega)]
      rfl
theorem join_uniq {Q : List Nd → Prop} (IH : ∀ p p' r r', Q p → FullN p → FullN p' → EndB r → EndB r' → topT p ++ r = topT p' ++ r' → p = p' ∧ r = r') : ∀ (K K' : List (List Nd)) (r r' : List UInt8), K ≠ [] → K' ≠ [] → (∀ p ∈ K, Q p ∧ FullN p) → (∀ p ∈ K', FullN p) →
    joinC (K.map topT) ++ 41 :: r = joinC (K'.map topT) ++ 41 :: r' → K = K' ∧ r = r'
  | [], _, _, _, h, _, _, _, _ => absurd rfl h
  | _ :: _, [], _, _, _, h, _, _, _ => absurd rfl h
  | [p], [p'], r, r', _, _, hK, hK', h => by
    obtain ⟨h1, h2⟩ := IH p p' (41 :: r) (41 :: r') (hK p (List.mem_cons_self ..)).1 (hK p (List.mem_cons_self ..)).2 (hK' p' (List.mem_cons_self ..)) (endB_cons rfl) (endB_cons rfl) h
    injection h2 with _ h2
    exact ⟨by rw [h1], h2⟩
  | [p], p' :: q' :: K', r, r', _, _, hK, hK', h => by
    rw [List.map_cons, List.map_cons, List.map_cons, joinC_cons (a := topT p') (by simp), List.append_assoc] at h
    obtain ⟨_, h2⟩ := IH p p' (41 :: r) _ (hK p (List.mem_cons_self ..)).1 (hK p (List.mem_cons_self ..)).2 (hK' p' (List.mem_cons_self ..)) (endB_cons rfl) (endB_cons (c := 44) rfl) h
    injection h2 with h2 _
    cases h2
  | p :: q :: K, [p'], r, r', _, _, hK, hK', h => by
    rw [List.map_cons, List.map_cons, List.map_cons, joinC_cons (a := topT p) (by simp), List.append_assoc] at h
    obtain ⟨_, h2⟩ := IH p p' _ (41 :: r') (hK p (List.mem_cons_self ..)).1 (hK p (List.mem_cons_self ..)).2 (hK' p' (List.mem_cons_self ..)) (endB_cons (c := 44) rfl) (endB_cons rfl) h
    injection h2 with h2 _
    cases h2
  | p :: q :: K, p' :: q' :: K', r, r', _, _, hK, hK', h => by
    rw [List.map_cons (l := q :: K), List.map_cons (l := q' :: K'), joinC_cons (a := topT p) (by simp), joinC_cons (a := topT p') (by simp), List.append_assoc, List.append_assoc] at h
    obtain ⟨h1, h2⟩ := IH p p' _ _ (hK p (List.mem_cons_self ..)).1 (hK p (List.mem_cons_self ..)).2 (hK' p' (List.mem_cons_self ..)) (endB_cons (c := 44) rfl) (endB_cons (c := 44) rfl) h
    injection h2 with _ h2
    obtain ⟨h3, h4⟩ := join_uniq IH (q :: K) (q' :: K') r r' (by simp) (by simp) (fun x hx => hK x (List.mem_cons_of_mem _ hx)) (fun x hx => hK' x (List.mem_cons_of_mem _ hx)) h2
    exact ⟨by rw [h1, h3], h4⟩
theorem nd_ext {a b : Nd} (h1 : a.op = b.op) (h2 : a.kids = b.kids) (h3 : a.lo = b.lo) (h4 : a.hi = b.hi) : a = b := by cases a; cases b; simp_all
theorem restV_end (n : Nd) (ks : List (List UInt8)) {r : List UInt8} (hr : EndB r) : EndB (restV n ks ++ r) := by
  unfold restV
  split
  · exact hr
  · split
    · exact endB_cons (c := 40) rfl
    · split
      · exact endB_cons (c := 40) rfl
      · split
        · exact endB_cons (c := 40) rfl
        · exact endB_cons (c := 40) rfl
/-- One text is one filter's. -/
theorem text_uniq : ∀ (N : Nat) (l l' : List Nd) (r r' : List UInt8), l.length ≤ N → FullN l → FullN l' → EndB r → EndB r' → topT l ++ r = topT l' ++ r' → l = l' ∧ r = r'
  | N, l, l', r, r', hN, hl, hl', hr, hr', h => by
    obtain ⟨K, n, rfl, hn, hK, hKf, hT⟩ := full_cases hl
    obtain ⟨K', n', rfl, hn', hK', hKf', hT'⟩ := full_cases hl'
    cases N with
    | zero => simp at hN
    | succ N =>
      rw [hT, hT'] at h
      unfold textG at h
      rw [List.append_assoc, List.append_assoc] at h
      obtain ⟨h1, h2⟩ := clean_cut (nameV_clean _) (nameV_clean _) (restV_end n _ hr) (restV_end n' _ hr') h
      have ho := nodeV_op hn
      have hop := nameV_inj ho (nodeV_op hn') h1
      have hkz : ∀ {m : Nd} {L : List (List Nd)}, L.length = kidsN m → m.kids = 0 → L = [] := fun hL hm => List.eq_nil_of_length_eq_zero (by rw [hL]; unfold kidsN; rw [hm]; rfl)
      clear hT hT' h h1
      unfold nodeV at hn hn'
      rw [← hop] at hn'
      unfold restV at h2
      rw [← hop] at h2
      by_cases c1 : n.op = 1 ∨ n.op = 2
      · rw [if_pos c1] at h2 hn hn'
        rw [if_pos c1] at h2
        simp only [Bool.and_eq_true, decide_eq_true_eq, List.isEmpty_iff] at hn hn'
        rw [hkz hK hn.1, hkz hK' hn'.1, nd_ext hop (hn.1.trans hn'.1.symm) (hn.2.1.trans hn'.2.1.symm) (hn.2.2.trans hn'.2.2.symm)]
        exact ⟨rfl, h2⟩
      · rw [if_neg c1] at h2 hn hn'
        rw [if_neg c1] at h2
        by_cases c3 : n.op = 3
        · rw [if_pos (.inl c3), if_pos (.inl c3)] at h2
          rw [if_pos c3] at hn hn'
          simp only [Bool.and_eq_true, decide_eq_true_eq, List.isEmpty_iff] at hn hn'
          rw [List.cons_append, List.cons_append, List.append_assoc, List.append_assoc] at h2
          injection h2 with _ h2
          obtain ⟨h3, h4⟩ := clean_cut (ofV_clean _) (ofV_clean _) (endB_cons (c := 41) rfl) (endB_cons (c := 41) rfl) h2
          injection h4 with _ h4
          rw [hkz hK hn.1, hkz hK' hn'.1, nd_ext hop (hn.1.trans hn'.1.symm) (ofV_inj h3) (hn.2.2.trans hn'.2.2.symm)]
          exact ⟨rfl, h4⟩
        · rw [if_neg c3] at hn hn'
          by_cases c4 : n.op = 4
          · have e35 : ¬ (n.op = 3 ∨ n.op = 5) := by omega
            rw [if_neg e35, if_neg e35, if_pos c4, if_pos c4] at h2
            rw [if_pos c4] at hn hn'
            simp only [Bool.and_eq_true, decide_eq_true_eq] at hn hn'
            rw [List.cons_append, List.cons_append, List.append_assoc, List.append_assoc] at h2
            injection h2 with _ h2
            obtain ⟨h3, h4⟩ := clean_cut (ofV_clean _) (ofV_clean _) (endB_cons (c := 44) rfl) (endB_cons (c := 44) rfl) h2
            injection h4 with _ h4
            have h4 : ofV n.hi ++ 41 :: r = ofV n'.hi ++ 41 :: r' := by simpa using h4
            obtain ⟨h5, h6⟩ := clean_cut (ofV_clean _) (ofV_clean _) (endB_cons (c := 41) rfl) (endB_cons (c := 41) rfl) h4
            injection h6 with _ h6
            rw [hkz hK hn.1, hkz hK' hn'.1, nd_ext hop (hn.1.trans hn'.1.symm) (ofV_inj h3) (ofV_inj h5)]
            exact ⟨rfl, h6⟩
          · rw [if_neg c4] at hn hn'
            by_cases c5 : n.op = 5
            · rw [if_pos (.inr c5), if_pos (.inr c5)] at h2
              rw [if_pos c5] at hn hn'
              simp only [Bool.and_eq_true, decide_eq_true_eq, List.isEmpty_iff] at hn hn'
              rw [List.cons_append, List.cons_append, List.append_assoc, List.append_assoc] at h2
              injection h2 with _ h2
              obtain ⟨h3, h4⟩ := clean_cut (ofV_clean _) (ofV_clean _) (endB_cons (c := 41) rfl) (endB_cons (c := 41) rfl) h2
              injection h4 with _ h4
              rw [hkz hK hn.1, hkz hK' hn'.1, nd_ext hop (hn.1.trans hn'.1.symm) (ofV_inj h3) (hn.2.2.trans hn'.2.2.symm)]
              exact ⟨rfl, h4⟩
            · rw [if_neg c5] at hn hn'
              have e35 : ¬ (n.op = 3 ∨ n.op = 5) := by omega
              rw [if_neg e35, if_neg e35, if_neg c4, if_neg c4] at h2
              simp only [Bool.and_eq_true, Bool.or_eq_true, decide_eq_true_eq, List.isEmpty_iff] at hn hn'
              have hlen : ∀ p ∈ K, p.length ≤ N := fun p hp => by
                have h1 : p.length ≤ K.flatten.length := (List.sublist_flatten_of_mem hp).length_le
                simp at hN h1
                omega
              have IH : ∀ p p' r r', p.length ≤ N → FullN p → FullN p' → EndB r → EndB r' → topT p ++ r = topT p' ++ r' → p = p' ∧ r = r' := fun p p' r r' hp => text_uniq N p p' r r' hp
              have hkk : K = K' → n = n' := fun e => nd_ext hop (by
                have e1 := hK; rw [e, hK'] at e1
                unfold kidsN at e1
                rcases hn.2 with a | a <;> rcases hn'.2 with b | b <;> omega) (hn.1.1.trans hn'.1.1.symm) (hn.1.2.trans hn'.1.2.symm)
              by_cases c6 : n.op = 6
              · rw [if_pos c6, if_pos c6] at h2
                have k1 : kidsN n = 1 := by unfold kidsN; rcases hn.2 with a | a <;> omega
                have k1' : kidsN n' = 1 := by unfold kidsN; rcases hn'.2 with a | a <;> omega
                rw [k1] at hK
                rw [k1'] at hK'
                obtain ⟨p, rfl⟩ : ∃ p, K = [p] := by
                  match K, hK with
                  | [p], _ => exact ⟨p, rfl⟩
                obtain ⟨p', rfl⟩ : ∃ p, K' = [p] := by
                  match K', hK' with
                  | [p], _ => exact ⟨p, rfl⟩
                have h3 : 40 :: (topT p ++ 41 :: r) = 40 :: (topT p' ++ 41 :: r') := by simpa using h2
                injection h3 with _ h3
                obtain ⟨h4, h5⟩ := IH p p' _ _ (hlen p (List.mem_singleton.2 rfl)) (hKf p (List.mem_singleton.2 rfl)) (hKf' p' (List.mem_singleton.2 rfl)) (endB_cons rfl) (endB_cons rfl) h3
                injection h5 with _ h5
                subst h4
                rw [hkk rfl]
                exact ⟨rfl, h5⟩
              · rw [if_neg c6, if_neg c6, List.cons_append, List.cons_append, List.append_assoc, List.append_assoc] at h2
                injection h2 with _ h2
                have k1 : 1 ≤ kidsN n := by unfold kidsN; rcases hn.2 with a | a <;> omega
                have k1' : 1 ≤ kidsN n' := by unfold kidsN; rcases hn'.2 with a | a <;> omega
                obtain ⟨h3, h4⟩ := join_uniq (Q := fun p => p.length ≤ N) IH K K' r r' (fun e => by subst e; simp at hK; omega) (fun e => by subst e; simp at hK'; omega) (fun p hp => ⟨hlen p hp, hKf p hp⟩) hKf' h2
                rw [hkk h3, h3]
                exact ⟨rfl, h4⟩
theorem rightN_full {l : List Nd} (h : rightN l = true) : FullN l := (rightN_iff.1 h).2.2
theorem text_inj {l l' : List Nd} (h : rightN l = true) (h' : rightN l' = true) (e : topT l = topT l') : l = l' :=
  (text_uniq l.length l l' [] [] (Nat.le_refl _) (rightN_full h) (rightN_full h') endB_nil endB_nil (by rw [e])).1
/-- The filter of a text, if there is one. -/
noncomputable def parseV (s : List UInt8) : Option (List Nd) := by
  classical exact if h : ∃ l, rightN l = true ∧ topT l = s then some h.choose else none
theorem parse_back {s : List UInt8} {l : List Nd} (h : parseV s = some l) : rightN l = true ∧ topT l = s := by
  unfold parseV at h
  split at h
  · rename_i hx
    injection h with h
    subst h
    exact hx.choose_spec
  · cases h
theorem parse_some {s : List UInt8} {l : List Nd} (h : rightN l = true) (hs : topT l = s) : parseV s = some l := by
  have hx : ∃ l, rightN l = true ∧ topT l = s := ⟨l, h, hs⟩
  unfold parseV
  rw [dif_pos hx]
  obtain ⟨h1, h2⟩ := hx.choose_spec
  rw [text_inj h1 h (h2.trans hs.symm)]
theorem parse_none {s : List UInt8} (h : parseV s = none) : ∀ l, rightN l = true → topT l ≠ s := fun l hl hs => by
  rw [parse_some hl hs] at h; cases h
/-! How long it is. -/
theorem join_len {m : Nat} : ∀ (K : List (List Nd)), (∀ p ∈ K, (topT p).length + 1 ≤ m * p.length) → (joinC (K.map topT)).length ≤ m * K.flatten.length
  | [], _ => by simp [joinC]
  | p :: K, h => by
    have h1 := h p (List.mem_cons_self ..)
    have h2 := join_len K fun q hq => h q (List.mem_cons_of_mem _ hq)
    rw [List.flatten_cons, List.length_append, Nat.mul_add]
    cases K with
    | nil => simp only [List.map_cons, List.map_nil, joinC]; omega
    | cons q K =>
      rw [List.map_cons, joinC_cons (by simp), List.length_append, List.length_cons]
      omega
theorem text_len : ∀ (N : Nat) (l : List Nd), l.length ≤ N → FullN l → (∀ n ∈ l, n.lo.length ≤ 17 ∧ n.hi.length ≤ 17) → (topT l).length + 1 ≤ 150 * l.length
  | N, l, hN, hl, hs => by
    obtain ⟨K, n, rfl, hn, hK, hKf, hT⟩ := full_cases hl
    cases N with
    | zero => simp at hN
    | succ N =>
      have hk : ∀ p ∈ K, (topT p).length + 1 ≤ 150 * p.length := fun p hp => by
        have h1 : p.length ≤ K.flatten.length := (List.sublist_flatten_of_mem hp).length_le
        refine text_len N p (by simp at hN h1; omega) (hKf p hp) fun m hm => hs m ?_
        exact List.mem_append.2 (.inl (List.mem_flatten.2 ⟨p, hp, hm⟩))
      have hj := join_len K hk
      have hh : ((K.map topT).headD []).length ≤ 150 * K.flatten.length := by
        cases K with
        | nil => simp
        | cons p K =>
          have := hk p (List.mem_cons_self ..)
          rw [List.flatten_cons, List.length_append, Nat.mul_add]
          simp only [List.map_cons, List.headD_cons]
          omega
      have h1 := (ofV_len n.lo).2
      have h2 := (ofV_len n.hi).2
      have h3 := hs n (by simp)
      have h4 : (nameV n.op).length ≤ 6 := by
        unfold nameV
        repeat' split
        all_goals decide
      have h5 : (restV n (K.map topT)).length ≤ 120 + 150 * K.flatten.length := by
        unfold restV
        repeat' split
        all_goals simp only [List.length_cons, List.length_append, List.length_nil]
        all_goals omega
      rw [hT]
      unfold textG
      rw [List.length_append, List.length_append, List.length_singleton]
      omega
end Go.Proofs.YthgcbomidamcfaaDoor

/-
  Plain facts on filters as texts, from the last node down: what stands open, and how long its texts are. No program in this text.
-/
namespace Go.Proofs.YthgcbomidamcfaaDoor

theorem dep_valid : ∀ {l : List Nd} {d e : Nat}, depV l d = some e → ∀ n ∈ l, nodeV n = true
  | [], _, _, _, n, hn => by cases hn
  | m :: l, d, e, h, n, hn => by
    obtain ⟨h1, _, h3⟩ := dep_step h
    rcases List.mem_cons.1 hn with rfl | hn
    · exact h1
    · exact dep_valid h3 n hn
theorem nodeV_17 {n : Nd} (h : nodeV n = true) : n.lo.length ≤ 17 ∧ n.hi.length ≤ 17 := by
  unfold nodeV at h
  split at h
  · simp at h; simp [h.2.1, h.2.2]
  · split at h
    · simp at h; simp [h.2.2]; omega
    · split at h
      · simp only [Bool.and_eq_true] at h; exact ⟨rightR_lo h.2, rightR_hi h.2⟩
      · split at h
        · simp at h; simp [h.2.2]; omega
        · simp only [Bool.and_eq_true, List.isEmpty_iff] at h; simp [h.1.1, h.1.2]
/-- What stands open is some filters' texts, none of them too long. -/
theorem fold_parts {l : List Nd} {d : Nat} (h : depV l 0 = some d) : ∃ P : List (List Nd), P.length = d ∧ P.flatten = l ∧ foldG textG l [] = P.map topT ∧ ∀ q ∈ P, (topT q).length + 1 ≤ 150 * q.length := by
  obtain ⟨P, h1, h2, h3⟩ := parts_of l.length l d (Nat.le_refl _) h
  refine ⟨P, h1, h2, by rw [← h2]; exact fold_flat h3, fun q hq => text_len q.length q (Nat.le_refl _) (h3 q hq) fun n hn => nodeV_17 (dep_valid h n ?_)⟩
  rw [← h2]; exact List.mem_flatten.2 ⟨q, hq, hn⟩
theorem join_small {l : List Nd} {d : Nat} (h : depV l 0 = some d) (j : Nat) : (joinC ((foldG textG l []).drop j)).length ≤ 150 * l.length := by
  obtain ⟨P, _, h2, h3, h4⟩ := fold_parts h
  rw [h3, ← List.map_drop]
  have h5 := join_len (P.drop j) fun q hq => h4 q (List.mem_of_mem_drop hq)
  have h6 : (P.drop j).flatten.length ≤ l.length := by
    rw [← h2]
    conv => rhs; rw [← List.take_append_drop j P]
    rw [List.flatten_append, List.length_append]
    omega
  omega
/-- The last one's text. -/
def lastT (l : List Nd) : List UInt8 := (foldG textG l []).getLastD []
theorem last_full {l : List Nd} (h : FullN l) : lastT l = topT l := by unfold lastT; rw [full_top h]; rfl
theorem last_small {l : List Nd} {d : Nat} (h : depV l 0 = some d) : (lastT l).length ≤ 150 * l.length := by
  have h0 := foldG_len textG l [] d h
  unfold lastT
  cases d with
  | zero => rw [List.eq_nil_of_length_eq_zero h0]; simp
  | succ d =>
    have h1 := join_small h d
    have h2 : (foldG textG l []).drop d = [(foldG textG l []).getLastD []] := by
      rcases List.eq_nil_or_concat (foldG textG l []) with e | ⟨a, x, e⟩
      · rw [e] at h0; cases h0
      · rw [List.concat_eq_append] at e
        rw [e] at h0 ⊢
        rw [List.drop_append_of_le_length (by simp at h0; omega), List.drop_of_length_le (by simp at h0; omega)]
        simp
    rw [h2] at h1
    exact h1
theorem last_node {l : List Nd} {k e : Nat} {n : Nd} (h : l[k]? = some n) (he : depV (l.take k) 0 = some e) : lastT (l.take (k + 1)) = textG n ((foldG textG (l.take k) []).drop (e - kidsN n)) := by
  have h0 := foldG_len textG (l.take k) [] e he
  unfold lastT
  rw [List.take_add_one, h, foldG_append]
  show (foldG textG [n] (foldG textG (l.take k) [])).getLastD [] = _
  rw [foldG, h0, foldG]
  simp
theorem cnt_fold {T : Type} (f : Nd → List T → T) : ∀ (R : List Nd) (k d : Nat), depV R.reverse 0 = some d → k ≤ d → ∀ R', cntV k R = some R' → foldG f R'.reverse [] = (foldG f R.reverse []).take (d - k)
  | R, 0, d, h, _, R', hc => by
    rw [cntV_zero] at hc
    injection hc with hc
    subst hc
    rw [List.take_of_length_le (by rw [foldG_len f R.reverse [] d h]; exact Nat.le_refl _)]
  | [], k + 1, d, h, hk, R', hc => by cases hc
  | n :: R, k + 1, d, h, hk, R', hc => by
    rw [List.reverse_cons, depV_append] at h
    cases hd : depV R.reverse 0 with
    | none => rw [hd] at h; cases h
    | some e =>
      rw [hd] at h
      obtain ⟨h1, h2, h3⟩ := depV_one.1 h
      rw [cntV_node h1] at hc
      rw [cnt_fold f R (k + kidsN n) e hd (by omega) R' hc, List.reverse_cons, foldG_append]
      have h0 := foldG_len f R.reverse [] e hd
      rw [foldG, h0, foldG, List.take_append_of_le_length (by rw [List.length_take]; omega), List.take_take]
      congr 1
      omega
theorem last_snoc {a : List (List UInt8)} {x : List UInt8} : (a ++ [x]).getLastD [] = x := by simp
/-- One more kid, from the last one down. -/
theorem kid_more {l : List Nd} {k q e i : Nat} (he : depV (l.take k) 0 = some e) (hi : i < e) (hc : cntV i (l.take k).reverse = some (l.take q).reverse) :
    (foldG textG (l.take k) []).drop (e - (i + 1)) = lastT (l.take q) :: (foldG textG (l.take k) []).drop (e - i) := by
  have h0 := foldG_len textG (l.take k) [] e he
  have h1 := cnt_fold textG (l.take k).reverse i e (by rw [List.reverse_reverse]; exact he) (by omega) _ hc
  rw [List.reverse_reverse, List.reverse_reverse] at h1
  have h2 : e - (i + 1) < (foldG textG (l.take k) []).length := by omega
  rw [List.drop_eq_getElem_cons h2, show e - (i + 1) + 1 = e - i by omega]
  congr 1
  unfold lastT
  have h3 : (foldG textG (l.take k) []).take (e - i) = (foldG textG (l.take k) []).take (e - (i + 1)) ++ [(foldG textG (l.take k) [])[e - (i + 1)]] := by
    rw [show e - i = (e - (i + 1)) + 1 by omega, List.take_succ_eq_append_getElem h2]
  rw [h1, h3, last_snoc]
theorem kid_join {l : List Nd} {k q e i : Nat} (he : depV (l.take k) 0 = some e) (hi : i < e) (hc : cntV i (l.take k).reverse = some (l.take q).reverse) :
    joinC ((foldG textG (l.take k) []).drop (e - (i + 1))) = match decide (0 < i) with | true => lastT (l.take q) ++ 44 :: joinC ((foldG textG (l.take k) []).drop (e - i)) | false => lastT (l.take q) := by
  have h0 := foldG_len textG (l.take k) [] e he
  rw [kid_more he hi hc]
  by_cases h : 0 < i
  · rw [decide_eq_true h, joinC_cons fun e1 => by
      have := congrArg List.length e1
      rw [List.length_drop, List.length_nil] at this
      omega]
  · rw [decide_eq_false h, List.drop_of_length_le (by omega)]; rfl
end Go.Proofs.YthgcbomidamcfaaDoor

/-
  Layer 5 (word): which bytes stand as they are, digits, what begins a word.
-/
namespace Go.Proofs.YthgcbomidamcfaaDoor
open Go.RowKit

theorem plainB_nat (c : UInt8) : plainB c = (decide (97 ≤ (c.toNat : Int)) && decide ((c.toNat : Int) ≤ 122) || decide (48 ≤ (c.toNat : Int)) && decide ((c.toNat : Int) ≤ 57)) := by
  unfold plainB
  rw [Bool.eq_iff_iff]
  simp only [Bool.or_eq_true, Bool.and_eq_true, decide_eq_true_eq]
  omega
theorem plain_yes {c : UInt8} (h : (97 ≤ (c.toNat : Int) ∧ (c.toNat : Int) ≤ 122) ∨ (48 ≤ (c.toNat : Int) ∧ (c.toNat : Int) ≤ 57)) : true = plainB c := by
  rw [plainB_nat, eq_comm]
  simpa using h
theorem plain_no {c : UInt8} (h : ¬ ((97 ≤ (c.toNat : Int) ∧ (c.toNat : Int) ≤ 122) ∨ (48 ≤ (c.toNat : Int) ∧ (c.toNat : Int) ≤ 57))) : false = plainB c := by
  rw [plainB_nat, eq_comm]
  simpa using h
theorem plain_dec {c : UInt8} (h : 97 ≤ (c.toNat : Int)) (_ : 48 ≤ (c.toNat : Int)) : (decide ((c.toNat : Int) ≤ 122) || decide ((c.toNat : Int) ≤ 57)) = plainB c := by
  rw [plainB_nat, Bool.eq_iff_iff]
  simp only [Bool.or_eq_true, Bool.and_eq_true, decide_eq_true_eq]
  omega
theorem plain_dec' {c : UInt8} (h' : 48 ≤ (c.toNat : Int)) (h : (c.toNat : Int) < 97) : decide ((c.toNat : Int) ≤ 57) = plainB c := by
  rw [plainB_nat, Bool.eq_iff_iff]
  simp only [Bool.or_eq_true, Bool.and_eq_true, decide_eq_true_eq]
  omega
theorem wrd_plain (c : UInt8) (w : World) : Calls Tryd.prog 32 #[.int .u8 (c.toNat : Int)] w fun e w' => e = .returned (.bool (plainB c)) ∧ w = w' := by
  go_enter Tryd.func32, Tryd.ntmps32
  go_wp2
  all_goals
    go_ret
    exact ⟨ret_bool (by first | exact plain_yes (by omega) | exact plain_no (by omega) | exact plain_dec ‹_› ‹_› | exact plain_dec' ‹_› ‹_›), rfl⟩
theorem rwd_plain (c : UInt8) (w : World) : Calls Tryd.prog 40 #[.int .u8 (c.toNat : Int)] w fun e w' => e = .returned (.bool (plainB c)) ∧ w = w' := by
  go_enter Tryd.func40, Tryd.ntmps40
  go_wp2
  all_goals
    go_ret
    exact ⟨ret_bool (by first | exact plain_yes (by omega) | exact plain_no (by omega) | exact plain_dec ‹_› ‹_› | exact plain_dec' ‹_› ‹_›), rfl⟩
theorem hexD_nat : ∀ n, n < 16 → ((hexD n).toNat : Int) = if n < 10 then 48 + (n : Int) else 87 + (n : Int) := by decide +kernel
theorem rwd_hex (n : Nat) (hn : n < 16) (w : World) : Calls Tryd.prog 41 #[.int .i64 (n : Int)] w fun e w' => e = .returned (.int .u8 ((hexD n).toNat : Int)) ∧ w = w' := by
  have H := Lib.hid (hexD_nat n hn)
  go_enter Tryd.func41, Tryd.ntmps41
  go_wp2
  all_goals
    go_ret
    refine ⟨ret_int ?_, rfl⟩
    rw [H.out]
    first | rw [if_pos (by omega)] | rw [if_neg (by omega)]
end Go.Proofs.YthgcbomidamcfaaDoor

/-
  The shelf's contracts at this program, in plain words (made by wip/tools/shelf.py).
-/
namespace Go.Proofs
open Go.Shelf
def Tryd.lays169_ren : Go.Shelf.Ren := ⟨fun | 169 => 34 | n => n, fun | 70 => 58 | 9 => 9 | 0 => 0 | 72 => 61 | 37 => 59 | 127 => 76 | 3 => 3 | 5 => 5 | n => n, fun | n => n⟩
theorem Tryd.lays169 : Go.Proofs.Lays.n169 Tryd.prog Tryd.lays169_ren := {
  mixed := by kernel_rfl
  f169 := Tryd.func34.trans (congrArg some (by kernel_rfl))
  t0 := Tryd.underlying0
  a0 := Tryd.isAgg0
  z0 := Tryd.sizeOf0
  v0 := Tryd.zeroValue0
  t3 := Tryd.underlying3
  a3 := Tryd.isAgg3
  z3 := Tryd.sizeOf3
  v3 := Tryd.zeroValue3
  t9 := Tryd.underlying9
  a9 := Tryd.isAgg9
  z9 := Tryd.sizeOf9
  v9 := Tryd.zeroValue9
  t37 := Tryd.underlying59
  a37 := Tryd.isAgg59
  z37 := Tryd.sizeOf59
  v37 := Tryd.zeroValue59
  t70 := Tryd.underlying58
  a70 := Tryd.isAgg58
  z70 := Tryd.sizeOf58
  v70 := Tryd.zeroValue58
  t72 := Tryd.underlying61
  a72 := Tryd.isAgg61
  z72 := Tryd.sizeOf61
  v72 := Tryd.zeroValue61
  t127 := Tryd.underlying76
  a127 := Tryd.isAgg76
  z127 := Tryd.sizeOf76
  v127 := Tryd.zeroValue76 }
theorem Tryd.Builder_Extra_169 : Builder.Extra Tryd.prog Tryd.lays169_ren := {
  sizeBuilder := by kernel_rfl
  liesBuilder := by kernel_rfl
  t5 := Tryd.underlying5
  a5 := Tryd.isAgg5
  z5 := Tryd.sizeOf5
  v5 := Tryd.zeroValue5
  infoByte := by kernel_rfl
  cellsByte := by kernel_rfl
  sizeByte := by kernel_rfl
  neB5 := by decide }
open Go.RowKit in
theorem Tryd.Builder_String_any (B b : Nat) (l : List UInt8) (w : World) (h : Lib.IsBuilder 61 5 B b (Lib.byteCells l) w) (hBw : B ≤ w.heap.size) :
    Calls Tryd.prog 34 #[.pointer (some ⟨b, 0, none⟩)] w fun e w' => e = .returned (.string ⟨l.toArray⟩) ∧ Below B w w' := Any.Builder_String_any Tryd.lays169 Tryd.Builder_Extra_169 B b l w h hBw
def Tryd.lays165_ren : Go.Shelf.Ren := ⟨fun | 165 => 31 | 240 => 46 | 241 => 47 | 276 => 57 | 277 => 58 | n => n, fun | 70 => 58 | 3 => 3 | 0 => 0 | 4 => 4 | 9 => 9 | 20 => 20 | 72 => 61 | 37 => 59 | 164 => 87 | 5 => 5 | n => n, fun | n => n⟩
theorem Tryd.lays165 : Go.Proofs.Lays.n165 Tryd.prog Tryd.lays165_ren := {
  mixed := by kernel_rfl
  f165 := Tryd.func31.trans (congrArg some (by kernel_rfl))
  f240 := Tryd.func46.trans (congrArg some (by kernel_rfl))
  f241 := Tryd.func47.trans (congrArg some (by kernel_rfl))
  f276 := Tryd.func57.trans (congrArg some (by kernel_rfl))
  f277 := Tryd.func58.trans (congrArg some (by kernel_rfl))
  t0 := Tryd.underlying0
  a0 := Tryd.isAgg0
  z0 := Tryd.sizeOf0
  v0 := Tryd.zeroValue0
  t3 := Tryd.underlying3
  a3 := Tryd.isAgg3
  z3 := Tryd.sizeOf3
  v3 := Tryd.zeroValue3
  t4 := Tryd.underlying4
  a4 := Tryd.isAgg4
  z4 := Tryd.sizeOf4
  v4 := Tryd.zeroValue4
  t9 := Tryd.underlying9
  a9 := Tryd.isAgg9
  z9 := Tryd.sizeOf9
  v9 := Tryd.zeroValue9
  t20 := Tryd.underlying20
  a20 := Tryd.isAgg20
  z20 := Tryd.sizeOf20
  v20 := Tryd.zeroValue20
  t37 := Tryd.underlying59
  a37 := Tryd.isAgg59
  z37 := Tryd.sizeOf59
  v37 := Tryd.zeroValue59
  t70 := Tryd.underlying58
  a70 := Tryd.isAgg58
  z70 := Tryd.sizeOf58
  v70 := Tryd.zeroValue58
  t72 := Tryd.underlying61
  a72 := Tryd.isAgg61
  z72 := Tryd.sizeOf61
  v72 := Tryd.zeroValue61
  t164 := Tryd.underlying87
  a164 := Tryd.isAgg87
  z164 := Tryd.sizeOf87
  v164 := Tryd.zeroValue87 }
theorem Tryd.Builder_Extra_165 : Builder.Extra Tryd.prog Tryd.lays165_ren := {
  sizeBuilder := by kernel_rfl
  liesBuilder := by kernel_rfl
  t5 := Tryd.underlying5
  a5 := Tryd.isAgg5
  z5 := Tryd.sizeOf5
  v5 := Tryd.zeroValue5
  infoByte := by kernel_rfl
  cellsByte := by kernel_rfl
  sizeByte := by kernel_rfl
  neB5 := by decide }
open Go.RowKit in
theorem Tryd.Builder_Grow_fresh (B b n : Nat) (w : World) (hB : B ≤ b) (hbk : w.heap[b]? = some (.cells #[.pointer none, .slice none 0 0] 61 (0, 0))) (hBw : B ≤ w.heap.size) (hn : n ≤ 281474976710656) :
    Calls Tryd.prog 31 #[.pointer (some ⟨b, 0, none⟩), .int .i64 n] w fun e w' => e = .returned (.tuple #[]) ∧ (Lib.BuilderAt 61 5 B b (.pointer (some ⟨b, 0, none⟩)) [] w' ∧ Below B w w') := Any.Builder_Grow_fresh Tryd.lays165 Tryd.Builder_Extra_165 B b n w hB hbk hBw hn
def Tryd.lays156_ren : Go.Shelf.Ren := ⟨fun | 156 => 20 | 165 => 31 | 166 => 35 | 169 => 34 | 240 => 46 | 241 => 47 | 276 => 57 | 277 => 58 | n => n, fun | 31 => 36 | 9 => 9 | 3 => 3 | 4 => 4 | 0 => 0 | 20 => 20 | 72 => 61 | 76 => 68 | 70 => 58 | 37 => 59 | 75 => 65 | 127 => 76 | 164 => 87 | 5 => 5 | 80 => 50 | n => n, fun | n => n⟩
theorem Tryd.lays156 : Go.Proofs.Lays.n156 Tryd.prog Tryd.lays156_ren := {
  mixed := by kernel_rfl
  f156 := Tryd.func20.trans (congrArg some (by kernel_rfl))
  f165 := Tryd.func31.trans (congrArg some (by kernel_rfl))
  f166 := Tryd.func35.trans (congrArg some (by kernel_rfl))
  f169 := Tryd.func34.trans (congrArg some (by kernel_rfl))
  f240 := Tryd.func46.trans (congrArg some (by kernel_rfl))
  f241 := Tryd.func47.trans (congrArg some (by kernel_rfl))
  f276 := Tryd.func57.trans (congrArg some (by kernel_rfl))
  f277 := Tryd.func58.trans (congrArg some (by kernel_rfl))
  t0 := Tryd.underlying0
  a0 := Tryd.isAgg0
  z0 := Tryd.sizeOf0
  v0 := Tryd.zeroValue0
  t3 := Tryd.underlying3
  a3 := Tryd.isAgg3
  z3 := Tryd.sizeOf3
  v3 := Tryd.zeroValue3
  t4 := Tryd.underlying4
  a4 := Tryd.isAgg4
  z4 := Tryd.sizeOf4
  v4 := Tryd.zeroValue4
  t9 := Tryd.underlying9
  a9 := Tryd.isAgg9
  z9 := Tryd.sizeOf9
  v9 := Tryd.zeroValue9
  t20 := Tryd.underlying20
  a20 := Tryd.isAgg20
  z20 := Tryd.sizeOf20
  v20 := Tryd.zeroValue20
  t31 := Tryd.underlying36
  a31 := Tryd.isAgg36
  z31 := Tryd.sizeOf36
  v31 := Tryd.zeroValue36
  t37 := Tryd.underlying59
  a37 := Tryd.isAgg59
  z37 := Tryd.sizeOf59
  v37 := Tryd.zeroValue59
  t70 := Tryd.underlying58
  a70 := Tryd.isAgg58
  z70 := Tryd.sizeOf58
  v70 := Tryd.zeroValue58
  t72 := Tryd.underlying61
  a72 := Tryd.isAgg61
  z72 := Tryd.sizeOf61
  v72 := Tryd.zeroValue61
  t75 := Tryd.underlying65
  a75 := Tryd.isAgg65
  z75 := Tryd.sizeOf65
  v75 := Tryd.zeroValue65
  t76 := Tryd.underlying68
  a76 := Tryd.isAgg68
  z76 := Tryd.sizeOf68
  v76 := Tryd.zeroValue68
  t127 := Tryd.underlying76
  a127 := Tryd.isAgg76
  z127 := Tryd.sizeOf76
  v127 := Tryd.zeroValue76
  t164 := Tryd.underlying87
  a164 := Tryd.isAgg87
  z164 := Tryd.sizeOf87
  v164 := Tryd.zeroValue87 }
theorem Tryd.Builder_Extra_156 : Builder.Extra Tryd.prog Tryd.lays156_ren := {
  sizeBuilder := by kernel_rfl
  liesBuilder := by kernel_rfl
  t5 := Tryd.underlying5
  a5 := Tryd.isAgg5
  z5 := Tryd.sizeOf5
  v5 := Tryd.zeroValue5
  infoByte := by kernel_rfl
  cellsByte := by kernel_rfl
  sizeByte := by kernel_rfl
  neB5 := by decide }
open Go.RowKit in
theorem Tryd.strings_Join_none (a : Option Addr) (c : Nat) (sep : ByteArray) (w : World) :
    Calls Tryd.prog 20 #[.slice a 0 c, .string sep] w fun e w' => e = .returned (.string ⟨#[]⟩) ∧ w' = w := Any.strings_Join_none Tryd.lays156 Tryd.Builder_Extra_156 a c sep w
open Go.RowKit in
theorem Tryd.strings_Join (bk o c : Nat) (xs : List ByteArray) (sep : ByteArray) (w : World) (hcells : ∀ (j : Nat) x, xs[j]? = some x → w.cell? ⟨bk, o + j, none⟩ = some (.string x)) (hbk : bk < w.heap.size) (hN : xs.length ≤ 140737488355328) (hcap : xs.length ≤ c) (hlen : (Lib.join (xs.map (·.data.toList)) sep.data.toList).length ≤ 140737488355328) :
    Calls Tryd.prog 20 #[.slice (some ⟨bk, o, none⟩) xs.length c, .string sep] w fun e w' => e = .returned (.string ⟨(Lib.join (xs.map (·.data.toList)) sep.data.toList).toArray⟩) ∧ Below w.heap.size w w' := Any.strings_Join Tryd.lays156 Tryd.Builder_Extra_156 bk o c xs sep w hcells hbk hN hcap hlen
def Tryd.lays137_ren : Go.Shelf.Ren := ⟨fun | 137 => 59 | 217 => 66 | 266 => 69 | n => n, fun | 9 => 9 | 5 => 5 | 3 => 3 | n => n, fun | n => n⟩
theorem Tryd.lays137 : Go.Proofs.Lays.n137 Tryd.prog Tryd.lays137_ren := {
  mixed := by kernel_rfl
  f137 := Tryd.func59.trans (congrArg some (by kernel_rfl))
  f217 := Tryd.func66.trans (congrArg some (by kernel_rfl))
  f266 := Tryd.func69.trans (congrArg some (by kernel_rfl))
  t3 := Tryd.underlying3
  a3 := Tryd.isAgg3
  z3 := Tryd.sizeOf3
  v3 := Tryd.zeroValue3
  t5 := Tryd.underlying5
  a5 := Tryd.isAgg5
  z5 := Tryd.sizeOf5
  v5 := Tryd.zeroValue5
  t9 := Tryd.underlying9
  a9 := Tryd.isAgg9
  z9 := Tryd.sizeOf9
  v9 := Tryd.zeroValue9 }
open Go.RowKit in
theorem Tryd.strings_IndexByte (s : ByteArray) (c : Int) (w : World) :
    Calls Tryd.prog 59 #[.string s, .int .u8 c] w fun e w' => e = .returned (.int .i64 (Lib.indexByte s.data.toList c.toNat.toUInt8)) ∧ w' = w := Any.strings_IndexByte Tryd.lays137 s c w
end Go.Proofs

/-
  The shelf's contract of (*strings.Builder).WriteByte at this program, in plain words (the kit's command passes it over: its list names one type, the empty interface, that no body names).
-/
namespace Go.Proofs
open Go.Shelf
def Tryd.lays167_ren : Go.Shelf.Ren := ⟨fun | 167 => 33 | 240 => 46 | 276 => 57 | n => n, fun | 0 => 0 | 4 => 4 | 5 => 5 | 9 => 9 | 20 => 20 | 37 => 59 | 70 => 58 | 72 => 61 | 75 => 65 | 164 => 87 | 80 => 50 | n => n, fun | n => n⟩
theorem Tryd.lays167 : Go.Proofs.Lays.n167 Tryd.prog Tryd.lays167_ren := {
  mixed := by kernel_rfl
  f167 := Tryd.func33.trans (congrArg some (by kernel_rfl))
  f240 := Tryd.func46.trans (congrArg some (by kernel_rfl))
  f276 := Tryd.func57.trans (congrArg some (by kernel_rfl))
  t0 := Tryd.underlying0
  a0 := Tryd.isAgg0
  z0 := Tryd.sizeOf0
  v0 := Tryd.zeroValue0
  t4 := Tryd.underlying4
  a4 := Tryd.isAgg4
  z4 := Tryd.sizeOf4
  v4 := Tryd.zeroValue4
  t5 := Tryd.underlying5
  a5 := Tryd.isAgg5
  z5 := Tryd.sizeOf5
  v5 := Tryd.zeroValue5
  t9 := Tryd.underlying9
  a9 := Tryd.isAgg9
  z9 := Tryd.sizeOf9
  v9 := Tryd.zeroValue9
  t20 := Tryd.underlying20
  a20 := Tryd.isAgg20
  z20 := Tryd.sizeOf20
  v20 := Tryd.zeroValue20
  t37 := Tryd.underlying59
  a37 := Tryd.isAgg59
  z37 := Tryd.sizeOf59
  v37 := Tryd.zeroValue59
  t70 := Tryd.underlying58
  a70 := Tryd.isAgg58
  z70 := Tryd.sizeOf58
  v70 := Tryd.zeroValue58
  t72 := Tryd.underlying61
  a72 := Tryd.isAgg61
  z72 := Tryd.sizeOf61
  v72 := Tryd.zeroValue61
  t75 := Tryd.underlying65
  a75 := Tryd.isAgg65
  z75 := Tryd.sizeOf65
  v75 := Tryd.zeroValue65
  t164 := Tryd.underlying87
  a164 := Tryd.isAgg87
  z164 := Tryd.sizeOf87
  v164 := Tryd.zeroValue87 }
theorem Tryd.Builder_Extra_167 : Builder.Extra Tryd.prog Tryd.lays167_ren := {
  sizeBuilder := by kernel_rfl
  liesBuilder := by kernel_rfl
  t5 := Tryd.underlying5
  a5 := Tryd.isAgg5
  z5 := Tryd.sizeOf5
  v5 := Tryd.zeroValue5
  infoByte := by kernel_rfl
  cellsByte := by kernel_rfl
  sizeByte := by kernel_rfl
  neB5 := by decide }
open Go.RowKit in
theorem Tryd.Builder_WriteByte (B b : Nat) (bs : List Value) (c : Int) (w : World) (h : Lib.IsBuilder 61 5 B b bs w) (hlen : bs.length + 1 ≤ 140737488355328) (hBw : B ≤ w.heap.size) :
    Calls Tryd.prog 33 #[.pointer (some ⟨b, 0, none⟩), .int .u8 c] w fun e w' => e = .returned .nilIface ∧ (Lib.BuilderAt 61 5 B b (.pointer (some ⟨b, 0, none⟩)) (bs ++ [.int .u8 c]) w' ∧ Below B w w') := Any.Builder_WriteByte Tryd.lays167 Tryd.Builder_Extra_167 B b bs c w h hlen hBw
end Go.Proofs

/-
  Layer 5 (word): what begins a word.
-/
namespace Go.Proofs.YthgcbomidamcfaaDoor
open Go.RowKit

/-- What comes back of the head of what is left of a word. -/
def FirstV (r : List UInt8) (e : Ending) : Prop :=
  (∃ c a, r = spell c ++ a ∧ e = .returned (.tuple #[.int .u8 (c.toNat : Int), .int .i64 ((spell c).length : Int)])) ∨ (noFirst r ∧ e = .returned (.tuple #[.int .u8 0, .int .i64 0]))
theorem str_at (l : List UInt8) (k : Nat) (h : k < (str l).size) : (str l)[k] = l.getD k 0 := str_get l k (by rwa [str_size] at h)

theorem first_one (c : UInt8) (a : List UInt8) (hp : plainB c = true) (w : World) : Calls Tryd.prog 54 #[.string (str (c :: a))] w fun e w' => e = .returned (.tuple #[.int .u8 (c.toNat : Int), .int .i64 1]) ∧ ∃ n, w' = w.drewN n := by
  have H0 : ∀ h : 0 < (str (c :: a)).size, (str (c :: a))[0] = c := fun h => str_at _ 0 h
  have hz : 0 < (str (c :: a)).size := by rw [str_size]; simp
  generalize str (c :: a) = S at H0 hz ⊢
  have h0 := H0 hz
  clear H0
  go_enter Tryd.func54, Tryd.ntmps54
  go_wp2_with (go_at_call 32; refine (wrd_plain _ _).mono ?_; rintro e w' ⟨rfl, rfl⟩)
  go_ret2
  exact ⟨rfl, 0, rfl⟩
theorem first_head (c : UInt8) (a : List UInt8) (hp : plainB c = false) (hc : ((c.toNat : Int) == 45) = false) (w : World) : Calls Tryd.prog 54 #[.string (str (c :: a))] w fun e w' => e = .returned (.tuple #[.int .u8 0, .int .i64 0]) ∧ ∃ n, w' = w.drewN n := by
  have H0 : ∀ h : 0 < (str (c :: a)).size, (str (c :: a))[0] = c := fun h => str_at _ 0 h
  have hz : 0 < (str (c :: a)).size := by rw [str_size]; simp
  generalize str (c :: a) = S at H0 hz ⊢
  have h0 := H0 hz
  clear H0
  have hc' : ((c.toNat : Int) != 45) = true := by simpa using hc
  go_enter Tryd.func54, Tryd.ntmps54
  go_wp2_with (go_at_call 32; refine (wrd_plain _ _).mono ?_; rintro e w' ⟨rfl, rfl⟩)
  go_ret2
  exact ⟨rfl, 0, rfl⟩
theorem first_short (a : List UInt8) (hl : a.length < 2) (w : World) : Calls Tryd.prog 54 #[.string (str (45 :: a))] w fun e w' => e = .returned (.tuple #[.int .u8 0, .int .i64 0]) ∧ ∃ n, w' = w.drewN n := by
  have H0 : ∀ h : 0 < (str (45 :: a)).size, (str (45 :: a))[0] = 45 := fun h => str_at _ 0 h
  have hz : 0 < (str (45 :: a)).size := by rw [str_size]; simp
  have hz2 : (str (45 :: a)).size < 3 := by rw [str_size]; simp; omega
  generalize str (45 :: a) = S at H0 hz hz2 ⊢
  have h0 := H0 hz
  clear H0
  have hp := stroke_not_plain
  go_enter Tryd.func54, Tryd.ntmps54
  go_wp2_with (go_at_call 32; refine (wrd_plain 45 _).mono ?_; rintro e w' ⟨rfl, rfl⟩)
  go_ret2
  exact ⟨rfl, 0, rfl⟩
theorem wrd_idx (x : UInt8) (w : World) : Calls Tryd.prog 59 #[.string ⟨#[48, 49, 50, 51, 52, 53, 54, 55, 56, 57, 97, 98, 99, 100, 101, 102]⟩, .int .u8 (x.toNat : Int)] w fun e w' => e = .returned (.int .i64 (digI x)) ∧ w' = w := by
  refine (Tryd.strings_IndexByte _ _ w).mono ?_
  rintro e w' ⟨rfl, rfl⟩
  refine ⟨ret_int ?_, rfl⟩
  unfold digI
  congr 1
  simp
theorem three_open (x y : UInt8) (a : List UInt8) : ∃ (S : ByteArray) (_ : 2 < S.size), S = str (45 :: x :: y :: a) ∧ S[0] = 45 ∧ S[1] = x ∧ S[2] = y :=
  ⟨str (45 :: x :: y :: a), by rw [str_size]; simp, rfl, str_at _ 0 _, str_at _ 1 _, str_at _ 2 _⟩
theorem or_all : ∀ i, i < 16 → ∀ j, j < 16 → bits .or .i64 ((i : Nat) * 16 : Int) ((j : Nat) : Int) % 256 = (i : Int) * 16 + j := by decide +kernel
theorem or_byte {x y : UInt8} (hx : 0 ≤ digI x) (hy : 0 ≤ digI y) : bits .or .i64 (digI x * 16) (digI y) % 256 = ((byteOf x y).toNat : Int) := by
  have h1 := digI_bound x
  have h2 := digI_bound y
  have := or_all (digI x).toNat (by omega) (digI y).toNat (by omega)
  rw [Int.toNat_of_nonneg hx, Int.toNat_of_nonneg hy] at this
  rw [this, byteOf_nat hx hy]
  omega
theorem first_spelt_ (x y : UInt8) (a : List UInt8) (hx : 0 ≤ digI x) (hy : 0 ≤ digI y) (hp : plainB (byteOf x y) = false) (w : World) : Calls Tryd.prog 54 #[.string (str (45 :: x :: y :: a))] w fun e w' => e = .returned (.tuple #[.int .u8 ((byteOf x y).toNat : Int), .int .i64 3]) ∧ ∃ n, w' = w.drewN n := by
  obtain ⟨S, hz, hS, h0, h1, h2⟩ := three_open x y a
  rw [← hS]
  clear hS
  have hp0 := stroke_not_plain
  obtain ⟨bx1, bx2⟩ := digI_bound x
  obtain ⟨by1, by2⟩ := digI_bound y
  have hor := or_byte hx hy
  go_enter Tryd.func54, Tryd.ntmps54
  go_wp2_with (go_at_call 32; refine (wrd_plain 45 _).mono ?_; rintro e w' ⟨rfl, rfl⟩)
  go_quiet ((go_at_call 59; exact Calls.quiet_of_same (wrd_idx _ _)))
  go_wp2_with (go_at_call 32; refine (wrd_plain (byteOf x y) _).mono ?_; rintro e w' ⟨rfl, rfl⟩)
  go_ret2
  exact ⟨rfl, _, rfl⟩
theorem first_same (x y : UInt8) (a : List UInt8) (hx : 0 ≤ digI x) (hy : 0 ≤ digI y) (hp : plainB (byteOf x y) = true) (w : World) : Calls Tryd.prog 54 #[.string (str (45 :: x :: y :: a))] w fun e w' => e = .returned (.tuple #[.int .u8 0, .int .i64 0]) ∧ ∃ n, w' = w.drewN n := by
  obtain ⟨S, hz, hS, h0, h1, h2⟩ := three_open x y a
  rw [← hS]
  clear hS
  have hp0 := stroke_not_plain
  obtain ⟨bx1, bx2⟩ := digI_bound x
  obtain ⟨by1, by2⟩ := digI_bound y
  have hor := or_byte hx hy
  go_enter Tryd.func54, Tryd.ntmps54
  go_wp2_with (go_at_call 32; refine (wrd_plain 45 _).mono ?_; rintro e w' ⟨rfl, rfl⟩)
  go_quiet ((go_at_call 59; exact Calls.quiet_of_same (wrd_idx _ _)))
  go_wp2_with (go_at_call 32; refine (wrd_plain (byteOf x y) _).mono ?_; rintro e w' ⟨rfl, rfl⟩)
  go_ret2
  exact ⟨rfl, _, rfl⟩
theorem first_digits (x y : UInt8) (a : List UInt8) (h : digI x < 0 ∨ digI y < 0) (w : World) : Calls Tryd.prog 54 #[.string (str (45 :: x :: y :: a))] w fun e w' => e = .returned (.tuple #[.int .u8 0, .int .i64 0]) ∧ ∃ n, w' = w.drewN n := by
  obtain ⟨S, hz, hS, h0, h1, h2⟩ := three_open x y a
  rw [← hS]
  clear hS
  have hp0 := stroke_not_plain
  rcases Int.lt_or_le (digI x) 0 with hx | hx
  · go_enter Tryd.func54, Tryd.ntmps54
    go_wp2_with (go_at_call 32; refine (wrd_plain 45 _).mono ?_; rintro e w' ⟨rfl, rfl⟩)
    go_quiet ((go_at_call 59; exact Calls.quiet_of_same (wrd_idx _ _)))
    go_wp2_with fail
    go_ret2
    exact ⟨rfl, _, rfl⟩
  · have hy : digI y < 0 := by omega
    go_enter Tryd.func54, Tryd.ntmps54
    go_wp2_with (go_at_call 32; refine (wrd_plain 45 _).mono ?_; rintro e w' ⟨rfl, rfl⟩)
    go_quiet ((go_at_call 59; exact Calls.quiet_of_same (wrd_idx _ _)))
    go_wp2_with fail
    go_ret2
    exact ⟨rfl, _, rfl⟩
/-- What begins a word, whatever is left of it. -/
theorem wrd_first (r : List UInt8) (hr : r ≠ []) (w : World) : Calls Tryd.prog 54 #[.string (str r)] w fun e w' => FirstV r e ∧ ∃ n, w' = w.drewN n := by
  cases r with
  | nil => exact absurd rfl hr
  | cons c a =>
    cases hp : plainB c with
    | true => exact (first_one c a hp w).mono fun e w' h => ⟨.inl ⟨c, a, first_plain hp, by rw [spell_plain hp]; exact h.1⟩, h.2⟩
    | false =>
      by_cases hc : c = 45
      · subst hc
        by_cases hl : a.length < 2
        · exact (first_short a hl w).mono fun e w' h => ⟨.inr ⟨noFirst_short hp (by simp; omega), h.1⟩, h.2⟩
        · obtain ⟨x, y, b, rfl⟩ : ∃ x y b, a = x :: y :: b := by
            match a, hl with
            | [], hl => simp at hl
            | [_], hl => simp at hl
            | x :: y :: b, _ => exact ⟨x, y, b, rfl⟩
          rcases Int.lt_or_le (digI x) 0 with hx | hx
          · exact (first_digits x y b (.inl hx) w).mono fun e w' h => ⟨.inr ⟨noFirst_digits (.inl hx), h.1⟩, h.2⟩
          · rcases Int.lt_or_le (digI y) 0 with hy | hy
            · exact (first_digits x y b (.inr hy) w).mono fun e w' h => ⟨.inr ⟨noFirst_digits (.inr hy), h.1⟩, h.2⟩
            · cases hb : plainB (byteOf x y) with
              | true => exact (first_same x y b hx hy hb w).mono fun e w' h => ⟨.inr ⟨noFirst_spelt hb, h.1⟩, h.2⟩
              | false => exact (first_spelt_ x y b hx hy hb w).mono fun e w' h => ⟨.inl ⟨byteOf x y, b, first_three hx hy hb, by rw [spell_byteOf hx hy hb]; exact h.1⟩, h.2⟩
      · have hc' : ((c.toNat : Int) == 45) = false := by
          rw [beq_eq_false_iff_ne]
          intro e
          exact hc (UInt8.toNat_inj.1 (by show c.toNat = 45; omega))
        exact (first_head c a hp hc' w).mono fun e w' h => ⟨.inr ⟨noFirst_head hp hc, h.1⟩, h.2⟩
end Go.Proofs.YthgcbomidamcfaaDoor

/-
  Layer 5 (word): a text's word.
-/
namespace Go.Proofs.YthgcbomidamcfaaDoor
open Go.RowKit

/-- The builder at block b holds l. -/
def BldAt (B b : Nat) (l : List UInt8) (w : World) : Prop := Lib.IsBuilder 61 5 B b (Lib.byteCells l) w
theorem byteCells_snoc (l : List UInt8) (c : UInt8) : Lib.byteCells l ++ [.int .u8 (c.toNat : Int)] = Lib.byteCells (l ++ [c]) := by simp [Lib.byteCells]
theorem byteCells_len (l : List UInt8) : (Lib.byteCells l).length = l.length := by simp [Lib.byteCells]
theorem bld_put {B b : Nat} {l : List UInt8} {w : World} (h : BldAt B b l w) (hl : l.length + 1 ≤ 140737488355328) (hB : B ≤ w.heap.size) (c : UInt8) :
    Calls Tryd.prog 33 #[.pointer (some ⟨b, 0, none⟩), .int .u8 (c.toNat : Int)] w fun e w' => e = .returned .nilIface ∧ BldAt B b (l ++ [c]) w' ∧ Below B w w' ∧ B ≤ w'.heap.size := by
  refine (Tryd.Builder_WriteByte B b _ (c.toNat : Int) w h (by rw [byteCells_len]; exact hl) hB).mono ?_
  rintro e w' ⟨rfl, h1, h2⟩
  rw [byteCells_snoc] at h1
  exact ⟨rfl, .inr h1, h2, Nat.le_trans hB h2.size⟩
theorem bld_text {B b : Nat} {l : List UInt8} {w : World} (h : BldAt B b l w) (hB : B ≤ w.heap.size) :
    Calls Tryd.prog 34 #[.pointer (some ⟨b, 0, none⟩)] w fun e w' => e = .returned (.string (str l)) ∧ Below B w w' :=
  Tryd.Builder_String_any B b l w h hB
theorem bld_new (w : World) : BldAt w.heap.size w.heap.size [] (w.alloc (.cells #[.pointer none, .slice none 0 0] 61)) :=
  .inl ⟨Nat.le_refl _, .slice none 0 0, heap_new w _ _ rfl, ⟨rfl, .inl ⟨rfl, rfl⟩⟩, by simp [Value.ownBlock]⟩
theorem bld_grow (w : World) (n : Nat) (hn : n ≤ 281474976710656) :
    Calls Tryd.prog 31 #[.pointer (some ⟨w.heap.size, 0, none⟩), .int .i64 (n : Int)] (w.alloc (.cells #[.pointer none, .slice none 0 0] 61)) fun e w' => e = .returned (.tuple #[]) ∧ BldAt w.heap.size w.heap.size [] w' ∧ Below w.heap.size w w' ∧ w.heap.size ≤ w'.heap.size := by
  refine (Tryd.Builder_Grow_fresh w.heap.size w.heap.size n _ (Nat.le_refl _) (heap_new w _ _ rfl) (by simp) hn).mono ?_
  rintro e w' ⟨rfl, h1, h2⟩
  have hb := (Below.refl w.heap.size w).alloc (Nat.le_refl _) (.cells #[.pointer none, .slice none 0 0] 61)
  exact ⟨rfl, .inr h1, hb.trans h2, (hb.trans h2).size⟩

theorem ret_str {a b : ByteArray} (h : a = b) : Ending.returned (.string a) = .returned (.string b) := by rw [h]
theorem dig_get (n : Nat) (h : n < 16) : (⟨#[48, 49, 50, 51, 52, 53, 54, 55, 56, 57, 97, 98, 99, 100, 101, 102]⟩ : ByteArray)[n]'h = hexD n := by
  have : ∀ n, (h : n < 16) → (⟨#[48, 49, 50, 51, 52, 53, 54, 55, 56, 57, 97, 98, 99, 100, 101, 102]⟩ : ByteArray)[n]'h = hexD n := by decide +kernel
  exact this n h

set_option maxHeartbeats 400000 in
theorem wrd_of (s : List UInt8) (hs : s.length ≤ 1000000) (w : World) : Calls Tryd.prog 19 #[.string (str s)] w fun e w' => e = .returned (.string (str (ofV s))) ∧ Below w.heap.size w w' := by
  by_cases hn : s = []
  · subst hn
    obtain ⟨S, hS⟩ : ∃ S, str [] = S := ⟨_, rfl⟩
    have h1 : S.toList = [] := by rw [← hS]; exact str_toList []
    have h2 : S.toList.isEmpty = true := by rw [h1]; rfl
    rw [hS]
    clear hS
    go_enter Tryd.func19, Tryd.ntmps19
    go_wp2_with fail
    go_ret
    exact ⟨rfl, Below.refl _ _⟩
  · have hz : (str s).size = s.length := str_size s
    have h1 : (!(str s).toList.isEmpty) = true := by rw [str_toList]; simpa using hn
    have h2 : (str s).toList.isEmpty = false := by rw [str_toList]; simpa using hn
    have hL : ∀ k, (h : k < (str s).size) → (str s)[k] = s.getD k 0 := fun k h => str_at s k h
    have hne := Lib.hid hn
    clear hn
    generalize str s = S at hz h1 h2 hL ⊢
    obtain ⟨N, hN⟩ : ∃ N, s.length = N := ⟨_, rfl⟩
    have HL := Lib.hid hL
    clear hL
    have HN := Lib.hid hN
    rw [hN] at hs hz
    clear hN
    have hsz1 : S.size ≤ N := by omega
    have hsz2 : N ≤ S.size := by omega
    have HZ := Lib.hid hz
    clear hz
    go_enter Tryd.func19, Tryd.ntmps19
    go_wp2_with (go_at_call 31; refine (bld_grow w _ (by omega)).mono ?_; rintro e w1 ⟨rfl, hb1, hbel1, hsz1⟩)
    go_loopw [13] (fun i wr => ∃ k : Nat, k ≤ N ∧ i = .int .i64 k ∧ BldAt w.heap.size w.heap.size (spells (s.take k)) wr ∧ Below w.heap.size w wr ∧ w.heap.size ≤ wr.heap.size) (fun i _ => N - (intOf i).toNat)
    case atStart => exact ⟨0, by omega, rfl, by simpa [spells] using hb1, hbel1, hsz1⟩
    case round =>
      obtain ⟨k, hk, rfl, hbk, hbelk, hszk⟩ := hrel
      clear hb1 hbel1 hsz1
      have hln := (spells_len (s.take k)).2
      have htk : (s.take k).length ≤ k := by rw [List.length_take]; omega
      by_cases hlt : k < N
      · have hx := HL.out k (by omega)
        have hsn := take_snoc_getD s k (by have := HN.out; omega)
        have HS := Lib.hid hsn
        clear hsn
        obtain ⟨c, hc⟩ : ∃ c, s.getD k 0 = c := ⟨_, rfl⟩
        rw [hc] at hx HS
        clear hc
        cases hp : plainB c with
        | true =>
          go_wp2_with (first | (go_at_call 32; refine (wrd_plain c _).mono ?_; rintro e w' ⟨rfl, rfl⟩) | (go_at_call 33; refine (bld_put hbk (by omega) hszk c).mono ?_; rintro e w2 ⟨rfl, hb2, hbel2, hsz2⟩))
          go_roundw
          case rel => exact ⟨k + 1, by omega, by go_num, by rw [HS.out, spells_snoc, spell_plain hp]; exact hb2, hbelk.trans hbel2, hsz2⟩
          case measure => simp [intOf]; omega
        | false =>
          go_wp2_with (go_at_call 32; refine (wrd_plain c _).mono ?_; rintro e w' ⟨rfl, rfl⟩)
          refine (bld_put hbk (by omega) hszk 45).mono ?_
          rintro e w2 ⟨rfl, hb2, hbel2, hsz2⟩
          have hc1 : (c.toNat : Int) / 16 < 16 := by have := c.toNat_lt; omega
          have hc2 : (0 : Int) ≤ (c.toNat : Int) / 16 := by omega
          go_wp2_with fail
          refine (bld_put hb2 (by simp; omega) hsz2 _).mono ?_
          rintro e w3 ⟨rfl, hb3, hbel3, hsz3⟩
          have hc3 : (c.toNat : Int) % 16 < 16 := by omega
          have hc4 : (0 : Int) ≤ (c.toNat : Int) % 16 := by omega
          go_wp2_with fail
          refine (bld_put hb3 (by simp; omega) hsz3 _).mono ?_
          rintro e w4 ⟨rfl, hb4, hbel4, hsz4⟩
          rw [dig_get _ (by omega), dig_get _ (by omega)] at hb4
          go_wp2_with fail
          go_roundw
          case rel => exact ⟨k + 1, by omega, by go_num, by rw [HS.out, spells_snoc, spell_other hp]; simpa using hb4, ((hbelk.trans hbel2).trans hbel3).trans hbel4, hsz4⟩
          case measure => simp [intOf]; omega
      · have hk' : k = N := by omega
        have hfin : s.take k = s := List.take_of_length_le (by have := HN.out; omega)
        have HF := Lib.hid hfin
        clear hfin hk'
        go_wp2_with (go_at_call 34; refine (bld_text hbk hszk).mono ?_; rintro e w2 ⟨rfl, hbel2⟩)
        go_ret
        exact ⟨ret_str (by rw [HF.out, ofV_some hne.out]), hbelk.trans hbel2⟩

/-! ### A word's text -/
/-- What comes back of a word: its text; or nothing, if it is none's. -/
def ReadV (w : List UInt8) (e : Ending) : Prop :=
  (∃ t, ofV t = w ∧ e = .returned (.tuple #[.string (str t), .bool true])) ∨ ((∀ t, ofV t ≠ w) ∧ e = .returned (.tuple #[.string (str []), .bool false]))
theorem BldAt.drewN {B b : Nat} {l : List UInt8} {w : World} (h : BldAt B b l w) (n : Nat) : BldAt B b l (w.drewN n) := h
theorem str_nil : str [] = ⟨#[]⟩ := rfl
theorem list_ne {a b : List UInt8} (h : a ≠ b) : (a == b) = false := by simpa using h
theorem list_empty {a : List UInt8} (h : a ≠ []) : a.isEmpty = false := by simpa using h
theorem str_cut (r a : List UInt8) (n : Nat) (h : r.drop n = a) : (str r).extract n (str r).size = str a := by rw [str_size, str_drop, h]
set_option maxHeartbeats 1000000 in
theorem wrd_read (s : List UInt8) (hs : s.length ≤ 1000000) (w : World) : Calls Tryd.prog 39 #[.string (str s)] w fun e w' => ReadV s e ∧ Below w.heap.size w w' := by
  by_cases h95 : s = [95]
  · subst h95
    obtain ⟨S, hS⟩ : ∃ S, str [95] = S := ⟨_, rfl⟩
    have h1 : S.toList = [95] := by rw [← hS]; exact str_toList [95]
    rw [hS]
    clear hS
    go_enter Tryd.func39, Tryd.ntmps39
    go_wp2_with fail
    go_ret2
    exact ⟨.inl ⟨[], rfl, rfl⟩, Below.refl _ _⟩
  · have hn95 : ((str s).toList == [95]) = false := by rw [str_toList]; exact list_ne h95
    have H95 := Lib.hid h95
    clear h95
    by_cases hnil : s = []
    · subst hnil
      have h1 : (str []).toList = [] := str_toList []
      generalize str [] = S at hn95 h1 ⊢
      have h2 : S.toList.isEmpty = true := by rw [h1]; rfl
      go_enter Tryd.func39, Tryd.ntmps39
      go_wp2_with fail
      go_ret2
      exact ⟨.inr ⟨fun t => ofV_ne t, rfl⟩, Below.refl _ _⟩
    · have hne : (str s).toList.isEmpty = false := by rw [str_toList]; exact list_empty hnil
      have HN := Lib.hid hnil
      clear hnil
      have hb0 := bld_new w
      obtain ⟨S, hS⟩ : ∃ S, str s = S := ⟨_, rfl⟩
      rw [hS] at hn95 hne ⊢
      have HS := Lib.hid hS
      clear hS
      go_enter Tryd.func39, Tryd.ntmps39
      go_wp2_with fail
      go_loopw [0] (fun v wr => ∃ t r : List UInt8, s = spells t ++ r ∧ v = .string (str r) ∧ BldAt w.heap.size w.heap.size t wr ∧ Below w.heap.size w wr ∧ w.heap.size ≤ wr.heap.size) (fun v _ => match v with | .string x => x.size | _ => 0)
      case atStart => exact ⟨[], s, rfl, by rw [HS.out], hb0, (Below.refl _ _).alloc (Nat.le_refl _) _, by simp⟩
      case round =>
        obtain ⟨t, r, hsr, rfl, hbt, hbelt, hszt⟩ := hrel
        have hlt : t.length ≤ 1000000 := by
          have := (spells_len t).1
          have : s.length = (spells t).length + r.length := by rw [hsr, List.length_append]
          omega
        have HSR := Lib.hid hsr
        clear hsr hb0
        by_cases hr : r = []
        · subst hr
          have h1 : (str []).toList = [] := str_toList []
          generalize str [] = R at h1 ⊢
          have h2 : R.toList.isEmpty = true := by rw [h1]; rfl
          go_wp2_with (go_at_call 34; refine (bld_text hbt hszt).mono ?_; rintro e w2 ⟨rfl, hbel2⟩)
          go_ret2
          exact ⟨.inl ⟨t, word_of HN.out (by simpa using HSR.out), rfl⟩, hbelt.trans hbel2⟩
        · have hRe : (str r).toList.isEmpty = false := by rw [str_toList]; exact list_empty hr
          have C := wrd_first r hr wr
          have hrl := str_size r
          obtain ⟨R, hR⟩ : ∃ R, str r = R := ⟨_, rfl⟩
          rw [hR] at hRe C hrl ⊢
          have HR := Lib.hid hR
          have HRL := Lib.hid hrl
          have HRN := Lib.hid hr
          clear hR hrl hr
          go_wp2_with fail
          refine C.mono ?_
          rintro e w2 ⟨h | h, n0, rfl⟩
          · obtain ⟨c, a, hra, rfl⟩ := h
            obtain ⟨hn1, hn3⟩ := spell_len c
            have hra' : r.length = (spell c).length + a.length := by rw [hra, List.length_append]
            have hdr : r.drop (spell c).length = a := by rw [hra]; simp
            have hsz : (spell c).length ≤ R.size := by have := HRL.out; omega
            have hcut : R.extract (spell c).length R.size = str a := by rw [← HR.out]; exact str_cut r a _ hdr
            have hsa : R.size = (spell c).length + a.length := by have := HRL.out; omega
            have HSA := Lib.hid hsa
            have HC := Lib.hid hcut
            have HRA := Lib.hid hra
            clear hcut hsa hra hra' hdr C
            obtain ⟨n, hn⟩ : ∃ n, (spell c).length = n := ⟨_, rfl⟩
            rw [hn] at hn1 hn3 hsz HSA HC ⊢
            clear hn
            go_wp2_with (go_at_call 33; refine (bld_put (hbt.drewN n0) (by omega) hszt c).mono ?_; rintro e w3 ⟨rfl, hb3, hbel3, hsz3⟩)
            go_roundw
            case rel => exact ⟨t ++ [c], a, by rw [HSR.out, HRA.out, spells_snoc, List.append_assoc], by rw [HC.out], hb3, (below_drewN hbelt n0).trans hbel3, hsz3⟩
            case measure =>
              rw [HC.out]
              show (str a).size < R.size
              rw [str_size]
              have := HSA.out
              omega
          · obtain ⟨hno, rfl⟩ := h
            go_wp2_with fail
            go_ret2
            exact ⟨.inr ⟨no_word H95.out HSR.out HRN.out hno, rfl⟩, below_drewN hbelt n0⟩
end Go.Proofs.YthgcbomidamcfaaDoor

/-
  Layer 5 (word): the document's own answers: a text's word; lines.
-/
namespace Go.Proofs.YthgcbomidamcfaaDoor
open Go.RowKit

theorem rwd_hex_int (x : Int) (n : Nat) (hx : x = n) (hn : n < 16) (w : World) : Calls Tryd.prog 41 #[.int .i64 x] w fun e w' => e = .returned (.int .u8 ((hexD n).toNat : Int)) ∧ w = w' := by
  subst hx; exact rwd_hex n hn w
set_option maxHeartbeats 1000000 in
theorem rwd_of (s : List UInt8) (hs : s.length ≤ 1000000) (w : World) : Calls Tryd.prog 28 #[.string (str s)] w fun e w' => e = .returned (.string (str (ofV s))) ∧ Below w.heap.size w w' := by
  by_cases hn : s = []
  · subst hn
    obtain ⟨S, hS⟩ : ∃ S, str [] = S := ⟨_, rfl⟩
    have h1 : S.toList = [] := by rw [← hS]; exact str_toList []
    have h2 : S.toList.isEmpty = true := by rw [h1]; rfl
    rw [hS]
    clear hS
    go_enter Tryd.func28, Tryd.ntmps28
    go_wp2_with fail
    go_ret
    exact ⟨rfl, Below.refl _ _⟩
  · have hz : (str s).size = s.length := str_size s
    have h2 : (str s).toList.isEmpty = false := by rw [str_toList]; simpa using hn
    have hL : ∀ k, (h : k < (str s).size) → (str s)[k] = s.getD k 0 := fun k h => str_at s k h
    have hne := Lib.hid hn
    clear hn
    generalize str s = S at hz h2 hL ⊢
    obtain ⟨N, hN⟩ : ∃ N, s.length = N := ⟨_, rfl⟩
    have HL := Lib.hid hL
    clear hL
    have HN := Lib.hid hN
    rw [hN] at hs hz
    clear hN
    have hsz1 : S.size ≤ N := by omega
    have hsz2 : N ≤ S.size := by omega
    have HZ := Lib.hid hz
    clear hz
    go_enter Tryd.func28, Tryd.ntmps28
    go_wp2_with fail
    go_loopw [3, 4] (fun v i wr => ∃ k : Nat, k ≤ N ∧ i = .int .i64 k ∧ OwnB wr w.heap.size v (spells (s.take k)) ∧ Below w.heap.size w wr ∧ w.heap.size ≤ wr.heap.size) (fun _ i _ => N - (intOf i).toNat)
    case atStart => exact ⟨0, by omega, rfl, ⟨rfl, .inl ⟨rfl, rfl⟩⟩, Below.refl _ _, Nat.le_refl _⟩
    case round =>
      obtain ⟨k, hk, rfl, hown, hbelk, hszk⟩ := hrel
      have hln := (spells_len (s.take k)).2
      have htk : (s.take k).length ≤ k := by rw [List.length_take]; omega
      by_cases hlt : k < N
      · have hx := HL.out k (by omega)
        have hsn := take_snoc_getD s k (by have := HN.out; omega)
        have HS := Lib.hid hsn
        clear hsn
        obtain ⟨c, hc⟩ : ∃ c, s.getD k 0 = c := ⟨_, rfl⟩
        rw [hc] at hx HS
        clear hc
        obtain ⟨M, hM⟩ : ∃ M, spells (s.take k) = M := ⟨_, rfl⟩
        rw [hM] at hown hln
        have HM := Lib.hid hM
        clear hM
        have hc1 : (c.toNat : Int) / 16 < 16 := by have := c.toNat_lt; omega
        have hc2 : (0 : Int) ≤ (c.toNat : Int) / 16 := by omega
        have hc3 : (c.toNat : Int) % 16 < 16 := by omega
        have hc4 : (0 : Int) ≤ (c.toNat : Int) % 16 := by omega
        cases hp : plainB c with
        | true =>
          have hrow := byte_row wr _ c rfl
          have HA := fun o => Lib.hid (hown.alloc o)
          have HB := fun o => Lib.hid (hbelk.alloc hszk o)
          have hle (o : Obj) : w.heap.size ≤ (wr.alloc o).heap.size := by simp; omega
          have hl1 : M.length + [c].length ≤ 140737488355328 := by simp; omega
          go_wp2_with (first | (go_at_call 40; refine (rwd_plain c _).mono ?_; rintro e w' ⟨rfl, rfl⟩) | (at_builtin; refine wpList_app_row rfl (.tmp 17) (.tmp 21) rfl w.heap.size _ M rfl (HA _).out _ _ 1 1 [c] rfl rfl hrow hl1 (hle _) ?_; intro v2 w2 hown2 _ hb2 _))
          go_roundw
          case rel => exact ⟨k + 1, by omega, by go_num, by rw [HS.out, spells_snoc, spell_plain hp, HM.out]; exact hown2, (HB _).out.trans hb2, ((HB _).out.trans hb2).size⟩
          case measure => simp [intOf]; omega
        | false =>
          have hrow := byte_row wr 45 45 rfl
          have HA := fun o => Lib.hid (hown.alloc o)
          have HB := fun o => Lib.hid (hbelk.alloc hszk o)
          have hle (o : Obj) : w.heap.size ≤ (wr.alloc o).heap.size := by simp; omega
          have hl1 : M.length + [45].length ≤ 140737488355328 := by simp; omega
          go_wp2_with (first | (go_at_call 40; refine (rwd_plain c _).mono ?_; rintro e w' ⟨rfl, rfl⟩) | (at_builtin; refine wpList_app_row rfl (.tmp 23) (.tmp 24) rfl w.heap.size _ M rfl (HA _).out _ _ 1 1 [45] rfl rfl hrow hl1 (hle _) ?_; intro v2 w2 hown2 _ hb2 _) | fail)
          have hbel2 := (HB _).out.trans hb2
          have hsz2 := hbel2.size
          have hrow3 := byte_row w2 _ (hexD (c.toNat / 16)) rfl
          have HA3 := fun o => Lib.hid (hown2.alloc o)
          have HB3 := fun o => Lib.hid (hbel2.alloc hsz2 o)
          have hle3 (o : Obj) : w.heap.size ≤ (w2.alloc o).heap.size := by simp; omega
          have hl3 : (M ++ [45]).length + [hexD (c.toNat / 16)].length ≤ 140737488355328 := by simp; omega
          have H16 := rwd_hex_int ((c.toNat : Int) / 16) (c.toNat / 16) (by omega) (by omega) w2
          refine H16.mono ?_
          rintro e w' ⟨rfl, rfl⟩
          clear H16 HA HB hrow hl1 hle hb2
          go_wp2_with (first | (at_builtin; refine wpList_app_row rfl (.tmp 26) (.tmp 33) rfl w.heap.size _ (M ++ [45]) rfl (HA3 _).out _ _ 1 1 [hexD (c.toNat / 16)] rfl rfl hrow3 hl3 (hle3 _) ?_; intro v3 w3 hown3 _ hb3 _) | fail)
          have hbel3 := (HB3 _).out.trans hb3
          have hsz3 := hbel3.size
          have hrow4 := byte_row w3 _ (hexD (c.toNat % 16)) rfl
          have HA4 := fun o => Lib.hid (hown3.alloc o)
          have HB4 := fun o => Lib.hid (hbel3.alloc hsz3 o)
          have hle4 (o : Obj) : w.heap.size ≤ (w3.alloc o).heap.size := by simp; omega
          have hl4 : (M ++ [45] ++ [hexD (c.toNat / 16)]).length + [hexD (c.toNat % 16)].length ≤ 140737488355328 := by simp; omega
          have H16 := rwd_hex_int ((c.toNat : Int) % 16) (c.toNat % 16) (by omega) (by omega) w3
          refine H16.mono ?_
          rintro e w' ⟨rfl, rfl⟩
          clear H16 HA3 HB3 hrow3 hl3 hle3 hb3
          go_wp2_with (first | (at_builtin; refine wpList_app_row rfl (.tmp 35) (.tmp 42) rfl w.heap.size _ (M ++ [45] ++ [hexD (c.toNat / 16)]) rfl (HA4 _).out _ _ 1 1 [hexD (c.toNat % 16)] rfl rfl hrow4 hl4 (hle4 _) ?_; intro v4 w4 hown4 _ hb4 _) | fail)
          go_roundw
          case rel => exact ⟨k + 1, by omega, by go_num, by rw [HS.out, spells_snoc, spell_other hp, HM.out]; simpa using hown4, (HB4 _).out.trans hb4, ((HB4 _).out.trans hb4).size⟩
          case measure => simp [intOf]; omega
      · have hk' : k = N := by omega
        have hfin : s.take k = s := List.take_of_length_le (by have := HN.out; omega)
        rw [hfin] at hown
        have HF := Lib.hid hfin
        clear hfin hk'
        obtain ⟨A, c, rfl, hrd⟩ := hown.read
        have K1 := conv_str (P := Tryd.prog) c 59 5 9 Tryd.underlying59 Tryd.underlying5 Tryd.underlying9 hrd.row
        go_wp2_with fail
        go_ret
        exact ⟨ret_str (by rw [ofV_some hne.out]), hbelk⟩
end Go.Proofs.YthgcbomidamcfaaDoor
