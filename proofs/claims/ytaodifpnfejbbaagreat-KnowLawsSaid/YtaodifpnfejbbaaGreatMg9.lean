/-
  Several texts in one: KnwMrg, KnwK, RowsG, VstI, VstMrg, Step, VstJ, CntMrg, RnAt.
-/
import Derived.Lib.AppendZeros
import Derived.Deep.RegionLaw
import Derived.Test.YtaodifpnfejbbaaGreatMg8
/-
  Plain facts on how the program makes knowledge (layer 15): pieces put one behind the other; two lists swept together, edge by edge; a list made right piece by piece; restricted, side by side. No program in this text.
-/
namespace Go.Proofs.YtaodifpnfejbbaaGreat

theorem last_cases {α : Type} (l : List α) : l = [] ∨ ∃ a b, l = a ++ [b] := by
  cases h : l.reverse with
  | nil => left; simpa using h
  | cons b a => right; exact ⟨a.reverse, b, by have := congrArg List.reverse h; simpa using this⟩
theorem catK_none : ∀ {k : List Pc} {s : List UInt8}, (∀ p ∈ k, hasR p.rng s = false) → catK k s = []
  | [], _, _ => rfl
  | p :: k, s, h => by rw [catK, setP_no (h p (List.mem_cons_self ..)), catK_none fun q hq => h q (List.mem_cons_of_mem _ hq)]; rfl
theorem catK_some : ∀ {k : List Pc} {p : Pc} {s : List UInt8}, p ∈ k → hasR p.rng s = true → p.set ≠ [] → catK k s ≠ []
  | q :: k, p, s, h, hr, hs => by
    rw [catK]
    rcases List.mem_cons.1 h with rfl | h
    · rw [setP_yes hr]; intro e; exact hs (List.append_eq_nil_iff.1 e).1
    · intro e; exact catK_some h hr hs (List.append_eq_nil_iff.1 e).2
/-- A range that ends at a text, or ahead of it, has none from there on. -/
theorem hasR_past {r : Rng} {c s : List UInt8} (ho : r.op = false) (hc : ltB c r.hi = false) (hs : ltB s c = false) : hasR r s = false := by
  unfold hasR aheadR
  rw [ho, leB_trans hc hs, Bool.false_or, Bool.and_false]
theorem rightP_snoc : ∀ {k : List Pc} {q p : Pc}, rightP (k ++ [q]) = true → onePc p = true → gapP q p = true → rightP (k ++ [q] ++ [p]) = true
  | [], q, p, h, hp, hg => by
    have h1 : onePc q = true := h
    show (onePc q && gapP q p && onePc p) = true
    rw [h1, hg, hp]; rfl
  | [a], q, p, h, hp, hg => by
    have h1 := rightP_snoc (k := []) (q := q) (p := p) (rightP_tail h) hp hg
    have h2 : (onePc a && gapP a q && onePc q) = true := h
    show (onePc a && gapP a q && rightP [q, p]) = true
    simp only [Bool.and_eq_true] at h2 ⊢
    exact ⟨h2.1, h1⟩
  | a :: b :: k, q, p, h, hp, hg => by
    have h1 := rightP_snoc (k := b :: k) (q := q) (p := p) (rightP_tail h) hp hg
    have h2 : (onePc a && gapP a b && rightP (b :: k ++ [q])) = true := h
    show (onePc a && gapP a b && rightP (b :: k ++ [q] ++ [p])) = true
    simp only [Bool.and_eq_true] at h2 ⊢
    exact ⟨h2.1, h1⟩
theorem gapP_like {a p q : Pc} (h1 : p.rng.lo = q.rng.lo) (h2 : p.set = q.set) : gapP a p = gapP a q := by unfold gapP; rw [h1, h2]
theorem rightP_last : ∀ {k : List Pc} {q p : Pc}, rightP (k ++ [q]) = true → onePc p = true → p.rng.lo = q.rng.lo → p.set = q.set → rightP (k ++ [p]) = true
  | [], q, p, _, hp, _, _ => hp
  | [a], q, p, h, hp, h1, h2 => by
    have h3 : (onePc a && gapP a q && onePc q) = true := h
    show (onePc a && gapP a p && onePc p) = true
    rw [gapP_like h1 h2, hp]
    simp only [Bool.and_eq_true] at h3 ⊢
    exact ⟨h3.1, trivial⟩
  | a :: b :: k, q, p, h, hp, h1, h2 => by
    have h4 := rightP_last (k := b :: k) (q := q) (p := p) (rightP_tail h) hp h1 h2
    have h3 : (onePc a && gapP a b && rightP (b :: k ++ [q])) = true := h
    show (onePc a && gapP a b && rightP (b :: k ++ [p])) = true
    simp only [Bool.and_eq_true] at h3 ⊢
    exact ⟨h3.1, h4⟩
theorem rightP_front : ∀ {k : List Pc} {q : Pc}, rightP (k ++ [q]) = true → onePc q = true := fun {k q} h => rightP_all h q (by simp)

/-! Pieces, put one behind the other. -/
/-- A list with a set of a range more, that stands behind all that the list has. -/
def putP (k : List Pc) (r : Rng) (S : List Kn) : List Pc := match S with
  | [] => k
  | x :: y => match k.getLast? with
    | none => [⟨r, x :: y⟩]
    | some q => match gapP q ⟨r, x :: y⟩ with
      | true => k ++ [⟨r, x :: y⟩]
      | false => k.dropLast ++ [⟨⟨q.rng.lo, r.hi, r.op⟩, q.set⟩]
theorem putP_no (k : List Pc) (r : Rng) : putP k r [] = k := rfl
theorem putP_first {r : Rng} {S : List Kn} (h : S ≠ []) : putP [] r S = [⟨r, S⟩] := by
  cases S with
  | nil => exact absurd rfl h
  | cons x y => rfl
theorem putP_gap {k : List Pc} {q : Pc} {r : Rng} {S : List Kn} (h : S ≠ []) (hg : gapP q ⟨r, S⟩ = true) : putP (k ++ [q]) r S = k ++ [q] ++ [⟨r, S⟩] := by
  cases S with
  | nil => exact absurd rfl h
  | cons x y => simp only [putP, List.getLast?_concat, hg]
theorem putP_more {k : List Pc} {q : Pc} {r : Rng} {S : List Kn} (h : S ≠ []) (hg : gapP q ⟨r, S⟩ = false) : putP (k ++ [q]) r S = k ++ [⟨⟨q.rng.lo, r.hi, r.op⟩, q.set⟩] := by
  cases S with
  | nil => exact absurd rfl h
  | cons x y => simp only [putP, List.getLast?_concat, hg, List.dropLast_concat]
theorem putP_len (k : List Pc) (r : Rng) (S : List Kn) : (putP k r S).length ≤ k.length + 1 := by
  by_cases hS : S = []
  · subst hS; rw [putP_no]; omega
  · rcases last_cases k with rfl | ⟨a, q, rfl⟩
    · rw [putP_first hS]; simp
    · cases hg : gapP q ⟨r, S⟩
      · rw [putP_more hS hg]; simp
      · rw [putP_gap hS hg]; simp
/-- .. and what it has. -/
theorem putP_ok {dn : List Pc} {r : Rng} {S : List Kn} (h : rightP dn = true) (hp : ∀ p ∈ dn, p.rng.op = false ∧ ltB r.lo p.rng.hi = false) (hr : rightR r = true) (hS : rightS S = true) :
    rightP (putP dn r S) = true ∧ (∀ s, catK (putP dn r S) s = catK dn s ++ setP ⟨r, S⟩ s) ∧ ∀ p ∈ putP dn r S, (p.rng.op = false ∧ ltB r.lo p.rng.hi = false) ∨ (p.rng.op = r.op ∧ p.rng.hi = r.hi) := by
  have hno : ∀ s, hasR r s = true → catK dn s = [] := fun s hs => catK_none fun p hpm => hasR_past (hp p hpm).1 (hp p hpm).2 (hasR_ge hs)
  by_cases hS0 : S = []
  · subst hS0
    refine ⟨h, fun s => ?_, fun p hpm => .inl (hp p hpm)⟩
    have : setP ⟨r, []⟩ s = [] := by unfold setP; cases hasR r s <;> rfl
    rw [this, putP_no, List.append_nil]
  · have h1 : onePc ⟨r, S⟩ = true := onePc_iff.2 ⟨hr, hS0, hS⟩
    rcases last_cases dn with rfl | ⟨a, q, rfl⟩
    · rw [putP_first hS0]
      refine ⟨h1, fun s => ?_, fun p hpm => ?_⟩
      · show setP ⟨r, S⟩ s ++ [] = [] ++ setP ⟨r, S⟩ s
        rw [List.append_nil]; rfl
      · rw [List.mem_singleton] at hpm; subst hpm; exact .inr ⟨rfl, rfl⟩
    · cases hg : gapP q ⟨r, S⟩ with
      | true =>
        rw [putP_gap hS0 hg]
        refine ⟨rightP_snoc h h1 hg, fun s => ?_, fun p hpm => ?_⟩
        · rw [catK_append (a ++ [q])]
          show _ ++ (setP ⟨r, S⟩ s ++ []) = _
          rw [List.append_nil]
        · rcases List.mem_append.1 hpm with hpm | hpm
          · exact .inl (hp p hpm)
          · rw [List.mem_singleton] at hpm; subst hpm; exact .inr ⟨rfl, rfl⟩
      | false =>
        rw [putP_more hS0 hg]
        obtain ⟨ho, hlt⟩ := hp q (by simp)
        have hq := onePc_iff.1 (rightP_front h)
        have hg2 : q.rng.hi = r.lo ∧ q.set = S := by
          unfold gapP at hg
          rw [ho, show ltB (Pc.mk r S).rng.lo q.rng.hi = false from hlt] at hg
          simpa using hg
        obtain ⟨e1, e2⟩ := hg2
        have hql : ltB q.rng.lo r.lo = true := e1 ▸ rightR_lt hq.1 ho
        have hnr : rightR ⟨q.rng.lo, r.hi, r.op⟩ = true := rightR_iff.2 ⟨rightR_lo (r := q.rng) hq.1, rightR_hi (r := r) hr, fun h => rightR_op (r := r) hr h, fun h => ltB_trans hql (rightR_lt (r := r) hr h)⟩
        have hhas : ∀ s, hasR ⟨q.rng.lo, r.hi, r.op⟩ s = (hasR q.rng s || hasR r s) := fun s => by
          rw [hasR_eq hnr, hasR_eq hq.1, hasR_eq hr, ho, e1]
          show (!ltB s q.rng.lo && (r.op || ltB s r.hi)) = _
          cases hy : ltB s r.lo with
          | true =>
            have hz : (r.op || ltB s r.hi) = true := by
              cases hop : r.op with
              | true => rfl
              | false => rw [ltB_trans hy (rightR_lt hr hop)]; rfl
            rw [hz]; cases ltB s q.rng.lo <;> rfl
          | false =>
            have hx : ltB s q.rng.lo = false := by
              cases hx : ltB s q.rng.lo with
              | false => rfl
              | true => rw [ltB_trans hx hql] at hy; cases hy
            rw [hx]; rfl
        refine ⟨rightP_last h (onePc_iff.2 ⟨hnr, hq.2.1, hq.2.2⟩) rfl rfl, fun s => ?_, fun p hpm => ?_⟩
        · rw [catK_append, catK_append]
          show catK a s ++ (setP ⟨⟨q.rng.lo, r.hi, r.op⟩, q.set⟩ s ++ []) = catK a s ++ (setP q s ++ []) ++ setP ⟨r, S⟩ s
          rw [List.append_nil, List.append_nil, List.append_assoc]
          congr 1
          have hh := hhas s
          cases hr2 : hasR r s with
          | true =>
            have hq0 : hasR q.rng s = false := hasR_past ho hlt (hasR_ge hr2)
            rw [hr2, hq0] at hh
            rw [setP_yes hh, setP_no hq0, setP_yes (p := ⟨r, S⟩) hr2]
            exact e2
          | false =>
            rw [hr2, Bool.or_false] at hh
            rw [setP_no (p := ⟨r, S⟩) hr2, List.append_nil]
            cases hq0 : hasR q.rng s with
            | true => rw [hq0] at hh; rw [setP_yes hh, setP_yes hq0]
            | false => rw [hq0] at hh; rw [setP_no hh, setP_no hq0]
        · rcases List.mem_append.1 hpm with hpm | hpm
          · exact .inl (hp p (List.mem_append.2 (.inl hpm)))
          · rw [List.mem_singleton] at hpm; subst hpm; exact .inr ⟨rfl, rfl⟩

/-! Edge by edge. -/
def nextR (e : List UInt8) : List (List UInt8) → Rng
  | [] => ⟨e, [], true⟩
  | x :: _ => ⟨e, x, false⟩
def UpE (l : List (List UInt8)) : Prop := l.Pairwise fun a b => ltB a b = true
/-- What is put, edge by edge. -/
def swP (f : List UInt8 → List Kn) : List Pc → List (List UInt8) → List Pc
  | dn, [] => dn
  | dn, e :: es => swP f (putP dn (nextR e es) (f e)) es
theorem nextR_right {e : List UInt8} {es : List (List UInt8)} (hu : UpE (e :: es)) (hl : ∀ x ∈ e :: es, x.length ≤ 17) : rightR (nextR e es) = true := by
  have h1 := hl e (List.mem_cons_self ..)
  cases es with
  | nil => exact rightR_iff.2 ⟨h1, Nat.zero_le _, fun _ => rfl, fun h => by cases h⟩
  | cons x es => exact rightR_iff.2 ⟨h1, hl x (by simp), (fun h => by cases h), fun _ => (List.pairwise_cons.1 hu).1 x (by simp)⟩
theorem nextR_lo (e : List UInt8) (es : List (List UInt8)) : (nextR e es).lo = e := by cases es <;> rfl
theorem swP_ok (f : List UInt8 → List Kn) (hf : ∀ s, rightS (f s) = true) : ∀ (rest pre : List (List UInt8)) (dn : List Pc), UpE (pre ++ rest) → (∀ x ∈ rest, x.length ≤ 17) → DetP f (pre ++ rest) → rightP dn = true →
    (∀ e es, rest = e :: es → ∀ p ∈ dn, p.rng.op = false ∧ ltB e p.rng.hi = false) → (∀ s, (∀ e es, rest = e :: es → ltB s e = true) → catK dn s = f s) → (∀ s e es, rest = e :: es → ltB s e = false → catK dn s = []) → rightP (swP f dn rest) = true ∧ ∀ s, catK (swP f dn rest) s = f s
  | [], pre, dn, _, _, _, h1, _, h2, _ => ⟨h1, fun s => h2 s fun e es h => by cases h⟩
  | e :: es, pre, dn, hu, hl, hd, h1, hp, h2, h3 => by
    obtain ⟨-, hue, hpe⟩ := List.pairwise_append.1 hu
    have hee := (List.pairwise_cons.1 hue).1
    have hrr := nextR_right hue hl
    obtain ⟨g1, g2, g3⟩ := putP_ok h1 (by rw [nextR_lo]; exact hp e es rfl) hrr (hf e)
    rw [swP]
    refine swP_ok f hf es (pre ++ [e]) _ (by rw [List.append_assoc]; exact hu) (fun x hx => hl x (List.mem_cons_of_mem _ hx)) (by rw [List.append_assoc]; exact hd) g1 ?_ ?_ ?_
    · rintro e2 es2 rfl p hp2
      rcases g3 p hp2 with ⟨a, b⟩ | ⟨a, b⟩
      · exact ⟨a, leB_trans b (ltB_asymm (hee e2 (by simp)))⟩
      · exact ⟨a, by rw [b]; exact ltB_irrefl _⟩
    · intro s hs
      rw [g2]
      cases hh : hasR (nextR e es) s with
      | true =>
        have hge : ltB s e = false := by have := hasR_ge hh; rwa [nextR_lo] at this
        rw [setP_yes (p := ⟨nextR e es, f e⟩) hh, h3 s e es rfl hge]
        show f e = f s
        refine hd e s fun x hx => ?_
        rcases List.mem_append.1 hx with hx | hx
        · have hxe := ltB_asymm (hpe x hx e (List.mem_cons_self ..))
          rw [hxe]; exact (leB_trans hxe hge).symm
        · rcases List.mem_cons.1 hx with rfl | hx
          · rw [ltB_irrefl, hge]
          · rw [hee x hx]
            cases es with
            | nil => cases hx
            | cons e2 es2 =>
              have h5 := hs e2 es2 rfl
              rcases List.mem_cons.1 hx with rfl | hx
              · exact h5.symm
              · exact (ltB_trans h5 ((List.pairwise_cons.1 (List.pairwise_cons.1 hue).2).1 x hx)).symm
      | false =>
        rw [setP_no (p := ⟨nextR e es, f e⟩) hh, List.append_nil]
        refine h2 s fun e' es' h => ?_
        injection h with h4 h5
        subst h4
        rw [hasR_eq hrr, nextR_lo] at hh
        cases hse : ltB s e with
        | true => rfl
        | false =>
          exfalso
          rw [hse] at hh
          cases es with
          | nil => cases hh
          | cons e2 es2 =>
            have h5 := hs e2 es2 rfl
            have : (!false && (false || ltB s e2)) = false := hh
            rw [h5] at this; cases this
    · rintro s e2 es2 rfl hs
      rw [g2]
      have h4 : ltB s e = false := leB_trans (ltB_asymm (hee e2 (by simp))) hs
      rw [h3 s e _ rfl h4, setP_no (p := ⟨nextR e (e2 :: es2), f e⟩) (hasR_past (r := ⟨e, e2, false⟩) (c := e2) rfl (ltB_irrefl _) hs)]; rfl
/-- Two right lists, swept. -/
def edgesP (k : List Pc) : List (List UInt8) := edgesR (spansP k)
theorem edgesR_mem : ∀ {l : List Rng} {r : Rng}, r ∈ l → r.lo ∈ edgesR l ∧ (r.op = false → r.hi ∈ edgesR l)
  | t :: l, r, h => by
    rcases List.mem_cons.1 h with rfl | h
    · cases ho : r.op with
      | true => rw [edgesR_open ho]; exact ⟨by simp, fun h => by cases h⟩
      | false => rw [edgesR_shut ho]; exact ⟨by simp, fun _ => by simp⟩
    · obtain ⟨h1, h2⟩ := edgesR_mem h
      cases ho : t.op with
      | true => rw [edgesR_open ho]; exact ⟨List.mem_cons_of_mem _ h1, fun h => List.mem_cons_of_mem _ (h2 h)⟩
      | false => rw [edgesR_shut ho]; exact ⟨List.mem_cons_of_mem _ (List.mem_cons_of_mem _ h1), fun h => List.mem_cons_of_mem _ (List.mem_cons_of_mem _ (h2 h))⟩
theorem edgesP_mem {k : List Pc} {p : Pc} (h : p ∈ k) : p.rng.lo ∈ edgesP k ∧ (p.rng.op = false → p.rng.hi ∈ edgesP k) := edgesR_mem (spansP_mem h)
theorem edgesP_append (a b : List Pc) : edgesP (a ++ b) = edgesP a ++ edgesP b := by unfold edgesP spansP; rw [List.map_append, edgesR_append]
theorem edgesP_len17 {k : List Pc} (h : ∀ p ∈ k, rightR p.rng = true) : ∀ x ∈ edgesP k, x.length ≤ 17 := edgesR_len17 fun r hr => by
  obtain ⟨p, hp, rfl⟩ := List.mem_map.1 hr; exact h p hp
theorem edgesP_len (k : List Pc) : (edgesP k).length ≤ 2 * k.length := by have := edgesR_len (spansP k); rw [spansP, List.length_map] at this; exact this
theorem edgesP_one (p : Pc) : edgesP [p] = match p.rng.op with | true => [p.rng.lo] | false => [p.rng.lo, p.rng.hi] := by
  unfold edgesP spansP
  cases ho : p.rng.op with
  | true => rw [List.map_cons, edgesR_open ho]; rfl
  | false => rw [List.map_cons, edgesR_shut ho]; rfl
theorem edgesP_take {k : List Pc} {j : Nat} {p : Pc} (h : k[j]? = some p) : edgesP (k.take (j + 1)) = edgesP (k.take j) ++ edgesP [p] := by
  rw [List.take_add_one, h, edgesP_append]; rfl
/-- The edges of two lists, in order, each once. -/
def EdgesOf (a b : List Pc) (es : List (List UInt8)) : Prop := UpE es ∧ ∀ x, x ∈ es ↔ x ∈ edgesP (a ++ b)
theorem catK_low {a : List Pc} {es : List (List UInt8)} (ha : rightP a = true) (he : ∀ p ∈ a, p.rng.lo ∈ es) {s : List UInt8} (hs : ∀ x ∈ es, ltB s x = true) : catK a s = [] := by
  cases a with
  | nil => rfl
  | cons p k =>
    cases h : catK (p :: k) s with
    | nil => rfl
    | cons x y =>
      have h1 := catK_ge ha (by rw [h]; exact List.cons_ne_nil _ _)
      rw [hs _ (he p (by simp))] at h1; cases h1
theorem sweep_ok {op : Int} (hk0 : makeS op [] [] = []) {a b : List Pc} (ha : rightP a = true) (hb : rightP b = true) {es : List (List UInt8)} (he : EdgesOf a b es) :
    rightP (swP (fun s => makeS op (catK a s) (catK b s)) [] es) = true ∧ ∀ s, catK (swP (fun s => makeS op (catK a s) (catK b s)) [] es) s = makeS op (catK a s) (catK b s) := by
  obtain ⟨hu, hm⟩ := he
  have hR : ∀ p ∈ a ++ b, rightR p.rng = true := fun p hp => by
    rcases List.mem_append.1 hp with hp | hp
    · exact (onePc_iff.1 (rightP_all ha p hp)).1
    · exact (onePc_iff.1 (rightP_all hb p hp)).1
  have hmem : ∀ p ∈ a ++ b, p.rng.lo ∈ es ∧ (p.rng.op = false → p.rng.hi ∈ es) := fun p hp => ⟨(hm _).2 (edgesP_mem hp).1, fun h => (hm _).2 ((edgesP_mem hp).2 h)⟩
  have hd : DetP (fun s => makeS op (catK a s) (catK b s)) es := fun s c hs => by
    show makeS op (catK a s) (catK b s) = makeS op (catK a c) (catK b c)
    rw [catK_det (fun p hp _ => hmem p (List.mem_append.2 (.inl hp))) s c hs, catK_det (fun p hp _ => hmem p (List.mem_append.2 (.inr hp))) s c hs]
  refine swP_ok _ (fun s => makeS_right ..) es [] [] hu (fun x hx => edgesP_len17 hR x ((hm x).1 hx)) hd rfl (fun e es _ p hp => by cases hp) (fun s hs => ?_) (fun s e es _ _ => rfl)
  have hall : ∀ x ∈ es, ltB s x = true := fun x hx => by
    cases es with
    | nil => cases hx
    | cons e es =>
      have h5 := hs e es rfl
      rcases List.mem_cons.1 hx with rfl | hx
      · exact h5
      · exact ltB_trans h5 ((List.pairwise_cons.1 hu).1 x hx)
  show [] = makeS op (catK a s) (catK b s)
  rw [catK_low ha (fun p hp => (hmem p (List.mem_append.2 (.inl hp))).1) hall, catK_low hb (fun p hp => (hmem p (List.mem_append.2 (.inr hp))).1) hall, hk0]

/-! What is left of a right list from an edge on. -/
def passP (x : List UInt8) : List Pc → List Pc
  | [] => []
  | p :: k => match !p.rng.op && !ltB x p.rng.hi with
    | true => k
    | false => p :: k
theorem passP_yes {x : List UInt8} {p : Pc} {k : List Pc} (h : (!p.rng.op && !ltB x p.rng.hi) = true) : passP x (p :: k) = k := by rw [passP, h]
theorem passP_no {x : List UInt8} {p : Pc} {k : List Pc} (h : (!p.rng.op && !ltB x p.rng.hi) = false) : passP x (p :: k) = p :: k := by rw [passP, h]
def firstP (s : List UInt8) : List Pc → List Kn
  | [] => []
  | p :: _ => setP p s
structure LeftP (a k : List Pc) (pre es : List (List UInt8)) : Prop where
  right : rightP k = true
  same : ∀ s, (∀ x ∈ pre, ltB s x = false) → catK k s = catK a s
  his : ∀ p ∈ k, p.rng.op = false → p.rng.hi ∈ es
theorem LeftP.start {a : List Pc} {es : List (List UInt8)} (ha : rightP a = true) (he : ∀ p ∈ a, p.rng.op = false → p.rng.hi ∈ es) : LeftP a a [] es := ⟨ha, fun _ _ => rfl, he⟩
theorem rightP_behind {q p : Pc} {k : List Pc} (h : rightP (q :: k) = true) (hp : p ∈ k) : q.rng.op = false ∧ ltB p.rng.lo q.rng.hi = false := by
  have h1 := onePc_iff.1 (rightP_all (rightP_tail h) p hp)
  exact (catK_apart h (catK_some hp (hasR_lo h1.1) h1.2.1)).2
theorem LeftP.ends {a k : List Pc} {pre es : List (List UInt8)} {e : List UInt8} (h : LeftP a k pre (e :: es)) (hu : UpE (e :: es)) : ∀ p ∈ passP e k, p.rng.op = false → ltB e p.rng.hi = true := by
  have hue := (List.pairwise_cons.1 hu).1
  have hge : ∀ x ∈ e :: es, ltB x e = false := fun x hx => by
    rcases List.mem_cons.1 hx with rfl | hx
    · exact ltB_irrefl _
    · exact ltB_asymm (hue x hx)
  cases k with
  | nil => intro p hp; cases hp
  | cons q k =>
    have hfar : ltB q.rng.hi e = false → ∀ p ∈ k, p.rng.op = false → ltB e p.rng.hi = true := fun hq p hp ho => by
      obtain ⟨h1, h2⟩ := rightP_behind h.right hp
      have h3 := onePc_iff.1 (rightP_all (rightP_tail h.right) p hp)
      exact ltB_of_le_of_lt (leB_trans hq h2) (rightR_lt h3.1 ho)
    intro p hp ho
    cases hd : (!q.rng.op && !ltB e q.rng.hi) with
    | true =>
      rw [passP_yes hd] at hp
      rw [Bool.and_eq_true, Bool.not_eq_true'] at hd
      exact hfar (hge _ (h.his q (by simp) hd.1)) p hp ho
    | false =>
      rw [passP_no hd] at hp
      rcases List.mem_cons.1 hp with rfl | hp
      · rw [ho] at hd
        cases hl : ltB e p.rng.hi with
        | true => rfl
        | false => rw [hl] at hd; cases hd
      · have h1 := (rightP_behind h.right hp).1
        exact hfar (hge _ (h.his q (by simp) h1)) p hp ho
theorem LeftP.step {a k : List Pc} {pre es : List (List UInt8)} {e : List UInt8} (h : LeftP a k pre (e :: es)) (hu : UpE (pre ++ e :: es)) : LeftP a (passP e k) (pre ++ [e]) es ∧ firstP e (passP e k) = catK a e := by
  obtain ⟨-, hue, hpe⟩ := List.pairwise_append.1 hu
  have hends := h.ends hue
  have hsub : ∀ p ∈ passP e k, p ∈ k := fun p hp => by
    cases k with
    | nil => exact hp
    | cons q k =>
      cases hd : (!q.rng.op && !ltB e q.rng.hi) with
      | true => rw [passP_yes hd] at hp; exact List.mem_cons_of_mem _ hp
      | false => rw [passP_no hd] at hp; exact hp
  have hR : rightP (passP e k) = true := by
    have h1 := h.right
    cases k with
    | nil => rfl
    | cons q k =>
      cases hd : (!q.rng.op && !ltB e q.rng.hi) with
      | true => rw [passP_yes hd]; exact rightP_tail h1
      | false => rw [passP_no hd]; exact h1
  have hsame : ∀ s, (∀ x ∈ pre ++ [e], ltB s x = false) → catK (passP e k) s = catK a s := fun s hs => by
    rw [← h.same s fun x hx => hs x (List.mem_append.2 (.inl hx))]
    have hse := hs e (by simp)
    cases k with
    | nil => rfl
    | cons q k =>
      cases hd : (!q.rng.op && !ltB e q.rng.hi) with
      | true =>
        rw [passP_yes hd]
        rw [Bool.and_eq_true, Bool.not_eq_true', Bool.not_eq_true'] at hd
        rw [catK_rest (hasR_past hd.1 hd.2 hse)]
      | false => rw [passP_no hd]
  refine ⟨⟨hR, hsame, fun p hp ho => ?_⟩, ?_⟩
  · rcases List.mem_cons.1 (h.his p (hsub p hp) ho) with e1 | h2
    · have := hends p hp ho
      rw [e1, ltB_irrefl] at this; cases this
    · exact h2
  · rw [← hsame e fun x hx => by
      rcases List.mem_append.1 hx with hx | hx
      · exact ltB_asymm (hpe x hx e (List.mem_cons_self ..))
      · rw [List.mem_singleton] at hx; subst hx; exact ltB_irrefl _]
    generalize passP e k = m at hR hends
    cases m with
    | nil => rfl
    | cons q m =>
      show setP q e = setP q e ++ catK m e
      have : catK m e = [] := by
        cases hc : catK m e with
        | nil => rfl
        | cons x y =>
          obtain ⟨-, h2, h3⟩ := catK_apart hR (by rw [hc]; exact List.cons_ne_nil _ _)
          rw [hends q (by simp) h2] at h3; cases h3
      rw [this, List.append_nil]

/-! Lists made right, and joined. -/
theorem joinP_of (x y : List Pc) : joinP (ofP x) (ofP y) = ofP (x ++ y) := atP_unique (makeP_right ..) (makeP_right ..) fun s => by rw [joinP_at, ofP_at, ofP_at, ofP_at, atK_append]
theorem joinP_unique {a b u : List Pc} (ha : rightP a = true) (hb : rightP b = true) (h : rightP u = true) (hs : ∀ s, catK u s = makeS 1 (catK a s) (catK b s)) : u = joinP a b :=
  makeP_unique h fun s => by rw [atK_right h, hs, whatP1, atK_right ha, atK_right hb]
theorem lessP_unique {a b u : List Pc} (ha : rightP a = true) (hb : rightP b = true) (h : rightP u = true) (hs : ∀ s, catK u s = makeS 3 (catK a s) (catK b s)) : u = lessP a b :=
  makeP_unique h fun s => by rw [atK_right h, hs, whatP2, atK_right ha, atK_right hb]
theorem joinP_cat {a b : List Pc} (ha : rightP a = true) (hb : rightP b = true) (s : List UInt8) : catK (joinP a b) s = makeS 1 (catK a s) (catK b s) := by
  rw [joinP, makeP_cat, whatP1, atK_right ha, atK_right hb]
theorem lessP_cat {a b : List Pc} (ha : rightP a = true) (hb : rightP b = true) (s : List UInt8) : catK (lessP a b) s = makeS 3 (catK a s) (catK b s) := by
  rw [lessP, makeP_cat, whatP2, atK_right ha, atK_right hb]
theorem lessP_of (a b : List Pc) : lessP (ofP a) (ofP b) = lessP a b := atP_unique (makeP_right ..) (makeP_right ..) fun s => by rw [lessP_at, lessP_at, ofP_at, ofP_at]
theorem ofP_right (k : List Pc) : rightP (ofP k) = true := makeP_right ..
theorem makeS_nils (op : Int) (h : op = 1 ∨ op = 3) : makeS op [] [] = [] := by
  rcases h with rfl | rfl
  · exact ofS_nil
  · exact makeS_less.2 fun r n h => h
theorem makeS_no1 {a : List Kn} (h : rightS a = true) : makeS 1 [] a = a := by rw [makeS_nil1, ofS_self h]
theorem makeS_no2 {a : List Kn} (h : rightS a = true) : makeS 1 a [] = a := by rw [makeS_nil2, ofS_self h]
theorem makeS_less0 {a : List Kn} (h : rightS a = true) : makeS 3 a [] = a := (makeS_unique h fun r n => by rw [gC3, hasK_nil, Bool.not_false, Bool.and_true]).symm
theorem makeS_less1 (a : List Kn) : makeS 3 [] a = [] := makeS_less.2 fun r n h => by rw [hasK_nil] at h; cases h
/-- A piece with its set made right. -/
def normPc (p : Pc) : Pc := ⟨p.rng, ofS p.set⟩
def tidyP (k : List Pc) : List Pc := (k.map normPc).filter onePc
theorem tidyP_take {k : List Pc} {j : Nat} {p : Pc} (h : k[j]? = some p) : tidyP (k.take (j + 1)) = tidyP (k.take j) ++ (match onePc (normPc p) with | true => [normPc p] | false => []) := by
  unfold tidyP
  rw [List.take_add_one, h, List.map_append, List.filter_append]
  cases hp : onePc (normPc p) <;> simp [hp]
theorem normPc_rng (p : Pc) : (normPc p).rng = p.rng := by simp only [normPc]
theorem normPc_set (p : Pc) : (normPc p).set = ofS p.set := by simp only [normPc]
theorem hasK_norm (p : Pc) (s : List UInt8) (r n : Int) : hasK (match onePc (normPc p) with | true => setP (normPc p) s | false => []) r n = hasK (setP p s) r n := by
  cases hr : hasR p.rng s with
  | false =>
    have h2 : setP (normPc p) s = [] := setP_no (by rw [normPc_rng]; exact hr)
    rw [h2, setP_no hr]
    cases onePc (normPc p) <;> rfl
  | true =>
    have h2 : setP (normPc p) s = ofS p.set := by rw [← normPc_set]; exact setP_yes (by rw [normPc_rng]; exact hr)
    rw [h2, setP_yes hr]
    cases hp : onePc (normPc p) with
    | true => exact ofS_has p.set r n
    | false =>
      have h0 : ofS p.set = [] := by
        cases hs : ofS p.set with
        | nil => rfl
        | cons x y =>
          have h1 : (normPc p).set ≠ [] := by rw [normPc_set, hs]; exact List.cons_ne_nil _ _
          have : onePc (normPc p) = true := onePc_iff.2 ⟨by rw [normPc_rng]; exact hasR_right (r := p.rng) hr, h1, by rw [normPc_set]; exact ofS_right p.set⟩
          rw [hp] at this; cases this
      show hasK [] r n = hasK p.set r n
      rw [← ofS_has p.set, h0]
theorem tidyP_cons (p : Pc) (k : List Pc) (s : List UInt8) : catK (tidyP (p :: k)) s = (match onePc (normPc p) with | true => setP (normPc p) s | false => []) ++ catK (tidyP k) s := by
  unfold tidyP
  rw [List.map_cons]
  cases hp : onePc (normPc p) with
  | true => rw [List.filter_cons_of_pos hp, catK]
  | false => rw [List.filter_cons_of_neg (by rw [hp]; simp)]; rfl
theorem tidyP_has : ∀ (k : List Pc) (s : List UInt8) (r n : Int), hasK (catK (tidyP k) s) r n = hasK (catK k s) r n
  | [], _, _, _ => rfl
  | p :: k, s, r, n => by
    rw [tidyP_cons, catK, hasK_append, hasK_append, hasK_norm, tidyP_has k s r n]
theorem tidyP_of (k : List Pc) : ofP (tidyP k) = ofP k := ofP_iff.2 fun s => ofS_iff.2 fun r n => tidyP_has k s r n
theorem one_of {p : Pc} (h : onePc p = true) : rightP [p] = true := h

/-! Restricted, side by side. -/
def valP (k : List Pc) (l : List Rng) (s : List UInt8) : List Kn := match hasL l s with
  | true => catK k s
  | false => []
def meetD (dn : List Pc) (p : Pc) (r : Rng) : List Pc := match meetR p.rng r with
  | some m => putP dn m p.set
  | none => dn
def rstP : Nat → List Pc → List Pc → List Rng → List Pc
  | 0, dn, _, _ => dn
  | _ + 1, dn, [], _ => dn
  | _ + 1, dn, _ :: _, [] => dn
  | n + 1, dn, p :: k, r :: l => match decide (endsR p.rng r < 0) with
    | true => rstP n (meetD dn p r) k (r :: l)
    | false => rstP n (meetD dn p r) (p :: k) l
theorem rstP_end1 (n : Nat) (dn : List Pc) (l : List Rng) : rstP n dn [] l = dn := by cases n <;> rfl
theorem rstP_end2 (n : Nat) (dn k : List Pc) : rstP n dn k [] = dn := by cases n <;> cases k <;> rfl
theorem rstP_left {n : Nat} {dn k : List Pc} {p : Pc} {r : Rng} {l : List Rng} (h : decide (endsR p.rng r < 0) = true) : rstP (n + 1) dn (p :: k) (r :: l) = rstP n (meetD dn p r) k (r :: l) := by rw [rstP, h]
theorem rstP_right {n : Nat} {dn k : List Pc} {p : Pc} {r : Rng} {l : List Rng} (h : decide (endsR p.rng r < 0) = false) : rstP (n + 1) dn (p :: k) (r :: l) = rstP n (meetD dn p r) (p :: k) l := by rw [rstP, h]
theorem meetD_len (dn : List Pc) (p : Pc) (r : Rng) : (meetD dn p r).length ≤ dn.length + 1 := by
  unfold meetD
  cases meetR p.rng r with
  | none => exact Nat.le_succ _
  | some m => exact putP_len ..
end Go.Proofs.YtaodifpnfejbbaaGreat

/-
  Layer 15 (know), the program: rows of pieces, and of sets, as the library makes them: copied, one behind the other, made empty with room.
-/
namespace Go.Proofs.YtaodifpnfejbbaaGreat
open Go.RowKit

/-- make([]T, 0, n). -/
theorem run_make_k {P : Program} {α : Type} (k : Kind P α) (w : World) (base c : Nat) (hc : c ≤ 1000000) (hby : k.bytes ≤ 1000) (hb : base ≤ w.heap.size) :
    ∃ w', (Instr.makeSlice k.ty (.int .i64 0) (.int .i64 (c : Int))).run P w = .ok (.slice (some ⟨w.heap.size, 0, none⟩) 0 c) w' ∧ k.Own w' base (.slice (some ⟨w.heap.size, 0, none⟩) 0 c) [] ∧ Below w.heap.size w w' := by
  obtain ⟨i0, hi0, hz0, hz1, hz2⟩ := info_parts k.info
  obtain ⟨w', h1, h2, h3⟩ := run_make_own (P := P) w base k.ty k.el i0 k.zero k.size k.under hi0 hz0 hz1 .i64 .i64 c (by rw [hz2]; have := Nat.mul_le_mul hby hc; omega) (by unfold maxLen; omega) hb
  exact ⟨w', h1, Kind.Own.of_row (n := 0) h2, (Below.refl _ _).grown h3 (Nat.le_refl _) (fun g hg => by cases hg)⟩
theorem own_fresh {P : Program} {α : Type} {k : Kind P α} (w : World) : k.Own (w.alloc (.cells #[] k.el)) w.heap.size (.slice (some ⟨w.heap.size, 0, none⟩) 0 0) [] :=
  Kind.Own.of_row (n := 0) ⟨by simp [Kind.row], .inr ⟨w.heap.size, 0, #[], rfl, Nat.le_refl _, heap_new w _ _ rfl, Nat.le_refl _, Nat.zero_le _, by simp, by simp [Kind.row]⟩⟩
theorem row_nil {P : Program} {α : Type} {k : Kind P α} {l : List α} (h : k.row l = []) : l = [] := by
  have h1 := congrArg List.length h
  rw [k.row_len, List.length_nil] at h1
  have := k.pos
  cases l with
  | nil => rfl
  | cons x l => rw [List.length_cons] at h1; have := Nat.mul_pos (show 0 < l.length + 1 by omega) k.pos; omega
theorem rd_none {P : Program} {α : Type} {k : Kind P α} {w : World} {B c : Nat} {l : List α} (h : k.Rd w B none c l) : l = [] := by
  rcases h.row with h | ⟨b, o, h, _⟩
  · exact row_nil h
  · cases h
set_option maxHeartbeats 1000000 in
theorem kw_cloneP (A : Option Addr) (c n : Nat) (l : List Ps) (hn : n = l.length) (hnl : n ≤ 500000) (w : World) (hr : kPs.Rd w w.heap.size A c l) :
    Calls Tryz.prog 71 #[.slice A n c] w fun e w' => ∃ v, e = .returned v ∧ kPs.Own w' w.heap.size v l ∧ Below w.heap.size w w' := by
  have qT : ∀ (w : World) (a : Option Addr) (n c n' c' : Nat), (binOp .eql 22 (.slice a n c) (.slice none n' c')).run Tryz.prog w = .ok (.bool a.isNone) w := fun w a n c n' c' => Lib.run_eql_slice_nil w _ _ a n c n' c' Tryz.underlying22
  cases A with
  | none =>
    obtain rfl := rd_none hr
    obtain rfl : n = 0 := hn
    clear hr
    go_enter Tryz.func71, Tryz.ntmps71
    go_wp2_with fail
    go_ret
    exact ⟨_, rfl, Kind.Own.nil _ _, Below.refl _ _⟩
  | some p =>
    have HO : Hid (kPs.Own (w.alloc (.cells #[] 44)) w.heap.size (.slice (some ⟨w.heap.size, 0, none⟩) 0 0) []) := own_fresh (k := kPs) w
    have HB := Lib.hid (below_new w (.cells #[] 44))
    have HR := Lib.hid (hr.call HB.out).row
    have HN := Lib.hid hn
    have HL := Lib.hid (show ([] : List Ps).length + l.length ≤ 1000000 by rw [List.length_nil]; omega)
    have HS := Lib.hid HB.out.size
    clear hn hr
    go_enter Tryz.func71, Tryz.ntmps71
    go_wp2_with (at_builtin; refine wpList_app_k kPs rfl (.tmp 5) (.tmp 6) rfl w.heap.size _ [] rfl HO.out _ (some p) c n l HN.out rfl HR.out HL.out (by decide) HS.out ?_; intro v3 w3 hown3 hg3 hb3 _; have HO3 := Lib.hid hown3; have HB3 := Lib.hid (HB.out.trans hb3); clear hown3 hb3 hg3)
    go_ret
    exact ⟨_, rfl, HO3.out, HB3.out⟩
set_option maxHeartbeats 1000000 in
theorem kw_cloneK (A : Option Addr) (c n : Nat) (l : List Ks) (hn : n = l.length) (hnl : n ≤ 500000) (w : World) (hr : kKs.Rd w w.heap.size A c l) :
    Calls Tryz.prog 72 #[.slice A n c] w fun e w' => ∃ v, e = .returned v ∧ kKs.Own w' w.heap.size v l ∧ Below w.heap.size w w' := by
  have qT : ∀ (w : World) (a : Option Addr) (n c n' c' : Nat), (binOp .eql 31 (.slice a n c) (.slice none n' c')).run Tryz.prog w = .ok (.bool a.isNone) w := fun w a n c n' c' => Lib.run_eql_slice_nil w _ _ a n c n' c' Tryz.underlying31
  cases A with
  | none =>
    obtain rfl := rd_none hr
    obtain rfl : n = 0 := hn
    clear hr
    go_enter Tryz.func72, Tryz.ntmps72
    go_wp2_with fail
    go_ret
    exact ⟨_, rfl, Kind.Own.nil _ _, Below.refl _ _⟩
  | some p =>
    have HO : Hid (kKs.Own (w.alloc (.cells #[] 61)) w.heap.size (.slice (some ⟨w.heap.size, 0, none⟩) 0 0) []) := own_fresh (k := kKs) w
    have HB := Lib.hid (below_new w (.cells #[] 61))
    have HR := Lib.hid (hr.call HB.out).row
    have HN := Lib.hid hn
    have HL := Lib.hid (show ([] : List Ks).length + l.length ≤ 1000000 by rw [List.length_nil]; omega)
    have HS := Lib.hid HB.out.size
    clear hn hr
    go_enter Tryz.func72, Tryz.ntmps72
    go_wp2_with (at_builtin; refine wpList_app_k kKs rfl (.tmp 5) (.tmp 6) rfl w.heap.size _ [] rfl HO.out _ (some p) c n l HN.out rfl HR.out HL.out (by decide) HS.out ?_; intro v3 w3 hown3 hg3 hb3 _; have HO3 := Lib.hid hown3; have HB3 := Lib.hid (HB.out.trans hb3); clear hown3 hb3 hg3)
    go_ret
    exact ⟨_, rfl, HO3.out, HB3.out⟩
set_option maxHeartbeats 4000000 in
set_option maxRecDepth 100000 in
theorem kw_grow (n : Nat) (hn9 : n ≤ 500000) (w : World) :
    Calls Tryz.prog 140 #[.slice none 0 0, .int .i64 (n : Int)] w fun e w' => ∃ v, e = .returned v ∧ kPs.Own w' w.heap.size v [] ∧ Below w.heap.size w w' := by
  obtain ⟨i0, hi0, hz0, hz1, hz2⟩ := info_parts kPs.info
  have h1 : ¬ ((n : Int) < 0) := by omega
  by_cases h0 : n = 0
  · subst h0
    have fin : Hid (∃ v, (Ending.returned (.slice none 0 0) : Ending) = .returned v ∧ kPs.Own w w.heap.size v [] ∧ Below w.heap.size w w) := Lib.hid ⟨_, rfl, Kind.Own.nil _ _, Below.refl _ _⟩
    clear hi0 hz0 hz1 hz2
    go_enter Tryz.func140, Tryz.ntmps140
    go_wp2
    go_ret
    exact fin.out
  · have h4 : (n : Int) > 0 := by omega
    have hz2' : i0.bytes = 64 := hz2
    have hz1' : i0.size = 4 := hz1
    have hrz : ∀ ty, (Builtin.append_ #[22, 3] ty #[.slice none 0 0, .int .i64 (n : Int)]).run Tryz.prog w =
        .ok (.slice (some ⟨w.heap.size, 0, none⟩) n (grownCap w n 0 44)) (w.drew.alloc (.cells (Builtin.zeroCells kPs.zero.cells n ++ Builtin.zeroCells kPs.zero.cells (grownCap w n 0 44 - n)) 44)) := fun ty =>
      Lib.run_append_nil_zeros w 22 3 ty 44 i0 kPs.zero .i64 .i64 kPs.under Tryz.underlying3 hi0 hz0 n (by omega) (by omega) (by omega) (by rw [hz2']; omega)
    have hGn : n ≤ grownCap w n 0 44 := grownCap_ge w _ _ _
    have hGm : grownCap w n 0 44 ≤ maxLen := grownCap_le_maxLen w n 0 44 (by unfold maxLen; omega)
    obtain ⟨G, hG⟩ : ∃ G, G = grownCap w n 0 44 := ⟨_, rfl⟩
    rw [← hG] at hrz hGn hGm
    have hG63 : G ≤ 9223372036854775807 := by unfold maxLen at hGm; omega
    have K1 : ∀ W : World, (Instr.slice 22 (.slice none 0 0) none (some (.int .i64 0)) none).run Tryz.prog W = .ok (.slice none 0 0) W := fun W => by kernel_rfl
    have K2 : ∀ W : World, (Instr.slice 22 (.slice (some ⟨w.heap.size, 0, none⟩) n G) none (some (.int .i64 0)) none).run Tryz.prog W = .ok (.slice (some ⟨w.heap.size, 0, none⟩) 0 G) W := fun W => by
      have ht' : Tryz.prog.underlying 22 = some (.slice (Tryz.prog.elem 22)) := by simp [Program.elem, Tryz.underlying22]
      have hs : ∀ w, (sizeOf (Tryz.prog.elem 22)).run Tryz.prog w = .ok 4 w := fun w => by kernel_rfl
      rw [run_slice_h W 22 _ _ _ ht' .i64 _ (by omega) (by omega), hs]
      simp [Result.andThen, sliced, Addr.add]
    have zc (k : Nat) : (Builtin.zeroCells kPs.zero.cells k).size = k * 4 := size_zeroCells _ _
    obtain ⟨w2, hw2⟩ : ∃ w2, w2 = w.drew.alloc (.cells (Builtin.zeroCells kPs.zero.cells n ++ Builtin.zeroCells kPs.zero.cells (G - n)) 44) := ⟨_, rfl⟩
    rw [← hw2] at hrz
    have fin : Hid (∃ v, (Ending.returned (.slice (some ⟨w.heap.size, 0, none⟩) 0 G) : Ending) = .returned v ∧ kPs.Own w2 w.heap.size v [] ∧ Below w.heap.size w w2) := by
      rw [hw2]
      refine ⟨_, rfl, ?_, ((Below.refl w.heap.size w).drew).alloc (Nat.le_refl _) _⟩
      refine Kind.Own.of_row (n := 0) ⟨by simp [Kind.row], .inr ⟨w.heap.size, G, _, rfl, Nat.le_refl _, heap_new w.drew _ _ rfl, by omega, hGm, ?_, ?_⟩⟩
      · rw [Array.size_append, zc, zc]
        show n * 4 + (G - n) * 4 = G * 4
        omega
      · simp [Kind.row]
    clear hG hGm zc hz0 hz1 hz2 hi0 hw2 hz1' hz2'
    go_enter Tryz.func140, Tryz.ntmps140
    go_wp2_with (at_builtin; refine Lib.wpList_append_run _ rfl _ _ _ _ rfl _ _ rfl rfl _ _ (hrz _) ?_)
    go_ret
    exact fin.out
theorem kw_flat_len {ls : List (List Pc)} (h : ∀ l ∈ ls, l.length ≤ 40000) (k : Nat) : (ls.take k).flatten.length ≤ k * 40000 := by
  induction k generalizing ls with
  | zero => simp
  | succ k ih =>
    cases ls with
    | nil => simp
    | cons l ls =>
      have h1 := ih (ls := ls) fun m hm => h m (List.mem_cons_of_mem _ hm)
      have h2 := h l (List.mem_cons_self ..)
      rw [List.take_succ_cons, List.flatten_cons, List.length_append]
      omega
theorem take_flatP {ls : List (List Pc)} {k : Nat} {l : List Pc} (h : ls[k]? = some l) : (ls.take (k + 1)).flatten = (ls.take k).flatten ++ l := by
  rw [List.take_add_one, h, List.flatten_append]; simp
/-- Where the rows of a row lie. -/
theorem rows_atP {w : World} {A : Option Addr} {c : Nat} {ls : List (List Pc)} (h : RdPP w A c ls) {k : Nat} {l : List Pc} (hl : ls[k]? = some l) :
    ∃ b o A1 n1 c1, A = some ⟨b, o, none⟩ ∧ b < w.heap.size ∧ w.cell? ⟨b, o + k, none⟩ = some (.slice A1 n1 c1) ∧ n1 = l.length ∧ RdPc w A1 c1 l := by
  obtain ⟨b, o, e1, -, e2, e3⟩ := Deep.Rd.at_ h (by have := (List.getElem?_eq_some_iff.1 hl).1; omega)
  obtain ⟨y, ⟨g1, g2⟩, g3⟩ := e3 k l hl
  have h6 := g3 0 _ rfl
  rw [show dSlP.k.size = 1 from rfl, Nat.mul_one, Nat.add_zero] at h6
  exact ⟨b, o, y.A, y.n, y.c, e1, e2, h6, g1, g2⟩
theorem RdPP.room {w : World} {A : Option Addr} {c : Nat} {ls : List (List Pc)} (h : RdPP w A c ls) : ls.length ≤ c := Deep.Rd.room h
set_option maxHeartbeats 4000000 in
set_option maxRecDepth 100000 in
theorem kw_concat (A : Option Addr) (c m : Nat) (ls : List (List Pc)) (hm : m = ls.length) (h9 : m ≤ 10) (hl : ∀ l ∈ ls, l.length ≤ 40000) (w : World) (hr : RdPP w A c ls) :
    Calls Tryz.prog 126 #[.slice A m c] w fun e w' => ∃ v, e = .returned v ∧ dPc.Own w' w.heap.size (fun _ => True) v ls.flatten ∧ Below w.heap.size w w' := by
  have HM := Lib.hid hm
  have HR := Lib.hid hr
  have HL := Lib.hid hl
  have hmc : m ≤ c := by rw [hm]; exact hr.room
  clear hm hr hl
  go_enter Tryz.func126, Tryz.ntmps126
  go_wp2_with fail
  go_loop [3, 11] (fun s i => ∃ k t : Nat, k ≤ m ∧ Hid (t = (ls.take k).flatten.length) ∧ t ≤ k * 40000 ∧ s = .int .i64 t ∧ i = .int .i64 k) (fun _ i => m - (intOf i).toNat)
  case atStart => exact ⟨0, 0, by omega, rfl, by omega, rfl, rfl⟩
  case round =>
    obtain ⟨k, t, hk, HT, ht, rfl, rfl⟩ := hrel
    by_cases hlt : k < m
    · obtain ⟨l, hg, hd, hlm⟩ := get_some (l := ls) (k := k) (by have := HM.out; omega)
      obtain ⟨b, o, A1, n1, c1, rfl, hb1, c0, hn1, -⟩ := rows_atP HR.out hg
      have HT2 := Lib.hid (show t + n1 = (ls.take (k + 1)).flatten.length by rw [take_flatP hg, List.length_append, ← HT.out, hn1])
      have hn9 : n1 ≤ 40000 := by rw [hn1]; exact HL.out l hlm
      have t1 : decide (((t + n1 : Nat) : Int) < 0) = false := decide_eq_false (by omega)
      have t2 : decide ((t : Int) + (n1 : Int) < 0) = false := decide_eq_false (by omega)
      clear hg hd hlm hn1 HT
      go_wp2_with fail
      go_round
      case rel => exact ⟨k + 1, t + n1, by omega, HT2, by omega, by go_num, by go_num⟩
      case measure => simp [intOf]; omega
    · obtain rfl : k = m := by omega
      have ht9 : t ≤ 500000 := by omega
      have G := Lib.hid (kw_grow t ht9 w)
      clear hlt HT
      go_wp2_with ((with_reducible refine G.out.mono ?_); rintro e w1 ⟨v, rfl, hown, hq⟩; have HO := Lib.hid (show dPc.Own w1 w.heap.size (fun _ => True) v [] from ⟨[], hown, .nil _ _⟩); have HB := Lib.hid hq; clear hown hq)
      go_loopw [6, 27] (fun v i wr => ∃ j : Nat, j ≤ k ∧ Hid (dPc.Own wr w.heap.size (fun _ => True) v (ls.take j).flatten) ∧ i = .int .i64 j ∧ Hid (Below w.heap.size w wr)) (fun _ i _ => k - (intOf i).toNat)
      case atStart => exact ⟨0, by omega, HO.out, rfl, HB.out⟩
      case round =>
        obtain ⟨j, hj, HO, rfl, HB⟩ := hrel
        by_cases hlt : j < k
        · obtain ⟨l, hg, hd, hlm⟩ := get_some (l := ls) (k := j) (by have := HM.out; omega)
          obtain ⟨b, o, A1, n1, c1, rfl, hb1, c0, hn1, hrd⟩ := rows_atP HR.out hg
          replace c0 := ((bcell HB.out).1 _ _ hb1).trans c0
          replace hb1 := Nat.lt_of_lt_of_le hb1 HB.out.size
          have HX := Lib.hid (take_flatP hg)
          obtain ⟨ys, hys, hyall⟩ := (Deep.Rd.lives hrd).keep (keptS_under HB.out fun g h => h.2)
          obtain ⟨bs, ho, hall⟩ := HO.out
          have HLE := Lib.hid (show bs.length + ys.length ≤ 1000000 by
            have h1 := kw_flat_len HL.out j
            have h2 := HL.out l hlm
            have h3 := hall.1
            have h4 := hyall.1
            omega)
          have HKO := Lib.hid ho
          have HKA := Lib.hid hall
          have HYA := Lib.hid hyall
          have HRW := Lib.hid (And.intro (hn1.trans hyall.1.symm) hys.row.at_)
          have hs := HB.out.size
          clear hg hd hlm hn1 ho hall hys hyall hrd HO
          go_wp2_with (at_builtin; refine wpList_app_k kPs rfl (.tmp 31) (.tmp 32) rfl w.heap.size _ bs rfl HKO.out _ A1 c1 n1 ys HRW.out.1 rfl HRW.out.2 HLE.out (by decide) hs ?_; intro v3 w3 hown3 hg3 hb3 hv3; have HO3 := Lib.hid (Deep.Own.app HKA.out (HYA.out.mono fun g h => ⟨trivial, fun e => by have := (HKO.out.lt g e).1; have := h.2; omega⟩) hown3 hg3 hv3); have HB3 := Lib.hid (HB.out.trans hb3); clear hown3 hb3 hg3 hv3)
          go_roundw
          case rel => exact ⟨j + 1, by omega, show dPc.Own _ _ _ _ _ from by rw [HX.out]; exact HO3.out, by go_num, HB3⟩
          case measure => simp [intOf]; omega
        · obtain rfl : j = k := by omega
          have HF := Lib.hid (show (ls.take j).flatten = ls.flatten by rw [List.take_of_length_le (by have := HM.out; omega)])
          go_wp2_with fail
          go_ret
          exact ⟨_, rfl, by rw [← HF.out]; exact HO.out, HB.out⟩
end Go.Proofs.YtaodifpnfejbbaaGreat

/-
  An array of sixteen things that take a cell each, in a block; sixteen rows of runs of the call's own, apart from each other.
-/
namespace Go.Proofs.YtaodifpnfejbbaaGreat
open Go.RowKit

/-- Another thing at a place. -/
def upd {α : Type} (V : Nat → α) (k : Nat) (u : α) : Nat → α := fun j => if j = k then u else V j
theorem upd_at {α : Type} (V : Nat → α) (k : Nat) (u : α) : upd V k u k = u := if_pos rfl
theorem upd_far {α : Type} (V : Nat → α) {k j : Nat} (u : α) (h : j ≠ k) : upd V k u j = V j := if_neg h
/-- What lies in a block of sixteen cells. -/
structure GrAt (w : World) (g : Nat) (V : Nat → Value) : Prop where
  cell : ∀ k, k < 16 → w.cell? ⟨g, k, none⟩ = some (V k)
  free : ∀ k, w.frozen? ⟨g, k, none⟩ = false
theorem GrAt.lt {w : World} {g : Nat} {V : Nat → Value} (h : GrAt w g V) : g < w.heap.size := World.block_lt_of_cell? w _ (h.cell 0 (by omega))
theorem GrAt.below {w w' : World} {g : Nat} {V : Nat → Value} (h : GrAt w g V) (hb : Below w.heap.size w w') : GrAt w' g V := by
  obtain ⟨hc, hf⟩ := bcell hb
  have hl := h.lt
  exact ⟨fun k hk => (hc _ _ hl).trans (h.cell k hk), fun k => (hf _ _ hl).trans (h.free k)⟩
theorem GrAt.low {w w' : World} {g B : Nat} {V : Nat → Value} (h : GrAt w g V) (hb : Below B w w') (hg : g < B) : GrAt w' g V := by
  refine ⟨fun k hk => (hb.cell (p := ⟨g, k, none⟩) hg).trans (h.cell k hk), fun k => ?_⟩
  have h1 := h.free k
  unfold World.frozen? at h1 ⊢
  rw [hb.block g hg]; exact h1
theorem GrAt.grown {w w' : World} {row : Option Nat} {g : Nat} {V : Nat → Value} (h : GrAt w g V) (hg : w.grownBy w' row) (hne : some g ≠ row) : GrAt w' g V :=
  ⟨fun k hk => hg.cell (h.cell k hk) hne, fun k => (hg.frozen_far ⟨g, k, none⟩ h.lt hne).trans (h.free k)⟩
theorem GrAt.alloc {w : World} {g : Nat} {V : Nat → Value} (h : GrAt w g V) (o : Obj) : GrAt (w.alloc o) g V := h.below (below_new w o)
theorem GrAt.drew {w : World} {g : Nat} {V : Nat → Value} (h : GrAt w g V) : GrAt w.drew g V := ⟨h.cell, h.free⟩
theorem GrAt.other {w : World} {g g' k : Nat} {V : Nat → Value} (h : GrAt w g V) (hne : g' ≠ g) (u : Value) : GrAt (w.setCell ⟨g', k, none⟩ u) g V :=
  h.grown (grownBy_set _ _ _ _) (fun e => hne (by injection e with e; exact e.symm))
theorem GrAt.set {w : World} {g k : Nat} {V : Nat → Value} (h : GrAt w g V) (hk : k < 16) (u : Value) : GrAt (w.setCell ⟨g, k, none⟩ u) g (upd V k u) := by
  refine ⟨fun j hj => ?_, fun j => ?_⟩
  · by_cases e : j = k
    · subst e
      rw [upd_at]
      exact World.cell?_setCell_same w _ _ (h.cell j hj)
    · rw [upd_far V u e, World.cell?_setCell_other w _ _ _ (fun e' => e (by injection e' with _ e'; exact e'.symm))]
      exact h.cell j hj
  · have h1 := h.free j
    obtain ⟨cs, t, f, hb⟩ : ∃ cs t f, w.heap[g]? = some (.cells cs t f) := by
      have h2 := h.cell 0 (by omega)
      unfold World.cell? at h2
      split at h2
      · exact ⟨_, _, _, by assumption⟩
      · cases h2
    unfold World.frozen? at h1 ⊢
    rw [hb] at h1
    rw [heap_setCell_self hb]
    exact h1
/-- A new block of sixteen cells. -/
abbrev grO (V : Nat → Value) (t : TypeId) : Obj := .cells #[V 0, V 1, V 2, V 3, V 4, V 5, V 6, V 7, V 8, V 9, V 10, V 11, V 12, V 13, V 14, V 15] t
theorem lt16 {k : Nat} (hk : k < 16) : k = 0 ∨ k = 1 ∨ k = 2 ∨ k = 3 ∨ k = 4 ∨ k = 5 ∨ k = 6 ∨ k = 7 ∨ k = 8 ∨ k = 9 ∨ k = 10 ∨ k = 11 ∨ k = 12 ∨ k = 13 ∨ k = 14 ∨ k = 15 := by omega
theorem grAt_new (w : World) (V : Nat → Value) (t : TypeId) : GrAt (w.alloc (grO V t)) w.heap.size V := by
  have hb := heap_new w (grO V t) _ rfl
  refine ⟨fun k hk => ?_, fun k => ?_⟩
  · rw [cell_of_row _ _ _ _ _ _ hb]
    rcases lt16 hk with rfl | rfl | rfl | rfl | rfl | rfl | rfl | rfl | rfl | rfl | rfl | rfl | rfl | rfl | rfl | rfl <;> rfl
  · unfold World.frozen?; rw [hb]; simp
theorem GrAt.congr {w : World} {g : Nat} {V W : Nat → Value} (h : GrAt w g V) (e : ∀ k, k < 16 → W k = V k) : GrAt w g W := ⟨fun k hk => by rw [e k hk]; exact h.cell k hk, h.free⟩

/-- Sixteen rows of runs of the call's own, apart from each other. -/
structure RowsG (w : World) (base : Nat) (V : Nat → Value) (L : Nat → List Rn) : Prop where
  own : ∀ k, k < 16 → kRn.Own w base (V k) (L k)
  apart : ∀ i j b, i < 16 → j < 16 → i ≠ j → (V i).ownBlock = some b → (V j).ownBlock ≠ some b
theorem RowsG.below {w w' : World} {base : Nat} {V : Nat → Value} {L : Nat → List Rn} (h : RowsG w base V L) (hb : Below w.heap.size w w') : RowsG w' base V L := ⟨fun k hk => (h.own k hk).below hb, h.apart⟩
theorem RowsG.mono {w : World} {base base' : Nat} {V : Nat → Value} {L : Nat → List Rn} (h : RowsG w base V L) (hb : base' ≤ base) : RowsG w base' V L := ⟨fun k hk => (h.own k hk).mono hb, h.apart⟩
theorem RowsG.alloc {w : World} {base : Nat} {V : Nat → Value} {L : Nat → List Rn} (h : RowsG w base V L) (o : Obj) : RowsG (w.alloc o) base V L := h.below (below_new w o)
theorem RowsG.congr {w : World} {base : Nat} {V : Nat → Value} {L M : Nat → List Rn} (h : RowsG w base V L) (e : ∀ k, k < 16 → M k = L k) : RowsG w base V M := ⟨fun k hk => by rw [e k hk]; exact h.own k hk, h.apart⟩
/-- A store into a block that no row lies in. -/
theorem RowsG.set {w : World} {base g k : Nat} {V : Nat → Value} {L : Nat → List Rn} (h : RowsG w base V L) (hg : ∀ j, j < 16 → (V j).ownBlock ≠ some g) (u : Value) : RowsG (w.setCell ⟨g, k, none⟩ u) base V L :=
  ⟨fun j hj => (h.own j hj).kept (grownBy_set _ _ _ _) (.inr (hg j hj)), h.apart⟩
theorem rowsG_nil (w : World) (base : Nat) : RowsG w base (fun _ => .slice none 0 0) (fun _ => []) := ⟨fun _ _ => Kind.Own.nil _ _, fun i j b _ _ _ h => by cases h⟩
/-- A row has been appended to. -/
theorem RowsG.app {w w' : World} {base k : Nat} {V : Nat → Value} {L : Nat → List Rn} {v' : Value} {l : List Rn} (h : RowsG w base V L) (hk : k < 16) (ho : kRn.Own w' base v' l) (hg : w.grownBy w' (V k).ownBlock) (hv : v'.ownBlock = (V k).ownBlock ∨ v'.ownBlock = some w.heap.size) : RowsG w' base (upd V k v') (upd L k l) := by
  refine ⟨fun j hj => ?_, fun i j b hi hj hne hb => ?_⟩
  · by_cases e : j = k
    · subst e; rw [upd_at, upd_at]; exact ho
    · rw [upd_far _ _ e, upd_far _ _ e]
      refine (h.own j hj).kept hg ?_
      cases hb : (V j).ownBlock with
      | none => exact .inl rfl
      | some b => exact .inr fun e' => h.apart j k b hj hk e hb e'.symm
  · by_cases e1 : i = k
    · subst e1
      rw [upd_at] at hb
      rw [upd_far _ _ (fun e => hne e.symm)]
      rcases hv with e | e
      · exact h.apart i j b hi hj hne (e ▸ hb)
      · rw [e] at hb
        injection hb with hb
        intro h3
        have := ((h.own j hj).lt b h3).2
        omega
    · rw [upd_far _ _ e1] at hb
      by_cases e2 : j = k
      · subst e2
        rw [upd_at]
        rcases hv with e | e
        · rw [e]; exact h.apart i j b hi hj hne hb
        · rw [e]
          intro h3
          injection h3 with h3
          have := ((h.own i hi).lt b hb).2
          omega
      · rw [upd_far _ _ e2]; exact h.apart i j b hi hj hne hb
/-- A row has been made anew, behind all that was there. -/
theorem RowsG.new {w w' : World} {base k : Nat} {V : Nat → Value} {L : Nat → List Rn} {v' : Value} {l : List Rn} (h : RowsG w base V L) (hk : k < 16) (ho : kRn.Own w' w.heap.size v' l) (hb : Below w.heap.size w w') (hs : base ≤ w.heap.size) : RowsG w' base (upd V k v') (upd L k l) := by
  refine ⟨fun j hj => ?_, fun i j b hi hj hne hb => ?_⟩
  · by_cases e : j = k
    · subst e; rw [upd_at, upd_at]; exact ho.mono hs
    · rw [upd_far _ _ e, upd_far _ _ e]
      exact (h.own j hj).below hb
  · by_cases e1 : i = k
    · subst e1
      rw [upd_at] at hb
      rw [upd_far _ _ (fun e => hne e.symm)]
      intro h3
      have h1 := (ho.lt b hb).1
      have h2 := ((h.own j hj).lt b h3).2
      omega
    · rw [upd_far _ _ e1] at hb
      by_cases e2 : j = k
      · subst e2
        rw [upd_at]
        intro h3
        have h1 := (ho.lt b h3).1
        have h2 := ((h.own i hi).lt b hb).2
        omega
      · rw [upd_far _ _ e2]; exact h.apart i j b hi hj hne hb
theorem RowsG.congrV {w : World} {base : Nat} {V W : Nat → Value} {L : Nat → List Rn} (h : RowsG w base V L) (e : ∀ k, k < 16 → W k = V k) : RowsG w base W L :=
  ⟨fun k hk => by rw [e k hk]; exact h.own k hk, fun i j b hi hj hne hb => by rw [e j hj]; rw [e i hi] at hb; exact h.apart i j b hi hj hne hb⟩
/-- Sixteen slices. -/
abbrev slV (A : Nat → Option Addr) (n c : Nat → Nat) : Nat → Value := fun k => .slice (A k) (n k) (c k)
theorem RowsG.form {w : World} {base : Nat} {V : Nat → Value} {L : Nat → List Rn} (h : RowsG w base V L) (N : Nat → Nat) (hN : ∀ k, (L k).length = N k) : ∃ A c, ∀ k, k < 16 → slV A N c k = V k := by
  have h1 : ∀ k, ∃ p : Option Addr × Nat, k < 16 → .slice p.1 (N k) p.2 = V k := fun k => by
    by_cases hk : k < 16
    · obtain ⟨A, c, e, -⟩ := (h.own k hk).form
      exact ⟨(A, c), fun _ => by rw [e, hN]⟩
    · exact ⟨(none, 0), fun h => absurd h hk⟩
  exact ⟨fun k => (Classical.choose (h1 k)).1, fun k => (Classical.choose (h1 k)).2, fun k hk => Classical.choose_spec (h1 k) hk⟩
theorem RowsG.upd_off {k g : Nat} {w : World} {V : Nat → Value} {v' : Value} (h : ∀ j, j < 16 → (V j).ownBlock ≠ some g) (hg : g < w.heap.size) (hv : v'.ownBlock = (V k).ownBlock ∨ v'.ownBlock = some w.heap.size) (hk : k < 16) : ∀ j, j < 16 → (upd V k v' j).ownBlock ≠ some g := fun j hj => by
  by_cases e : j = k
  · subst e; rw [upd_at]
    rcases hv with e | e
    · rw [e]; exact h j hj
    · rw [e]; intro h1; injection h1 with h1; omega
  · rw [upd_far _ _ e]; exact h j hj
end Go.Proofs.YtaodifpnfejbbaaGreat

/-
  Layer 14 (vset), the program: the set of sixteen rows.
-/
namespace Go.Proofs.YtaodifpnfejbbaaGreat
open Go.RowKit

/-- Sixteen values as one. -/
abbrev grV (V : Nat → Value) : Value := .agg #[V 0, V 1, V 2, V 3, V 4, V 5, V 6, V 7, V 8, V 9, V 10, V 11, V 12, V 13, V 14, V 15]
theorem idx16 (V : Nat → Value) {k : Nat} (hk : k < 16) (w : World) : (Instr.index 106 (grV V) (.int .i64 (k : Int))).run Tryz.prog w = .ok (V k) w := by
  rcases lt16 hk with rfl | rfl | rfl | rfl | rfl | rfl | rfl | rfl | rfl | rfl | rfl | rfl | rfl | rfl | rfl | rfl <;> kernel_rfl
/-- A row of runs that was there holds as a new Known behind it. -/
theorem holds_old {w w2 : World} {n c : Nat} {T : Nat → Prop} {A : Option Addr} {l : List Rn} {v : Value} {ks : List Ks} (ho : kKs.Own w2 w.heap.size v ks) (hr : kRn.RdS w T A c l) (hb : Below w.heap.size w w2) (hn : n = l.length) (r : Int) : dKn.rel w2 (fun g => (T g ∨ w.heap.size ≤ g) ∧ v.ownBlock ≠ some g) ⟨r, A, n, c⟩ ⟨r, l⟩ :=
  ⟨rfl, hn, (hr.lives.keep (keptS_under hb fun g h => h.2)).mono fun g hg => ⟨.inl hg.1, fun e => by have := (ho.lt g e).1; have := hg.2; omega⟩⟩
set_option maxRecDepth 100000 in
set_option maxHeartbeats 4000000 in
theorem vs_set_new (T : Nat → Prop) (V : Nat → Value) (L : Nat → List Rn) (hV : ∀ k, k < 16 → ∃ A c, V k = .slice A (L k).length c) (f : Int → List Rn) (hf : ∀ k : Nat, f ((k : Int) + 1) = L k) (U : List Kn) (hU : colS f 16 = U) (N : Nat) (hN : U.length = N) (w : World) (hr : ∀ k A n c, k < 16 → V k = .slice A n c → kRn.RdS w T A c (L k)) :
    Calls Tryz.prog 93 #[grV V] w (dKn.Ret w T N U) := by
  have HV := Lib.hid hV
  have HF := Lib.hid hf
  have HU := Lib.hid hU
  have HN := Lib.hid hN
  have HR := Lib.hid hr
  clear hV hf hU hN hr
  go_enter Tryz.func93, Tryz.ntmps93
  go_wp2_with fail
  go_loopw [3, 7] (fun v i wr => ∃ k : Nat, k ≤ 16 ∧ Hid (dKn.Own wr w.heap.size (fun g => T g ∨ w.heap.size ≤ g) v (colS f k)) ∧ i = .int .i64 (k : Int) ∧ Hid (Below w.heap.size w wr)) (fun _ i _ => 16 - (intOf i).toNat)
  case atStart => exact ⟨0, by omega, Deep.Own.nil _ _ _, rfl, below_new _ _⟩
  case round =>
    obtain ⟨k, hk, HO, rfl, HW⟩ := hrel
    by_cases hlt : k < 16
    · have hd : decide ((k : Int) < 16) = true := decide_eq_true (by omega)
      have HS := Lib.hid (show colS f (k + 1) = colS f k ++ putK ((k : Int) + 1) (f ((k : Int) + 1)) from rfl)
      obtain ⟨A3, c3, hv3⟩ := HV.out k hlt
      obtain ⟨N3, hN3⟩ : ∃ N, (L k).length = N := ⟨_, rfl⟩
      rw [hN3] at hv3
      have hrd := HR.out k A3 N3 c3 hlt hv3
      have hmx := rd_maxC hrd.rd hN3.symm
      have I0 := idx16 V hlt
      rw [hv3] at I0
      have HRD := Lib.hid hrd
      have hlk := colS_len f k
      obtain ⟨ks, ho, hall⟩ := HO.out
      have hlen := hall.1
      have HKO := Lib.hid ho
      have HKA := Lib.hid hall
      have HLE := Lib.hid (show ks.length + [(⟨(k : Int) + 1, none, 0, 0⟩ : Ks)].length ≤ 1000000 by rw [hlen, List.length_singleton]; omega)
      by_cases h0 : N3 = 0
      · have HP := Lib.hid (show putK ((k : Int) + 1) (f ((k : Int) + 1)) = [] by rw [HF.out, List.eq_nil_of_length_eq_zero (hN3.trans h0)]; rfl)
        subst h0
        clear hN3 ho hall hlen hlk HLE HKO HKA hrd hv3 HRD hmx
        go_wp2_with fail
        go_roundw
        case rel => exact ⟨k + 1, by omega, show dKn.Own _ _ _ _ _ from by rw [HS.out, HP.out, List.append_nil]; exact HO.out, by go_num, HW⟩
        case measure => simp [intOf]; omega
      · have HP := Lib.hid (show f ((k : Int) + 1) ≠ [] from fun h => h0 (by rw [← hN3, ← HF.out, h]; rfl))
        have HN3 := Lib.hid hN3
        have hp1 : decide ((0 : Int) < (N3 : Int)) = true := decide_eq_true (by omega)
        have hp2 : decide (0 < N3) = true := decide_eq_true (by omega)
        have hp3 : decide ((N3 : Int) > 0) = true := decide_eq_true (by omega)
        have hmxN : N3 ≤ 9223372036854775807 ∨ True := .inr trivial
        clear hN3 ho hall hlen hlk HO hmxN hrd hv3
        go_wp2_with (at_builtin; refine wpList_app_k kKs rfl (.tmp 14) (.tmp 19) rfl w.heap.size _ ks rfl (Kind.Own.alloc HKO.out _) _ (some ⟨wr.heap.size, 0, none⟩) 1 1 [⟨(k : Int) + 1, A3, N3, c3⟩] rfl rfl (ks_row wr _ _ _ _) HLE.out (by decide) (cle_alloc HW.out.size _) ?_; intro v5 w5 hown5 hg5 hb5 hv5; have HO5 := Lib.hid (Deep.Own.app (HKA.out.keep (keptS_below (below_new wr _) _)) (.one (dKn.keep (holds_old HKO.out HRD.out HW.out HN3.out.symm ((k : Int) + 1)) (keptS_below (below_new wr _) _))) hown5 hg5 hv5); have HW5 := Lib.hid ((HW.out.alloc HW.out.size _).trans hb5); clear hown5 hg5 hb5 hv5)
        go_roundw
        case rel => exact ⟨k + 1, by omega, show dKn.Own _ _ _ _ _ from by rw [HS.out, putK_some HP.out, HF.out]; exact HO5.out, by go_num, HW5⟩
        case measure => simp [intOf]; omega
    · have hd : decide ((k : Int) < 16) = false := decide_eq_false (by omega)
      obtain rfl : k = 16 := by omega
      obtain ⟨A9, c9, rfl, hrd⟩ := HO.out.rd (n := N) (by rw [HU.out]; exact HN.out.symm) fun _ h => .inr h
      rw [HU.out] at hrd
      have HD := Lib.hid hrd
      clear hrd HO
      go_wp2_with fail
      go_ret
      exact ⟨A9, c9, rfl, HD.out, HW.out⟩
theorem vs_set (V : Nat → Value) (L : Nat → List Rn) (hV : ∀ k, k < 16 → ∃ A c, V k = .slice A (L k).length c) (f : Int → List Rn) (hf : ∀ k : Nat, f ((k : Int) + 1) = L k) (U : List Kn) (hU : colS f 16 = U) (N : Nat) (hN : U.length = N) (w : World) (hr : ∀ k A n c, k < 16 → V k = .slice A n c → kRn.Rd w w.heap.size A c (L k)) :
    Calls Tryz.prog 93 #[grV V] w (RetK w N U) :=
  (vs_set_new (fun g => g < w.heap.size) V L hV f hf U hU N hN w fun k A n c hk e => (hr k A n c hk e).inS).mono fun _ _ ⟨A, c, h1, h2, h3⟩ => ⟨A, c, h1, rdk_of h2, h3⟩
end Go.Proofs.YtaodifpnfejbbaaGreat

/-
  Plain facts on sets of versions (layer 14), as the program makes them: row by row. No program in this text.
-/
namespace Go.Proofs.YtaodifpnfejbbaaGreat

/-- What a version puts into the row of a replica. -/
def runOf (v : Vr) (r : Int) : List Rn := match rightVr v && decide (v.rep = r) with
  | true => [⟨v.cnt, v.cnt⟩]
  | false => []
theorem runOf_yes {v : Vr} {r : Int} (h : rightVr v = true) (hr : v.rep = r) : runOf v r = [⟨v.cnt, v.cnt⟩] := by unfold runOf; rw [h, decide_eq_true hr]; rfl
theorem runOf_wrong {v : Vr} {r : Int} (h : rightVr v = false) : runOf v r = [] := by unfold runOf; rw [h]; rfl
theorem runOf_no {v : Vr} {r : Int} (hr : v.rep ≠ r) : runOf v r = [] := by unfold runOf; rw [decide_eq_false hr, Bool.and_false]
theorem runOf_len (v : Vr) (r : Int) : (runOf v r).length ≤ 1 := by
  unfold runOf; split <;> simp
/-- What some versions put into the row of a replica. -/
def versR (l : List Vr) (r : Int) : List Rn := l.flatMap fun v => runOf v r
theorem versR_nil (r : Int) : versR [] r = [] := rfl
theorem versR_cons (v : Vr) (l : List Vr) (r : Int) : versR (v :: l) r = runOf v r ++ versR l r := rfl
theorem versR_take {l : List Vr} {k : Nat} {v : Vr} (h : l[k]? = some v) (r : Int) : versR (l.take (k + 1)) r = versR (l.take k) r ++ runOf v r := by
  unfold versR
  rw [List.take_add_one, h, Option.toList_some, List.flatMap_append, List.flatMap_singleton]
theorem versR_len : ∀ (l : List Vr) (r : Int), (versR l r).length ≤ l.length
  | [], _ => Nat.le_refl _
  | v :: l, r => by
    have h1 := versR_len l r
    have h2 := runOf_len v r
    rw [versR_cons, List.length_append, List.length_cons]; omega
theorem addS_has (s : List Kn) (v : Vr) (r n : Int) : hasK (addS s v) r n = (hasK s r n || (decide (1 ≤ r) && (decide (r ≤ 16) && hasC (runOf v r) n))) := by
  unfold addS
  cases h : rightVr v with
  | false => rw [runOf_wrong h, hasC_nil, Bool.and_false, Bool.and_false, Bool.or_false]
  | true =>
    show hasK (makeS 1 s (oneS v)) r n = _
    rw [makeS_has, gC1]
    congr 1
    unfold hasK oneS
    rw [runsV]
    by_cases hr : v.rep = r
    · rw [runOf_yes h hr, partV_yes (k := ⟨v.rep, _⟩) hr, runsV, List.append_nil]
    · rw [runOf_no hr, partV_no (k := ⟨v.rep, _⟩) hr, runsV, List.append_nil]
theorem addS_fold_has : ∀ (l : List Vr) (s : List Kn) (r n : Int), hasK (l.foldl addS s) r n = (hasK s r n || (decide (1 ≤ r) && (decide (r ≤ 16) && hasC (versR l r) n)))
  | [], s, r, n => by rw [versR_nil, hasC_nil, Bool.and_false, Bool.and_false, Bool.or_false]; rfl
  | v :: l, s, r, n => by
    rw [List.foldl_cons, addS_fold_has l, addS_has, versR_cons, hasC_append]
    cases hasK s r n <;> cases decide (1 ≤ r) <;> cases decide (r ≤ 16) <;> rfl
theorem addS_fold_right : ∀ (l : List Vr) {s : List Kn}, rightS s = true → rightS (l.foldl addS s) = true
  | [], _, h => h
  | _ :: l, _, h => addS_fold_right l (addS_right h)
/-- Some versions more, row by row. -/
theorem addsS_cols (s : List Kn) (l : List Vr) : addsS s l = colS (fun r => ofC (runsV s r ++ versR l r)) 16 := by
  refine rightS_unique (addS_fold_right l (ofS_right s)) (colS_up (fun r => ofC_right _) (Nat.le_refl _)) fun r n => ?_
  unfold addsS
  rw [addS_fold_has, ofS_has]
  by_cases h : 1 ≤ r ∧ r ≤ 16
  · rw [hasK_in h.1 h.2, hasK_in h.1 h.2, decide_eq_true h.1, decide_eq_true h.2, colS_runs, decide_eq_true h.1, decide_eq_true (show r ≤ ((16 : Nat) : Int) by omega)]
    show _ = hasC (ofC _) n
    rw [ofC_has, hasC_append, Bool.true_and, Bool.true_and]
  · rw [hasK_out (by omega), hasK_out (by omega)]
    by_cases h1 : 1 ≤ r
    · rw [decide_eq_false (show ¬ r ≤ 16 by omega), Bool.false_and, Bool.and_false]; rfl
    · rw [decide_eq_false h1, Bool.false_and]; rfl
theorem ofS_cols (s : List Kn) : ofS s = colS (fun r => ofC (runsV s r)) 16 := by
  have h := addsS_cols s []
  simp only [versR_nil, List.append_nil] at h
  exact h
end Go.Proofs.YtaodifpnfejbbaaGreat

/-
  append in a statement that draws its order, at one operation of the drawn region.
-/
namespace Go.Proofs.YtaodifpnfejbbaaGreat
open Go.RowKit

theorem step_app_k {P : Program} {α : Type} (k : Kind P α) {ops : Array Oper} {w : World} {o : Oper} {a : Act} {K : Act → World → Prop} {Q : Exit → Act → World → Prop} {E : Prop} (hgd : o.guard = none) (s x : Operand)
    (ho : o.op = .call { callee := .builtin .append, args := #[s, x], argTypes := #[k.ty, k.ty] })
    (base : Nat) (v : Value) (xs : List α) (hs : a.eval s = v) (hown : k.Own w base v xs)
    (B : Nat) (A : Option Addr) (c n : Nat) (ys : List α) (hn : n = ys.length) (hx : a.eval x = .slice A n c) (hr : RowAt w B A (k.row ys)) (hlen : xs.length + ys.length ≤ 1000000) (hby : k.bytes ≤ 1000) (hbase : base ≤ w.heap.size)
    (h : ∀ v' w', k.Own w' base v' (xs ++ ys) → w.grownBy w' v.ownBlock → Below base w w' → (v'.ownBlock = v.ownBlock ∨ v'.ownBlock = some w.heap.size) → K (a.put o.dst v') w') :
    if Region.wanted o (yielded ops a.tmps) = true then Oper.wp P o a w K Q else E := by
  rw [if_pos (by simp [Region.wanted, hgd])]
  exact op_app_k k s x ho base v xs hs hown B A c n ys hn hx hr hlen hby hbase h
end Go.Proofs.YtaodifpnfejbbaaGreat

/-
  Layer 14 (vset), the program: the rows of each replica.
-/
namespace Go.Proofs.YtaodifpnfejbbaaGreat
open Go.RowKit

theorem vs_rep (x : Int) (p : Bool) (hp : (decide (1 ≤ x) && decide (x ≤ 16)) = p) (w : World) :
    Calls Tryz.prog 120 #[.int .i64 x] w fun e w' => e = .returned (.bool p) ∧ w = w' := by
  obtain ⟨a, ha⟩ : ∃ a, decide (1 ≤ x) = a := ⟨_, rfl⟩
  obtain ⟨b, hb⟩ : ∃ b, decide (x ≤ 16) = b := ⟨_, rfl⟩
  rw [ha, hb] at hp
  subst hp
  cases a <;> cases b
  all_goals
    go_enter Tryz.func120, Tryz.ntmps120
    go_wp2_with fail
    go_ret
    exact ⟨rfl, rfl⟩
/-- Sixteen stores, one behind the other. -/
abbrev set16 (w : World) (g : Nat) (V : Nat → Value) : World := (((((((((((((((w.setCell ⟨g, 0, none⟩ (V 0)).setCell ⟨g, 1, none⟩ (V 1)).setCell ⟨g, 2, none⟩ (V 2)).setCell ⟨g, 3, none⟩ (V 3)).setCell ⟨g, 4, none⟩ (V 4)).setCell ⟨g, 5, none⟩ (V 5)).setCell ⟨g, 6, none⟩ (V 6)).setCell ⟨g, 7, none⟩ (V 7)).setCell ⟨g, 8, none⟩ (V 8)).setCell ⟨g, 9, none⟩ (V 9)).setCell ⟨g, 10, none⟩ (V 10)).setCell ⟨g, 11, none⟩ (V 11)).setCell ⟨g, 12, none⟩ (V 12)).setCell ⟨g, 13, none⟩ (V 13)).setCell ⟨g, 14, none⟩ (V 14)).setCell ⟨g, 15, none⟩ (V 15)
theorem set16_at {w : World} {g : Nat} {Z V : Nat → Value} (h : GrAt w g Z) : GrAt (set16 w g V) g V :=
  ((((((((((((((((h.set (k := 0) (by omega) (V 0)).set (k := 1) (by omega) (V 1)).set (k := 2) (by omega) (V 2)).set (k := 3) (by omega) (V 3)).set (k := 4) (by omega) (V 4)).set (k := 5) (by omega) (V 5)).set (k := 6) (by omega) (V 6)).set (k := 7) (by omega) (V 7)).set (k := 8) (by omega) (V 8)).set (k := 9) (by omega) (V 9)).set (k := 10) (by omega) (V 10)).set (k := 11) (by omega) (V 11)).set (k := 12) (by omega) (V 12)).set (k := 13) (by omega) (V 13)).set (k := 14) (by omega) (V 14)).set (k := 15) (by omega) (V 15)).congr fun k hk => by
    rcases lt16 hk with rfl | rfl | rfl | rfl | rfl | rfl | rfl | rfl | rfl | rfl | rfl | rfl | rfl | rfl | rfl | rfl <;> rfl
theorem below_set16 {B g : Nat} {a w : World} (h : Below B a w) (hg : B ≤ g) (V : Nat → Value) : Below B a (set16 w g V) :=
  (((((((((((((((h.setCell (p := ⟨g, 0, none⟩) hg _).setCell (p := ⟨g, 1, none⟩) hg _).setCell (p := ⟨g, 2, none⟩) hg _).setCell (p := ⟨g, 3, none⟩) hg _).setCell (p := ⟨g, 4, none⟩) hg _).setCell (p := ⟨g, 5, none⟩) hg _).setCell (p := ⟨g, 6, none⟩) hg _).setCell (p := ⟨g, 7, none⟩) hg _).setCell (p := ⟨g, 8, none⟩) hg _).setCell (p := ⟨g, 9, none⟩) hg _).setCell (p := ⟨g, 10, none⟩) hg _).setCell (p := ⟨g, 11, none⟩) hg _).setCell (p := ⟨g, 12, none⟩) hg _).setCell (p := ⟨g, 13, none⟩) hg _).setCell (p := ⟨g, 14, none⟩) hg _).setCell (p := ⟨g, 15, none⟩) hg _
theorem RowsG.set16 {w : World} {base g : Nat} {V : Nat → Value} {L : Nat → List Rn} (h : RowsG w base V L) (hg : ∀ j, j < 16 → (V j).ownBlock ≠ some g) (U : Nat → Value) : RowsG (set16 w g U) base V L :=
  (((((((((((((((h.set hg _).set hg _).set hg _).set hg _).set hg _).set hg _).set hg _).set hg _).set hg _).set hg _).set hg _).set hg _).set hg _).set hg _).set hg _).set hg _
theorem RowsG.low {w : World} {base g : Nat} {V : Nat → Value} {L : Nat → List Rn} (h : RowsG w base V L) (hg : g < base) : ∀ j, j < 16 → (V j).ownBlock ≠ some g := fun j hj e => by have := ((h.own j hj).lt g e).1; omega
/-- How the rows stand while they are gathered: the result's cells, then the rows', and behind them the rows. -/
structure GatAt (w0 w : World) (V : Nat → Value) (L : Nat → List Rn) : Prop where
  res : GrAt w w0.heap.size (fun _ => .slice none 0 0)
  all : GrAt w (w0.heap.size + 1) V
  rows : RowsG w (w0.heap.size + 1 + 1) V L
  low : Below w0.heap.size w0 w
theorem GatAt.below {w0 w w' : World} {V : Nat → Value} {L : Nat → List Rn} (h : GatAt w0 w V L) (hb : Below w.heap.size w w') : GatAt w0 w' V L := ⟨h.res.below hb, h.all.below hb, h.rows.below hb, h.low.trans (hb.mono h.low.size)⟩
theorem GatAt.congr {w0 w : World} {V : Nat → Value} {L M : Nat → List Rn} (h : GatAt w0 w V L) (e : ∀ k, k < 16 → M k = L k) : GatAt w0 w V M := ⟨h.res, h.all, h.rows.congr e, h.low⟩
theorem gatAt_new (w : World) (t : TypeId) : GatAt w ((w.alloc (grO (fun _ => .slice none 0 0) t)).alloc (grO (fun _ => .slice none 0 0) t)) (fun _ => .slice none 0 0) (fun _ => []) := by
  refine ⟨(grAt_new w _ t).alloc _, ?_, rowsG_nil _ _, (below_new w _).trans ((below_new _ _).mono (by simp))⟩
  have h := grAt_new (w.alloc (grO (fun _ => .slice none 0 0) t)) (fun _ => .slice none 0 0) t
  rw [size1] at h
  exact h
theorem GatAt.own_lt {w0 w : World} {V : Nat → Value} {L : Nat → List Rn} (h : GatAt w0 w V L) {j g : Nat} (hj : j < 16) (hg : g < w0.heap.size + 1 + 1) : some g ≠ (V j).ownBlock := fun e => h.rows.low hg j hj e.symm
theorem GatAt.congrV {w0 w : World} {V W : Nat → Value} {L : Nat → List Rn} (h : GatAt w0 w V L) (e : ∀ k, k < 16 → W k = V k) : GatAt w0 w W L := ⟨h.res, h.all.congr e, h.rows.congrV e, h.low⟩
/-- Behind an append, ahead of its store. -/
theorem GatAt.mid {w0 w w' : World} {V : Nat → Value} {L : Nat → List Rn} (h : GatAt w0 w V L) {j : Nat} (hj : j < 16) (hg : w.grownBy w' (V j).ownBlock) : GrAt w' (w0.heap.size + 1) V := h.all.grown hg (h.own_lt hj (by omega))
theorem GatAt.app {w0 w w' : World} {V : Nat → Value} {L : Nat → List Rn} {v' : Value} {l : List Rn} (h : GatAt w0 w V L) {j : Nat} (hj : j < 16) (ho : kRn.Own w' (w0.heap.size + 1 + 1) v' l) (hg : w.grownBy w' (V j).ownBlock) (hv : v'.ownBlock = (V j).ownBlock ∨ v'.ownBlock = some w.heap.size) :
    GatAt w0 (w'.setCell ⟨w0.heap.size + 1, j, none⟩ v') (upd V j v') (upd L j l) := by
  have hr := h.rows.app hj ho hg hv
  refine ⟨(h.res.grown hg (h.own_lt hj (by omega))).other (by omega) _, (h.mid hj hg).set hj _, hr.set (hr.low (by omega)) _, ?_⟩
  exact ((h.low.grown hg h.low.size fun g e => by have := ((h.rows.own j hj).lt g e).1; omega)).setCell (p := ⟨w0.heap.size + 1, j, none⟩) (by show w0.heap.size ≤ w0.heap.size + 1; omega) _
/-- What a call hands back that gathers the rows. -/
def RetG (w : World) (N : Nat → Nat) (L : Nat → List Rn) (e : Ending) (w' : World) : Prop := ∃ A c, e = .returned (grV (slV A N c)) ∧ RowsG w' w.heap.size (slV A N c) L ∧ Below w.heap.size w w'
theorem gat_end {fn : Func} {a : Act} {w0 w : World} {A : Nat → Option Addr} {N c : Nat → Nat} {L : Nat → List Rn} (h : GatAt w0 w (slV A N c) L) (hd : a.defers = []) (hr : ∀ w', GrAt w' w0.heap.size (slV A N c) → (results fn a.tmps).run Tryz.prog w' = .ok (grV (slV A N c)) w') : bodyPost Tryz.prog fn (RetG w0 N L) .ret a (set16 w w0.heap.size (slV A N c)) :=
  bodyPost_ret (hr _ (set16_at h.res)) hd ⟨A, c, rfl, (h.rows.set16 (h.rows.low (by omega)) _).mono (by omega), below_set16 h.low (Nat.le_refl _) _⟩
set_option maxRecDepth 100000 in
set_option maxHeartbeats 8000000 in
theorem vs_gather (A : Option Addr) (c n : Nat) (s : List Kn) (hn : n = s.length) (hnl : ∀ r, (runsV s r).length ≤ 300000) (NN : Nat → Nat) (hNN : ∀ k : Nat, (runsV s ((k : Int) + 1)).length = NN k) (w : World) (hr : RdK w w.heap.size A c s) :
    Calls Tryz.prog 91 #[.slice A n c] w (RetG w NN fun k => runsV s ((k : Int) + 1)) := by
  have HN := Lib.hid hn
  have HL := Lib.hid hnl
  have HR := Lib.hid hr
  have HNN := Lib.hid hNN
  have hmx := rdk_max hr hn
  have hcx : n ≤ c := by rw [hn]; exact hr.room
  clear hn hnl hr hNN
  go_enter Tryz.func91, Tryz.ntmps91
  go_wp2_with fail
  go_loopw [9] (fun i wr => ∃ (k : Nat) (V : Nat → Value), k ≤ n ∧ i = .int .i64 k ∧ Hid (GatAt w wr V (fun j => runsV (s.take k) ((j : Int) + 1)))) (fun i _ => n - (intOf i).toNat)
  case atStart => exact ⟨0, fun _ => .slice none 0 0, by omega, rfl, gatAt_new w _⟩
  case round =>
    obtain ⟨k, V, hk, rfl, HG⟩ := hrel
    by_cases hlt : k < n
    · obtain ⟨x, hg, -, -⟩ := cnt_get (l := s) (k := k) (by have := HN.out; omega)
      obtain ⟨b, o, rfl, hb1, hcell⟩ := knowns_at (HR.out.below HG.out.low) (by have := HN.out; omega)
      obtain ⟨A1, n1, c1, hn1, hr1, q0, q1⟩ := hcell k x hg
      obtain ⟨X, hX⟩ : ∃ X, x.rep = X := ⟨_, rfl⟩
      rw [hX] at q0
      have hT := fun r => runsV_take r hg
      obtain ⟨p, hp⟩ : ∃ p, (decide (1 ≤ X) && decide (X ≤ 16)) = p := ⟨_, rfl⟩
      have C1 := fun w => Lib.hid (vs_rep X p hp w)
      have HG2 := Lib.hid (HG.out.below (below_new wr (.cells #[.int .i64 X, .slice A1 n1 c1] 61)).drew)
      cases p with
      | false =>
        have HE := Lib.hid ((HG.out.below (below_new wr (.cells #[.int .i64 X, .slice A1 n1 c1] 61))).congr (M := fun j => runsV (s.take (k + 1)) ((j : Int) + 1)) fun j hj => by
          rw [hT, partV_no (by rw [hX]; intro e; rw [e] at hp; simp at hp; omega), List.append_nil])
        clear hcell hg hr1 hn1 hT hp HG2 hX
        go_wp2_with ((with_reducible refine (C1 _).out.mono ?_); rintro e w1 ⟨rfl, rfl⟩)
        go_roundw
        case rel => exact ⟨k + 1, V, by omega, by go_num, HE.out⟩
        case measure => simp [intOf]; omega
      | true =>
        obtain ⟨j, hj⟩ : ∃ j : Nat, X = (j : Int) + 1 := ⟨(X - 1).toNat, by rw [Bool.and_eq_true, decide_eq_true_eq, decide_eq_true_eq] at hp; omega⟩
        have hj16 : j < 16 := by rw [Bool.and_eq_true, decide_eq_true_eq, decide_eq_true_eq] at hp; omega
        subst hj
        have HE := Lib.hid (fun (j' : Nat) (_ : j' < 16) => show runsV (s.take (k + 1)) ((j' : Int) + 1) = upd (fun j => runsV (s.take k) ((j : Int) + 1)) j (runsV (s.take k) ((j : Int) + 1) ++ x.runs) j' from by
          rw [hT]
          by_cases e : j' = j
          · subst e; rw [upd_at, partV_yes hX]
          · rw [upd_far _ _ e, partV_no (by rw [hX]; omega), List.append_nil])
        have HLE := Lib.hid (show (runsV (s.take k) ((j : Int) + 1)).length + x.runs.length ≤ 1000000 by
          have h1 := runsV_part s (k + 1) ((j : Int) + 1)
          rw [hT, partV_yes hX, List.length_append] at h1
          have := HL.out ((j : Int) + 1)
          omega)
        have HN1 := Lib.hid hn1
        have HR1 := Lib.hid (hr1.below ((below_new wr (.cells #[.int .i64 ((j : Int) + 1), .slice A1 n1 c1] 61)).mono HG.out.low.size)).row
        obtain ⟨vj, hvj⟩ : ∃ v, V j = v := ⟨_, rfl⟩
        have HO := Lib.hid (HG2.out.rows.own j hj16)
        have q2 := HG2.out.all.cell j hj16
        have HM := Lib.hid (fun w' (hg : (wr.alloc (.cells #[.int .i64 ((j : Int) + 1), .slice A1 n1 c1] 61)).drew.grownBy w' (V j).ownBlock) => HG2.out.mid hj16 hg)
        rw [hvj] at HO q2 HM
        obtain ⟨NL, hNL⟩ : ∃ N, (runsV (s.take k) ((j : Int) + 1) ++ x.runs).length = N := ⟨_, rfl⟩
        have HNL := Lib.hid hNL
        clear hNL
        have hjw : IntKind.i64.wrap ((j : Int) + 1 - 1) = (j : Int) := by rw [Int.add_sub_cancel]; exact IntWalk.i64_in _ (by omega)
        have hj0 : decide ((j : Int) < 0) = false := decide_eq_false (by omega)
        have hj1 : decide ((j : Int) < 16) = true := decide_eq_true (by omega)
        clear hcell hg hr1 hn1 hT hp hX
        go_upto_region 7 with ((with_reducible refine (C1 _).out.mono ?_); rintro e w1 ⟨rfl, rfl⟩)
        go_region_law (first
          | (refine step_app_k kRn rfl (.tmp 23) (.tmp 25) rfl (w.heap.size + 1 + 1) vj (runsV (s.take k) ((j : Int) + 1)) rfl HO.out _ A1 c1 n1 x.runs HN1.out rfl HR1.out HLE.out (by decide) HG2.out.all.lt ?_; intro v3 w3 hown3 hg3 _ hv3; obtain ⟨A4, c4, rfl, -⟩ := hown3.read_n HNL.out.symm; have q3 := (HM.out w3 hg3).cell j hj16; have f3 := (HM.out w3 hg3).free j; have HG3 := Lib.hid (HG2.out.app hj16 hown3 (hvj.symm ▸ hg3) (hvj.symm ▸ hv3)); clear hown3 hg3 hv3))
        all_goals
          go_wp2_with fail
          go_roundw
          case rel => exact ⟨k + 1, upd V j (.slice A4 NL c4), by omega, by go_num, HG3.out.congr HE.out⟩
          case measure => simp [intOf]; omega
    · have hkn : s.take k = s := List.take_of_length_le (by have := HN.out; omega)
      rw [hkn] at HG
      obtain ⟨AA, cc, hV⟩ := HG.out.rows.form NN HNN.out
      replace HG := Lib.hid (HG.out.congrV hV)
      have a0 : wr.cell? ⟨w.heap.size + 1, 0, none⟩ = some (.slice (AA 0) (NN 0) (cc 0)) := HG.out.all.cell 0 (by omega)
      have a1 : wr.cell? ⟨w.heap.size + 1, 1, none⟩ = some (.slice (AA 1) (NN 1) (cc 1)) := HG.out.all.cell 1 (by omega)
      have a2 : wr.cell? ⟨w.heap.size + 1, 2, none⟩ = some (.slice (AA 2) (NN 2) (cc 2)) := HG.out.all.cell 2 (by omega)
      have a3 : wr.cell? ⟨w.heap.size + 1, 3, none⟩ = some (.slice (AA 3) (NN 3) (cc 3)) := HG.out.all.cell 3 (by omega)
      have a4 : wr.cell? ⟨w.heap.size + 1, 4, none⟩ = some (.slice (AA 4) (NN 4) (cc 4)) := HG.out.all.cell 4 (by omega)
      have a5 : wr.cell? ⟨w.heap.size + 1, 5, none⟩ = some (.slice (AA 5) (NN 5) (cc 5)) := HG.out.all.cell 5 (by omega)
      have a6 : wr.cell? ⟨w.heap.size + 1, 6, none⟩ = some (.slice (AA 6) (NN 6) (cc 6)) := HG.out.all.cell 6 (by omega)
      have a7 : wr.cell? ⟨w.heap.size + 1, 7, none⟩ = some (.slice (AA 7) (NN 7) (cc 7)) := HG.out.all.cell 7 (by omega)
      have a8 : wr.cell? ⟨w.heap.size + 1, 8, none⟩ = some (.slice (AA 8) (NN 8) (cc 8)) := HG.out.all.cell 8 (by omega)
      have a9 : wr.cell? ⟨w.heap.size + 1, 9, none⟩ = some (.slice (AA 9) (NN 9) (cc 9)) := HG.out.all.cell 9 (by omega)
      have a10 : wr.cell? ⟨w.heap.size + 1, 10, none⟩ = some (.slice (AA 10) (NN 10) (cc 10)) := HG.out.all.cell 10 (by omega)
      have a11 : wr.cell? ⟨w.heap.size + 1, 11, none⟩ = some (.slice (AA 11) (NN 11) (cc 11)) := HG.out.all.cell 11 (by omega)
      have a12 : wr.cell? ⟨w.heap.size + 1, 12, none⟩ = some (.slice (AA 12) (NN 12) (cc 12)) := HG.out.all.cell 12 (by omega)
      have a13 : wr.cell? ⟨w.heap.size + 1, 13, none⟩ = some (.slice (AA 13) (NN 13) (cc 13)) := HG.out.all.cell 13 (by omega)
      have a14 : wr.cell? ⟨w.heap.size + 1, 14, none⟩ = some (.slice (AA 14) (NN 14) (cc 14)) := HG.out.all.cell 14 (by omega)
      have a15 : wr.cell? ⟨w.heap.size + 1, 15, none⟩ = some (.slice (AA 15) (NN 15) (cc 15)) := HG.out.all.cell 15 (by omega)
      have z0 : wr.cell? ⟨w.heap.size, 0, none⟩ = some (.slice none 0 0) := HG.out.res.cell 0 (by omega)
      have z1 : wr.cell? ⟨w.heap.size, 1, none⟩ = some (.slice none 0 0) := HG.out.res.cell 1 (by omega)
      have z2 : wr.cell? ⟨w.heap.size, 2, none⟩ = some (.slice none 0 0) := HG.out.res.cell 2 (by omega)
      have z3 : wr.cell? ⟨w.heap.size, 3, none⟩ = some (.slice none 0 0) := HG.out.res.cell 3 (by omega)
      have z4 : wr.cell? ⟨w.heap.size, 4, none⟩ = some (.slice none 0 0) := HG.out.res.cell 4 (by omega)
      have z5 : wr.cell? ⟨w.heap.size, 5, none⟩ = some (.slice none 0 0) := HG.out.res.cell 5 (by omega)
      have z6 : wr.cell? ⟨w.heap.size, 6, none⟩ = some (.slice none 0 0) := HG.out.res.cell 6 (by omega)
      have z7 : wr.cell? ⟨w.heap.size, 7, none⟩ = some (.slice none 0 0) := HG.out.res.cell 7 (by omega)
      have z8 : wr.cell? ⟨w.heap.size, 8, none⟩ = some (.slice none 0 0) := HG.out.res.cell 8 (by omega)
      have z9 : wr.cell? ⟨w.heap.size, 9, none⟩ = some (.slice none 0 0) := HG.out.res.cell 9 (by omega)
      have z10 : wr.cell? ⟨w.heap.size, 10, none⟩ = some (.slice none 0 0) := HG.out.res.cell 10 (by omega)
      have z11 : wr.cell? ⟨w.heap.size, 11, none⟩ = some (.slice none 0 0) := HG.out.res.cell 11 (by omega)
      have z12 : wr.cell? ⟨w.heap.size, 12, none⟩ = some (.slice none 0 0) := HG.out.res.cell 12 (by omega)
      have z13 : wr.cell? ⟨w.heap.size, 13, none⟩ = some (.slice none 0 0) := HG.out.res.cell 13 (by omega)
      have z14 : wr.cell? ⟨w.heap.size, 14, none⟩ = some (.slice none 0 0) := HG.out.res.cell 14 (by omega)
      have z15 : wr.cell? ⟨w.heap.size, 15, none⟩ = some (.slice none 0 0) := HG.out.res.cell 15 (by omega)
      have zf := HG.out.res.free
      clear hkn hV
      go_wp2_with fail
      clear a0 a1 a2 a3 a4 a5 a6 a7 a8 a9 a10 a11 a12 a13 a14 a15 z0 z1 z2 z3 z4 z5 z6 z7 z8 z9 z10 z11 z12 z13 z14 z15 zf
      refine gat_end HG.out ?_ ?_
      · rfl
      intro w' hg
      have r0 : w'.cell? ⟨w.heap.size, 0, none⟩ = some (.slice (AA 0) (NN 0) (cc 0)) := hg.cell 0 (by omega)
      have r1 : w'.cell? ⟨w.heap.size, 1, none⟩ = some (.slice (AA 1) (NN 1) (cc 1)) := hg.cell 1 (by omega)
      have r2 : w'.cell? ⟨w.heap.size, 2, none⟩ = some (.slice (AA 2) (NN 2) (cc 2)) := hg.cell 2 (by omega)
      have r3 : w'.cell? ⟨w.heap.size, 3, none⟩ = some (.slice (AA 3) (NN 3) (cc 3)) := hg.cell 3 (by omega)
      have r4 : w'.cell? ⟨w.heap.size, 4, none⟩ = some (.slice (AA 4) (NN 4) (cc 4)) := hg.cell 4 (by omega)
      have r5 : w'.cell? ⟨w.heap.size, 5, none⟩ = some (.slice (AA 5) (NN 5) (cc 5)) := hg.cell 5 (by omega)
      have r6 : w'.cell? ⟨w.heap.size, 6, none⟩ = some (.slice (AA 6) (NN 6) (cc 6)) := hg.cell 6 (by omega)
      have r7 : w'.cell? ⟨w.heap.size, 7, none⟩ = some (.slice (AA 7) (NN 7) (cc 7)) := hg.cell 7 (by omega)
      have r8 : w'.cell? ⟨w.heap.size, 8, none⟩ = some (.slice (AA 8) (NN 8) (cc 8)) := hg.cell 8 (by omega)
      have r9 : w'.cell? ⟨w.heap.size, 9, none⟩ = some (.slice (AA 9) (NN 9) (cc 9)) := hg.cell 9 (by omega)
      have r10 : w'.cell? ⟨w.heap.size, 10, none⟩ = some (.slice (AA 10) (NN 10) (cc 10)) := hg.cell 10 (by omega)
      have r11 : w'.cell? ⟨w.heap.size, 11, none⟩ = some (.slice (AA 11) (NN 11) (cc 11)) := hg.cell 11 (by omega)
      have r12 : w'.cell? ⟨w.heap.size, 12, none⟩ = some (.slice (AA 12) (NN 12) (cc 12)) := hg.cell 12 (by omega)
      have r13 : w'.cell? ⟨w.heap.size, 13, none⟩ = some (.slice (AA 13) (NN 13) (cc 13)) := hg.cell 13 (by omega)
      have r14 : w'.cell? ⟨w.heap.size, 14, none⟩ = some (.slice (AA 14) (NN 14) (cc 14)) := hg.cell 14 (by omega)
      have r15 : w'.cell? ⟨w.heap.size, 15, none⟩ = some (.slice (AA 15) (NN 15) (cc 15)) := hg.cell 15 (by omega)
      simp [results, Tryz.results91, go_sem, r0, r1, r2, r3, r4, r5, r6, r7, r8, r9, r10, r11, r12, r13, r14, r15]
end Go.Proofs.YtaodifpnfejbbaaGreat

/-
  Plain facts on how the right list of counts is made (layer 13): runs in the order of their beginnings, merged; two lists swept together, edge by edge; the greatest count of a list. No program in this text.
-/
namespace Go.Proofs.YtaodifpnfejbbaaGreat

/-! Runs in the order of their beginnings, merged. -/
def gapC (p r : Rn) : Bool := decide (p.to + 1 < r.fr)
def moreC (p r : Rn) : Rn := ⟨p.fr, max p.to r.to⟩
def mergeC : Option Rn → List Rn → List Rn
  | none, [] => []
  | some p, [] => [p]
  | none, r :: l => mergeC (some r) l
  | some p, r :: l => match gapC p r with
    | true => p :: mergeC (some r) l
    | false => mergeC (some (moreC p r)) l
theorem mergeC_gap {p r : Rn} {l : List Rn} (h : gapC p r = true) : mergeC (some p) (r :: l) = p :: mergeC (some r) l := by rw [mergeC, h]
theorem mergeC_more {p r : Rn} {l : List Rn} (h : gapC p r = false) : mergeC (some p) (r :: l) = mergeC (some (moreC p r)) l := by rw [mergeC, h]
def SortedC (l : List Rn) : Prop := l.Pairwise fun a b => a.fr ≤ b.fr
theorem SortedC.from {l : List Rn} (h : SortedC l) (k : Nat) : SortedC (l.drop k) := List.Pairwise.sublist (List.drop_sublist k l) h
theorem gapC_true {p r : Rn} (h : gapC p r = true) : p.to + 1 < r.fr := of_decide_eq_true h
theorem gapC_false {p r : Rn} (h : gapC p r = false) : r.fr ≤ p.to + 1 := by have := of_decide_eq_false h; omega
theorem moreC_right {p r : Rn} (hp : oneC p = true) (hr : oneC r = true) : oneC (moreC p r) = true := by
  have h1 := oneC_iff.1 hp
  have h2 := oneC_iff.1 hr
  refine oneC_iff.2 ⟨h1.1, ?_, ?_⟩
  · show p.fr ≤ max p.to r.to; omega
  · show max p.to r.to ≤ _; omega
theorem moreC_has {p r : Rn} (hp : oneC p = true) (hr : oneC r = true) (h : p.fr ≤ r.fr) (hg : gapC p r = false) (n : Int) : inC (moreC p r) n = (inC p n || inC r n) := by
  have h1 := gapC_false hg
  have h2 := oneC_iff.1 hp
  have h3 := oneC_iff.1 hr
  rw [Bool.eq_iff_iff, Bool.or_eq_true, inC_iff, inC_iff, inC_iff]
  show (oneC (moreC p r) = true ∧ p.fr ≤ n ∧ n ≤ max p.to r.to) ↔ _
  rw [moreC_right hp hr]
  simp only [hp, hr, true_and]
  omega
theorem mergeC_ok : ∀ (l : List Rn) (p : Rn), oneC p = true → (∀ r ∈ l, oneC r = true ∧ p.fr ≤ r.fr) → SortedC l →
    rightC (mergeC (some p) l) = true ∧ (∀ n, hasC (mergeC (some p) l) n = (inC p n || hasC l n)) ∧ ∃ t m, mergeC (some p) l = t :: m ∧ t.fr = p.fr
  | [], p, hp, _, _ => ⟨hp, fun n => rfl, p, [], rfl, rfl⟩
  | r :: l, p, hp, hl, hs => by
    obtain ⟨hr, hlo⟩ := hl r (List.mem_cons_self ..)
    obtain ⟨hs1, hs2⟩ := List.pairwise_cons.1 hs
    have hl' : ∀ t ∈ l, oneC t = true ∧ r.fr ≤ t.fr := fun t ht => ⟨(hl t (List.mem_cons_of_mem _ ht)).1, hs1 t ht⟩
    cases hg : gapC p r with
    | true =>
      obtain ⟨h1, h2, t, m, h3, h4⟩ := mergeC_ok l r hr hl' hs2
      rw [mergeC_gap hg]
      refine ⟨?_, fun n => by rw [hasC_cons, h2, hasC_cons], p, _, rfl, rfl⟩
      rw [h3] at h1 ⊢
      have := gapC_true hg
      unfold rightC
      rw [hp, h1, decide_eq_true (show p.to + 2 ≤ t.fr by omega)]; rfl
    | false =>
      obtain ⟨h1, h2, t, m, h3, h4⟩ := mergeC_ok l (moreC p r) (moreC_right hp hr) (fun t ht => ⟨(hl' t ht).1, by show p.fr ≤ _; have := (hl' t ht).2; omega⟩) hs2
      rw [mergeC_more hg]
      exact ⟨h1, fun n => by rw [h2, moreC_has hp hr hlo hg, hasC_cons, Bool.or_assoc], t, m, h3, h4⟩
theorem mergeC_all {l : List Rn} (hl : ∀ r ∈ l, oneC r = true) (hs : SortedC l) : rightC (mergeC none l) = true ∧ ∀ n, hasC (mergeC none l) n = hasC l n := by
  cases l with
  | nil => exact ⟨rfl, fun _ => rfl⟩
  | cons r l =>
    obtain ⟨hs1, hs2⟩ := List.pairwise_cons.1 hs
    obtain ⟨h1, h2, _⟩ := mergeC_ok l r (hl r (List.mem_cons_self ..)) (fun t ht => ⟨hl t (List.mem_cons_of_mem _ ht), hs1 t ht⟩) hs2
    exact ⟨h1, fun n => by rw [show mergeC none (r :: l) = mergeC (some r) l from rfl, h2, hasC_cons]⟩
/-- The right ones, in some order of their beginnings, merged: the right list of all. -/
theorem mergeC_norm {l m : List Rn} (hp : m.Perm (l.filter oneC)) (hs : SortedC m) : mergeC none m = ofC l := by
  have hm : ∀ r ∈ m, oneC r = true := fun r hr => by have := hp.mem_iff.1 hr; exact (List.mem_filter.1 this).2
  obtain ⟨h1, h2⟩ := mergeC_all hm hs
  refine ofC_unique h1 fun n => ?_
  rw [h2, Bool.eq_iff_iff]
  unfold hasC
  rw [List.any_eq_true, List.any_eq_true]
  constructor
  · rintro ⟨r, hr, h⟩; exact ⟨r, (List.mem_filter.1 (hp.mem_iff.1 hr)).1, h⟩
  · rintro ⟨r, hr, h⟩; exact ⟨r, hp.mem_iff.2 (List.mem_filter.2 ⟨hr, (inC_iff.1 h).1⟩), h⟩
/-- The one that was begun last is right, and begins not behind those to come. -/
def LastC (o : Option Rn) (l : List Rn) : Prop := ∀ p, o = some p → oneC p = true ∧ ∀ t ∈ l, p.fr ≤ t.fr
theorem LastC.none (l : List Rn) : LastC .none l := fun p h => by cases h
theorem LastC.new {r : Rn} {l : List Rn} (hr : oneC r = true) (hs : SortedC (r :: l)) : LastC (some r) l := fun p h => by
  injection h with h; subst h
  exact ⟨hr, (List.pairwise_cons.1 hs).1⟩
theorem LastC.more {p r : Rn} {l : List Rn} (h : LastC (some p) (r :: l)) (hr : oneC r = true) : LastC (some (moreC p r)) l := fun p' h' => by
  injection h' with h'; subst h'
  obtain ⟨h1, h2⟩ := h p rfl
  exact ⟨moreC_right h1 hr, fun t ht => h2 t (List.mem_cons_of_mem _ ht)⟩

/-! The edges of a right list. -/
def edgesI : List Rn → List Int
  | [] => []
  | r :: l => r.fr :: (r.to + 1) :: edgesI l
theorem edgesI_append : ∀ (a b : List Rn), edgesI (a ++ b) = edgesI a ++ edgesI b
  | [], _ => rfl
  | r :: a, b => by rw [List.cons_append, edgesI, edgesI, edgesI_append a b, List.cons_append, List.cons_append]
theorem edgesI_len : ∀ l : List Rn, (edgesI l).length = 2 * l.length
  | [] => rfl
  | r :: l => by rw [edgesI, List.length_cons, List.length_cons, edgesI_len l, List.length_cons]; omega
theorem edgesI_next {m : List Rn} {k : Nat} {r : Rn} (h : m[k]? = some r) : edgesI (m.take (k + 1)) = edgesI (m.take k) ++ [r.fr, r.to + 1] := by
  rw [List.take_add_one, h, edgesI_append]; rfl
theorem edgesI_up : ∀ {l : List Rn} {c : Int}, rightC l = true → (∀ r m, l = r :: m → c < r.fr) → upC c (edgesI l) = true
  | [], _, _, _ => rfl
  | r :: l, c, h, hc => by
    have h1 := hc r l rfl
    have h2 := oneC_iff.1 (rightC_head h)
    rw [edgesI, upC, decide_eq_true h1, Bool.true_and, upC, decide_eq_true (show r.fr < r.to + 1 by omega), Bool.true_and]
    refine edgesI_up (rightC_tail h) fun t m e => ?_
    subst e
    have := rightC_gap h
    omega
theorem edgesI_top : ∀ {l : List Rn}, rightC l = true → ∀ z ∈ edgesI l, z ≤ 1099511627777
  | [], _, z, hz => by cases hz
  | r :: l, h, z, hz => by
    have h2 := oneC_iff.1 (rightC_head h)
    rw [edgesI] at hz
    rcases List.mem_cons.1 hz with rfl | hz
    · omega
    · rcases List.mem_cons.1 hz with rfl | hz
      · omega
      · exact edgesI_top (rightC_tail h) z hz
/-- Is a count in, by the edges at which that turns? -/
def togI : Bool → List Int → Int → Bool
  | v, [], _ => v
  | v, x :: l, n => match decide (n < x) with | true => v | false => togI (!v) l n
theorem togI_low {v : Bool} {x n : Int} {l : List Int} (h : n < x) : togI v (x :: l) n = v := by rw [togI, decide_eq_true h]
theorem togI_high {v : Bool} {x n : Int} {l : List Int} (h : ¬ n < x) : togI v (x :: l) n = togI (!v) l n := by rw [togI, decide_eq_false h]
theorem togI_edges : ∀ {l : List Rn}, rightC l = true → ∀ n, togI false (edgesI l) n = hasC l n
  | [], _, n => rfl
  | r :: l, h, n => by
    have h2 := oneC_iff.1 (rightC_head h)
    rw [edgesI]
    by_cases h1 : n < r.fr
    · rw [togI_low h1]
      cases hh : hasC (r :: l) n with
      | false => rfl
      | true => have := hasC_least h hh; omega
    · rw [togI_high h1]
      by_cases h3 : n < r.to + 1
      · rw [togI_low h3, hasC_first h (by omega) (by omega)]; rfl
      · rw [togI_high h3, show (!!false) = false from rfl, togI_edges (rightC_tail h), hasC_tail h n, decide_eq_true (show r.to < n by omega), Bool.and_true]
/-- What is left of edges behind one that may be the first of them. -/
def dropI (e : Int) : List Int → List Int
  | [] => []
  | x :: l => match decide (x = e) with | true => l | false => x :: l
/-- .. and whether a count is in from there on. -/
def passI (e : Int) (v : Bool) : List Int → Bool
  | [] => v
  | x :: _ => match decide (x = e) with | true => !v | false => v
theorem dropI_same {e : Int} {l : List Int} : dropI e (e :: l) = l := by rw [dropI, decide_eq_true rfl]
theorem dropI_other {e x : Int} {l : List Int} (h : x ≠ e) : dropI e (x :: l) = x :: l := by rw [dropI, decide_eq_false h]
theorem passI_same {e : Int} {v : Bool} {l : List Int} : passI e v (e :: l) = !v := by rw [passI, decide_eq_true rfl]
theorem passI_other {e x : Int} {v : Bool} {l : List Int} (h : x ≠ e) : passI e v (x :: l) = v := by rw [passI, decide_eq_false h]
theorem dropI_len (e : Int) (l : List Int) : (dropI e l).length ≤ l.length := by
  cases l with
  | nil => exact Nat.le_refl _
  | cons x l =>
    by_cases h : x = e
    · subst h; rw [dropI_same]; simp
    · rw [dropI_other h]; exact Nat.le_refl _
theorem dropI_mem {e x : Int} {l : List Int} (h : x ∈ dropI e l) : x ∈ l := by
  cases l with
  | nil => cases h
  | cons y l =>
    by_cases hy : y = e
    · subst hy; rw [dropI_same] at h; exact List.mem_cons_of_mem _ h
    · rw [dropI_other hy] at h; exact h
/-- What is known of edges from a count on, behind one that is none ahead of their first. -/
theorem dropI_ok {c e : Int} {l : List Int} {v : Bool} (h : upC c l = true) (hc : c < e) (he : ∀ x m, l = x :: m → e ≤ x) :
    upC e (dropI e l) = true ∧ (∀ n, e ≤ n → togI (passI e v l) (dropI e l) n = togI v l n) ∧ (∀ n, n < e → togI v l n = v) := by
  cases l with
  | nil => exact ⟨rfl, fun _ _ => rfl, fun _ _ => rfl⟩
  | cons x l =>
    obtain ⟨h1, h2⟩ := upC_head h
    have h3 := he x l rfl
    refine ⟨?_, fun n hn => ?_, fun n hn => togI_low (by omega)⟩
    · by_cases hx : x = e
      · subst hx; rw [dropI_same]; exact h2
      · rw [dropI_other hx]; unfold upC; rw [h2, decide_eq_true (show e < x by omega)]; rfl
    · by_cases hx : x = e
      · subst hx; rw [dropI_same, passI_same, togI_high (by omega)]
      · rw [dropI_other hx, passI_other hx]
/-- At the edge itself. -/
theorem passI_at {e : Int} {l : List Int} {v : Bool} (h : upC e (dropI e l) = true) (ht : ∀ n, e ≤ n → togI (passI e v l) (dropI e l) n = togI v l n) : passI e v l = togI v l e := by
  rw [← ht e (Int.le_refl _)]
  cases hd : dropI e l with
  | nil => rfl
  | cons x m => rw [hd] at h; rw [togI_low (upC_head h).1]
/-- The next edge of both. -/
def nearI : List Int → List Int → Option Int
  | [], [] => none
  | [], y :: _ => some y
  | x :: _, [] => some x
  | x :: _, y :: _ => some (min x y)
theorem nearI_none {a b : List Int} (h : nearI a b = none) : a = [] ∧ b = [] := by
  cases a with
  | nil => cases b with
    | nil => exact ⟨rfl, rfl⟩
    | cons y b => cases h
  | cons x a => cases b with
    | nil => cases h
    | cons y b => cases h
theorem nearI_some {c e : Int} {a b : List Int} (ha : upC c a = true) (hb : upC c b = true) (h : nearI a b = some e) :
    c < e ∧ (∀ x m, a = x :: m → e ≤ x) ∧ (∀ y m, b = y :: m → e ≤ y) ∧ (dropI e a).length + (dropI e b).length < a.length + b.length ∧ (e ∈ a ∨ e ∈ b) := by
  cases a with
  | nil =>
    cases b with
    | nil => cases h
    | cons y b =>
      obtain rfl : y = e := by rw [nearI] at h; injection h
      refine ⟨(upC_head hb).1, (fun x m h => by cases h), (fun y' m h => by injection h with h; omega), ?_, .inr (List.mem_cons_self ..)⟩
      rw [dropI_same]; simp [dropI]
  | cons x a =>
    have h1 := (upC_head ha).1
    cases b with
    | nil =>
      obtain rfl : x = e := by rw [nearI] at h; injection h
      refine ⟨h1, (fun x' m h => by injection h with h; omega), (fun y m h => by cases h), ?_, .inl (List.mem_cons_self ..)⟩
      rw [dropI_same]; simp [dropI]
    | cons y b =>
      have h3 := (upC_head hb).1
      obtain rfl : min x y = e := by rw [nearI] at h; injection h
      refine ⟨by omega, (fun x' m h => by injection h with h; omega), (fun y' m h => by injection h with h; omega), ?_, ?_⟩
      · have d1 := dropI_len (min x y) (x :: a)
        have d2 := dropI_len (min x y) (y :: b)
        by_cases hxy : x ≤ y
        · rw [show min x y = x by omega] at d2 ⊢
          rw [dropI_same]; simp only [List.length_cons] at *; omega
        · rw [show min x y = y by omega] at d1 ⊢
          rw [dropI_same]; simp only [List.length_cons] at *; omega
      · by_cases hxy : x ≤ y
        · rw [show min x y = x by omega]; exact .inl (List.mem_cons_self ..)
        · rw [show min x y = y by omega]; exact .inr (List.mem_cons_self ..)

/-! The sweep. -/
def inO : Option Int → Int → Bool
  | none, _ => false
  | some lo, n => decide (lo ≤ n)
def LowC (c : Int) (dn : List Rn) : Option Int → Prop
  | none => ∀ r ∈ dn, r.to < c
  | some lo => 1 ≤ lo ∧ lo ≤ c ∧ ∀ r ∈ dn, r.to + 2 ≤ lo
/-- What holds behind an edge c of both lists. -/
structure SwC (kf : Bool → Bool → Bool) (a b : List Rn) (c : Int) (x : Bool) (ea : List Int) (y : Bool) (eb : List Int) (dn : List Rn) (o : Option Int) : Prop where
  c0 : 0 ≤ c
  ua : upC c ea = true
  ub : upC c eb = true
  la : ∀ z ∈ ea, z ≤ 1099511627777
  lb : ∀ z ∈ eb, z ≤ 1099511627777
  ha : ∀ n, c ≤ n → togI x ea n = hasC a n
  hb : ∀ n, c ≤ n → togI y eb n = hasC b n
  rd : rightC dn = true
  low : LowC c dn o
  has : ∀ n, n ≤ c → kf (hasC a n) (hasC b n) = (hasC dn n || inO o n)
theorem hasC_zero (l : List Rn) {n : Int} (h : n ≤ 0) : hasC l n = false := by
  cases e : hasC l n with
  | false => rfl
  | true => have := hasC_range e; omega
theorem SwC.start {kf : Bool → Bool → Bool} (hk : kf false false = false) (a b : List Rn) : SwC kf a b 0 false (edgesI (ofC a)) false (edgesI (ofC b)) [] none where
  c0 := Int.le_refl _
  ua := edgesI_up (ofC_right a) fun r m e => by have := ofC_right a; rw [e] at this; have := oneC_iff.1 (rightC_head this); omega
  ub := edgesI_up (ofC_right b) fun r m e => by have := ofC_right b; rw [e] at this; have := oneC_iff.1 (rightC_head this); omega
  la := edgesI_top (ofC_right a)
  lb := edgesI_top (ofC_right b)
  ha := fun n _ => by rw [togI_edges (ofC_right a), ofC_has]
  hb := fun n _ => by rw [togI_edges (ofC_right b), ofC_has]
  rd := rfl
  low := fun r hr => by cases hr
  has := fun n hn => by rw [hasC_zero a hn, hasC_zero b hn, hk]; rfl
/-- What is told at an edge: what is done, and what stands open. -/
def stepD (e : Int) (v : Bool) (dn : List Rn) : Option Int → List Rn
  | none => dn
  | some lo => match v with | true => dn | false => dn ++ [⟨lo, e - 1⟩]
def stepO (e : Int) (v : Bool) : Option Int → Option Int
  | none => match v with | true => some e | false => none
  | some lo => match v with | true => some lo | false => none
theorem hasC_none {l : List Rn} {n : Int} (h : ∀ r ∈ l, r.to < n) : hasC l n = false := by
  unfold hasC
  rw [List.any_eq_false]
  intro r hr
  cases hi : inC r n with
  | false => simp
  | true => have := (inC_iff.1 hi).2.2; have := h r hr; omega
theorem rightC_snoc : ∀ {l : List Rn} {r : Rn}, rightC l = true → oneC r = true → (∀ t ∈ l, t.to + 2 ≤ r.fr) → rightC (l ++ [r]) = true
  | [], r, _, hr, _ => hr
  | [t], r, hl, hr, h => by
    show (oneC t && decide (t.to + 2 ≤ r.fr) && rightC [r]) = true
    rw [show oneC t = true from hl, decide_eq_true (h t (List.mem_cons_self ..)), show rightC [r] = true from hr]; rfl
  | t :: u :: l, r, hl, hr, h => by
    show (oneC t && decide (t.to + 2 ≤ u.fr) && rightC ((u :: l) ++ [r])) = true
    rw [rightC_head hl, decide_eq_true (rightC_gap hl), rightC_snoc (rightC_tail hl) hr fun t' ht' => h t' (List.mem_cons_of_mem _ ht')]; rfl
theorem SwC.step {kf : Bool → Bool → Bool} {a b : List Rn} {c : Int} {x : Bool} {ea : List Int} {y : Bool} {eb : List Int} {dn : List Rn} {o : Option Int} (h : SwC kf a b c x ea y eb dn o) {e : Int} (he : nearI ea eb = some e) :
    SwC kf a b e (passI e x ea) (dropI e ea) (passI e y eb) (dropI e eb) (stepD e (kf (passI e x ea) (passI e y eb)) dn o) (stepO e (kf (passI e x ea) (passI e y eb)) o) ∧ (dropI e ea).length + (dropI e eb).length < ea.length + eb.length ∧ 1 ≤ e ∧ e ≤ 1099511627777 := by
  obtain ⟨k1, k2, k3, k4, k5⟩ := nearI_some h.ua h.ub he
  obtain ⟨a1, a2, a3⟩ := dropI_ok (v := x) h.ua k1 k2
  obtain ⟨b1, b2, b3⟩ := dropI_ok (v := y) h.ub k1 k3
  have hc0 := h.c0
  have he1 : e ≤ 1099511627777 := by
    rcases k5 with k5 | k5
    · exact h.la _ k5
    · exact h.lb _ k5
  have pa : passI e x ea = hasC a e := by rw [passI_at a1 a2, h.ha e (by omega)]
  have pb : passI e y eb = hasC b e := by rw [passI_at b1 b2, h.hb e (by omega)]
  have ca : ∀ n, c ≤ n → n < e → hasC a n = hasC a c := fun n h1 h2 => by rw [← h.ha n h1, ← h.ha c (Int.le_refl _), a3 n h2, a3 c k1]
  have cb : ∀ n, c ≤ n → n < e → hasC b n = hasC b c := fun n h1 h2 => by rw [← h.hb n h1, ← h.hb c (Int.le_refl _), b3 n h2, b3 c k1]
  have hfc := h.has c (Int.le_refl _)
  have hlow := h.low
  refine ⟨?_, k4, by omega, he1⟩
  obtain ⟨v, hv⟩ : ∃ v, kf (passI e x ea) (passI e y eb) = v := ⟨_, rfl⟩
  rw [hv]
  have hv' : kf (hasC a e) (hasC b e) = v := by rw [← pa, ← pb, hv]
  have main : rightC (stepD e v dn o) = true ∧ LowC e (stepD e v dn o) (stepO e v o) ∧ ∀ n, n ≤ e → kf (hasC a n) (hasC b n) = (hasC (stepD e v dn o) n || inO (stepO e v o) n) := by
    cases o with
    | none =>
      have hlow : ∀ r ∈ dn, r.to < c := hlow
      have hz : ∀ n, c ≤ n → hasC dn n = false := fun n hn => hasC_none fun r hr => by have := hlow r hr; omega
      have hf : kf (hasC a c) (hasC b c) = false := by rw [hfc, hz c (Int.le_refl _)]; rfl
      cases v with
      | false =>
        refine ⟨h.rd, fun r hr => by have := hlow r hr; omega, fun n hn => ?_⟩
        show _ = (hasC dn n || false)
        by_cases h1 : n ≤ c
        · exact h.has n h1
        · rw [hz n (by omega)]
          by_cases h2 : n = e
          · rw [h2, hv']; rfl
          · rw [ca n (by omega) (by omega), cb n (by omega) (by omega), hf]; rfl
      | true =>
        refine ⟨h.rd, ⟨by omega, Int.le_refl _, fun r hr => by have := hlow r hr; omega⟩, fun n hn => ?_⟩
        show _ = (hasC dn n || decide (e ≤ n))
        by_cases h1 : n ≤ c
        · rw [decide_eq_false (by omega)]; exact h.has n h1
        · rw [hz n (by omega)]
          by_cases h2 : n = e
          · rw [h2, hv', decide_eq_true (Int.le_refl _)]; rfl
          · rw [ca n (by omega) (by omega), cb n (by omega) (by omega), hf, decide_eq_false (by omega)]; rfl
    | some lo =>
      have hlow : 1 ≤ lo ∧ lo ≤ c ∧ ∀ r ∈ dn, r.to + 2 ≤ lo := hlow
      obtain ⟨l1, l2, l3⟩ := hlow
      have hz : ∀ n, lo ≤ n → hasC dn n = false := fun n hn => hasC_none fun r hr => by have := l3 r hr; omega
      have hf : kf (hasC a c) (hasC b c) = true := by rw [hfc]; show (hasC dn c || decide (lo ≤ c)) = true; rw [decide_eq_true l2, Bool.or_true]
      cases v with
      | true =>
        refine ⟨h.rd, ⟨l1, by omega, l3⟩, fun n hn => ?_⟩
        show _ = (hasC dn n || decide (lo ≤ n))
        by_cases h1 : n ≤ c
        · exact h.has n h1
        · rw [decide_eq_true (show lo ≤ n by omega), Bool.or_true]
          by_cases h2 : n = e
          · rw [h2, hv']
          · rw [ca n (by omega) (by omega), cb n (by omega) (by omega), hf]
      | false =>
        have hone : oneC ⟨lo, e - 1⟩ = true := oneC_iff.2 ⟨l1, by show lo ≤ e - 1; omega, by show e - 1 ≤ _; omega⟩
        refine ⟨rightC_snoc h.rd hone l3, fun r hr => ?_, fun n hn => ?_⟩
        · rcases List.mem_append.1 hr with hr | hr
          · have := l3 r hr; omega
          · rw [List.mem_singleton.1 hr]; show e - 1 < e; omega
        · show _ = (hasC (dn ++ [⟨lo, e - 1⟩]) n || false)
          have hi : inC ⟨lo, e - 1⟩ n = (decide (lo ≤ n) && decide (n ≤ e - 1)) := by unfold inC; rw [hone, Bool.true_and]
          rw [hasC_append, hasC_cons, hasC_nil, Bool.or_false, Bool.or_false, hi]
          by_cases h2 : n = e
          · rw [h2, hv', hz e (by omega), decide_eq_false (show ¬ e ≤ e - 1 by omega), Bool.and_false]; rfl
          · rw [decide_eq_true (show n ≤ e - 1 by omega), Bool.and_true]
            by_cases h1 : n ≤ c
            · exact h.has n h1
            · rw [decide_eq_true (show lo ≤ n by omega), Bool.or_true, ca n (by omega) (by omega), cb n (by omega) (by omega), hf]
  exact ⟨by omega, a1, b1, fun z hz => h.la z (dropI_mem hz), fun z hz => h.lb z (dropI_mem hz), fun n hn => by rw [a2 n hn, h.ha n (by omega)], fun n hn => by rw [b2 n hn, h.hb n (by omega)], main.1, main.2.1, main.2.2⟩
theorem SwC.fin {kf : Bool → Bool → Bool} (hk : kf false false = false) {a b : List Rn} {c : Int} {x : Bool} {ea : List Int} {y : Bool} {eb : List Int} {dn : List Rn} {o : Option Int} (h : SwC kf a b c x ea y eb dn o) (he : nearI ea eb = none) (op : Int) (hop : ∀ n, kf (hasC a n) (hasC b n) = isC op a b n) : o = none ∧ dn = makeC op a b := by
  obtain ⟨rfl, rfl⟩ := nearI_none he
  have ha : ∀ n, c ≤ n → hasC a n = false := fun n hn => by
    rw [← h.ha n hn, show togI x [] n = togI x [] (n + 1099511627777) from rfl, h.ha _ (by omega)]
    cases e : hasC a (n + 1099511627777) with
    | false => rfl
    | true => have := hasC_range e; have := h.c0; omega
  have hb : ∀ n, c ≤ n → hasC b n = false := fun n hn => by
    rw [← h.hb n hn, show togI y [] n = togI y [] (n + 1099511627777) from rfl, h.hb _ (by omega)]
    cases e : hasC b (n + 1099511627777) with
    | false => rfl
    | true => have := hasC_range e; have := h.c0; omega
  have hc := h.has c (Int.le_refl _)
  rw [ha c (Int.le_refl _), hb c (Int.le_refl _), hk] at hc
  have hlow := h.low
  cases o with
  | some lo =>
    exfalso
    have hlow : 1 ≤ lo ∧ lo ≤ c ∧ ∀ r ∈ dn, r.to + 2 ≤ lo := hlow
    rw [show inO (some lo) c = decide (lo ≤ c) from rfl, decide_eq_true hlow.2.1, Bool.or_true] at hc
    cases hc
  | none =>
    have hlow : ∀ r ∈ dn, r.to < c := hlow
    refine ⟨rfl, makeC_unique h.rd fun n => ?_⟩
    show _ = isC op a b n
    rw [← hop]
    by_cases h1 : n ≤ c
    · rw [h.has n h1]; show _ = (_ || false); rw [Bool.or_false]
    · rw [ha n (by omega), hb n (by omega), hk]
      exact hasC_none fun r hr => by have := hlow r hr; omega

/-! The greatest count. -/
def topC : Int → List Rn → Int
  | m, [] => m
  | m, r :: l => topC (match oneC r with | true => max m r.to | false => m) l
theorem topC_ok : ∀ (l : List Rn) (m : Int), m ≤ topC m l ∧ (∀ n, hasC l n = true → n ≤ topC m l) ∧ (topC m l = m ∨ hasC l (topC m l) = true)
  | [], m => ⟨Int.le_refl _, (fun n h => by cases h), .inl rfl⟩
  | r :: l, m => by
    cases hr : oneC r with
    | false =>
      obtain ⟨h1, h2, h3⟩ := topC_ok l m
      rw [show topC m (r :: l) = topC m l by rw [topC, hr]]
      have hi : ∀ n, inC r n = false := fun n => by unfold inC; rw [hr]; rfl
      refine ⟨h1, fun n hn => h2 n ?_, h3.imp id fun h => ?_⟩
      · rw [hasC_cons, hi, Bool.false_or] at hn; exact hn
      · rw [hasC_cons, hi, Bool.false_or]; exact h
    | true =>
      obtain ⟨h1, h2, h3⟩ := topC_ok l (max m r.to)
      rw [show topC m (r :: l) = topC (max m r.to) l by rw [topC, hr]]
      refine ⟨by omega, fun n hn => ?_, ?_⟩
      · rw [hasC_cons, Bool.or_eq_true] at hn
        rcases hn with hn | hn
        · have := (inC_iff.1 hn).2.2; omega
        · exact h2 n hn
      · rcases h3 with h3 | h3
        · by_cases h4 : m ≤ r.to
          · refine .inr ?_
            rw [h3, show max m r.to = r.to by omega, hasC_cons, inC_iff.2 ⟨hr, (oneC_iff.1 hr).2.1, Int.le_refl _⟩]; rfl
          · exact .inl (by omega)
        · exact .inr (by rw [hasC_cons, h3, Bool.or_true])
theorem topC_most (l : List Rn) : topC 0 l = mostC l := by
  obtain ⟨h1, h2, h3⟩ := topC_ok l 0
  obtain ⟨m1, m2, m3, _⟩ := most_ok l
  by_cases h4 : 0 < mostC l
  · have := h2 _ (m2 h4)
    rcases h3 with h3 | h3
    · omega
    · have := m1 _ h3; omega
  · rcases h3 with h3 | h3
    · omega
    · have := m1 _ h3; omega
theorem topC_range {l : List Rn} {m : Int} (h0 : 0 ≤ m) (h1 : m ≤ 1099511627776) : 0 ≤ topC m l ∧ topC m l ≤ 1099511627776 := by
  obtain ⟨h2, _, h3⟩ := topC_ok l m
  rcases h3 with h3 | h3
  · omega
  · have := hasC_range h3; omega
theorem topC_take {l : List Rn} {k : Nat} {r : Rn} (h : l[k]? = some r) (m : Int) : topC m (l.take (k + 1)) = (match oneC r with | true => max (topC m (l.take k)) r.to | false => topC m (l.take k)) := by
  have ap : ∀ (a : List Rn) (m : Int) (r : Rn), topC m (a ++ [r]) = (match oneC r with | true => max (topC m a) r.to | false => topC m a) := by
    intro a
    induction a with
    | nil => intro m r; cases hr : oneC r <;> simp [topC, hr]
    | cons t a ih => intro m r; rw [List.cons_append, topC, ih, topC]
  rw [List.take_add_one, h]
  exact ap _ m r

/-! How many. -/
theorem rightC_take : ∀ {l : List Rn} (k : Nat), rightC l = true → rightC (l.take k) = true
  | [], k, h => by simp [rightC]
  | r :: l, 0, h => rfl
  | [r], k + 1, h => by rw [List.take_succ_cons, List.take_nil]; exact h
  | r :: t :: l, 1, h => by exact rightC_head h
  | r :: t :: l, k + 2, h => by
    have := rightC_take (k + 1) (rightC_tail h)
    rw [List.take_succ_cons] at this
    rw [List.take_succ_cons, List.take_succ_cons]
    unfold rightC
    rw [rightC_head h, decide_eq_true (rightC_gap h), this]; rfl
theorem sumC_range {l : List Rn} (h : rightC l = true) : 0 ≤ sumC l ∧ sumC l ≤ 1099511627776 := by
  obtain ⟨k, hk⟩ : ∃ k : Nat, (k : Int) = 1099511627776 := ⟨1099511627776, rfl⟩
  rw [sum_card h hk]
  have := card_bounds (hasC l) k
  omega
theorem sumC_append : ∀ (a b : List Rn), sumC (a ++ b) = sumC a + sumC b
  | [], b => by show _ = 0 + _; rw [Int.zero_add]; rfl
  | r :: a, b => by rw [List.cons_append, sumC, sumC, sumC_append a b]; omega
theorem sumC_take {l : List Rn} {k : Nat} {r : Rn} (h : l[k]? = some r) : sumC (l.take (k + 1)) = sumC (l.take k) + (r.to - r.fr + 1) := by
  rw [List.take_add_one, h, sumC_append]
  show _ + ((r.to - r.fr + 1) + 0) = _
  omega
theorem baseC_first (l : List Rn) : baseC l = (match ofC l with | [] => 0 | r :: _ => match decide (r.fr > 1) with | true => 0 | false => r.to) := by
  unfold baseC
  cases h : ofC l with
  | nil => rfl
  | cons r u =>
    have h1 := ofC_right l
    rw [h] at h1
    have h2 := oneC_iff.1 (rightC_head h1)
    show (match decide (r.fr = 1) with | true => r.to | false => 0) = (match decide (r.fr > 1) with | true => 0 | false => r.to)
    by_cases h3 : r.fr = 1
    · rw [decide_eq_true h3, decide_eq_false (show ¬ r.fr > 1 by omega)]
    · rw [decide_eq_false h3, decide_eq_true (show r.fr > 1 by omega)]
end Go.Proofs.YtaodifpnfejbbaaGreat

/-
  A run in a block.
-/
namespace Go.Proofs.YtaodifpnfejbbaaGreat
open Go.RowKit

/-- A run in a block. -/
def RnAt (w : World) (g : Nat) (X Y : Int) : Prop := w.cell? ⟨g, 0, none⟩ = some (.int .i64 X) ∧ w.cell? ⟨g, 1, none⟩ = some (.int .i64 Y) ∧ ∀ k, w.frozen? ⟨g, k, none⟩ = false
theorem RnAt.lt {w : World} {g : Nat} {X Y : Int} (h : RnAt w g X Y) : g < w.heap.size := World.block_lt_of_cell? w _ h.1
theorem RnAt.below {w w' : World} {g : Nat} {X Y : Int} (h : RnAt w g X Y) (hb : Below w.heap.size w w') : RnAt w' g X Y := by
  obtain ⟨hc, hf⟩ := bcell hb
  have hl := h.lt
  exact ⟨(hc _ _ hl).trans h.1, (hc _ _ hl).trans h.2.1, fun k => (hf _ _ hl).trans (h.2.2 k)⟩
theorem rnAt_new (w : World) (X Y : Int) (t : TypeId) : RnAt (w.alloc (.cells #[.int .i64 X, .int .i64 Y] t)) w.heap.size X Y := by
  have h := heap_new w (.cells #[.int .i64 X, .int .i64 Y] t) _ rfl
  refine ⟨?_, ?_, fun k => ?_⟩
  · rw [cell_of_row _ _ _ _ _ _ h]; rfl
  · rw [cell_of_row _ _ _ _ _ _ h]; rfl
  · unfold World.frozen?; rw [h]; simp
theorem RnAt.grown {w w' : World} {row : Option Nat} {g : Nat} {X Y : Int} (h : RnAt w g X Y) (hg : w.grownBy w' row) (hne : some g ≠ row) : RnAt w' g X Y :=
  ⟨hg.cell h.1 hne, hg.cell h.2.1 hne, fun k => (hg.frozen_far ⟨g, k, none⟩ h.lt hne).trans (h.2.2 k)⟩
end Go.Proofs.YtaodifpnfejbbaaGreat
