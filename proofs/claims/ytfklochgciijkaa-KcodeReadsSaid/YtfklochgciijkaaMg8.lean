/-
  Several texts in one: FcdC, FltC, SpanC, FltD, FcdD, KnwSets, VrA, VstD, Deep, VstE, VstF, VstG.
-/
import Derived.Deep.CutRange
import Derived.BigQuiet
import Derived.Deep.RegionHeld3
import Derived.Deep.DeepCutAuto
import Derived.Test.YtfklochgciijkaaMg7
/-
  Layer 10 (fcode), the document's words: a filter's bytes.
-/
namespace Go.Proofs.Ytfklochgciijkaa
open Go.RowKit

theorem nodeB_len {r : Nd} (h : r.lo.length ≤ 1000000 ∧ r.hi.length ≤ 1000000) : (nodeB r).length ≤ 2000030 := by
  have h1 := txtB_len h.1
  have h2 := txtB_len h.2
  have e1 : (if 3 ≤ r.op ∧ r.op ≤ 5 then txtB r.lo else []).length ≤ 1000010 := by by_cases h : 3 ≤ r.op ∧ r.op ≤ 5 <;> first | (rw [if_pos h]; omega) | (rw [if_neg h]; simp)
  have e2 : (if r.op = 4 then txtB r.hi else []).length ≤ 1000010 := by by_cases h : r.op = 4 <;> first | (rw [if_pos h]; omega) | (rw [if_neg h]; simp)
  have e3 : (if 7 ≤ r.op then [opB r.kids] else []).length ≤ 1 := by split <;> simp
  unfold nodeB
  rw [List.length_cons, List.length_append, List.length_append]
  omega
theorem opB_int {x : Int} (h0 : 0 ≤ x) (h1 : x ≤ 255) : x = ((opB x).toNat : Int) := by
  unfold opB
  simp
  omega
end Go.Proofs.Ytfklochgciijkaa

/-
  Layer 9 (filter), the document's words: has a filter a text.
-/
namespace Go.Proofs.Ytfklochgciijkaa
open Go.RowKit

theorem dep_last {l : List Nd} {k d : Nat} {n : Nd} (h : l[k]? = some n) (hd : depV (l.take (k + 1)) 0 = some d) : ∃ e, depV (l.take k) 0 = some e ∧ nodeV n = true ∧ kidsN n ≤ e ∧ d = e - kidsN n + 1 := by
  rw [List.take_add_one, h, depV_append] at hd
  cases he : depV (l.take k) 0 with
  | none => rw [he] at hd; cases hd
  | some e =>
    rw [he] at hd
    obtain ⟨h1, h2, h3⟩ := depV_one.1 hd
    exact ⟨e, rfl, h1, h2, h3⟩
theorem top_last {l : List Nd} {k : Nat} {n : Nd} (h : l[k]? = some n) : topV (l.take (k + 1)) = valN n ((stkV (l.take k)).take (kidsN n)) := by
  rw [List.take_add_one, h]; exact topV_snoc _ _
/-- Behind so many filters taken off: the place, what stands open there. -/
theorem cnt_place {l : List Nd} {k e i : Nat} (hd : depV (l.take k) 0 = some e) (hi : i ≤ e) :
    ∃ q, q ≤ k ∧ cntV i (l.take k).reverse = some (l.take q).reverse ∧ (l.take q).length = q ∧ depV (l.take q) 0 = some (e - i) ∧ stkV (l.take q) = (stkV (l.take k)).drop i := by
  obtain ⟨R, h1, h2, h3⟩ := cnt_stk (l.take k).reverse i e (by rw [List.reverse_reverse]; exact hd) hi
  obtain ⟨h4, h5⟩ := take_rev_suffix (cntV_suffix _ _ h1)
  rw [List.reverse_reverse] at h3
  refine ⟨R.length, h5, by rw [h1]; exact congrArg some h4, ?_, ?_, ?_⟩
  · have := congrArg List.length h4; rw [List.length_reverse] at this; exact this.symm
  · have := congrArg List.reverse h4; rw [List.reverse_reverse] at this; rw [← this]; exact h2
  · have := congrArg List.reverse h4; rw [List.reverse_reverse] at this; rw [← this]; exact h3
theorem beg_place {l : List Nd} {p q : Nat} (h : cntV 1 (l.take p).reverse = some (l.take q).reverse) (hq : (l.take q).length = q) : begV l p = (q : Nat) := by
  rw [begV_some h, List.length_reverse, hq]
theorem stk_at {l : List Nd} {k e i q : Nat} (hz : (stkV (l.take k)).length = e) (hi : i < e) (h : stkV (l.take q) = (stkV (l.take k)).drop i) : (stkV (l.take k))[i]? = some (topV (l.take q)) := by
  unfold topV
  rw [h]
  have hi' : i < (stkV (l.take k)).length := by omega
  rw [List.drop_eq_getElem_cons hi', List.headD_cons, List.getElem?_eq_getElem hi']
theorem take_any {st : List TxtP} {i : Nat} {f : TxtP} (h : st[i]? = some f) (s : List UInt8) : ((st.take (i + 1)).any fun k => k s) = ((st.take i).any (fun k => k s) || f s) := by
  rw [List.take_add_one, h]; simp
theorem take_all {st : List TxtP} {i : Nat} {f : TxtP} (h : st[i]? = some f) (s : List UInt8) : ((st.take (i + 1)).all fun k => k s) = ((st.take i).all (fun k => k s) && f s) := by
  rw [List.take_add_one, h]; simp
theorem val_1 {n : Nd} (h : n.op = 1) (ks : List TxtP) (s : List UInt8) : valN n ks s = true := by unfold valN; rw [if_pos h]
theorem val_3 {n : Nd} (h : n.op = 3) (ks : List TxtP) (s : List UInt8) : valN n ks s = n.lo.isPrefixOf s := by unfold valN; rw [if_neg (by omega), if_pos h]
theorem val_4 {n : Nd} (h : n.op = 4) (ks : List TxtP) (s : List UInt8) : valN n ks s = hasR ⟨n.lo, n.hi, false⟩ s := by unfold valN; rw [if_neg (by omega), if_neg (by omega), if_pos h]
theorem val_5 {n : Nd} (h : n.op = 5) (ks : List TxtP) (s : List UInt8) : valN n ks s = !ltB s n.lo := by unfold valN; rw [if_neg (by omega), if_neg (by omega), if_neg (by omega), if_pos h]
theorem val_6 {n : Nd} (h : n.op = 6) (ks : List TxtP) (s : List UInt8) : valN n ks s = !(ks.any fun k => k s) := by unfold valN; rw [if_neg (by omega), if_neg (by omega), if_neg (by omega), if_neg (by omega), if_pos h]
theorem val_else {n : Nd} (h : n.op = 2 ∨ n.op = 7 ∨ n.op = 8) (ks : List TxtP) (s : List UInt8) : valN n ks s = ((n.op == 7) && ks.all (fun k => k s) || (n.op == 8) && ks.any fun k => k s) := by
  unfold valN
  rw [if_neg (by omega), if_neg (by omega), if_neg (by omega), if_neg (by omega), if_neg (by omega)]
  rcases h with h | h | h <;> rw [h] <;> simp
end Go.Proofs.Ytfklochgciijkaa

/-
  Layer 7 (span): the ranges of one text, and of those that begin with one.
-/
namespace Go.Proofs.Ytfklochgciijkaa
open Go.RowKit

/-- What the range of a prefix is, in terms of the prefix's end. -/
theorem prefixR_end {p : List UInt8} (h : p.length ≤ 16) {x : List UInt8} {v : Bool} (hv : (endV p = some x ∧ v = true) ∨ (endV p = none ∧ x = [] ∧ v = false)) : prefixR p = ⟨p, x, !v⟩ := by
  rcases hv with ⟨h1, rfl⟩ | ⟨h1, rfl, rfl⟩
  · rw [prefixR_some h h1]; rfl
  · rw [prefixR_none h h1]; rfl
end Go.Proofs.Ytfklochgciijkaa

/-
  Layer 9 (filter), the document's words: has a right filter a text; its leaves' ranges.
-/
namespace Go.Proofs.Ytfklochgciijkaa
open Go.RowKit

theorem leaves_next {l : List Nd} {k : Nat} {n : Nd} (h : l[k]? = some n) : leavesL (l.take (k + 1)) = leavesL (l.take k) ++ (leafR n).toList := by
  unfold leavesL
  rw [List.take_add_one, h, List.filterMap_append]
  exact congrArg _ (by cases hl : leafR n <;> simp [hl])
theorem leaves_len (l : List Nd) : (leavesL l).length ≤ l.length := List.length_filterMap_le _ _
theorem leafR_3 {n : Nd} (h : n.op = 3) : leafR n = some (prefixR n.lo) := by unfold leafR; rw [if_pos h]
theorem leafR_4 {n : Nd} (h : n.op = 4) : leafR n = some ⟨n.lo, n.hi, false⟩ := by unfold leafR; rw [if_neg (by omega), if_pos h]
theorem leafR_5 {n : Nd} (h : n.op = 5) : leafR n = some ⟨n.lo, [], true⟩ := by unfold leafR; rw [if_neg (by omega), if_neg (by omega), if_pos h]
theorem leafR_no {n : Nd} (h3 : n.op ≠ 3) (h4 : n.op ≠ 4) (h5 : n.op ≠ 5) : leafR n = none := by unfold leafR; rw [if_neg h3, if_neg h4, if_neg h5]
end Go.Proofs.Ytfklochgciijkaa

/-
  Layer 10 (fcode), the document's words: the list that bytes are.
-/
namespace Go.Proofs.Ytfklochgciijkaa
open Go.RowKit

/-- What a call leaves that works on the document's reader alone; the bytes' length has its own letter. -/
def RfQ (w : World) (m : Nat) (A : Option Addr) (N c : Nat) (b : List UInt8) (v : Value) (l : List UInt8) (e : Int) (x : Ending) (w' : World) : Prop :=
  x = .returned v ∧ ∃ a, a ≤ N ∧ l = b.drop a ∧ RfAt w' m A N c a e ∧ w.grownBy w' (some m)
theorem rf_within_q {w : World} {m B a N c : Nat} {A : Option Addr} {b l r : List UInt8} {e e2 : Int} {n : Nat} {lo hi : Int} (hN : N = b.length) (hw : withinR lo hi l e = (n, r, e2)) (hla : l = b.drop a) (h : RfAt w m A N c a e) (hr : RdB w B A c b) (ha : a ≤ N) (hl : N ≤ 1000000) :
    Calls Try.prog 42 #[.pointer (some ⟨m, 0, none⟩), .int .i64 lo, .int .i64 hi] w (RfQ w m A N c b (.int .i64 n) r e2) := by
  subst hN hla
  have := rf_within h hr ha lo hi hl
  rw [hw] at this
  exact this
theorem rf_text_q {w : World} {m B a N c : Nat} {A : Option Addr} {b l r s : List UInt8} {e e2 : Int} {S : ByteArray} {most : Int} (hN : N = b.length) (hw : textR most l e = (s, r, e2)) (hS : str s = S) (hla : l = b.drop a) (h : RfAt w m A N c a e) (hr : RdB w B A c b) (ha : a ≤ N) (hm : B ≤ m) (hl : N ≤ 1000000) :
    Calls Try.prog 43 #[.pointer (some ⟨m, 0, none⟩), .int .i64 most] w (RfQ w m A N c b (.string S) r e2) := by
  subst hN hla hS
  have := rf_text h hr ha hm most hl
  rw [hw] at this
  exact this
theorem rf_end_q {w : World} {m a N c : Nat} {A : Option Addr} {b l : List UInt8} {e x : Int} (hN : N = b.length) (hx : endR l e = x) (hla : l = b.drop a) (h : RfAt w m A N c a e) (ha : a ≤ N) :
    Calls Try.prog 41 #[.pointer (some ⟨m, 0, none⟩)] w (RfQ w m A N c b (.int .i64 x) l e) := by
  subst hN hla hx
  exact rf_end h ha
theorem manyR_step {α : Type} (f : List UInt8 → Int → α × List UInt8 × Int) {n k : Nat} (h : k < n) (l : List UInt8) : manyR f (n - k) l 0 = ((f l 0).1 :: (manyR f (n - (k + 1)) (f l 0).2.1 (f l 0).2.2).1, (manyR f (n - (k + 1)) (f l 0).2.1 (f l 0).2.2).2) := by
  rw [show n - k = (n - (k + 1)) + 1 by omega, manyR, if_pos rfl]
theorem manyR_end {α : Type} (f : List UInt8 → Int → α × List UInt8 × Int) (n : Nat) (l : List UInt8) {e : Int} (h : n = 0 ∨ e ≠ 0) : manyR f n l e = ([], l, e) := by
  cases n with
  | zero => rfl
  | succ n =>
    rw [manyR, if_neg]
    rcases h with h | h
    · omega
    · exact h
theorem allR2_of {α : Type} {f : List UInt8 → Int → α × List UInt8 × Int} {most : Int} {right : List α → Bool} {b r1 l : List UInt8} {n : Nat} {e1 e x : Int} {dn : List α} {v : Bool} (h1 : withinR 0 most b 0 = (n, r1, e1)) (h2 : manyR f n r1 e1 = (dn, l, e)) (hx : endR l e = x) (hv : right dn = v) :
    allR2 f most right b = if x ≠ 0 then ([], x) else match v with | true => (dn, 0) | false => ([], 11) := by
  subst hx hv
  unfold allR2
  rw [h1]
  simp only
  rw [h2]
  rfl
theorem textR_size (m : Int) (l : List UInt8) (e : Int) : (textR m l e).1.length ≤ l.length := by
  have := withinR_len 0 m l e
  unfold textR
  split
  · simp
  · simp only [List.length_take]; omega
theorem manyR_all {α : Type} {f : List UInt8 → Int → α × List UInt8 × Int} {B : Nat} {p : α → Prop} (hf : ∀ l e, l.length ≤ B → p (f l e).1 ∧ (f l e).2.1.length ≤ B) : ∀ (n : Nat) (l : List UInt8) (e : Int), l.length ≤ B → ∀ x ∈ (manyR f n l e).1, p x
  | 0, l, e, _, x, hx => by cases hx
  | n + 1, l, e, h, x, hx => by
    rw [manyR] at hx
    split at hx
    · rcases List.mem_cons.1 hx with rfl | hx
      · exact (hf l e h).1
      · exact manyR_all hf n _ _ (hf l e h).2 x hx
    · cases hx
theorem rngR_size {B : Nat} (l : List UInt8) (e : Int) (h : l.length ≤ B) : ((rngR l e).1.lo.length ≤ B ∧ (rngR l e).1.hi.length ≤ B) ∧ (rngR l e).2.1.length ≤ B := by
  have a1 := textR_size 17 l e
  have a2 := textR_len 17 l e
  have b2 := withinR_len 0 1 (textR 17 l e).2.1 (textR 17 l e).2.2
  have c1 := textR_size 17 (withinR 0 1 (textR 17 l e).2.1 (textR 17 l e).2.2).2.1 (withinR 0 1 (textR 17 l e).2.1 (textR 17 l e).2.2).2.2
  have c2 := textR_len 17 (withinR 0 1 (textR 17 l e).2.1 (textR 17 l e).2.2).2.1 (withinR 0 1 (textR 17 l e).2.1 (textR 17 l e).2.2).2.2
  unfold rngR
  simp only
  split
  · simp only [List.length_nil]; omega
  · simp only; omega
theorem RgAt.kept {w w' : World} {g m : Nat} {S T : ByteArray} {o : Bool} (h : RgAt w g S T o) (hg : w.grownBy w' (some m)) (hne : g ≠ m) : RgAt w' g S T o := by
  have hb := hg.block g h.lt (fun e => hne (by injection e))
  obtain ⟨h0, h1, h2, h3⟩ := h
  have hn : some g ≠ some m := fun e => hne (by injection e)
  exact ⟨hg.cell h0 hn, hg.cell h1 hn, hg.cell h2 hn, fun k => by
    have := h3 k
    unfold World.frozen? at this ⊢
    simp only [hb]
    exact this⟩
theorem Kind.Own.set_far {P : Program} {α : Type} {K : Kind P α} {w : World} {base g k : Nat} {v : Value} {l : List α} (h : K.Own w base v l) (hv : ∀ x, v.ownBlock = some x → x < g) (u : Value) : K.Own (w.setCell ⟨g, k, none⟩ u) base v l :=
  h.kept (grownBy_set _ _ _ _) (by
    cases hx : v.ownBlock with
    | none => exact .inl rfl
    | some x => exact .inr (fun e => by have := hv x hx; injection e with e; omega))
theorem RfAt.far {w : World} {m n c a g k : Nat} {A : Option Addr} {e : Int} (h : RfAt w m A n c a e) (hne : m ≠ g) (u : Value) : RfAt (w.setCell ⟨g, k, none⟩ u) m A n c a e := h.kept (grownBy_set _ _ _ _) (fun e => hne (by injection e))
end Go.Proofs.Ytfklochgciijkaa

/-
  Plain facts on knowledge as sets (layer 15): joined, the one without the other, restricted. No program in this text.
-/
namespace Go.Proofs.Ytfklochgciijkaa

/-- What is meant of a text: 1 what a and b together, 2 what a and not b has, else what a has, if the ranges have the text. -/
def whatP (op : Int) (a b : List Pc) (l : List Rng) (s : List UInt8) : List Kn :=
  match decide (op = 1) with
  | true => makeS 1 (atK a s) (atK b s)
  | false => match decide (op = 2) with
    | true => makeS 3 (atK a s) (atK b s)
    | false => match hasL l s with
      | true => atK a s
      | false => []
theorem whatP1 (a b : List Pc) (l : List Rng) (s : List UInt8) : whatP 1 a b l s = makeS 1 (atK a s) (atK b s) := rfl
theorem whatP2 (a b : List Pc) (l : List Rng) (s : List UInt8) : whatP 2 a b l s = makeS 3 (atK a s) (atK b s) := rfl
theorem whatP3_in {a b : List Pc} {l : List Rng} {s : List UInt8} (h : hasL l s = true) : whatP 3 a b l s = atK a s := by
  show (match hasL l s with | true => atK a s | false => []) = _
  rw [h]
theorem whatP3_out {a b : List Pc} {l : List Rng} {s : List UInt8} (h : hasL l s = false) : whatP 3 a b l s = [] := by
  show (match hasL l s with | true => atK a s | false => []) = _
  rw [h]
def spansP (k : List Pc) : List Rng := k.map Pc.rng
theorem spansP_mem {k : List Pc} {p : Pc} (h : p ∈ k) : p.rng ∈ spansP k := List.mem_map.2 ⟨p, h, rfl⟩
/-- The right list of what is meant. -/
def makeP (op : Int) (a b : List Pc) (l : List Rng) : List Pc := mkP (whatP op a b l) (edgesL (spansP a ++ (spansP b ++ l))) none
theorem setP_det {p : Pc} {E : List (List UInt8)} (h : rightR p.rng = true → p.rng.lo ∈ E ∧ (p.rng.op = false → p.rng.hi ∈ E)) : DetP (setP p) E := fun s c hs => by
  unfold setP; rw [hasR_det h s c hs]
theorem catK_det : ∀ {k : List Pc} {E : List (List UInt8)}, (∀ p ∈ k, rightR p.rng = true → p.rng.lo ∈ E ∧ (p.rng.op = false → p.rng.hi ∈ E)) → DetP (catK k) E
  | [], _, _ => fun _ _ _ => rfl
  | p :: k, E, h => fun s c hs => by
    rw [catK, catK, setP_det (h p (List.mem_cons_self ..)) s c hs, catK_det (fun q hq => h q (List.mem_cons_of_mem _ hq)) s c hs]
theorem atK_det {k : List Pc} {E : List (List UInt8)} (h : ∀ p ∈ k, rightR p.rng = true → p.rng.lo ∈ E ∧ (p.rng.op = false → p.rng.hi ∈ E)) : DetP (atK k) E := fun s c hs => by
  unfold atK; rw [catK_det h s c hs]
theorem atK_is_right (k : List Pc) (s : List UInt8) : rightS (atK k s) = true := ofS_right _
theorem whatP_right (op : Int) (a b : List Pc) (l : List Rng) (s : List UInt8) : rightS (whatP op a b l s) = true := by
  unfold whatP
  cases decide (op = 1)
  · cases decide (op = 2)
    · cases hasL l s
      · rfl
      · exact atK_is_right a s
    · exact makeS_right _ _ _
  · exact makeS_right _ _ _
theorem whatP_det (op : Int) (a b : List Pc) (l : List Rng) : DetP (whatP op a b l) (edgesL (spansP a ++ (spansP b ++ l))) := fun s c hs => by
  have ha : DetP (atK a) (edgesL (spansP a ++ (spansP b ++ l))) := atK_det fun p hp hR => edges_mem (spansP a ++ (spansP b ++ l)) [[]] (List.mem_append.2 (.inl (spansP_mem hp))) hR
  have hb : DetP (atK b) (edgesL (spansP a ++ (spansP b ++ l))) := atK_det fun p hp hR => edges_mem (spansP a ++ (spansP b ++ l)) [[]] (List.mem_append.2 (.inr (List.mem_append.2 (.inl (spansP_mem hp))))) hR
  have hl : Det (hasL l) (edgesL (spansP a ++ (spansP b ++ l))) := hasL_det fun r hr hR => edges_mem (spansP a ++ (spansP b ++ l)) [[]] (List.mem_append.2 (.inr (List.mem_append.2 (.inr hr)))) hR
  unfold whatP
  rw [ha s c hs, hb s c hs, hl s c hs]
theorem makeP_ok (op : Int) (a b : List Pc) (l : List Rng) : rightP (makeP op a b l) = true ∧ ∀ s, catK (makeP op a b l) s = whatP op a b l s :=
  mkP_all (whatP_right op a b l) (edgesL_ok _) (whatP_det op a b l)
theorem makeP_right (op : Int) (a b : List Pc) (l : List Rng) : rightP (makeP op a b l) = true := (makeP_ok op a b l).1
theorem makeP_cat (op : Int) (a b : List Pc) (l : List Rng) (s : List UInt8) : catK (makeP op a b l) s = whatP op a b l s := (makeP_ok op a b l).2 s
theorem makeP_at (op : Int) (a b : List Pc) (l : List Rng) (s : List UInt8) : atK (makeP op a b l) s = whatP op a b l s := by rw [atK_right (makeP_right op a b l), makeP_cat]
theorem makeP_unique {op : Int} {a b u : List Pc} {l : List Rng} (h : rightP u = true) (hs : ∀ s, atK u s = whatP op a b l s) : u = makeP op a b l :=
  rightP_unique h (makeP_right op a b l) fun s => by rw [makeP_cat, ← hs, atK_right h]
def ofP (k : List Pc) : List Pc := makeP 1 k [] []
def joinP (a b : List Pc) : List Pc := makeP 1 a b []
def lessP (a b : List Pc) : List Pc := makeP 2 a b []
def restP (k : List Pc) (l : List Rng) : List Pc := makeP 3 k [] l
theorem atK_nil (s : List UInt8) : atK [] s = [] := ofS_nil
theorem atK_of (k : List Pc) (s : List UInt8) : ofS (atK k s) = atK k s := ofS_self (atK_is_right k s)
theorem ofP_at (k : List Pc) (s : List UInt8) : atK (ofP k) s = atK k s := by
  rw [ofP, makeP_at, whatP1, atK_nil]; exact atK_of k s
theorem joinP_at (a b : List Pc) (s : List UInt8) : atK (joinP a b) s = makeS 1 (atK a s) (atK b s) := by rw [joinP, makeP_at, whatP1]
theorem lessP_at (a b : List Pc) (s : List UInt8) : atK (lessP a b) s = makeS 3 (atK a s) (atK b s) := by rw [lessP, makeP_at, whatP2]
theorem restP_in {k : List Pc} {l : List Rng} {s : List UInt8} (h : hasL l s = true) : atK (restP k l) s = atK k s := by rw [restP, makeP_at, whatP3_in h]
theorem restP_out {k : List Pc} {l : List Rng} {s : List UInt8} (h : hasL l s = false) : atK (restP k l) s = [] := by rw [restP, makeP_at, whatP3_out h]
theorem atP_unique {u v : List Pc} (hu : rightP u = true) (hv : rightP v = true) (h : ∀ s, atK u s = atK v s) : u = v :=
  rightP_unique hu hv fun s => by rw [← atK_right hu, ← atK_right hv, h]
theorem ofP_iff {a b : List Pc} : ofP a = ofP b ↔ ∀ s, atK a s = atK b s :=
  ⟨fun h s => by rw [← ofP_at a, ← ofP_at b, h], fun h => atP_unique (makeP_right ..) (makeP_right ..) fun s => by rw [ofP_at, ofP_at, h]⟩
theorem ofP_self {k : List Pc} (h : rightP k = true) : ofP k = k := atP_unique (makeP_right ..) h (ofP_at k)
theorem rightP_empty {u : List Pc} (h : rightP u = true) (hs : ∀ s, atK u s = []) : u = [] := atP_unique h rfl fun s => by rw [hs, atK_nil]
theorem lessP_iff {a b : List Pc} : lessP a b = [] ↔ ∀ s, makeS 3 (atK a s) (atK b s) = [] :=
  ⟨fun h s => by rw [← lessP_at, h, atK_nil], fun h => rightP_empty (makeP_right ..) fun s => by rw [lessP_at, h]⟩
theorem atK_same {a b : List Pc} {s : List UInt8} : atK a s = atK b s ↔ makeS 3 (atK a s) (atK b s) = [] ∧ makeS 3 (atK b s) (atK a s) = [] := by
  rw [← same_within, atK_of, atK_of]
theorem same_withinP {a b : List Pc} : ofP a = ofP b ↔ lessP a b = [] ∧ lessP b a = [] := by
  rw [ofP_iff, lessP_iff, lessP_iff]
  exact ⟨fun h => ⟨fun s => (atK_same.1 (h s)).1, fun s => (atK_same.1 (h s)).2⟩, fun h s => atK_same.2 ⟨h.1 s, h.2 s⟩⟩
theorem joinP_comm (a b : List Pc) : joinP a b = joinP b a := atP_unique (makeP_right ..) (makeP_right ..) fun s => by rw [joinP_at, joinP_at, makeS_back1]
theorem lessP_joined (a b : List Pc) : joinP (lessP a b) b = joinP a b := atP_unique (makeP_right ..) (makeP_right ..) fun s => by rw [joinP_at, joinP_at, lessP_at, makeS_joined]
theorem lessP_on (a b : List Pc) : lessP a (joinP a b) = [] := lessP_iff.2 fun s => by rw [joinP_at, makeS_on]
theorem lessP_on' (a b : List Pc) : lessP b (joinP a b) = [] := by rw [joinP_comm]; exact lessP_on b a
theorem makeS_less_join (a b : List Kn) : makeS 3 (makeS 1 a b) b = makeS 3 a b := makeS_unique (makeS_right 3 _ b) fun r n => by
  rw [makeS_has, makeS_has, gC1, gC3, gC3]
  cases hasK a r n <;> cases hasK b r n <;> rfl
theorem lessP_join (a b : List Pc) : lessP (joinP a b) b = lessP a b := atP_unique (makeP_right ..) (makeP_right ..) fun s => by rw [lessP_at, lessP_at, joinP_at, makeS_less_join]
theorem joinP_nil (a : List Pc) : joinP a [] = ofP a := rfl
theorem makeS_nil2 (a : List Kn) : makeS 1 a [] = ofS a := rfl
theorem makeS_nil1 (a : List Kn) : makeS 1 [] a = ofS a := makeS_back1 a []
theorem restP_join (a b : List Pc) (l : List Rng) : restP (joinP a b) l = joinP (restP a l) (restP b l) := atP_unique (makeP_right ..) (makeP_right ..) fun s => by
  rw [joinP_at]
  cases h : hasL l s with
  | true => rw [restP_in h, restP_in h, restP_in h, joinP_at]
  | false => rw [restP_out h, restP_out h, restP_out h, makeS_nil2, ofS_nil]
theorem restP_rest (a : List Pc) (l m : List Rng) : restP (restP a l) m = restP a (makeV 2 l m) := atP_unique (makeP_right ..) (makeP_right ..) fun s => by
  have hm := makeV_has 2 l m s
  rw [gV2] at hm
  cases h1 : hasL m s with
  | true =>
    rw [h1, Bool.and_true] at hm
    rw [restP_in h1]
    cases h2 : hasL l s with
    | true => rw [h2] at hm; rw [restP_in h2, restP_in hm]
    | false => rw [h2] at hm; rw [restP_out h2, restP_out hm]
  | false =>
    rw [h1, Bool.and_false] at hm
    rw [restP_out h1, restP_out hm]
theorem restP_parts (a : List Pc) (l : List Rng) : joinP (restP a l) (restP a (notV l)) = ofP a := atP_unique (makeP_right ..) (makeP_right ..) fun s => by
  rw [joinP_at, ofP_at]
  have hm := notV_has l s
  cases h : hasL l s with
  | true => rw [h] at hm; rw [restP_in h, restP_out hm, makeS_nil2, atK_of]
  | false => rw [h] at hm; rw [restP_out h, restP_in hm, makeS_nil1, atK_of]
/-- Some lists together. -/
theorem atK_append (a b : List Pc) (s : List UInt8) : atK (a ++ b) s = makeS 1 (atK a s) (atK b s) := by
  unfold atK
  rw [catK_append]
  exact makeS_unique (ofS_right _) fun r n => by rw [ofS_has, ofS_has, ofS_has, hasK_append, gC1]
theorem joinP_append (a b : List Pc) : joinP a b = ofP (a ++ b) := atP_unique (makeP_right ..) (makeP_right ..) fun s => by rw [joinP_at, ofP_at, atK_append]
/-- The knowledge of some versions of a key. -/
def oneP (s : List UInt8) (l : List Vr) : List Pc := match decide (1 ≤ s.length) && decide (s.length ≤ 16) with
  | false => []
  | true => match addsS [] l with
    | [] => []
    | x :: y => [⟨ofR s, x :: y⟩]
theorem ofP_has (k : List Pc) (s : List UInt8) (v : Vr) : hasP (ofP k) s v = hasP k s v := by rw [hasP_at, hasP_at, ofP_at]
/-- How many pieces, and what they have, at most. -/
theorem mkP_len (f : List UInt8 → List Kn) : ∀ (es : List (List UInt8)) (o : Option (List UInt8 × List Kn)), (mkP f es o).length ≤ es.length + (match o with | none => 0 | some _ => 1)
  | [], none => Nat.le_refl _
  | [], some (lo, S) => Nat.le_refl _
  | e :: es, none => by
    by_cases h : f e = []
    · rw [mkP_none_no h]; have := mkP_len f es none; simp only [List.length_cons] at *; omega
    · rw [mkP_none_yes h]; have := mkP_len f es (some (e, f e)); simp only [List.length_cons] at *; omega
  | e :: es, some (lo, S) => by
    by_cases h : f e = S
    · rw [mkP_on h]; have := mkP_len f es (some (lo, S)); simp only [List.length_cons] at *; omega
    · rw [mkP_end h, List.length_cons]
      by_cases h' : f e = []
      · rw [mkP_none_no h']; have := mkP_len f es none; simp only [List.length_cons] at *; omega
      · rw [mkP_none_yes h']; have := mkP_len f es (some (e, f e)); simp only [List.length_cons] at *; omega
theorem makeP_len (op : Int) (a b : List Pc) (l : List Rng) : (makeP op a b l).length ≤ 1 + 2 * (a.length + (b.length + l.length)) := by
  have h1 := mkP_len (whatP op a b l) (edgesL (spansP a ++ (spansP b ++ l))) none
  have h2 := edgesL_len (spansP a ++ (spansP b ++ l))
  simp only [List.length_append, spansP, List.length_map] at h2
  unfold makeP
  unfold spansP at h1 ⊢
  simp only at h1
  omega
end Go.Proofs.Ytfklochgciijkaa

/-
  Layer 12 (version), the document's words: versions as values; is one right, is one ahead, is one among some; a number's digits, a version's text.
-/
namespace Go.Proofs.Ytfklochgciijkaa
open Go.RowKit

def vrCells (v : Vr) : List Value := [.int .i64 v.rep, .int .i64 v.cnt]
theorem hasVr_cons (x v : Vr) (l : List Vr) : hasVr (x :: l) v = ((x.rep == v.rep && x.cnt == v.cnt) || hasVr l v) := rfl
end Go.Proofs.Ytfklochgciijkaa

/-
  Layer 14 (vset), the document's words: has a set a version. (Written by a program.)
-/
namespace Go.Proofs.Ytfklochgciijkaa
open Go.RowKit

end Go.Proofs.Ytfklochgciijkaa

/-
  Lists of things that hold slices of others: read, owned, appended to; with the blocks that all of it lies in.
-/
namespace Go.Proofs.Ytfklochgciijkaa
open Go.RowKit

/-- A row that lies in a block that S lets in. -/
def RowS (w : World) (S : Nat → Prop) (A : Option Addr) (xs : List Value) : Prop :=
  xs = [] ∨ ∃ b o, A = some ⟨b, o, none⟩ ∧ S b ∧ ∀ k u, xs[k]? = some u → w.cell? ⟨b, o + k, none⟩ = some u
/-- What lies in these blocks is as it was. -/
def KeptS (S : Nat → Prop) (w w' : World) : Prop := ∀ p : Addr, S p.block → p.block < w.heap.size → w'.cell? p = w.cell? p
theorem keptS_below {w w' : World} (hb : Below w.heap.size w w') (S : Nat → Prop) : KeptS S w w' := fun _ _ h => hb.cell h
theorem keptS_under {w w' : World} {B : Nat} {S : Nat → Prop} (hb : Below B w w') (h : ∀ g, S g → g < B) : KeptS S w w' := fun _ hs _ => hb.cell (h _ hs)
theorem keptS_grown {w w' : World} {row : Option Nat} {S : Nat → Prop} (hg : w.grownBy w' row) (h : ∀ g, S g → row ≠ some g) : KeptS S w w' := fun p hs hp => hg.cell_far p hp fun e => h _ hs e.symm
theorem KeptS.mono {S T : Nat → Prop} {w w' : World} (h : KeptS T w w') (hs : ∀ g, S g → T g) : KeptS S w w' := fun p hp hl => h p (hs _ hp) hl
theorem row_lt {w : World} {b o : Nat} {xs : List Value} (hne : xs ≠ []) (h : ∀ k u, xs[k]? = some u → w.cell? ⟨b, o + k, none⟩ = some u) : b < w.heap.size := by
  cases xs with
  | nil => exact absurd rfl hne
  | cons x l => exact World.block_lt_of_cell? w _ (h 0 x rfl)
theorem RowS.lives {w : World} {S : Nat → Prop} {A : Option Addr} {xs : List Value} (h : RowS w S A xs) : RowS w (fun g => S g ∧ g < w.heap.size) A xs := by
  by_cases h0 : xs = []
  · exact .inl h0
  · rcases h with h | ⟨b, o, h1, h2, h3⟩
    · exact absurd h h0
    · exact .inr ⟨b, o, h1, ⟨h2, row_lt h0 h3⟩, h3⟩
theorem RowS.mono {w : World} {S T : Nat → Prop} {A : Option Addr} {xs : List Value} (h : RowS w S A xs) (hs : ∀ g, S g → T g) : RowS w T A xs := by
  rcases h with h | ⟨b, o, h1, h2, h3⟩
  · exact .inl h
  · exact .inr ⟨b, o, h1, hs _ h2, h3⟩
theorem RowS.keep {w w' : World} {S : Nat → Prop} {A : Option Addr} {xs : List Value} (h : RowS w S A xs) (hk : KeptS S w w') : RowS w' S A xs := by
  by_cases h0 : xs = []
  · exact .inl h0
  · rcases h with h | ⟨b, o, h1, h2, h3⟩
    · exact absurd h h0
    · exact .inr ⟨b, o, h1, h2, fun k u hu => (hk _ h2 (row_lt h0 h3)).trans (h3 k u hu)⟩
theorem RowS.at_ {w : World} {S : Nat → Prop} {A : Option Addr} {xs : List Value} (h : RowS w S A xs) : RowAt w w.heap.size A xs := by
  rcases h.lives with h | ⟨b, o, h1, h2, h3⟩
  · exact .inl h
  · exact .inr ⟨b, o, h1, h2.2, h3⟩
theorem RowAt.inS {w : World} {B : Nat} {A : Option Addr} {xs : List Value} (h : RowAt w B A xs) : RowS w (fun g => g < B) A xs := h

namespace Kind
variable {P : Program} {α : Type}
/-- A row that reads as these things, in a block that S lets in. -/
structure RdS (k : Kind P α) (w : World) (S : Nat → Prop) (A : Option Addr) (c : Nat) (l : List α) : Prop where
  row : RowS w S A (k.row l)
  room : l.length ≤ c
  cap : c ≤ maxLen
variable {k : Kind P α}
theorem RdS.mono {w : World} {S T : Nat → Prop} {A : Option Addr} {c : Nat} {l : List α} (h : k.RdS w S A c l) (hs : ∀ g, S g → T g) : k.RdS w T A c l := ⟨h.row.mono hs, h.room, h.cap⟩
theorem RdS.lives {w : World} {S : Nat → Prop} {A : Option Addr} {c : Nat} {l : List α} (h : k.RdS w S A c l) : k.RdS w (fun g => S g ∧ g < w.heap.size) A c l := ⟨h.row.lives, h.room, h.cap⟩
theorem RdS.keep {w w' : World} {S : Nat → Prop} {A : Option Addr} {c : Nat} {l : List α} (h : k.RdS w S A c l) (hk : KeptS S w w') : k.RdS w' S A c l := ⟨h.row.keep hk, h.room, h.cap⟩
theorem RdS.call {w w' : World} {S : Nat → Prop} {A : Option Addr} {c : Nat} {l : List α} (h : k.RdS w S A c l) (hb : Below w.heap.size w w') : k.RdS w' S A c l := h.keep (keptS_below hb S)
theorem RdS.rd {w : World} {S : Nat → Prop} {A : Option Addr} {c : Nat} {l : List α} (h : k.RdS w S A c l) : k.Rd w w.heap.size A c l := ⟨h.row.at_, h.room, h.cap⟩
theorem Rd.inS {w : World} {B : Nat} {A : Option Addr} {c : Nat} {l : List α} (h : k.Rd w B A c l) : k.RdS w (fun g => g < B) A c l := ⟨h.row.inS, h.room, h.cap⟩
theorem RdS.nil (w : World) (S : Nat → Prop) (A : Option Addr) (c : Nat) (hc : c ≤ maxLen) : k.RdS w S A c [] := ⟨.inl rfl, Nat.zero_le _, hc⟩
theorem Own.rdS {w : World} {base n c : Nat} {A : Option Addr} {l : List α} (h : k.Own w base (.slice A n c) l) (hn : n = l.length) : k.RdS w (fun g => base ≤ g) A c l := by
  have hr := h.rd
  refine ⟨?_, hr.room, hr.cap⟩
  by_cases h0 : 0 < n
  · obtain ⟨g, c', hv, -, h1, -, -, -⟩ := h.some_ hn h0
    injection hv with hA
    subst hA
    rcases hr.row with h2 | ⟨b, o, h2, h3, h4⟩
    · exact .inl h2
    · refine .inr ⟨b, o, h2, ?_, h4⟩
      injection h2 with h2
      injection h2 with h2
      rw [← h2]; exact h1
  · exact .inl (by rw [List.eq_nil_of_length_eq_zero (by omega : l.length = 0)]; rfl)
end Kind

/-- Things that lie as β (with addresses of what they hold) and mean α. -/
structure Deep (P : Program) (β α : Type) where
  k : Kind P β
  rel : World → (Nat → Prop) → β → α → Prop
  mono : ∀ {w : World} {S T : Nat → Prop} {b : β} {a : α}, rel w S b a → (∀ g, S g → T g) → rel w T b a
  lives : ∀ {w : World} {S : Nat → Prop} {b : β} {a : α}, rel w S b a → rel w (fun g => S g ∧ g < w.heap.size) b a
  keep : ∀ {w w' : World} {S : Nat → Prop} {b : β} {a : α}, rel w S b a → KeptS S w w' → rel w' S b a
namespace Deep
variable {P : Program} {β α : Type} (d : Deep P β α)
/-- Each of these things means that. -/
def All (w : World) (S : Nat → Prop) (bs : List β) (s : List α) : Prop := bs.length = s.length ∧ ∀ (i : Nat) (b : β) (a : α), bs[i]? = some b → s[i]? = some a → d.rel w S b a
/-- A row that reads as these things, all of it in blocks that S lets in. -/
def Rd (w : World) (S : Nat → Prop) (A : Option Addr) (c : Nat) (s : List α) : Prop := ∃ bs : List β, d.k.RdS w S A c bs ∧ d.All w S bs s
variable {d}
theorem All.mono {w : World} {S T : Nat → Prop} {bs : List β} {s : List α} (h : d.All w S bs s) (hs : ∀ g, S g → T g) : d.All w T bs s := ⟨h.1, fun i b a h1 h2 => d.mono (h.2 i b a h1 h2) hs⟩
theorem All.lives {w : World} {S : Nat → Prop} {bs : List β} {s : List α} (h : d.All w S bs s) : d.All w (fun g => S g ∧ g < w.heap.size) bs s := ⟨h.1, fun i b a h1 h2 => d.lives (h.2 i b a h1 h2)⟩
theorem All.keep {w w' : World} {S : Nat → Prop} {bs : List β} {s : List α} (h : d.All w S bs s) (hk : KeptS S w w') : d.All w' S bs s := ⟨h.1, fun i b a h1 h2 => d.keep (h.2 i b a h1 h2) hk⟩
theorem All.append {w : World} {S : Nat → Prop} {bs cs : List β} {s t : List α} (h : d.All w S bs s) (h' : d.All w S cs t) : d.All w S (bs ++ cs) (s ++ t) := by
  refine ⟨by rw [List.length_append, List.length_append, h.1, h'.1], fun i b a h1 h2 => ?_⟩
  by_cases hi : i < bs.length
  · rw [List.getElem?_append_left hi] at h1
    rw [List.getElem?_append_left (by rw [← h.1]; exact hi)] at h2
    exact h.2 i b a h1 h2
  · rw [List.getElem?_append_right (by omega)] at h1
    rw [List.getElem?_append_right (by rw [← h.1]; omega), ← h.1] at h2
    exact h'.2 _ b a h1 h2
theorem All.one {w : World} {S : Nat → Prop} {b : β} {a : α} (h : d.rel w S b a) : d.All w S [b] [a] := ⟨rfl, fun i b' a' h1 h2 => by
  cases i with
  | zero => injection h1 with h1; injection h2 with h2; subst h1 h2; exact h
  | succ i => cases h1⟩
theorem All.nil (w : World) (S : Nat → Prop) : d.All w S [] [] := ⟨rfl, fun i b a h => by cases h⟩
theorem Rd.mono {w : World} {S T : Nat → Prop} {A : Option Addr} {c : Nat} {s : List α} (h : d.Rd w S A c s) (hs : ∀ g, S g → T g) : d.Rd w T A c s := by
  obtain ⟨bs, h1, h2⟩ := h; exact ⟨bs, h1.mono hs, h2.mono hs⟩
theorem Rd.lives {w : World} {S : Nat → Prop} {A : Option Addr} {c : Nat} {s : List α} (h : d.Rd w S A c s) : d.Rd w (fun g => S g ∧ g < w.heap.size) A c s := by
  obtain ⟨bs, h1, h2⟩ := h; exact ⟨bs, h1.lives, h2.lives⟩
theorem Rd.keep {w w' : World} {S : Nat → Prop} {A : Option Addr} {c : Nat} {s : List α} (h : d.Rd w S A c s) (hk : KeptS S w w') : d.Rd w' S A c s := by
  obtain ⟨bs, h1, h2⟩ := h; exact ⟨bs, h1.keep hk, h2.keep hk⟩
theorem Rd.call {w w' : World} {S : Nat → Prop} {A : Option Addr} {c : Nat} {s : List α} (h : d.Rd w S A c s) (hb : Below w.heap.size w w') : d.Rd w' S A c s := h.keep (keptS_below hb S)
theorem Rd.all {w : World} {S : Nat → Prop} {A : Option Addr} {c : Nat} {s : List α} (h : d.Rd w S A c s) : d.Rd w (fun _ => True) A c s := h.mono fun _ _ => trivial
theorem Rd.room {w : World} {S : Nat → Prop} {A : Option Addr} {c : Nat} {s : List α} (h : d.Rd w S A c s) : s.length ≤ c := by
  obtain ⟨bs, h1, h2⟩ := h; rw [← h2.1]; exact h1.room
theorem Rd.max {w : World} {S : Nat → Prop} {A : Option Addr} {c n : Nat} {s : List α} (h : d.Rd w S A c s) (hn : n = s.length) : n ≤ 9223372036854775807 := by
  obtain ⟨bs, h1, h2⟩ := h
  have h3 := h1.room
  have h4 := h1.cap
  have h5 := h2.1
  unfold maxLen at h4
  omega
theorem Rd.nil (w : World) (S : Nat → Prop) (A : Option Addr) (c : Nat) (hc : c ≤ maxLen) : d.Rd w S A c [] := ⟨[], .nil _ _ _ _ hc, .nil _ _⟩
/-- Where the things lie, and what they mean. -/
theorem Rd.at_ {w : World} {S : Nat → Prop} {A : Option Addr} {c : Nat} {s : List α} (h : d.Rd w S A c s) (hp : 0 < s.length) :
    ∃ b o, A = some ⟨b, o, none⟩ ∧ S b ∧ b < w.heap.size ∧ ∀ i x, s[i]? = some x → ∃ y, d.rel w S y x ∧ ∀ j u, (d.k.cells y)[j]? = some u → w.cell? ⟨b, o + (i * d.k.size + j), none⟩ = some u := by
  obtain ⟨bs, h1, h2, h3⟩ := h
  rcases h1.lives.row with h0 | ⟨b, o, e1, ⟨e2, e3⟩, e4⟩
  · exfalso
    have := congrArg List.length h0
    rw [d.k.row_len, List.length_nil] at this
    have := Nat.mul_pos (show 0 < bs.length by omega) d.k.pos
    omega
  · refine ⟨b, o, e1, e2, e3, fun i x hx => ?_⟩
    obtain ⟨y, hy⟩ : ∃ y, bs[i]? = some y := ⟨_, List.getElem?_eq_getElem (by have := (List.getElem?_eq_some_iff.1 hx).1; omega)⟩
    refine ⟨y, h3 i y x hy hx, fun j u hu => e4 _ _ ?_⟩
    have hj : j < d.k.size := by
      rw [← d.k.len y]
      exact (List.getElem?_eq_some_iff.1 hu).1
    rw [d.k.row_get hy hj]; exact hu
variable (d)
/-- A row of the call's own; what its things hold lies off it, in blocks that S lets in. -/
def Own (w : World) (base : Nat) (S : Nat → Prop) (v : Value) (s : List α) : Prop := ∃ bs : List β, d.k.Own w base v bs ∧ d.All w (fun g => S g ∧ v.ownBlock ≠ some g) bs s
variable {d}
theorem Own.nil (w : World) (base : Nat) (S : Nat → Prop) : d.Own w base S (.slice none 0 0) [] := ⟨[], Kind.Own.nil _ _, .nil _ _⟩
theorem Own.below {w w' : World} {base : Nat} {S : Nat → Prop} {v : Value} {s : List α} (h : d.Own w base S v s) (hb : Below w.heap.size w w') : d.Own w' base S v s := by
  obtain ⟨bs, h1, h2⟩ := h
  exact ⟨bs, h1.below hb, h2.keep (keptS_below hb _)⟩
theorem Own.alloc {w : World} {base : Nat} {S : Nat → Prop} {v : Value} {s : List α} (h : d.Own w base S v s) (o : Obj) : d.Own (w.alloc o) base S v s := h.below (below_new w o)
theorem Own.lt {w : World} {base : Nat} {S : Nat → Prop} {v : Value} {s : List α} (h : d.Own w base S v s) : ∀ g, v.ownBlock = some g → base ≤ g ∧ g < w.heap.size := by
  obtain ⟨bs, h1, -⟩ := h; exact h1.lt
/-- Behind an append: what was there, and what has come. -/
theorem Own.app {w w' : World} {base : Nat} {S : Nat → Prop} {v v' : Value} {bs cs : List β} {s t : List α} (hs : d.All w (fun g => S g ∧ v.ownBlock ≠ some g) bs s) (ht : d.All w (fun g => S g ∧ v.ownBlock ≠ some g) cs t)
    (ho : d.k.Own w' base v' (bs ++ cs)) (hg : w.grownBy w' v.ownBlock) (hv : v'.ownBlock = v.ownBlock ∨ v'.ownBlock = some w.heap.size) : d.Own w' base S v' (s ++ t) := by
  refine ⟨bs ++ cs, ho, ((hs.append ht).lives.keep (keptS_grown hg fun g h => h.1.2)).mono fun g h => ⟨h.1.1, ?_⟩⟩
  rcases hv with e | e
  · rw [e]; exact h.1.2
  · rw [e]; intro h1; injection h1 with h1; have := h.2; omega
theorem Own.rd {w : World} {base n : Nat} {S : Nat → Prop} {v : Value} {s : List α} (h : d.Own w base S v s) (hn : n = s.length) (hS : ∀ g, base ≤ g → S g) : ∃ A c, v = .slice A n c ∧ d.Rd w S A c s := by
  obtain ⟨bs, h1, h2⟩ := h
  obtain ⟨A, c, rfl, -⟩ := h1.read_n (hn.trans h2.1.symm)
  exact ⟨A, c, rfl, bs, (h1.rdS (hn.trans h2.1.symm)).mono hS, h2.mono fun g h => h.1⟩
variable (d)
/-- What a call answers that may hand on what was handed in (in blocks that S lets in), or what it made. -/
def Ret (w : World) (S : Nat → Prop) (N : Nat) (s : List α) (e : Ending) (w' : World) : Prop := ∃ A c, e = .returned (.slice A N c) ∧ d.Rd w' (fun g => S g ∨ w.heap.size ≤ g) A c s ∧ Below w.heap.size w w'
variable {d}
/-- What a call has made since, or hands on, lies off a row that was there. -/
theorem All.off {w : World} {S T : Nat → Prop} {B : Nat} {v : Value} {cs : List β} {t : List α} (h : d.All w (fun g => S g ∨ B ≤ g) cs t) (hS : ∀ g, S g → T g ∧ v.ownBlock ≠ some g) (hB : ∀ g, B ≤ g → T g) (hv : ∀ g, v.ownBlock = some g → g < B) : d.All w (fun g => T g ∧ v.ownBlock ≠ some g) cs t :=
  h.mono fun g hg => by
    rcases hg with hg | hg
    · exact hS g hg
    · exact ⟨hB g hg, fun e => by have := hv g e; omega⟩
end Deep
/-- A flat kind as a deep one. -/
def Kind.deep {P : Program} {α : Type} (k : Kind P α) : Deep P α α where
  k := k
  rel := fun _ _ b a => b = a
  mono := fun h _ => h
  lives := fun h => h
  keep := fun h _ => h
end Go.Proofs.Ytfklochgciijkaa

/-
  Layer 14 (vset), the document's words: a set that a call makes, Known by Known; what is made of two sets.
-/
namespace Go.Proofs.Ytfklochgciijkaa
open Go.RowKit

/-- A Known as it lies, and what it means. -/
noncomputable def dKn : Deep Try.prog Ks Kn where
  k := kKs
  rel := fun w S b a => b.rep = a.rep ∧ b.n = a.runs.length ∧ kRn.RdS w S b.A b.c a.runs
  mono := fun h hs => ⟨h.1, h.2.1, h.2.2.mono hs⟩
  lives := fun h => ⟨h.1, h.2.1, h.2.2.lives⟩
  keep := fun h hk => ⟨h.1, h.2.1, h.2.2.keep hk⟩
theorem rdk_in {w : World} {B : Nat} {A : Option Addr} {c : Nat} {s : List Kn} (h : RdK w B A c s) : dKn.Rd w (fun g => g < B) A c s := by
  obtain ⟨ks, h1, h2, h3⟩ := h
  exact ⟨ks, h1.inS, h2, fun i k x hk hx => ⟨(h3 i k x hk hx).1, (h3 i k x hk hx).2.1, (h3 i k x hk hx).2.2.inS⟩⟩
theorem rdk_of {w : World} {S : Nat → Prop} {A : Option Addr} {c : Nat} {s : List Kn} (h : dKn.Rd w S A c s) : RdK w w.heap.size A c s := by
  obtain ⟨ks, h1, h2, h3⟩ := h
  exact ⟨ks, h1.rd, h2, fun i k x hk hx => ⟨(h3 i k x hk hx).1, (h3 i k x hk hx).2.1, (h3 i k x hk hx).2.2.rd⟩⟩
/-- A row of runs that a call has made since then holds as a new Known. -/
theorem holds_new {w2 w3 : World} {base n c : Nat} {A : Option Addr} {l : List Rn} {v : Value} {ks : List Ks} (ho : kKs.Own w2 base v ks) (hr : kRn.Own w3 w2.heap.size (.slice A n c) l) (hn : n = l.length) (hb : base ≤ w2.heap.size) (r : Int) : dKn.rel w3 (fun g => base ≤ g ∧ v.ownBlock ≠ some g) ⟨r, A, n, c⟩ ⟨r, l⟩ :=
  ⟨rfl, hn, (hr.rdS hn).mono fun g hg => ⟨by omega, fun e => by have := (ho.lt g e).2; omega⟩⟩
def RetK (w : World) (N : Nat) (s : List Kn) (e : Ending) (w' : World) : Prop := ∃ A c, e = .returned (.slice A N c) ∧ RdK w' w'.heap.size A c s ∧ Below w.heap.size w w'
/-- A set that a call made, all of it new. -/
def RetKF (w : World) (N : Nat) (s : List Kn) (e : Ending) (w' : World) : Prop := ∃ A c, e = .returned (.slice A N c) ∧ dKn.Rd w' (fun g => w.heap.size ≤ g) A c s ∧ Below w.heap.size w w'
theorem RetKF.to {w : World} {N : Nat} {s : List Kn} {e : Ending} {w' : World} (h : RetKF w N s e w') : RetK w N s e w' := by
  obtain ⟨A, c, h1, h2, h3⟩ := h
  exact ⟨A, c, h1, rdk_of h2, h3⟩
theorem ks_row (w : World) (r : Int) (A : Option Addr) (n c : Nat) : RowAt (w.alloc (.cells #[.int .i64 r, .slice A n c] 52)) (w.heap.size + 1) (some ⟨w.heap.size, 0, none⟩) (kKs.row [⟨r, A, n, c⟩]) := (Kind.rd_new (k := kKs) (l := [⟨r, A, n, c⟩]) (n := 1) (by rw [kKs.row_one]; rfl) rfl (by simp)).row
end Go.Proofs.Ytfklochgciijkaa

/-
  Layer 14 (vset), the document's words: the right set; the set of a version.
-/
namespace Go.Proofs.Ytfklochgciijkaa
open Go.RowKit

theorem rdk_nil (w : World) (B : Nat) (A : Option Addr) : RdK w B A 0 [] := ⟨[], Kind.Rd.empty _ _ _ _ (Nat.zero_le _), rfl, fun i k x h => by cases h⟩
/-- One Known, newly made. -/
theorem rdk_one {w : World} {A : Option Addr} {n c : Nat} {l : List Rn} (r : Int) (hn : n = l.length) (h : kRn.Rd w w.heap.size A c l) : RdK (w.alloc (.cells #[.int .i64 r, .slice A n c] 52)) (w.alloc (.cells #[.int .i64 r, .slice A n c] 52)).heap.size (some ⟨w.heap.size, 0, none⟩) 1 [⟨r, l⟩] := by
  refine ⟨[⟨r, A, n, c⟩], ?_, rfl, fun i k x hk hx => ?_⟩
  · rw [show (w.alloc (.cells #[.int .i64 r, .slice A n c] 52)).heap.size = w.heap.size + 1 from by simp]
    exact Kind.rd_new (k := kKs) (l := [⟨r, A, n, c⟩]) rfl rfl (by simp)
  · match i with
    | 0 => injection hk with hk; injection hx with hx; subst hk hx; exact ⟨rfl, hn, h.call (below_new _ _)⟩
    | i + 1 => cases hk
end Go.Proofs.Ytfklochgciijkaa

/-
  Layer 14 (vset): how many runs a right list has; the document's words: some versions more.
-/
namespace Go.Proofs.Ytfklochgciijkaa
open Go.RowKit

/-- A right list has no more runs than any list of the same counts. -/
theorem right_len : ∀ {l s : List Rn}, rightC l = true → (∀ n, hasC l n = hasC s n) → l.length ≤ s.length
  | [], _, _, _ => Nat.zero_le _
  | r :: l, s, hr, h => by
    have h0 := oneC_iff.1 (rightC_head hr)
    have hb := hasC_behind hr
    rw [h] at hb
    have hall : ∀ t ∈ s, ∀ n, inC t n = true → hasC s n = true := fun t ht n hn => List.any_eq_true.2 ⟨t, ht, hn⟩
    have e : ∀ n, hasC l n = hasC (s.filter fun t => decide (r.to < t.fr)) n := fun n => by
      rw [hasC_tail hr, h, Bool.eq_iff_iff, Bool.and_eq_true, decide_eq_true_eq]
      constructor
      · rintro ⟨h1, h2⟩
        obtain ⟨t, ht, hn⟩ := List.any_eq_true.1 h1
        refine List.any_eq_true.2 ⟨t, List.mem_filter.2 ⟨ht, decide_eq_true ?_⟩, hn⟩
        have h3 := inC_iff.1 hn
        rcases Int.lt_or_le r.to t.fr with h4 | h4
        · exact h4
        · rw [hall t ht (r.to + 1) (inC_iff.2 ⟨h3.1, by omega, by omega⟩)] at hb; cases hb
      · intro h1
        obtain ⟨t, ht, hn⟩ := List.any_eq_true.1 h1
        obtain ⟨ht, h2⟩ := List.mem_filter.1 ht
        have h3 := inC_iff.1 hn
        have h4 := of_decide_eq_true h2
        exact ⟨hall t ht n hn, by omega⟩
    have h1 := right_len (rightC_tail hr) e
    have h2 : hasC s r.fr = true := by rw [← h]; exact hasC_first hr (Int.le_refl _) h0.2.1
    obtain ⟨t, ht, hn⟩ := List.any_eq_true.1 h2
    have h3 : (s.filter fun t => decide (r.to < t.fr)).length < s.length := by
      rw [List.length_filter_lt_length_iff_exists]
      exact ⟨t, ht, by have := inC_iff.1 hn; simp only [decide_eq_true_eq]; omega⟩
    rw [List.length_cons]
    omega
theorem makeC1_len (a b : List Rn) : (makeC 1 a b).length ≤ a.length + b.length := by
  rw [← List.length_append]
  exact right_len (makeC_right 1 a b) fun n => by rw [makeC_has, gC1, hasC_append]
theorem rightS_out {s : List Kn} (h : rightS s = true) {r : Int} (hr : ¬ (1 ≤ r ∧ r ≤ 16)) : runsV s r = [] := runsV_none fun k hk => by have := upS_all h k hk; omega
theorem makeS1_runs (a b : List Kn) (r : Int) : (runsV (makeS 1 a b) r).length ≤ (runsV a r).length + (runsV b r).length := by
  by_cases hr : 1 ≤ r ∧ r ≤ 16
  · rw [makeS_runs hr.1 hr.2]; exact makeC1_len _ _
  · rw [rightS_out (makeS_right 1 a b) hr]; exact Nat.zero_le _
theorem oneS_runs (v : Vr) (r : Int) : (runsV (oneS v) r).length ≤ 1 := by
  unfold oneS
  rw [runsV, runsV, List.append_nil]
  by_cases h : v.rep = r
  · rw [partV_yes (k := ⟨v.rep, [⟨v.cnt, v.cnt⟩]⟩) h]; exact Nat.le_refl _
  · rw [partV_no (k := ⟨v.rep, [⟨v.cnt, v.cnt⟩]⟩) h]; exact Nat.zero_le _
theorem addS_runs (s : List Kn) (v : Vr) (r : Int) : (runsV (addS s v) r).length ≤ (runsV s r).length + 1 := by
  unfold addS
  cases rightVr v
  · exact Nat.le_succ _
  · have h1 := makeS1_runs s (oneS v) r
    have h2 := oneS_runs v r
    show (runsV (makeS 1 s (oneS v)) r).length ≤ _
    omega
theorem adds_runs : ∀ (l : List Vr) (s : List Kn) (r : Int), (runsV (l.foldl addS s) r).length ≤ (runsV s r).length + l.length
  | [], _, _ => Nat.le_refl _
  | v :: l, s, r => by
    have h1 := adds_runs l (addS s v) r
    have h2 := addS_runs s v r
    rw [List.foldl_cons, List.length_cons]
    omega
end Go.Proofs.Ytfklochgciijkaa
