/-
  Plain facts on versions (layer 12): right ones, their order, their texts, and lists of them in order. No program in this text.
-/
import Derived.Test.YtddamcmbgbefpaaDoorKeyPure
namespace Go.Proofs.YtddamcmbgbefpaaDoor

structure Vr where
  rep : Int
  cnt : Int
def rightVr (v : Vr) : Bool := decide (1 ≤ v.rep) && (decide (v.rep ≤ 16) && (decide (1 ≤ v.cnt) && decide (v.cnt ≤ 1099511627776)))
theorem rightVr_iff {v : Vr} : rightVr v = true ↔ 1 ≤ v.rep ∧ v.rep ≤ 16 ∧ 1 ≤ v.cnt ∧ v.cnt ≤ 1099511627776 := by
  unfold rightVr; simp only [Bool.and_eq_true, decide_eq_true_eq]
def lessVr (a b : Vr) : Bool := decide (a.rep < b.rep) || (decide (a.rep = b.rep) && decide (a.cnt < b.cnt))
theorem lessVr_iff {a b : Vr} : lessVr a b = true ↔ a.rep < b.rep ∨ a.rep = b.rep ∧ a.cnt < b.cnt := by
  unfold lessVr; simp only [Bool.or_eq_true, Bool.and_eq_true, decide_eq_true_eq]
theorem vr_ext {a b : Vr} (h1 : a.rep = b.rep) (h2 : a.cnt = b.cnt) : a = b := by cases a; cases b; simp_all
def cmpVr (a b : Vr) : Int := match lessVr a b with | true => -1 | false => match lessVr b a with | true => 1 | false => 0
theorem cmpVr_three (a b : Vr) : (cmpVr a b = -1 ∧ cmpVr b a = 1 ∧ lessVr a b = true ∧ lessVr b a = false) ∨ (cmpVr a b = 1 ∧ cmpVr b a = -1 ∧ lessVr a b = false ∧ lessVr b a = true) ∨ (cmpVr a b = 0 ∧ cmpVr b a = 0 ∧ lessVr a b = false ∧ lessVr b a = false ∧ a = b) := by
  unfold cmpVr
  cases h : lessVr a b <;> cases h' : lessVr b a
  · refine .inr (.inr ⟨rfl, rfl, rfl, rfl, ?_⟩)
    have e1 : ¬ (a.rep < b.rep ∨ a.rep = b.rep ∧ a.cnt < b.cnt) := fun e => by rw [lessVr_iff.2 e] at h; cases h
    have e2 : ¬ (b.rep < a.rep ∨ b.rep = a.rep ∧ b.cnt < a.cnt) := fun e => by rw [lessVr_iff.2 e] at h'; cases h'
    exact vr_ext (by omega) (by omega)
  · exact .inr (.inl ⟨rfl, rfl, rfl, rfl⟩)
  · exact .inl ⟨rfl, rfl, rfl, rfl⟩
  · have e1 := lessVr_iff.1 h
    have e2 := lessVr_iff.1 h'
    omega
theorem lessVr_trans {a b c : Vr} (h : lessVr a b = true) (h' : lessVr b c = true) : lessVr a c = true := by
  rw [lessVr_iff] at *; omega
theorem lessVr_irrefl (a : Vr) : lessVr a a = false := by
  cases h : lessVr a a with
  | false => rfl
  | true => rw [lessVr_iff] at h; omega
theorem cmpVr_zero {a b : Vr} : cmpVr a b = 0 ↔ a = b := by
  constructor
  · intro h
    rcases cmpVr_three a b with h1 | h1 | h1
    · rw [h1.1] at h; cases h
    · rw [h1.1] at h; cases h
    · exact h1.2.2.2.2
  · rintro rfl
    unfold cmpVr; rw [lessVr_irrefl]

/-! Numbers as digits. -/
def digC (n : Nat) : UInt8 := UInt8.ofNat (48 + n)
def digF : Nat → Nat → List UInt8
  | 0, n => [digC (n % 10)]
  | f + 1, n => match decide (n < 10) with | true => [digC n] | false => digF f (n / 10) ++ [digC (n % 10)]
def digN (n : Nat) : List UInt8 := digF 20 n
theorem digF_small {f n : Nat} (h : n < 10) : digF f n = [digC n] := by
  cases f with
  | zero => rw [digF, Nat.mod_eq_of_lt h]
  | succ f => rw [digF, decide_eq_true h]
theorem digF_big {f n : Nat} (h : 10 ≤ n) : digF (f + 1) n = digF f (n / 10) ++ [digC (n % 10)] := by rw [digF, decide_eq_false (by omega)]
def digVal : List UInt8 → Nat → Nat
  | [], a => a
  | c :: l, a => digVal l (10 * a + (c.toNat - 48))
theorem digVal_append : ∀ (a b : List UInt8) (x : Nat), digVal (a ++ b) x = digVal b (digVal a x)
  | [], _, _ => rfl
  | c :: a, b, x => by rw [List.cons_append, digVal, digVal, digVal_append a b]
theorem digC_val : ∀ n, n < 10 → (digC n).toNat - 48 = n ∧ 48 ≤ (digC n).toNat ∧ (digC n).toNat ≤ 57 := by decide +kernel
theorem digF_val : ∀ (f n : Nat), n < 10 ^ (f + 1) → digVal (digF f n) 0 = n
  | 0, n, h => by
    rw [digF_small (by simpa using h)]
    show 10 * 0 + ((digC n).toNat - 48) = n
    rw [(digC_val n (by simpa using h)).1]; omega
  | f + 1, n, h => by
    by_cases hn : n < 10
    · rw [digF_small hn]
      show 10 * 0 + ((digC n).toNat - 48) = n
      rw [(digC_val n hn).1]; omega
    · rw [digF_big (by omega), digVal_append, digF_val f (n / 10) (by rw [Nat.pow_succ] at h; omega)]
      show 10 * (n / 10) + ((digC (n % 10)).toNat - 48) = n
      rw [(digC_val (n % 10) (by omega)).1]; omega
theorem digF_digits : ∀ (f n : Nat), ∀ c ∈ digF f n, 48 ≤ c.toNat ∧ c.toNat ≤ 57
  | 0, n, c, hc => by
    rw [digF, List.mem_singleton] at hc
    subst hc
    exact (digC_val (n % 10) (by omega)).2
  | f + 1, n, c, hc => by
    by_cases hn : n < 10
    · rw [digF_small hn, List.mem_singleton] at hc
      subst hc
      exact (digC_val n hn).2
    · rw [digF_big (by omega)] at hc
      rcases List.mem_append.1 hc with hc | hc
      · exact digF_digits f _ c hc
      · rw [List.mem_singleton] at hc
        subst hc
        exact (digC_val (n % 10) (by omega)).2
theorem digF_len : ∀ (f n : Nat), (digF f n).length ≤ f + 1
  | 0, n => by simp [digF]
  | f + 1, n => by
    by_cases hn : n < 10
    · rw [digF_small hn]; simp
    · rw [digF_big (by omega), List.length_append, List.length_singleton]
      have := digF_len f (n / 10)
      omega
theorem digF_ne (f n : Nat) : digF f n ≠ [] := by
  cases f with
  | zero => simp [digF]
  | succ f =>
    by_cases hn : n < 10
    · rw [digF_small hn]; simp
    · rw [digF_big (by omega)]; simp
theorem digN_inj {m n : Nat} (hm : m ≤ 1099511627776) (hn : n ≤ 1099511627776) (h : digN m = digN n) : m = n := by
  have h1 := digF_val 20 m (by omega)
  have h2 := digF_val 20 n (by omega)
  unfold digN at h
  rw [h] at h1
  omega
/-- How the digits come, the last one first. -/
def DigSt (n : Nat) (s : List UInt8) (r : Nat) : Prop := ∃ f, r < 10 ^ (f + 1) ∧ ((s = [] ∧ digN n = digF f r) ∨ (s ≠ [] ∧ digN n = (match decide (r = 0) with | true => [] | false => digF f r) ++ s))
theorem DigSt.start {n : Nat} (h : n ≤ 1099511627776) : DigSt n [] n := ⟨20, by omega, .inl ⟨rfl, rfl⟩⟩
theorem DigSt.step {n r : Nat} {s : List UInt8} (h : DigSt n s r) (hc : s = [] ∨ 0 < r) : DigSt n (digC (r % 10) :: s) (r / 10) := by
  obtain ⟨f, hf, h⟩ := h
  have e : digN n = digF f r ++ s := by
    rcases h with ⟨h1, h2⟩ | ⟨h1, h2⟩
    · rw [h2, h1, List.append_nil]
    · rw [h2, decide_eq_false (by rcases hc with hc | hc; exact absurd hc h1; omega)]
  by_cases hr : r < 10
  · refine ⟨0, by omega, .inr ⟨by simp, ?_⟩⟩
    rw [decide_eq_true (show r / 10 = 0 by omega), e, digF_small hr, Nat.mod_eq_of_lt hr]; rfl
  · cases f with
    | zero => simp at hf; omega
    | succ f =>
      refine ⟨f, by rw [Nat.pow_succ] at hf; omega, .inr ⟨by simp, ?_⟩⟩
      rw [decide_eq_false (show ¬ r / 10 = 0 by omega), e, digF_big (by omega), List.append_assoc]; rfl
theorem DigSt.done {n : Nat} {s : List UInt8} (h : DigSt n s 0) (hs : s ≠ []) : s = digN n := by
  obtain ⟨f, _, h⟩ := h
  rcases h with ⟨h1, _⟩ | ⟨_, h2⟩
  · exact absurd h1 hs
  · exact h2.symm

/-! A version's text. -/
def textVr (v : Vr) : List UInt8 := digN v.rep.toNat ++ 46 :: digN v.cnt.toNat
theorem dot_cut : ∀ {a b r r' : List UInt8}, (∀ c ∈ a, 48 ≤ c.toNat ∧ c.toNat ≤ 57) → (∀ c ∈ b, 48 ≤ c.toNat ∧ c.toNat ≤ 57) → a ++ 46 :: r = b ++ 46 :: r' → a = b ∧ r = r'
  | [], [], r, r', _, _, h => by injection h with _ h; exact ⟨rfl, h⟩
  | [], c :: b, r, r', _, hb, h => by
    injection h with h _
    have := hb c (List.mem_cons_self ..)
    rw [← h] at this
    exact absurd this.1 (by decide)
  | c :: a, [], r, r', ha, _, h => by
    injection h with h _
    have := ha c (List.mem_cons_self ..)
    rw [h] at this
    exact absurd this.1 (by decide)
  | c :: a, d :: b, r, r', ha, hb, h => by
    rw [List.cons_append, List.cons_append] at h
    injection h with h1 h2
    obtain ⟨h3, h4⟩ := dot_cut (fun x hx => ha x (List.mem_cons_of_mem _ hx)) (fun x hx => hb x (List.mem_cons_of_mem _ hx)) h2
    exact ⟨by rw [h1, h3], h4⟩
theorem textVr_inj {a b : Vr} (ha : rightVr a = true) (hb : rightVr b = true) (h : textVr a = textVr b) : a = b := by
  rw [rightVr_iff] at ha hb
  unfold textVr at h
  obtain ⟨h1, h2⟩ := dot_cut (digF_digits 20 _) (digF_digits 20 _) h
  have h3 := digN_inj (by omega) (by omega) h1
  have h4 := digN_inj (by omega) (by omega) h2
  exact vr_ext (by omega) (by omega)
theorem textVr_len (v : Vr) : (textVr v).length ≤ 43 := by
  have h1 := digF_len 20 v.rep.toNat
  have h2 := digF_len 20 v.cnt.toNat
  unfold textVr digN
  rw [List.length_append, List.length_cons]
  omega
/-- The version of a text, if there is one. -/
noncomputable def readVr (s : List UInt8) : Option Vr := by
  classical exact if h : ∃ v, rightVr v = true ∧ textVr v = s then some h.choose else none
theorem readVr_back {s : List UInt8} {v : Vr} (h : readVr s = some v) : rightVr v = true ∧ textVr v = s := by
  unfold readVr at h
  split at h
  · rename_i hx
    injection h with h
    subst h
    exact hx.choose_spec
  · cases h
theorem readVr_some {s : List UInt8} {v : Vr} (h : rightVr v = true) (hs : textVr v = s) : readVr s = some v := by
  have hx : ∃ v, rightVr v = true ∧ textVr v = s := ⟨v, h, hs⟩
  unfold readVr
  rw [dif_pos hx]
  obtain ⟨h1, h2⟩ := hx.choose_spec
  rw [textVr_inj h1 h (h2.trans hs.symm)]
theorem readVr_none {s : List UInt8} (h : readVr s = none) : ∀ v, rightVr v = true → textVr v ≠ s := fun v hv hs => by
  rw [readVr_some hv hs] at h; cases h

/-! Lists of versions. -/
def hasVr (l : List Vr) (v : Vr) : Bool := l.any fun x => decide (x.rep = v.rep) && decide (x.cnt = v.cnt)
theorem hasVr_iff {l : List Vr} {v : Vr} : hasVr l v = true ↔ v ∈ l := by
  unfold hasVr
  rw [List.any_eq_true]
  constructor
  · rintro ⟨x, hx, h⟩
    simp only [Bool.and_eq_true, decide_eq_true_eq] at h
    rw [← vr_ext h.1 h.2]; exact hx
  · intro h
    exact ⟨v, h, by simp⟩
/-- In order, each once. -/
def RiseVr (l : List Vr) : Prop := l.Pairwise fun a b => lessVr a b = true
/-- The right ones of some versions, in order, each once. -/
structure SortVr (l r : List Vr) : Prop where
  rise : RiseVr r
  mem : ∀ v, v ∈ r ↔ v ∈ l ∧ rightVr v = true
theorem SortVr.one {v : Vr} {r : List Vr} (h : SortVr [v, v] r) (hv : rightVr v = true) : r = [v] := by
  have h1 : ∀ x ∈ r, x = v := fun x hx => by have := ((h.mem x).1 hx).1; simpa using this
  match r, h with
  | [], h => have := (h.mem v).2 ⟨by simp, hv⟩; cases this
  | [x], h => rw [h1 x (List.mem_singleton.2 rfl)]
  | x :: y :: r, h =>
    have h2 := (List.pairwise_cons.1 h.rise).1 y (List.mem_cons_self ..)
    rw [h1 x (List.mem_cons_self ..), h1 y (by simp), lessVr_irrefl] at h2
    cases h2
theorem SortVr.next {l r : List Vr} (h : SortVr l r) {k : Nat} {a b : Vr} (ha : r[k]? = some a) (hb : r[k + 1]? = some b) : lessVr a b = true := by
  obtain ⟨h1, rfl⟩ := List.getElem?_eq_some_iff.1 ha
  obtain ⟨h2, rfl⟩ := List.getElem?_eq_some_iff.1 hb
  exact List.pairwise_iff_getElem.1 h.rise k (k + 1) h1 h2 (by omega)
theorem riseVr_nodup {l : List Vr} (h : RiseVr l) : l.Nodup := List.Pairwise.imp (fun {a b} h e => by subst e; rw [lessVr_irrefl] at h; cases h) h
/-- There is one such list. -/
theorem riseVr_unique : ∀ {a b : List Vr}, RiseVr a → RiseVr b → (∀ v, v ∈ a ↔ v ∈ b) → a = b
  | [], [], _, _, _ => rfl
  | [], y :: b, _, _, h => by have := (h y).2 (List.mem_cons_self ..); cases this
  | x :: a, [], _, _, h => by have := (h x).1 (List.mem_cons_self ..); cases this
  | x :: a, y :: b, ha, hb, h => by
    obtain ⟨ha1, ha2⟩ := List.pairwise_cons.1 ha
    obtain ⟨hb1, hb2⟩ := List.pairwise_cons.1 hb
    have e : x = y := by
      rcases List.mem_cons.1 ((h x).1 (List.mem_cons_self ..)) with e | e
      · exact e
      · rcases List.mem_cons.1 ((h y).2 (List.mem_cons_self ..)) with e' | e'
        · exact e'.symm
        · have h1 := hb1 x e
          have h2 := ha1 y e'
          have := lessVr_trans h1 h2
          rw [lessVr_irrefl] at this; cases this
    subst e
    rw [riseVr_unique ha2 hb2 fun v => ?_]
    constructor
    · intro hv
      rcases List.mem_cons.1 ((h v).1 (List.mem_cons_of_mem _ hv)) with e | e
      · subst e; have := ha1 v hv; rw [lessVr_irrefl] at this; cases this
      · exact e
    · intro hv
      rcases List.mem_cons.1 ((h v).2 (List.mem_cons_of_mem _ hv)) with e | e
      · subst e; have := hb1 v hv; rw [lessVr_irrefl] at this; cases this
      · exact e
end Go.Proofs.YtddamcmbgbefpaaDoor
