/-
  Plain facts on words (layer 5): a text's word, its first letter, lines of words. No program in this text.
-/
import Derived.Lib.SplitLaws
import Derived.Lib.Join
namespace Go.Proofs.YtkdepcfnipihhaaDoor

/-- Does a byte stand in a word as it is? -/
def plainB (c : UInt8) : Bool := decide (97 ≤ c.toNat ∧ c.toNat ≤ 122) || decide (48 ≤ c.toNat ∧ c.toNat ≤ 57)
/-- The digits of base sixteen. -/
def digL : List UInt8 := [48, 49, 50, 51, 52, 53, 54, 55, 56, 57, 97, 98, 99, 100, 101, 102]
/-- A digit of base sixteen. -/
def hexD (n : Nat) : UInt8 := digL.getD n 0
/-- Which digit a byte is, or -1. -/
def digI (c : UInt8) : Int := Lib.indexByte digL c
/-- How a byte is spelt. -/
def spell (c : UInt8) : List UInt8 := if plainB c = true then [c] else [45, hexD (c.toNat / 16), hexD (c.toNat % 16)]
def spells (l : List UInt8) : List UInt8 := (l.map spell).flatten
/-- A text's word. -/
def ofV (l : List UInt8) : List UInt8 := if l = [] then [95] else spells l
/-- The byte of two digits. -/
def byteOf (x y : UInt8) : UInt8 := UInt8.ofNat ((digI x).toNat * 16 + (digI y).toNat)

theorem spells_nil : spells [] = [] := rfl
theorem spells_cons (c : UInt8) (l : List UInt8) : spells (c :: l) = spell c ++ spells l := rfl
theorem spells_snoc (l : List UInt8) (c : UInt8) : spells (l ++ [c]) = spells l ++ spell c := by simp [spells]
theorem spell_plain {c : UInt8} (h : plainB c = true) : spell c = [c] := if_pos h
theorem spell_other {c : UInt8} (h : plainB c = false) : spell c = [45, hexD (c.toNat / 16), hexD (c.toNat % 16)] := if_neg (by simp [h])
theorem spell_ne (c : UInt8) : spell c ≠ [] := by unfold spell; split <;> simp
theorem spell_len (c : UInt8) : 1 ≤ (spell c).length ∧ (spell c).length ≤ 3 := by unfold spell; split <;> simp
theorem spells_len (l : List UInt8) : l.length ≤ (spells l).length ∧ (spells l).length ≤ 3 * l.length := by
  induction l with
  | nil => simp [spells]
  | cons c l ih =>
    have := spell_len c
    rw [spells_cons, List.length_append, List.length_cons]
    omega
theorem ofV_nil : ofV [] = [95] := rfl
theorem ofV_some {l : List UInt8} (h : l ≠ []) : ofV l = spells l := if_neg h
theorem ofV_len (l : List UInt8) : 1 ≤ (ofV l).length ∧ (ofV l).length ≤ 3 * l.length + 1 := by
  unfold ofV
  split
  · simp
  · rename_i h
    have := spells_len l
    have : 0 < l.length := List.length_pos_iff.2 h
    omega
theorem ofV_ne (l : List UInt8) : ofV l ≠ [] := by
  intro h
  have := (ofV_len l).1
  rw [h] at this
  simp at this

theorem digI_all : ∀ n, n < 256 → (-1 ≤ digI (UInt8.ofNat n) ∧ digI (UInt8.ofNat n) < 16) ∧ (0 ≤ digI (UInt8.ofNat n) → hexD (digI (UInt8.ofNat n)).toNat = UInt8.ofNat n) := by decide +kernel
theorem byte_nat (c : UInt8) : UInt8.ofNat c.toNat = c := by simp
theorem digI_bound (c : UInt8) : -1 ≤ digI c ∧ digI c < 16 := by
  have := (digI_all c.toNat c.toNat_lt).1
  rwa [byte_nat] at this
theorem hexD_digI {c : UInt8} (h : 0 ≤ digI c) : hexD (digI c).toNat = c := by
  have := (digI_all c.toNat c.toNat_lt).2
  rw [byte_nat] at this
  exact this h
theorem digI_hexD : ∀ n, n < 16 → digI (hexD n) = n := by decide +kernel
theorem hexD_inj {m n : Nat} (hm : m < 16) (hn : n < 16) (h : hexD m = hexD n) : m = n := by
  have := digI_hexD m hm
  rw [h, digI_hexD n hn] at this
  omega
theorem stroke_not_plain : plainB 45 = false := rfl
theorem byteOf_hexD (c : UInt8) : byteOf (hexD (c.toNat / 16)) (hexD (c.toNat % 16)) = c := by
  have := c.toNat_lt
  unfold byteOf
  rw [digI_hexD _ (by omega), digI_hexD _ (by omega)]
  have e : ((c.toNat / 16 : Nat) : Int).toNat * 16 + ((c.toNat % 16 : Nat) : Int).toNat = c.toNat := by omega
  rw [e, byte_nat]
theorem byteOf_nat {x y : UInt8} (hx : 0 ≤ digI x) (hy : 0 ≤ digI y) : (byteOf x y).toNat = (digI x).toNat * 16 + (digI y).toNat := by
  have h1 := digI_bound x
  have h2 := digI_bound y
  unfold byteOf
  simp only [UInt8.toNat_ofNat']
  omega
theorem spell_byteOf {x y : UInt8} (hx : 0 ≤ digI x) (hy : 0 ≤ digI y) (hp : plainB (byteOf x y) = false) : spell (byteOf x y) = [45, x, y] := by
  have h1 := digI_bound x
  have h2 := digI_bound y
  rw [spell_other hp, byteOf_nat hx hy]
  have e1 : ((digI x).toNat * 16 + (digI y).toNat) / 16 = (digI x).toNat := by omega
  have e2 : ((digI x).toNat * 16 + (digI y).toNat) % 16 = (digI y).toNat := by omega
  rw [e1, e2, hexD_digI hx, hexD_digI hy]

/-- No letter's spelling begins another's: what stands behind is told apart. -/
theorem spell_cut {c d : UInt8} {a b : List UInt8} (h : spell c ++ a = spell d ++ b) : c = d ∧ a = b := by
  cases hc : plainB c <;> cases hd : plainB d
  · rw [spell_other hc, spell_other hd] at h
    simp only [List.cons_append, List.nil_append, List.cons.injEq, true_and] at h
    obtain ⟨h1, h2, h3⟩ := h
    have := c.toNat_lt
    have := d.toNat_lt
    have e1 := hexD_inj (by omega) (by omega) h1
    have e2 := hexD_inj (by omega) (by omega) h2
    exact ⟨UInt8.toNat_inj.1 (by omega), h3⟩
  · rw [spell_other hc, spell_plain hd] at h
    simp only [List.cons_append, List.nil_append, List.cons.injEq] at h
    rw [← h.1, stroke_not_plain] at hd
    cases hd
  · rw [spell_plain hc, spell_other hd] at h
    simp only [List.cons_append, List.nil_append, List.cons.injEq] at h
    rw [h.1, stroke_not_plain] at hc
    cases hc
  · rw [spell_plain hc, spell_plain hd] at h
    simpa using h
theorem spells_cut : ∀ (t t' : List UInt8) (r : List UInt8), spells t ++ r = spells t' → ∃ q, r = spells q ∧ t' = t ++ q
  | [], t', r, h => ⟨t', by simpa [spells] using h, rfl⟩
  | c :: t, [], r, h => by
    rw [spells_cons, spells_nil, List.append_assoc] at h
    exact absurd (List.append_eq_nil_iff.1 h).1 (spell_ne c)
  | c :: t, d :: t', r, h => by
    rw [spells_cons, spells_cons, List.append_assoc] at h
    obtain ⟨rfl, h'⟩ := spell_cut h
    obtain ⟨q, h1, h2⟩ := spells_cut t t' r h'
    exact ⟨q, h1, by rw [h2]; rfl⟩
theorem spells_inj {s t : List UInt8} (h : spells s = spells t) : s = t := by
  obtain ⟨q, h1, h2⟩ := spells_cut s t [] (by simpa using h)
  have : q = [] := by
    cases q with
    | nil => rfl
    | cons c q => rw [spells_cons] at h1; exact absurd (List.append_eq_nil_iff.1 h1.symm).1 (spell_ne c)
  rw [h2, this, List.append_nil]
/-- The sign of the empty text is no other text's word: it is no byte's spelling. -/
theorem none_not_spells (t : List UInt8) : spells t ≠ [95] := by
  cases t with
  | nil => simp [spells]
  | cons c t =>
    rw [spells_cons]
    intro h
    cases hc : plainB c
    · rw [spell_other hc] at h; simp at h
    · rw [spell_plain hc] at h
      simp only [List.cons_append, List.nil_append, List.cons.injEq] at h
      rw [h.1] at hc
      exact absurd hc (by decide)
theorem ofV_inj {s t : List UInt8} (h : ofV s = ofV t) : s = t := by
  unfold ofV at h
  split at h <;> split at h
  · simp_all
  · exact absurd h.symm (none_not_spells t)
  · exact absurd h (none_not_spells s)
  · exact spells_inj h

/-- WHAT BEGINS A WORD: nothing does that is no spelling. -/
def noFirst (r : List UInt8) : Prop := ∀ c a, r ≠ spell c ++ a
theorem first_plain {c : UInt8} {a : List UInt8} (h : plainB c = true) : c :: a = spell c ++ a := by rw [spell_plain h]; rfl
theorem first_three {x y : UInt8} {a : List UInt8} (hx : 0 ≤ digI x) (hy : 0 ≤ digI y) (hp : plainB (byteOf x y) = false) : 45 :: x :: y :: a = spell (byteOf x y) ++ a := by rw [spell_byteOf hx hy hp]; rfl
theorem noFirst_head {c : UInt8} {a : List UInt8} (hp : plainB c = false) (hc : c ≠ 45) : noFirst (c :: a) := by
  intro d b h
  cases hd : plainB d
  · rw [spell_other hd] at h
    simp only [List.cons_append, List.nil_append, List.cons.injEq] at h
    exact hc h.1
  · rw [spell_plain hd] at h
    simp only [List.cons_append, List.nil_append, List.cons.injEq] at h
    rw [← h.1, hp] at hd
    cases hd
theorem noFirst_short {c : UInt8} {a : List UInt8} (hp : plainB c = false) (hl : (c :: a).length < 3) : noFirst (c :: a) := by
  intro d b h
  cases hd : plainB d
  · rw [spell_other hd] at h
    rw [h] at hl
    simp at hl
    omega
  · rw [spell_plain hd] at h
    simp only [List.cons_append, List.nil_append, List.cons.injEq] at h
    rw [← h.1, hp] at hd
    cases hd
theorem noFirst_digits {x y : UInt8} {a : List UInt8} (h : digI x < 0 ∨ digI y < 0) : noFirst (45 :: x :: y :: a) := by
  intro d b e
  cases hd : plainB d
  · rw [spell_other hd] at e
    simp only [List.cons_append, List.nil_append, List.cons.injEq, true_and] at e
    have := d.toNat_lt
    rw [e.1, e.2.1, digI_hexD _ (by omega), digI_hexD _ (by omega)] at h
    omega
  · rw [spell_plain hd] at e
    simp only [List.cons_append, List.nil_append, List.cons.injEq] at e
    rw [← e.1, stroke_not_plain] at hd
    cases hd
theorem noFirst_spelt {x y : UInt8} {a : List UInt8} (hp : plainB (byteOf x y) = true) : noFirst (45 :: x :: y :: a) := by
  intro d b e
  cases hd : plainB d
  · rw [spell_other hd] at e
    simp only [List.cons_append, List.nil_append, List.cons.injEq, true_and] at e
    rw [e.1, e.2.1, byteOf_hexD, hd] at hp
    cases hp
  · rw [spell_plain hd] at e
    simp only [List.cons_append, List.nil_append, List.cons.injEq] at e
    rw [← e.1, stroke_not_plain] at hd
    cases hd
/-- Where nothing begins what is left, the whole is no word. -/
theorem no_word {w t r : List UInt8} (hw : w ≠ [95]) (h : w = spells t ++ r) (hr : r ≠ []) (hn : noFirst r) : ∀ s, ofV s ≠ w := by
  intro s hs
  unfold ofV at hs
  split at hs
  · exact hw hs.symm
  · rw [h] at hs
    obtain ⟨q, h1, -⟩ := spells_cut t s r hs.symm
    cases q with
    | nil => exact hr h1
    | cons c q => exact hn c (spells q) (by rw [h1, spells_cons])
theorem word_of {w t : List UInt8} (hw : w ≠ []) (h : w = spells t) : ofV t = w := by
  have : t ≠ [] := by
    intro e
    subst e
    exact hw h
  rw [ofV_some this, h]

/-! ### Lines -/
/-- May a word stand in a line? -/
def mayB (w : List UInt8) : Bool := !w.isEmpty && !w.contains 32 && !w.contains 10
def lineV (l : List (List UInt8)) : List UInt8 := Lib.join l [32]
theorem lineV_nil : lineV [] = [] := rfl
theorem lineV_first (x : List UInt8) : lineV [x] = x := Lib.join_one x [32]
theorem lineV_cons (x : List UInt8) (r : List (List UInt8)) : lineV (x :: r) = x ++ Lib.joinTail [32] r := Lib.join_cons x r [32]
theorem lineV_snoc {l : List (List UInt8)} (h : l ≠ []) (x : List UInt8) : lineV (l ++ [x]) = lineV l ++ [32] ++ x := by
  cases l with
  | nil => exact absurd rfl h
  | cons y r =>
    rw [List.cons_append, lineV_cons, lineV_cons]
    simp [Lib.joinTail]
theorem lineV_len (l : List (List UInt8)) (m : Nat) (h : ∀ x ∈ l, x.length ≤ m) : (lineV l).length ≤ l.length * (m + 1) := by
  cases l with
  | nil => simp [lineV_nil]
  | cons y r =>
    have hj : (lineV (y :: r)).length = [32].length * r.length + Lib.lens (y :: r) := Lib.join_length y r [32]
    have hl : ∀ (q : List (List UInt8)), (∀ x ∈ q, x.length ≤ m) → Lib.lens q ≤ q.length * m := by
      intro q
      induction q with
      | nil => intro _; simp [Lib.lens]
      | cons z q ih =>
        intro hq
        have h1 := ih fun x hx => hq x (List.mem_cons_of_mem _ hx)
        have h2 := hq z (List.mem_cons_self ..)
        simp only [Lib.lens, List.map_cons, List.sum_cons, List.length_cons] at h1 ⊢
        rw [Nat.succ_mul]
        omega
    have := hl _ h
    rw [hj]
    simp only [List.length_cons, List.length_nil, Nat.zero_add, Nat.one_mul] at this ⊢
    rw [Nat.mul_succ]
    omega

/-- A line, cut at each blank. -/
def cutsV : List UInt8 → List (List UInt8)
  | [] => [[]]
  | c :: l => if c = 32 then [] :: cutsV l else match cutsV l with
    | h :: t => (c :: h) :: t
    | [] => [[c]]
theorem cutsV_ne (l : List UInt8) : cutsV l ≠ [] := by
  cases l with
  | nil => simp [cutsV]
  | cons c l =>
    unfold cutsV
    split
    · simp
    · split <;> simp
theorem cutsV_blank (l : List UInt8) : cutsV (32 :: l) = [] :: cutsV l := by simp [cutsV]
theorem cutsV_other {c : UInt8} (hc : c ≠ 32) {l h : List UInt8} {t : List (List UInt8)} (e : cutsV l = h :: t) : cutsV (c :: l) = (c :: h) :: t := by
  simp [cutsV, hc, e]
theorem cutsV_app {a : List UInt8} (ha : (32 : UInt8) ∉ a) {l h : List UInt8} {t : List (List UInt8)} (e : cutsV l = h :: t) : cutsV (a ++ l) = (a ++ h) :: t := by
  induction a with
  | nil => exact e
  | cons c a ih =>
    have h1 : c ≠ 32 := fun e => ha (by simp [e])
    have h2 := ih fun e => ha (List.mem_cons_of_mem _ e)
    rw [List.cons_append, cutsV_other h1 h2]
    rfl
theorem cutsV_whole {a : List UInt8} (ha : (32 : UInt8) ∉ a) : cutsV a = [a] := by
  have := cutsV_app ha (l := []) (h := []) (t := []) rfl
  simpa using this
theorem cutsV_hit {a : List UInt8} (ha : (32 : UInt8) ∉ a) (b : List UInt8) : cutsV (a ++ 32 :: b) = a :: cutsV b := by
  have := cutsV_app ha (l := 32 :: b) (cutsV_blank b)
  simpa using this
theorem index_mem (s : List UInt8) : (Lib.index s [32] = -1 ∧ (32 : UInt8) ∉ s) ∨ ∃ a b : List UInt8, Lib.index s [32] = a.length ∧ s = a ++ 32 :: b ∧ (32 : UInt8) ∉ a := by
  induction s with
  | nil => exact .inl ⟨rfl, by simp⟩
  | cons c l ih =>
    by_cases hc : c = 32
    · subst hc
      exact .inr ⟨[], l, by simp [Lib.index], rfl, by simp⟩
    · have hp : ([32] : List UInt8).isPrefixOf (c :: l) = false := by simp [List.isPrefixOf, Ne.symm hc]
      rcases ih with ⟨h1, h2⟩ | ⟨a, b, h1, h2, h3⟩
      · refine .inl ⟨by unfold Lib.index; rw [hp, h1]; rfl, ?_⟩
        simp [Ne.symm hc, h2]
      · refine .inr ⟨c :: a, b, ?_, by rw [h2]; rfl, by simp [Ne.symm hc, h3]⟩
        unfold Lib.index
        rw [hp, h1]
        have : ((a.length : Int) == -1) = false := by rw [beq_eq_false_iff_ne]; omega
        simp [this]
theorem split_cuts : ∀ (n : Nat) (s : List UInt8), s.length ≤ n → Lib.split s [32] = cutsV s := by
  intro n
  induction n with
  | zero =>
    intro s h
    obtain rfl : s = [] := List.eq_nil_of_length_eq_zero (by omega)
    rfl
  | succ n ih =>
    intro s h
    rcases index_mem s with ⟨h1, h2⟩ | ⟨a, b, h1, h2, h3⟩
    · unfold Lib.split
      rw [Lib.count_miss h1, cutsV_whole h2]
      rfl
    · have hd : s.drop (a.length + 1) = b := by rw [h2]; simp
      have ht : s.take a.length = a := by rw [h2]; simp
      have hb : b.length ≤ n := by rw [h2] at h; simp at h; omega
      unfold Lib.split
      rw [Lib.count_hit (by simp) h1, Nat.add_comm 1, Lib.splitK, h1]
      have : ((a.length : Int) == -1) = false := by rw [beq_eq_false_iff_ne]; omega
      rw [this]
      simp only [Bool.false_eq_true, if_false, Int.toNat_natCast, Nat.add_zero, List.length_cons, List.length_nil, Nat.zero_add]
      rw [hd, ht, h2, cutsV_hit h3]
      exact congrArg (a :: ·) (ih b hb)
theorem join_cuts (s : List UInt8) : lineV (cutsV s) = s := by
  induction s with
  | nil => rfl
  | cons c l ih =>
    obtain ⟨h, t, e⟩ := List.exists_cons_of_ne_nil (cutsV_ne l)
    rw [e, lineV_cons] at ih
    by_cases hc : c = 32
    · subst hc
      rw [cutsV_blank, e, lineV_cons]
      simp only [Lib.joinTail, List.map_cons, List.flatten_cons, List.nil_append] at ih ⊢
      rw [List.append_assoc, ih]
      rfl
    · rw [cutsV_other hc e, lineV_cons, List.cons_append, ih]
theorem cuts_none (s : List UInt8) : ∀ p ∈ cutsV s, (32 : UInt8) ∉ p := by
  induction s with
  | nil => simp [cutsV]
  | cons c l ih =>
    obtain ⟨h, t, e⟩ := List.exists_cons_of_ne_nil (cutsV_ne l)
    by_cases hc : c = 32
    · subst hc
      rw [cutsV_blank]
      intro p hp
      rcases List.mem_cons.1 hp with rfl | hp
      · simp
      · exact ih p hp
    · rw [cutsV_other hc e]
      rw [e] at ih
      intro p hp
      rcases List.mem_cons.1 hp with rfl | hp
      · have := ih h (List.mem_cons_self ..)
        simp [Ne.symm hc, this]
      · exact ih p (List.mem_cons_of_mem _ hp)
theorem cuts_line {l : List (List UInt8)} (hne : l ≠ []) (h : ∀ p ∈ l, (32 : UInt8) ∉ p) : cutsV (lineV l) = l := by
  induction l with
  | nil => exact absurd rfl hne
  | cons x r ih =>
    cases r with
    | nil => rw [lineV_first, cutsV_whole (h x (List.mem_cons_self ..))]
    | cons y r =>
      have e : lineV (x :: y :: r) = x ++ 32 :: lineV (y :: r) := by
        rw [lineV_cons, lineV_cons]
        simp [Lib.joinTail]
      rw [e, cutsV_hit (h x (List.mem_cons_self ..)), ih (by simp) fun p hp => h p (List.mem_cons_of_mem _ hp)]
theorem mem_joinTail {r : List (List UInt8)} {p : List UInt8} {c : UInt8} (hp : p ∈ r) (hc : c ∈ p) : c ∈ Lib.joinTail [32] r := by
  unfold Lib.joinTail
  rw [List.mem_flatten]
  exact ⟨[32] ++ p, List.mem_map.2 ⟨p, hp, rfl⟩, List.mem_append_right _ hc⟩
theorem mem_line {l : List (List UInt8)} {p : List UInt8} {c : UInt8} (hp : p ∈ l) (hc : c ∈ p) : c ∈ lineV l := by
  cases l with
  | nil => cases hp
  | cons x r =>
    rw [lineV_cons]
    rcases List.mem_cons.1 hp with rfl | hp
    · exact List.mem_append_left _ hc
    · exact List.mem_append_right _ (mem_joinTail hp hc)
theorem of_mem_line {l : List (List UInt8)} {c : UInt8} (h : c ∈ lineV l) (hc : c ≠ 32) : ∃ p ∈ l, c ∈ p := by
  cases l with
  | nil => cases h
  | cons x r =>
    rw [lineV_cons] at h
    rcases List.mem_append.1 h with h | h
    · exact ⟨x, List.mem_cons_self .., h⟩
    · unfold Lib.joinTail at h
      obtain ⟨q, hq, hcq⟩ := List.mem_flatten.1 h
      obtain ⟨p, hp, rfl⟩ := List.mem_map.1 hq
      rcases List.mem_append.1 hcq with h | h
      · simp only [List.mem_singleton] at h; exact absurd h hc
      · exact ⟨p, List.mem_cons_of_mem _ hp, h⟩

/-- Two blanks side by side. -/
def twoB (s : List UInt8) : Prop := ∃ a b : List UInt8, s = a ++ 32 :: 32 :: b
theorem twoB_nil : ¬ twoB [] := by rintro ⟨a, b, h⟩; simp at h
theorem twoB_cons (c : UInt8) (l : List UInt8) : twoB (c :: l) ↔ (c = 32 ∧ l.head? = some 32) ∨ twoB l := by
  constructor
  · rintro ⟨a, b, h⟩
    cases a with
    | nil =>
      simp only [List.nil_append, List.cons.injEq] at h
      exact .inl ⟨h.1, by rw [h.2]; rfl⟩
    | cons d a =>
      simp only [List.cons_append, List.cons.injEq] at h
      exact .inr ⟨a, b, h.2⟩
  · rintro (⟨rfl, h⟩ | ⟨a, b, rfl⟩)
    · cases l with
      | nil => cases h
      | cons d l => simp only [List.head?_cons, Option.some.injEq] at h; subst h; exact ⟨[], l, rfl⟩
    · exact ⟨c :: a, b, rfl⟩
theorem cuts_head (l : List UInt8) : ∃ h t, cutsV l = h :: t ∧ (h = [] ↔ l = [] ∨ l.head? = some 32) := by
  cases l with
  | nil => exact ⟨[], [], rfl, by simp⟩
  | cons c l =>
    by_cases hc : c = 32
    · subst hc
      exact ⟨[], _, cutsV_blank l, by simp⟩
    · obtain ⟨h, t, e⟩ := List.exists_cons_of_ne_nil (cutsV_ne l)
      exact ⟨c :: h, t, cutsV_other hc e, by simp [hc]⟩
theorem cuts_tail (s : List UInt8) : [] ∈ (cutsV s).tail ↔ s.getLast? = some 32 ∨ twoB s := by
  induction s with
  | nil => simp [cutsV, twoB_nil]
  | cons c l ih =>
    obtain ⟨h, t, e, hh⟩ := cuts_head l
    rw [e, List.tail_cons] at ih
    by_cases hc : c = 32
    · subst hc
      rw [cutsV_blank, List.tail_cons, e, List.mem_cons, ih, twoB_cons]
      have e1 : ([] = h) ↔ (l = [] ∨ l.head? = some 32) := by rw [eq_comm]; exact hh
      rw [e1]
      cases l with
      | nil => simp
      | cons d l => simp only [List.getLast?_cons_cons]; simp [or_left_comm]
    · rw [cutsV_other hc e, List.tail_cons, ih, twoB_cons]
      cases l with
      | nil => simp [hc, twoB_nil]
      | cons d l => simp only [List.getLast?_cons_cons]; simp [hc]
/-- Some piece is empty where the line begins or ends in a blank, or two stand side by side. -/
theorem cuts_empty (s : List UInt8) (hs : s ≠ []) : [] ∈ cutsV s ↔ s.head? = some 32 ∨ s.getLast? = some 32 ∨ twoB s := by
  obtain ⟨h, t, e, hh⟩ := cuts_head s
  have ht := cuts_tail s
  rw [e, List.tail_cons] at ht
  rw [e, List.mem_cons, ht, eq_comm, hh]
  simp [hs]

/-! ### What the library's searches say of these -/
theorem indexByte_mem (s : List UInt8) (c : UInt8) : decide (0 ≤ Lib.indexByte s c) = s.contains c := by
  induction s with
  | nil => rfl
  | cons b l ih =>
    unfold Lib.indexByte
    have hge := Lib.indexByte_ge l c
    by_cases hb : b = c
    · subst hb; simp
    · have h1 : (b == c) = false := by simpa using hb
      have h2 : (c == b) = false := by simpa using Ne.symm hb
      rw [List.contains_cons, h1, h2, Bool.false_or, ← ih]
      by_cases hm : Lib.indexByte l c = -1
      · simp [hm]
      · have : (Lib.indexByte l c == -1) = false := by simpa using hm
        simp only [this, Bool.false_eq_true, if_false]
        rw [decide_eq_decide]
        omega
theorem contains_two (s : List UInt8) : Lib.contains s [32, 32] = true ↔ twoB s := by
  unfold Lib.contains
  rw [decide_eq_true_eq]
  constructor
  · intro h
    rcases Lib.index_spec s [32, 32] with ⟨h1, _⟩ | ⟨i, _, _, h3, _⟩
    · omega
    · unfold Lib.occAt at h3
      obtain ⟨b, hb⟩ := List.isPrefixOf_iff_prefix.1 h3
      refine ⟨s.take i, b, ?_⟩
      have e := List.take_append_drop i s
      rw [← hb] at e
      exact e.symm
  · rintro ⟨a, b, rfl⟩
    rcases Lib.index_spec (a ++ 32 :: 32 :: b) [32, 32] with ⟨_, h2⟩ | ⟨i, h1, _⟩
    · have := h2 a.length (by simp)
      simp [Lib.occAt, List.isPrefixOf] at this
    · omega
theorem prefix_head (s : List UInt8) : Lib.hasPrefix s [32] = true ↔ s.head? = some 32 := by
  cases s with
  | nil => simp [Lib.hasPrefix]
  | cons c l =>
    unfold Lib.hasPrefix
    rw [List.isPrefixOf_iff_prefix, List.head?_cons, Option.some.injEq]
    constructor
    · rintro ⟨a, h⟩; exact (List.cons.inj h).1.symm
    · rintro rfl; exact ⟨l, rfl⟩
theorem suffix_last (s : List UInt8) : Lib.hasSuffix s [32] = true ↔ s.getLast? = some 32 := by
  unfold Lib.hasSuffix
  rw [List.isSuffixOf_iff_suffix, List.getLast?_eq_some_iff]
  constructor
  · rintro ⟨a, rfl⟩; exact ⟨a, rfl⟩
  · rintro ⟨a, rfl⟩; exact ⟨a, rfl⟩

/-- Is a line none? -/
def badB (s : List UInt8) : Bool := s.contains 10 || Lib.contains s [32, 32] || Lib.hasPrefix s [32] || Lib.hasSuffix s [32]
theorem mayB_iff (w : List UInt8) : mayB w = true ↔ w ≠ [] ∧ (32 : UInt8) ∉ w ∧ (10 : UInt8) ∉ w := by
  unfold mayB
  simp only [Bool.and_eq_true, Bool.not_eq_true', List.isEmpty_eq_false_iff, List.contains_eq_mem, decide_eq_false_iff_not]
  exact ⟨fun ⟨⟨a, b⟩, c⟩ => ⟨a, b, c⟩, fun ⟨a, b, c⟩ => ⟨⟨a, b⟩, c⟩⟩
theorem badB_iff {s : List UInt8} (hs : s ≠ []) : badB s = false ↔ ∀ p ∈ cutsV s, mayB p = true := by
  have hb : badB s = true ↔ (10 : UInt8) ∈ s ∨ [] ∈ cutsV s := by
    rw [cuts_empty s hs]
    unfold badB
    simp only [Bool.or_eq_true, List.contains_eq_mem, decide_eq_true_eq, contains_two, prefix_head, suffix_last]
    constructor
    · rintro (((h | h) | h) | h)
      · exact .inl h
      · exact .inr (.inr (.inr h))
      · exact .inr (.inl h)
      · exact .inr (.inr (.inl h))
    · rintro (h | h | h | h)
      · exact .inl (.inl (.inl h))
      · exact .inl (.inr h)
      · exact .inr h
      · exact .inl (.inl (.inr h))
  constructor
  · intro h p hp
    rw [mayB_iff]
    have hn : ¬ ((10 : UInt8) ∈ s ∨ [] ∈ cutsV s) := fun e => by rw [hb.2 e] at h; cases h
    refine ⟨fun e => hn (.inr (e ▸ hp)), cuts_none s p hp, fun e => hn (.inl ?_)⟩
    have := mem_line hp e
    rwa [join_cuts] at this
  · intro h
    cases hbb : badB s
    · rfl
    · exfalso
      rcases hb.1 hbb with e | e
      · rw [← join_cuts s] at e
        obtain ⟨p, hp, hc⟩ := of_mem_line e (by decide)
        exact ((mayB_iff p).1 (h p hp)).2.2 hc
      · exact ((mayB_iff []).1 (h [] e)).1 rfl
/-- The words of words' line are these. -/
theorem line_good {l : List (List UInt8)} (hne : l ≠ []) (h : ∀ p ∈ l, mayB p = true) : lineV l ≠ [] ∧ badB (lineV l) = false ∧ cutsV (lineV l) = l := by
  have hc := cuts_line hne fun p hp => ((mayB_iff p).1 (h p hp)).2.1
  have hn : lineV l ≠ [] := by
    cases l with
    | nil => exact absurd rfl hne
    | cons x r =>
      rw [lineV_cons]
      intro e
      exact ((mayB_iff x).1 (h x (List.mem_cons_self ..))).1 (List.append_eq_nil_iff.1 e).1
  exact ⟨hn, (badB_iff hn).2 (by rw [hc]; exact h), hc⟩
end Go.Proofs.YtkdepcfnipihhaaDoor
