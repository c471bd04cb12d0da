/-
  Versions in order, those that are the same next to each other left out: each once. No program in this text.
-/
import Derived.Test.YtddamcmbgbefpaaDoorVrPure
import Derived.Lib.SlicesCompact
namespace Go.Proofs.YtddamcmbgbefpaaDoor
open Go.Lib

instance : Inhabited Vr := ⟨⟨0, 0⟩⟩
instance : DecidableEq Vr := fun a b => decidable_of_iff (a.rep = b.rep ∧ a.cnt = b.cnt) ⟨fun h => vr_ext h.1 h.2, fun h => by subst h; exact ⟨rfl, rfl⟩⟩
theorem lessVr_no {a b : Vr} : lessVr a b = false ↔ ¬ (a.rep < b.rep ∨ a.rep = b.rep ∧ a.cnt < b.cnt) := by
  rw [← lessVr_iff]; simp
theorem lessVr_ne {a b : Vr} (h : lessVr b a = false) (hne : a ≠ b) : lessVr a b = true := by
  rw [lessVr_no] at h
  rw [lessVr_iff]
  by_cases e : a.rep = b.rep
  · by_cases e2 : a.cnt = b.cnt
    · exact absurd (vr_ext e e2) hne
    · omega
  · omega
theorem lessVr_mix {a b c : Vr} (h : lessVr b a = false) (h' : lessVr b c = true) : lessVr a c = true := by
  rw [lessVr_no] at h
  rw [lessVr_iff] at *
  omega
theorem compact_inv (d : Array Vr) (hs : ∀ i j, i < j → j < d.size → lessVr d[j]! d[i]! = false) : ∀ m, m ≤ d.size → RiseVr (compactUpTo d m) ∧ ∀ v, v ∈ compactUpTo d m ↔ ∃ j, j < m ∧ d[j]! = v
  | 0, _ => ⟨List.Pairwise.nil, fun v => ⟨fun h => by simp [compactUpTo] at h, fun ⟨j, hj, _⟩ => by omega⟩⟩
  | m + 1, hm => by
    obtain ⟨h1, h2⟩ := compact_inv d hs m (by omega)
    rw [compactUpTo_succ]
    cases hk : keeps d m with
    | true =>
      rw [if_pos rfl]
      refine ⟨List.pairwise_append.2 ⟨h1, List.pairwise_singleton .., fun a ha b hb => ?_⟩, fun v => ?_⟩
      · rw [List.mem_singleton] at hb
        subst hb
        obtain ⟨j, hj, rfl⟩ := (h2 a).1 ha
        have hne : d[m - 1]! ≠ d[m]! := by
          simp only [keeps, decide_eq_true_eq] at hk
          rcases hk with hk | hk
          · omega
          · exact fun e => hk e.symm
        have hl := lessVr_ne (hs (m - 1) m (by omega) (by omega)) hne
        by_cases e : j = m - 1
        · subst e; exact hl
        · exact lessVr_mix (hs j (m - 1) (by omega) (by omega)) hl
      · rw [List.mem_append, List.mem_singleton, h2]
        constructor
        · rintro (⟨j, hj, rfl⟩ | rfl)
          · exact ⟨j, by omega, rfl⟩
          · exact ⟨m, by omega, rfl⟩
        · rintro ⟨j, hj, rfl⟩
          by_cases e : j = m
          · subst e; exact .inr rfl
          · exact .inl ⟨j, by omega, rfl⟩
    | false =>
      rw [if_neg (by simp), List.append_nil]
      refine ⟨h1, fun v => ?_⟩
      rw [h2]
      simp only [keeps, decide_eq_false_iff_not, not_or, Decidable.not_not] at hk
      constructor
      · rintro ⟨j, hj, rfl⟩
        exact ⟨j, by omega, rfl⟩
      · rintro ⟨j, hj, rfl⟩
        by_cases e : j = m
        · subst e; exact ⟨j - 1, by omega, hk.2.symm⟩
        · exact ⟨j, by omega, rfl⟩
theorem compact_sort {l m : List Vr} (hp : m.Perm (l.filter rightVr)) (hs : m.Pairwise fun a b => lessVr b a = false) : SortVr l (compact m) := by
  have hg : ∀ j (h : j < m.length), m.toArray[j]! = m[j] := fun j h => by rw [getElem!_pos m.toArray j (by simpa using h)]; simp
  obtain ⟨h1, h2⟩ := compact_inv m.toArray (fun i j hij hj => by
    have hj' : j < m.length := by simpa using hj
    rw [hg j hj', hg i (by omega)]
    exact List.pairwise_iff_getElem.1 hs i j (by omega) hj' hij) m.length (by simp)
  refine ⟨h1, fun v => ?_⟩
  show v ∈ compactUpTo m.toArray m.length ↔ _
  rw [h2, ← List.mem_filter, ← hp.mem_iff]
  constructor
  · rintro ⟨j, hj, rfl⟩
    rw [hg j hj]
    exact List.getElem_mem hj
  · intro hv
    obtain ⟨j, hj, rfl⟩ := List.getElem_of_mem hv
    exact ⟨j, hj, hg j hj⟩
theorem compact_len (m : List Vr) : (compact m).length ≤ m.length := by
  unfold compact compactUpTo
  rw [List.length_map]
  exact Nat.le_trans (List.length_filter_le _ _) (by rw [List.length_range]; exact Nat.le_refl _)
end Go.Proofs.YtddamcmbgbefpaaDoor
