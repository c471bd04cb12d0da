/-
  Layer 7 (span): the ranges of one text, and of those that begin with one.
-/
import Derived.Test.YtmdalbglekjcjaaSpanB
namespace Go.Proofs.Ytmdalbglekjcjaa
open Go.RowKit

theorem all_is (S T : ByteArray) (o : Bool) (h : IsR allR S T o) (w : World) : Calls Try.prog 16 #[] w fun e w' => e = .returned (.agg #[.string S, .string T, .bool o]) ∧ Below w.heap.size w w' := by
  obtain ⟨rfl, rfl, rfl⟩ := h
  exact span_all w
theorem span_of (k : List UInt8) (r : Rng) (K S T : ByteArray) (o : Bool) (hK : str k = K) (hk : k.length ≤ 1000000) (hr : ofR k = r) (h : IsR r S T o) (w : World) :
    Calls Try.prog 9 #[.string K] w fun e w' => e = .returned (.agg #[.string S, .string T, .bool o]) ∧ Below w.heap.size w w' := by
  have hz : K.size = k.length := by subst hK; exact str_size _
  by_cases g : k.length ≤ 16
  · have g1 : K.size ≤ 16 := by omega
    rw [ofR_short g] at hr
    subst hr
    obtain ⟨h1, h2, rfl⟩ := h
    obtain rfl : K = S := hK.symm.trans h1
    have N := fun w => Lib.hid (next_is k K T hK h2 (by omega) w)
    clear hz hK h1 h2 g
    go_enter Try.func9, Try.ntmps9
    go_wp2_with ((with_reducible refine (N _).out.mono ?_); rintro e w' ⟨rfl, hb⟩; obtain ⟨hc, hf⟩ := bcell hb; replace hb := ((Below.refl w.heap.size w).alloc (Nat.le_refl _) _).trans (hb.mono (by simp)))
    exact bodyPost_ret (v := .agg #[.string K, .string T, .bool false]) (by simp [results, Try.results9, go_sem, hc]) rfl ⟨rfl, below_set3 hb (Nat.le_refl _) _ _ _⟩
  · have g1 : 16 < K.size := by omega
    rw [ofR_long (by omega)] at hr
    subst hr
    obtain ⟨rfl, rfl, rfl⟩ := h
    clear hz hK g
    go_enter Try.func9, Try.ntmps9
    go_wp2_with fail
    exact bodyPost_ret (v := .agg #[.string ⟨#[]⟩, .string ⟨#[]⟩, .bool false]) (by simp [results, Try.results9, go_sem]) rfl ⟨rfl, (Below.refl _ _).alloc (Nat.le_refl _) _⟩
theorem ref_of (k : List UInt8) (r : Rng) (K S T : ByteArray) (o : Bool) (hK : str k = K) (hk : k.length ≤ 1000000) (hr : ofR k = r) (h : IsR r S T o) (w : World) :
    Calls Try.prog 15 #[.string K] w fun e w' => e = .returned (.agg #[.string S, .string T, .bool o]) ∧ Below w.heap.size w w' := by
  have hz : K.size = k.length := by subst hK; exact str_size _
  by_cases g : k.length ≤ 16
  · have g1 : K.size ≤ 16 := by omega
    rw [ofR_short g] at hr
    subst hr
    obtain ⟨h1, h2, rfl⟩ := h
    obtain rfl : K = S := hK.symm.trans h1
    have HV : Hid (K ++ str [0] = T) := by rw [← hK, ← h2]; exact txt_app k [0]
    have hz0 : (str [(0 : UInt8)]).size ≤ 1 := by rw [str_size]; simp
    have hrow := byte_row (w.alloc (.cells #[.string ⟨#[]⟩, .string ⟨#[]⟩, .bool false] 23)) _ 0 rfl
    have K1 := conv_str (P := Try.prog) 1 43 5 9 Try.underlying43 Try.underlying5 Try.underlying9 hrow
    change (convert 43 9 (.slice (some ⟨(w.alloc (.cells #[.string ⟨#[]⟩, .string ⟨#[]⟩, .bool false] 23)).heap.size, 0, none⟩) 1 1)).run Try.prog ((w.alloc (.cells #[.string ⟨#[]⟩, .string ⟨#[]⟩, .bool false] 23)).alloc (.cells #[.int .u8 0] 5)) = _ at K1
    rw [show (w.alloc (.cells #[.string ⟨#[]⟩, .string ⟨#[]⟩, .bool false] 23)).heap.size = w.heap.size + 1 by simp] at K1
    clear hz hK h1 h2 g hrow
    go_enter Try.func15, Try.ntmps15
    go_wp2_with fail
    exact bodyPost_ret (v := .agg #[.string K, .string T, .bool false]) (by simp [results, Try.results15, go_sem, HV.out]) rfl ⟨rfl, ((Below.refl _ _).alloc (Nat.le_refl _) _).alloc (by simp) _⟩
  · have g1 : 16 < K.size := by omega
    rw [ofR_long (by omega)] at hr
    subst hr
    obtain ⟨rfl, rfl, rfl⟩ := h
    clear hz hK g
    go_enter Try.func15, Try.ntmps15
    go_wp2_with fail
    exact bodyPost_ret (v := .agg #[.string ⟨#[]⟩, .string ⟨#[]⟩, .bool false]) (by simp [results, Try.results15, go_sem]) rfl ⟨rfl, (Below.refl _ _).alloc (Nat.le_refl _) _⟩
/-- What the range of a prefix is, in terms of the prefix's end. -/
theorem prefixR_end {p : List UInt8} (h : p.length ≤ 16) {x : List UInt8} {v : Bool} (hv : (endV p = some x ∧ v = true) ∨ (endV p = none ∧ x = [] ∧ v = false)) : prefixR p = ⟨p, x, !v⟩ := by
  rcases hv with ⟨h1, rfl⟩ | ⟨h1, rfl, rfl⟩
  · rw [prefixR_some h h1]; rfl
  · rw [prefixR_none h h1]; rfl
theorem span_prefix (k : List UInt8) (r : Rng) (K S T : ByteArray) (o : Bool) (hK : str k = K) (hk : k.length ≤ 1000000) (hr : prefixR k = r) (h : IsR r S T o) (w : World) :
    Calls Try.prog 8 #[.string K] w fun e w' => e = .returned (.agg #[.string S, .string T, .bool o]) ∧ Below w.heap.size w w' := by
  have hz : K.size = k.length := by subst hK; exact str_size _
  by_cases g : k.length ≤ 16
  · have g1 : K.size ≤ 16 := by omega
    obtain ⟨x, v, hv⟩ := endO k
    rw [prefixR_end g hv] at hr
    subst hr
    obtain ⟨h1, h2, rfl⟩ := h
    obtain rfl : K = S := hK.symm.trans h1
    have N := fun w => Lib.hid (endO_is k x v K T hK h2 (by omega) hv w)
    clear hz hK h1 h2 g hv
    go_enter Try.func8, Try.ntmps8
    go_wp2_with ((with_reducible refine (N _).out.mono ?_); rintro e w' ⟨rfl, hb⟩; obtain ⟨hc, hf⟩ := bcell hb; replace hb := ((Below.refl w.heap.size w).alloc (Nat.le_refl _) _).trans (hb.mono (by simp)))
    exact bodyPost_ret (v := .agg #[.string K, .string T, .bool !v]) (by simp [results, Try.results8, go_sem, hc]) rfl ⟨rfl, below_set3 hb (Nat.le_refl _) _ _ _⟩
  · have g1 : 16 < K.size := by omega
    rw [prefixR_long (by omega)] at hr
    subst hr
    obtain ⟨rfl, rfl, rfl⟩ := h
    clear hz hK g
    go_enter Try.func8, Try.ntmps8
    go_wp2_with fail
    exact bodyPost_ret (v := .agg #[.string ⟨#[]⟩, .string ⟨#[]⟩, .bool false]) (by simp [results, Try.results8, go_sem]) rfl ⟨rfl, (Below.refl _ _).alloc (Nat.le_refl _) _⟩
theorem ref_prefix (k : List UInt8) (r : Rng) (K S T : ByteArray) (o : Bool) (hK : str k = K) (hk : k.length ≤ 1000000) (hr : prefixR k = r) (h : IsR r S T o) (w : World) :
    Calls Try.prog 14 #[.string K] w fun e w' => e = .returned (.agg #[.string S, .string T, .bool o]) ∧ Below w.heap.size w w' := by
  have hz : K.size = k.length := by subst hK; exact str_size _
  by_cases g : k.length ≤ 16
  · have g1 : K.size ≤ 16 := by omega
    obtain ⟨x, v, hv⟩ := endO k
    have hx : v = false → x = [] := by rintro rfl; rcases hv with ⟨_, h⟩ | ⟨_, h, _⟩; cases h; exact h
    rw [prefixR_end g hv] at hr
    subst hr
    obtain ⟨h1, h2, rfl⟩ := h
    obtain rfl : K = S := hK.symm.trans h1
    have N := fun w => Lib.hid (rendO_is k x v K T hK h2 (by omega) hv w)
    have hT : v = false → ⟨#[]⟩ = T := by intro e; rw [← h2, hx e]; rfl
    clear hz hK h1 h2 g hv hx
    cases v
    · obtain rfl := hT rfl
      clear hT
      go_enter Try.func14, Try.ntmps14
      go_wp2_with ((with_reducible refine (N _).out.mono ?_); rintro e w' ⟨rfl, hb⟩; obtain ⟨hc, hf⟩ := bcell hb; replace hb := ((Below.refl w.heap.size w).alloc (Nat.le_refl _) _).trans (hb.mono (by simp)))
      exact bodyPost_ret (v := .agg #[.string K, .string ⟨#[]⟩, .bool true]) (by simp [results, Try.results14, go_sem, hc]) rfl ⟨rfl, below_set3 hb (Nat.le_refl _) _ _ _⟩
    · clear hT
      go_enter Try.func14, Try.ntmps14
      go_wp2_with ((with_reducible refine (N _).out.mono ?_); rintro e w' ⟨rfl, hb⟩; obtain ⟨hc, hf⟩ := bcell hb; replace hb := ((Below.refl w.heap.size w).alloc (Nat.le_refl _) _).trans (hb.mono (by simp)))
      exact bodyPost_ret (v := .agg #[.string K, .string T, .bool false]) (by simp [results, Try.results14, go_sem, hc]) rfl ⟨rfl, below_set3 hb (Nat.le_refl _) _ _ _⟩
  · have g1 : 16 < K.size := by omega
    rw [prefixR_long (by omega)] at hr
    subst hr
    obtain ⟨rfl, rfl, rfl⟩ := h
    clear hz hK g
    go_enter Try.func14, Try.ntmps14
    go_wp2_with fail
    exact bodyPost_ret (v := .agg #[.string ⟨#[]⟩, .string ⟨#[]⟩, .bool false]) (by simp [results, Try.results14, go_sem]) rfl ⟨rfl, (Below.refl _ _).alloc (Nat.le_refl _) _⟩
end Go.Proofs.Ytmdalbglekjcjaa
