/-
  The laws of layer 7: SpanHas.
-/
import Derived.Test.YtmdalbglekjcjaaLaw07B
namespace Go.Proofs.Ytmdalbglekjcjaa
open Go.RowKit

set_option maxHeartbeats 1000000 in
theorem spanHas_long (S T U K : ByteArray) (o : Bool) (hs : ¬ (S.size ≤ 300 ∧ T.size ≤ 300 ∧ U.size ≤ 300 ∧ K.size ≤ 300)) (w : World) :
    Calls Try.prog 3 #[.agg #[.string S, .string T, .bool o], .string U, .string K] w fun e w' => e = .returned (.bool true) ∧ Below w.heap.size w w' := by
  have A0 := fun w => Lib.hid (awake07 w)
  have LG := fun w => Lib.hid (long_new w [S, T, U, K] #[.string S, .string T, .string U, .string K] 9 4 true rfl rfl (by omega) (longT4 hs))
  have H0 := Lib.hid (heldL_one w S T o 23)
  clear hs
  go_enter Try.func3, Try.ntmps3
  go_wp2_with (first
    | ((with_reducible refine (A0 _).out.mono ?_); rintro e w0 ⟨rfl, hb⟩; (try clear a0 a1 a2 a3 hbb); replace H0 := Lib.hid (heldL_call hb H0.out); obtain ⟨⟨a0, a1, a2, a3⟩, hbb⟩ := H0.out; have l0 := RgAt.lt H0.out.1; clear hb)
    | ((with_reducible refine (LG _).out.mono ?_); rintro e w' ⟨rfl, rfl⟩; replace H0 := Lib.hid (heldL_alloc (.cells #[.string S, .string T, .string U, .string K] 9) H0.out)))
  go_ret
  exact ⟨rfl, heldL_size H0.out⟩
set_option maxHeartbeats 2000000 in
theorem spanHas_short (r p q : Rng) (s t : List UInt8) (S T U K P1 P2 O1 O2 : ByteArray) (o pp oo : Bool) (ir : IsR r S T o) (hU : str s = U) (hK : str t = K) (hp : prefixR t = p) (hq : ofR t = q) (ip : IsR p P1 P2 pp) (iq : IsR q O1 O2 oo)
    (hs : S.size ≤ 300 ∧ T.size ≤ 300 ∧ U.size ≤ 300 ∧ K.size ≤ 300) (w : World) :
    Calls Try.prog 3 #[.agg #[.string S, .string T, .bool o], .string U, .string K] w fun e w' => e = .returned (.bool true) ∧ Below w.heap.size w w' := by
  have A0 := fun w => Lib.hid (awake07 w)
  have LG := fun w => Lib.hid (long_new w [S, T, U, K] #[.string S, .string T, .string U, .string K] 9 4 false rfl rfl (by omega) (shortT4 hs.1 hs.2.1 hs.2.2.1 hs.2.2.2))
  have H0 := Lib.hid (heldL_one w S T o 23)
  have hzs : s.length ≤ 1000000 := by have := str_size s; rw [hU] at this; omega
  have hzt : t.length ≤ 1000000 := by have := str_size t; rw [hK] at this; omega
  have hKz : K.size = t.length := by rw [← hK]; exact str_size t
  have PF := fun w => Lib.hid (span_prefix t p K P1 P2 pp hK hzt hp ip w)
  have OF := fun w => Lib.hid (span_of t q K O1 O2 oo hK hzt hq iq w)
  have RP := fun w => Lib.hid (ref_prefix t p K P1 P2 pp hK hzt hp ip w)
  have RO := fun w => Lib.hid (ref_of t q K O1 O2 oo hK hzt hq iq w)
  obtain ⟨v1, e1⟩ : ∃ v1, rightR r = v1 := ⟨_, rfl⟩
  obtain ⟨v2, e2⟩ : ∃ v2, hasR r s = v2 := ⟨_, rfl⟩
  obtain ⟨v3, e3⟩ : ∃ v3, hasR p s = v3 := ⟨_, rfl⟩
  obtain ⟨v4, e4⟩ : ∃ v4, hasR q s = v4 := ⟨_, rfl⟩
  have SR := fun w => Lib.hid (span_right r S T o v1 ir e1 w)
  have RR := fun w => Lib.hid (ref_rright r S T o v1 ir e1 w)
  have SH := fun w => Lib.hid (span_has r s S T U o v2 ir hU e2 w)
  have RH := fun w => Lib.hid (ref_has r s S T U o v2 ir hU hzs e2 w)
  have AL := fun w => Lib.hid (all_is ⟨#[]⟩ ⟨#[]⟩ true ⟨rfl, rfl, rfl⟩ w)
  have HA := fun w => Lib.hid (span_has allR s ⟨#[]⟩ ⟨#[]⟩ U true true ⟨rfl, rfl, rfl⟩ hU (hasR_all s) w)
  have HP := fun w => Lib.hid (span_has p s P1 P2 U pp v3 ip hU e3 w)
  have HO := fun w => Lib.hid (span_has q s O1 O2 U oo v4 iq hU e4 w)
  have EP := fun w => Lib.hid (eq_rng_is P1 P2 P1 P2 pp pp true (by simp) w)
  have EO := fun w => Lib.hid (eq_rng_is O1 O2 O1 O2 oo oo true (by simp) w)
  have key : (16 < K.size ∧ v3 = false ∧ v4 = false) ∨ (K.size ≤ 16 ∧ t.isPrefixOf s = v3 ∧ (U.toList == K.toList) = v4 ∧ rightR p = true ∧ rightR q = true) := by
    by_cases g : t.length ≤ 16
    · refine .inr ⟨by omega, ?_, ?_, by rw [← hp]; exact prefixR_right g, by rw [← hq]; exact ofR_right g⟩
      · rw [← e3, ← hp, prefixR_has g]
      · rw [← e4, ← hq, ofR_has g, ← hU, ← hK, str_toList, str_toList]
        by_cases e : s = t <;> simp [e]
    · refine .inl ⟨by omega, ?_, ?_⟩
      · rw [← e3, ← hp, prefixR_has_long (by omega)]
      · rw [← e4, ← hq, ofR_has_long (by omega)]
  have BG := fun v hv w => Lib.hid (begins_is s t U K hU hK v hv w)
  have SP := fun h w => Lib.hid (span_right p P1 P2 pp true ip h w)
  have SQ := fun h w => Lib.hid (span_right q O1 O2 oo true iq h w)
  have KEY := Lib.hid key
  clear ir hU hK hp hq ip iq hs hzs hzt hKz e1 e2 e3 e4 key
  go_enter Try.func3, Try.ntmps3
  go_wp2_with (first
    | ((with_reducible refine (A0 _).out.mono ?_); rintro e w0 ⟨rfl, hb⟩; (try clear a0 a1 a2 a3 hbb); replace H0 := Lib.hid (heldL_call hb H0.out); obtain ⟨⟨a0, a1, a2, a3⟩, hbb⟩ := H0.out; have l0 := RgAt.lt H0.out.1; clear hb)
    | ((with_reducible refine (LG _).out.mono ?_); rintro e w' ⟨rfl, rfl⟩; replace H0 := Lib.hid (heldL_alloc (.cells #[.string S, .string T, .string U, .string K] 9) H0.out))
    | ((with_reducible refine (PF _).out.mono ?_); rintro e w1 ⟨rfl, hb⟩; (try clear a0 a1 a2 a3 hbb); replace H0 := Lib.hid (heldL_call hb H0.out); obtain ⟨⟨a0, a1, a2, a3⟩, hbb⟩ := H0.out; have l0 := RgAt.lt H0.out.1; clear hb)
    | ((with_reducible refine (OF _).out.mono ?_); rintro e w2 ⟨rfl, hb⟩; (try clear a0 a1 a2 a3 hbb); replace H0 := Lib.hid (heldL_call hb H0.out); obtain ⟨⟨a0, a1, a2, a3⟩, hbb⟩ := H0.out; have l0 := RgAt.lt H0.out.1; clear hb))
  have hS0 : HeldL w [(w.heap.size, S, T, o), (w2.heap.size, P1, P2, pp), (w2.heap.size + 1, O1, O2, oo)] ((w2.alloc (.cells #[.string P1, .string P2, .bool pp] 23)).alloc (.cells #[.string O1, .string O2, .bool oo] 23)) := by
    have h := H0.out
    exact ⟨RgAt.keep (RgAt.keep h.1 _) _, RgAt.keep (rgAt_new w2 _ _ _ _) _, rgAt_new1 w2 _ _ _ _ _, Below.alloc (Below.alloc h.2 (Below.size h.2) _) (Below.size (Below.alloc h.2 (Below.size h.2) _)) _⟩
  have HS0 := Lib.hid hS0
  clear hS0 a0 a1 a2 a3 hbb
  have EP := fun w => (EP w).out
  have EO := fun w => (EO w).out
  go_region_held3 (fun w' => (w'.cell? ⟨w.heap.size, 0, none⟩ = some (.string S) ∧ w'.cell? ⟨w.heap.size, 1, none⟩ = some (.string T) ∧ w'.cell? ⟨w.heap.size, 2, none⟩ = some (.bool o) ∧ ∀ k, w'.frozen? ⟨w.heap.size, k, none⟩ = false) ∧ (w'.cell? ⟨w2.heap.size, 0, none⟩ = some (.string P1) ∧ w'.cell? ⟨w2.heap.size, 1, none⟩ = some (.string P2) ∧ w'.cell? ⟨w2.heap.size, 2, none⟩ = some (.bool pp) ∧ ∀ k, w'.frozen? ⟨w2.heap.size, k, none⟩ = false) ∧ (w'.cell? ⟨w2.heap.size + 1, 0, none⟩ = some (.string O1) ∧ w'.cell? ⟨w2.heap.size + 1, 1, none⟩ = some (.string O2) ∧ w'.cell? ⟨w2.heap.size + 1, 2, none⟩ = some (.bool oo) ∧ ∀ k, w'.frozen? ⟨w2.heap.size + 1, k, none⟩ = false) ∧ Below w.heap.size w w')
    (first | assumption | exact heldL_drew (l := [(w.heap.size, S, T, o), (w2.heap.size, P1, P2, pp), (w2.heap.size + 1, O1, O2, oo)]) HS0.out | go_keep)
    (first
      | ((with_reducible refine (SR _).out.mono ?_); rintro e w3 ⟨rfl, hb⟩; have hS := heldL_call hb (l := [(w.heap.size, S, T, o), (w2.heap.size, P1, P2, pp), (w2.heap.size + 1, O1, O2, oo)]) (by assumption))
      | ((with_reducible refine (RR _).out.mono ?_); rintro e w3 ⟨rfl, hb⟩; have hS := heldL_call hb (l := [(w.heap.size, S, T, o), (w2.heap.size, P1, P2, pp), (w2.heap.size + 1, O1, O2, oo)]) (by assumption))
      | ((with_reducible refine (SH _).out.mono ?_); rintro e w3 ⟨rfl, hb⟩; have hS := heldL_call hb (l := [(w.heap.size, S, T, o), (w2.heap.size, P1, P2, pp), (w2.heap.size + 1, O1, O2, oo)]) (by assumption))
      | ((with_reducible refine (RH _).out.mono ?_); rintro e w3 ⟨rfl, hb⟩; have hS := heldL_call hb (l := [(w.heap.size, S, T, o), (w2.heap.size, P1, P2, pp), (w2.heap.size + 1, O1, O2, oo)]) (by assumption))
      | ((with_reducible refine (RP _).out.mono ?_); rintro e w3 ⟨rfl, hb⟩; have hS := heldL_call hb (l := [(w.heap.size, S, T, o), (w2.heap.size, P1, P2, pp), (w2.heap.size + 1, O1, O2, oo)]) (by assumption))
      | ((with_reducible refine (RO _).out.mono ?_); rintro e w3 ⟨rfl, hb⟩; have hS := heldL_call hb (l := [(w.heap.size, S, T, o), (w2.heap.size, P1, P2, pp), (w2.heap.size + 1, O1, O2, oo)]) (by assumption))
      | ((with_reducible refine (AL _).out.mono ?_); rintro e w3 ⟨rfl, hb⟩; have hS := heldL_call hb (l := [(w.heap.size, S, T, o), (w2.heap.size, P1, P2, pp), (w2.heap.size + 1, O1, O2, oo)]) (by assumption))
      | ((with_reducible refine (HA _).out.mono ?_); rintro e w3 ⟨rfl, hb⟩; have hS := heldL_call hb (l := [(w.heap.size, S, T, o), (w2.heap.size, P1, P2, pp), (w2.heap.size + 1, O1, O2, oo)]) (by assumption)))
  clear EP EO
  have H3 := Lib.hid hS
  clear SR RR SH RH RP RO AL HA
  obtain ⟨⟨a0, a1, a2, a3⟩, ⟨p0, p1, p2, p3⟩, ⟨o0, o1, o2, o3⟩, hbb⟩ := H3.out
  rcases KEY.out with ⟨g, rfl, rfl⟩ | ⟨g, h3, h4, h5, h6⟩
  · go_wp2_with (first | ((with_reducible refine (HP _).out.mono ?_); rintro e w3 ⟨rfl, hb⟩; clear a0 a1 a2 a3 p0 p1 p2 p3 o0 o1 o2 o3 hbb; replace H3 := Lib.hid (heldL_call hb H3.out); obtain ⟨⟨a0, a1, a2, a3⟩, ⟨p0, p1, p2, p3⟩, ⟨o0, o1, o2, o3⟩, hbb⟩ := H3.out; clear hb) | ((with_reducible refine (HO _).out.mono ?_); rintro e w3 ⟨rfl, hb⟩; clear a0 a1 a2 a3 p0 p1 p2 p3 o0 o1 o2 o3 hbb; replace H3 := Lib.hid (heldL_call hb H3.out); obtain ⟨⟨a0, a1, a2, a3⟩, ⟨p0, p1, p2, p3⟩, ⟨o0, o1, o2, o3⟩, hbb⟩ := H3.out; clear hb))
    go_ret
    exact ⟨rfl, heldL_size H3.out⟩
  · have BG := BG _ h3
    have SP := SP h5
    have SQ := SQ h6
    clear h3 h5 h6
    go_wp2_with (first | ((with_reducible refine (HP _).out.mono ?_); rintro e w3 ⟨rfl, hb⟩; clear a0 a1 a2 a3 p0 p1 p2 p3 o0 o1 o2 o3 hbb; replace H3 := Lib.hid (heldL_call hb H3.out); obtain ⟨⟨a0, a1, a2, a3⟩, ⟨p0, p1, p2, p3⟩, ⟨o0, o1, o2, o3⟩, hbb⟩ := H3.out; clear hb) | ((with_reducible refine (HO _).out.mono ?_); rintro e w3 ⟨rfl, hb⟩; clear a0 a1 a2 a3 p0 p1 p2 p3 o0 o1 o2 o3 hbb; replace H3 := Lib.hid (heldL_call hb H3.out); obtain ⟨⟨a0, a1, a2, a3⟩, ⟨p0, p1, p2, p3⟩, ⟨o0, o1, o2, o3⟩, hbb⟩ := H3.out; clear hb) | ((with_reducible refine (BG _).out.mono ?_); rintro e w' ⟨rfl, rfl⟩) | ((with_reducible refine (SP _).out.mono ?_); rintro e w3 ⟨rfl, hb⟩; clear a0 a1 a2 a3 p0 p1 p2 p3 o0 o1 o2 o3 hbb; replace H3 := Lib.hid (heldL_call hb H3.out); obtain ⟨⟨a0, a1, a2, a3⟩, ⟨p0, p1, p2, p3⟩, ⟨o0, o1, o2, o3⟩, hbb⟩ := H3.out; clear hb) | ((with_reducible refine (SQ _).out.mono ?_); rintro e w3 ⟨rfl, hb⟩; clear a0 a1 a2 a3 p0 p1 p2 p3 o0 o1 o2 o3 hbb; replace H3 := Lib.hid (heldL_call hb H3.out); obtain ⟨⟨a0, a1, a2, a3⟩, ⟨p0, p1, p2, p3⟩, ⟨o0, o1, o2, o3⟩, hbb⟩ := H3.out; clear hb))
    go_ret
    exact ⟨rfl, heldL_size H3.out⟩
theorem spanHas_walk (r : Rng) (s t : List UInt8) (w : World) : Calls Try.prog 3 #[rngV r, .string (str s), .string (str t)] w fun e w' => e = .returned (.bool true) ∧ Below w.heap.size w w' := by
  by_cases hs : (str r.lo).size ≤ 300 ∧ (str r.hi).size ≤ 300 ∧ (str s).size ≤ 300 ∧ (str t).size ≤ 300
  · exact spanHas_short r _ _ s t _ _ _ _ _ _ _ _ _ _ _ (IsR.mk' r) rfl rfl rfl rfl (IsR.mk' _) (IsR.mk' _) hs w
  · exact spanHas_long _ _ _ _ _ hs w
end Go.Proofs.Ytmdalbglekjcjaa
