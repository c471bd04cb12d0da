/-
  Layer 8 (ranges), the program: the right ones of some ranges, those that begin ahead first.
-/
import Derived.Test.YtgoenmgkhdibnaaRgsH
import Derived.Test.YtgoenmgkhdibnaaSorted
import Derived.Test.YtgoenmgkhdibnaaShelfSort
namespace Go.Proofs.Ytgoenmgkhdibnaa
open Go.RowKit Go.Sort

instance : Inhabited Rng := ⟨zeroR⟩
def cmpLo (x y : Rng) : Int := Lib.compareBytes x.lo y.lo
theorem lt_cmpLo (x y : Rng) : ltOf cmpLo x y = ltB x.lo y.lo := by
  obtain ⟨v, hv, h1, _⟩ := cmp_test x.lo y.lo
  unfold ltOf cmpLo
  rw [hv]; exact h1
theorem swo_cmpLo : SWO (ltOf cmpLo) where
  irrefl x := by rw [lt_cmpLo]; exact ltB_irrefl _
  trans x y z h1 h2 := by rw [lt_cmpLo] at *; exact ltB_trans h1 h2
  ntrans x y z h1 h2 := by rw [lt_cmpLo] at *; exact leB_trans h2 h1
theorem rgs_closure (x y : Rng) (W : World) : Calls Try.prog 40 #[.agg (rngCells x).toArray, .agg (rngCells y).toArray] W fun e w' => e = .returned (.int .i64 (cmpLo x y)) ∧ ∃ q os', w' = grow (W.drewN q) os' := by
  have C := fun w => Lib.hid (cmp_is x.lo y.lo _ _ rfl rfl (cmpLo x y) rfl w)
  unfold rngCells
  generalize cmpLo x y = v at C ⊢
  go_enter Try.func40, Try.ntmps40
  go_wp2_with ((with_reducible refine (C _).out.mono ?_); rintro e w' ⟨rfl, rfl⟩)
  go_ret
  exact ⟨rfl, 0, _, by rw [alloc_eq_grow, alloc_eq_grow, grow_grow]; rfl⟩
theorem rgs_sort (v : Value) (f : List Rng) (base : Nat) (w : World) (h : kRng.Own w base v f) (hf : f.length ≤ 1000000) (hb : base ≤ w.heap.size) :
    Calls Try.prog 39 #[v, .func (.func 40) #[] #[]] w fun e w' => e = .returned (.tuple #[]) ∧ ∃ m, m.Perm f ∧ SortedL m ∧ kRng.Own w' base v m ∧ Below base w w' := by
  by_cases h0 : f = []
  · subst h0
    obtain ⟨A, c, rfl, _⟩ := h.form
    have K := AnyF.slices_SortFunc_none (P := Try.prog) (ρ := Try.sortRg_ren) { Try.sortRg with } A c (.func (.func 40) #[] #[]) w
    refine Calls.mono K ?_
    rintro e w' ⟨rfl, rfl⟩
    exact ⟨rfl, [], List.Perm.refl _, List.Pairwise.nil, h, Below.refl _ _⟩
  · have hp : 0 < f.length := List.length_pos_iff.2 h0
    obtain ⟨g, c, rfl, hc, hg, hgl, _, _⟩ := h.some_ rfl hp
    have hH := h.holdsK.1
    have eg : ∀ args w, (callFunc 40 args).run Try.prog w = .ok (.enter 40 args) w := enters_of Try.func40 (by kernel_rfl) rfl
    have K := AnyQ.slices_SortFunc Try.sortRg 3 Try.isAgg35 Try.sizeOf35 rngCells (fun _ => rfl) kRng.one cmpLo swo_cmpLo 40 #[] g 0 c f.toArray w eg (fun _ _ _ _ x y => rgs_closure x y _) hH hgl (by rw [List.size_toArray]; omega)
    rw [List.size_toArray] at K
    refine Calls.mono K ?_
    rintro e w' ⟨rfl, d, n, os, hpm, hst, rfl⟩
    have hd : d.size = f.length := by have := hpm.1; rwa [List.size_toArray] at this
    have hst2 := pairs_of_sortedIn (lt := ltOf cmpLo) (d := d) (by rw [hd]; exact hst)
    refine ⟨rfl, d.toList, perm_of_permIn (by rw [List.size_toArray]; exact hpm), ?_, h.sorted d hd rfl, (Below.refl _ _).grown (grown_sortK d) hb (fun j hj => by injection hj with hj; subst hj; exact hg)⟩
    unfold SortedL
    exact hst2.imp fun {a b} hab => by rw [← lt_cmpLo]; exact hab
theorem filter_next {l : List Rng} {k : Nat} {r : Rng} (h : l[k]? = some r) : (l.take (k + 1)).filter rightR = (l.take k).filter rightR ++ (match rightR r with | true => [r] | false => []) := by
  rw [List.take_add_one, h, List.filter_append]
  cases hr : rightR r <;> simp [hr]
set_option maxHeartbeats 1000000 in
theorem rgs_byBeginning (A : Option Addr) (c n : Nat) (l : List Rng) (hn : n = l.length) (hnl : n ≤ 100000) (w : World) (hr : kRng.Rd w w.heap.size A c l) :
    Calls Try.prog 23 #[.slice A n c] w fun e w' => ∃ m, m.Perm (l.filter rightR) ∧ SortedL m ∧ RetR w m e w' := by
  have HN := Lib.hid hn
  have HR := Lib.hid hr
  have hcx : n ≤ c := by rw [hn]; exact hr.room
  clear hn hr
  go_enter Try.func23, Try.ntmps23
  go_wp2_with fail
  go_loopw [3, 8] (fun v i wr => ∃ k : Nat, k ≤ n ∧ Hid (kRng.Own wr w.heap.size v ((l.take k).filter rightR)) ∧ i = .int .i64 k ∧ Below w.heap.size w wr) (fun _ i _ => n - (intOf i).toNat)
  case atStart => exact ⟨0, by omega, Kind.Own.nil _ _, rfl, Below.refl _ _⟩
  case round =>
    obtain ⟨k, hk, HO, rfl, hb⟩ := hrel
    have hol : ((l.take k).filter rightR).length ≤ k := Nat.le_trans (List.length_filter_le _ _) (by rw [List.length_take]; omega)
    by_cases hlt : k < n
    · obtain ⟨r, hg, hd, -⟩ := get_some (l := l) (k := k) (by have := HN.out; omega)
      obtain ⟨b, o, rfl, hb1, hcell⟩ := rngs_at (HR.out.below hb) (by have := HN.out; omega)
      obtain ⟨c0, c1, c2⟩ := hcell k r hg
      obtain ⟨d, hdv⟩ : ∃ d, rightR r = d := ⟨_, rfl⟩
      have C := fun w => Lib.hid (span_right r _ _ _ d (IsR.mk' r) hdv w)
      have HF := Lib.hid (filter_next hg)
      rw [hdv] at HF
      have hb2 := Nat.lt_of_lt_of_le hb1 hb.size
      have HRW := fun w => Lib.hid (rng_row w r 1 rfl).row
      have HG := Lib.hid (rgAt_new wr (str r.lo) (str r.hi) r.op 35)
      obtain ⟨X, hX⟩ : ∃ X, [r] = X := ⟨_, rfl⟩
      have HX := Lib.hid hX
      have hX1 : X.length = 1 := by rw [← hX]; rfl
      rw [hX] at HRW
      have HLE := Lib.hid (show ((l.take k).filter rightR).length + X.length ≤ 1000000 by rw [hX1]; omega)
      have HX1 := Lib.hid hX1.symm
      clear hcell hg hd hdv hX hX1
      obtain ⟨S, hS⟩ : ∃ S, str r.lo = S := ⟨_, rfl⟩
      obtain ⟨T, hT⟩ : ∃ T, str r.hi = T := ⟨_, rfl⟩
      obtain ⟨q, hq⟩ : ∃ q, r.op = q := ⟨_, rfl⟩
      rw [hS, hT, hq] at C HG HRW
      rw [hS] at c0
      rw [hT] at c1
      rw [hq] at c2
      clear hS hT hq
      have HB1 := Lib.hid (hb.alloc hb.size (.cells #[.string S, .string T, .bool q] 35))
      have HO1 := Lib.hid (HO.out.alloc (.cells #[.string S, .string T, .bool q] 35))
      cases d
      · go_wp2_with ((with_reducible refine (C _).out.mono ?_); rintro e w2 ⟨rfl, hq⟩; have HB2 := Lib.hid (HB1.out.trans (hq.mono HB1.out.size)); have HO2 := Lib.hid (HO1.out.below hq); clear hq)
        go_roundw
        case rel => exact ⟨k + 1, by omega, by have := HO2.out; rw [← List.append_nil (List.filter _ _), ← HF.out] at this; exact this, by go_num, HB2.out⟩
        case measure => simp [intOf]; omega
      · go_wp2_with (first
          | ((with_reducible refine (C _).out.mono ?_); rintro e w2 ⟨rfl, hq⟩; have HB2 := Lib.hid (HB1.out.trans (hq.mono HB1.out.size)); have HO2 := Lib.hid (HO1.out.below hq); obtain ⟨g0, g1, g2, g3⟩ := HG.out.below hq; clear hq)
          | (at_builtin; refine wpList_app_k kRng rfl (.tmp 14) (.tmp 16) rfl w.heap.size _ _ rfl (Kind.Own.alloc HO2.out _) _ (some ⟨w2.heap.size, 0, none⟩) 1 1 X HX1.out rfl (HRW w2).out HLE.out (by decide) (le_alloc (HB2.out.size) _) ?_; intro v3 w3 hown3 hg3 hb3 _; have HO3 := Lib.hid hown3; have HB3 := Lib.hid ((HB2.out.alloc HB2.out.size _).trans hb3); clear hown3 hb3 hg3))
        go_roundw
        case rel => exact ⟨k + 1, by omega, by have := HO3.out; rw [← HX.out, ← HF.out] at this; exact this, by go_num, HB3.out⟩
        case measure => simp [intOf]; omega
    · have hkn : l.take k = l := List.take_of_length_le (by have := HN.out; omega)
      rw [hkn] at HO hol
      have C := Lib.hid (rgs_sort _ _ _ wr HO.out (by omega) hb.size)
      have HOF := HO
      clear HO hkn
      go_wp2_with ((with_reducible refine C.out.mono ?_); rintro e w2 ⟨rfl, m, hm1, hm2, hm3, hm4⟩; have H1 := Lib.hid hm1; have H2 := Lib.hid hm2; have H3 := Lib.hid hm3; have H4 := Lib.hid (hb.trans hm4); clear hm1 hm2 hm3 hm4)
      go_ret
      obtain ⟨A5, c5, he, hrd⟩ := H3.out.form
      exact ⟨m, H1.out, H2.out, A5, c5, by rw [he]; rfl, hrd, H4.out⟩
end Go.Proofs.Ytgoenmgkhdibnaa
