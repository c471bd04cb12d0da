/-
  Layer 12 (version), the library: slices.Compact at versions.
-/
import Derived.Test.YtddamcmbgbefpaaDoorVrF
import Derived.Test.YtddamcmbgbefpaaDoorVrA
import Derived.Test.YtddamcmbgbefpaaDoorKindCut
import Derived.Deep.RegionHeld3
namespace Go.Proofs.YtddamcmbgbefpaaDoor
open Go.RowKit Go.Lib

theorem vr_sizeOf (w : World) : (sizeOf 23).run Tryd.prog w = .ok 2 w := by kernel_rfl
theorem vr_zero (w : World) : (zeroValue kVr.el).run Tryd.prog w = .ok kVr.zero w := by
  show (zeroValue 23).run Tryd.prog w = .ok (.agg #[.int .i64 0, .int .i64 0]) w
  kernel_rfl
theorem arr_get (m : List Vr) {j : Nat} {x : Vr} (h : m[j]? = some x) : m.toArray[j]! = x := by
  obtain ⟨hj, rfl⟩ := List.getElem?_eq_some_iff.1 h
  rw [getElem!_pos m.toArray j (by simpa using hj)]; simp
theorem arr_at (d : Array Vr) {j : Nat} (h : j < d.size) : d.toList[j]? = some d[j]! := by
  rw [Array.getElem?_toList, Array.getElem?_eq_getElem h, getElem!_pos d j h]
theorem own_two {w : World} {base g n c i : Nat} {l : List Vr} {x y : Vr} (h : kVr.Own w base (.slice (some ⟨g, 0, none⟩) n c) l) (hn : n = l.length) (hx : l[i]? = some x) :
    kVr.Own ((w.setCell ⟨g, i * 2, none⟩ (.int .i64 y.rep)).setCell ⟨g, i * 2 + 1, none⟩ (.int .i64 y.cnt)) base (.slice (some ⟨g, 0, none⟩) n c) (l.set i y) := by
  have hi : i < l.length := (List.getElem?_eq_some_iff.1 hx).1
  have h1 := h.stored (j := 0) (y := ⟨y.rep, x.cnt⟩) (v := .int .i64 y.rep) hn hx (by decide) rfl
  have h2 := h1.stored (i := i) (j := 1) (x := ⟨y.rep, x.cnt⟩) (y := y) (v := .int .i64 y.cnt) (by rw [hn, List.length_set]) (by rw [List.getElem?_set_self hi]) (by decide) rfl
  rw [List.set_set] at h2
  exact h2
theorem keeps_more {d : Array Vr} {k : Nat} (h : ∀ j, j < k → keeps d j = true) (hk : keeps d k = true) : ∀ j, j < k + 1 → keeps d j = true := fun j hj => by
  by_cases e : j = k
  · subst e; exact hk
  · exact h j (by omega)
set_option maxRecDepth 100000 in
set_option maxHeartbeats 4000000 in
theorem vr_compact (m : List Vr) (hm : m.length ≤ 100000) (v : Value) (base : Nat) (w : World) (h : kVr.Own w base v m) (hb : base ≤ w.heap.size) :
    Calls Tryd.prog 22 #[v] w fun e w' => ∃ A c N, N = (compact m).length ∧ e = .returned (.slice A N c) ∧ kVr.Own w' base (.slice A N c) (compact m) ∧ Below base w w' := by
  obtain ⟨n, hn⟩ : ∃ n, n = m.length := ⟨_, rfl⟩
  rw [← hn] at hm
  have HALL := Lib.hid (fun (hall : ∀ j, j < n → keeps m.toArray j = true) => compact_all m (by rw [← hn]; exact hall))
  by_cases h2 : n < 2
  · obtain ⟨A, c, rfl, hrd⟩ := h.read_n hn
    have HO := Lib.hid h
    have HNN := Lib.hid hn
    clear h hrd hn
    have HC := Lib.hid (HALL.out (fun j hj => keeps_lt_one _ j (by omega)))
    go_enter Tryd.func22, Tryd.ntmps22
    go_wp2_with fail
    go_ret
    exact ⟨A, c, n, by rw [HC.out]; exact HNN.out, rfl, by rw [HC.out]; exact HO.out, Below.refl _ _⟩
  · obtain ⟨g, c, rfl, hc, hg, hgl, -, -⟩ := h.some_ hn (by omega)
    have HO := Lib.hid h
    have HNN := Lib.hid hn
    have hg9 : g < w.heap.size := hgl
    have hcm : c ≤ 9223372036854775807 := by have := h.rd.cap; unfold maxLen at this; omega
    clear h hn
    go_enter Tryd.func22, Tryd.ntmps22
    go_wp2_with fail
    go_loopw [3] (fun s3 wr => ∃ k : Nat, 1 ≤ k ∧ k ≤ n ∧ s3 = .int .i64 k ∧ Hid (Below w.heap.size w wr) ∧ Hid (∀ j, j < k → keeps m.toArray j = true)) (fun s3 _ => n - (intOf s3).toNat)
    case atStart => exact ⟨1, Nat.le_refl _, by omega, rfl, Below.refl _ _, keeps_lt_one _⟩
    case round =>
      obtain ⟨k, hk1, hk, rfl, HB, HK⟩ := hrel
      by_cases hlt : k < n
      · obtain ⟨i, hki⟩ : ∃ i, k = i + 1 := ⟨k - 1, by omega⟩
        have HOw := Lib.hid (HO.out.below HB.out)
        obtain ⟨-, -, -, hcs⟩ := HOw.out.at_g HNN.out (by omega)
        obtain ⟨a, ha⟩ : ∃ a, m[k]? = some a := ⟨_, List.getElem?_eq_getElem (by have := HNN.out; omega)⟩
        obtain ⟨b, hb'⟩ : ∃ b, m[i]? = some b := ⟨_, List.getElem?_eq_getElem (by have := HNN.out; omega)⟩
        have a0 := hcs _ a ha 0 _ rfl
        have a1 := hcs _ a ha 1 _ rfl
        have b0 := hcs _ b hb' 0 _ rfl
        have b1 := hcs _ b hb' 1 _ rfl
        change wr.cell? ⟨g, k * 2 + 0, none⟩ = some (.int .i64 a.rep) at a0
        change wr.cell? ⟨g, k * 2 + 1, none⟩ = some (.int .i64 a.cnt) at a1
        change wr.cell? ⟨g, i * 2 + 0, none⟩ = some (.int .i64 b.rep) at b0
        change wr.cell? ⟨g, i * 2 + 1, none⟩ = some (.int .i64 b.cnt) at b1
        rw [Nat.add_zero] at a0 b0
        have HAB := Lib.hid (show m.toArray[k]! = a ∧ m.toArray[k - 1]! = b from ⟨arr_get m ha, by rw [hki]; exact arr_get m hb'⟩)
        obtain ⟨x, hx⟩ : ∃ x, a.rep = x := ⟨_, rfl⟩
        obtain ⟨y, hy⟩ : ∃ y, a.cnt = y := ⟨_, rfl⟩
        obtain ⟨s, hs⟩ : ∃ s, b.rep = s := ⟨_, rfl⟩
        obtain ⟨t, ht⟩ : ∃ t, b.cnt = t := ⟨_, rfl⟩
        rw [hx] at a0
        rw [hy] at a1
        rw [hs] at b0
        rw [ht] at b1
        obtain ⟨q, hq⟩ : ∃ q, (x == s && y == t) = q := ⟨_, rfl⟩
        have EQ := fun w => eq_vr x y s t q hq w
        have HQ := Lib.hid (show (q = true → a = b) ∧ (q = false → a ≠ b) from by
          subst hx hy hs ht hq
          constructor
          · intro h; simp at h; exact vr_ext h.1 h.2
          · intro h e; subst e; simp at h)
        have HC := Lib.hid (show CellL wr [(⟨g, k * 2, none⟩, .int .i64 x), (⟨g, k * 2 + 1, none⟩, .int .i64 y), (⟨g, i * 2, none⟩, .int .i64 s), (⟨g, i * 2 + 1, none⟩, .int .i64 t)] wr from ⟨a0, a1, b0, b1, Below.refl _ _⟩)
        have hj0 : (0 : Int) ≤ (i : Int) := by omega
        have hjn : (i : Int) < (n : Int) := by omega
        have hjd : decide ((i : Int) < 0) = false := decide_eq_false (by omega)
        have hjw : IntKind.i64.wrap ((k : Int) - 1) = (i : Int) := by rw [show (k : Int) - 1 = (i : Int) by omega]; exact IntWalk.i64_in _ (by omega)
        have hjw2 : IntKind.i64.wrap (i : Int) = (i : Int) := IntWalk.i64_in _ (by omega)
        have HKI := Lib.hid hki
        clear hki hcs ha hb' a0 a1 b0 b1 hx hy hs ht hq
        go_wp2_with fail
        refine q_region (CellL wr [(⟨g, k * 2, none⟩, .int .i64 x), (⟨g, k * 2 + 1, none⟩, .int .i64 y), (⟨g, i * 2, none⟩, .int .i64 s), (⟨g, i * 2 + 1, none⟩, .int .i64 t)]) (by kernel_rfl) (by kernel_rfl) (cellL_drew HC.out) ?_
        repeat (first
          | go_big_quiet_skip
          | (go_big_quiet_want; (first
            | (refine q_take (v := ?_) ?_ ?_; rotate_left; (focus (intro w hSw; (try simp only [CellL] at hSw); go_split_ands; go_simp; (try (rw [if_neg (by omega)])); (try with_reducible rfl); done)))); (try simp only [Act.put, List.setIfInBounds_toArray, List.set_cons_zero, List.set_cons_succ]); go_big_quiet_on))
        refine wpQuiet_nil ?_
        intro w2 hw2
        have HB2 := Lib.hid (HB.out.trans ((cellL_size hw2).mono HB.out.size))
        clear hw2
        cases q
        · have HKN := Lib.hid (keeps_more HK.out (keeps_pos (by rw [HAB.out.1, HAB.out.2]; exact HQ.out.2 rfl)))
          go_wp2_with fail
          go_roundw
          case rel => exact ⟨k + 1, by omega, by omega, by go_num, HB2, HKN.out⟩
          case measure => simp [intOf]; omega
        · have HI0 := Lib.hid (CompInv.start (d := m.toArray) HK.out (keeps_neg (by omega) (by rw [HAB.out.1, HAB.out.2]; exact HQ.out.1 rfl)))
          have HO0 := Lib.hid (show kVr.Own w2 base (.slice (some ⟨g, 0, none⟩) n c) m.toArray.toList from by rw [List.toList_toArray]; exact HO.out.below HB2.out)
          have HDS := Lib.hid (show m.toArray.size = n from by rw [List.size_toArray]; exact HNN.out.symm)
          have KC := fun W : World => kVr.run_cut vr_sizeOf W g n c k (by omega) (by omega)
          change ∀ W : World, (Instr.slice 35 (.slice (some ⟨g, 0, none⟩) n c) (some (.int .i64 (k : Int))) none none).run Tryd.prog W = .ok (.slice (some ⟨g, k * 2, none⟩) (n - k) (c - k)) W at KC
          obtain ⟨n', hn'⟩ : ∃ n', n - k = n' := ⟨_, rfl⟩
          obtain ⟨c', hc'⟩ : ∃ c', c - k = c' := ⟨_, rfl⟩
          obtain ⟨o', ho'⟩ : ∃ o', k * 2 = o' := ⟨_, rfl⟩
          rw [hn', hc', ho'] at KC
          have hnn : k + n' = n := by omega
          have hcc : n' ≤ c' := by omega
          have hn9 : n' ≤ 100000 := by omega
          have HOO := Lib.hid ho'
          have HCM := Lib.hid (show compactUpTo m.toArray n = compact m from by rw [HNN.out]; rfl)
          generalize m.toArray = d at HI0 HO0 HDS HCM HALL HK HAB
          clear HQ HK HAB HC EQ HOw ho' hn' hc' HB
          go_wp2_with fail
          go_loopw [3, 5] (fun s3 s5 wr => ∃ (kk k2 : Nat) (dk : Array Vr), s3 = .int .i64 kk ∧ s5 = .int .i64 k2 ∧ 1 ≤ k2 ∧ k2 ≤ n' ∧ kk < n ∧ Hid (CompInv d (k + k2) kk dk) ∧ Hid (kVr.Own wr base (.slice (some ⟨g, 0, none⟩) n c) dk.toList) ∧ Hid (Below base w wr)) (fun _ s5 _ => n' - (intOf s5).toNat)
          case atStart => exact ⟨k, 1, d, rfl, rfl, Nat.le_refl _, by omega, hlt, HI0, HO0, HB2.out.mono hb⟩
          case round =>
            obtain ⟨kk, k2, dk, rfl, rfl, h1, h2', hkn, HI, HOk, HBk⟩ := hrel
            have hdk := HI.out.size.trans HDS.out
            have hlk := HI.out.lt
            have HLN := Lib.hid (show n = dk.toList.length by rw [Array.length_toList, hdk])
            obtain ⟨-, -, hfz, hcs⟩ := HOk.out.at_g HLN.out (by omega)
            by_cases hlt2 : k2 < n'
            · obtain ⟨j, hkj⟩ : ∃ j, k2 = j + 1 := ⟨k2 - 1, by omega⟩
              obtain ⟨a, ha⟩ : ∃ a, dk[k + k2]! = a := ⟨_, rfl⟩
              obtain ⟨b, hbb⟩ : ∃ b, dk[k + j]! = b := ⟨_, rfl⟩
              obtain ⟨z, hz⟩ : ∃ z, dk[kk]! = z := ⟨_, rfl⟩
              have la := arr_at dk (j := k + k2) (by omega)
              have lb := arr_at dk (j := k + j) (by omega)
              have lz := arr_at dk (j := kk) (by omega)
              rw [ha] at la
              rw [hbb] at lb
              rw [hz] at lz
              have a0 := hcs _ a la 0 _ rfl
              have a1 := hcs _ a la 1 _ rfl
              have b0 := hcs _ b lb 0 _ rfl
              have b1 := hcs _ b lb 1 _ rfl
              have z0 := hcs _ z lz 0 _ rfl
              have z1 := hcs _ z lz 1 _ rfl
              change wr.cell? ⟨g, (k + k2) * 2 + 0, none⟩ = some (.int .i64 a.rep) at a0
              change wr.cell? ⟨g, (k + k2) * 2 + 1, none⟩ = some (.int .i64 a.cnt) at a1
              change wr.cell? ⟨g, (k + j) * 2 + 0, none⟩ = some (.int .i64 b.rep) at b0
              change wr.cell? ⟨g, (k + j) * 2 + 1, none⟩ = some (.int .i64 b.cnt) at b1
              change wr.cell? ⟨g, kk * 2 + 0, none⟩ = some (.int .i64 z.rep) at z0
              change wr.cell? ⟨g, kk * 2 + 1, none⟩ = some (.int .i64 z.cnt) at z1
              rw [Nat.add_zero] at a0 b0 z0
              rw [show (k + k2) * 2 = o' + k2 * 2 by have := HOO.out; omega] at a0 a1
              rw [show (k + j) * 2 = o' + j * 2 by have := HOO.out; omega] at b0 b1
              have HAB := Lib.hid (show d[k + k2]! = a ∧ d[k + k2 - 1]! = b from ⟨by rw [← HI.out.high (k + k2) (by omega)]; exact ha, by rw [show k + k2 - 1 = k + j by omega, ← HI.out.high (k + j) (by omega)]; exact hbb⟩)
              have HOS := Lib.hid (fun (W : World) (hO : kVr.Own W base (.slice (some ⟨g, 0, none⟩) n c) dk.toList) => own_two (y := a) hO HLN.out lz)
              obtain ⟨x', hx⟩ : ∃ x, a.rep = x := ⟨_, rfl⟩
              obtain ⟨y', hy⟩ : ∃ y, a.cnt = y := ⟨_, rfl⟩
              obtain ⟨s', hs⟩ : ∃ s, b.rep = s := ⟨_, rfl⟩
              obtain ⟨t', ht⟩ : ∃ t, b.cnt = t := ⟨_, rfl⟩
              obtain ⟨p', hp⟩ : ∃ p, z.rep = p := ⟨_, rfl⟩
              obtain ⟨r', hr⟩ : ∃ r, z.cnt = r := ⟨_, rfl⟩
              rw [hx] at a0
              rw [hy] at a1
              rw [hs] at b0
              rw [ht] at b1
              rw [hp] at z0
              rw [hr] at z1
              obtain ⟨q, hq⟩ : ∃ q, (x' == s' && y' == t') = q := ⟨_, rfl⟩
              have EQ := fun w => eq_vr x' y' s' t' q hq w
              have HQ := Lib.hid (show (q = true → a = b) ∧ (q = false → a ≠ b) from by
                subst hx hy hs ht hq
                constructor
                · intro h; simp at h; exact vr_ext h.1 h.2
                · intro h e; subst e; simp at h)
              rw [hx, hy] at HOS
              have HC := Lib.hid (show CellL wr [(⟨g, o' + k2 * 2, none⟩, .int .i64 x'), (⟨g, o' + k2 * 2 + 1, none⟩, .int .i64 y'), (⟨g, o' + j * 2, none⟩, .int .i64 s'), (⟨g, o' + j * 2 + 1, none⟩, .int .i64 t'), (⟨g, kk * 2, none⟩, .int .i64 p'), (⟨g, kk * 2 + 1, none⟩, .int .i64 r')] wr from ⟨a0, a1, b0, b1, z0, z1, Below.refl _ _⟩)
              have HSZ := Lib.hid (show d.size = k + n' by rw [HDS.out, hnn])
              have HAA := Lib.hid (show d[k + k2]! = a from HAB.out.1)
              have hj0 : (0 : Int) ≤ (j : Int) := by omega
              have hjn : (j : Int) < (n' : Int) := by omega
              have hjd : decide ((j : Int) < 0) = false := decide_eq_false (by omega)
              have hjw : IntKind.i64.wrap ((k2 : Int) - 1) = (j : Int) := by rw [show (k2 : Int) - 1 = (j : Int) by omega]; exact IntWalk.i64_in _ (by omega)
              have hjw2 : IntKind.i64.wrap (j : Int) = (j : Int) := IntWalk.i64_in _ (by omega)
              clear hcs la lb lz ha hbb hz a0 a1 b0 b1 z0 z1 hx hy hs ht hp hr hq hkj hdk hlk
              go_wp2_with fail
              refine q_region (CellL wr [(⟨g, o' + k2 * 2, none⟩, .int .i64 x'), (⟨g, o' + k2 * 2 + 1, none⟩, .int .i64 y'), (⟨g, o' + j * 2, none⟩, .int .i64 s'), (⟨g, o' + j * 2 + 1, none⟩, .int .i64 t'), (⟨g, kk * 2, none⟩, .int .i64 p'), (⟨g, kk * 2 + 1, none⟩, .int .i64 r')]) (by kernel_rfl) (by kernel_rfl) (cellL_drew HC.out) ?_
              repeat (first
                | go_big_quiet_skip
                | (go_big_quiet_want; (first
                  | (refine q_take (v := ?_) ?_ ?_; rotate_left; (focus (intro w hSw; (try simp only [CellL] at hSw); go_split_ands; go_simp; (try (rw [if_neg (by omega)])); (try with_reducible rfl); done)))); (try simp only [Act.put, List.setIfInBounds_toArray, List.set_cons_zero, List.set_cons_succ]); go_big_quiet_on))
              refine wpQuiet_nil ?_
              intro w3 hw3
              have HB3 := Lib.hid (cellL_size hw3)
              have HOk3 := Lib.hid (HOk.out.below HB3.out)
              have HBk3 := Lib.hid (HBk.out.trans (HB3.out.mono (Nat.le_trans hb HBk.out.size)))
              have HW3 := Lib.hid hw3
              clear hw3 hfz
              cases q
              · have HN1 := Lib.hid (HI.out.keep (by have := HSZ.out; omega) (keeps_pos (by rw [HAB.out.1, HAB.out.2]; exact HQ.out.2 rfl)))
                have HOS3 := Lib.hid (HOS.out w3 HOk3.out)
                obtain ⟨e0, e1, -, -, e4, e5, -⟩ := HW3.out
                obtain ⟨hgb, -, hfz, -⟩ := HOk3.out.at_g HLN.out (by omega)
                have HBS := Lib.hid ((HBk3.out.setCell (p := ⟨g, kk * 2, none⟩) hgb (.int .i64 x')).setCell (p := ⟨g, kk * 2 + 1, none⟩) hgb (.int .i64 y'))
                go_wp2_with fail
                go_roundw
                case rel => exact ⟨kk + 1, k2 + 1, dk.setIfInBounds kk a, by go_num, by go_num, by omega, by omega, by have := HI.out.lt; omega, (by have := HN1.out; rw [HAA.out] at this; exact this), (by have := HOS3.out; rw [← Array.toList_setIfInBounds] at this; exact this), HBS⟩
                case measure => simp [intOf]; omega
              · have HN1 := Lib.hid (HI.out.skip (keeps_neg (by omega) (by rw [HAB.out.1, HAB.out.2]; exact HQ.out.1 rfl)))
                go_wp2_with fail
                go_roundw
                case rel => exact ⟨kk, k2 + 1, dk, rfl, by go_num, by omega, by omega, hkn, HN1, HOk3, HBk3⟩
                case measure => simp [intOf]; omega
            · obtain rfl : k2 = n' := by omega
              have HI1 := Lib.hid (show CompInv d d.size kk dk from by have := HI.out; rw [hnn, ← HDS.out] at this; exact this)
              have hkl : kk ≤ dk.toList.length := by have := HLN.out; omega
              obtain ⟨vs, hvs⟩ := HOk.out.clears HLN.out (j := kk) hkn (fun u hu => by have h : u ∈ [Value.int .i64 0, Value.int .i64 0] := hu; simp at h; subst h; rfl) vr_zero
              change ∀ ty c', (Builtin.clear_ #[35] ty #[.slice (some ⟨g, kk * 2, none⟩) (n - kk) c']).run Tryd.prog wr = .ok (.tuple #[]) (wr.setCells g (kk * 2) vs) at hvs
              have KC2 := fun W : World => kVr.run_cut vr_sizeOf W g n c kk (by omega) (by omega)
              change ∀ W : World, (Instr.slice 35 (.slice (some ⟨g, 0, none⟩) n c) (some (.int .i64 (kk : Int))) none none).run Tryd.prog W = .ok (.slice (some ⟨g, kk * 2, none⟩) (n - kk) (c - kk)) W at KC2
              have KT := fun W : World => kVr.run_take vr_sizeOf W (some ⟨g, 0, none⟩) n c kk (by omega)
              change ∀ W : World, (Instr.slice 35 (.slice (some ⟨g, 0, none⟩) n c) none (some (.int .i64 (kk : Int))) none).run Tryd.prog W = .ok (.slice (some ⟨g, 0, none⟩) kk c) W at KT
              have HOE := Lib.hid (show kVr.Own (wr.setCells g (kk * 2) vs) base (.slice (some ⟨g, 0, none⟩) kk c) (dk.toList.take kk) from HOk.out.cleared hkl vs)
              have HBE := Lib.hid (below_cells hg vs (kk * 2) w wr HBk.out)
              obtain ⟨n2, hn2⟩ : ∃ n2, n - kk = n2 := ⟨_, rfl⟩
              obtain ⟨c2, hc2⟩ : ∃ c2, c - kk = c2 := ⟨_, rfl⟩
              rw [hn2] at hvs KC2
              rw [hc2] at KC2
              replace hvs := fun ty => hvs ty c2
              have HE := Lib.hid (show dk.toList.take kk = compact m from by
                rw [← HCM.out, ← HDS.out]
                apply List.ext_getElem?
                intro j
                by_cases hj : j < kk
                · rw [HI1.out.low j hj, List.getElem?_take_of_lt hj, arr_at dk (by rw [HI1.out.size]; have := HDS.out; omega)]
                · rw [List.getElem?_take_eq_none (by omega), List.getElem?_eq_none (by rw [HI1.out.len]; omega)])
              have HEL := Lib.hid (show kk = (compact m).length from by rw [← HE.out, List.length_take]; omega)
              generalize wr.setCells g (kk * 2) vs = wE at hvs HOE HBE
              clear hcs hn2 hc2 hfz hdk hlk
              go_wp2_with fail
              go_ret
              exact ⟨some ⟨g, 0, none⟩, c, kk, HEL.out, rfl, by rw [← HE.out]; exact HOE.out, HBE.out⟩
      · have HC := Lib.hid (HALL.out (fun j hj => HK.out j (by omega)))
        go_wp2_with fail
        go_ret
        exact ⟨_, c, n, by rw [HC.out]; exact HNN.out, rfl, by rw [HC.out]; exact HO.out.below HB.out, HB.out.mono hb⟩
end Go.Proofs.YtddamcmbgbefpaaDoor
