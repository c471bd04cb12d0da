/-
  Several texts in one: ItpG, RgsD, RgsE, RgsF, RgsMrg, SpanC, SpanD, RgsG, RgsH, Sorted, ShelfSort, RgsI.
-/
import Derived.Deep.RegionHeld3
import Derived.Deep.RegionWith
import Derived.Shelf.SlSortCmp.WholeK
import Derived.Shelf.SlSortCmp.NoneTotal
import Derived.Test.YtfjaklpddcafdaaProg
import Derived.Test.YtfjaklpddcafdaaMg7
namespace Go.Proofs.Ytfjaklpddcafdaa
open Go.RowKit

theorem listI_sorted : ∀ {l : List Itm}, listI l = true → SortS ltK l
  | [], _ => SortS.nil
  | _ :: _, h => List.pairwise_cons.2 ⟨fun _ hy => ltB_asymm (listI_above h hy), listI_sorted (listI_tail h)⟩
def CutAt (l : List Itm) (s : List UInt8) (i j : Nat) : Prop := (∀ t x, t < i → l[t]? = some x → ltB x.key s = true) ∧ (∀ t x, j ≤ t → l[t]? = some x → ltB x.key s = false)
theorem CutAt.lo {l : List Itm} {s : List UInt8} {i j h : Nat} {x : Itm} (hs : SortS ltK l) (hc : CutAt l s i j) (hx : l[h]? = some x) (ht : ltB x.key s = true) : CutAt l s (h + 1) j :=
  ⟨fun t y hty hy => by
    have h1 := hs.at_ stoK (i := t) (j := h) (by omega) hy hx
    cases hc : ltB y.key s
    · have := stoK.ntrans x y ⟨s, ⟨0, 0⟩, 0, 0, false, []⟩ h1 hc
      have this : ltB x.key s = false := this
      rw [this] at ht; cases ht
    · rfl, hc.2⟩
theorem CutAt.hi {l : List Itm} {s : List UInt8} {i j h : Nat} {x : Itm} (hs : SortS ltK l) (hc : CutAt l s i j) (hx : l[h]? = some x) (ht : ltB x.key s = false) : CutAt l s i h :=
  ⟨hc.1, fun t y hty hy => stoK.ntrans y x ⟨s, ⟨0, 0⟩, 0, 0, false, []⟩ (hs.at_ stoK (i := h) (j := t) hty hx hy) ht⟩
theorem CutAt.place {l : List Itm} {s : List UInt8} {i : Nat} (hi : i ≤ l.length) (hc : CutAt l s i i) : placeI l s = i := by
  obtain ⟨h1, h2, h3⟩ := place_facts s l
  rcases Nat.lt_trichotomy (placeI l s) i with h | h | h
  · have hg : l[placeI l s]? = some (l[placeI l s]'(by omega)) := List.getElem?_eq_getElem _
    have e1 := h3 _ hg
    rw [hc.1 _ _ h hg] at e1; cases e1
  · exact h
  · obtain ⟨x, hx, hk⟩ := h2 i h
    rw [hc.2 i x (Nat.le_refl _) hx] at hk; cases hk
theorem here_at {l : List Itm} {s : List UInt8} {i : Nat} {x : Itm} (hp : placeI l s = i) (hx : l[i]? = some x) : hereI l s = decide (x.key = s) := by
  unfold hereI; rw [hp, hx]
theorem here_end {l : List Itm} {s : List UInt8} {i : Nat} (hp : placeI l s = i) (hi : i = l.length) : hereI l s = false := by
  unfold hereI; rw [hp, List.getElem?_eq_none (by omega)]
def keyI (s : List UInt8) : Itm := ⟨s, ⟨0, 0⟩, 0, 0, false, []⟩
theorem keyI_is {s : List UInt8} {U : ByteArray} (hU : str s = U) : IsI (keyI s) U 0 0 0 0 false ⟨#[]⟩ := ⟨hU, rfl, rfl, rfl, rfl, rfl, rfl⟩
set_option maxRecDepth 100000 in
set_option maxHeartbeats 8000000 in
theorem itp_search (A : Option Addr) (c n : Nat) (l : List Itm) (s : List UInt8) (U : ByteArray) (hn : n = l.length) (hn9 : n ≤ 1000000) (hU : str s = U) (hl : listI l = true) (a : Nat) (ha : placeI l s = a) (o : Bool) (ho : hereI l s = o) (w : World) (hr : kItm.Rd w w.heap.size A c l) :
    Calls Try.prog 32 #[.slice A n c, itV U 0 0 0 0 false ⟨#[]⟩, byKeyV] w fun e w' => e = .returned (.tuple #[.int .i64 (a : Int), .bool o]) ∧ Below w.heap.size w w' := by
  have HN := Lib.hid hn
  have HR := Lib.hid hr
  have HSO := Lib.hid (listI_sorted hl)
  have HA := Lib.hid ha
  have HHO := Lib.hid ho
  have HT := Lib.hid (keyI_is hU)
  have hmx := rd_maxI hr hn
  have hcx : n ≤ c := by rw [hn]; exact hr.room
  have H4 := Lib.hid (itAt_new w U 0 0 0 0 false ⟨#[]⟩)
  have HB0 := Lib.hid (below_new w (itO U 0 0 0 0 false ⟨#[]⟩))
  obtain ⟨W0, hW0⟩ : ∃ W0, w.alloc (itO U 0 0 0 0 false ⟨#[]⟩) = W0 := ⟨_, rfl⟩
  rw [hW0] at H4 HB0
  clear hn hr hl ha ho hU
  go_enter Try.func32, Try.ntmps32
  go_wp2_with fail
  go_loopw [9, 10] (fun s9 s10 wr => ∃ i j : Nat, s9 = .int .i64 i ∧ s10 = .int .i64 j ∧ i ≤ j ∧ j ≤ n ∧ Hid (CutAt l s i j) ∧ Hid (Below W0.heap.size W0 wr)) (fun s9 s10 _ => (intOf s10).toNat - (intOf s9).toNat)
  case atStart => exact ⟨0, n, rfl, rfl, by omega, by omega, ⟨fun t x h _ => absurd h (Nat.not_lt_zero _), fun t x h hx => by have := (List.getElem?_eq_some_iff.1 hx).1; have := HN.out; omega⟩, Below.refl _ _⟩
  case round =>
    obtain ⟨i, j, rfl, rfl, hij, hjn, HC, HB⟩ := hrel
    have HBW := Lib.hid (HB0.out.trans (HB.out.mono HB0.out.size))
    obtain ⟨t0, t1, t2, t3, t4, t5, t6⟩ := H4.out.below HB.out
    by_cases hlt : i < j
    · obtain ⟨h, hh⟩ : ∃ h, h = (i + j) / 2 := ⟨_, rfl⟩
      have hhx : ((i : Int) + (j : Int)) / 2 = (h : Int) := by omega
      have hhd2 : (i + j) / 2 = h := hh.symm
      have hh1 : i ≤ h := by omega
      have hh2 : h < j := by omega
      obtain ⟨x, hx, -, -⟩ := get_some (l := l) (k := h) (by have := HN.out; omega)
      obtain ⟨b, o1, rfl, hb1, hcell⟩ := itms_at (HR.out.below HBW.out) (by have := HN.out; omega)
      obtain ⟨q0, q1, q2, q3, q4, q5, q6⟩ := hcell h x hx
      obtain ⟨K, r, c1, rk, pp, dd, BB, hI⟩ : ∃ K r c k p d B, IsI x K r c k p d B := ⟨_, _, _, _, _, _, _, IsI.mk' x⟩
      rw [hI.key] at q0
      rw [hI.rep] at q1
      rw [hI.cnt] at q2
      rw [hI.rank] at q3
      rw [hI.prio] at q4
      rw [hI.dead] at q5
      rw [hI.body] at q6
      obtain ⟨z, hz, hzl, -⟩ := cmp_testK x.key s
      obtain ⟨t, ht⟩ : ∃ t, ltB x.key s = t := ⟨_, rfl⟩
      rw [ht] at hzl
      have CB := Lib.hid (fun (L : List (Addr × Value)) => fun (W : World) (hC : CellL wr L W) => (itm_byKey x (keyI s) K r c1 rk pp dd BB hI U 0 0 0 0 false ⟨#[]⟩ HT.out z hz W).mono fun (e' : Ending) (W' : World) ⟨h1, h2⟩ => (⟨h1, cellL_call h2 hC⟩ : e' = Ending.returned (.int .i64 z) ∧ CellL wr L W'))
      have HCL := Lib.hid (show CellL wr [(⟨b, o1 + h * 7, none⟩, .string K), (⟨b, o1 + h * 7 + 1, none⟩, .int .i64 r), (⟨b, o1 + h * 7 + 2, none⟩, .int .i64 c1), (⟨b, o1 + h * 7 + 3, none⟩, .int .i64 rk), (⟨b, o1 + h * 7 + 4, none⟩, .int .i64 pp), (⟨b, o1 + h * 7 + 5, none⟩, .bool dd), (⟨b, o1 + h * 7 + 6, none⟩, .string BB), (⟨w.heap.size, 0, none⟩, .string U), (⟨w.heap.size, 1, none⟩, .int .i64 0), (⟨w.heap.size, 2, none⟩, .int .i64 0), (⟨w.heap.size, 3, none⟩, .int .i64 0), (⟨w.heap.size, 4, none⟩, .int .i64 0), (⟨w.heap.size, 5, none⟩, .bool false), (⟨w.heap.size, 6, none⟩, .string ⟨#[]⟩)] wr from ⟨q0, q1, q2, q3, q4, q5, q6, t0, t1, t2, t3, t4, t5, t6, Below.refl _ _⟩)
      have HLO := Lib.hid (fun (e : t = true) => HC.out.lo HSO.out hx (ht.trans e))
      have HHI := Lib.hid (fun (e : t = false) => HC.out.hi HSO.out hx (ht.trans e))
      have hh0 : (0 : Int) ≤ (h : Int) := by omega
      have hhn : (h : Int) < (n : Int) := by omega
      have hhd : decide ((h : Int) < 0) = false := decide_eq_false (by omega)
      have hhw2 : IntKind.i64.wrap (h : Int) = (h : Int) := IntWalk.i64_in _ (by omega)
      clear hh hx hcell hI hz ht q0 q1 q2 q3 q4 q5 q6 t0 t1 t2 t3 t4 t5 t6
      go_wp2_with fail
      refine q_region (CellL wr [(⟨b, o1 + h * 7, none⟩, .string K), (⟨b, o1 + h * 7 + 1, none⟩, .int .i64 r), (⟨b, o1 + h * 7 + 2, none⟩, .int .i64 c1), (⟨b, o1 + h * 7 + 3, none⟩, .int .i64 rk), (⟨b, o1 + h * 7 + 4, none⟩, .int .i64 pp), (⟨b, o1 + h * 7 + 5, none⟩, .bool dd), (⟨b, o1 + h * 7 + 6, none⟩, .string BB), (⟨w.heap.size, 0, none⟩, .string U), (⟨w.heap.size, 1, none⟩, .int .i64 0), (⟨w.heap.size, 2, none⟩, .int .i64 0), (⟨w.heap.size, 3, none⟩, .int .i64 0), (⟨w.heap.size, 4, none⟩, .int .i64 0), (⟨w.heap.size, 5, none⟩, .bool false), (⟨w.heap.size, 6, none⟩, .string ⟨#[]⟩)]) (by kernel_rfl) (by kernel_rfl) (cellL_drew HCL.out) ?_
      repeat (first
        | go_big_quiet_skip
        | (go_big_quiet_want; (first
          | (refine q_take (v := ?_) ?_ ?_; rotate_left; (focus (intro w hSw; (try simp only [CellL] at hSw); go_split_ands; go_simp; (try (rw [if_neg (by omega)])); (try with_reducible rfl); done)))
          | (refine q_call (CB.out _) ?_ ?_; (focus (intro w hSw; (try simp only [CellL] at hSw); go_split_ands; go_simp; (try (rw [if_neg (by omega)])); done)))); (try simp only [Act.put, List.setIfInBounds_toArray, List.set_cons_zero, List.set_cons_succ]); go_big_quiet_on))
      refine wpQuiet_nil ?_
      intro w2 hw2
      have hb2 := cellL_size hw2
      have HB2 := Lib.hid (HB.out.trans (hb2.mono HB.out.size))
      clear hw2 hb2
      cases t
      · have HC2 := Lib.hid (HHI.out (by first | rfl | trivial))
        go_wp2_with fail
        go_roundw
        case rel => exact ⟨i, h, rfl, by go_num, by omega, by omega, HC2, HB2⟩
        case measure => simp [intOf]; omega
      · have HC2 := Lib.hid (HLO.out (by first | rfl | trivial))
        go_wp2_with fail
        go_roundw
        case rel => exact ⟨h + 1, j, by go_num, rfl, by omega, by omega, HC2, HB2⟩
        case measure => simp [intOf]; omega
    · obtain rfl : i = j := by omega
      have hpl := CutAt.place (by have := HN.out; omega) HC.out
      obtain rfl : a = i := by rw [← HA.out, hpl]
      by_cases hin : a < n
      · obtain ⟨x, hx, -, -⟩ := get_some (l := l) (k := a) (by have := HN.out; omega)
        obtain ⟨b, o1, rfl, hb1, hcell⟩ := itms_at (HR.out.below HBW.out) (by have := HN.out; omega)
        obtain ⟨q0, q1, q2, q3, q4, q5, q6⟩ := hcell a x hx
        obtain ⟨K, r, c1, rk, pp, dd, BB, hI⟩ : ∃ K r c k p d B, IsI x K r c k p d B := ⟨_, _, _, _, _, _, _, IsI.mk' x⟩
        rw [hI.key] at q0
        rw [hI.rep] at q1
        rw [hI.cnt] at q2
        rw [hI.rank] at q3
        rw [hI.prio] at q4
        rw [hI.dead] at q5
        rw [hI.body] at q6
        obtain ⟨z, hz, -, hze⟩ := cmp_testK x.key s
        rw [← here_at hpl hx, HHO.out] at hze
        have CB := Lib.hid (fun (L : List (Addr × Value)) => fun (W : World) (hC : CellL wr L W) => (itm_byKey x (keyI s) K r c1 rk pp dd BB hI U 0 0 0 0 false ⟨#[]⟩ HT.out z hz W).mono fun (e' : Ending) (W' : World) ⟨h1, h2⟩ => (⟨h1, cellL_call h2 hC⟩ : e' = Ending.returned (.int .i64 z) ∧ CellL wr L W'))
        have HCL := Lib.hid (show CellL wr [(⟨b, o1 + a * 7, none⟩, .string K), (⟨b, o1 + a * 7 + 1, none⟩, .int .i64 r), (⟨b, o1 + a * 7 + 2, none⟩, .int .i64 c1), (⟨b, o1 + a * 7 + 3, none⟩, .int .i64 rk), (⟨b, o1 + a * 7 + 4, none⟩, .int .i64 pp), (⟨b, o1 + a * 7 + 5, none⟩, .bool dd), (⟨b, o1 + a * 7 + 6, none⟩, .string BB), (⟨w.heap.size, 0, none⟩, .string U), (⟨w.heap.size, 1, none⟩, .int .i64 0), (⟨w.heap.size, 2, none⟩, .int .i64 0), (⟨w.heap.size, 3, none⟩, .int .i64 0), (⟨w.heap.size, 4, none⟩, .int .i64 0), (⟨w.heap.size, 5, none⟩, .bool false), (⟨w.heap.size, 6, none⟩, .string ⟨#[]⟩)] wr from ⟨q0, q1, q2, q3, q4, q5, q6, t0, t1, t2, t3, t4, t5, t6, Below.refl _ _⟩)
        have ha0 : (0 : Int) ≤ (a : Int) := by omega
        have han : (a : Int) < (n : Int) := by omega
        have had : decide ((a : Int) < 0) = false := decide_eq_false (by omega)
        have hat : decide ((a : Int) < (n : Int)) = true := decide_eq_true (by omega)
        have hat2 : decide (a < n) = true := decide_eq_true hin
        clear hx hcell hI hz q0 q1 q2 q3 q4 q5 q6 t0 t1 t2 t3 t4 t5 t6 hpl
        go_wp2_with fail
        refine q_region (CellL wr [(⟨b, o1 + a * 7, none⟩, .string K), (⟨b, o1 + a * 7 + 1, none⟩, .int .i64 r), (⟨b, o1 + a * 7 + 2, none⟩, .int .i64 c1), (⟨b, o1 + a * 7 + 3, none⟩, .int .i64 rk), (⟨b, o1 + a * 7 + 4, none⟩, .int .i64 pp), (⟨b, o1 + a * 7 + 5, none⟩, .bool dd), (⟨b, o1 + a * 7 + 6, none⟩, .string BB), (⟨w.heap.size, 0, none⟩, .string U), (⟨w.heap.size, 1, none⟩, .int .i64 0), (⟨w.heap.size, 2, none⟩, .int .i64 0), (⟨w.heap.size, 3, none⟩, .int .i64 0), (⟨w.heap.size, 4, none⟩, .int .i64 0), (⟨w.heap.size, 5, none⟩, .bool false), (⟨w.heap.size, 6, none⟩, .string ⟨#[]⟩)]) (by kernel_rfl) (by kernel_rfl) (cellL_drew HCL.out) ?_
        repeat (first
          | go_big_quiet_skip
          | (go_big_quiet_want; (first
            | (refine q_take (v := ?_) ?_ ?_; rotate_left; (focus (intro w hSw; (try simp only [CellL] at hSw); go_split_ands; go_simp; (try (rw [if_neg (by omega)])); (try with_reducible rfl); done)))
            | (refine q_call (CB.out _) ?_ ?_; (focus (intro w hSw; (try simp only [CellL] at hSw); go_split_ands; go_simp; (try (rw [if_neg (by omega)])); done)))); (try simp only [Act.put, List.setIfInBounds_toArray, List.set_cons_zero, List.set_cons_succ]); go_big_quiet_on))
        refine wpQuiet_nil ?_
        intro w2 hw2
        have hb2 := cellL_size hw2
        have HB2 := Lib.hid (HBW.out.trans (hb2.mono HBW.out.size))
        clear hw2 hb2
        go_wp2_with fail
        go_ret2
        exact ⟨rfl, HB2.out⟩
      · have HE := Lib.hid (here_end hpl (by have := HN.out; omega))
        obtain rfl : a = n := by omega
        have hof : o = false := by rw [← HHO.out]; exact HE.out
        subst hof
        have hat : decide ((a : Int) < (a : Int)) = false := decide_eq_false (by omega)
        have HCL := Lib.hid (show CellL wr [] wr from Below.refl _ _)
        clear hpl t0 t1 t2 t3 t4 t5 t6
        go_wp2_with fail
        refine q_region (CellL wr []) (by kernel_rfl) (by kernel_rfl) (cellL_drew HCL.out) ?_
        repeat (first
          | go_big_quiet_skip
          | (go_big_quiet_want; (first
            | (refine q_take (v := ?_) ?_ ?_; rotate_left; (focus (intro w hSw; (try simp only [CellL] at hSw); go_split_ands; go_simp; (try (rw [if_neg (by omega)])); (try with_reducible rfl); done)))); (try simp only [Act.put, List.setIfInBounds_toArray, List.set_cons_zero, List.set_cons_succ]); go_big_quiet_on))
        refine wpQuiet_nil ?_
        intro w2 hw2
        have hb2 := cellL_size hw2
        have HB2 := Lib.hid (HBW.out.trans (hb2.mono HBW.out.size))
        clear hw2 hb2
        go_wp2_with fail
        go_ret2
        exact ⟨rfl, HB2.out⟩
set_option maxRecDepth 100000 in
theorem itp_find (A : Option Addr) (c n : Nat) (l : List Itm) (s : List UInt8) (U : ByteArray) (hn : n = l.length) (hn9 : n ≤ 1000000) (hU : str s = U) :
    (listI l = true → ∀ a, placeI l s = a → ∀ o, hereI l s = o → ∀ w, kItm.Rd w w.heap.size A c l → Calls Try.prog 15 #[.slice A n c, .string U] w fun e w' => e = .returned (.tuple #[.int .i64 a, .bool o]) ∧ Below w.heap.size w w') ∧
    (listI l = false → ∀ w, kItm.Rd w w.heap.size A c l → Calls Try.prog 15 #[.slice A n c, .string U] w fun e w' => e = .returned (.tuple #[.int .i64 0, .bool false]) ∧ Below w.heap.size w w') := by
  constructor
  · intro hl a ha o ho w hr
    have C1 := Lib.hid (itp_list A c n l hn true hl w hr)
    have C2 := Lib.hid (fun w' => itp_search A c n l s U hn hn9 hU hl a ha o ho w')
    have HR := Lib.hid hr
    clear hn hU hl ha ho hr
    go_enter Try.func15, Try.ntmps15
    go_wp2_with (first
      | ((with_reducible refine C1.out.mono ?_); rintro e w1 ⟨rfl, hq⟩; have HQ := Lib.hid hq; clear hq)
      | ((with_reducible refine (C2.out _ (HR.out.call HQ.out)).mono ?_); rintro e w2 ⟨rfl, hq⟩; have HQ2 := Lib.hid (HQ.out.trans (hq.mono HQ.out.size)); clear hq))
    go_ret2
    exact ⟨rfl, HQ2.out⟩
  · intro hl w hr
    have C1 := Lib.hid (itp_list A c n l hn false hl w hr)
    clear hn hU hl hr
    go_enter Try.func15, Try.ntmps15
    go_wp2_with ((with_reducible refine C1.out.mono ?_); rintro e w1 ⟨rfl, hq⟩; have HQ := Lib.hid hq; clear hq)
    go_ret2
    exact ⟨rfl, HQ.out⟩
end Go.Proofs.Ytfjaklpddcafdaa

namespace Go.Proofs.Ytfjaklpddcafdaa
open Go.RowKit

theorem le_alloc {n : Nat} {w : World} (h : n ≤ w.heap.size) (o : Obj) : n ≤ (w.alloc o).heap.size := by simp; omega
end Go.Proofs.Ytfjaklpddcafdaa

namespace Go.Proofs.Ytfjaklpddcafdaa
open Go.RowKit

theorem EdgesOk.all {E : List (List UInt8)} (h : EdgesOk E) : ∀ x ∈ E, x.length ≤ 17 := fun x hx => by
  obtain ⟨m, rfl, _, h2⟩ := h
  rcases List.mem_cons.1 hx with rfl | hx
  · simp
  · exact h2 x hx
end Go.Proofs.Ytfjaklpddcafdaa

namespace Go.Proofs.Ytfjaklpddcafdaa
open Go.RowKit

def RetR (w : World) (l : List Rng) (e : Ending) (w' : World) : Prop := ∃ A c, e = .returned (.slice A l.length c) ∧ kRng.Rd w' w'.heap.size A c l ∧ Below w.heap.size w w'
theorem rng_row (w : World) (r : Rng) (n : Nat) (hn : n = 1) : kRng.Rd (w.alloc (.cells #[.string (str r.lo), .string (str r.hi), .bool r.op] 56)) (w.heap.size + 1) (some ⟨w.heap.size, 0, none⟩) n [r] := Kind.rd_new (by rw [kRng.row_one]; rfl) hn (by simp)
end Go.Proofs.Ytfjaklpddcafdaa

namespace Go.Proofs.Ytfjaklpddcafdaa

def mergeL : Option Rng → List Rng → List Rng
  | none, [] => []
  | some p, [] => [p]
  | none, r :: l => mergeL (some r) l
  | some p, r :: l => match gapR p r with
    | true => p :: mergeL (some r) l
    | false => match endLt p r with
      | true => mergeL (some ⟨p.lo, r.hi, r.op⟩) l
      | false => mergeL (some p) l
theorem mergeL_gap {p r : Rng} {l : List Rng} (h : gapR p r = true) : mergeL (some p) (r :: l) = p :: mergeL (some r) l := by rw [mergeL, h]
theorem mergeL_more {p r : Rng} {l : List Rng} (h : gapR p r = false) (h' : endLt p r = true) : mergeL (some p) (r :: l) = mergeL (some ⟨p.lo, r.hi, r.op⟩) l := by rw [mergeL, h, h']
theorem mergeL_in {p r : Rng} {l : List Rng} (h : gapR p r = false) (h' : endLt p r = false) : mergeL (some p) (r :: l) = mergeL (some p) l := by rw [mergeL, h, h']
def SortedL (l : List Rng) : Prop := l.Pairwise fun a b => ltB b.lo a.lo = false
theorem gapR_false {p r : Rng} (h : gapR p r = false) : p.op = true ∨ (p.op = false ∧ ltB p.hi r.lo = false) := by
  unfold gapR at h
  cases ho : p.op with
  | true => exact .inl rfl
  | false => rw [ho] at h; exact .inr ⟨rfl, h⟩
theorem endLt_true {p r : Rng} (h : endLt p r = true) : p.op = false ∧ (r.op = true ∨ (r.op = false ∧ ltB p.hi r.hi = true)) := by
  unfold endLt at h
  cases ho : p.op <;> cases hr : r.op <;> rw [ho, hr] at h
  · exact ⟨rfl, .inr ⟨rfl, h⟩⟩
  · exact ⟨rfl, .inl rfl⟩
  · cases h
  · cases h
theorem endLt_false {p r : Rng} (h : endLt p r = false) : p.op = true ∨ (p.op = false ∧ r.op = false ∧ ltB p.hi r.hi = false) := by
  unfold endLt at h
  cases ho : p.op <;> cases hr : r.op <;> rw [ho, hr] at h
  · exact .inr ⟨rfl, rfl, h⟩
  · cases h
  · exact .inl rfl
  · exact .inl rfl
theorem hasR_eq {r : Rng} (h : rightR r = true) (s : List UInt8) : hasR r s = (!ltB s r.lo && (r.op || ltB s r.hi)) := by unfold hasR aheadR; rw [h, Bool.true_and]
theorem more_right {p r : Rng} (hp : rightR p = true) (hr : rightR r = true) (h : ltB r.lo p.lo = false) : rightR ⟨p.lo, r.hi, r.op⟩ = true :=
  rightR_iff.2 ⟨(show p.lo.length ≤ 17 from rightR_lo hp), (show r.hi.length ≤ 17 from rightR_hi hr), (show r.op = true → r.hi = [] from rightR_op hr), (show r.op = false → ltB p.lo r.hi = true from fun ho => ltB_of_le_of_lt h (rightR_lt hr ho))⟩
theorem more_has {p r : Rng} (hp : rightR p = true) (hr : rightR r = true) (h : ltB r.lo p.lo = false) (hg : gapR p r = false) (he : endLt p r = true) (s : List UInt8) : hasR ⟨p.lo, r.hi, r.op⟩ s = (hasR p s || hasR r s) := by
  rw [hasR_eq (more_right hp hr h), hasR_eq hp, hasR_eq hr]
  obtain ⟨ho, he⟩ := endLt_true he
  rcases gapR_false hg with h1 | ⟨_, h1⟩
  · rw [ho] at h1; cases h1
  rw [ho, Bool.false_or]
  cases hs : ltB s p.hi with
  | true =>
    have h2 : (r.op || ltB s r.hi) = true := by
      rcases he with he | ⟨_, he⟩
      · rw [he]; rfl
      · rw [ltB_trans hs he, Bool.or_true]
    show (!ltB s p.lo && (r.op || ltB s r.hi)) = _
    rw [h2, Bool.and_true, Bool.and_true]
    cases h3 : ltB s p.lo with
    | false => rfl
    | true => rw [ltB_of_lt_of_le h3 h]; rfl
  | false =>
    have h2 : ltB s r.lo = false := leB_trans h1 hs
    have h3 : ltB s p.lo = false := leB_trans h h2
    show (!ltB s p.lo && (r.op || ltB s r.hi)) = _
    rw [h2, h3]; rfl
theorem in_has {p r : Rng} (hp : rightR p = true) (h : ltB r.lo p.lo = false) (he : endLt p r = false) (s : List UInt8) : hasR p s = (hasR p s || hasR r s) := by
  cases hs : hasR r s with
  | false => rw [Bool.or_false]
  | true =>
    rw [Bool.or_true]
    have h1 := hasR_ge hs
    have h2 := hasR_ahead hs
    rw [hasR_eq hp, leB_trans h h1]
    rcases endLt_false he with h3 | ⟨h3, h4, h5⟩
    · rw [h3]; rfl
    · unfold aheadR at h2
      rw [h4, Bool.false_or] at h2
      rw [ltB_of_lt_of_le h2 h5, Bool.or_true]; rfl
theorem mergeL_ok : ∀ (l : List Rng) (p : Rng), rightR p = true → (∀ r ∈ l, rightR r = true ∧ ltB r.lo p.lo = false) → SortedL l →
    rightL (mergeL (some p) l) = true ∧ (∀ s, hasL (mergeL (some p) l) s = (hasR p s || hasL l s)) ∧ ∃ t m, mergeL (some p) l = t :: m ∧ t.lo = p.lo
  | [], p, hp, _, _ => ⟨hp, fun s => by rw [show mergeL (some p) [] = [p] from rfl, hasL_cons], p, [], rfl, rfl⟩
  | r :: l, p, hp, hl, hs => by
    obtain ⟨hr, hlo⟩ := hl r (List.mem_cons_self ..)
    obtain ⟨hs1, hs2⟩ := List.pairwise_cons.1 hs
    have hl' : ∀ t ∈ l, rightR t = true ∧ ltB t.lo r.lo = false := fun t ht => ⟨(hl t (List.mem_cons_of_mem _ ht)).1, hs1 t ht⟩
    cases hg : gapR p r with
    | true =>
      obtain ⟨h1, h2, t, m, h3, h4⟩ := mergeL_ok l r hr hl' hs2
      rw [mergeL_gap hg]
      refine ⟨?_, fun s => by rw [hasL_cons, h2, hasL_cons], p, _, rfl, rfl⟩
      rw [h3] at h1 ⊢
      have h5 : gapR p t = true := by unfold gapR at hg ⊢; rw [h4]; exact hg
      unfold rightL
      rw [hp, h5, h1]; rfl
    | false =>
      cases he : endLt p r with
      | true =>
        obtain ⟨h1, h2, t, m, h3, h4⟩ := mergeL_ok l ⟨p.lo, r.hi, r.op⟩ (more_right hp hr hlo) (fun t ht => ⟨(hl' t ht).1, leB_trans hlo (hl' t ht).2⟩) hs2
        rw [mergeL_more hg he]
        exact ⟨h1, fun s => by rw [h2, more_has hp hr hlo hg he, hasL_cons, Bool.or_assoc], t, m, h3, h4⟩
      | false =>
        obtain ⟨h1, h2, t, m, h3, h4⟩ := mergeL_ok l p hp (fun t ht => hl t (List.mem_cons_of_mem _ ht)) hs2
        rw [mergeL_in hg he]
        exact ⟨h1, fun s => by rw [h2, hasL_cons, ← Bool.or_assoc, ← in_has hp hlo he], t, m, h3, h4⟩
theorem mergeL_all {l : List Rng} (hl : ∀ r ∈ l, rightR r = true) (hs : SortedL l) : rightL (mergeL none l) = true ∧ ∀ s, hasL (mergeL none l) s = hasL l s := by
  cases l with
  | nil => exact ⟨rfl, fun _ => rfl⟩
  | cons r l =>
    obtain ⟨hs1, hs2⟩ := List.pairwise_cons.1 hs
    obtain ⟨h1, h2, _⟩ := mergeL_ok l r (hl r (List.mem_cons_self ..)) (fun t ht => ⟨hl t (List.mem_cons_of_mem _ ht), hs1 t ht⟩) hs2
    exact ⟨h1, fun s => by rw [show mergeL none (r :: l) = mergeL (some r) l from rfl, h2, hasL_cons]⟩
theorem mergeL_norm {l m : List Rng} (hp : m.Perm (l.filter rightR)) (hs : SortedL m) : mergeL none m = normV l := by
  have hm : ∀ r ∈ m, rightR r = true := fun r hr => by have := hp.mem_iff.1 hr; exact (List.mem_filter.1 this).2
  obtain ⟨h1, h2⟩ := mergeL_all hm hs
  refine makeV_unique h1 fun s => ?_
  rw [h2, gV1, hasL_nil, Bool.or_false, Bool.eq_iff_iff]
  unfold hasL
  rw [List.any_eq_true, List.any_eq_true]
  constructor
  · rintro ⟨r, hr, h⟩; exact ⟨r, (List.mem_filter.1 (hp.mem_iff.1 hr)).1, h⟩
  · rintro ⟨r, hr, h⟩; exact ⟨r, hp.mem_iff.2 (List.mem_filter.2 ⟨hr, hasR_right h⟩), h⟩
def lastR (p r : Rng) : Rng := match endLt p r with | true => ⟨p.lo, r.hi, r.op⟩ | false => p
theorem mergeL_last {p r : Rng} {l : List Rng} (h : gapR p r = false) : mergeL (some p) (r :: l) = mergeL (some (lastR p r)) l := by
  unfold lastR
  cases h' : endLt p r with
  | true => rw [mergeL_more h h']
  | false => rw [mergeL_in h h']

def riseB : List (List UInt8) → Bool
  | [] => true
  | x :: l => risingB x l
theorem risingB_of {c x : List UInt8} {l : List (List UInt8)} (h : ltB c x = true) (h' : risingB x l = true) : risingB c (x :: l) = true := by unfold risingB; rw [h, h']; rfl
def togV : Bool → List (List UInt8) → List UInt8 → Bool
  | v, [], _ => v
  | v, x :: l, s => match ltB s x with | true => v | false => togV (!v) l s
theorem togV_low {v : Bool} {x s : List UInt8} {l : List (List UInt8)} (h : ltB s x = true) : togV v (x :: l) s = v := by rw [togV, h]
theorem togV_high {v : Bool} {x s : List UInt8} {l : List (List UInt8)} (h : ltB s x = false) : togV v (x :: l) s = togV (!v) l s := by rw [togV, h]
theorem togV_all {v : Bool} {s : List UInt8} {l : List (List UInt8)} (h : ∀ x ∈ l, ltB s x = true) : togV v l s = v := by
  cases l with
  | nil => rfl
  | cons x l => exact togV_low (h x (List.mem_cons_self ..))
def dropE (e : List UInt8) : List (List UInt8) → List (List UInt8)
  | [] => []
  | x :: l => match decide (x = e) with | true => l | false => x :: l
def passB (e : List UInt8) (v : Bool) : List (List UInt8) → Bool
  | [] => v
  | x :: _ => match decide (x = e) with | true => !v | false => v
theorem dropE_same {e : List UInt8} {l : List (List UInt8)} : dropE e (e :: l) = l := by rw [dropE, decide_eq_true rfl]
theorem dropE_other {e x : List UInt8} {l : List (List UInt8)} (h : x ≠ e) : dropE e (x :: l) = x :: l := by rw [dropE, decide_eq_false h]
theorem passB_same {e : List UInt8} {v : Bool} {l : List (List UInt8)} : passB e v (e :: l) = !v := by rw [passB, decide_eq_true rfl]
theorem passB_other {e x : List UInt8} {v : Bool} {l : List (List UInt8)} (h : x ≠ e) : passB e v (x :: l) = v := by rw [passB, decide_eq_false h]
def FromE (e : List UInt8) (l : List (List UInt8)) : Prop := riseB l = true ∧ ∀ x ∈ l, ltB x e = false
theorem FromE.drop {e : List UInt8} {l : List (List UInt8)} (h : FromE e l) : risingB e (dropE e l) = true := by
  obtain ⟨h1, h2⟩ := h
  cases l with
  | nil => rfl
  | cons x l =>
    by_cases hx : x = e
    · subst hx; rw [dropE_same]; exact h1
    · rw [dropE_other hx]
      refine risingB_of ?_ h1
      have h3 := h2 x (List.mem_cons_self ..)
      cases hc : ltB e x with
      | true => rfl
      | false => exact absurd (ltB_total h3 hc) hx
theorem FromE.pass {e : List UInt8} {l : List (List UInt8)} {v : Bool} (_h : FromE e l) {s : List UInt8} (hs : ltB s e = false) : togV (passB e v l) (dropE e l) s = togV v l s := by
  cases l with
  | nil => rfl
  | cons x l =>
    by_cases hx : x = e
    · subst hx; rw [dropE_same, passB_same, togV_high hs]
    · rw [dropE_other hx, passB_other hx]
theorem FromE.at {e : List UInt8} {l : List (List UInt8)} {v : Bool} (h : FromE e l) : togV v l e = passB e v l := by
  rw [← h.pass (ltB_irrefl e)]
  exact togV_all (rising_all h.drop)
end Go.Proofs.Ytfjaklpddcafdaa

namespace Go.Proofs.Ytfjaklpddcafdaa
open Go.RowKit

end Go.Proofs.Ytfjaklpddcafdaa

namespace Go.Proofs.Ytfjaklpddcafdaa
open Go.RowKit

theorem span_upTo (S T : ByteArray) (o : Bool) (w : World) :
    Calls Try.prog 58 #[.agg #[.string S, .string T, .bool o]] w fun e w' => e = .returned (.agg #[.string ⟨#[]⟩, .string T, .bool o]) ∧ Below w.heap.size w w' := by
  go_enter Try.func58, Try.ntmps58
  go_wp2_with fail
  exact bodyPost_ret (v := .agg #[.string ⟨#[]⟩, .string T, .bool o]) (by simp [results, Try.results58, go_sem]) rfl ⟨rfl, ((Below.refl _ _).alloc (Nat.le_refl _) _).alloc (by simp) _⟩
set_option maxHeartbeats 1600000 in
theorem span_ends (r t : Rng) (S T U V : ByteArray) (o p : Bool) (hr : IsR r S T o) (ht : IsR t U V p) (v : Int) (hv : endsR r t = v) (w : World) :
    Calls Try.prog 47 #[.agg #[.string S, .string T, .bool o], .agg #[.string U, .string V, .bool p]] w fun e w' => e = .returned (.int .i64 v) ∧ Below w.heap.size w w' := by
  obtain ⟨v1, e1⟩ : ∃ v1, rightR r = v1 := ⟨_, rfl⟩
  obtain ⟨v2, e2⟩ : ∃ v2, rightR t = v2 := ⟨_, rfl⟩
  have R1 := fun w => Lib.hid (span_right r S T o v1 hr e1 w)
  have R2 := fun w => Lib.hid (span_right t U V p v2 ht e2 w)
  cases v1
  case true =>
    cases v2
    case true =>
      have T1 := fun w => Lib.hid (span_upTo S T o w)
      have T2 := fun w => Lib.hid (span_upTo U V p w)
      have HO1 := fun e => Lib.hid (rightR_op e1 e)
      have HO2 := fun e => Lib.hid (rightR_op e2 e)
      obtain ⟨-, h2, h3⟩ := hr
      obtain ⟨-, h5, h6⟩ := ht
      have EQ := fun q hq w => Lib.hid (eq_rng_is ⟨#[]⟩ T ⟨#[]⟩ V o p q hq w)
      unfold endsR endLt at hv
      rw [e1, e2, h3, h6] at hv
      rw [h3] at HO1
      rw [h6] at HO2
      have key : (o = true ∧ p = true ∧ v = 0 ∧ T = V) ∨ (o = true ∧ p = false ∧ v = 1) ∨ (o = false ∧ p = true ∧ v = -1) ∨ (o = false ∧ p = false ∧ v = 0 ∧ T = V) ∨ (o = false ∧ p = false ∧ (T.toList == V.toList) = false ∧ Lib.compareBytes r.hi t.hi = v) := by
        cases o <;> cases p
        · rcases ltB_three r.hi t.hi with ⟨g1, g2, g3⟩ | ⟨g1, g2, g3⟩ | ⟨g1, g2, g3⟩
          · rw [g1, g2] at hv; exact .inr (.inr (.inr (.inr ⟨rfl, rfl, txt_ne h2 h5 g3, (cmp_lt g1).trans hv⟩)))
          · rw [g1, g2] at hv; exact .inr (.inr (.inr (.inr ⟨rfl, rfl, txt_ne h2 h5 g3, (cmp_gt g2).trans hv⟩)))
          · rw [g1, g2] at hv; exact .inr (.inr (.inr (.inl ⟨rfl, rfl, hv.symm, (h2.symm.trans (congrArg str g3)).trans h5⟩)))
        · exact .inr (.inr (.inl ⟨rfl, rfl, hv.symm⟩))
        · exact .inr (.inl ⟨rfl, rfl, hv.symm⟩)
        · exact .inl ⟨rfl, rfl, hv.symm, (h2.symm.trans (congrArg str ((HO1 rfl).out.trans (HO2 rfl).out.symm))).trans h5⟩
      have C := fun x hx w => Lib.hid (cmp_is r.hi t.hi T V h2 h5 x hx w)
      have KEY := Lib.hid key
      clear hv HO1 HO2 h2 h3 h5 h6 e1 e2 key
      go_enter Try.func47, Try.ntmps47
      go_wp2_with (first | ((with_reducible refine (R1 _).out.mono ?_); rintro e w1 ⟨rfl, hb1⟩; obtain ⟨hc1, hf1⟩ := bcell hb1) | ((with_reducible refine (R2 _).out.mono ?_); rintro e w2 ⟨rfl, hb2⟩; obtain ⟨hc2, hf2⟩ := bcell hb2))
      have hA := (((rgAt_new w S _ _ _).keep _).below hb1).below hb2
      have hB := ((rgAt_new (w.alloc _) U _ _ _).below hb1).below hb2
      rw [size1] at hB
      replace hb2 := (((Below.refl w.heap.size w).alloc (Nat.le_refl _) _).alloc (by simp) _).trans ((hb1.trans (hb2.mono hb1.size)).mono (by simp; omega))
      have HA := Lib.hid hA
      have HB := Lib.hid hB
      obtain ⟨a0, a1, a2, a3⟩ := hA
      obtain ⟨b0, b1, b2, b3⟩ := hB
      clear hb1 hc1 hf1 hc2 hf2 R1 R2
      have HW := Lib.hid hb2.size
      go_region_with (first
        | ((with_reducible refine (T1 _).out.mono ?_); rintro e w3 ⟨rfl, hb3⟩; clear a0 a1 a2 a3 b0 b1 b2 b3; (first | have HA := Lib.hid (HA.out.below hb3) | have HA := Lib.hid (HA.out.drew.below hb3)); (first | have HB := Lib.hid (HB.out.below hb3) | have HB := Lib.hid (HB.out.drew.below hb3)); obtain ⟨a0, a1, a2, a3⟩ := HA.out; obtain ⟨b0, b1, b2, b3⟩ := HB.out; (first | replace hb2 := hb2.trans (hb3.mono HW.out) | replace hb2 := hb2.drew.trans (hb3.mono HW.out)); replace HW := Lib.hid (Nat.le_trans HW.out hb3.size); clear hb3)
        | ((with_reducible refine (T2 _).out.mono ?_); rintro e w4 ⟨rfl, hb4⟩; clear a0 a1 a2 a3 b0 b1 b2 b3; (first | have HA := Lib.hid (HA.out.below hb4) | have HA := Lib.hid (HA.out.drew.below hb4)); (first | have HB := Lib.hid (HB.out.below hb4) | have HB := Lib.hid (HB.out.drew.below hb4)); obtain ⟨a0, a1, a2, a3⟩ := HA.out; obtain ⟨b0, b1, b2, b3⟩ := HB.out; (first | replace hb2 := hb2.trans (hb4.mono HW.out) | replace hb2 := hb2.drew.trans (hb4.mono HW.out)); replace HW := Lib.hid (Nat.le_trans HW.out hb4.size); clear hb4))
      all_goals
        rcases KEY.out with ⟨rfl, rfl, rfl, rfl⟩ | ⟨rfl, rfl, rfl⟩ | ⟨rfl, rfl, rfl⟩ | ⟨rfl, rfl, rfl, rfl⟩ | ⟨rfl, rfl, hne, hx⟩
        case' inr.inr.inr.inr =>
          replace EQ := EQ false (by rw [hne, Bool.and_false]; rfl)
          replace C := C v hx
        case' inl => replace EQ := EQ true (by simp)
        case' inr.inl => replace EQ := EQ false (by simp)
        case' inr.inr.inl => replace EQ := EQ false (by simp)
        case' inr.inr.inr.inl => replace EQ := EQ true (by simp)
        all_goals
          have EQ := fun w => (EQ w).out
          go_wp2_with ((with_reducible refine (C _).out.mono ?_); rintro e w' ⟨rfl, rfl⟩)
          go_ret
          exact ⟨rfl, below_set3 (below_set3 hb2 (Nat.le_refl _) _ _ _) (Nat.le_succ _) _ _ _⟩
    case false =>
      obtain rfl : v = 0 := by rw [← hv, endsR_wrong (by rw [e2, Bool.and_false])]
      clear hv e1 e2 hr ht
      go_enter Try.func47, Try.ntmps47
      go_wp2_with (first | ((with_reducible refine (R1 _).out.mono ?_); rintro e w1 ⟨rfl, hb1⟩; obtain ⟨hc1, hf1⟩ := bcell hb1) | ((with_reducible refine (R2 _).out.mono ?_); rintro e w2 ⟨rfl, hb2⟩; obtain ⟨hc2, hf2⟩ := bcell hb2))
      go_ret
      exact ⟨rfl, (((Below.refl w.heap.size w).alloc (Nat.le_refl _) _).alloc (by simp) _).trans ((hb1.trans (hb2.mono hb1.size)).mono (by simp; omega))⟩
  case false =>
    obtain rfl : v = 0 := by rw [← hv, endsR_wrong (by rw [e1]; rfl)]
    clear hv e1 e2 hr ht R2
    go_enter Try.func47, Try.ntmps47
    go_wp2_with ((with_reducible refine (R1 _).out.mono ?_); rintro e w1 ⟨rfl, hb1⟩; obtain ⟨hc1, hf1⟩ := bcell hb1)
    go_ret
    exact ⟨rfl, (((Below.refl w.heap.size w).alloc (Nat.le_refl _) _).alloc (by simp) _).trans (hb1.mono (by simp; omega))⟩
end Go.Proofs.Ytfjaklpddcafdaa

namespace Go.Proofs.Ytfjaklpddcafdaa
open Go.RowKit

theorem rg_apart (r t : Rng) (S T U V : ByteArray) (o p v : Bool) (hr : IsR r S T o) (ht : IsR t U V p) (hv : gapR r t = v) (w : World) :
    Calls Try.prog 46 #[.agg #[.string S, .string T, .bool o], .agg #[.string U, .string V, .bool p]] w fun e w' => e = .returned (.bool v) ∧ Below w.heap.size w w' := by
  obtain ⟨-, h2, h3⟩ := hr
  obtain ⟨h4, -, -⟩ := ht
  obtain ⟨x, hx, hx1, -⟩ := cmp_test r.hi t.lo
  have C := fun w => Lib.hid (cmp_is r.hi t.lo T U h2 h4 x hx w)
  unfold gapR at hv
  rw [← hx1, h3] at hv
  clear hx hx1 h2 h3 h4
  obtain ⟨d, hd⟩ : ∃ d, decide (x < 0) = d := ⟨_, rfl⟩
  rw [hd] at hv
  subst hv
  cases o <;> cases d
  all_goals
    go_enter Try.func46, Try.ntmps46
    go_wp2_with ((with_reducible refine (C _).out.mono ?_); rintro e w' ⟨rfl, rfl⟩)
    go_ret
    exact ⟨rfl, ((Below.refl _ _).alloc (Nat.le_refl _) _).alloc (by simp) _⟩
set_option maxHeartbeats 400000 in
theorem rgs_has (A : Option Addr) (c n : Nat) (l : List Rng) (s : List UInt8) (U : ByteArray) (hn : n = l.length) (hU : str s = U) (v : Bool) (hv : hasL l s = v) (w : World) (hr : kRng.Rd w w.heap.size A c l) :
    Calls Try.prog 39 #[.slice A n c, .string U] w fun e w' => e = .returned (.bool v) ∧ Below w.heap.size w w' := by
  have HN := Lib.hid hn
  have HR := Lib.hid hr
  have hmx : n ≤ 9223372036854775807 := by exact rd_max hr hn
  have hcx : n ≤ c := by rw [hn]; exact hr.room
  subst hv
  clear hn hr
  go_enter Try.func39, Try.ntmps39
  go_wp2_with fail
  go_loopw [9] (fun i wr => ∃ k : Nat, k ≤ n ∧ Hid (hasL l s = hasL (l.drop k) s) ∧ i = .int .i64 k ∧ Below w.heap.size w wr) (fun i _ => n - (intOf i).toNat)
  case atStart => exact ⟨0, by omega, rfl, rfl, Below.refl _ _⟩
  case round =>
    obtain ⟨k, hk, HL, rfl, hb⟩ := hrel
    by_cases hlt : k < n
    · obtain ⟨r, hg, hd, -⟩ := get_some (l := l) (k := k) (by have := HN.out; omega)
      obtain ⟨b, o, rfl, hb1, hcell⟩ := rngs_at (HR.out.below hb) (by have := HN.out; omega)
      obtain ⟨c0, c1, c2⟩ := hcell k r hg
      obtain ⟨d, hdv⟩ : ∃ d, hasR r s = d := ⟨_, rfl⟩
      have C := fun w => Lib.hid (span_has r s _ _ U _ d (IsR.mk' r) hU hdv w)
      have HL2 := Lib.hid (HL.out.trans (by rw [hd, hasL_cons, hdv]))
      have hb2 := Nat.lt_of_lt_of_le hb1 hb.size
      clear hcell hg hd hdv
      obtain ⟨S, hS⟩ : ∃ S, str r.lo = S := ⟨_, rfl⟩
      obtain ⟨T, hT⟩ : ∃ T, str r.hi = T := ⟨_, rfl⟩
      obtain ⟨q, hq⟩ : ∃ q, r.op = q := ⟨_, rfl⟩
      rw [hS, hT, hq] at C
      rw [hS] at c0
      rw [hT] at c1
      rw [hq] at c2
      clear hS hT hq
      have HB1 := Lib.hid (hb.alloc hb.size (.cells #[.string S, .string T, .bool q] 56))
      cases d
      · go_wp2_with ((with_reducible refine (C _).out.mono ?_); rintro e w2 ⟨rfl, hq⟩; have HB2 := Lib.hid (HB1.out.trans (hq.mono HB1.out.size)); clear hq)
        go_roundw
        case rel => exact ⟨k + 1, by omega, HL2, by go_num, HB2.out⟩
        case measure => simp [intOf]; omega
      · go_wp2_with ((with_reducible refine (C _).out.mono ?_); rintro e w2 ⟨rfl, hq⟩; have HB2 := Lib.hid (HB1.out.trans (hq.mono HB1.out.size)); clear hq)
        go_ret
        exact ⟨ret_bool HL2.out.symm, HB2.out⟩
    · have HL2 := Lib.hid (HL.out.trans (show hasL (l.drop k) s = false by rw [List.drop_eq_nil_of_le (by have := HN.out; omega)]; rfl))
      go_wp2_with fail
      go_ret
      exact ⟨ret_bool HL2.out.symm, hb⟩
end Go.Proofs.Ytfjaklpddcafdaa

namespace Go.Proofs.Ytfjaklpddcafdaa
open Go.RowKit

end Go.Proofs.Ytfjaklpddcafdaa

namespace Go.Proofs.Ytfjaklpddcafdaa
open Go.RowKit Go.Sort

theorem grown_sortK {α : Type} [Inhabited α] {enc : α → List Value} {k : Nat} {w : World} {g m : Nat} {os : Array Obj} (d : Array α) : w.grownBy (sortWorldK enc k w g 0 m d os) (some g) := by
  unfold sortWorldK putRowK
  refine ⟨rfl, rfl, rfl, by simp, fun j hj hne => ?_⟩
  rw [heap_grow_old _ _ (by simpa using hj)]
  have : g ≠ j := fun e => hne (by rw [e])
  simp [putRow, mapBlock, Sort.ahead, Array.getElem?_modify, this]
theorem heap_sortK {α : Type} [Inhabited α] {enc : α → List Value} {k : Nat} {w : World} {g m : Nat} {os : Array Obj} {cur : Array Value} {e : TypeId} {fr : Nat × Nat} (d : Array α) (hb : w.heap[g]? = some (.cells cur e fr)) :
    (sortWorldK enc k w g 0 m d os).heap[g]? = some (.cells (putCells id 0 (flatK enc k d) cur) e fr) := by
  have hg : g < w.heap.size := (Array.getElem?_eq_some_iff.1 hb).1
  unfold sortWorldK putRowK
  rw [heap_grow_old _ _ (by simpa using hg)]
  simp [putRow, mapBlock, Sort.ahead, Array.getElem?_modify, hb, onCells]
theorem take_putCells_id (cur F : Array Value) (h : F.size ≤ cur.size) : (putCells id 0 F cur).toList.take F.size = F.toList := by
  apply List.ext_getElem?
  intro j
  by_cases hj : j < F.size
  · rw [List.getElem?_take_of_lt hj, Array.getElem?_toList, Array.getElem?_toList]
    simp [putCells, hj, show j < cur.size by omega]
  · rw [List.getElem?_take_eq_none (by omega), List.getElem?_eq_none (by simp; omega)]
namespace Kind
variable {P : Program} {α : Type} [Inhabited α] (K : Kind P α)
theorem flat_row (d : Array α) : (flatK K.cells K.size d).toList = K.row d.toList := by
  apply List.ext_getElem (by rw [K.row_len]; simp)
  intro t h1 h2
  have ht : t < d.size * K.size := by simpa using h1
  have hk : 0 < K.size := K.pos
  have hq : t / K.size < d.size := Nat.div_lt_of_lt_mul (by rw [Nat.mul_comm]; exact ht)
  have hr : t % K.size < K.size := Nat.mod_lt _ hk
  have e : t / K.size * K.size + t % K.size = t := by rw [Nat.mul_comm]; exact Nat.div_add_mod t K.size
  have hx : d.toList[t / K.size]? = some d[t / K.size]! := by rw [Array.getElem?_toList, getElem!_pos d _ hq, Array.getElem?_eq_getElem hq]
  have := K.row_get hx hr
  rw [e, List.getElem?_eq_getElem h2, List.getElem?_eq_getElem (by rw [K.len]; exact hr)] at this
  injection this with this
  rw [this]
  simp only [flatK, Array.toList_map, Array.toList_range, List.getElem_map, List.getElem_range]
  rw [getElem!_pos _ _ (by rw [K.len]; exact hr)]
variable {K}
theorem Own.holdsK {w : World} {base g n c : Nat} {l : List α} (h : K.Own w base (.slice (some ⟨g, 0, none⟩) n c) l) : HoldsK K.cells K.size w g 0 l.toArray ∧ (l ≠ [] → g < w.heap.size) := by
  rcases h.2 with ⟨h0, _⟩ | ⟨g', cap, cur, hv, hg, hb, hc, _, hz, ht⟩
  · cases h0
  · injection hv with hA
    injection hA with hA
    injection hA with hA
    subst hA
    refine ⟨fun j hj => ?_, fun _ => lt_of_block hb⟩
    have hj' : j < l.length * K.size := by simpa using hj
    refine ⟨?_, by simp [World.frozen?, hb]⟩
    rw [cell_of_row _ _ _ cur _ (0, 0) hb, ← Array.getElem?_toList, Nat.zero_add]
    have h1 : (cur.toList.take (l.length * K.size))[j]? = (K.row l)[j]? := by rw [ht]
    rw [List.getElem?_take_of_lt hj'] at h1
    have h2 := K.flat_row l.toArray
    rw [List.toList_toArray] at h2
    rw [h1, ← h2, Array.getElem?_toList, Array.getElem?_eq_getElem hj, getElem!_pos (flatK K.cells K.size l.toArray) j hj]
    rfl
theorem Own.sorted {w : World} {base g n c m : Nat} {l : List α} {os : Array Obj} (h : K.Own w base (.slice (some ⟨g, 0, none⟩) n c) l) (d : Array α) (hd : d.size = l.length) (hn : n = l.length) :
    K.Own (sortWorldK K.cells K.size w g 0 m d os) base (.slice (some ⟨g, 0, none⟩) n c) d.toList := by
  subst hn
  rcases h.2 with ⟨h0, _⟩ | ⟨g', cap, cur, hv, hg, hb, hc, hm, hz, ht⟩
  · cases h0
  · injection hv with hA h5 h6
    injection hA with hA
    injection hA with hA
    subst hA h6
    have e : d.toList.length = l.length := by rw [Array.length_toList, hd]
    refine ⟨by rw [K.row_len], .inr ⟨g, c, _, by rw [e], hg, heap_sortK d hb, by rw [e]; exact hc, hm, by simp [putCells, hz], ?_⟩⟩
    rw [e, ← K.flat_row, ← hd, ← size_flatK K.cells K.size d]
    refine take_putCells_id _ _ ?_
    rw [size_flatK, hz, hd]
    exact Nat.mul_le_mul_right _ hc
end Kind
theorem perm_of_permIn {α : Type} [Inhabited α] {l : List α} {d : Array α} (h : PermIn 0 l.toArray.size l.toArray d) : d.toList.Perm l := by
  obtain ⟨h1, _, h3⟩ := h
  rw [← h1, Array.extract_size, h1, Array.extract_size] at h3
  simpa using h3
theorem pairs_of_sortedIn {α : Type} [Inhabited α] {lt : α → α → Bool} {d : Array α} (h : SortedIn lt 0 d.size d) : d.toList.Pairwise fun a b => lt b a = false := by
  rw [List.pairwise_iff_getElem]
  intro i j hi hj hij
  have hi' : i < d.size := by simpa using hi
  have hj' : j < d.size := by simpa using hj
  have := h i j (Nat.zero_le _) hij hj'
  rw [getElem!_pos d i hi', getElem!_pos d j hj'] at this
  simpa using this
end Go.Proofs.Ytfjaklpddcafdaa

namespace Go.Proofs
open Go.Shelf
def Try.sortRg_ren : Go.Shelf.Ren := ⟨fun | 6 => 56 | 15 => 64 | 14 => 63 | 28 => 75 | 29 => 76 | 20 => 67 | 21 => 68 | 22 => 69 | 23 => 70 | 24 => 71 | 25 => 72 | 26 => 73 | 27 => 74 | 46 => 77 | 47 => 78 | 48 => 79 | 49 => 80 | 50 => 81 | 57 => 82 | n => n, fun | 22 => 41 | 24 => 56 | 25 => 69 | 3 => 3 | 39 => 63 | 0 => 0 | 53 => 88 | 55 => 90 | 4 => 4 | 46 => 82 | 45 => 81 | 50 => 36 | 5 => 5 | 9 => 9 | 66 => 91 | 70 => 95 | 76 => 97 | 77 => 98 | n => n, fun | n => n⟩
theorem Try.sortRg : Go.Proofs.SlLaysF0.n6 Try.prog Try.sortRg_ren := {
  mixed := by kernel_rfl
  f6 := ⟨Try.f56.name, by decide, Try.func56.trans (congrArg some (by kernel_rfl))⟩
  f14 := ⟨Try.f63.name, by decide, Try.func63.trans (congrArg some (by kernel_rfl))⟩
  f15 := Try.func64.trans (congrArg some (by kernel_rfl))
  f20 := ⟨Try.f67.name, by decide, Try.func67.trans (congrArg some (by kernel_rfl))⟩
  f21 := ⟨Try.f68.name, by decide, Try.func68.trans (congrArg some (by kernel_rfl))⟩
  f22 := ⟨Try.f69.name, by decide, Try.func69.trans (congrArg some (by kernel_rfl))⟩
  f23 := ⟨Try.f70.name, by decide, Try.func70.trans (congrArg some (by kernel_rfl))⟩
  f24 := ⟨Try.f71.name, by decide, Try.func71.trans (congrArg some (by kernel_rfl))⟩
  f25 := ⟨Try.f72.name, by decide, Try.func72.trans (congrArg some (by kernel_rfl))⟩
  f26 := ⟨Try.f73.name, by decide, Try.func73.trans (congrArg some (by kernel_rfl))⟩
  f27 := ⟨Try.f74.name, by decide, Try.func74.trans (congrArg some (by kernel_rfl))⟩
  f28 := Try.func75.trans (congrArg some (by kernel_rfl))
  f29 := Try.func76.trans (congrArg some (by kernel_rfl))
  f46 := ⟨Try.f77.name, by decide, Try.func77.trans (congrArg some (by kernel_rfl))⟩
  f47 := Try.func78.trans (congrArg some (by kernel_rfl))
  f48 := Try.func79.trans (congrArg some (by kernel_rfl))
  f49 := ⟨Try.f80.name, by decide, Try.func80.trans (congrArg some (by kernel_rfl))⟩
  f50 := ⟨Try.f81.name, by decide, Try.func81.trans (congrArg some (by kernel_rfl))⟩
  f57 := ⟨Try.f82.name, by decide, Try.func82.trans (congrArg some (by kernel_rfl))⟩
  t0 := Try.underlying0
  a0 := Try.isAgg0
  z0 := Try.sizeOf0
  v0 := Try.zeroValue0
  t3 := Try.underlying3
  a3 := Try.isAgg3
  z3 := Try.sizeOf3
  v3 := Try.zeroValue3
  t4 := Try.underlying4
  a4 := Try.isAgg4
  z4 := Try.sizeOf4
  v4 := Try.zeroValue4
  t5 := Try.underlying5
  a5 := Try.isAgg5
  z5 := Try.sizeOf5
  v5 := Try.zeroValue5
  t9 := Try.underlying9
  a9 := Try.isAgg9
  z9 := Try.sizeOf9
  v9 := Try.zeroValue9
  t22 := Try.underlying41
  a22 := Try.isAgg41
  z22 := Try.sizeOf41
  v22 := Try.zeroValue41
  t25 := Try.underlying69
  a25 := Try.isAgg69
  z25 := Try.sizeOf69
  v25 := Try.zeroValue69
  t39 := Try.underlying63
  a39 := Try.isAgg63
  z39 := Try.sizeOf63
  v39 := Try.zeroValue63
  t45 := Try.underlying81
  a45 := Try.isAgg81
  z45 := Try.sizeOf81
  v45 := Try.zeroValue81
  t46 := Try.underlying82
  a46 := Try.isAgg82
  z46 := Try.sizeOf82
  v46 := Try.zeroValue82
  t50 := Try.underlying36
  a50 := Try.isAgg36
  z50 := Try.sizeOf36
  v50 := Try.zeroValue36
  t53 := Try.underlying88
  a53 := Try.isAgg88
  z53 := Try.sizeOf88
  v53 := Try.zeroValue88
  t55 := Try.underlying90
  a55 := Try.isAgg90
  z55 := Try.sizeOf90
  v55 := Try.zeroValue90
  t66 := Try.underlying91
  a66 := Try.isAgg91
  z66 := Try.sizeOf91
  v66 := Try.zeroValue91
  t70 := Try.underlying95
  a70 := Try.isAgg95
  z70 := Try.sizeOf95
  v70 := Try.zeroValue95
  t76 := Try.underlying97
  a76 := Try.isAgg97
  z76 := Try.sizeOf97
  v76 := Try.zeroValue97
  t77 := Try.underlying98
  a77 := Try.isAgg98
  z77 := Try.sizeOf98
  v77 := Try.zeroValue98 }
end Go.Proofs

namespace Go.Proofs.Ytfjaklpddcafdaa
open Go.RowKit Go.Sort

instance : Inhabited Rng := ⟨zeroR⟩
def cmpLo (x y : Rng) : Int := Lib.compareBytes x.lo y.lo
theorem lt_cmpLo (x y : Rng) : ltOf cmpLo x y = ltB x.lo y.lo := by
  obtain ⟨v, hv, h1, _⟩ := cmp_test x.lo y.lo
  unfold ltOf cmpLo
  rw [hv]; exact h1
theorem swo_cmpLo : SWO (ltOf cmpLo) where
  irrefl x := by rw [lt_cmpLo]; exact ltB_irrefl _
  trans x y z h1 h2 := by rw [lt_cmpLo] at *; exact ltB_trans h1 h2
  ntrans x y z h1 h2 := by rw [lt_cmpLo] at *; exact leB_trans h2 h1
theorem rgs_closure (x y : Rng) (W : World) : Calls Try.prog 57 #[.agg (rngCells x).toArray, .agg (rngCells y).toArray] W fun e w' => e = .returned (.int .i64 (cmpLo x y)) ∧ ∃ q os', w' = grow (W.drewN q) os' := by
  have C := fun w => Lib.hid (cmp_is x.lo y.lo _ _ rfl rfl (cmpLo x y) rfl w)
  unfold rngCells
  generalize cmpLo x y = v at C ⊢
  go_enter Try.func57, Try.ntmps57
  go_wp2_with ((with_reducible refine (C _).out.mono ?_); rintro e w' ⟨rfl, rfl⟩)
  go_ret
  exact ⟨rfl, 0, _, by rw [alloc_eq_grow, alloc_eq_grow, grow_grow]; rfl⟩
theorem rgs_sort (v : Value) (f : List Rng) (base : Nat) (w : World) (h : kRng.Own w base v f) (hf : f.length ≤ 1000000) (hb : base ≤ w.heap.size) :
    Calls Try.prog 56 #[v, .func (.func 57) #[] #[]] w fun e w' => e = .returned (.tuple #[]) ∧ ∃ m, m.Perm f ∧ SortedL m ∧ kRng.Own w' base v m ∧ Below base w w' := by
  by_cases h0 : f = []
  · subst h0
    obtain ⟨A, c, rfl, _⟩ := h.form
    have K := AnyF.slices_SortFunc_none (P := Try.prog) (ρ := Try.sortRg_ren) { Try.sortRg with } A c (.func (.func 57) #[] #[]) w
    refine Calls.mono K ?_
    rintro e w' ⟨rfl, rfl⟩
    exact ⟨rfl, [], List.Perm.refl _, List.Pairwise.nil, h, Below.refl _ _⟩
  · have hp : 0 < f.length := List.length_pos_iff.2 h0
    obtain ⟨g, c, rfl, hc, hg, hgl, _, _⟩ := h.some_ rfl hp
    have hH := h.holdsK.1
    have eg : ∀ args w, (callFunc 57 args).run Try.prog w = .ok (.enter 57 args) w := enters_of Try.func57 (by kernel_rfl) rfl
    have K := AnyQ.slices_SortFunc Try.sortRg 3 Try.isAgg56 Try.sizeOf56 rngCells (fun _ => rfl) kRng.one cmpLo swo_cmpLo 57 #[] g 0 c f.toArray w eg (fun _ _ _ _ x y => rgs_closure x y _) hH hgl (by rw [List.size_toArray]; omega)
    rw [List.size_toArray] at K
    refine Calls.mono K ?_
    rintro e w' ⟨rfl, d, n, os, hpm, hst, rfl⟩
    have hd : d.size = f.length := by have := hpm.1; rwa [List.size_toArray] at this
    have hst2 := pairs_of_sortedIn (lt := ltOf cmpLo) (d := d) (by rw [hd]; exact hst)
    refine ⟨rfl, d.toList, perm_of_permIn (by rw [List.size_toArray]; exact hpm), ?_, h.sorted d hd rfl, (Below.refl _ _).grown (grown_sortK d) hb (fun j hj => by injection hj with hj; subst hj; exact hg)⟩
    unfold SortedL
    exact hst2.imp fun {a b} hab => by rw [← lt_cmpLo]; exact hab
theorem filter_next {l : List Rng} {k : Nat} {r : Rng} (h : l[k]? = some r) : (l.take (k + 1)).filter rightR = (l.take k).filter rightR ++ (match rightR r with | true => [r] | false => []) := by
  rw [List.take_add_one, h, List.filter_append]
  cases hr : rightR r <;> simp [hr]
set_option maxHeartbeats 1000000 in
theorem rgs_byBeginning (A : Option Addr) (c n : Nat) (l : List Rng) (hn : n = l.length) (hnl : n ≤ 100000) (w : World) (hr : kRng.Rd w w.heap.size A c l) :
    Calls Try.prog 45 #[.slice A n c] w fun e w' => ∃ m, m.Perm (l.filter rightR) ∧ SortedL m ∧ RetR w m e w' := by
  have HN := Lib.hid hn
  have HR := Lib.hid hr
  have hcx : n ≤ c := by rw [hn]; exact hr.room
  clear hn hr
  go_enter Try.func45, Try.ntmps45
  go_wp2_with fail
  go_loopw [3, 8] (fun v i wr => ∃ k : Nat, k ≤ n ∧ Hid (kRng.Own wr w.heap.size v ((l.take k).filter rightR)) ∧ i = .int .i64 k ∧ Below w.heap.size w wr) (fun _ i _ => n - (intOf i).toNat)
  case atStart => exact ⟨0, by omega, Kind.Own.nil _ _, rfl, Below.refl _ _⟩
  case round =>
    obtain ⟨k, hk, HO, rfl, hb⟩ := hrel
    have hol : ((l.take k).filter rightR).length ≤ k := Nat.le_trans (List.length_filter_le _ _) (by rw [List.length_take]; omega)
    by_cases hlt : k < n
    · obtain ⟨r, hg, hd, -⟩ := get_some (l := l) (k := k) (by have := HN.out; omega)
      obtain ⟨b, o, rfl, hb1, hcell⟩ := rngs_at (HR.out.below hb) (by have := HN.out; omega)
      obtain ⟨c0, c1, c2⟩ := hcell k r hg
      obtain ⟨d, hdv⟩ : ∃ d, rightR r = d := ⟨_, rfl⟩
      have C := fun w => Lib.hid (span_right r _ _ _ d (IsR.mk' r) hdv w)
      have HF := Lib.hid (filter_next hg)
      rw [hdv] at HF
      have hb2 := Nat.lt_of_lt_of_le hb1 hb.size
      have HRW := fun w => Lib.hid (rng_row w r 1 rfl).row
      have HG := Lib.hid (rgAt_new wr (str r.lo) (str r.hi) r.op 56)
      obtain ⟨X, hX⟩ : ∃ X, [r] = X := ⟨_, rfl⟩
      have HX := Lib.hid hX
      have hX1 : X.length = 1 := by rw [← hX]; rfl
      rw [hX] at HRW
      have HLE := Lib.hid (show ((l.take k).filter rightR).length + X.length ≤ 1000000 by rw [hX1]; omega)
      have HX1 := Lib.hid hX1.symm
      clear hcell hg hd hdv hX hX1
      obtain ⟨S, hS⟩ : ∃ S, str r.lo = S := ⟨_, rfl⟩
      obtain ⟨T, hT⟩ : ∃ T, str r.hi = T := ⟨_, rfl⟩
      obtain ⟨q, hq⟩ : ∃ q, r.op = q := ⟨_, rfl⟩
      rw [hS, hT, hq] at C HG HRW
      rw [hS] at c0
      rw [hT] at c1
      rw [hq] at c2
      clear hS hT hq
      have HB1 := Lib.hid (hb.alloc hb.size (.cells #[.string S, .string T, .bool q] 56))
      have HO1 := Lib.hid (HO.out.alloc (.cells #[.string S, .string T, .bool q] 56))
      cases d
      · go_wp2_with ((with_reducible refine (C _).out.mono ?_); rintro e w2 ⟨rfl, hq⟩; have HB2 := Lib.hid (HB1.out.trans (hq.mono HB1.out.size)); have HO2 := Lib.hid (HO1.out.below hq); clear hq)
        go_roundw
        case rel => exact ⟨k + 1, by omega, by have := HO2.out; rw [← List.append_nil (List.filter _ _), ← HF.out] at this; exact this, by go_num, HB2.out⟩
        case measure => simp [intOf]; omega
      · go_wp2_with (first
          | ((with_reducible refine (C _).out.mono ?_); rintro e w2 ⟨rfl, hq⟩; have HB2 := Lib.hid (HB1.out.trans (hq.mono HB1.out.size)); have HO2 := Lib.hid (HO1.out.below hq); obtain ⟨g0, g1, g2, g3⟩ := HG.out.below hq; clear hq)
          | (at_builtin; refine wpList_app_k kRng rfl (.tmp 14) (.tmp 16) rfl w.heap.size _ _ rfl (Kind.Own.alloc HO2.out _) _ (some ⟨w2.heap.size, 0, none⟩) 1 1 X HX1.out rfl (HRW w2).out HLE.out (by decide) (le_alloc (HB2.out.size) _) ?_; intro v3 w3 hown3 hg3 hb3 _; have HO3 := Lib.hid hown3; have HB3 := Lib.hid ((HB2.out.alloc HB2.out.size _).trans hb3); clear hown3 hb3 hg3))
        go_roundw
        case rel => exact ⟨k + 1, by omega, by have := HO3.out; rw [← HX.out, ← HF.out] at this; exact this, by go_num, HB3.out⟩
        case measure => simp [intOf]; omega
    · have hkn : l.take k = l := List.take_of_length_le (by have := HN.out; omega)
      rw [hkn] at HO hol
      have C := Lib.hid (rgs_sort _ _ _ wr HO.out (by omega) hb.size)
      have HOF := HO
      clear HO hkn
      go_wp2_with ((with_reducible refine C.out.mono ?_); rintro e w2 ⟨rfl, m, hm1, hm2, hm3, hm4⟩; have H1 := Lib.hid hm1; have H2 := Lib.hid hm2; have H3 := Lib.hid hm3; have H4 := Lib.hid (hb.trans hm4); clear hm1 hm2 hm3 hm4)
      go_ret
      obtain ⟨A5, c5, he, hrd⟩ := H3.out.form
      exact ⟨m, H1.out, H2.out, A5, c5, by rw [he]; rfl, hrd, H4.out⟩
end Go.Proofs.Ytfjaklpddcafdaa
