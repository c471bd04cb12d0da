/-
  Several texts in one: FltM, FltN, Law09B, Law09C, Law09D, Law09H.
-/
import Derived.Lib.AppendZeros
import Derived.Deep.RegionLaw
import Derived.Deep.CutRange
import Derived.Test.YtbobgkepnocenaaMg6
/-
  Layer 9 (filter), the program: lists of nodes, one behind the other.
-/
namespace Go.Proofs.Ytbobgkepnocenaa
open Go.RowKit

set_option maxHeartbeats 4000000 in
set_option maxRecDepth 100000 in
theorem grow_nodes (n : Nat) (hn9 : n ≤ 200000) (w : World) :
    Calls Try.prog 73 #[.slice none 0 0, .int .i64 (n : Int)] w fun e w' => ∃ v, e = .returned v ∧ kNd.Own w' w.heap.size v [] ∧ Below w.heap.size w w' := by
  obtain ⟨i0, hi0, hz0, hz1, hz2⟩ := info_parts kNd.info
  have h1 : ¬ ((n : Int) < 0) := by omega
  by_cases h0 : n = 0
  · subst h0
    have fin : Hid (∃ v, (Ending.returned (.slice none 0 0) : Ending) = .returned v ∧ kNd.Own w w.heap.size v [] ∧ Below w.heap.size w w) := Lib.hid ⟨_, rfl, Kind.Own.nil _ _, Below.refl _ _⟩
    clear hi0 hz0 hz1 hz2
    go_enter Try.func73, Try.ntmps73
    go_wp2
    go_ret
    exact fin.out
  · have h4 : (n : Int) > 0 := by omega
    have hz2' : i0.bytes = 48 := hz2
    have hz1' : i0.size = 4 := hz1
    have hrz : ∀ ty, (Builtin.append_ #[22, 3] ty #[.slice none 0 0, .int .i64 (n : Int)]).run Try.prog w =
        .ok (.slice (some ⟨w.heap.size, 0, none⟩) n (grownCap w n 0 33)) (w.drew.alloc (.cells (Builtin.zeroCells kNd.zero.cells n ++ Builtin.zeroCells kNd.zero.cells (grownCap w n 0 33 - n)) 33)) := fun ty =>
      Lib.run_append_nil_zeros w 22 3 ty 33 i0 kNd.zero .i64 .i64 kNd.under Try.underlying3 hi0 hz0 n (by omega) (by omega) (by omega) (by rw [hz2']; omega)
    have hGn : n ≤ grownCap w n 0 33 := grownCap_ge w _ _ _
    have hGm : grownCap w n 0 33 ≤ maxLen := grownCap_le_maxLen w n 0 33 (by unfold maxLen; omega)
    obtain ⟨G, hG⟩ : ∃ G, G = grownCap w n 0 33 := ⟨_, rfl⟩
    rw [← hG] at hrz hGn hGm
    have hG63 : G ≤ 9223372036854775807 := by unfold maxLen at hGm; omega
    have K1 : ∀ W : World, (Instr.slice 22 (.slice none 0 0) none (some (.int .i64 0)) none).run Try.prog W = .ok (.slice none 0 0) W := fun W => by kernel_rfl
    have K2 : ∀ W : World, (Instr.slice 22 (.slice (some ⟨w.heap.size, 0, none⟩) n G) none (some (.int .i64 0)) none).run Try.prog W = .ok (.slice (some ⟨w.heap.size, 0, none⟩) 0 G) W := fun W => by
      have ht' : Try.prog.underlying 22 = some (.slice (Try.prog.elem 22)) := by simp [Program.elem, Try.underlying22]
      have hs : ∀ w, (sizeOf (Try.prog.elem 22)).run Try.prog w = .ok 4 w := fun w => by kernel_rfl
      rw [run_slice_h W 22 _ _ _ ht' .i64 _ (by omega) (by omega), hs]
      simp [Result.andThen, sliced, Addr.add]
    have zc (k : Nat) : (Builtin.zeroCells kNd.zero.cells k).size = k * 4 := size_zeroCells _ _
    obtain ⟨w2, hw2⟩ : ∃ w2, w2 = w.drew.alloc (.cells (Builtin.zeroCells kNd.zero.cells n ++ Builtin.zeroCells kNd.zero.cells (G - n)) 33) := ⟨_, rfl⟩
    rw [← hw2] at hrz
    have fin : Hid (∃ v, (Ending.returned (.slice (some ⟨w.heap.size, 0, none⟩) 0 G) : Ending) = .returned v ∧ kNd.Own w2 w.heap.size v [] ∧ Below w.heap.size w w2) := by
      rw [hw2]
      refine ⟨_, rfl, ?_, ((Below.refl w.heap.size w).drew).alloc (Nat.le_refl _) _⟩
      refine Kind.Own.of_row (n := 0) ⟨by simp [Kind.row], .inr ⟨w.heap.size, G, _, rfl, Nat.le_refl _, heap_new w.drew _ _ rfl, by omega, hGm, ?_, ?_⟩⟩
      · rw [Array.size_append, zc, zc]
        show n * 4 + (G - n) * 4 = G * 4
        omega
      · simp [Kind.row]
    clear hG hGm zc hz0 hz1 hz2 hi0 hw2 hz1' hz2'
    go_enter Try.func73, Try.ntmps73
    go_wp2_with (at_builtin; refine Lib.wpList_append_run _ rfl _ _ _ _ rfl _ _ rfl rfl _ _ (hrz _) ?_)
    go_ret
    exact fin.out
theorem flat_len {ls : List (List Nd)} (h : ∀ l ∈ ls, l.length ≤ 1000) (k : Nat) : (ls.take k).flatten.length ≤ k * 1000 := by
  induction k generalizing ls with
  | zero => simp
  | succ k ih =>
    cases ls with
    | nil => simp
    | cons l ls =>
      have h1 := ih (ls := ls) fun m hm => h m (List.mem_cons_of_mem _ hm)
      have h2 := h l (List.mem_cons_self ..)
      rw [List.take_succ_cons, List.flatten_cons, List.length_append]
      omega
theorem take_flat {ls : List (List Nd)} {k : Nat} {l : List Nd} (h : ls[k]? = some l) : (ls.take (k + 1)).flatten = (ls.take k).flatten ++ l := by
  rw [List.take_add_one, h, List.flatten_append]; simp
theorem slices_at {w : World} {B : Nat} {A : Option Addr} {c : Nat} {ls : List (List Nd)} (h : RdLL w B A c ls) {k : Nat} {l : List Nd} (hl : ls[k]? = some l) :
    ∃ b o A1 n1 c1, A = some ⟨b, o, none⟩ ∧ b < B ∧ w.cell? ⟨b, o + k, none⟩ = some (.slice A1 n1 c1) ∧ n1 = l.length ∧ kNd.Rd w B A1 c1 l := by
  obtain ⟨sl, h1, h2, h3⟩ := h
  have hk : k < ls.length := (List.getElem?_eq_some_iff.1 hl).1
  have hs : sl[k]? = some sl[k] := List.getElem?_eq_getElem (by omega)
  obtain ⟨b, o, e1, e2, e3⟩ := h1.at_ (by omega)
  obtain ⟨h4, h5⟩ := h3 k _ l hs hl
  have h6 := e3 k _ hs 0 _ rfl
  rw [show kSl.size = 1 from rfl, Nat.mul_one, Nat.add_zero] at h6
  exact ⟨b, o, _, _, _, e1, e2, h6, h4, h5⟩
theorem RdLL.room {w : World} {B : Nat} {A : Option Addr} {c : Nat} {ls : List (List Nd)} (h : RdLL w B A c ls) : ls.length ≤ c := by
  obtain ⟨sl, h1, h2, _⟩ := h
  rw [← h2]; exact h1.room
set_option maxHeartbeats 4000000 in
set_option maxRecDepth 100000 in
theorem concat_nodes (A : Option Addr) (c m : Nat) (ls : List (List Nd)) (hm : m = ls.length) (h9 : m ≤ 100) (hl : ∀ l ∈ ls, l.length ≤ 1000) (w : World) (hr : RdLL w w.heap.size A c ls) :
    Calls Try.prog 63 #[.slice A m c] w fun e w' => ∃ v, e = .returned v ∧ kNd.Own w' w.heap.size v ls.flatten ∧ Below w.heap.size w w' := by
  have HM := Lib.hid hm
  have HR := Lib.hid hr
  have HL := Lib.hid hl
  have hmc : m ≤ c := by rw [hm]; exact hr.room
  clear hm hr hl
  go_enter Try.func63, Try.ntmps63
  go_wp2_with fail
  go_loop [3, 11] (fun s i => ∃ k t : Nat, k ≤ m ∧ Hid (t = (ls.take k).flatten.length) ∧ t ≤ k * 1000 ∧ s = .int .i64 t ∧ i = .int .i64 k) (fun _ i => m - (intOf i).toNat)
  case atStart => exact ⟨0, 0, by omega, rfl, by omega, rfl, rfl⟩
  case round =>
    obtain ⟨k, t, hk, HT, ht, rfl, rfl⟩ := hrel
    by_cases hlt : k < m
    · obtain ⟨l, hg, hd, hlm⟩ := get_some (l := ls) (k := k) (by have := HM.out; omega)
      obtain ⟨b, o, A1, n1, c1, rfl, hb1, c0, hn1, -⟩ := slices_at HR.out hg
      have HT2 := Lib.hid (show t + n1 = (ls.take (k + 1)).flatten.length by rw [take_flat hg, List.length_append, ← HT.out, hn1])
      have hn9 : n1 ≤ 1000 := by rw [hn1]; exact HL.out l hlm
      have t1 : decide (((t + n1 : Nat) : Int) < 0) = false := decide_eq_false (by omega)
      have t2 : decide ((t : Int) + (n1 : Int) < 0) = false := decide_eq_false (by omega)
      clear hg hd hlm hn1 HT
      go_wp2_with fail
      go_round
      case rel => exact ⟨k + 1, t + n1, by omega, HT2, by omega, by go_num, by go_num⟩
      case measure => simp [intOf]; omega
    · obtain rfl : k = m := by omega
      have ht9 : t ≤ 200000 := by omega
      have G := Lib.hid (grow_nodes t ht9 w)
      clear hlt HT
      go_wp2_with ((with_reducible refine G.out.mono ?_); rintro e w1 ⟨v, rfl, hown, hq⟩; have HO := Lib.hid hown; have HB := Lib.hid hq; clear hown hq)
      go_loopw [6, 27] (fun v i wr => ∃ j : Nat, j ≤ k ∧ Hid (kNd.Own wr w.heap.size v (ls.take j).flatten) ∧ i = .int .i64 j ∧ Hid (Below w.heap.size w wr)) (fun _ i _ => k - (intOf i).toNat)
      case atStart => exact ⟨0, by omega, HO.out, rfl, HB.out⟩
      case round =>
        obtain ⟨j, hj, HO, rfl, HB⟩ := hrel
        obtain ⟨N, hN⟩ : ∃ N, (ls.take j).flatten.length = N := ⟨_, rfl⟩
        obtain ⟨A4, c4, rfl, -⟩ := HO.out.read_n hN.symm
        have HNN := Lib.hid hN
        clear hN
        by_cases hlt : j < k
        · obtain ⟨l, hg, hd, hlm⟩ := get_some (l := ls) (k := j) (by have := HM.out; omega)
          obtain ⟨b, o, A1, n1, c1, rfl, hb1, c0, hn1, hrd⟩ := slices_at (HR.out.call HB.out) hg
          have HX := Lib.hid (take_flat hg)
          have HRW := Lib.hid (And.intro hn1 hrd.row)
          have HLE := Lib.hid (show (ls.take j).flatten.length + l.length ≤ 1000000 by
            have h1 := flat_len HL.out j
            have h2 := HL.out l hlm
            omega)
          have hs := HB.out.size
          clear hg hd hlm hn1 hrd
          go_wp2_with (at_builtin; refine wpList_app_k kNd rfl (.tmp 31) (.tmp 32) rfl w.heap.size _ _ rfl HO.out _ A1 c1 n1 l HRW.out.1 rfl HRW.out.2 HLE.out (by decide) hs ?_; intro v3 w3 hown3 hg3 hb3 _; have HO3 := Lib.hid hown3; have HB3 := Lib.hid (HB.out.trans hb3); clear hown3 hb3 hg3)
          go_roundw
          case rel => exact ⟨j + 1, by omega, by rw [HX.out]; exact HO3, by go_num, HB3⟩
          case measure => simp [intOf]; omega
        · obtain rfl : j = k := by omega
          have HF := Lib.hid (show (ls.take j).flatten = ls.flatten by rw [List.take_of_length_le (by have := HM.out; omega)])
          go_wp2_with fail
          go_ret
          exact ⟨_, rfl, by rw [← HF.out]; exact HO.out, HB.out⟩
end Go.Proofs.Ytbobgkepnocenaa

/-
  Layer 9 (filter), the program: what is built of lists of nodes.
-/
namespace Go.Proofs.Ytbobgkepnocenaa
open Go.RowKit

theorem step_app_k {P : Program} {α : Type} (k : Kind P α) {ops : Array Oper} {w : World} {o : Oper} {a : Act} {K : Act → World → Prop} {Q : Exit → Act → World → Prop} {E : Prop} (hgd : o.guard = none) (s x : Operand)
    (ho : o.op = .call { callee := .builtin .append, args := #[s, x], argTypes := #[k.ty, k.ty] })
    (base : Nat) (v : Value) (xs : List α) (hs : a.eval s = v) (hown : k.Own w base v xs)
    (B : Nat) (A : Option Addr) (c n : Nat) (ys : List α) (hn : n = ys.length) (hx : a.eval x = .slice A n c) (hr : RowAt w B A (k.row ys)) (hlen : xs.length + ys.length ≤ 1000000) (hby : k.bytes ≤ 1000) (hbase : base ≤ w.heap.size)
    (h : ∀ v' w', k.Own w' base v' (xs ++ ys) → w.grownBy w' v.ownBlock → Below base w w' → (v'.ownBlock = v.ownBlock ∨ v'.ownBlock = some w.heap.size) → K (a.put o.dst v') w') :
    if Region.wanted o (yielded ops a.tmps) = true then Oper.wp P o a w K Q else E := by
  rw [if_pos (by simp [Region.wanted, hgd])]
  exact op_app_k k s x ho base v xs hs hown B A c n ys hn hx hr hlen hby hbase h
theorem nd_row (W : World) (n : Nd) (O Q : Int) (S T : ByteArray) (h : n.op = O ∧ n.kids = Q ∧ str n.lo = S ∧ str n.hi = T) :
    RowAt (W.alloc (.cells #[.int .i64 O, .int .i64 Q, .string S, .string T] 33)) (W.heap.size + 1) (some ⟨W.heap.size, 0, none⟩) (kNd.row [n]) := by
  obtain ⟨rfl, rfl, rfl, rfl⟩ := h
  exact (Kind.rd_new (k := kNd) (l := [n]) (n := 1) (by rw [kNd.row_one]; rfl) rfl (by simp)).row
theorem rdLL_one {w : World} {A : Option Addr} {c n : Nat} {a : List Nd} (hn : n = a.length) (ha : kNd.Rd w w.heap.size A c a) :
    RdLL (w.alloc (.cells #[.slice A n c] 22)) (w.alloc (.cells #[.slice A n c] 22)).heap.size (some ⟨w.heap.size, 0, none⟩) 1 [a] := by
  refine ⟨[⟨A, n, c⟩], ?_, rfl, fun i s l hs hl => ?_⟩
  · rw [size1]
    exact Kind.rd_new (k := kSl) (l := [⟨A, n, c⟩]) rfl rfl (by simp)
  · match i with
    | 0 => injection hs with hs; injection hl with hl; subst hs hl; exact ⟨hn, ha.call (below_new _ _)⟩
    | i + 1 => cases hs
theorem rdLL_nil (w : World) (B : Nat) : RdLL w B none 0 [] := ⟨[], Kind.Rd.nil _ _, rfl, fun i s l hs _ => by cases hs⟩
set_option maxHeartbeats 4000000 in
theorem flt_over (O Q : Int) (lo hi : List UInt8) (S T : ByteArray) (hS : str lo = S) (hT : str hi = T) (A : Option Addr) (c m : Nat) (ls : List (List Nd)) (hm : m = ls.length) (h9 : m ≤ 100) (hl : ∀ l ∈ ls, l.length ≤ 1000) (N : Nat) (hN : (ls.flatten ++ [(⟨O, (m : Int), lo, hi⟩ : Nd)]).length = N) (w : World) (hr : RdLL w w.heap.size A c ls) :
    Calls Try.prog 44 #[.agg #[.int .i64 O, .int .i64 Q, .string S, .string T], .slice A m c] w (RetN w N (ls.flatten ++ [⟨O, (m : Int), lo, hi⟩])) := by
  have CC := fun (W : World) (h : Below w.heap.size w W) => Lib.hid (concat_nodes A c m ls hm h9 hl W (hr.call h))
  have HRW := fun W : World => Lib.hid (nd_row W ⟨O, (m : Int), lo, hi⟩ O (m : Int) S T ⟨rfl, rfl, hS, hT⟩)
  have HLE := Lib.hid (show ls.flatten.length + [(⟨O, (m : Int), lo, hi⟩ : Nd)].length ≤ 1000000 by
    have h1 := flat_len hl m
    rw [hm, List.take_length] at h1
    simp only [List.length_singleton]
    omega)
  have HN := Lib.hid hN
  have hmc : m ≤ c := by rw [hm]; exact hr.room
  have HB := Lib.hid (below_new w (.cells #[.int .i64 O, .int .i64 (m : Int), .string S, .string T] 33))
  have HB2 := Lib.hid (HB.out.alloc HB.out.size (.cells #[.int .i64 O, .int .i64 (m : Int), .string S, .string T] 33))
  have HR2 := Lib.hid (HRW (w.alloc (.cells #[.int .i64 O, .int .i64 (m : Int), .string S, .string T] 33))).out
  rw [size1] at HR2
  clear hm hl hN hr hS hT
  go_enter Try.func44, Try.ntmps44
  go_upto_region 2 with fail
  go_region_law (first
    | (refine step_app_k kNd rfl (.tmp 9) (.tmp 11) rfl w.heap.size _ ls.flatten rfl (Kind.Own.alloc HO9.out _) _ (some ⟨w9.heap.size, 0, none⟩) 1 1 [⟨O, (m : Int), lo, hi⟩] rfl rfl (HRW w9).out HLE.out (by decide) (le_alloc HB9.out.size _) ?_; intro v3 w3 hown3 hg3 hb3 _; obtain ⟨A3, c3, rfl, hrd⟩ := hown3.read_n HN.out.symm; have HF := Lib.hid (show RetN w N _ (.returned (.slice A3 N c3)) w3 from ⟨A3, c3, rfl, hrd, (HB9.out.alloc HB9.out.size _).trans hb3⟩); clear hown3 hg3 hb3 hrd)
    | (refine step_app_k kNd rfl (.tmp 9) (.tmp 11) rfl w.heap.size _ ls.flatten rfl HO9.out _ (some ⟨w.heap.size + 1, 0, none⟩) 1 1 [⟨O, (m : Int), lo, hi⟩] rfl rfl HR9.out HLE.out (by decide) HB9.out.size ?_; intro v3 w3 hown3 hg3 hb3 _; obtain ⟨A3, c3, rfl, hrd⟩ := hown3.read_n HN.out.symm; have HF := Lib.hid (show RetN w N _ (.returned (.slice A3 N c3)) w3 from ⟨A3, c3, rfl, hrd, HB9.out.trans hb3⟩); clear hown3 hg3 hb3 hrd)
    | (go_simp; (with_reducible refine (CC _ HB.out.drew).out.mono ?_); rintro e w9 ⟨v9, rfl, hown, hq⟩; have HO9 := Lib.hid (hown.mono (base' := w.heap.size) (by simp)); obtain ⟨hc9, hf9⟩ := bcell hq; have HB9 := Lib.hid (HB.out.drew.trans (hq.mono (by simp))); clear hown hq)
    | (go_simp; (with_reducible refine (CC _ HB2.out.drew).out.mono ?_); rintro e w9 ⟨v9, rfl, hown, hq⟩; have HO9 := Lib.hid (hown.mono (base' := w.heap.size) (by simp; omega)); have HR9 := Lib.hid (RowAt.below HR2.out ((Below.refl _ _).drew.trans (hq.mono (by simp)))); have HB9 := Lib.hid (HB2.out.drew.trans (hq.mono (by simp; omega))); clear hown hq))
  all_goals
    go_wp2_with fail
    go_ret
    exact HF.out
end Go.Proofs.Ytbobgkepnocenaa

/-
  The laws of layer 9: FilterMatches.
-/
namespace Go.Proofs.Ytbobgkepnocenaa
open Go.RowKit

theorem nlong_is (most : Nat) (A : Option Addr) (c n : Nat) (x : Int) (hx : (most : Int) = x) (l : List Nd) (hn : n = l.length) (hm : most ≤ 1000) (v : Bool) (hv : longN most l = v) (w : World) (hr : kNd.Rd w w.heap.size A c l) :
    Calls Try.prog 8 #[.slice A n c, .int .i64 x] w fun e w' => e = .returned (.bool v) ∧ w = w' := by
  subst hx
  exact ref_nlong A c n most l hn hm v hv w hr
theorem longN_small {most : Nat} {l : List Nd} (h : longN most l = false) : SmallN most l := by
  unfold longN at h
  simp only [Bool.or_eq_false_iff, decide_eq_false_iff_not, List.any_eq_false, Bool.or_eq_true, decide_eq_true_eq, not_or] at h
  exact ⟨by omega, fun r hr => by have := h.2 r hr; omega⟩
theorem SmallN.mono {n m : Nat} {l : List Nd} (h : SmallN n l) (hm : n ≤ m) : SmallN m l := ⟨Nat.le_trans h.1 hm, h.2⟩
theorem rsame_is (A B : Option Addr) (c d n : Nat) (a : List Rng) (hn : a.length = n) (w : World) (ha : kRng.Rd w w.heap.size A c a) (hb : kRng.Rd w w.heap.size B d a) :
    Calls Try.prog 14 #[.slice A n c, .slice B n d] w fun e w' => e = .returned (.bool true) ∧ Below w.heap.size w w' :=
  (ref_same A B c d n n a a hn.symm hn.symm true (sameL_iff.2 rfl) w ha hb).mono fun _ _ ⟨h1, _, h2⟩ => ⟨h1, below_quiet h2⟩
set_option maxRecDepth 100000 in
set_option maxHeartbeats 4000000 in
theorem filterMatches_walk (HP : NLeaf1C 23 preN) (HNT : NNotC 20) (HAN : NJoinC 18 andV) (HRG : NRangesC 9) (HRT : NRightC 10) (HMT : NMatchC 12)
    (A : Option Addr) (c n : Nat) (l : List Nd) (s : List UInt8) (hn : n = l.length) (w : World) (ha : kNd.Rd w w.heap.size A c l) :
    Calls Try.prog 3 #[.slice A n c, .string (str s)] w fun e w' => e = .returned (.bool true) ∧ Below w.heap.size w w' := by
  have A0 := fun w => Lib.hid (awake09 HP HNT HAN HRG HRT HMT w)
  obtain ⟨va, hva⟩ : ∃ v, longN 40 l = v := ⟨_, rfl⟩
  have La := fun w hr => Lib.hid (nlong_is 40 A c n 40 rfl l hn (by omega) va hva w hr)
  have HA := Lib.hid ha
  have HW := Lib.hid (Below.refl w.heap.size w)
  have hzU : (str s).size = s.length := str_size s
  obtain ⟨U, hU⟩ : ∃ U, str s = U := ⟨_, rfl⟩
  rw [hU] at hzU ⊢
  cases va
  case true =>
    clear HP HNT HAN HRG HRT HMT hva hn ha hU hzU
    go_enter Try.func3, Try.ntmps3
    go_wp2_with (first
      | ((with_reducible refine (A0 _).out.mono ?_); rintro e w9 ⟨rfl, hq⟩; replace HW := Lib.hid (HW.out.trans (hq.mono HW.out.size)); replace HA := Lib.hid (HA.out.call hq); clear hq)
      | ((with_reducible refine (La _ HA.out).out.mono ?_); rintro e w9 ⟨rfl, rfl⟩))
    go_ret
    exact ⟨rfl, HW.out⟩
  case false =>
    by_cases hs : U.size ≤ 300
    · have hsm := longN_small hva
      have hs1 : s.length ≤ 300 := by omega
      obtain ⟨v1, hv1⟩ : ∃ v, rightN l = v := ⟨_, rfl⟩
      obtain ⟨v2, hv2⟩ : ∃ v, matchN l s = v := ⟨_, rfl⟩
      obtain ⟨M, hM⟩ : ∃ M, rangesN l = M := ⟨_, rfl⟩
      obtain ⟨N, hN⟩ : ∃ N, M.length = N := ⟨_, rfl⟩
      have hMN : (rangesN l).length = N := by rw [hM, hN]
      have hH : hasL M s = v2 := by rw [← hM, (rangesN_ok l).2, hv2]
      have n9 : n ≤ 100000 := by have := hsm.1; omega
      have G1 := fun w hr => Lib.hid ((HRG A c n l hn (hsm.mono (by omega)) w hr).mono fun e w' h => RetR.named h hMN)
      have G2 := fun w hr => Lib.hid ((ref_nranges A c n l hn n9 (fun r hr => by have := hsm.2 r hr; omega) w hr).mono fun e w' h => RetR.named h hMN)
      rw [hM] at G1 G2
      have T1 := fun w hr => Lib.hid (HRT A c n l hn (hsm.mono (by omega)) v1 hv1 w hr)
      have T2 := fun w hr => Lib.hid (ref_nright A c n l hn n9 v1 hv1 w hr)
      have M1 := fun w hr => Lib.hid (HMT A c n l s U hU hn (hsm.mono (by omega)) (by omega) v2 hv2 w hr)
      have M2 := fun w hr => Lib.hid (ref_nmatch A c n l s U hU (by omega) hn n9 v2 hv2 w hr)
      have SM := fun B1 B2 d1 d2 w h1 h2 => Lib.hid (rsame_is B1 B2 d1 d2 N M hN w h1 h2)
      have HS := fun B1 d1 w h1 => Lib.hid (ref_lhas B1 d1 N M s U hN.symm hU (by omega) v2 hH w h1)
      clear HP HNT HAN HRG HRT HMT hva hn ha hU hzU hsm hs1 hv1 hv2 hM hN hMN hH n9
      go_enter Try.func3, Try.ntmps3
      go_wp2_with (first
        | ((with_reducible refine (A0 _).out.mono ?_); rintro e w9 ⟨rfl, hq⟩; replace HW := Lib.hid (HW.out.trans (hq.mono HW.out.size)); replace HA := Lib.hid (HA.out.call hq); clear hq)
        | ((with_reducible refine (La _ HA.out).out.mono ?_); rintro e w9 ⟨rfl, rfl⟩)
        | ((with_reducible refine (G1 _ HA.out).out.mono ?_); rintro e w9 ⟨B1, d1, rfl, hrd, hq⟩; replace HW := Lib.hid (HW.out.trans (hq.mono HW.out.size)); replace HA := Lib.hid (HA.out.call hq); have H1 := Lib.hid hrd; clear hrd hq)
        | ((with_reducible refine (T1 _ HA.out).out.mono ?_); rintro e w9 ⟨rfl, hq⟩; replace HW := Lib.hid (HW.out.trans (hq.mono HW.out.size)); replace HA := Lib.hid (HA.out.call hq); replace H1 := Lib.hid (H1.out.call hq); clear hq)
        | ((with_reducible refine (T2 _ HA.out).out.mono ?_); rintro e w9 ⟨rfl, hq⟩; replace HW := Lib.hid (HW.out.trans (hq.mono HW.out.size)); replace HA := Lib.hid (HA.out.call hq); replace H1 := Lib.hid (H1.out.call hq); clear hq)
        | ((with_reducible refine (M1 _ HA.out).out.mono ?_); rintro e w9 ⟨rfl, hq⟩; replace HW := Lib.hid (HW.out.trans (hq.mono HW.out.size)); replace HA := Lib.hid (HA.out.call hq); replace H1 := Lib.hid (H1.out.call hq); clear hq)
        | ((with_reducible refine (M2 _ HA.out).out.mono ?_); rintro e w9 ⟨rfl, hq⟩; replace HW := Lib.hid (HW.out.trans (hq.mono HW.out.size)); replace HA := Lib.hid (HA.out.call hq); replace H1 := Lib.hid (H1.out.call hq); clear hq)
        | ((with_reducible refine (G2 _ HA.out).out.mono ?_); rintro e w9 ⟨B2, d2, rfl, hrd, hq⟩; replace HW := Lib.hid (HW.out.trans (hq.mono HW.out.size)); replace HA := Lib.hid (HA.out.call hq); replace H1 := Lib.hid (H1.out.call hq); have H2 := Lib.hid hrd; clear hrd hq)
        | ((with_reducible refine (SM _ _ _ _ _ H1.out H2.out).out.mono ?_); rintro e w9 ⟨rfl, hq⟩; replace HW := Lib.hid (HW.out.trans (hq.mono HW.out.size)); replace HA := Lib.hid (HA.out.call hq); replace H1 := Lib.hid (H1.out.call hq); clear hq)
        | ((with_reducible refine (HS _ _ _ H1.out).out.mono ?_); rintro e w9 ⟨rfl, hq⟩; replace HW := Lib.hid (HW.out.trans (hq.mono HW.out.size)); replace HA := Lib.hid (HA.out.call hq); replace H1 := Lib.hid (H1.out.call hq); clear hq))
      go_ret
      exact ⟨rfl, HW.out⟩
    · clear HP HNT HAN HRG HRT HMT hva hn ha hU hzU
      go_enter Try.func3, Try.ntmps3
      go_wp2_with (first
        | ((with_reducible refine (A0 _).out.mono ?_); rintro e w9 ⟨rfl, hq⟩; replace HW := Lib.hid (HW.out.trans (hq.mono HW.out.size)); replace HA := Lib.hid (HA.out.call hq); clear hq)
        | ((with_reducible refine (La _ HA.out).out.mono ?_); rintro e w9 ⟨rfl, rfl⟩))
      go_ret
      exact ⟨rfl, HW.out⟩
end Go.Proofs.Ytbobgkepnocenaa

/-
  The laws of layer 9: FilterRanges, FilterTurns.
-/
namespace Go.Proofs.Ytbobgkepnocenaa
open Go.RowKit

theorem rangesN_small {a : List Nd} (h : a.length ≤ 64) : SmallL 400 (rangesN a) := by
  refine ⟨?_, fun r hr => ?_⟩
  · unfold rangesN
    cases rightN a with
    | false => simp
    | true =>
      have h1 := mkR_len (matchN a) (edgesL (leavesL a)) none
      have h2 := edgesL_len (leavesL a)
      have h3 := leaves_len a
      show (mkR (matchN a) (edgesL (leavesL a)) none).length ≤ 400
      omega
  · have := rightL_all (rangesN_ok a).1 r hr
    have h1 := rightR_lo this
    have h2 := rightR_hi this
    omega
theorem two_match {a b : List Nd} (ha : rightN a = true) (hb : rightN b = true) (hl : a.length + b.length ≤ 31) (s : List UInt8) :
    rightN (andV [a, b]) = true ∧ rightN (orV [a, b]) = true ∧ matchN (andV [a, b]) s = (matchN a s && matchN b s) ∧ matchN (orV [a, b]) s = (matchN a s || matchN b s) := by
  obtain ⟨h1, h2⟩ := two_right ha hb hl 7 (.inl rfl)
  obtain ⟨h3, h4⟩ := two_right ha hb hl 8 (.inr rfl)
  refine ⟨h1, h3, ?_, ?_⟩
  · unfold matchN
    rw [show andV [a, b] = joinV 7 [a, b] from rfl, h1, h2, ha, hb]; rfl
  · unfold matchN
    rw [show orV [a, b] = joinV 8 [a, b] from rfl, h3, h4, ha, hb]; rfl
theorem not_match {a : List Nd} (ha : rightN a = true) (hl : a.length ≤ 31) (s : List UInt8) : rightN (notN a) = true ∧ matchN (notN a) s = !matchN a s := by
  obtain ⟨h1, h2⟩ := not_right ha hl
  refine ⟨h1, ?_⟩
  unfold matchN
  rw [h1, h2, ha]; rfl
theorem and_ranges {a b : List Nd} (ha : rightN a = true) (hb : rightN b = true) (hl : a.length + b.length ≤ 31) : rangesN (andV [a, b]) = makeV 2 (rangesN a) (rangesN b) :=
  makeV_unique (rangesN_ok _).1 fun s => by rw [(rangesN_ok _).2, (rangesN_ok _).2, (rangesN_ok _).2, (two_match ha hb hl s).2.2.1]; rfl
theorem or_ranges {a b : List Nd} (ha : rightN a = true) (hb : rightN b = true) (hl : a.length + b.length ≤ 31) : rangesN (orV [a, b]) = makeV 1 (rangesN a) (rangesN b) :=
  makeV_unique (rangesN_ok _).1 fun s => by rw [(rangesN_ok _).2, (rangesN_ok _).2, (rangesN_ok _).2, (two_match ha hb hl s).2.2.2]; rfl
theorem not_ranges {a : List Nd} (ha : rightN a = true) (hl : a.length ≤ 31) : rangesN (notN a) = makeV 4 (rangesN a) [] :=
  makeV_unique (rangesN_ok _).1 fun s => by rw [(rangesN_ok _).2, (rangesN_ok _).2, (not_match ha hl s).2, gV4, hasL_nil, Bool.not_false, Bool.and_true]
theorem andV_small {n : Nat} {a b : List Nd} (ha : SmallN n a) (hb : SmallN n b) : SmallN (2 * n + 1) (andV [a, b]) ∧ SmallN (2 * n + 1) (orV [a, b]) ∧ (andV [a, b]).length = a.length + b.length + 1 ∧ (orV [a, b]).length = a.length + b.length + 1 := by
  have key : ∀ op : Int, SmallN (2 * n + 1) (joinV op [a, b]) ∧ (joinV op [a, b]).length = a.length + b.length + 1 := fun op => by
    have hl : (joinV op [a, b]).length = a.length + b.length + 1 := by simp [joinV]; omega
    refine ⟨⟨by rw [hl]; have := ha.1; have := hb.1; omega, fun r hr => ?_⟩, hl⟩
    simp [joinV] at hr
    rcases hr with hr | hr | rfl
    · exact ha.2 r hr
    · exact hb.2 r hr
    · simp
  exact ⟨(key 7).1, (key 8).1, (key 7).2, (key 8).2⟩
theorem notN_small {n : Nat} {a : List Nd} (ha : SmallN n a) : SmallN (n + 1) (notN a) ∧ (notN a).length = a.length + 1 := by
  have hl : (notN a).length = a.length + 1 := by simp [notN]
  refine ⟨⟨by rw [hl]; have := ha.1; omega, fun r hr => ?_⟩, hl⟩
  simp [notN] at hr
  rcases hr with hr | rfl
  · exact ha.2 r hr
  · simp
theorem RetR.of_eq {w w' : World} {l m : List Rng} {e : Ending} {n : Nat} (h : RetR w l e w') (hm : l = m) (hn : m.length = n) : RetRn w n m e w' := by
  subst hm hn; exact h
/-- A call on two filters that the law puts into a row. -/
theorem join_two {F : FuncId} {f : List (List Nd) → List Nd} (h : NJoinC F f) (A B : Option Addr) (c d n m : Nat) (a b : List Nd) (hn : n = a.length) (hm : m = b.length) (ha : SmallN 15 a) (hb : SmallN 15 b) (u : List Nd) (hu : f [a, b] = u) (N : Nat) (hN : u.length = N) (w : World) (hra : kNd.Rd w w.heap.size A c a) (hrb : kNd.Rd w w.heap.size B d b) :
    Calls Try.prog F #[.slice (some ⟨w.heap.size, 0, none⟩) 2 2] (w.alloc (.cells #[.slice A n c, .slice B m d] 22)) fun e w' => ∃ A' c', e = .returned (.slice A' N c') ∧ kNd.Rd w' w'.heap.size A' c' u ∧ Below w.heap.size w w' := by
  subst hu
  refine (h _ 2 2 [a, b] rfl (by omega) (fun l hl => ?_) N hN _ (rdLL_two hn hm hra hrb)).mono fun e w' ⟨A', c', h1, h2, h3⟩ => ⟨A', c', h1, h2, (below_new w _).trans (h3.mono (by rw [size1]; omega))⟩
  simp at hl
  rcases hl with rfl | rfl
  · exact ha.mono (by omega)
  · exact hb.mono (by omega)
set_option maxRecDepth 100000 in
set_option maxHeartbeats 8000000 in
theorem filterRanges_walk (HP : NLeaf1C 23 preN) (HNT : NNotC 20) (HAN : NJoinC 18 andV) (HON : NJoinC 19 orV) (HRG : NRangesC 9) (HRT : NRightC 10) (HMT : NMatchC 12) (KM : SetC 26 2) (KU : SetC 27 1) (KN : OneC 28 4) (A B : Option Addr) (c d n m : Nat) (a b : List Nd) (hn : n = a.length) (hm : m = b.length) (w : World) (ha : kNd.Rd w w.heap.size A c a) (hb : kNd.Rd w w.heap.size B d b) :
    Calls Try.prog 6 #[.slice A n c, .slice B m d] w fun e w' => e = .returned (.bool true) ∧ Below w.heap.size w w' := by
  have A0 := fun w => Lib.hid (awake09 HP HNT HAN HRG HRT HMT w)
  obtain ⟨va, hva⟩ : ∃ v, longN 15 a = v := ⟨_, rfl⟩
  obtain ⟨vb, hvb⟩ : ∃ v, longN 15 b = v := ⟨_, rfl⟩
  have La := fun w hr => Lib.hid (nlong_is 15 A c n 15 rfl a hn (by omega) va hva w hr)
  have Lb := fun w hr => Lib.hid (nlong_is 15 B d m 15 rfl b hm (by omega) vb hvb w hr)
  have HA := Lib.hid ha
  have HB := Lib.hid hb
  have HW := Lib.hid (Below.refl w.heap.size w)
  cases va
  case true =>
    clear HP HNT HAN HON HRG HRT HMT KM KU KN hva hvb hn hm ha hb
    go_enter Try.func6, Try.ntmps6
    go_wp2_with (first
      | ((with_reducible refine (A0 _).out.mono ?_); rintro e w9 ⟨rfl, hq⟩; replace HW := Lib.hid (HW.out.trans (hq.mono HW.out.size)); (try replace HA := Lib.hid (HA.out.call hq)); (try replace HB := Lib.hid (HB.out.call hq)); (try replace HX := Lib.hid (HX.out.call hq)); (try replace HY := Lib.hid (HY.out.call hq)); (try replace H1 := Lib.hid (H1.out.call hq)); (try replace H2 := Lib.hid (H2.out.call hq)); (try replace H3 := Lib.hid (H3.out.call hq)); (try replace H4 := Lib.hid (H4.out.call hq)); (try replace H5 := Lib.hid (H5.out.call hq)); (try replace H6 := Lib.hid (H6.out.call hq)); clear hq)
      | ((with_reducible refine (La _ HA.out).out.mono ?_); rintro e w9 ⟨rfl, rfl⟩)
      | ((with_reducible refine (Lb _ HB.out).out.mono ?_); rintro e w9 ⟨rfl, rfl⟩))
    go_ret
    exact ⟨rfl, HW.out⟩
  case false =>
    cases vb
    case true =>
      clear HP HNT HAN HON HRG HRT HMT KM KU KN hva hvb hn hm ha hb
      go_enter Try.func6, Try.ntmps6
      go_wp2_with (first
        | ((with_reducible refine (A0 _).out.mono ?_); rintro e w9 ⟨rfl, hq⟩; replace HW := Lib.hid (HW.out.trans (hq.mono HW.out.size)); (try replace HA := Lib.hid (HA.out.call hq)); (try replace HB := Lib.hid (HB.out.call hq)); (try replace HX := Lib.hid (HX.out.call hq)); (try replace HY := Lib.hid (HY.out.call hq)); (try replace H1 := Lib.hid (H1.out.call hq)); (try replace H2 := Lib.hid (H2.out.call hq)); (try replace H3 := Lib.hid (H3.out.call hq)); (try replace H4 := Lib.hid (H4.out.call hq)); (try replace H5 := Lib.hid (H5.out.call hq)); (try replace H6 := Lib.hid (H6.out.call hq)); clear hq)
        | ((with_reducible refine (La _ HA.out).out.mono ?_); rintro e w9 ⟨rfl, rfl⟩)
        | ((with_reducible refine (Lb _ HB.out).out.mono ?_); rintro e w9 ⟨rfl, rfl⟩))
      go_ret
      exact ⟨rfl, HW.out⟩
    case false =>
      have sa := longN_small hva
      have sb := longN_small hvb
      obtain ⟨ra, hra⟩ : ∃ v, rightN a = v := ⟨_, rfl⟩
      obtain ⟨rb, hrb⟩ : ∃ v, rightN b = v := ⟨_, rfl⟩
      have na : n ≤ 100000 := by have := sa.1; omega
      have nb : m ≤ 100000 := by have := sb.1; omega
      have Ra := fun w hr => Lib.hid (ref_nright A c n a hn na ra hra w hr)
      have Rb := fun w hr => Lib.hid (ref_nright B d m b hm nb rb hrb w hr)
      cases ra
      case false =>
        clear HP HNT HAN HON HRG HRT HMT KM KU KN hva hvb hn hm ha hb sa sb hra hrb na nb
        go_enter Try.func6, Try.ntmps6
        go_wp2_with (first
          | ((with_reducible refine (A0 _).out.mono ?_); rintro e w9 ⟨rfl, hq⟩; replace HW := Lib.hid (HW.out.trans (hq.mono HW.out.size)); (try replace HA := Lib.hid (HA.out.call hq)); (try replace HB := Lib.hid (HB.out.call hq)); (try replace HX := Lib.hid (HX.out.call hq)); (try replace HY := Lib.hid (HY.out.call hq)); (try replace H1 := Lib.hid (H1.out.call hq)); (try replace H2 := Lib.hid (H2.out.call hq)); (try replace H3 := Lib.hid (H3.out.call hq)); (try replace H4 := Lib.hid (H4.out.call hq)); (try replace H5 := Lib.hid (H5.out.call hq)); (try replace H6 := Lib.hid (H6.out.call hq)); clear hq)
          | ((with_reducible refine (La _ HA.out).out.mono ?_); rintro e w9 ⟨rfl, rfl⟩)
          | ((with_reducible refine (Lb _ HB.out).out.mono ?_); rintro e w9 ⟨rfl, rfl⟩)
          | ((with_reducible refine (Ra _ HA.out).out.mono ?_); rintro e w9 ⟨rfl, hq⟩; replace HW := Lib.hid (HW.out.trans (hq.mono HW.out.size)); (try replace HA := Lib.hid (HA.out.call hq)); (try replace HB := Lib.hid (HB.out.call hq)); (try replace HX := Lib.hid (HX.out.call hq)); (try replace HY := Lib.hid (HY.out.call hq)); (try replace H1 := Lib.hid (H1.out.call hq)); (try replace H2 := Lib.hid (H2.out.call hq)); (try replace H3 := Lib.hid (H3.out.call hq)); (try replace H4 := Lib.hid (H4.out.call hq)); (try replace H5 := Lib.hid (H5.out.call hq)); (try replace H6 := Lib.hid (H6.out.call hq)); clear hq)
          | ((with_reducible refine (Rb _ HB.out).out.mono ?_); rintro e w9 ⟨rfl, hq⟩; replace HW := Lib.hid (HW.out.trans (hq.mono HW.out.size)); (try replace HA := Lib.hid (HA.out.call hq)); (try replace HB := Lib.hid (HB.out.call hq)); (try replace HX := Lib.hid (HX.out.call hq)); (try replace HY := Lib.hid (HY.out.call hq)); (try replace H1 := Lib.hid (H1.out.call hq)); (try replace H2 := Lib.hid (H2.out.call hq)); (try replace H3 := Lib.hid (H3.out.call hq)); (try replace H4 := Lib.hid (H4.out.call hq)); (try replace H5 := Lib.hid (H5.out.call hq)); (try replace H6 := Lib.hid (H6.out.call hq)); clear hq))
        go_ret
        exact ⟨rfl, HW.out⟩
      case true =>
        cases rb
        case false =>
          clear HP HNT HAN HON HRG HRT HMT KM KU KN hva hvb hn hm ha hb sa sb hra hrb na nb
          go_enter Try.func6, Try.ntmps6
          go_wp2_with (first
            | ((with_reducible refine (A0 _).out.mono ?_); rintro e w9 ⟨rfl, hq⟩; replace HW := Lib.hid (HW.out.trans (hq.mono HW.out.size)); (try replace HA := Lib.hid (HA.out.call hq)); (try replace HB := Lib.hid (HB.out.call hq)); (try replace HX := Lib.hid (HX.out.call hq)); (try replace HY := Lib.hid (HY.out.call hq)); (try replace H1 := Lib.hid (H1.out.call hq)); (try replace H2 := Lib.hid (H2.out.call hq)); (try replace H3 := Lib.hid (H3.out.call hq)); (try replace H4 := Lib.hid (H4.out.call hq)); (try replace H5 := Lib.hid (H5.out.call hq)); (try replace H6 := Lib.hid (H6.out.call hq)); clear hq)
            | ((with_reducible refine (La _ HA.out).out.mono ?_); rintro e w9 ⟨rfl, rfl⟩)
            | ((with_reducible refine (Lb _ HB.out).out.mono ?_); rintro e w9 ⟨rfl, rfl⟩)
            | ((with_reducible refine (Ra _ HA.out).out.mono ?_); rintro e w9 ⟨rfl, hq⟩; replace HW := Lib.hid (HW.out.trans (hq.mono HW.out.size)); (try replace HA := Lib.hid (HA.out.call hq)); (try replace HB := Lib.hid (HB.out.call hq)); (try replace HX := Lib.hid (HX.out.call hq)); (try replace HY := Lib.hid (HY.out.call hq)); (try replace H1 := Lib.hid (H1.out.call hq)); (try replace H2 := Lib.hid (H2.out.call hq)); (try replace H3 := Lib.hid (H3.out.call hq)); (try replace H4 := Lib.hid (H4.out.call hq)); (try replace H5 := Lib.hid (H5.out.call hq)); (try replace H6 := Lib.hid (H6.out.call hq)); clear hq)
            | ((with_reducible refine (Rb _ HB.out).out.mono ?_); rintro e w9 ⟨rfl, hq⟩; replace HW := Lib.hid (HW.out.trans (hq.mono HW.out.size)); (try replace HA := Lib.hid (HA.out.call hq)); (try replace HB := Lib.hid (HB.out.call hq)); (try replace HX := Lib.hid (HX.out.call hq)); (try replace HY := Lib.hid (HY.out.call hq)); (try replace H1 := Lib.hid (H1.out.call hq)); (try replace H2 := Lib.hid (H2.out.call hq)); (try replace H3 := Lib.hid (H3.out.call hq)); (try replace H4 := Lib.hid (H4.out.call hq)); (try replace H5 := Lib.hid (H5.out.call hq)); (try replace H6 := Lib.hid (H6.out.call hq)); clear hq))
          go_ret
          exact ⟨rfl, HW.out⟩
        case true =>
          have hl : a.length + b.length ≤ 31 := by have := sa.1; have := sb.1; omega
          have hl1 : a.length ≤ 31 := by omega
          obtain ⟨uA, huA⟩ : ∃ u, andV [a, b] = u := ⟨_, rfl⟩
          obtain ⟨uO, huO⟩ : ∃ u, orV [a, b] = u := ⟨_, rfl⟩
          obtain ⟨uN, huN⟩ : ∃ u, notN a = u := ⟨_, rfl⟩
          obtain ⟨N1, hN1⟩ : ∃ N, uA.length = N := ⟨_, rfl⟩
          obtain ⟨N2, hN2⟩ : ∃ N, uO.length = N := ⟨_, rfl⟩
          obtain ⟨N3, hN3⟩ : ∃ N, uN.length = N := ⟨_, rfl⟩
          obtain ⟨s1, s2, -, -⟩ := andV_small sa sb
          obtain ⟨s3, -⟩ := notN_small sa
          rw [huA] at s1
          rw [huO] at s2
          rw [huN] at s3
          have JA := fun A B c d w h1 h2 => Lib.hid (join_two HAN A B c d n m a b hn hm sa sb uA huA N1 hN1 w h1 h2)
          have JO := fun A B c d w h1 h2 => Lib.hid (join_two HON A B c d n m a b hn hm sa sb uO huO N2 hN2 w h1 h2)
          have JN := fun A c w h1 => Lib.hid (HNT A c n a hn (sa.mono (by omega)) N3 (by rw [huN, hN3]) w h1)
          rw [huN] at JN
          obtain ⟨X, hX⟩ : ∃ X, rangesN a = X := ⟨_, rfl⟩
          obtain ⟨Y, hY⟩ : ∃ Y, rangesN b = Y := ⟨_, rfl⟩
          obtain ⟨NX, hNX⟩ : ∃ N, X.length = N := ⟨_, rfl⟩
          obtain ⟨NY, hNY⟩ : ∃ N, Y.length = N := ⟨_, rfl⟩
          obtain ⟨Z1, hZ1⟩ : ∃ Z, makeV 2 X Y = Z := ⟨_, rfl⟩
          obtain ⟨Z2, hZ2⟩ : ∃ Z, makeV 1 X Y = Z := ⟨_, rfl⟩
          obtain ⟨Z3, hZ3⟩ : ∃ Z, makeV 4 X [] = Z := ⟨_, rfl⟩
          obtain ⟨M1, hM1⟩ : ∃ N, Z1.length = N := ⟨_, rfl⟩
          obtain ⟨M2, hM2⟩ : ∃ N, Z2.length = N := ⟨_, rfl⟩
          obtain ⟨M3, hM3⟩ : ∃ N, Z3.length = N := ⟨_, rfl⟩
          have sX : SmallL 400 X := by rw [← hX]; exact rangesN_small (by have := sa.1; omega)
          have sY : SmallL 400 Y := by rw [← hY]; exact rangesN_small (by have := sb.1; omega)
          have GX := fun A c w h => Lib.hid ((HRG A c n a hn (sa.mono (by omega)) w h).mono fun e w' h => RetR.of_eq h hX hNX)
          have GY := fun A c w h => Lib.hid ((HRG A c m b hm (sb.mono (by omega)) w h).mono fun e w' h => RetR.of_eq h hY hNY)
          have G1 := fun A c w h => Lib.hid ((HRG A c N1 uA hN1.symm (s1.mono (by omega)) w h).mono fun e w' h => RetR.of_eq h (by rw [← huA, and_ranges hra hrb hl, hX, hY, hZ1]) hM1)
          have G2 := fun A c w h => Lib.hid ((HRG A c N2 uO hN2.symm (s2.mono (by omega)) w h).mono fun e w' h => RetR.of_eq h (by rw [← huO, or_ranges hra hrb hl, hX, hY, hZ2]) hM2)
          have G3 := fun A c w h => Lib.hid ((HRG A c N3 uN hN3.symm (s3.mono (by omega)) w h).mono fun e w' h => RetR.of_eq h (by rw [← huN, not_ranges hra hl1, hX, hZ3]) hM3)
          have K1 := fun A B c d w h1 h2 => Lib.hid ((KM A B c d NX NY X Y hNX.symm hNY.symm sX sY w h1 h2).mono fun e w' h => RetR.of_eq h hZ1 hM1)
          have K2 := fun A B c d w h1 h2 => Lib.hid ((KU A B c d NX NY X Y hNX.symm hNY.symm sX sY w h1 h2).mono fun e w' h => RetR.of_eq h hZ2 hM2)
          have K3 := fun A c w h1 => Lib.hid ((KN A c NX X hNX.symm sX w h1).mono fun e w' h => RetR.of_eq h hZ3 hM3)
          have S1 := fun B1 B2 d1 d2 w h1 h2 => Lib.hid (rsame_is B1 B2 d1 d2 M1 Z1 hM1 w h1 h2)
          have S2 := fun B1 B2 d1 d2 w h1 h2 => Lib.hid (rsame_is B1 B2 d1 d2 M2 Z2 hM2 w h1 h2)
          have S3 := fun B1 B2 d1 d2 w h1 h2 => Lib.hid (rsame_is B1 B2 d1 d2 M3 Z3 hM3 w h1 h2)
          clear HP HNT HAN HON HRG HRT HMT KM KU KN hva hvb hn hm ha hb sa sb hra hrb na nb hl hl1 huA huO huN hN1 hN2 hN3 s1 s2 s3 hX hY hNX hNY hZ1 hZ2 hZ3 hM1 hM2 hM3 sX sY
          go_enter Try.func6, Try.ntmps6
          go_wp2_with (first
            | ((with_reducible refine (A0 _).out.mono ?_); rintro e w9 ⟨rfl, hq⟩; replace HW := Lib.hid (HW.out.trans (hq.mono HW.out.size)); (try replace HA := Lib.hid (HA.out.call hq)); (try replace HB := Lib.hid (HB.out.call hq)); (try replace HX := Lib.hid (HX.out.call hq)); (try replace HY := Lib.hid (HY.out.call hq)); (try replace H1 := Lib.hid (H1.out.call hq)); (try replace H2 := Lib.hid (H2.out.call hq)); (try replace H3 := Lib.hid (H3.out.call hq)); (try replace H4 := Lib.hid (H4.out.call hq)); (try replace H5 := Lib.hid (H5.out.call hq)); (try replace H6 := Lib.hid (H6.out.call hq)); clear hq)
            | ((with_reducible refine (La _ HA.out).out.mono ?_); rintro e w9 ⟨rfl, rfl⟩)
            | ((with_reducible refine (Lb _ HB.out).out.mono ?_); rintro e w9 ⟨rfl, rfl⟩)
            | ((with_reducible refine (Ra _ HA.out).out.mono ?_); rintro e w9 ⟨rfl, hq⟩; replace HW := Lib.hid (HW.out.trans (hq.mono HW.out.size)); (try replace HA := Lib.hid (HA.out.call hq)); (try replace HB := Lib.hid (HB.out.call hq)); (try replace HX := Lib.hid (HX.out.call hq)); (try replace HY := Lib.hid (HY.out.call hq)); (try replace H1 := Lib.hid (H1.out.call hq)); (try replace H2 := Lib.hid (H2.out.call hq)); (try replace H3 := Lib.hid (H3.out.call hq)); (try replace H4 := Lib.hid (H4.out.call hq)); (try replace H5 := Lib.hid (H5.out.call hq)); (try replace H6 := Lib.hid (H6.out.call hq)); clear hq)
            | ((with_reducible refine (Rb _ HB.out).out.mono ?_); rintro e w9 ⟨rfl, hq⟩; replace HW := Lib.hid (HW.out.trans (hq.mono HW.out.size)); (try replace HA := Lib.hid (HA.out.call hq)); (try replace HB := Lib.hid (HB.out.call hq)); (try replace HX := Lib.hid (HX.out.call hq)); (try replace HY := Lib.hid (HY.out.call hq)); (try replace H1 := Lib.hid (H1.out.call hq)); (try replace H2 := Lib.hid (H2.out.call hq)); (try replace H3 := Lib.hid (H3.out.call hq)); (try replace H4 := Lib.hid (H4.out.call hq)); (try replace H5 := Lib.hid (H5.out.call hq)); (try replace H6 := Lib.hid (H6.out.call hq)); clear hq)
            | ((with_reducible refine (GX _ _ _ HA.out).out.mono ?_); rintro e w9 ⟨A_HX, c_HX, rfl, hrd, hq⟩; replace HW := Lib.hid (HW.out.trans (hq.mono HW.out.size)); (try replace HA := Lib.hid (HA.out.call hq)); (try replace HB := Lib.hid (HB.out.call hq)); (try replace HX := Lib.hid (HX.out.call hq)); (try replace HY := Lib.hid (HY.out.call hq)); (try replace H1 := Lib.hid (H1.out.call hq)); (try replace H2 := Lib.hid (H2.out.call hq)); (try replace H3 := Lib.hid (H3.out.call hq)); (try replace H4 := Lib.hid (H4.out.call hq)); (try replace H5 := Lib.hid (H5.out.call hq)); (try replace H6 := Lib.hid (H6.out.call hq)); (try replace H7 := Lib.hid (H7.out.call hq)); (try replace H8 := Lib.hid (H8.out.call hq)); (try replace H9 := Lib.hid (H9.out.call hq)); have HX := Lib.hid hrd; clear hrd hq)
            | ((with_reducible refine (GY _ _ _ HB.out).out.mono ?_); rintro e w9 ⟨A_HY, c_HY, rfl, hrd, hq⟩; replace HW := Lib.hid (HW.out.trans (hq.mono HW.out.size)); (try replace HA := Lib.hid (HA.out.call hq)); (try replace HB := Lib.hid (HB.out.call hq)); (try replace HX := Lib.hid (HX.out.call hq)); (try replace HY := Lib.hid (HY.out.call hq)); (try replace H1 := Lib.hid (H1.out.call hq)); (try replace H2 := Lib.hid (H2.out.call hq)); (try replace H3 := Lib.hid (H3.out.call hq)); (try replace H4 := Lib.hid (H4.out.call hq)); (try replace H5 := Lib.hid (H5.out.call hq)); (try replace H6 := Lib.hid (H6.out.call hq)); (try replace H7 := Lib.hid (H7.out.call hq)); (try replace H8 := Lib.hid (H8.out.call hq)); (try replace H9 := Lib.hid (H9.out.call hq)); have HY := Lib.hid hrd; clear hrd hq)
            | ((with_reducible refine (JA _ _ _ _ _ HA.out HB.out).out.mono ?_); rintro e w9 ⟨A_H1, c_H1, rfl, hrd, hq⟩; replace HW := Lib.hid (HW.out.trans (hq.mono HW.out.size)); (try replace HA := Lib.hid (HA.out.call hq)); (try replace HB := Lib.hid (HB.out.call hq)); (try replace HX := Lib.hid (HX.out.call hq)); (try replace HY := Lib.hid (HY.out.call hq)); (try replace H1 := Lib.hid (H1.out.call hq)); (try replace H2 := Lib.hid (H2.out.call hq)); (try replace H3 := Lib.hid (H3.out.call hq)); (try replace H4 := Lib.hid (H4.out.call hq)); (try replace H5 := Lib.hid (H5.out.call hq)); (try replace H6 := Lib.hid (H6.out.call hq)); (try replace H7 := Lib.hid (H7.out.call hq)); (try replace H8 := Lib.hid (H8.out.call hq)); (try replace H9 := Lib.hid (H9.out.call hq)); have H1 := Lib.hid hrd; clear hrd hq)
            | ((with_reducible refine (G1 _ _ _ H1.out).out.mono ?_); rintro e w9 ⟨A_H2, c_H2, rfl, hrd, hq⟩; replace HW := Lib.hid (HW.out.trans (hq.mono HW.out.size)); (try replace HA := Lib.hid (HA.out.call hq)); (try replace HB := Lib.hid (HB.out.call hq)); (try replace HX := Lib.hid (HX.out.call hq)); (try replace HY := Lib.hid (HY.out.call hq)); (try replace H1 := Lib.hid (H1.out.call hq)); (try replace H2 := Lib.hid (H2.out.call hq)); (try replace H3 := Lib.hid (H3.out.call hq)); (try replace H4 := Lib.hid (H4.out.call hq)); (try replace H5 := Lib.hid (H5.out.call hq)); (try replace H6 := Lib.hid (H6.out.call hq)); (try replace H7 := Lib.hid (H7.out.call hq)); (try replace H8 := Lib.hid (H8.out.call hq)); (try replace H9 := Lib.hid (H9.out.call hq)); have H2 := Lib.hid hrd; clear hrd hq)
            | ((with_reducible refine (K1 _ _ _ _ _ HX.out HY.out).out.mono ?_); rintro e w9 ⟨A_H3, c_H3, rfl, hrd, hq⟩; replace HW := Lib.hid (HW.out.trans (hq.mono HW.out.size)); (try replace HA := Lib.hid (HA.out.call hq)); (try replace HB := Lib.hid (HB.out.call hq)); (try replace HX := Lib.hid (HX.out.call hq)); (try replace HY := Lib.hid (HY.out.call hq)); (try replace H1 := Lib.hid (H1.out.call hq)); (try replace H2 := Lib.hid (H2.out.call hq)); (try replace H3 := Lib.hid (H3.out.call hq)); (try replace H4 := Lib.hid (H4.out.call hq)); (try replace H5 := Lib.hid (H5.out.call hq)); (try replace H6 := Lib.hid (H6.out.call hq)); (try replace H7 := Lib.hid (H7.out.call hq)); (try replace H8 := Lib.hid (H8.out.call hq)); (try replace H9 := Lib.hid (H9.out.call hq)); have H3 := Lib.hid hrd; clear hrd hq)
            | ((with_reducible refine (S1 _ _ _ _ _ H2.out H3.out).out.mono ?_); rintro e w9 ⟨rfl, hq⟩; replace HW := Lib.hid (HW.out.trans (hq.mono HW.out.size)); (try replace HA := Lib.hid (HA.out.call hq)); (try replace HB := Lib.hid (HB.out.call hq)); (try replace HX := Lib.hid (HX.out.call hq)); (try replace HY := Lib.hid (HY.out.call hq)); (try replace H1 := Lib.hid (H1.out.call hq)); (try replace H2 := Lib.hid (H2.out.call hq)); (try replace H3 := Lib.hid (H3.out.call hq)); (try replace H4 := Lib.hid (H4.out.call hq)); (try replace H5 := Lib.hid (H5.out.call hq)); (try replace H6 := Lib.hid (H6.out.call hq)); (try replace H7 := Lib.hid (H7.out.call hq)); (try replace H8 := Lib.hid (H8.out.call hq)); (try replace H9 := Lib.hid (H9.out.call hq)); clear hq)
            | ((with_reducible refine (JO _ _ _ _ _ HA.out HB.out).out.mono ?_); rintro e w9 ⟨A_H4, c_H4, rfl, hrd, hq⟩; replace HW := Lib.hid (HW.out.trans (hq.mono HW.out.size)); (try replace HA := Lib.hid (HA.out.call hq)); (try replace HB := Lib.hid (HB.out.call hq)); (try replace HX := Lib.hid (HX.out.call hq)); (try replace HY := Lib.hid (HY.out.call hq)); (try replace H1 := Lib.hid (H1.out.call hq)); (try replace H2 := Lib.hid (H2.out.call hq)); (try replace H3 := Lib.hid (H3.out.call hq)); (try replace H4 := Lib.hid (H4.out.call hq)); (try replace H5 := Lib.hid (H5.out.call hq)); (try replace H6 := Lib.hid (H6.out.call hq)); (try replace H7 := Lib.hid (H7.out.call hq)); (try replace H8 := Lib.hid (H8.out.call hq)); (try replace H9 := Lib.hid (H9.out.call hq)); have H4 := Lib.hid hrd; clear hrd hq)
            | ((with_reducible refine (G2 _ _ _ H4.out).out.mono ?_); rintro e w9 ⟨A_H5, c_H5, rfl, hrd, hq⟩; replace HW := Lib.hid (HW.out.trans (hq.mono HW.out.size)); (try replace HA := Lib.hid (HA.out.call hq)); (try replace HB := Lib.hid (HB.out.call hq)); (try replace HX := Lib.hid (HX.out.call hq)); (try replace HY := Lib.hid (HY.out.call hq)); (try replace H1 := Lib.hid (H1.out.call hq)); (try replace H2 := Lib.hid (H2.out.call hq)); (try replace H3 := Lib.hid (H3.out.call hq)); (try replace H4 := Lib.hid (H4.out.call hq)); (try replace H5 := Lib.hid (H5.out.call hq)); (try replace H6 := Lib.hid (H6.out.call hq)); (try replace H7 := Lib.hid (H7.out.call hq)); (try replace H8 := Lib.hid (H8.out.call hq)); (try replace H9 := Lib.hid (H9.out.call hq)); have H5 := Lib.hid hrd; clear hrd hq)
            | ((with_reducible refine (K2 _ _ _ _ _ HX.out HY.out).out.mono ?_); rintro e w9 ⟨A_H6, c_H6, rfl, hrd, hq⟩; replace HW := Lib.hid (HW.out.trans (hq.mono HW.out.size)); (try replace HA := Lib.hid (HA.out.call hq)); (try replace HB := Lib.hid (HB.out.call hq)); (try replace HX := Lib.hid (HX.out.call hq)); (try replace HY := Lib.hid (HY.out.call hq)); (try replace H1 := Lib.hid (H1.out.call hq)); (try replace H2 := Lib.hid (H2.out.call hq)); (try replace H3 := Lib.hid (H3.out.call hq)); (try replace H4 := Lib.hid (H4.out.call hq)); (try replace H5 := Lib.hid (H5.out.call hq)); (try replace H6 := Lib.hid (H6.out.call hq)); (try replace H7 := Lib.hid (H7.out.call hq)); (try replace H8 := Lib.hid (H8.out.call hq)); (try replace H9 := Lib.hid (H9.out.call hq)); have H6 := Lib.hid hrd; clear hrd hq)
            | ((with_reducible refine (S2 _ _ _ _ _ H5.out H6.out).out.mono ?_); rintro e w9 ⟨rfl, hq⟩; replace HW := Lib.hid (HW.out.trans (hq.mono HW.out.size)); (try replace HA := Lib.hid (HA.out.call hq)); (try replace HB := Lib.hid (HB.out.call hq)); (try replace HX := Lib.hid (HX.out.call hq)); (try replace HY := Lib.hid (HY.out.call hq)); (try replace H1 := Lib.hid (H1.out.call hq)); (try replace H2 := Lib.hid (H2.out.call hq)); (try replace H3 := Lib.hid (H3.out.call hq)); (try replace H4 := Lib.hid (H4.out.call hq)); (try replace H5 := Lib.hid (H5.out.call hq)); (try replace H6 := Lib.hid (H6.out.call hq)); (try replace H7 := Lib.hid (H7.out.call hq)); (try replace H8 := Lib.hid (H8.out.call hq)); (try replace H9 := Lib.hid (H9.out.call hq)); clear hq)
            | ((with_reducible refine (JN _ _ _ HA.out).out.mono ?_); rintro e w9 ⟨A_H7, c_H7, rfl, hrd, hq⟩; replace HW := Lib.hid (HW.out.trans (hq.mono HW.out.size)); (try replace HA := Lib.hid (HA.out.call hq)); (try replace HB := Lib.hid (HB.out.call hq)); (try replace HX := Lib.hid (HX.out.call hq)); (try replace HY := Lib.hid (HY.out.call hq)); (try replace H1 := Lib.hid (H1.out.call hq)); (try replace H2 := Lib.hid (H2.out.call hq)); (try replace H3 := Lib.hid (H3.out.call hq)); (try replace H4 := Lib.hid (H4.out.call hq)); (try replace H5 := Lib.hid (H5.out.call hq)); (try replace H6 := Lib.hid (H6.out.call hq)); (try replace H7 := Lib.hid (H7.out.call hq)); (try replace H8 := Lib.hid (H8.out.call hq)); (try replace H9 := Lib.hid (H9.out.call hq)); have H7 := Lib.hid hrd; clear hrd hq)
            | ((with_reducible refine (G3 _ _ _ H7.out).out.mono ?_); rintro e w9 ⟨A_H8, c_H8, rfl, hrd, hq⟩; replace HW := Lib.hid (HW.out.trans (hq.mono HW.out.size)); (try replace HA := Lib.hid (HA.out.call hq)); (try replace HB := Lib.hid (HB.out.call hq)); (try replace HX := Lib.hid (HX.out.call hq)); (try replace HY := Lib.hid (HY.out.call hq)); (try replace H1 := Lib.hid (H1.out.call hq)); (try replace H2 := Lib.hid (H2.out.call hq)); (try replace H3 := Lib.hid (H3.out.call hq)); (try replace H4 := Lib.hid (H4.out.call hq)); (try replace H5 := Lib.hid (H5.out.call hq)); (try replace H6 := Lib.hid (H6.out.call hq)); (try replace H7 := Lib.hid (H7.out.call hq)); (try replace H8 := Lib.hid (H8.out.call hq)); (try replace H9 := Lib.hid (H9.out.call hq)); have H8 := Lib.hid hrd; clear hrd hq)
            | ((with_reducible refine (K3 _ _ _ HX.out).out.mono ?_); rintro e w9 ⟨A_H9, c_H9, rfl, hrd, hq⟩; replace HW := Lib.hid (HW.out.trans (hq.mono HW.out.size)); (try replace HA := Lib.hid (HA.out.call hq)); (try replace HB := Lib.hid (HB.out.call hq)); (try replace HX := Lib.hid (HX.out.call hq)); (try replace HY := Lib.hid (HY.out.call hq)); (try replace H1 := Lib.hid (H1.out.call hq)); (try replace H2 := Lib.hid (H2.out.call hq)); (try replace H3 := Lib.hid (H3.out.call hq)); (try replace H4 := Lib.hid (H4.out.call hq)); (try replace H5 := Lib.hid (H5.out.call hq)); (try replace H6 := Lib.hid (H6.out.call hq)); (try replace H7 := Lib.hid (H7.out.call hq)); (try replace H8 := Lib.hid (H8.out.call hq)); (try replace H9 := Lib.hid (H9.out.call hq)); have H9 := Lib.hid hrd; clear hrd hq)
            | ((with_reducible refine (S3 _ _ _ _ _ H8.out H9.out).out.mono ?_); rintro e w9 ⟨rfl, hq⟩; replace HW := Lib.hid (HW.out.trans (hq.mono HW.out.size)); (try replace HA := Lib.hid (HA.out.call hq)); (try replace HB := Lib.hid (HB.out.call hq)); (try replace HX := Lib.hid (HX.out.call hq)); (try replace HY := Lib.hid (HY.out.call hq)); (try replace H1 := Lib.hid (H1.out.call hq)); (try replace H2 := Lib.hid (H2.out.call hq)); (try replace H3 := Lib.hid (H3.out.call hq)); (try replace H4 := Lib.hid (H4.out.call hq)); (try replace H5 := Lib.hid (H5.out.call hq)); (try replace H6 := Lib.hid (H6.out.call hq)); (try replace H7 := Lib.hid (H7.out.call hq)); (try replace H8 := Lib.hid (H8.out.call hq)); (try replace H9 := Lib.hid (H9.out.call hq)); clear hq))
          go_ret
          exact ⟨rfl, HW.out⟩
set_option maxRecDepth 100000 in
set_option maxHeartbeats 8000000 in
theorem filterTurns_walk (HP : NLeaf1C 23 preN) (HNT : NNotC 20) (HAN : NJoinC 18 andV) (HON : NJoinC 19 orV) (HRG : NRangesC 9) (HRT : NRightC 10) (HMT : NMatchC 12) (A B : Option Addr) (c d n m : Nat) (a b : List Nd) (s : List UInt8) (hn : n = a.length) (hm : m = b.length) (w : World) (ha : kNd.Rd w w.heap.size A c a) (hb : kNd.Rd w w.heap.size B d b) :
    Calls Try.prog 5 #[.slice A n c, .slice B m d, .string (str s)] w fun e w' => e = .returned (.bool true) ∧ Below w.heap.size w w' := by
  have A0 := fun w => Lib.hid (awake09 HP HNT HAN HRG HRT HMT w)
  obtain ⟨va, hva⟩ : ∃ v, longN 15 a = v := ⟨_, rfl⟩
  obtain ⟨vb, hvb⟩ : ∃ v, longN 15 b = v := ⟨_, rfl⟩
  have La := fun w hr => Lib.hid (nlong_is 15 A c n 15 rfl a hn (by omega) va hva w hr)
  have Lb := fun w hr => Lib.hid (nlong_is 15 B d m 15 rfl b hm (by omega) vb hvb w hr)
  have HA := Lib.hid ha
  have HB := Lib.hid hb
  have HW := Lib.hid (Below.refl w.heap.size w)
  have hzU : (str s).size = s.length := str_size s
  obtain ⟨U, hU⟩ : ∃ U, str s = U := ⟨_, rfl⟩
  rw [hU] at hzU ⊢
  cases va
  case true =>
    clear HP HNT HAN HON HRG HRT HMT hva hvb hn hm ha hb hU hzU
    go_enter Try.func5, Try.ntmps5
    go_wp2_with (first
      | ((with_reducible refine (A0 _).out.mono ?_); rintro e w9 ⟨rfl, hq⟩; replace HW := Lib.hid (HW.out.trans (hq.mono HW.out.size)); (try replace HA := Lib.hid (HA.out.call hq)); (try replace HB := Lib.hid (HB.out.call hq)); (try replace HX := Lib.hid (HX.out.call hq)); (try replace HY := Lib.hid (HY.out.call hq)); (try replace H1 := Lib.hid (H1.out.call hq)); (try replace H2 := Lib.hid (H2.out.call hq)); (try replace H3 := Lib.hid (H3.out.call hq)); (try replace H4 := Lib.hid (H4.out.call hq)); (try replace H5 := Lib.hid (H5.out.call hq)); (try replace H6 := Lib.hid (H6.out.call hq)); (try replace H7 := Lib.hid (H7.out.call hq)); (try replace H8 := Lib.hid (H8.out.call hq)); (try replace H9 := Lib.hid (H9.out.call hq)); clear hq)
      | ((with_reducible refine (La _ HA.out).out.mono ?_); rintro e w9 ⟨rfl, rfl⟩)
      | ((with_reducible refine (Lb _ HB.out).out.mono ?_); rintro e w9 ⟨rfl, rfl⟩))
    go_ret
    exact ⟨rfl, HW.out⟩
  case false =>
    cases vb
    case true =>
      clear HP HNT HAN HON HRG HRT HMT hva hvb hn hm ha hb hU hzU
      go_enter Try.func5, Try.ntmps5
      go_wp2_with (first
        | ((with_reducible refine (A0 _).out.mono ?_); rintro e w9 ⟨rfl, hq⟩; replace HW := Lib.hid (HW.out.trans (hq.mono HW.out.size)); (try replace HA := Lib.hid (HA.out.call hq)); (try replace HB := Lib.hid (HB.out.call hq)); (try replace HX := Lib.hid (HX.out.call hq)); (try replace HY := Lib.hid (HY.out.call hq)); (try replace H1 := Lib.hid (H1.out.call hq)); (try replace H2 := Lib.hid (H2.out.call hq)); (try replace H3 := Lib.hid (H3.out.call hq)); (try replace H4 := Lib.hid (H4.out.call hq)); (try replace H5 := Lib.hid (H5.out.call hq)); (try replace H6 := Lib.hid (H6.out.call hq)); (try replace H7 := Lib.hid (H7.out.call hq)); (try replace H8 := Lib.hid (H8.out.call hq)); (try replace H9 := Lib.hid (H9.out.call hq)); clear hq)
        | ((with_reducible refine (La _ HA.out).out.mono ?_); rintro e w9 ⟨rfl, rfl⟩)
        | ((with_reducible refine (Lb _ HB.out).out.mono ?_); rintro e w9 ⟨rfl, rfl⟩))
      go_ret
      exact ⟨rfl, HW.out⟩
    case false =>
      by_cases hs : U.size ≤ 300
      case neg =>
        clear HP HNT HAN HON HRG HRT HMT hva hvb hn hm ha hb hU hzU
        go_enter Try.func5, Try.ntmps5
        go_wp2_with (first
          | ((with_reducible refine (A0 _).out.mono ?_); rintro e w9 ⟨rfl, hq⟩; replace HW := Lib.hid (HW.out.trans (hq.mono HW.out.size)); (try replace HA := Lib.hid (HA.out.call hq)); (try replace HB := Lib.hid (HB.out.call hq)); (try replace HX := Lib.hid (HX.out.call hq)); (try replace HY := Lib.hid (HY.out.call hq)); (try replace H1 := Lib.hid (H1.out.call hq)); (try replace H2 := Lib.hid (H2.out.call hq)); (try replace H3 := Lib.hid (H3.out.call hq)); (try replace H4 := Lib.hid (H4.out.call hq)); (try replace H5 := Lib.hid (H5.out.call hq)); (try replace H6 := Lib.hid (H6.out.call hq)); (try replace H7 := Lib.hid (H7.out.call hq)); (try replace H8 := Lib.hid (H8.out.call hq)); (try replace H9 := Lib.hid (H9.out.call hq)); clear hq)
          | ((with_reducible refine (La _ HA.out).out.mono ?_); rintro e w9 ⟨rfl, rfl⟩)
          | ((with_reducible refine (Lb _ HB.out).out.mono ?_); rintro e w9 ⟨rfl, rfl⟩))
        go_ret
        exact ⟨rfl, HW.out⟩
      case pos =>
        have sa := longN_small hva
        have sb := longN_small hvb
        obtain ⟨ra, hra⟩ : ∃ v, rightN a = v := ⟨_, rfl⟩
        obtain ⟨rb, hrb⟩ : ∃ v, rightN b = v := ⟨_, rfl⟩
        have na : n ≤ 100000 := by have := sa.1; omega
        have nb : m ≤ 100000 := by have := sb.1; omega
        have Ra := fun w hr => Lib.hid (ref_nright A c n a hn na ra hra w hr)
        have Rb := fun w hr => Lib.hid (ref_nright B d m b hm nb rb hrb w hr)
        cases ra
        case false =>
          clear HP HNT HAN HON HRG HRT HMT hva hvb hn hm ha hb sa sb hra hrb na nb hU hzU
          go_enter Try.func5, Try.ntmps5
          go_wp2_with (first
            | ((with_reducible refine (A0 _).out.mono ?_); rintro e w9 ⟨rfl, hq⟩; replace HW := Lib.hid (HW.out.trans (hq.mono HW.out.size)); (try replace HA := Lib.hid (HA.out.call hq)); (try replace HB := Lib.hid (HB.out.call hq)); (try replace HX := Lib.hid (HX.out.call hq)); (try replace HY := Lib.hid (HY.out.call hq)); (try replace H1 := Lib.hid (H1.out.call hq)); (try replace H2 := Lib.hid (H2.out.call hq)); (try replace H3 := Lib.hid (H3.out.call hq)); (try replace H4 := Lib.hid (H4.out.call hq)); (try replace H5 := Lib.hid (H5.out.call hq)); (try replace H6 := Lib.hid (H6.out.call hq)); (try replace H7 := Lib.hid (H7.out.call hq)); (try replace H8 := Lib.hid (H8.out.call hq)); (try replace H9 := Lib.hid (H9.out.call hq)); clear hq)
            | ((with_reducible refine (La _ HA.out).out.mono ?_); rintro e w9 ⟨rfl, rfl⟩)
            | ((with_reducible refine (Lb _ HB.out).out.mono ?_); rintro e w9 ⟨rfl, rfl⟩)
            | ((with_reducible refine (Ra _ HA.out).out.mono ?_); rintro e w9 ⟨rfl, hq⟩; replace HW := Lib.hid (HW.out.trans (hq.mono HW.out.size)); (try replace HA := Lib.hid (HA.out.call hq)); (try replace HB := Lib.hid (HB.out.call hq)); (try replace HX := Lib.hid (HX.out.call hq)); (try replace HY := Lib.hid (HY.out.call hq)); (try replace H1 := Lib.hid (H1.out.call hq)); (try replace H2 := Lib.hid (H2.out.call hq)); (try replace H3 := Lib.hid (H3.out.call hq)); (try replace H4 := Lib.hid (H4.out.call hq)); (try replace H5 := Lib.hid (H5.out.call hq)); (try replace H6 := Lib.hid (H6.out.call hq)); (try replace H7 := Lib.hid (H7.out.call hq)); (try replace H8 := Lib.hid (H8.out.call hq)); (try replace H9 := Lib.hid (H9.out.call hq)); clear hq)
            | ((with_reducible refine (Rb _ HB.out).out.mono ?_); rintro e w9 ⟨rfl, hq⟩; replace HW := Lib.hid (HW.out.trans (hq.mono HW.out.size)); (try replace HA := Lib.hid (HA.out.call hq)); (try replace HB := Lib.hid (HB.out.call hq)); (try replace HX := Lib.hid (HX.out.call hq)); (try replace HY := Lib.hid (HY.out.call hq)); (try replace H1 := Lib.hid (H1.out.call hq)); (try replace H2 := Lib.hid (H2.out.call hq)); (try replace H3 := Lib.hid (H3.out.call hq)); (try replace H4 := Lib.hid (H4.out.call hq)); (try replace H5 := Lib.hid (H5.out.call hq)); (try replace H6 := Lib.hid (H6.out.call hq)); (try replace H7 := Lib.hid (H7.out.call hq)); (try replace H8 := Lib.hid (H8.out.call hq)); (try replace H9 := Lib.hid (H9.out.call hq)); clear hq))
          go_ret
          exact ⟨rfl, HW.out⟩
        case true =>
          cases rb
          case false =>
            clear HP HNT HAN HON HRG HRT HMT hva hvb hn hm ha hb sa sb hra hrb na nb hU hzU
            go_enter Try.func5, Try.ntmps5
            go_wp2_with (first
              | ((with_reducible refine (A0 _).out.mono ?_); rintro e w9 ⟨rfl, hq⟩; replace HW := Lib.hid (HW.out.trans (hq.mono HW.out.size)); (try replace HA := Lib.hid (HA.out.call hq)); (try replace HB := Lib.hid (HB.out.call hq)); (try replace HX := Lib.hid (HX.out.call hq)); (try replace HY := Lib.hid (HY.out.call hq)); (try replace H1 := Lib.hid (H1.out.call hq)); (try replace H2 := Lib.hid (H2.out.call hq)); (try replace H3 := Lib.hid (H3.out.call hq)); (try replace H4 := Lib.hid (H4.out.call hq)); (try replace H5 := Lib.hid (H5.out.call hq)); (try replace H6 := Lib.hid (H6.out.call hq)); (try replace H7 := Lib.hid (H7.out.call hq)); (try replace H8 := Lib.hid (H8.out.call hq)); (try replace H9 := Lib.hid (H9.out.call hq)); clear hq)
              | ((with_reducible refine (La _ HA.out).out.mono ?_); rintro e w9 ⟨rfl, rfl⟩)
              | ((with_reducible refine (Lb _ HB.out).out.mono ?_); rintro e w9 ⟨rfl, rfl⟩)
              | ((with_reducible refine (Ra _ HA.out).out.mono ?_); rintro e w9 ⟨rfl, hq⟩; replace HW := Lib.hid (HW.out.trans (hq.mono HW.out.size)); (try replace HA := Lib.hid (HA.out.call hq)); (try replace HB := Lib.hid (HB.out.call hq)); (try replace HX := Lib.hid (HX.out.call hq)); (try replace HY := Lib.hid (HY.out.call hq)); (try replace H1 := Lib.hid (H1.out.call hq)); (try replace H2 := Lib.hid (H2.out.call hq)); (try replace H3 := Lib.hid (H3.out.call hq)); (try replace H4 := Lib.hid (H4.out.call hq)); (try replace H5 := Lib.hid (H5.out.call hq)); (try replace H6 := Lib.hid (H6.out.call hq)); (try replace H7 := Lib.hid (H7.out.call hq)); (try replace H8 := Lib.hid (H8.out.call hq)); (try replace H9 := Lib.hid (H9.out.call hq)); clear hq)
              | ((with_reducible refine (Rb _ HB.out).out.mono ?_); rintro e w9 ⟨rfl, hq⟩; replace HW := Lib.hid (HW.out.trans (hq.mono HW.out.size)); (try replace HA := Lib.hid (HA.out.call hq)); (try replace HB := Lib.hid (HB.out.call hq)); (try replace HX := Lib.hid (HX.out.call hq)); (try replace HY := Lib.hid (HY.out.call hq)); (try replace H1 := Lib.hid (H1.out.call hq)); (try replace H2 := Lib.hid (H2.out.call hq)); (try replace H3 := Lib.hid (H3.out.call hq)); (try replace H4 := Lib.hid (H4.out.call hq)); (try replace H5 := Lib.hid (H5.out.call hq)); (try replace H6 := Lib.hid (H6.out.call hq)); (try replace H7 := Lib.hid (H7.out.call hq)); (try replace H8 := Lib.hid (H8.out.call hq)); (try replace H9 := Lib.hid (H9.out.call hq)); clear hq))
            go_ret
            exact ⟨rfl, HW.out⟩
          case true =>
            have hl : a.length + b.length ≤ 31 := by have := sa.1; have := sb.1; omega
            have hl1 : a.length ≤ 31 := by omega
            obtain ⟨uA, huA⟩ : ∃ u, andV [a, b] = u := ⟨_, rfl⟩
            obtain ⟨uO, huO⟩ : ∃ u, orV [a, b] = u := ⟨_, rfl⟩
            obtain ⟨uN, huN⟩ : ∃ u, notN a = u := ⟨_, rfl⟩
            obtain ⟨N1, hN1⟩ : ∃ N, uA.length = N := ⟨_, rfl⟩
            obtain ⟨N2, hN2⟩ : ∃ N, uO.length = N := ⟨_, rfl⟩
            obtain ⟨N3, hN3⟩ : ∃ N, uN.length = N := ⟨_, rfl⟩
            obtain ⟨s1, s2, -, -⟩ := andV_small sa sb
            obtain ⟨s3, -⟩ := notN_small sa
            rw [huA] at s1
            rw [huO] at s2
            rw [huN] at s3
            have JA := fun A B c d w h1 h2 => Lib.hid (join_two HAN A B c d n m a b hn hm sa sb uA huA N1 hN1 w h1 h2)
            have JO := fun A B c d w h1 h2 => Lib.hid (join_two HON A B c d n m a b hn hm sa sb uO huO N2 hN2 w h1 h2)
            have JN := fun A c w h1 => Lib.hid (HNT A c n a hn (sa.mono (by omega)) N3 (by rw [huN, hN3]) w h1)
            rw [huN] at JN
            obtain ⟨x, hx⟩ : ∃ v, matchN a s = v := ⟨_, rfl⟩
            obtain ⟨y, hy⟩ : ∃ v, matchN b s = v := ⟨_, rfl⟩
            obtain ⟨t1, t2, t3, t4⟩ := two_match hra hrb hl s
            obtain ⟨t5, t6⟩ := not_match hra hl1 s
            rw [huA, hx, hy] at t3
            rw [huA] at t1
            rw [huO, hx, hy] at t4
            rw [huO] at t2
            rw [huN, hx] at t6
            rw [huN] at t5
            have MX := fun A c w h => Lib.hid (HMT A c n a s U hU hn (sa.mono (by omega)) (by omega) x hx w h)
            have MY := fun A c w h => Lib.hid (HMT A c m b s U hU hm (sb.mono (by omega)) (by omega) y hy w h)
            have T1 := fun A c w h => Lib.hid (HRT A c N1 uA hN1.symm (s1.mono (by omega)) true t1 w h)
            have T2 := fun A c w h => Lib.hid (HRT A c N2 uO hN2.symm (s2.mono (by omega)) true t2 w h)
            have T3 := fun A c w h => Lib.hid (HRT A c N3 uN hN3.symm (s3.mono (by omega)) true t5 w h)
            have M1 := fun A c w h => Lib.hid (HMT A c N1 uA s U hU hN1.symm (s1.mono (by omega)) (by omega) _ t3 w h)
            have M2 := fun A c w h => Lib.hid (HMT A c N2 uO s U hU hN2.symm (s2.mono (by omega)) (by omega) _ t4 w h)
            have M3 := fun A c w h => Lib.hid (HMT A c N3 uN s U hU hN3.symm (s3.mono (by omega)) (by omega) _ t6 w h)
            clear HP HNT HAN HON HRG HRT HMT hva hvb hn hm ha hb sa sb hra hrb na nb hl hl1 huA huO huN hN1 hN2 hN3 s1 s2 s3 hU hzU hx hy t1 t2 t3 t4 t5 t6
            cases x <;> cases y
            all_goals
              go_enter Try.func5, Try.ntmps5
              go_wp2_with (first
                | ((with_reducible refine (A0 _).out.mono ?_); rintro e w9 ⟨rfl, hq⟩; replace HW := Lib.hid (HW.out.trans (hq.mono HW.out.size)); (try replace HA := Lib.hid (HA.out.call hq)); (try replace HB := Lib.hid (HB.out.call hq)); (try replace HX := Lib.hid (HX.out.call hq)); (try replace HY := Lib.hid (HY.out.call hq)); (try replace H1 := Lib.hid (H1.out.call hq)); (try replace H2 := Lib.hid (H2.out.call hq)); (try replace H3 := Lib.hid (H3.out.call hq)); (try replace H4 := Lib.hid (H4.out.call hq)); (try replace H5 := Lib.hid (H5.out.call hq)); (try replace H6 := Lib.hid (H6.out.call hq)); (try replace H7 := Lib.hid (H7.out.call hq)); (try replace H8 := Lib.hid (H8.out.call hq)); (try replace H9 := Lib.hid (H9.out.call hq)); clear hq)
                | ((with_reducible refine (La _ HA.out).out.mono ?_); rintro e w9 ⟨rfl, rfl⟩)
                | ((with_reducible refine (Lb _ HB.out).out.mono ?_); rintro e w9 ⟨rfl, rfl⟩)
                | ((with_reducible refine (Ra _ HA.out).out.mono ?_); rintro e w9 ⟨rfl, hq⟩; replace HW := Lib.hid (HW.out.trans (hq.mono HW.out.size)); (try replace HA := Lib.hid (HA.out.call hq)); (try replace HB := Lib.hid (HB.out.call hq)); (try replace HX := Lib.hid (HX.out.call hq)); (try replace HY := Lib.hid (HY.out.call hq)); (try replace H1 := Lib.hid (H1.out.call hq)); (try replace H2 := Lib.hid (H2.out.call hq)); (try replace H3 := Lib.hid (H3.out.call hq)); (try replace H4 := Lib.hid (H4.out.call hq)); (try replace H5 := Lib.hid (H5.out.call hq)); (try replace H6 := Lib.hid (H6.out.call hq)); (try replace H7 := Lib.hid (H7.out.call hq)); (try replace H8 := Lib.hid (H8.out.call hq)); (try replace H9 := Lib.hid (H9.out.call hq)); clear hq)
                | ((with_reducible refine (Rb _ HB.out).out.mono ?_); rintro e w9 ⟨rfl, hq⟩; replace HW := Lib.hid (HW.out.trans (hq.mono HW.out.size)); (try replace HA := Lib.hid (HA.out.call hq)); (try replace HB := Lib.hid (HB.out.call hq)); (try replace HX := Lib.hid (HX.out.call hq)); (try replace HY := Lib.hid (HY.out.call hq)); (try replace H1 := Lib.hid (H1.out.call hq)); (try replace H2 := Lib.hid (H2.out.call hq)); (try replace H3 := Lib.hid (H3.out.call hq)); (try replace H4 := Lib.hid (H4.out.call hq)); (try replace H5 := Lib.hid (H5.out.call hq)); (try replace H6 := Lib.hid (H6.out.call hq)); (try replace H7 := Lib.hid (H7.out.call hq)); (try replace H8 := Lib.hid (H8.out.call hq)); (try replace H9 := Lib.hid (H9.out.call hq)); clear hq)
                | ((with_reducible refine (MX _ _ _ HA.out).out.mono ?_); rintro e w9 ⟨rfl, hq⟩; replace HW := Lib.hid (HW.out.trans (hq.mono HW.out.size)); (try replace HA := Lib.hid (HA.out.call hq)); (try replace HB := Lib.hid (HB.out.call hq)); (try replace HX := Lib.hid (HX.out.call hq)); (try replace HY := Lib.hid (HY.out.call hq)); (try replace H1 := Lib.hid (H1.out.call hq)); (try replace H2 := Lib.hid (H2.out.call hq)); (try replace H3 := Lib.hid (H3.out.call hq)); (try replace H4 := Lib.hid (H4.out.call hq)); (try replace H5 := Lib.hid (H5.out.call hq)); (try replace H6 := Lib.hid (H6.out.call hq)); (try replace H7 := Lib.hid (H7.out.call hq)); (try replace H8 := Lib.hid (H8.out.call hq)); (try replace H9 := Lib.hid (H9.out.call hq)); clear hq)
                | ((with_reducible refine (MY _ _ _ HB.out).out.mono ?_); rintro e w9 ⟨rfl, hq⟩; replace HW := Lib.hid (HW.out.trans (hq.mono HW.out.size)); (try replace HA := Lib.hid (HA.out.call hq)); (try replace HB := Lib.hid (HB.out.call hq)); (try replace HX := Lib.hid (HX.out.call hq)); (try replace HY := Lib.hid (HY.out.call hq)); (try replace H1 := Lib.hid (H1.out.call hq)); (try replace H2 := Lib.hid (H2.out.call hq)); (try replace H3 := Lib.hid (H3.out.call hq)); (try replace H4 := Lib.hid (H4.out.call hq)); (try replace H5 := Lib.hid (H5.out.call hq)); (try replace H6 := Lib.hid (H6.out.call hq)); (try replace H7 := Lib.hid (H7.out.call hq)); (try replace H8 := Lib.hid (H8.out.call hq)); (try replace H9 := Lib.hid (H9.out.call hq)); clear hq)
                | ((with_reducible refine (JA _ _ _ _ _ HA.out HB.out).out.mono ?_); rintro e w9 ⟨A_H1, c_H1, rfl, hrd, hq⟩; replace HW := Lib.hid (HW.out.trans (hq.mono HW.out.size)); (try replace HA := Lib.hid (HA.out.call hq)); (try replace HB := Lib.hid (HB.out.call hq)); (try replace HX := Lib.hid (HX.out.call hq)); (try replace HY := Lib.hid (HY.out.call hq)); (try replace H1 := Lib.hid (H1.out.call hq)); (try replace H2 := Lib.hid (H2.out.call hq)); (try replace H3 := Lib.hid (H3.out.call hq)); (try replace H4 := Lib.hid (H4.out.call hq)); (try replace H5 := Lib.hid (H5.out.call hq)); (try replace H6 := Lib.hid (H6.out.call hq)); (try replace H7 := Lib.hid (H7.out.call hq)); (try replace H8 := Lib.hid (H8.out.call hq)); (try replace H9 := Lib.hid (H9.out.call hq)); have H1 := Lib.hid hrd; clear hrd hq)
                | ((with_reducible refine (JO _ _ _ _ _ HA.out HB.out).out.mono ?_); rintro e w9 ⟨A_H2, c_H2, rfl, hrd, hq⟩; replace HW := Lib.hid (HW.out.trans (hq.mono HW.out.size)); (try replace HA := Lib.hid (HA.out.call hq)); (try replace HB := Lib.hid (HB.out.call hq)); (try replace HX := Lib.hid (HX.out.call hq)); (try replace HY := Lib.hid (HY.out.call hq)); (try replace H1 := Lib.hid (H1.out.call hq)); (try replace H2 := Lib.hid (H2.out.call hq)); (try replace H3 := Lib.hid (H3.out.call hq)); (try replace H4 := Lib.hid (H4.out.call hq)); (try replace H5 := Lib.hid (H5.out.call hq)); (try replace H6 := Lib.hid (H6.out.call hq)); (try replace H7 := Lib.hid (H7.out.call hq)); (try replace H8 := Lib.hid (H8.out.call hq)); (try replace H9 := Lib.hid (H9.out.call hq)); have H2 := Lib.hid hrd; clear hrd hq)
                | ((with_reducible refine (JN _ _ _ HA.out).out.mono ?_); rintro e w9 ⟨A_H3, c_H3, rfl, hrd, hq⟩; replace HW := Lib.hid (HW.out.trans (hq.mono HW.out.size)); (try replace HA := Lib.hid (HA.out.call hq)); (try replace HB := Lib.hid (HB.out.call hq)); (try replace HX := Lib.hid (HX.out.call hq)); (try replace HY := Lib.hid (HY.out.call hq)); (try replace H1 := Lib.hid (H1.out.call hq)); (try replace H2 := Lib.hid (H2.out.call hq)); (try replace H3 := Lib.hid (H3.out.call hq)); (try replace H4 := Lib.hid (H4.out.call hq)); (try replace H5 := Lib.hid (H5.out.call hq)); (try replace H6 := Lib.hid (H6.out.call hq)); (try replace H7 := Lib.hid (H7.out.call hq)); (try replace H8 := Lib.hid (H8.out.call hq)); (try replace H9 := Lib.hid (H9.out.call hq)); have H3 := Lib.hid hrd; clear hrd hq)
                | ((with_reducible refine (T1 _ _ _ H1.out).out.mono ?_); rintro e w9 ⟨rfl, hq⟩; replace HW := Lib.hid (HW.out.trans (hq.mono HW.out.size)); (try replace HA := Lib.hid (HA.out.call hq)); (try replace HB := Lib.hid (HB.out.call hq)); (try replace HX := Lib.hid (HX.out.call hq)); (try replace HY := Lib.hid (HY.out.call hq)); (try replace H1 := Lib.hid (H1.out.call hq)); (try replace H2 := Lib.hid (H2.out.call hq)); (try replace H3 := Lib.hid (H3.out.call hq)); (try replace H4 := Lib.hid (H4.out.call hq)); (try replace H5 := Lib.hid (H5.out.call hq)); (try replace H6 := Lib.hid (H6.out.call hq)); (try replace H7 := Lib.hid (H7.out.call hq)); (try replace H8 := Lib.hid (H8.out.call hq)); (try replace H9 := Lib.hid (H9.out.call hq)); clear hq)
                | ((with_reducible refine (T2 _ _ _ H2.out).out.mono ?_); rintro e w9 ⟨rfl, hq⟩; replace HW := Lib.hid (HW.out.trans (hq.mono HW.out.size)); (try replace HA := Lib.hid (HA.out.call hq)); (try replace HB := Lib.hid (HB.out.call hq)); (try replace HX := Lib.hid (HX.out.call hq)); (try replace HY := Lib.hid (HY.out.call hq)); (try replace H1 := Lib.hid (H1.out.call hq)); (try replace H2 := Lib.hid (H2.out.call hq)); (try replace H3 := Lib.hid (H3.out.call hq)); (try replace H4 := Lib.hid (H4.out.call hq)); (try replace H5 := Lib.hid (H5.out.call hq)); (try replace H6 := Lib.hid (H6.out.call hq)); (try replace H7 := Lib.hid (H7.out.call hq)); (try replace H8 := Lib.hid (H8.out.call hq)); (try replace H9 := Lib.hid (H9.out.call hq)); clear hq)
                | ((with_reducible refine (T3 _ _ _ H3.out).out.mono ?_); rintro e w9 ⟨rfl, hq⟩; replace HW := Lib.hid (HW.out.trans (hq.mono HW.out.size)); (try replace HA := Lib.hid (HA.out.call hq)); (try replace HB := Lib.hid (HB.out.call hq)); (try replace HX := Lib.hid (HX.out.call hq)); (try replace HY := Lib.hid (HY.out.call hq)); (try replace H1 := Lib.hid (H1.out.call hq)); (try replace H2 := Lib.hid (H2.out.call hq)); (try replace H3 := Lib.hid (H3.out.call hq)); (try replace H4 := Lib.hid (H4.out.call hq)); (try replace H5 := Lib.hid (H5.out.call hq)); (try replace H6 := Lib.hid (H6.out.call hq)); (try replace H7 := Lib.hid (H7.out.call hq)); (try replace H8 := Lib.hid (H8.out.call hq)); (try replace H9 := Lib.hid (H9.out.call hq)); clear hq)
                | ((with_reducible refine (M1 _ _ _ H1.out).out.mono ?_); rintro e w9 ⟨rfl, hq⟩; replace HW := Lib.hid (HW.out.trans (hq.mono HW.out.size)); (try replace HA := Lib.hid (HA.out.call hq)); (try replace HB := Lib.hid (HB.out.call hq)); (try replace HX := Lib.hid (HX.out.call hq)); (try replace HY := Lib.hid (HY.out.call hq)); (try replace H1 := Lib.hid (H1.out.call hq)); (try replace H2 := Lib.hid (H2.out.call hq)); (try replace H3 := Lib.hid (H3.out.call hq)); (try replace H4 := Lib.hid (H4.out.call hq)); (try replace H5 := Lib.hid (H5.out.call hq)); (try replace H6 := Lib.hid (H6.out.call hq)); (try replace H7 := Lib.hid (H7.out.call hq)); (try replace H8 := Lib.hid (H8.out.call hq)); (try replace H9 := Lib.hid (H9.out.call hq)); clear hq)
                | ((with_reducible refine (M2 _ _ _ H2.out).out.mono ?_); rintro e w9 ⟨rfl, hq⟩; replace HW := Lib.hid (HW.out.trans (hq.mono HW.out.size)); (try replace HA := Lib.hid (HA.out.call hq)); (try replace HB := Lib.hid (HB.out.call hq)); (try replace HX := Lib.hid (HX.out.call hq)); (try replace HY := Lib.hid (HY.out.call hq)); (try replace H1 := Lib.hid (H1.out.call hq)); (try replace H2 := Lib.hid (H2.out.call hq)); (try replace H3 := Lib.hid (H3.out.call hq)); (try replace H4 := Lib.hid (H4.out.call hq)); (try replace H5 := Lib.hid (H5.out.call hq)); (try replace H6 := Lib.hid (H6.out.call hq)); (try replace H7 := Lib.hid (H7.out.call hq)); (try replace H8 := Lib.hid (H8.out.call hq)); (try replace H9 := Lib.hid (H9.out.call hq)); clear hq)
                | ((with_reducible refine (M3 _ _ _ H3.out).out.mono ?_); rintro e w9 ⟨rfl, hq⟩; replace HW := Lib.hid (HW.out.trans (hq.mono HW.out.size)); (try replace HA := Lib.hid (HA.out.call hq)); (try replace HB := Lib.hid (HB.out.call hq)); (try replace HX := Lib.hid (HX.out.call hq)); (try replace HY := Lib.hid (HY.out.call hq)); (try replace H1 := Lib.hid (H1.out.call hq)); (try replace H2 := Lib.hid (H2.out.call hq)); (try replace H3 := Lib.hid (H3.out.call hq)); (try replace H4 := Lib.hid (H4.out.call hq)); (try replace H5 := Lib.hid (H5.out.call hq)); (try replace H6 := Lib.hid (H6.out.call hq)); (try replace H7 := Lib.hid (H7.out.call hq)); (try replace H8 := Lib.hid (H8.out.call hq)); (try replace H9 := Lib.hid (H9.out.call hq)); clear hq))
              go_ret
              exact ⟨rfl, HW.out⟩
end Go.Proofs.Ytbobgkepnocenaa

/-
  The laws of layer 9: FilterBuilds.
-/
namespace Go.Proofs.Ytbobgkepnocenaa
open Go.RowKit

theorem nown_new (w : World) : kNd.Own (w.alloc (.cells #[] 33)) w.heap.size (.slice (some ⟨w.heap.size, 0, none⟩) 0 0) [] :=
  ⟨by simp [Kind.row], .inr ⟨w.heap.size, 0, #[], rfl, Nat.le_refl _, heap_new w _ _ rfl, Nat.le_refl _, Nat.zero_le _, by simp, by simp [Kind.row]⟩⟩
theorem nd_rd (w : World) (O K : Int) (S T : ByteArray) (lo hi : List UInt8) (hS : str lo = S) (hT : str hi = T) : kNd.Rd (w.alloc (.cells #[.int .i64 O, .int .i64 K, .string S, .string T] 33)) (w.heap.size + 1) (some ⟨w.heap.size, 0, none⟩) 1 [⟨O, K, lo, hi⟩] := by
  subst hS hT
  exact Kind.rd_new (k := kNd) (l := [⟨O, K, lo, hi⟩]) rfl rfl (by simp)
theorem nsame_is (A B : Option Addr) (c d n : Nat) (a : List Nd) (hn : a.length = n) (w : World) (ha : kNd.Rd w w.heap.size A c a) (hb : kNd.Rd w w.heap.size B d a) :
    Calls Try.prog 17 #[.slice A n c, .slice B n d] w fun e w' => e = .returned (.bool true) ∧ Below w.heap.size w w' :=
  (ref_nsame A B c d n n a a hn.symm hn.symm true (sameN_iff.2 rfl) w ha hb).mono fun _ _ ⟨h1, _, h2⟩ => ⟨h1, below_quiet h2⟩
/-- Held against a node that the law writes down. -/
theorem nsame_lit (A : Option Addr) (c : Nat) (O K : Int) (S T : ByteArray) (lo hi : List UInt8) (hS : str lo = S) (hT : str hi = T) (w : World) (ha : kNd.Rd w w.heap.size A c [⟨O, K, lo, hi⟩]) :
    Calls Try.prog 17 #[.slice A 1 c, .slice (some ⟨w.heap.size, 0, none⟩) 1 1] (w.alloc (.cells #[.int .i64 O, .int .i64 K, .string S, .string T] 33)) fun e w' => e = .returned (.bool true) ∧ Below w.heap.size w w' := by
  refine (nsame_is A _ c 1 1 [⟨O, K, lo, hi⟩] rfl _ (ha.call (below_new w _)) (by rw [size1]; exact nd_rd w O K S T lo hi hS hT)).mono fun e w' ⟨h1, h2⟩ => ⟨h1, (below_new w _).trans (h2.mono (by rw [size1]; omega))⟩
theorem flat_next {ls : List (List Nd)} {k : Nat} {l : List Nd} (h : ls[k]? = some l) : (ls.take (k + 1)).flatten = (ls.take k).flatten ++ l := by
  rw [List.take_add_one, h]; simp
theorem flat_small {ls : List (List Nd)} {n : Nat} : (∀ l ∈ ls, SmallN n l) → SmallN (n * ls.length) ls.flatten := by
  induction ls with
  | nil => intro _; exact ⟨by simp, by simp⟩
  | cons a ls ih =>
    intro h
    obtain ⟨h1, h2⟩ := ih fun l hl => h l (List.mem_cons_of_mem _ hl)
    obtain ⟨h3, h4⟩ := h a (List.mem_cons_self ..)
    refine ⟨?_, fun r hr => ?_⟩
    · rw [List.flatten_cons, List.length_append, List.length_cons, Nat.mul_succ]; omega
    · rw [List.flatten_cons] at hr
      rcases List.mem_append.1 hr with hr | hr
      · exact h4 r hr
      · exact h2 r hr
theorem sl_at {w : World} {B : Nat} {A : Option Addr} {c : Nat} {sl : List Sl} (h : kSl.Rd w B A c sl) (hp : 0 < sl.length) : ∃ b o, A = some ⟨b, o, none⟩ ∧ b < B ∧ ∀ (k : Nat) (s : Sl), sl[k]? = some s → w.cell? ⟨b, o + k, none⟩ = some (.slice s.A s.n s.c) := by
  obtain ⟨b, o, h1, h2, h3⟩ := h.at_ hp
  refine ⟨b, o, h1, h2, fun k s hs => ?_⟩
  have := h3 k s hs 0 _ rfl
  rwa [show o + (k * kSl.size + 0) = o + k by show o + (k * 1 + 0) = o + k; omega] at this
set_option maxRecDepth 100000 in
set_option maxHeartbeats 8000000 in
theorem filterBuilds_walk (HP : NLeaf1C 23 preN) (HNT : NNotC 20) (HAN : NJoinC 18 andV) (HON : NJoinC 19 orV) (HRG : NRangesC 9) (HRT : NRightC 10) (HMT : NMatchC 12) (HA0 : NLeaf0C 21 [⟨1, 0, [], []⟩]) (HN0 : NLeaf0C 22 [⟨2, 0, [], []⟩]) (HBT : NLeaf2C 24 btwN) (HFR : NLeaf1C 25 fromN) (A : Option Addr) (c n : Nat) (ls : List (List Nd)) (lo hi : List UInt8) (hn : n = ls.length) (w : World) (ha : RdLL w w.heap.size A c ls) :
    Calls Try.prog 4 #[.slice A n c, .string (str lo), .string (str hi)] w fun e w' => e = .returned (.bool true) ∧ Below w.heap.size w w' := by
  have A0 := fun w => Lib.hid (awake09 HP HNT HAN HRG HRT HMT w)
  have HW := Lib.hid (Below.refl w.heap.size w)
  have zU : (str lo).size = lo.length := str_size lo
  have zV : (str hi).size = hi.length := str_size hi
  obtain ⟨U, hU⟩ : ∃ U, str lo = U := ⟨_, rfl⟩
  obtain ⟨V, hV⟩ : ∃ V, str hi = V := ⟨_, rfl⟩
  rw [hU] at zU ⊢
  rw [hV] at zV ⊢
  by_cases h10 : n ≤ 10
  case neg =>
    clear HP HNT HAN HON HRG HRT HMT HA0 HN0 HBT HFR hn ha hU hV zU zV
    go_enter Try.func4, Try.ntmps4
    go_wp2_with ((with_reducible refine (A0 _).out.mono ?_); rintro e w9 ⟨rfl, hq⟩; replace HW := Lib.hid (HW.out.trans (hq.mono HW.out.size)); clear hq)
    go_ret
    exact ⟨rfl, HW.out⟩
  by_cases hu : U.size ≤ 300
  case neg =>
    clear HP HNT HAN HON HRG HRT HMT HA0 HN0 HBT HFR hn ha hU hV zU zV
    go_enter Try.func4, Try.ntmps4
    go_wp2_with ((with_reducible refine (A0 _).out.mono ?_); rintro e w9 ⟨rfl, hq⟩; replace HW := Lib.hid (HW.out.trans (hq.mono HW.out.size)); clear hq)
    go_ret
    exact ⟨rfl, HW.out⟩
  by_cases hw : V.size ≤ 300
  case neg =>
    clear HP HNT HAN HON HRG HRT HMT HA0 HN0 HBT HFR hn ha hU hV zU zV
    go_enter Try.func4, Try.ntmps4
    go_wp2_with ((with_reducible refine (A0 _).out.mono ?_); rintro e w9 ⟨rfl, hq⟩; replace HW := Lib.hid (HW.out.trans (hq.mono HW.out.size)); clear hq)
    go_ret
    exact ⟨rfl, HW.out⟩
  have hlo : lo.length ≤ 1000 := by omega
  have hhi : hi.length ≤ 1000 := by omega
  have HLA := Lib.hid ha
  obtain ⟨sl, hsl, hlen, heach⟩ := ha
  have hcx : n ≤ c := by rw [hn, ← hlen]; exact hsl.room
  have HSL := Lib.hid hsl
  have HEA := Lib.hid heach
  have HN := Lib.hid hn
  have HLN := Lib.hid hlen
  clear hsl heach hn hlen zU zV
  go_enter Try.func4, Try.ntmps4
  go_wp2_with ((with_reducible refine (A0 _).out.mono ?_); rintro e w9 ⟨rfl, hq⟩; replace HW := Lib.hid (HW.out.trans (hq.mono HW.out.size)); clear hq)
  obtain ⟨w1, hw1⟩ : ∃ w1, w9 = w1 := ⟨_, rfl⟩
  subst hw1
  go_loopw [7, 30] (fun v i wr => ∃ k : Nat, k ≤ n ∧ Hid (kNd.Own wr w9.heap.size v (ls.take k).flatten) ∧ Hid (∀ l ∈ ls.take k, SmallN 40 l) ∧ i = .int .i64 k ∧ Hid (Below w9.heap.size w9 wr)) (fun _ i _ => n - (intOf i).toNat)
  case atStart => exact ⟨0, by omega, Kind.Own.nil _ _, (by intro l hl; cases hl), rfl, Below.refl _ _⟩
  case round =>
    obtain ⟨k, hk, HO, HSM, rfl, HB⟩ := hrel
    have hb0 := HW.out.trans (HB.out.mono HW.out.size)
    by_cases hlt : k < n
    · obtain ⟨s, hs, -, -⟩ := get_some (l := sl) (k := k) (by have := HN.out; have := HLN.out; omega)
      obtain ⟨l, hl, -, -⟩ := get_some (l := ls) (k := k) (by have := HN.out; omega)
      obtain ⟨b, o, rfl, hb1, hcell⟩ := sl_at HSL.out (by have := HN.out; have := HLN.out; omega)
      have c0 := ((bcell hb0).1 _ _ hb1).trans (hcell k s hs)
      obtain ⟨en, er⟩ := HEA.out k s l hs hl
      obtain ⟨As, ns, cs⟩ := s
      change ns = l.length at en
      change kNd.Rd w w.heap.size As cs l at er
      change wr.cell? ⟨b, o + k, none⟩ = some (.slice As ns cs) at c0
      obtain ⟨v, hv⟩ : ∃ v, longN 40 l = v := ⟨_, rfl⟩
      have L := Lib.hid (nlong_is 40 As cs ns 40 rfl l en (by omega) v hv wr (er.call hb0))
      have hkn2 : (k : Int) < (n : Int) := by omega
      have hk2 : (0 : Int) ≤ (k : Int) := by omega
      cases v
      · have hsm := longN_small hv
        have HX := Lib.hid (flat_next hl)
        have hfl := (flat_small HSM.out).1
        have HLE := Lib.hid (show (ls.take k).flatten.length + l.length ≤ 1000000 by have := hsm.1; rw [List.length_take] at hfl; have : min k ls.length ≤ 10 := by omega
                                                                                     omega)
        have HSM2 : Hid (∀ l' ∈ ls.take (k + 1), SmallN 40 l') := by
          intro l' hl'
          rw [List.take_add_one, hl] at hl'
          rcases List.mem_append.1 hl' with h | h
          · exact HSM.out l' h
          · simp at h; subst h; exact hsm
        have HER := Lib.hid (er.call hb0)
        have HEN := Lib.hid en
        clear hs hl hcell er en hv hsm hfl hb0
        go_wp2_with (first
          | ((with_reducible refine L.out.mono ?_); rintro e w8 ⟨rfl, rfl⟩)
          | (at_builtin; refine wpList_app_k kNd rfl (.tmp 36) (.tmp 37) rfl w9.heap.size _ _ rfl HO.out _ As cs ns l HEN.out rfl HER.out.row HLE.out (by decide) HB.out.size ?_; intro v3 w3 hown3 _ hb3 _; have HO3 := Lib.hid hown3; have HB3 := Lib.hid (HB.out.trans hb3); clear hown3 hb3))
        go_roundw
        case rel => exact ⟨k + 1, by omega, by have h := HO3.out; rw [HX.out]; exact h, HSM2, by go_num, HB3⟩
        case measure => simp [intOf]; omega
      · clear hs hl hcell er en hv
        go_wp2_with ((with_reducible refine L.out.mono ?_); rintro e w8 ⟨rfl, rfl⟩)
        go_ret
        exact ⟨rfl, hb0⟩
    · have hkn : ls.take k = ls := List.take_of_length_le (by have := HN.out; omega)
      rw [hkn] at HO HSM
      obtain ⟨AL, hAL⟩ : ∃ AL, ls.flatten = AL := ⟨_, rfl⟩
      have hsa := flat_small HSM.out
      rw [hAL] at HO hsa
      obtain ⟨N7, hN7⟩ : ∃ N, AL.length = N := ⟨_, rfl⟩
      obtain ⟨A7, c7, rfl, hrd7⟩ := HO.out.read_n hN7.symm
      have hN9 : N7 ≤ 400 := by have h1 := hsa.1; rw [hN7] at h1; have h2 := HN.out; omega
      have sAL : SmallN 500 AL := ⟨by omega, hsa.2⟩
      obtain ⟨w9, hw9⟩ : ∃ w9, w9 = wr := ⟨_, rfl⟩
      subst hw9
      replace HW := Lib.hid hb0
      have HAL := Lib.hid hrd7
      have HLL := Lib.hid (HLA.out.call hb0)
      have HNAL := Lib.hid hN7.symm
      have HLE1 := Lib.hid (show ([] : List Nd).length + AL.length ≤ 1000000 by rw [hN7]; simp; omega)
      have HLE2 := Lib.hid (show AL.length + 1 ≤ 1000000 by omega)
      have HM7 := Lib.hid (show N7 + 1 = (AL ++ [(⟨7, (n : Int), [], []⟩ : Nd)]).length by rw [List.length_append, hN7]; rfl)
      have HM8 := Lib.hid (show N7 + 1 = (AL ++ [(⟨8, (n : Int), [], []⟩ : Nd)]).length by rw [List.length_append, hN7]; rfl)
      have HM6 := Lib.hid (show N7 + 1 = (AL ++ [(⟨6, 1, [], []⟩ : Nd)]).length by rw [List.length_append, hN7]; rfl)
      have RW7 := fun w => Lib.hid (nd_rd w 7 (n : Int) ⟨#[]⟩ ⟨#[]⟩ [] [] rfl rfl).row
      have RW8 := fun w => Lib.hid (nd_rd w 8 (n : Int) ⟨#[]⟩ ⟨#[]⟩ [] [] rfl rfl).row
      have RW6 := fun w => Lib.hid (nd_rd w 6 1 ⟨#[]⟩ ⟨#[]⟩ [] [] rfl rfl).row
      obtain ⟨NA, hNA⟩ : ∃ N, (andV ls).length = N := ⟨_, rfl⟩
      have hNO : (orV ls).length = NA := by rw [← hNA]; cases ls <;> simp [andV, orV, joinV]
      have CA := fun w h => Lib.hid (HAN A c n ls HN.out h10 (fun l hl => (HSM.out l hl).mono (by omega)) NA hNA w h)
      have CO := fun w h => Lib.hid (HON A c n ls HN.out h10 (fun l hl => (HSM.out l hl).mono (by omega)) NA hNO w h)
      have CN := fun w h => Lib.hid (show Calls Try.prog 20 _ w (RetN w (N7 + 1) (AL ++ [⟨6, 1, [], []⟩])) from HNT A7 c7 N7 AL hN7.symm sAL (N7 + 1) (by unfold notN; rw [List.length_append, hN7]; rfl) w h)
      have SA := fun A B c d w h1 h2 => Lib.hid (nsame_is A B c d NA (andV ls) hNA w h1 h2)
      have SO := fun A B c d w h1 h2 => Lib.hid (nsame_is A B c d NA (orV ls) hNO w h1 h2)
      have SN := fun A B c d w h1 h2 => Lib.hid (nsame_is A B c d (N7 + 1) (AL ++ [⟨6, 1, [], []⟩]) HM6.out.symm w h1 h2)
      have L1 := fun w => Lib.hid (HA0 w)
      have L2 := fun w => Lib.hid (HN0 w)
      have L3 := fun w => Lib.hid (show Calls Try.prog 23 _ w (RetN w 1 [⟨3, 0, lo, []⟩]) from HP lo U hU hlo w)
      have L4 := fun w => Lib.hid (show Calls Try.prog 24 _ w (RetN w 1 [⟨4, 0, lo, hi⟩]) from HBT lo hi U V hU hV hlo hhi w)
      have L5 := fun w => Lib.hid (show Calls Try.prog 25 _ w (RetN w 1 [⟨5, 0, lo, []⟩]) from HFR lo U hU hlo w)
      have Z1 := fun A c w h => Lib.hid (nsame_lit A c 1 0 ⟨#[]⟩ ⟨#[]⟩ [] [] rfl rfl w h)
      have Z2 := fun A c w h => Lib.hid (nsame_lit A c 2 0 ⟨#[]⟩ ⟨#[]⟩ [] [] rfl rfl w h)
      have Z3 := fun A c w h => Lib.hid (nsame_lit A c 3 0 U ⟨#[]⟩ lo [] hU rfl w h)
      have Z4 := fun A c w h => Lib.hid (nsame_lit A c 4 0 U V lo hi hU hV w h)
      have Z5 := fun A c w h => Lib.hid (nsame_lit A c 5 0 U ⟨#[]⟩ lo [] hU rfl w h)
      have HNA := Lib.hid hNA
      have HAV := Lib.hid (show n ≠ 0 → andV ls = AL ++ [⟨7, (n : Int), [], []⟩] ∧ orV ls = AL ++ [⟨8, (n : Int), [], []⟩] ∧ NA = N7 + 1 from fun h => by
        have hn := HN.out
        cases ls with
        | nil => exact absurd hn h
        | cons a r =>
          have e1 : andV (a :: r) = AL ++ [⟨7, (n : Int), [], []⟩] := by rw [hn, ← hAL]; rfl
          have e2 : orV (a :: r) = AL ++ [⟨8, (n : Int), [], []⟩] := by rw [hn, ← hAL]; rfl
          exact ⟨e1, e2, by rw [← hNA, e1, List.length_append, hN7]; rfl⟩)
      have HAW := Lib.hid (show n = 0 → andV ls = [⟨1, 0, [], []⟩] ∧ orV ls = [⟨2, 0, [], []⟩] ∧ NA = 1 from fun h => by
        have hn := HN.out
        cases ls with
        | nil => exact ⟨rfl, rfl, hNA.symm⟩
        | cons a r => rw [h] at hn; cases hn)
      clear HP HNT HAN HON HRG HRT HMT HA0 HN0 HBT HFR hU hV hlo hhi hAL hsa hN7 hrd7 sAL hNA hNO hkn hk hb0 HO HSM HSL HEA HN HLN HB HLA h10 hcx hN9
      go_upto_if 58 with (first
        | (at_builtin; refine wpList_app_k kNd rfl (.tmp 40) (.tmp 41) rfl w9.heap.size (.slice (some ⟨w9.heap.size, 0, none⟩) 0 0) [] rfl (nown_new w9) _ A7 c7 N7 AL HNAL.out rfl (HAL.out.call (below_new w9 _)).row HLE1.out (by decide) (le_alloc (Nat.le_refl _) _) ?_; intro v3 w3 hown3 _ hb3 _; have hq3 := (below_new w9 _).trans hb3; have HO3 := Lib.hid (show kNd.Own w3 w9.heap.size v3 AL from hown3); clear hb3 hown3)
        | (at_builtin; refine wpList_app_k kNd rfl (.tmp 42) (.tmp 46) rfl w9.heap.size _ AL rfl (Kind.Own.alloc HO3.out _) _ (some ⟨w3.heap.size, 0, none⟩) 1 1 [⟨7, (n : Int), [], []⟩] rfl rfl (RW7 w3).out HLE2.out (by decide) (le_alloc hq3.size _) ?_; intro v4 w9 hown4 _ hb4 _; have hq := (hq3.alloc hq3.size _).trans hb4; obtain ⟨A_HR1, c_HR1, rfl, hrd⟩ := hown4.read_n HM7.out; replace HW := Lib.hid (HW.out.trans (hq.mono HW.out.size)); (try replace HAL := Lib.hid (HAL.out.call hq)); (try replace HLL := Lib.hid (HLL.out.call hq)); (try replace HN1 := Lib.hid (HN1.out.call hq)); (try replace HN2 := Lib.hid (HN2.out.call hq)); (try replace HN3 := Lib.hid (HN3.out.call hq)); (try replace HR1 := Lib.hid (HR1.out.call hq)); (try replace HR2 := Lib.hid (HR2.out.call hq)); (try replace HR3 := Lib.hid (HR3.out.call hq)); (try replace HZ := Lib.hid (HZ.out.call hq)); have HR1 := Lib.hid hrd; clear hq hb4 hown4 hrd HO3 hq3)
        | (at_builtin; refine wpList_app_k kNd rfl (.tmp 48) (.tmp 49) rfl w9.heap.size (.slice (some ⟨w9.heap.size, 0, none⟩) 0 0) [] rfl (nown_new w9) _ A7 c7 N7 AL HNAL.out rfl (HAL.out.call (below_new w9 _)).row HLE1.out (by decide) (le_alloc (Nat.le_refl _) _) ?_; intro v3 w3 hown3 _ hb3 _; have hq3 := (below_new w9 _).trans hb3; have HO3 := Lib.hid (show kNd.Own w3 w9.heap.size v3 AL from hown3); clear hb3 hown3)
        | (at_builtin; refine wpList_app_k kNd rfl (.tmp 50) (.tmp 54) rfl w9.heap.size _ AL rfl (Kind.Own.alloc HO3.out _) _ (some ⟨w3.heap.size, 0, none⟩) 1 1 [⟨8, (n : Int), [], []⟩] rfl rfl (RW8 w3).out HLE2.out (by decide) (le_alloc hq3.size _) ?_; intro v4 w9 hown4 _ hb4 _; have hq := (hq3.alloc hq3.size _).trans hb4; obtain ⟨A_HR2, c_HR2, rfl, hrd⟩ := hown4.read_n HM8.out; replace HW := Lib.hid (HW.out.trans (hq.mono HW.out.size)); (try replace HAL := Lib.hid (HAL.out.call hq)); (try replace HLL := Lib.hid (HLL.out.call hq)); (try replace HN1 := Lib.hid (HN1.out.call hq)); (try replace HN2 := Lib.hid (HN2.out.call hq)); (try replace HN3 := Lib.hid (HN3.out.call hq)); (try replace HR1 := Lib.hid (HR1.out.call hq)); (try replace HR2 := Lib.hid (HR2.out.call hq)); (try replace HR3 := Lib.hid (HR3.out.call hq)); (try replace HZ := Lib.hid (HZ.out.call hq)); have HR2 := Lib.hid hrd; clear hq hb4 hown4 hrd HO3 hq3))
      go_cut [10, 11] from 12 (fun s10 s11 wx => ∃ (A1 A2 : Option Addr) (c1 c2 : Nat), s10 = .slice A1 NA c1 ∧ s11 = .slice A2 NA c2 ∧ Hid (kNd.Rd wx wx.heap.size A1 c1 (andV ls)) ∧ Hid (kNd.Rd wx wx.heap.size A2 c2 (orV ls)) ∧ Hid (kNd.Rd wx wx.heap.size A7 c7 AL) ∧ Hid (RdLL wx wx.heap.size A c ls) ∧ Hid (Below w.heap.size w wx))
      case first =>
        by_cases hn0 : n = 0
        · obtain ⟨e1, e2, e3⟩ := HAW.out hn0
          have hq := (below_new w9 (.cells #[.int .i64 1, .int .i64 0, .string ⟨#[]⟩, .string ⟨#[]⟩] 33)).trans ((below_new (w9.alloc (.cells #[.int .i64 1, .int .i64 0, .string ⟨#[]⟩, .string ⟨#[]⟩] 33)) (.cells #[.int .i64 2, .int .i64 0, .string ⟨#[]⟩, .string ⟨#[]⟩] 33)).mono (by rw [size1]; omega))
          have G1 := Lib.hid ((show kNd.Rd _ _ _ _ _ from (size1 w9 _).symm ▸ nd_rd w9 1 0 ⟨#[]⟩ ⟨#[]⟩ [] [] rfl rfl).call (below_new (w9.alloc (.cells #[.int .i64 1, .int .i64 0, .string ⟨#[]⟩, .string ⟨#[]⟩] 33)) (.cells #[.int .i64 2, .int .i64 0, .string ⟨#[]⟩, .string ⟨#[]⟩] 33)))
          have G2 := Lib.hid (nd_rd (w9.alloc (.cells #[.int .i64 1, .int .i64 0, .string ⟨#[]⟩, .string ⟨#[]⟩] 33)) 2 0 ⟨#[]⟩ ⟨#[]⟩ [] [] rfl rfl)
          have HQ := Lib.hid hq
          have HE := Lib.hid (And.intro e1 (And.intro e2 e3))
          have hz : ((n : Int) == 0) = true := by rw [hn0]; rfl
          clear e1 e2 e3 hq hn0
          go_wp2_with fail
          go_meet
          exact ⟨some ⟨w9.heap.size, 0, none⟩, some ⟨w9.heap.size + 1, 0, none⟩, 1, 1, by rw [HE.out.2.2], by rw [HE.out.2.2], by rw [HE.out.1]; exact G1, by rw [HE.out.2.1]; first | exact G2 | (rw [← size1 w9]; exact G2) | (have G3 := G2; simp only [size1] at G3; simp only [size1]; exact G3), Lib.hid (HAL.out.call HQ.out), Lib.hid (HLL.out.call HQ.out), Lib.hid (HW.out.trans (HQ.out.mono HW.out.size))⟩
        · obtain ⟨e1, e2, e3⟩ := HAV.out hn0
          have HE := Lib.hid (And.intro e1 (And.intro e2 e3))
          have hz : ((n : Int) == 0) = false := beq_eq_false_iff_ne.2 (by omega)
          clear e1 e2 e3
          go_wp2_with fail
          go_meet
          exact ⟨A_HR1, A_HR2, c_HR1, c_HR2, by rw [HE.out.2.2], by rw [HE.out.2.2], by rw [HE.out.1]; exact HR1, by rw [HE.out.2.1]; exact HR2, HAL, HLL, HW⟩
      case rest =>
        clear HR1 HR2 HAL HLL HW
        obtain ⟨A1, A2, c1, c2, rfl, rfl, HR1, HR2, HAL, HLL, HW⟩ := hcut
        obtain ⟨w9, hw9⟩ : ∃ w9, w9 = wc := ⟨_, rfl⟩
        subst hw9
        go_wp2_with (first
          | (at_builtin; refine wpList_app_k kNd rfl (.tmp 63) (.tmp 64) rfl w9.heap.size (.slice (some ⟨w9.heap.size, 0, none⟩) 0 0) [] rfl (nown_new w9) _ A7 c7 N7 AL HNAL.out rfl (HAL.out.call (below_new w9 _)).row HLE1.out (by decide) (le_alloc (Nat.le_refl _) _) ?_; intro v3 w3 hown3 _ hb3 _; have hq3 := (below_new w9 _).trans hb3; have HO3 := Lib.hid (show kNd.Own w3 w9.heap.size v3 AL from hown3); clear hb3 hown3)
          | (at_builtin; refine wpList_app_k kNd rfl (.tmp 65) (.tmp 67) rfl w9.heap.size _ AL rfl (Kind.Own.alloc HO3.out _) _ (some ⟨w3.heap.size, 0, none⟩) 1 1 [⟨6, 1, [], []⟩] rfl rfl (RW6 w3).out HLE2.out (by decide) (le_alloc hq3.size _) ?_; intro v4 w9 hown4 _ hb4 _; have hq := (hq3.alloc hq3.size _).trans hb4; obtain ⟨A_HR3, c_HR3, rfl, hrd⟩ := hown4.read_n HM6.out; replace HW := Lib.hid (HW.out.trans (hq.mono HW.out.size)); (try replace HAL := Lib.hid (HAL.out.call hq)); (try replace HLL := Lib.hid (HLL.out.call hq)); (try replace HN1 := Lib.hid (HN1.out.call hq)); (try replace HN2 := Lib.hid (HN2.out.call hq)); (try replace HN3 := Lib.hid (HN3.out.call hq)); (try replace HR1 := Lib.hid (HR1.out.call hq)); (try replace HR2 := Lib.hid (HR2.out.call hq)); (try replace HR3 := Lib.hid (HR3.out.call hq)); (try replace HZ := Lib.hid (HZ.out.call hq)); have HR3 := Lib.hid hrd; clear hq hb4 hown4 hrd HO3 hq3)
          | ((with_reducible refine (CA _ HLL.out).out.mono ?_); rintro e w9 ⟨A_HN1, c_HN1, rfl, hrd, hq⟩; replace HW := Lib.hid (HW.out.trans (hq.mono HW.out.size)); (try replace HAL := Lib.hid (HAL.out.call hq)); (try replace HLL := Lib.hid (HLL.out.call hq)); (try replace HN1 := Lib.hid (HN1.out.call hq)); (try replace HN2 := Lib.hid (HN2.out.call hq)); (try replace HN3 := Lib.hid (HN3.out.call hq)); (try replace HR1 := Lib.hid (HR1.out.call hq)); (try replace HR2 := Lib.hid (HR2.out.call hq)); (try replace HR3 := Lib.hid (HR3.out.call hq)); (try replace HZ := Lib.hid (HZ.out.call hq)); have HN1 := Lib.hid hrd; clear hrd hq)
          | ((with_reducible refine (SA _ _ _ _ _ HN1.out HR1.out).out.mono ?_); rintro e w9 ⟨rfl, hq⟩; replace HW := Lib.hid (HW.out.trans (hq.mono HW.out.size)); (try replace HAL := Lib.hid (HAL.out.call hq)); (try replace HLL := Lib.hid (HLL.out.call hq)); (try replace HN1 := Lib.hid (HN1.out.call hq)); (try replace HN2 := Lib.hid (HN2.out.call hq)); (try replace HN3 := Lib.hid (HN3.out.call hq)); (try replace HR1 := Lib.hid (HR1.out.call hq)); (try replace HR2 := Lib.hid (HR2.out.call hq)); (try replace HR3 := Lib.hid (HR3.out.call hq)); (try replace HZ := Lib.hid (HZ.out.call hq)); clear hq)
          | ((with_reducible refine (CO _ HLL.out).out.mono ?_); rintro e w9 ⟨A_HN2, c_HN2, rfl, hrd, hq⟩; replace HW := Lib.hid (HW.out.trans (hq.mono HW.out.size)); (try replace HAL := Lib.hid (HAL.out.call hq)); (try replace HLL := Lib.hid (HLL.out.call hq)); (try replace HN1 := Lib.hid (HN1.out.call hq)); (try replace HN2 := Lib.hid (HN2.out.call hq)); (try replace HN3 := Lib.hid (HN3.out.call hq)); (try replace HR1 := Lib.hid (HR1.out.call hq)); (try replace HR2 := Lib.hid (HR2.out.call hq)); (try replace HR3 := Lib.hid (HR3.out.call hq)); (try replace HZ := Lib.hid (HZ.out.call hq)); have HN2 := Lib.hid hrd; clear hrd hq)
          | ((with_reducible refine (SO _ _ _ _ _ HN2.out HR2.out).out.mono ?_); rintro e w9 ⟨rfl, hq⟩; replace HW := Lib.hid (HW.out.trans (hq.mono HW.out.size)); (try replace HAL := Lib.hid (HAL.out.call hq)); (try replace HLL := Lib.hid (HLL.out.call hq)); (try replace HN1 := Lib.hid (HN1.out.call hq)); (try replace HN2 := Lib.hid (HN2.out.call hq)); (try replace HN3 := Lib.hid (HN3.out.call hq)); (try replace HR1 := Lib.hid (HR1.out.call hq)); (try replace HR2 := Lib.hid (HR2.out.call hq)); (try replace HR3 := Lib.hid (HR3.out.call hq)); (try replace HZ := Lib.hid (HZ.out.call hq)); clear hq)
          | ((with_reducible refine (CN _ HAL.out).out.mono ?_); rintro e w9 ⟨A_HN3, c_HN3, rfl, hrd, hq⟩; replace HW := Lib.hid (HW.out.trans (hq.mono HW.out.size)); (try replace HAL := Lib.hid (HAL.out.call hq)); (try replace HLL := Lib.hid (HLL.out.call hq)); (try replace HN1 := Lib.hid (HN1.out.call hq)); (try replace HN2 := Lib.hid (HN2.out.call hq)); (try replace HN3 := Lib.hid (HN3.out.call hq)); (try replace HR1 := Lib.hid (HR1.out.call hq)); (try replace HR2 := Lib.hid (HR2.out.call hq)); (try replace HR3 := Lib.hid (HR3.out.call hq)); (try replace HZ := Lib.hid (HZ.out.call hq)); have HN3 := Lib.hid hrd; clear hrd hq)
          | ((with_reducible refine (SN _ _ _ _ _ HN3.out HR3.out).out.mono ?_); rintro e w9 ⟨rfl, hq⟩; replace HW := Lib.hid (HW.out.trans (hq.mono HW.out.size)); (try replace HAL := Lib.hid (HAL.out.call hq)); (try replace HLL := Lib.hid (HLL.out.call hq)); (try replace HN1 := Lib.hid (HN1.out.call hq)); (try replace HN2 := Lib.hid (HN2.out.call hq)); (try replace HN3 := Lib.hid (HN3.out.call hq)); (try replace HR1 := Lib.hid (HR1.out.call hq)); (try replace HR2 := Lib.hid (HR2.out.call hq)); (try replace HR3 := Lib.hid (HR3.out.call hq)); (try replace HZ := Lib.hid (HZ.out.call hq)); clear hq)
          | ((with_reducible refine (L1 _).out.mono ?_); rintro e w9 ⟨A_HZ, c_HZ, rfl, hrd, hq⟩; replace HW := Lib.hid (HW.out.trans (hq.mono HW.out.size)); (try replace HAL := Lib.hid (HAL.out.call hq)); (try replace HLL := Lib.hid (HLL.out.call hq)); (try replace HN1 := Lib.hid (HN1.out.call hq)); (try replace HN2 := Lib.hid (HN2.out.call hq)); (try replace HN3 := Lib.hid (HN3.out.call hq)); (try replace HR1 := Lib.hid (HR1.out.call hq)); (try replace HR2 := Lib.hid (HR2.out.call hq)); (try replace HR3 := Lib.hid (HR3.out.call hq)); (try replace HZ := Lib.hid (HZ.out.call hq)); have HZ := Lib.hid hrd; clear hrd hq)
          | ((with_reducible refine (Z1 _ _ _ HZ.out).out.mono ?_); rintro e w9 ⟨rfl, hq⟩; replace HW := Lib.hid (HW.out.trans (hq.mono HW.out.size)); (try replace HAL := Lib.hid (HAL.out.call hq)); (try replace HLL := Lib.hid (HLL.out.call hq)); (try replace HN1 := Lib.hid (HN1.out.call hq)); (try replace HN2 := Lib.hid (HN2.out.call hq)); (try replace HN3 := Lib.hid (HN3.out.call hq)); (try replace HR1 := Lib.hid (HR1.out.call hq)); (try replace HR2 := Lib.hid (HR2.out.call hq)); (try replace HR3 := Lib.hid (HR3.out.call hq)); (try replace HZ := Lib.hid (HZ.out.call hq)); clear hq)
          | ((with_reducible refine (L2 _).out.mono ?_); rintro e w9 ⟨A_HZ, c_HZ, rfl, hrd, hq⟩; replace HW := Lib.hid (HW.out.trans (hq.mono HW.out.size)); (try replace HAL := Lib.hid (HAL.out.call hq)); (try replace HLL := Lib.hid (HLL.out.call hq)); (try replace HN1 := Lib.hid (HN1.out.call hq)); (try replace HN2 := Lib.hid (HN2.out.call hq)); (try replace HN3 := Lib.hid (HN3.out.call hq)); (try replace HR1 := Lib.hid (HR1.out.call hq)); (try replace HR2 := Lib.hid (HR2.out.call hq)); (try replace HR3 := Lib.hid (HR3.out.call hq)); (try replace HZ := Lib.hid (HZ.out.call hq)); have HZ := Lib.hid hrd; clear hrd hq)
          | ((with_reducible refine (Z2 _ _ _ HZ.out).out.mono ?_); rintro e w9 ⟨rfl, hq⟩; replace HW := Lib.hid (HW.out.trans (hq.mono HW.out.size)); (try replace HAL := Lib.hid (HAL.out.call hq)); (try replace HLL := Lib.hid (HLL.out.call hq)); (try replace HN1 := Lib.hid (HN1.out.call hq)); (try replace HN2 := Lib.hid (HN2.out.call hq)); (try replace HN3 := Lib.hid (HN3.out.call hq)); (try replace HR1 := Lib.hid (HR1.out.call hq)); (try replace HR2 := Lib.hid (HR2.out.call hq)); (try replace HR3 := Lib.hid (HR3.out.call hq)); (try replace HZ := Lib.hid (HZ.out.call hq)); clear hq)
          | ((with_reducible refine (L3 _).out.mono ?_); rintro e w9 ⟨A_HZ, c_HZ, rfl, hrd, hq⟩; replace HW := Lib.hid (HW.out.trans (hq.mono HW.out.size)); (try replace HAL := Lib.hid (HAL.out.call hq)); (try replace HLL := Lib.hid (HLL.out.call hq)); (try replace HN1 := Lib.hid (HN1.out.call hq)); (try replace HN2 := Lib.hid (HN2.out.call hq)); (try replace HN3 := Lib.hid (HN3.out.call hq)); (try replace HR1 := Lib.hid (HR1.out.call hq)); (try replace HR2 := Lib.hid (HR2.out.call hq)); (try replace HR3 := Lib.hid (HR3.out.call hq)); (try replace HZ := Lib.hid (HZ.out.call hq)); have HZ := Lib.hid hrd; clear hrd hq)
          | ((with_reducible refine (Z3 _ _ _ HZ.out).out.mono ?_); rintro e w9 ⟨rfl, hq⟩; replace HW := Lib.hid (HW.out.trans (hq.mono HW.out.size)); (try replace HAL := Lib.hid (HAL.out.call hq)); (try replace HLL := Lib.hid (HLL.out.call hq)); (try replace HN1 := Lib.hid (HN1.out.call hq)); (try replace HN2 := Lib.hid (HN2.out.call hq)); (try replace HN3 := Lib.hid (HN3.out.call hq)); (try replace HR1 := Lib.hid (HR1.out.call hq)); (try replace HR2 := Lib.hid (HR2.out.call hq)); (try replace HR3 := Lib.hid (HR3.out.call hq)); (try replace HZ := Lib.hid (HZ.out.call hq)); clear hq)
          | ((with_reducible refine (L4 _).out.mono ?_); rintro e w9 ⟨A_HZ, c_HZ, rfl, hrd, hq⟩; replace HW := Lib.hid (HW.out.trans (hq.mono HW.out.size)); (try replace HAL := Lib.hid (HAL.out.call hq)); (try replace HLL := Lib.hid (HLL.out.call hq)); (try replace HN1 := Lib.hid (HN1.out.call hq)); (try replace HN2 := Lib.hid (HN2.out.call hq)); (try replace HN3 := Lib.hid (HN3.out.call hq)); (try replace HR1 := Lib.hid (HR1.out.call hq)); (try replace HR2 := Lib.hid (HR2.out.call hq)); (try replace HR3 := Lib.hid (HR3.out.call hq)); (try replace HZ := Lib.hid (HZ.out.call hq)); have HZ := Lib.hid hrd; clear hrd hq)
          | ((with_reducible refine (Z4 _ _ _ HZ.out).out.mono ?_); rintro e w9 ⟨rfl, hq⟩; replace HW := Lib.hid (HW.out.trans (hq.mono HW.out.size)); (try replace HAL := Lib.hid (HAL.out.call hq)); (try replace HLL := Lib.hid (HLL.out.call hq)); (try replace HN1 := Lib.hid (HN1.out.call hq)); (try replace HN2 := Lib.hid (HN2.out.call hq)); (try replace HN3 := Lib.hid (HN3.out.call hq)); (try replace HR1 := Lib.hid (HR1.out.call hq)); (try replace HR2 := Lib.hid (HR2.out.call hq)); (try replace HR3 := Lib.hid (HR3.out.call hq)); (try replace HZ := Lib.hid (HZ.out.call hq)); clear hq)
          | ((with_reducible refine (L5 _).out.mono ?_); rintro e w9 ⟨A_HZ, c_HZ, rfl, hrd, hq⟩; replace HW := Lib.hid (HW.out.trans (hq.mono HW.out.size)); (try replace HAL := Lib.hid (HAL.out.call hq)); (try replace HLL := Lib.hid (HLL.out.call hq)); (try replace HN1 := Lib.hid (HN1.out.call hq)); (try replace HN2 := Lib.hid (HN2.out.call hq)); (try replace HN3 := Lib.hid (HN3.out.call hq)); (try replace HR1 := Lib.hid (HR1.out.call hq)); (try replace HR2 := Lib.hid (HR2.out.call hq)); (try replace HR3 := Lib.hid (HR3.out.call hq)); (try replace HZ := Lib.hid (HZ.out.call hq)); have HZ := Lib.hid hrd; clear hrd hq)
          | ((with_reducible refine (Z5 _ _ _ HZ.out).out.mono ?_); rintro e w9 ⟨rfl, hq⟩; replace HW := Lib.hid (HW.out.trans (hq.mono HW.out.size)); (try replace HAL := Lib.hid (HAL.out.call hq)); (try replace HLL := Lib.hid (HLL.out.call hq)); (try replace HN1 := Lib.hid (HN1.out.call hq)); (try replace HN2 := Lib.hid (HN2.out.call hq)); (try replace HN3 := Lib.hid (HN3.out.call hq)); (try replace HR1 := Lib.hid (HR1.out.call hq)); (try replace HR2 := Lib.hid (HR2.out.call hq)); (try replace HR3 := Lib.hid (HR3.out.call hq)); (try replace HZ := Lib.hid (HZ.out.call hq)); clear hq))
        go_ret
        exact ⟨rfl, HW.out⟩
end Go.Proofs.Ytbobgkepnocenaa

/-
  The laws of layer 9: what the program's functions do, as they ask it.
-/
namespace Go.Proofs.Ytbobgkepnocenaa
open Go.RowKit

theorem over_leaf (O : Int) (lo hi : List UInt8) (S T : ByteArray) (hS : str lo = S) (hT : str hi = T) (w : World) :
    Calls Try.prog 44 #[.agg #[.int .i64 O, .int .i64 0, .string S, .string T], .slice none 0 0] w (RetN w 1 [⟨O, 0, lo, hi⟩]) :=
  flt_over O 0 lo hi S T hS hT none 0 0 [] rfl (by omega) (fun l hl => by cases hl) 1 rfl w (rdLL_nil w _)
theorem over_some (O : Int) (A : Option Addr) (c n : Nat) (ls : List (List Nd)) (hn : n = ls.length) (h9 : n ≤ 100) (hl : ∀ l ∈ ls, l.length ≤ 1000) (N : Nat) (hN : (joinV O ls).length = N) (w : World) (hr : RdLL w w.heap.size A c ls) :
    Calls Try.prog 44 #[.agg #[.int .i64 O, .int .i64 0, .string ⟨#[]⟩, .string ⟨#[]⟩], .slice A n c] w (RetN w N (joinV O ls)) := by
  subst hn
  exact flt_over O 0 [] [] ⟨#[]⟩ ⟨#[]⟩ rfl rfl A c _ ls rfl h9 hl N hN w hr
theorem k_all : NLeaf0C 21 [⟨1, 0, [], []⟩] := fun w => by
  have C := fun w => Lib.hid (over_leaf 1 [] [] ⟨#[]⟩ ⟨#[]⟩ rfl rfl w)
  go_enter Try.func21, Try.ntmps21
  go_wp2_with ((with_reducible refine (C _).out.mono ?_); rintro e w1 ⟨A, c, rfl, hrd, hq⟩; have HF := Lib.hid (show RetN w 1 _ (.returned (.slice A 1 c)) w1 from ⟨A, c, rfl, hrd, hq⟩); clear hrd hq)
  go_ret
  exact HF.out
theorem k_none : NLeaf0C 22 [⟨2, 0, [], []⟩] := fun w => by
  have C := fun w => Lib.hid (over_leaf 2 [] [] ⟨#[]⟩ ⟨#[]⟩ rfl rfl w)
  go_enter Try.func22, Try.ntmps22
  go_wp2_with ((with_reducible refine (C _).out.mono ?_); rintro e w1 ⟨A, c, rfl, hrd, hq⟩; have HF := Lib.hid (show RetN w 1 _ (.returned (.slice A 1 c)) w1 from ⟨A, c, rfl, hrd, hq⟩); clear hrd hq)
  go_ret
  exact HF.out
theorem k_prefix : NLeaf1C 23 preN := fun s U hU _ w => by
  have C := fun w => Lib.hid (over_leaf 3 s [] U ⟨#[]⟩ hU rfl w)
  clear hU
  go_enter Try.func23, Try.ntmps23
  go_wp2_with ((with_reducible refine (C _).out.mono ?_); rintro e w1 ⟨A, c, rfl, hrd, hq⟩; have HF := Lib.hid (show RetN w 1 (preN s) (.returned (.slice A 1 c)) w1 from ⟨A, c, rfl, hrd, hq⟩); clear hrd hq)
  go_ret
  exact HF.out
theorem k_from : NLeaf1C 25 fromN := fun s U hU _ w => by
  have C := fun w => Lib.hid (over_leaf 5 s [] U ⟨#[]⟩ hU rfl w)
  clear hU
  go_enter Try.func25, Try.ntmps25
  go_wp2_with ((with_reducible refine (C _).out.mono ?_); rintro e w1 ⟨A, c, rfl, hrd, hq⟩; have HF := Lib.hid (show RetN w 1 (fromN s) (.returned (.slice A 1 c)) w1 from ⟨A, c, rfl, hrd, hq⟩); clear hrd hq)
  go_ret
  exact HF.out
theorem k_between : NLeaf2C 24 btwN := fun s t U V hU hV _ _ w => by
  have C := fun w => Lib.hid (over_leaf 4 s t U V hU hV w)
  clear hU hV
  go_enter Try.func24, Try.ntmps24
  go_wp2_with ((with_reducible refine (C _).out.mono ?_); rintro e w1 ⟨A, c, rfl, hrd, hq⟩; have HF := Lib.hid (show RetN w 1 (btwN s t) (.returned (.slice A 1 c)) w1 from ⟨A, c, rfl, hrd, hq⟩); clear hrd hq)
  go_ret
  exact HF.out
theorem k_nnot : NNotC 20 := fun A c n a hn hs N hN w hr => by
  have e : joinV 6 [a] = notN a := by simp [joinV, notN]
  have C := Lib.hid (over_some 6 (some ⟨w.heap.size, 0, none⟩) 1 1 [a] rfl (by omega) (fun l hl => by
    rw [List.mem_singleton] at hl; subst hl; have := hs.1; omega) N (by rw [e]; exact hN) (w.alloc (.cells #[.slice A n c] 22)) (rdLL_one hn hr))
  rw [e] at C
  have HB := Lib.hid (below_new w (.cells #[.slice A n c] 22))
  clear hn hs hN hr e
  go_enter Try.func20, Try.ntmps20
  go_wp2_with ((with_reducible refine C.out.mono ?_); rintro e w1 ⟨A1, c1, rfl, hrd, hq⟩; have HF := Lib.hid (show RetN w N (notN a) (.returned (.slice A1 N c1)) w1 from ⟨A1, c1, rfl, hrd, HB.out.trans (hq.mono HB.out.size)⟩); clear hrd hq)
  go_ret
  exact HF.out
theorem k_and : NJoinC 18 andV := fun A c n ls hn h9 hs N hN w hr => by
  cases ls with
  | nil =>
    obtain rfl : n = 0 := hn
    obtain rfl : N = 1 := hN.symm
    have C := fun w => Lib.hid (k_all w)
    clear h9 hs hN hr
    go_enter Try.func18, Try.ntmps18
    go_wp2_with ((with_reducible refine (C _).out.mono ?_); rintro e w1 ⟨A1, c1, rfl, hrd, hq⟩; have HF := Lib.hid (show RetN w 1 (andV []) (.returned (.slice A1 1 c1)) w1 from ⟨A1, c1, rfl, hrd, hq⟩); clear hrd hq)
    go_ret
    exact HF.out
  | cons a r =>
    have C := Lib.hid (over_some 7 A c n (a :: r) hn (by omega) (fun l hl => by have := (hs l hl).1; omega) N hN w hr)
    have n0 : ((n : Int) == 0) = false := beq_eq_false_iff_ne.2 (by rw [hn, List.length_cons]; omega)
    have HX := Lib.hid (show joinV 7 (a :: r) = andV (a :: r) from rfl)
    clear hn hs hN hr
    go_enter Try.func18, Try.ntmps18
    go_wp2_with ((with_reducible refine C.out.mono ?_); rintro e w1 ⟨A1, c1, rfl, hrd, hq⟩; have HF := Lib.hid (show RetN w N _ (.returned (.slice A1 N c1)) w1 from ⟨A1, c1, rfl, hrd, hq⟩); clear hrd hq)
    go_ret
    exact HX.out ▸ HF.out
theorem k_or : NJoinC 19 orV := fun A c n ls hn h9 hs N hN w hr => by
  cases ls with
  | nil =>
    obtain rfl : n = 0 := hn
    obtain rfl : N = 1 := hN.symm
    have C := fun w => Lib.hid (k_none w)
    clear h9 hs hN hr
    go_enter Try.func19, Try.ntmps19
    go_wp2_with ((with_reducible refine (C _).out.mono ?_); rintro e w1 ⟨A1, c1, rfl, hrd, hq⟩; have HF := Lib.hid (show RetN w 1 (orV []) (.returned (.slice A1 1 c1)) w1 from ⟨A1, c1, rfl, hrd, hq⟩); clear hrd hq)
    go_ret
    exact HF.out
  | cons a r =>
    have C := Lib.hid (over_some 8 A c n (a :: r) hn (by omega) (fun l hl => by have := (hs l hl).1; omega) N hN w hr)
    have n0 : ((n : Int) == 0) = false := beq_eq_false_iff_ne.2 (by rw [hn, List.length_cons]; omega)
    have HX := Lib.hid (show joinV 8 (a :: r) = orV (a :: r) from rfl)
    clear hn hs hN hr
    go_enter Try.func19, Try.ntmps19
    go_wp2_with ((with_reducible refine C.out.mono ?_); rintro e w1 ⟨A1, c1, rfl, hrd, hq⟩; have HF := Lib.hid (show RetN w N _ (.returned (.slice A1 N c1)) w1 from ⟨A1, c1, rfl, hrd, hq⟩); clear hrd hq)
    go_ret
    exact HX.out ▸ HF.out
end Go.Proofs.Ytbobgkepnocenaa
