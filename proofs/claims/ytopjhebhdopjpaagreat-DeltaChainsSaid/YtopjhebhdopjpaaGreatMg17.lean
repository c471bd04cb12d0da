/-
  Several texts in one: FcdF, KcpB, RdQ, Kept2, KcpC, KcpD, KcpE, Law17H.
-/
import Derived.Deep.RegionLaw
import Derived.Deep.CutRange
import Derived.Handy
import Derived.Deep.RegionHeld3
import Derived.Test.YtopjhebhdopjpaaGreatMg16
namespace Go.Proofs.YtopjhebhdopjpaaGreat
open Go.RowKit

def RetO1 (w : World) (N : Nat) (l : List UInt8) (e : Ending) (w' : World) : Prop := ∃ A c, e = .returned (.slice A N c) ∧ OwnB w' w.heap.size (.slice A N c) l ∧ RdB w' w'.heap.size A c l ∧ Below w.heap.size w w'
theorem retO1_of {w w' : World} {N : Nat} {l : List UInt8} {v : Value} (hN : N = l.length) (ho : OwnB w' w.heap.size v l) (hb : Below w.heap.size w w') : RetO1 w N l (.returned v) w' := by
  obtain ⟨A, c, rfl, hr⟩ := ho.read_n hN
  exact ⟨A, c, rfl, ho, hr, hb⟩
theorem RdB.drew {w : World} {A : Option Addr} {c : Nat} {l : List UInt8} (h : RdB w w.heap.size A c l) : RdB w.drew w.drew.heap.size A c l := ⟨h.row, h.room, h.cap⟩
theorem rdB_call {w w' : World} {A : Option Addr} {c : Nat} {l : List UInt8} (h : RdB w w.heap.size A c l) (hb : Below w.heap.size w w') : RdB w' w'.heap.size A c l := ⟨(h.row.below hb).more hb.size, h.room, h.cap⟩
theorem okL_one {n : Nat} (h : n ≤ 281474976710656) : okL [(n : Int)] = true := by simp [okL, okN]; omega
theorem fcd_put1 (A A2 : Option Addr) (c N : Nat) (b : List UInt8) (hN : N = b.length) (hl : N ≤ 1000000) (n : Nat) (hn : n ≤ 281474976710656) (w : World) (hr : RdB w w.heap.size A c b) (h2 : RowAt w w.heap.size A2 (ints [(n : Int)])) :
    Calls Tryz.prog 62 #[.slice A N c, .slice A2 1 1] w (RetB2 w.heap.size w (b ++ putV n)) := by
  subst hN
  refine (varint_put A c w.heap.size b A2 1 1 [(n : Int)] w rfl hr h2 (fun x hx => ?_) (Nat.le_refl _) (by simp only [List.length_singleton]; omega)).mono fun e w' h => ?_
  · rw [List.mem_singleton] at hx
    subst hx
    omega
  · rcases h with ⟨-, h⟩ | ⟨h, -⟩
    · simpa [putsV] using h
    · rw [okL_one hn] at h; cases h
theorem int_row (w : World) (n : Nat) : RowAt (w.alloc (.cells #[.int .i64 n] 3)) (w.heap.size + 1) (some ⟨w.heap.size, 0, none⟩) (ints [(n : Int)]) := RowAt.of_block (heap_new w _ _ rfl)
theorem fcd_str_row (w : World) (s : List UInt8) (S : ByteArray) (h : str s = S) : RowAt (w.alloc (.cells #[.string S] 9)) (w.heap.size + 1) (some ⟨w.heap.size, 0, none⟩) (strs [s]) := by
  subst h
  exact RowAt.of_block (heap_new w _ _ rfl)
theorem textsV_one (s : List UInt8) : textsV [s] = txtB s := by simp [textsV, txtB]
theorem txtB_len9 (s : List UInt8) (h : s.length ≤ 100000) : (txtB s).length ≤ s.length + 9 := by
  have := putV_len10 s.length (by omega)
  unfold txtB
  rw [List.length_append]
  omega
theorem fcd_texts (A A2 : Option Addr) (c N n2 : Nat) (b : List UInt8) (hN : N = b.length) (l : List (List UInt8)) (hn2 : n2 = l.length) (h9 : n2 ≤ 9) (M : Nat) (R : List UInt8) (hR : b ++ textsV l = R) (hM : M = R.length) (hl : M ≤ 1000000) (w : World) (hr : RdB w w.heap.size A c b) (h2 : RowAt w w.heap.size A2 (strs l)) :
    Calls Tryz.prog 64 #[.slice A N c, .slice A2 n2 n2] w (RetO1 w M R) := by
  subst hN hR
  rw [List.length_append] at hM
  exact (varint_text A c w.heap.size b A2 n2 n2 l w hn2 (by omega) hr h2 (Nat.le_refl _) (by omega)).mono fun e w' ⟨v, he, h, hb⟩ => he ▸ retO1_of (by rw [List.length_append]; exact hM) h hb
end Go.Proofs.YtopjhebhdopjpaaGreat

namespace Go.Proofs.YtopjhebhdopjpaaGreat
open Go.RowKit

theorem kIt_ints (l : List Int) : kIt.row l = ints l := by
  induction l with
  | nil => rfl
  | cons x l ih => rw [kIt.row_cons, ih]; rfl
theorem setL_len (n : Int) (s : List Kn) (h : ∀ k ∈ s, k.runs.length ≤ 4096) (hl : s.length ≤ 16) : (n :: s.flatMap knL).length ≤ 140000 := by
  have h1 := fcd_flat_len knL 8194 s fun y hy => knL_len (h y hy)
  have h2 : s.length * 8194 ≤ 16 * 8194 := Nat.mul_le_mul_right _ hl
  rw [List.length_cons]; omega
theorem kc_number (A : Option Addr) (c N : Nat) (b : List UInt8) (hN : N = b.length) (hl : N ≤ 1000000) (n : Nat) (x : Int) (hx : (n : Int) = x) (hn : n ≤ 281474976710656) (M : Nat) (R : List UInt8) (hR : b ++ putV n = R) (hM : M = R.length) (w : World) (hr : RdB w w.heap.size A c b) :
    Calls Tryz.prog 35 #[.slice A N c, .int .i64 x] w (RetO1 w M R) := by
  subst hx
  have HC := Lib.hid (fcd_put1 A (some ⟨w.heap.size, 0, none⟩) c N b hN hl n hn (w.alloc (.cells #[.int .i64 n] 3)) (by rw [size1]; exact (hr.below (below_new _ _)).more (by omega)) (by rw [size1]; exact int_row w n))
  have HB := Lib.hid (below_new w (.cells #[.int .i64 (n : Int)] 3))
  have HR := Lib.hid hR
  have HM := Lib.hid hM
  clear hN hl hr hR hM
  go_enter Tryz.func35, Tryz.ntmps35
  go_wp2_with ((with_reducible refine HC.out.mono ?_); rintro e w1 ⟨v1, rfl, hown, hq⟩; have HF := Lib.hid (retO1_of (w := w) HM.out (by rw [← HR.out]; exact hown.mono (by simp)) (HB.out.trans (hq.mono HB.out.size))); clear hown hq)
  go_ret
  exact HF.out
set_option maxHeartbeats 1000000 in
theorem kc_range (r : Rng) (S T : ByteArray) (o : Bool) (hr : IsR r S T o) (hl : r.lo.length ≤ 10000 ∧ r.hi.length ≤ 10000) (M : Nat) (R : List UInt8) (hR : rngB r = R) (hM : M = R.length) (w : World) :
    Calls Tryz.prog 37 #[.agg #[.string S, .string T, .bool o]] w (RetO1 w M R) := by
  obtain ⟨WB, hWB⟩ : ∃ WB, w.alloc (.cells #[.string S, .string T, .bool o] 45) = WB := ⟨_, rfl⟩
  have hg : RgAt WB w.heap.size S T o := hWB ▸ rgAt_new _ _ _ _ _
  have HB := Lib.hid (show Below w.heap.size w WB from hWB ▸ below_new _ _)
  have hlo := txtB_len9 r.lo (by omega)
  have hhi := txtB_len9 r.hi (by omega)
  obtain ⟨N, hN⟩ : ∃ N, N = (txtB r.lo).length := ⟨_, rfl⟩
  have C1 := Lib.hid (fcd_texts none (some ⟨WB.heap.size, 0, none⟩) 0 0 1 [] rfl [r.lo] rfl (by omega) N (txtB r.lo) (by rw [textsV_one]; rfl) hN (by omega) (WB.alloc (.cells #[.string S] 9)) (rdB_nil _ _) (by rw [size1]; exact fcd_str_row WB _ _ hr.lo))
  have HB1 := Lib.hid (HB.out.alloc HB.out.size (.cells #[.string S] 9))
  have HG := Lib.hid (hg.keep (.cells #[.string S] 9))
  obtain ⟨g0, g1, g2, gz⟩ := hg
  have HO := Lib.hid hr.op
  have HT := Lib.hid hr.hi
  have HN := Lib.hid hN
  have HL := Lib.hid (show N ≤ 20000 by omega)
  have HR := Lib.hid hR
  have HM := Lib.hid hM
  have HHI := Lib.hid hhi
  clear hr hR hM hN hlo hhi gz
  go_enter Tryz.func37, Tryz.ntmps37
  go_upto_region 2 with ((with_reducible refine C1.out.mono ?_); rintro e w9 ⟨A1, c1, rfl, -, hrd, hq⟩; replace HG := Lib.hid (HG.out.below hq); have HB9 := Lib.hid (HB1.out.trans (hq.mono HB1.out.size)); have H1 := Lib.hid hrd; clear hrd hq g0 g1 g2; obtain ⟨g0, g1, g2, gz⟩ := HG.out)
  clear C1 gz
  cases o
  · have HX : Hid (txtB r.lo ++ putV 0 ++ textsV [r.hi] = R) := by rw [← HR.out, textsV_one, putV_zero]; unfold rngB; rw [HO.out]; simp [Hid]
    have C2 := fun (W : World) (h : RdB W W.heap.size A1 c1 (txtB r.lo)) => Lib.hid (kc_number A1 c1 N (txtB r.lo) HN.out (by have := HL.out; omega) 0 0 rfl (by omega) (N + 1) (txtB r.lo ++ putV 0) rfl (by rw [List.length_append, HN.out, putV_zero]; rfl) W h)
    have hM9 : M ≤ 1000000 := by
      have h1 := congrArg List.length HX.out
      rw [textsV_one, putV_zero, List.length_append, List.length_append, ← HN.out, ← HM.out, List.length_singleton] at h1
      have := HHI.out
      have := HL.out
      omega
    have C3 := fun (W : World) (A2 A3 : Option Addr) (c3 : Nat) (h : RdB W W.heap.size A3 c3 (txtB r.lo ++ putV 0)) (g : RowAt W W.heap.size A2 (strs [r.hi])) => Lib.hid (fcd_texts A3 A2 c3 (N + 1) 1 (txtB r.lo ++ putV 0) (by rw [List.length_append, HN.out, putV_zero]; rfl) [r.hi] rfl (by omega) M R HX.out HM.out hM9 W h g)
    have HST := fun W : World => Lib.hid (fcd_str_row W r.hi T HT.out)
    have HRA := fun W : World => Lib.hid (fcd_str_row W r.hi T HT.out)
    go_upto_region 4 with fail
    go_region_law (first
      | (go_simp; (with_reducible refine (C3 _ (some ⟨w8.heap.size, 0, none⟩) A8 c8 (rdB_call H8.out (below_new w8 _)) (by rw [size1]; exact (HST w8).out)).out.mono ?_); rintro e w7 ⟨A7, c7, rfl, ho, hrd, hq⟩; have HF := Lib.hid (retO1_of (w := w) HM.out (OwnB.mono ho (Nat.le_trans HB8.out.size (by simp))) (HB8.out.trans (((below_new w8 _).trans (hq.mono (by simp))).mono HB8.out.size))); clear ho hrd hq)
      | (go_simp; (with_reducible refine (C3 _ (some ⟨w9.heap.size, 0, none⟩) A8 c8 H8.out HR8.out).out.mono ?_); rintro e w7 ⟨A7, c7, rfl, ho, hrd, hq⟩; have HF := Lib.hid (retO1_of (w := w) HM.out (OwnB.mono ho HB8.out.size) (HB8.out.trans (hq.mono HB8.out.size))); clear ho hrd hq)
      | (go_simp; (with_reducible refine (C2 _ H1.out.drew).out.mono ?_); rintro e w8 ⟨A8, c8, rfl, -, hrd, hq⟩; have HB8 := Lib.hid (HB9.out.drew.trans (hq.mono HB9.out.size)); have H8 := Lib.hid hrd; have hg8 := HG.out.drew.below hq; clear g0 g1 g2; obtain ⟨g0, g1, g2, -⟩ := hg8; clear hrd hq)
      | (go_simp; (with_reducible refine (C2 _ (rdB_call H1.out (below_new w9 (.cells #[.string T] 9))).drew).out.mono ?_); rintro e w8 ⟨A8, c8, rfl, -, hrd, hq⟩; have HB8 := Lib.hid ((HB9.out.alloc HB9.out.size (.cells #[.string T] 9)).drew.trans (hq.mono (Nat.le_trans HB9.out.size (by simp)))); have H8 := Lib.hid hrd; have HR8 := Lib.hid ((RowAt.below (HST w9).out ((Below.refl _ _).drew.trans (hq.mono (by simp)))).more (by have := hq.size; simp at this; exact this)); clear hrd hq))
    all_goals
      go_wp2_with fail
      go_ret
      exact HF.out
  · have HX : Hid (txtB r.lo ++ putV 1 = R) := by rw [← HR.out, putV_one]; unfold rngB; rw [HO.out]; exact Lib.hid rfl
    have C2 := Lib.hid (kc_number A1 c1 N (txtB r.lo) HN.out (by have := HL.out; omega) 1 1 rfl (by omega) M R HX.out HM.out w9 H1.out)
    go_wp2_with ((with_reducible refine C2.out.mono ?_); rintro e w8 ⟨A8, c8, rfl, ho, hrd, hq⟩; have HF := Lib.hid (retO1_of (w := w) HM.out (OwnB.mono ho HB9.out.size) (HB9.out.trans (hq.mono HB9.out.size))); clear ho hrd hq)
    go_ret
    exact HF.out
theorem put_all (l : List Int) (hok : okL l = true) (hl : l.length ≤ 1000000) (L : List UInt8) (hL : putsV l = L) (A2 : Option Addr) (n2 c2 : Nat) (h2 : n2 = l.length) (w : World) (h3 : kIt.Rd w w.heap.size A2 c2 l) :
    Calls Tryz.prog 62 #[.slice none 0 0, .slice A2 n2 c2] w (RetB2 w.heap.size w L) := by
  subst hL
  refine Calls.mono (varint_put none 0 w.heap.size [] A2 n2 c2 l w h2 (rdB_nil _ _) (kIt_ints l ▸ h3.row) (okL_all hok) (Nat.le_refl _) (by rw [List.length_nil]; omega)) fun e w' h => ?_
  rcases h with ⟨-, h⟩ | ⟨h, -⟩
  · exact h
  · rw [hok] at h; cases h
theorem cell_al {w : World} {p : Addr} {v : Value} (h : w.cell? p = some v) (o : Obj) : (w.alloc o).cell? p = some v := ((below_new w o).cell (World.block_lt_of_cell? w p h)).trans h
theorem kit_keep {w w' : World} {v v8 : Value} {b8 : Nat} {l : List Int} (h8 : kIt.Own w b8 v8 l) (hv : ∀ g, v.ownBlock = some g → g < b8) (hg : w.grownBy w' v.ownBlock) : kIt.Own w' b8 v8 l :=
  h8.kept hg (by
    cases e8 : v8.ownBlock with
    | none => exact .inl rfl
    | some g8 => exact .inr fun e => by have h1 := hv g8 e.symm; have h2 := (h8.lt g8 e8).1; omega)
def RetBO (w : World) (N : Nat) (l : List UInt8) (e : Ending) (w' : World) : Prop := ∃ A c, e = .returned (.tuple #[.slice A N c, .int .i64 0]) ∧ OwnB w' w.heap.size (.slice A N c) l ∧ Below w.heap.size w w'
theorem RetBO.to {w w' : World} {N : Nat} {l : List UInt8} {e : Ending} (hN : N = l.length) (h : RetBO w N l e w') : RetBX w N 0 l e w' := by
  obtain ⟨A, c, h1, h2, h3⟩ := h
  obtain ⟨A2, c2, hv, h4⟩ := h2.read_n hN
  injection hv with i1 i2 i3
  subst i1 i3
  exact ⟨A, c, h1, h4, h3⟩
set_option maxRecDepth 100000 in
set_option maxHeartbeats 8000000 in
theorem kc_set (A : Option Addr) (c n : Nat) (s : List Kn) (hn : n = s.length) (hsm : ∀ k ∈ s, k.runs.length ≤ 4096) (hrs : rightS s = true) (N : Nat) (L : List UInt8) (hL : setB s = L) (hN : L.length = N) (w : World) (hr : RdK w w.heap.size A c s) :
    Calls Tryz.prog 36 #[.slice A n c] w (RetBO w N L) := by
  have HR := Lib.hid hr
  have HN := Lib.hid hn
  have HSM := Lib.hid (smallKn_of hrs hsm)
  have HSM2 := Lib.hid hsm
  have hn16 : n ≤ 16 := by rw [hn]; exact rightS_len hrs
  have CR := Lib.hid (vs_right A c n s hn true hrs w hr)
  have CP := fun (w' : World) (A2 : Option Addr) (c2 n2 : Nat) (h2 : n2 = ((n : Int) :: s.flatMap knL).length) (h3 : kIt.Rd w' w'.heap.size A2 c2 ((n : Int) :: s.flatMap knL)) => Lib.hid (put_all ((n : Int) :: s.flatMap knL) (by rw [hn]; exact setL_ok HSM.out (by omega)) (by have := setL_len (n : Int) s hsm (by omega); omega) L (by rw [hn, knL_set]; exact hL) A2 n2 c2 h2 w' h3)
  have HNN := Lib.hid hN
  have hcx : n ≤ c := by rw [hn]; exact hr.room
  clear hr hn hsm hrs hL hN
  go_enter Tryz.func36, Tryz.ntmps36
  go_upto_region 3 with ((with_reducible refine CR.out.mono ?_); rintro e w1 ⟨rfl, hq⟩; have HB1 := Lib.hid hq; clear hq)
  clear CR
  have HO1 := Lib.hid (show kIt.Own (w1.alloc (.cells #[.int .i64 (n : Int)] 3)) w.heap.size (.slice (some ⟨w1.heap.size, 0, none⟩) 1 1) [(n : Int)] from (it_own w1 n).mono HB1.out.size)
  have HB2 := Lib.hid (HB1.out.alloc HB1.out.size (.cells #[.int .i64 (n : Int)] 3))
  go_wp2_with fail
  go_loopw [4, 15] (fun v i wr => ∃ k : Nat, k ≤ n ∧ i = .int .i64 k ∧ Hid (kIt.Own wr w.heap.size v ((n : Int) :: (s.take k).flatMap knL)) ∧ Hid (Below w.heap.size w wr)) (fun _ i _ => n - (intOf i).toNat)
  case atStart => exact ⟨0, by omega, rfl, by rw [List.take_zero, List.flatMap_nil]; exact HO1, HB2⟩
  case round =>
    clear HO1 HB1 HB2
    obtain ⟨k, hk, rfl, HO, HB⟩ := hrel
    by_cases hlt : k < n
    · obtain ⟨b, o, hA, hb1, hcell⟩ := knowns_at HR.out (by have := HN.out; omega)
      subst hA
      obtain ⟨x, hg, -, hmem⟩ := cnt_get (l := s) (k := k) (by have := HN.out; omega)
      obtain ⟨A', n', c', hn', hrr, d0, d1⟩ := hcell k x hg
      obtain ⟨s1, s2, s3, s4⟩ := HSM.out x hmem
      have HX : Hid ((n : Int) :: (s.take (k + 1)).flatMap knL = ((n : Int) :: (s.take k).flatMap knL) ++ [x.rep, (n' : Int)] ++ stepsL 0 x.runs) := Lib.hid (by
        rw [fcd_flat_next knL hg, knL, hn']; simp)
      have hm0 : ((n : Int) :: (s.take k).flatMap knL).length ≤ 140000 := setL_len _ _ (fun y hy => HSM2.out y (take_mem hy)) (by rw [List.length_take]; omega)
      obtain ⟨M, hM⟩ : ∃ M, (n : Int) :: (s.take k).flatMap knL = M := ⟨_, rfl⟩
      rw [hM] at HO HX hm0
      obtain ⟨R, hR⟩ : ∃ R, x.rep = R := ⟨_, rfl⟩
      rw [hR] at d0 HX s1 s2
      have hn9 : n' ≤ 4096 := by omega
      have KS := fun (w' : World) (hb : Below w.heap.size w w') => Lib.hid (kc_steps A' c' n' x.runs hn' hn9 s3 (2 * n') rfl w' (hrr.below hb |>.more hb.size))
      obtain ⟨Q, hQ⟩ : ∃ Q, stepsL 0 x.runs = Q := ⟨_, rfl⟩
      have hQl : Q.length = 2 * n' := by rw [← hQ, stepsL_len, hn']
      rw [hQ] at KS HX
      have HQL := Lib.hid hQl
      have HL1 := Lib.hid (show M.length + [R, (n' : Int)].length ≤ 1000000 by rw [List.length_cons, List.length_cons, List.length_nil]; omega)
      have HL2 := Lib.hid (show (M ++ [R, (n' : Int)]).length + Q.length ≤ 1000000 by rw [List.length_append, List.length_cons, List.length_cons, List.length_nil]; omega)
      have c0 := ((bcell HB.out).1 _ _ hb1).trans d0
      have c1 := ((bcell HB.out).1 _ _ hb1).trans d1
      clear d0 d1 hcell hg hmem hM hR hQ hQl hrr s3 hn' s4 hm0 s1 s2
      have hk2 : (0 : Int) ≤ (k : Int) := by omega
      have hkn2 : (k : Int) < (n : Int) := by omega
      have hn'9 : ¬ (4096 : Int) < (n' : Int) := by omega
      obtain ⟨w9, hw9⟩ : ∃ w9, w9 = wr.alloc (.cells #[.int .i64 R, .slice A' n' c'] 64) := ⟨_, rfl⟩
      have HG := Lib.hid (show KnAt w9 wr.heap.size R (.slice A' n' c') by rw [hw9]; exact knAt_new _ _ _ _)
      have HO9 := Lib.hid (show kIt.Own w9 w.heap.size u4 M by rw [hw9]; exact HO.out.alloc _)
      have HB9 := Lib.hid (show Below w.heap.size w w9 by rw [hw9]; exact HB.out.alloc HB.out.size _)
      go_upto_region 7 with fail
      rw [← hw9]
      have HVO := Lib.hid (fun g (hg : u4.ownBlock = some g) => (HO.out.lt g hg).2)
      have HTW := Lib.hid HG.out.lt
      clear hw9 HO HB
      obtain ⟨g0, g1, -⟩ := HG.out
      go_upto_region 9 with fail
      have HGd := Lib.hid (show KnAt w9.drew wr.heap.size R (.slice A' n' c') from HG.out)
      have HB0 := Lib.hid (show Below w.heap.size w w9.drew from HB9.out.drew)
      have HO0 := Lib.hid (show kIt.Own w9.drew w.heap.size u4 M from HO9.out)
      have HB1 := Lib.hid (HB0.out.alloc HB0.out.size (.cells #[.int .i64 R, .int .i64 (n' : Int)] 3))
      have HO1 := Lib.hid (HO0.out.alloc (.cells #[.int .i64 R, .int .i64 (n' : Int)] 3))
      have HR1 := Lib.hid (it_two w9.drew R (n' : Int))
      have HVT := Lib.hid (show (some wr.heap.size : Option Nat) ≠ u4.ownBlock from fun e => Nat.lt_irrefl _ (HVO.out _ e.symm))
      clear HG HO9 HB9
      obtain ⟨N8, hN8⟩ : ∃ N8, N8 = 2 * n' := ⟨_, rfl⟩
      rw [← hN8] at KS
      have HN8 := Lib.hid (hN8.trans HQL.out.symm)
      clear hN8
      go_region_held3 (fun w' => w'.cell? ⟨wr.heap.size, 0, none⟩ = some (.int .i64 R) ∧ w'.cell? ⟨wr.heap.size, 1, none⟩ = some (.slice A' n' c')) (first | (exact ⟨by assumption, by assumption⟩) | (exact ⟨cell_al g0 _, cell_al g1 _⟩) | go_keep)
        (first
          | (refine step_app_k kIt rfl (.tmp 23) (.tmp 29) rfl w.heap.size _ M rfl HO1.out _ (some ⟨w9.heap.size, 0, none⟩) 2 2 [R, (n' : Int)] rfl rfl HR1.out HL1.out (by decide) HB1.out.size ?_; intro v3 w3 hown3 hg3 hb3 hv3; have HVF := Lib.hid (own_off (fun g hg => Nat.ne_of_lt (HVO.out g hg)) hv3 (HGd.out.alloc _).lt); clear hv3; have HOA := Lib.hid hown3; have HBA := Lib.hid (HB1.out.trans hb3); have HGA := Lib.hid ((HGd.out.alloc _).grown hg3 HVT.out); clear hown3 hg3 hb3 g0 g1; obtain ⟨g0, g1, -⟩ := HGA.out)
          | (refine step_app_k kIt rfl (.tmp 23) (.tmp 29) rfl w.heap.size _ M rfl HO4.out _ (some ⟨w9.heap.size, 0, none⟩) 2 2 [R, (n' : Int)] rfl rfl HRW4.out HL1.out (by decide) HB4.out.size ?_; intro v3 w3 hown3 hg3 hb3 hv3; have HVF := Lib.hid (own_off (fun g hg => Nat.ne_of_lt (HVO.out g hg)) hv3 HG4.out.lt); clear hv3; have HOF := Lib.hid hown3; have HBF := Lib.hid (HB4.out.trans hb3); have HRF := Lib.hid (kit_keep HR4.out HV4.out hg3); have HGA := Lib.hid (HG4.out.grown hg3 HVT.out); clear hown3 hg3 hb3 g0 g1; obtain ⟨g0, g1, -⟩ := HGA.out)
          | (refine step_app_k kIt rfl (.tmp 23) (.tmp 29) rfl w.heap.size _ M rfl (Kind.Own.alloc HO4.out _) _ (some ⟨w4.heap.size, 0, none⟩) 2 2 [R, (n' : Int)] rfl rfl (it_two w4 R (n' : Int)) HL1.out (by decide) (le_alloc HB4.out.size _) ?_; intro v3 w3 hown3 hg3 hb3 hv3; have HVF := Lib.hid (own_off (fun g hg => Nat.ne_of_lt (HVO.out g hg)) hv3 (HG4.out.alloc _).lt); clear hv3; have HOF := Lib.hid hown3; have HBF := Lib.hid ((HB4.out.alloc HB4.out.size _).trans hb3); have HRF := Lib.hid (kit_keep (Kind.Own.alloc HR4.out _) HV4.out hg3); have HGA := Lib.hid ((HG4.out.alloc _).grown hg3 HVT.out); clear hown3 hg3 hb3 g0 g1; obtain ⟨g0, g1, -⟩ := HGA.out)
          | (go_at_call 63; (with_reducible refine (KS _ HBA.out).out.mono ?_); rintro e4 w4 ⟨A8, c8, rfl, hown, hq⟩; have HRF := Lib.hid hown; have HOF := Lib.hid (HOA.out.below hq); have HBF := Lib.hid (HBA.out.trans (hq.mono HBA.out.size)); replace HGA := Lib.hid (HGA.out.under hq HGA.out.lt); clear hown hq g0 g1; obtain ⟨g0, g1, -⟩ := HGA.out)
          | (go_at_call 63; (with_reducible refine (KS _ HB1.out).out.mono ?_); rintro e4 w4 ⟨A8, c8, rfl, hown, hq⟩; have HR4 := Lib.hid hown; have HO4 := Lib.hid (HO1.out.below hq); have HRW4 := Lib.hid (HR1.out.below (hq.mono (by simp))); have HB4 := Lib.hid (HB1.out.trans (hq.mono HB1.out.size)); have HV4 := Lib.hid (fun g (hg : u4.ownBlock = some g) => Nat.lt_trans (HVO.out g hg) (Nat.lt_succ_of_lt HTW.out)); have HG4 := Lib.hid ((HGd.out.alloc (.cells #[.int .i64 R, .int .i64 (n' : Int)] 3)).under hq (HGd.out.alloc _).lt); clear hown hq g0 g1; obtain ⟨g0, g1, -⟩ := HG4.out)
          | (go_at_call 63; (with_reducible refine (KS _ HB0.out).out.mono ?_); rintro e4 w4 ⟨A8, c8, rfl, hown, hq⟩; have HR4 := Lib.hid hown; have HO4 := Lib.hid (HO0.out.below hq); have HB4 := Lib.hid (HB0.out.trans (hq.mono HB0.out.size)); have HV4 := Lib.hid (fun g (hg : u4.ownBlock = some g) => Nat.lt_trans (HVO.out g hg) HTW.out); have HG4 := Lib.hid (HGd.out.under hq HGd.out.lt); clear hown hq g0 g1; obtain ⟨g0, g1, -⟩ := HG4.out)
          | (refine step_app_k kIt rfl (.tmp 30) (.tmp 33) rfl w.heap.size _ (M ++ [R, (n' : Int)]) rfl HOF.out _ A8 c8 N8 Q HN8.out rfl HRF.out.rd.row HL2.out (by decide) HBF.out.size ?_; intro v5 w5 hown5 hg5 hb5 _; have HOZ := Lib.hid hown5; have HBZ := Lib.hid (HBF.out.trans hb5); have HGZ := Lib.hid (HGA.out.grown hg5 (fun e => HVF.out _ e.symm rfl)); clear hown5 hg5 hb5 g0 g1; obtain ⟨g0, g1, -⟩ := HGZ.out))
      all_goals
        go_wp2_with fail
        go_roundw
        case rel => exact ⟨k + 1, by omega, by go_num, by rw [HX.out]; exact HOZ, HBZ⟩
        case measure => simp [intOf]; omega
    · have hkn : s.take k = s := List.take_of_length_le (by have := HN.out; omega)
      rw [hkn] at HO
      obtain ⟨N7, hN7⟩ : ∃ N7, N7 = ((n : Int) :: s.flatMap knL).length := ⟨_, rfl⟩
      obtain ⟨A7, c7, rfl, hrd7⟩ := HO.out.read_n hN7
      have C := CP wr A7 c7 N7 hN7 hrd7
      clear CP hN7 hrd7 HO
      go_wp2_with ((with_reducible refine C.out.mono ?_); rintro e w2 ⟨v2, rfl, hown, hq⟩; obtain ⟨A2, c2, rfl, -⟩ := hown.read_n HNN.out.symm; have HF := Lib.hid (hown.mono (base' := w.heap.size) HB.out.size); have HBZ := Lib.hid (HB.out.trans (hq.mono HB.out.size)); clear hown hq)
      go_ret2
      exact ⟨A2, c2, rfl, HF.out, HBZ.out⟩
theorem ob_rd {w : World} {base n c : Nat} {A : Option Addr} {l : List UInt8} (h : OwnB w base (.slice A n c) l) (hn : n = l.length) : RdB w w.heap.size A c l := by
  obtain ⟨A2, c2, hv, h4⟩ := h.read_n hn
  injection hv with i1 i2 i3
  subst i1 i3
  exact h4
theorem ob_keep {w w' : World} {v v8 : Value} {b8 : Nat} {l : List UInt8} (h8 : OwnB w b8 v8 l) (hv : ∀ g, v.ownBlock = some g → g < b8) (hg : w.grownBy w' v.ownBlock) : OwnB w' b8 v8 l :=
  h8.kept hg (by
    cases e8 : v8.ownBlock with
    | none => exact .inl rfl
    | some g8 => exact .inr fun e => by have h1 := hv g8 e.symm; have h2 := (h8.lt g8 e8).1; omega)
set_option maxRecDepth 100000 in
set_option maxHeartbeats 8000000 in
theorem kc_know (A : Option Addr) (c n : Nat) (l : List Pc) (hn : n = l.length) (hn9 : n ≤ 4096) (hsm : ∀ p ∈ l, ∀ x ∈ p.set, x.runs.length ≤ 4096) (hrp : rightP l = true) (N : Nat) (L : List UInt8) (hL : knowB l = L) (hN : L.length = N) (w : World) (hr : RdPc w A c l) :
    Calls Tryz.prog 20 #[.slice A n c] w (RetBO w N L) := by
  have HR := Lib.hid hr
  have HN := Lib.hid hn
  have HSM := Lib.hid (show ∀ p ∈ l, smallPc p from fun p hp => ⟨rightP_all hrp p hp, hsm p hp⟩)
  have CR := Lib.hid (kw_right A c n l hn true hrp w hr)
  obtain ⟨M1, hM1⟩ : ∃ M1, M1 = (putV n).length := ⟨_, rfl⟩
  have h9 := putV_len10 n (by omega)
  have C0 := fun w' => Lib.hid (kc_number none 0 0 [] rfl (by omega) n (n : Int) rfl (by omega) M1 (putV n) rfl hM1 w' (rdB_nil _ _))
  have HLL := Lib.hid (show putV n ++ l.flatMap pieceB = L by rw [hn]; exact hL)
  have HNN := Lib.hid hN
  have hcx : n ≤ c := by rw [hn]; exact hr.room
  have hn4 : ¬ (4096 : Int) < (n : Int) := by omega
  have hn5 : decide (4096 < n) = false := decide_eq_false (by omega)
  clear hr hn hsm hrp hL hN hM1
  go_enter Tryz.func20, Tryz.ntmps20
  go_upto_region 4 with (first
    | ((with_reducible refine CR.out.mono ?_); rintro e w1 ⟨rfl, hq⟩; have HB1 := Lib.hid hq; clear hq)
    | ((with_reducible refine (C0 _).out.mono ?_); rintro e w2 ⟨A1, c1, rfl, hown1, -, hq⟩; have HO1 := Lib.hid (hown1.mono (base' := w.heap.size) HB1.out.size); have HB2 := Lib.hid (HB1.out.trans (hq.mono HB1.out.size)); clear hown1 hq))
  clear CR C0
  go_wp2_with fail
  go_loopw [4, 22] (fun v i wr => ∃ k : Nat, k ≤ n ∧ i = .int .i64 k ∧ Hid (OwnB wr w.heap.size v (putV n ++ (l.take k).flatMap pieceB)) ∧ Hid (Below w.heap.size w wr)) (fun _ i _ => n - (intOf i).toNat)
  case atStart => exact ⟨0, by omega, rfl, by rw [List.take_zero, List.flatMap_nil, List.append_nil]; exact HO1, HB2⟩
  case round =>
    clear HO1 HB1 HB2
    obtain ⟨k, hk, rfl, HO, HB⟩ := hrel
    by_cases hlt : k < n
    · obtain ⟨p, hg, -, hmem⟩ := cnt_get (l := l) (k := k) (by have := HN.out; omega)
      obtain ⟨b, o, A', n', c', S, T, q, hA, hb1, hIs, hn', hset, d0, d1, d2, d3⟩ := HR.out.at_ hg
      subst hA
      have hsp := HSM.out p hmem
      obtain ⟨p1, -, p3⟩ := onePc_iff.1 hsp.1
      have HX : Hid (putV n ++ (l.take (k + 1)).flatMap pieceB = (putV n ++ (l.take k).flatMap pieceB) ++ rngB p.rng ++ setB p.set) := Lib.hid (by rw [fcd_flat_next pieceB hg]; unfold pieceB; simp)
      have hm0 : (putV n ++ (l.take k).flatMap pieceB).length ≤ 40000000009 := by
        have := fcd_flat_len pieceB 4000000 (l.take k) (fun x hx => pieceB_len (HSM.out x (take_mem hx)))
        have h2 : (l.take k).length ≤ 4096 := by rw [List.length_take]; omega
        have h3 : (l.take k).length * 4000000 ≤ 4096 * 4000000 := Nat.mul_le_mul_right _ h2
        rw [List.length_append]; omega
      have hm3 := setB_len p3 hsp.2
      have hlo : p.rng.lo.length ≤ 10000 ∧ p.rng.hi.length ≤ 10000 := ⟨by have := rightR_lo p1; omega, by have := rightR_hi p1; omega⟩
      have hm4 := rngB_len (r := p.rng) ⟨by omega, by omega⟩
      obtain ⟨M, hM⟩ : ∃ M, putV n ++ (l.take k).flatMap pieceB = M := ⟨_, rfl⟩
      rw [hM] at HO HX hm0
      obtain ⟨SB, hSB⟩ : ∃ SB, setB p.set = SB := ⟨_, rfl⟩
      obtain ⟨RB, hRB⟩ : ∃ RB, rngB p.rng = RB := ⟨_, rfl⟩
      obtain ⟨N8, hN8⟩ : ∃ N8, N8 = SB.length := ⟨_, rfl⟩
      obtain ⟨N7, hN7⟩ : ∃ N7, N7 = RB.length := ⟨_, rfl⟩
      have KS := fun w' (h : Below w.heap.size w w') => Lib.hid (kc_set A' c' n' p.set hn' hsp.2 p3 N8 SB hSB hN8.symm w' (hset.call h))
      have KG := fun w' => Lib.hid (kc_range p.rng S T q hIs hlo N7 RB hRB hN7 w')
      rw [hSB, hRB] at HX
      rw [hSB] at hm3
      rw [hRB] at hm4
      have HN8 := Lib.hid hN8
      have HN7 := Lib.hid hN7
      have HL1 := Lib.hid (show M.length + RB.length ≤ 140737488355328 by omega)
      have HL2 := Lib.hid (show (M ++ RB).length + SB.length ≤ 140737488355328 by rw [List.length_append]; omega)
      have c0 := ((bcell HB.out).1 _ _ hb1).trans d0
      have c1 := ((bcell HB.out).1 _ _ hb1).trans d1
      have c2 := ((bcell HB.out).1 _ _ hb1).trans d2
      have c3 := ((bcell HB.out).1 _ _ hb1).trans d3
      clear d0 d1 d2 d3 hg hmem hM hSB hRB hN8 hN7 hset p3 p1 hsp hm0 hm3 hm4 hlo hn' hIs h9
      have hk2 : (0 : Int) ≤ (k : Int) := by omega
      have hkn2 : (k : Int) < (n : Int) := by omega
      obtain ⟨w9, hw9⟩ : ∃ w9, w9 = wr.alloc (.cells #[.string S, .string T, .bool q, .slice A' n' c'] 48) := ⟨_, rfl⟩
      have HG := Lib.hid (show PcAt w9 wr.heap.size S T q (.slice A' n' c') by rw [hw9]; exact pcAt_new _ _ _ _ _ _)
      have HO9 := Lib.hid (show OwnB w9 w.heap.size u4 M by rw [hw9]; exact HO.out.alloc _)
      have HB9 := Lib.hid (show Below w.heap.size w w9 by rw [hw9]; exact HB.out.alloc HB.out.size _)
      go_upto_region 7 with fail
      rw [← hw9]
      have HVO := Lib.hid (fun g (hg : u4.ownBlock = some g) => Nat.lt_trans (HO.out.lt g hg).2 HG.out.lt)
      clear hw9 HO HB
      obtain ⟨g0, g1, g2, g3, -⟩ := HG.out
      go_wp2_with (first
        | ((with_reducible refine (KS _ HB9.out).out.mono ?_); rintro e w8 ⟨A8, c8, rfl, hown, hq⟩; have HS8 := Lib.hid hown; have HO8 := Lib.hid (HO9.out.below hq); have HB8 := Lib.hid (HB9.out.trans (hq.mono HB9.out.size)); have HG8 := Lib.hid (HG.out.grown (grown_of_below hq none) (by simp)); clear hown hq g0 g1 g2 g3; obtain ⟨g0, g1, g2, g3, -⟩ := HG8.out)
        | ((with_reducible refine (KG _).out.mono ?_); rintro e w7 ⟨A7, c7, rfl, -, hrd, hq⟩; have HR7 := Lib.hid hrd; have HS7 := Lib.hid (HS8.out.below hq); have HO7 := Lib.hid (HO8.out.below hq); have HB7 := Lib.hid (HB8.out.trans (hq.mono HB8.out.size)); clear hrd hq g0 g1 g2 g3)
        | (at_builtin; refine wpList_app_row rfl (.tmp 35) (.tmp 38) rfl w.heap.size _ M rfl HO7.out _ A7 c7 N7 RB HN7.out rfl HR7.out.row HL1.out HB7.out.size ?_; intro v3 w3 hown3 hg3 hb3 _; have HO3 := Lib.hid hown3; have HS3 := Lib.hid (ob_keep HS7.out HVO.out hg3); have HB3 := Lib.hid (HB7.out.trans hb3); clear hown3 hg3 hb3)
        | (at_builtin; refine wpList_app_row rfl (.tmp 39) (.tmp 40) rfl w.heap.size _ (M ++ RB) rfl HO3.out _ A8 c8 N8 SB HN8.out rfl (ob_rd HS3.out HN8.out).row HL2.out HB3.out.size ?_; intro v5 w5 hown5 hg5 hb5 _; have HO5 := Lib.hid hown5; have HB5 := Lib.hid (HB3.out.trans hb5); clear hown5 hg5 hb5))
      go_roundw
      case rel => exact ⟨k + 1, by omega, by go_num, by rw [HX.out]; exact HO5, HB5⟩
      case measure => simp [intOf]; omega
    · have hkn : l.take k = l := List.take_of_length_le (by have := HN.out; omega)
      rw [hkn, HLL.out] at HO
      obtain ⟨A5, c5, rfl, -⟩ := HO.out.read_n HNN.out.symm
      go_wp2_with fail
      go_ret2
      exact ⟨A5, c5, rfl, HO.out, HB.out⟩
end Go.Proofs.YtopjhebhdopjpaaGreat

namespace Go.Proofs.YtopjhebhdopjpaaGreat
open Go.RowKit

theorem rd_text_q {w : World} {b : Nat} {l s r : List UInt8} {e e2 : Int} {S : ByteArray} {most : Int} (hw : textR most l e = (s, r, e2)) (hS : str s = S) (h : RdAt w b l e) (hl : l.length ≤ 9223372036854775807) :
    Calls Tryz.prog 128 #[.pointer (some ⟨b, 0, none⟩), .int .i64 most] w (RdPost w b (.string S) r e2) := by
  subst hS
  have := rd_text (givenAt_some h) most hl
  rw [hw] at this
  exact this
theorem rd_bool_q {w : World} {b : Nat} {l r : List UInt8} {e e2 : Int} {n : Nat} (hw : withinR 0 1 l e = (n, r, e2)) {q : Bool} (hq : decide (n = 1) = q) (h : RdAt w b l e) (hl : l.length ≤ 9223372036854775807) :
    Calls Tryz.prog 129 #[.pointer (some ⟨b, 0, none⟩)] w (RdPost w b (.bool q) r e2) := by
  have := rd_bool (givenAt_some h) hl
  unfold boolR at this
  rw [hw, hq] at this
  exact this
theorem rd_within_q {w : World} {b : Nat} {l r : List UInt8} {e e2 : Int} {n : Nat} {lo hi : Int} (hw : withinR lo hi l e = (n, r, e2)) (h : RdAt w b l e) (hl : l.length ≤ 9223372036854775807) :
    Calls Tryz.prog 107 #[.pointer (some ⟨b, 0, none⟩), .int .i64 lo, .int .i64 hi] w (RdPost w b (.int .i64 n) r e2) := by
  have := rd_within (givenAt_some h) lo hi hl
  rw [hw] at this
  exact this
theorem grown_alloc {w w' : World} {m : Option Nat} (h : w.grownBy w' m) (o : Obj) : w.grownBy (w'.alloc o) m := h.trans (grown_of_below (below_new w' o) m)
theorem grown_set_new {w w' : World} {m : Option Nat} {g : Nat} (h : w.grownBy w' m) (hg : w.heap.size ≤ g) (k : Nat) (v : Value) : w.grownBy (w'.setCell ⟨g, k, none⟩ v) m := by
  have s := grownBy_set w' g k v
  exact ⟨s.os.trans h.os, s.tape.trans h.tape, s.output.trans h.output, Nat.le_trans h.size s.size, fun j hj hne => (s.block j (Nat.lt_of_lt_of_le hj h.size) (fun e => by injection e with e; omega)).trans (h.block j hj hne)⟩
theorem RdAt.far {w : World} {b g : Nat} {l : List UInt8} {e : Int} (h : RdAt w b l e) (hne : b ≠ g) (k : Nat) (v : Value) : RdAt (w.setCell ⟨g, k, none⟩ v) b l e := h.kept (grownBy_set _ _ _ _) (fun e => hne (by injection e))
def lenOf : Value → Nat
  | .slice _ n _ => n
  | _ => 0
end Go.Proofs.YtopjhebhdopjpaaGreat

namespace Go.Proofs.YtopjhebhdopjpaaGreat
open Go.RowKit

structure Kept2 (m E : Nat) (w w' : World) : Prop where
  os : w'.os = w.os
  tape : w'.tape = w.tape
  output : w'.output = w.output
  size : w.heap.size ≤ w'.heap.size
  block : ∀ k, k < w.heap.size → k ≠ m → k ≠ E → w'.heap[k]? = w.heap[k]?
theorem Kept2.refl (m E : Nat) (w : World) : Kept2 m E w w := ⟨rfl, rfl, rfl, Nat.le_refl _, fun _ _ _ _ => rfl⟩
theorem Kept2.trans {m E : Nat} {a b c : World} (h : Kept2 m E a b) (h2 : Kept2 m E b c) : Kept2 m E a c :=
  ⟨h2.os.trans h.os, h2.tape.trans h.tape, h2.output.trans h.output, Nat.le_trans h.size h2.size, fun k hk h3 h4 => (h2.block k (Nat.lt_of_lt_of_le hk h.size) h3 h4).trans (h.block k hk h3 h4)⟩
theorem Kept2.grown {m E : Nat} {a b c : World} (h : Kept2 m E a b) (h2 : b.grownBy c (some m)) : Kept2 m E a c :=
  h.trans ⟨h2.os, h2.tape, h2.output, h2.size, fun k hk h3 _ => h2.block k hk fun e => h3 (by injection e)⟩
theorem Kept2.below {m E B : Nat} {a b c : World} (h : Kept2 m E a b) (h2 : Below B b c) (hB : a.heap.size ≤ B) : Kept2 m E a c :=
  ⟨h2.os.trans h.os, h2.tape.trans h.tape, h2.output.trans h.output, Nat.le_trans h.size h2.size, fun k hk h3 h4 => (h2.block k (Nat.lt_of_lt_of_le hk hB)).trans (h.block k hk h3 h4)⟩
theorem Kept2.alloc {m E : Nat} {a b : World} (h : Kept2 m E a b) (o : Obj) : Kept2 m E a (b.alloc o) := h.below (below_new b o) h.size
theorem Kept2.set {m E g k : Nat} {a b : World} (h : Kept2 m E a b) (hg : a.heap.size ≤ g ∨ g = E) (v : Value) : Kept2 m E a (b.setCell ⟨g, k, none⟩ v) := by
  have s := grownBy_set b g k v
  refine ⟨s.os.trans h.os, s.tape.trans h.tape, s.output.trans h.output, Nat.le_trans h.size s.size, fun j hj h3 h4 => (s.block j (Nat.lt_of_lt_of_le hj h.size) fun e => ?_).trans (h.block j hj h3 h4)⟩
  injection e with e
  rcases hg with hg | hg <;> omega
theorem Kept2.cell {m E : Nat} {w w' : World} (h : Kept2 m E w w') {p : Addr} {v : Value} (hv : w.cell? p = some v) (h1 : p.block ≠ m) (h2 : p.block ≠ E) : w'.cell? p = some v :=
  (World.cell?_of_block (h.block p.block (World.block_lt_of_cell? w p hv) h1 h2)).trans hv
theorem Kept2.gb {m E : Nat} {a w w' : World} (h : Kept2 m E w w') (hg : a.grownBy w (some m)) (hE : a.heap.size ≤ E) : a.grownBy w' (some m) :=
  ⟨h.os.trans hg.os, h.tape.trans hg.tape, h.output.trans hg.output, Nat.le_trans hg.size h.size, fun k hk hne => (h.block k (Nat.lt_of_lt_of_le hk hg.size) (fun e => hne (by rw [e])) (by omega)).trans (hg.block k hk hne)⟩
theorem Kind.Own.kept2 {P : Program} {α : Type} {k : Kind P α} {w w' : World} {base m E : Nat} {v : Value} {l : List α} (h : k.Own w base v l) (h2 : Kept2 m E w w') (hm : m < base) (hE : E < base) : k.Own w' base v l := by
  obtain ⟨h1, h3⟩ := h
  refine ⟨h1, ?_⟩
  rcases h3 with h3 | ⟨g, cap, cur, hv, hg, hb, r⟩
  · exact .inl h3
  · exact .inr ⟨g, cap, cur, hv, hg, (h2.block g (lt_of_block hb) (by omega) (by omega)).trans hb, r⟩
def EndAt (w : World) (E : Nat) (W : Int) : Prop := w.cell? ⟨E, 0, none⟩ = some (.int .i64 W) ∧ ∀ k, w.frozen? ⟨E, k, none⟩ = false
theorem EndAt.lt {w : World} {E : Nat} {W : Int} (h : EndAt w E W) : E < w.heap.size := World.block_lt_of_cell? w _ h.1
theorem EndAt.grown {w w' : World} {row : Option Nat} {E : Nat} {W : Int} (h : EndAt w E W) (hg : w.grownBy w' row) (hne : some E ≠ row) : EndAt w' E W :=
  ⟨hg.cell h.1 hne, fun k => (hg.frozen_far ⟨E, k, none⟩ h.lt hne).trans (h.2 k)⟩
theorem EndAt.alloc {w : World} {E : Nat} {W : Int} (h : EndAt w E W) (o : Obj) : EndAt (w.alloc o) E W := by
  obtain ⟨hc, hf⟩ := bcell (below_new w o)
  exact ⟨(hc _ _ h.lt).trans h.1, fun k => (hf _ _ h.lt).trans (h.2 k)⟩
theorem EndAt.under {w w' : World} {B E : Nat} {W : Int} (h : EndAt w E W) (hb : Below B w w') (hE : E < B) : EndAt w' E W := by
  obtain ⟨hc, hf⟩ := bcell hb
  exact ⟨(hc _ _ hE).trans h.1, fun k => (hf _ _ hE).trans (h.2 k)⟩
theorem cell_under {w w' : World} {B g k : Nat} {v : Value} (h : w.cell? ⟨g, k, none⟩ = some v) (o : Obj) (hb : Below B (w.alloc o) w') (hg : g < B) : w'.cell? ⟨g, k, none⟩ = some v := by
  rw [(bcell hb).1 _ _ hg, (bcell (below_new w o)).1 _ _ (World.block_lt_of_cell? w _ h), h]
theorem EndAt.set {w : World} {E : Nat} {W : Int} (h : EndAt w E W) (X : Int) : EndAt (w.setCell ⟨E, 0, none⟩ (.int .i64 X)) E X :=
  ⟨set_same h.1 _, fun k => by rw [World.frozen?_setCell]; exact h.2 k⟩
theorem EndAt.other {w : World} {E g k : Nat} {W : Int} (h : EndAt w E W) (hne : g ≠ E) (u : Value) : EndAt (w.setCell ⟨g, k, none⟩ u) E W :=
  ⟨set_other h.1 (addr_block hne) u, fun j => by rw [World.frozen?_setCell]; exact h.2 j⟩
theorem endAt_new (w : World) (W : Int) (t : TypeId) : EndAt (w.alloc (.cells #[.int .i64 W] t)) w.heap.size W := by
  have h := heap_new w (.cells #[.int .i64 W] t) _ rfl
  refine ⟨?_, fun k => ?_⟩
  · rw [cell_of_row _ _ _ _ _ _ h]; rfl
  · unfold World.frozen?; rw [h]; simp
theorem rd_number_q {w : World} {b : Nat} {l r : List UInt8} {e e2 : Int} {n : Nat} (hw : numR l e = (n, r, e2)) (h : RdAt w b l e) (hl : l.length ≤ 9223372036854775807) :
    Calls Tryz.prog 165 #[.pointer (some ⟨b, 0, none⟩)] w (RdPost w b (.int .i64 n) r e2) := by
  have := rd_number (givenAt_some h) hl
  rw [hw] at this
  exact this
theorem box_new (w : World) (m : Nat) (t : TypeId) : (w.alloc (.cells #[.pointer (some ⟨m, 0, none⟩)] t)).cell? ⟨w.heap.size, 0, none⟩ = some (.pointer (some ⟨m, 0, none⟩)) := by
  rw [cell_of_row _ _ _ _ _ _ (heap_new w (.cells #[.pointer (some ⟨m, 0, none⟩)] t) _ rfl)]; rfl
end Go.Proofs.YtopjhebhdopjpaaGreat

namespace Go.Proofs.YtopjhebhdopjpaaGreat
open Go.RowKit

theorem numR_len9 (l : List UInt8) (e : Int) : (numR l e).2.1.length ≤ l.length := numR_len l e
set_option maxRecDepth 100000 in
set_option maxHeartbeats 4000000 in
theorem kc_run (m E G : Nat) (l r : List UInt8) (e e2 W X Z : Int) (hx : runRd W l e = (⟨X, Z⟩, r, e2)) (hW : 0 ≤ W) (hW9 : W ≤ 4611686018427387904) (hl : l.length ≤ 1000000) (hmE : m ≠ E) (hmG : m ≠ G) (hEG : E ≠ G) (w : World) (hr : RdAt w m l e) (hE : EndAt w E W) (hG : w.cell? ⟨G, 0, none⟩ = some (.pointer (some ⟨m, 0, none⟩))) :
    Calls Tryz.prog 164 #[.pointer (some ⟨E, 0, none⟩), .pointer (some ⟨G, 0, none⟩)] w fun x w' => x = .returned (.agg #[.int .i64 X, .int .i64 Z]) ∧ RdAt w' m r e2 ∧ EndAt w' E Z ∧ w'.cell? ⟨G, 0, none⟩ = some (.pointer (some ⟨m, 0, none⟩)) ∧ Kept2 m E w w' := by
  obtain ⟨xx, q3, x3, hq3⟩ : ∃ xx q3 x3, numR l e = (xx, q3, x3) := ⟨_, _, _, rfl⟩
  obtain ⟨yy, q4, x4, hq4⟩ : ∃ yy q4 x4, numR q3 x3 = (yy, q4, x4) := ⟨_, _, _, rfl⟩
  have hx9 := numR_hi hq3
  have hy9 := numR_hi hq4
  have l3 : q3.length ≤ l.length := by have := numR_len9 l e; rw [hq3] at this; exact this
  have hRU : runRd W l e = (⟨W + (xx : Int), W + (xx : Int) + (yy : Int)⟩, q4, x4) := by unfold runRd; rw [hq3]; simp only; rw [hq4]
  rw [hRU] at hx
  injection hx with h1 h2
  injection h1 with h1 h3
  injection h2 with h2 h4
  subst h2 h4
  rw [h1] at h3
  have w1' : IntKind.i64.wrap (W + (xx : Int)) = X := by rw [h1]; exact IntWalk.i64_in _ (by omega)
  have w2' : IntKind.i64.wrap (X + (yy : Int)) = Z := by rw [h3]; exact IntWalk.i64_in _ (by omega)
  have T1 := fun (w' : World) (hf : RdAt w' m l e) => Lib.hid (rd_number_q hq3 hf (by omega))
  have T2 := fun (w' : World) (hf : RdAt w' m q3 x3) => Lib.hid (rd_number_q hq4 hf (by omega))
  obtain ⟨H, hH⟩ : ∃ H, w.heap.size = H := ⟨_, rfl⟩
  have hmH : m < H := hH ▸ hr.lt
  have hEH : E < H := hH ▸ hE.lt
  have hGH : G < H := hH ▸ World.block_lt_of_cell? w _ hG
  have NmE := Lib.hid (show (some E : Option Nat) ≠ some m from fun e => by injection e with e; omega)
  have NmG := Lib.hid (show (some G : Option Nat) ≠ some m from fun e => by injection e with e; omega)
  have NmH := Lib.hid (show (some H : Option Nat) ≠ some m from fun e => by injection e with e; omega)
  have NEG := Lib.hid hEG
  have NmE2 := Lib.hid hmE
  have NHE := Lib.hid (show H ≠ E by omega)
  have NHG := Lib.hid (show H ≠ G by omega)
  have NHm := Lib.hid (show m ≠ H by omega)
  have HHH := Lib.hid hH
  obtain ⟨w9, hw9⟩ : ∃ w9, w9 = w.alloc (.cells #[.int .i64 0, .int .i64 0] 105) := ⟨_, rfl⟩
  have HR := Lib.hid (show RdAt w9 m l e by rw [hw9]; exact heap_old _ hr)
  have HE := Lib.hid (show EndAt w9 E W by rw [hw9]; exact hE.alloc _)
  have HG := Lib.hid (show w9.cell? ⟨G, 0, none⟩ = some (.pointer (some ⟨m, 0, none⟩)) by rw [hw9, alloc_keeps _ _ _ _ (by omega)]; exact hG)
  have HRN := Lib.hid (show RnAt w9 H 0 0 by rw [hw9, ← hH]; exact rnAt_new _ _ _ _)
  have HK := Lib.hid (show Kept2 m E w w9 by rw [hw9]; exact (Kept2.refl m E w).alloc _)
  clear hr hE hG hq3 hq4 hRU l3 hmH hEH hGH hEG hmE hmG hx9 hy9 h1 h3 hW hW9
  go_enter Tryz.func164, Tryz.ntmps164
  go_upto_region 1 with fail
  (try rw [hH])
  rw [← hw9]
  clear hw9 hH
  obtain ⟨e0, e1⟩ := HE.out
  have g0 := HG.out
  have HRd := Lib.hid (show RdAt w9.drew m l e from HR.out)
  go_region_held3 (fun w' => w'.cell? ⟨E, 0, none⟩ = some (.int .i64 W) ∧ w'.cell? ⟨G, 0, none⟩ = some (.pointer (some ⟨m, 0, none⟩))) (first | (exact ⟨by assumption, by assumption⟩) | go_keep)
    (first
      | (go_at_call 165; (with_reducible refine (T1 _ HRd.out).out.mono ?_); rintro x w8 ⟨rfl, hrf, hg⟩; replace hg := gb_of_drew hg; replace HE := Lib.hid (HE.out.grown hg NmE.out); replace HG := Lib.hid (World.grownBy.cell hg HG.out NmG.out); replace HRN := Lib.hid (HRN.out.grown hg NmH.out); replace HK := Lib.hid (HK.out.grown hg); replace HR := Lib.hid hrf; clear hrf hg e0 e1 g0; obtain ⟨e0, e1⟩ := HE.out; have g0 := HG.out))
  clear T1
  clear HRd
  go_upto_region 3 with ((with_reducible refine (T2 _ HR.out).out.mono ?_); rintro x w7 ⟨rfl, hrf, hg⟩; replace HE := Lib.hid (HE.out.grown hg NmE.out); replace HG := Lib.hid (World.grownBy.cell hg HG.out NmG.out); replace HRN := Lib.hid (HRN.out.grown hg NmH.out); replace HK := Lib.hid (HK.out.grown hg); replace HR := Lib.hid hrf; clear hrf hg e0 e1 g0; obtain ⟨e0, e1⟩ := HE.out; have g0 := HG.out)
  clear T2
  obtain ⟨w6, hw6⟩ : ∃ w6, w6 = w7.setCell ⟨E, 0, none⟩ (.int .i64 Z) := ⟨_, rfl⟩
  have HE6 := Lib.hid (show EndAt w6 E Z by rw [hw6]; exact HE.out.set Z)
  have HG6 := Lib.hid (show w6.cell? ⟨G, 0, none⟩ = some (.pointer (some ⟨m, 0, none⟩)) by rw [hw6]; exact set_other HG.out (addr_block NEG.out) _)
  have HN6 := Lib.hid (show RnAt w6 H 0 0 by rw [hw6]; exact HRN.out.other (Ne.symm NHE.out))
  have HR6 := Lib.hid (show RdAt w6 m q4 x4 by rw [hw6]; exact HR.out.far NmE2.out _ _)
  have HK6 := Lib.hid (show Kept2 m E w w6 by rw [hw6]; exact HK.out.set (.inr rfl) _)
  rw [← hw6]
  clear hw6 HE HG HRN HR HK e0 e1 g0
  obtain ⟨e0, e1⟩ := HE6.out
  obtain ⟨r0, r1, r2⟩ := HN6.out
  go_wp2_with fail
  obtain ⟨h0, h1, -⟩ := (HN6.out.set0 X).set1 Z
  exact bodyPost_ret (v := .agg #[.int .i64 X, .int .i64 Z]) (by simp [results, Tryz.results164, go_sem, h0, h1]) rfl ⟨rfl, (HR6.out.far NHm.out _ _).far NHm.out _ _, (HE6.out.other NHE.out _).other NHE.out _, set_other (set_other HG6.out (addr_block NHG.out) _) (addr_block NHG.out) _, (HK6.out.set (.inl (Nat.le_of_eq HHH.out)) _).set (.inl (Nat.le_of_eq HHH.out)) _⟩
theorem withinR_to {lo hi : Int} (h0 : 0 ≤ hi) (l : List UInt8) (e : Int) : ((withinR lo hi l e).1 : Int) ≤ hi := withinR_hi h0 (r := (withinR lo hi l e).2.1) (e2 := (withinR lo hi l e).2.2) rfl
set_option maxRecDepth 100000 in
set_option maxHeartbeats 8000000 in
theorem kc_sevr (m E G n N : Nat) (l q1 r : List UInt8) (e x1 e2 : Int) (h1 : withinR 0 4096 l e = (n, q1, x1)) (Y : List Rn) (h2 : runsRd n 0 q1 x1 = (Y, r, e2)) (hN : N = Y.length) (hl : l.length ≤ 1000000) (hmE : m ≠ E) (hmG : m ≠ G) (hEG : E ≠ G) (w : World) (hr : RdAt w m l e) (hE : EndAt w E 0) (hG : w.cell? ⟨G, 0, none⟩ = some (.pointer (some ⟨m, 0, none⟩))) :
    Calls Tryz.prog 163 #[.agg #[.pointer (some ⟨m, 0, none⟩)], .int .i64 4096, .func (.func 164) #[] #[.pointer (some ⟨E, 0, none⟩), .pointer (some ⟨G, 0, none⟩)]] w fun x w' => ∃ A c, x = .returned (.slice A N c) ∧ kRn.Own w' w.heap.size (.slice A N c) Y ∧ RdAt w' m r e2 ∧ Kept2 m E w w' := by
  have hn9 : n ≤ 4096 := by have := withinR_to (lo := 0) (hi := 4096) (by decide) l e; rw [h1] at this; simp only at this; omega
  have hq1 : q1.length ≤ 1000000 := by have := withinR_len 0 4096 l e; rw [h1] at this; simp only at this; omega
  have W1 := fun (w' : World) (hf : RdAt w' m l e) => Lib.hid (rd_within_q h1 hf (by omega))
  obtain ⟨B, hB⟩ : ∃ B, w.heap.size = B := ⟨_, rfl⟩
  have hmB : m < B := hB ▸ hr.lt
  have hEB : E < B := hB ▸ hE.lt
  have hGB : G < B := hB ▸ World.block_lt_of_cell? w _ hG
  have NmE := Lib.hid (show (some E : Option Nat) ≠ some m from fun e => by injection e with e; omega)
  have NmG := Lib.hid (show (some G : Option Nat) ≠ some m from fun e => by injection e with e; omega)
  have NmB := Lib.hid (show (some B : Option Nat) ≠ some m from fun e => by injection e with e; omega)
  have NN := Lib.hid (show m ≠ E ∧ m ≠ G ∧ E ≠ G ∧ m < B + 1 ∧ E < B + 1 ∧ B ≠ m ∧ B ≠ E ∧ G < B + 1 from ⟨hmE, hmG, hEG, by omega, by omega, by omega, by omega, by omega⟩)
  have HBB := Lib.hid hB
  obtain ⟨w9, hw9⟩ : ∃ w9, w9 = w.alloc (.cells #[.pointer (some ⟨m, 0, none⟩)] 91) := ⟨_, rfl⟩
  have HR := Lib.hid (show RdAt w9 m l e by rw [hw9]; exact heap_old _ hr)
  have HE := Lib.hid (show EndAt w9 E 0 by rw [hw9]; exact hE.alloc _)
  have HG := Lib.hid (show w9.cell? ⟨G, 0, none⟩ = some (.pointer (some ⟨m, 0, none⟩)) by rw [hw9, alloc_keeps _ _ _ _ (by omega)]; exact hG)
  have HK := Lib.hid (show Kept2 m E w w9 by rw [hw9]; exact (Kept2.refl m E w).alloc _)
  have p0 : w9.cell? ⟨B, 0, none⟩ = some (.pointer (some ⟨m, 0, none⟩)) := by rw [hw9, ← hB]; exact box_new _ _ _
  have HP := Lib.hid p0
  have HQ1 := Lib.hid hq1
  have HY0 := Lib.hid h2
  have HNN := Lib.hid hN
  have eg := enters_of Tryz.func164 (by kernel_rfl) rfl
  clear hr hE hG h1 hq1 h2 hN hmB hEB hGB hmE hmG hEG
  go_enter Tryz.func163, Tryz.ntmps163
  go_upto_region 1 with fail
  (try rw [hB])
  rw [← hw9]
  clear hw9 hB
  go_upto_region 2 with ((with_reducible refine (W1 _ HR.out).out.mono ?_); rintro e8 w9 ⟨rfl, hrf, hg⟩; replace HE := Lib.hid (HE.out.grown hg NmE.out); replace HG := Lib.hid (World.grownBy.cell hg HG.out NmG.out); replace HK := Lib.hid (HK.out.grown hg); replace HP := Lib.hid (World.grownBy.cell hg HP.out NmB.out); replace HR := Lib.hid hrf; clear hrf hg p0; have p0 := HP.out)
  clear W1
  go_wp2_with fail
  go_loopw [8] (fun v wr => ∃ (k : Nat) (q : List UInt8) (e' : Int) (dn : List Rn), k ≤ n ∧ 0 ≤ wasR 0 dn ∧ wasR 0 dn ≤ (k : Int) * 562949953421312 ∧ Hid (k = dn.length) ∧ Hid (q.length ≤ 1000000) ∧ Hid ((Y, r, e2) = (dn ++ (runsRd (n - k) (wasR 0 dn) q e').1, (runsRd (n - k) (wasR 0 dn) q e').2)) ∧ Hid (RdAt wr m q e') ∧ Hid (EndAt wr E (wasR 0 dn)) ∧ Hid (wr.cell? ⟨G, 0, none⟩ = some (.pointer (some ⟨m, 0, none⟩))) ∧ Hid (kRn.Own wr (B + 1) v dn) ∧ Hid (Kept2 m E w wr) ∧ Hid (wr.cell? ⟨B, 0, none⟩ = some (.pointer (some ⟨m, 0, none⟩)))) (fun v _ => n - lenOf v)
  case atStart => exact ⟨0, q1, x1, [], by omega, Int.le_refl _, by simp [wasR], rfl, HQ1, by rw [Nat.sub_zero, show wasR 0 [] = 0 from rfl, HY0.out]; rfl, HR, HE, HG, Kind.Own.nil _ _, HK, HP⟩
  case round =>
    clear HR HE HG HK HP p0
    obtain ⟨k, q, e', dn, hk, hw0, hw1, HD, HQ, HY, HR, HE, HG, HO, HK, HP⟩ := hrel
    have p0 := HP.out
    obtain ⟨A6, c6, rfl, hrd6⟩ := HO.out.read_n HD.out
    have KE := fun (w' : World) (hr : RdAt w' m q e') => Lib.hid (rd_err (givenAt_some hr))
    have hkc : k ≤ c6 := by rw [HD.out]; exact hrd6.room
    by_cases hc : k < n ∧ e' = 0
    · obtain ⟨hlt, rfl⟩ := hc
      obtain ⟨W, hW⟩ : ∃ W, wasR 0 dn = W := ⟨_, rfl⟩
      rw [hW] at hw0 hw1 HY HE
      obtain ⟨xx, q3, x3, hq3⟩ : ∃ xx q3 x3, numR q 0 = (xx, q3, x3) := ⟨_, _, _, rfl⟩
      obtain ⟨yy, q4, x4, hq4⟩ : ∃ yy q4 x4, numR q3 x3 = (yy, q4, x4) := ⟨_, _, _, rfl⟩
      obtain ⟨X, hX⟩ : ∃ X, W + (xx : Int) = X := ⟨_, rfl⟩
      obtain ⟨Z, hZ⟩ : ∃ Z, X + (yy : Int) = Z := ⟨_, rfl⟩
      have hru : runRd W q 0 = (⟨X, Z⟩, q4, x4) := by unfold runRd; rw [hq3]; simp only; rw [hq4, hX, hZ]
      have a1 := numR_hi hq3
      have a2 := numR_hi hq4
      have a3 : q3.length ≤ q.length := by have := numR_len q 0; rw [hq3] at this; exact this
      have a4 : q4.length ≤ q3.length := by have := numR_len q3 x3; rw [hq4] at this; exact this
      have a5 := HQ.out
      replace hZ : 0 ≤ Z ∧ Z ≤ ((k + 1 : Nat) : Int) * 562949953421312 ∧ q4.length ≤ 1000000 := by omega
      clear hq3 hq4 hX a1 a2 a3 a4 a5
      have KN := fun (w' : World) (hr : RdAt w' m q 0) (he : EndAt w' E W) (hg : w'.cell? ⟨G, 0, none⟩ = some (.pointer (some ⟨m, 0, none⟩))) => Lib.hid (kc_run m E G q q4 0 x4 W X Z hru hw0 (by omega) HQ.out NN.out.1 NN.out.2.1 NN.out.2.2.1 w' hr he hg)
      have HY2 := Lib.hid (show (Y, r, e2) = ((dn ++ [⟨X, Z⟩]) ++ (runsRd (n - (k + 1)) Z q4 x4).1, (runsRd (n - (k + 1)) Z q4 x4).2) by rw [HY.out, runsRd_step hlt, hru, List.append_assoc]; rfl)
      have HLE := Lib.hid (show dn.length + [(⟨X, Z⟩ : Rn)].length ≤ 1000000 by rw [← HD.out, List.length_singleton]; omega)
      have HRW := fun W : World => Lib.hid (rn_row W X Z)
      have HZ := Lib.hid hZ
      clear hru hrd6 hW hw0 hw1 hZ HY
      go_wp2_with (first
        | ((with_reducible refine (KE _ HR.out).out.mono ?_); rintro e8 w9 ⟨rfl, hrf, hg⟩; replace HO := Lib.hid (HO.out.other hg NN.out.2.2.2.1); replace HE := Lib.hid (HE.out.grown hg NmE.out); replace HG := Lib.hid (World.grownBy.cell hg HG.out NmG.out); replace HK := Lib.hid (HK.out.grown hg); replace HP := Lib.hid (World.grownBy.cell hg HP.out NmB.out); replace HR := Lib.hid hrf; clear hrf hg p0; have p0 := HP.out)
        | ((with_reducible refine (KN _ HR.out HE.out HG.out).out.mono ?_); rintro e8 w9 ⟨rfl, hrf, hre, hrg, hk2⟩; replace HO := Lib.hid (HO.out.kept2 hk2 NN.out.2.2.2.1 NN.out.2.2.2.2.1); have HE2 := Lib.hid hre; replace HG := Lib.hid hrg; replace HK := Lib.hid (HK.out.trans hk2); replace HP := Lib.hid (hk2.cell HP.out NN.out.2.2.2.2.2.1 NN.out.2.2.2.2.2.2.1); have HR2 := Lib.hid hrf; clear hrf hre hrg hk2 p0; have p0 := HP.out)
        | (at_builtin; refine wpList_app_k kRn rfl (.tmp 23) (.tmp 26) rfl (B + 1) _ dn rfl (Kind.Own.alloc HO.out _) _ (some ⟨w9.heap.size, 0, none⟩) 1 1 [⟨X, Z⟩] rfl rfl (HRW w9).out HLE.out (by decide) (by have := World.block_lt_of_cell? w9 _ HP.out; rw [size1]; exact Nat.le_succ_of_le this) ?_; intro v3 w3 hown3 hg3 hb3 _; have HV := HO.out.lt; obtain ⟨A7, c7, rfl, -⟩ := hown3.read_n (n := k + 1) (by rw [List.length_append, ← HD.out]; rfl); have HO3 := Lib.hid hown3; have HB3 := Lib.hid hb3; clear hown3 hg3 hb3 HV))
      have HR3 := Lib.hid (RdAt.below (heap_old _ HR2.out) HB3.out NN.out.2.2.2.1)
      have HE3 := Lib.hid ((HE2.out.alloc _).under HB3.out NN.out.2.2.2.2.1)
      have HG3 := Lib.hid (cell_under HG.out _ HB3.out NN.out.2.2.2.2.2.2.2)
      have HP3 := Lib.hid (cell_under HP.out _ HB3.out (Nat.lt_succ_self _))
      have HK3 := Lib.hid ((HK.out.alloc _).below HB3.out (by rw [HBB.out]; exact Nat.le_succ _))
      go_roundw
      case rel => exact ⟨k + 1, q4, x4, dn ++ [⟨X, Z⟩], by omega, by rw [wasR_snoc]; exact HZ.out.1, by rw [wasR_snoc]; exact HZ.out.2.1, by rw [List.length_append, ← HD.out]; rfl, HZ.out.2.2, by rw [wasR_snoc]; exact HY2, HR3, by rw [wasR_snoc]; exact HE3, HG3, HO3, HK3, HP3⟩
      case measure => simp [lenOf]; omega
    · have hor : n - k = 0 ∨ e' ≠ 0 := by
        by_cases h : k < n
        · exact .inr fun he => hc ⟨h, he⟩
        · exact .inl (by omega)
      have HF := Lib.hid (show (Y, r, e2) = (dn, q, e') by rw [HY.out, runsRd_end _ _ _ hor, List.append_nil])
      have hgo : (k < n ∧ (e' == 0) = false) ∨ ¬ k < n := by
        by_cases h : k < n
        · exact .inl ⟨h, beq_eq_false_iff_ne.2 fun he => hc ⟨h, he⟩⟩
        · exact .inr h
      obtain rfl : N = k := by
        have h := HF.out
        injection h with h1 h2
        rw [HNN.out, HD.out, h1]
      clear hc hor hrd6 HE HG HY
      rcases hgo with ⟨hlt, heb⟩ | hlt
      all_goals
        go_wp2_with ((with_reducible refine (KE _ HR.out).out.mono ?_); rintro e8 w9 ⟨rfl, hrf, hg⟩; replace HO := Lib.hid (HO.out.other hg NN.out.2.2.2.1); replace HK := Lib.hid (HK.out.grown hg); replace HP := Lib.hid (World.grownBy.cell hg HP.out NmB.out); replace HR := Lib.hid hrf; clear hrf hg p0; have p0 := HP.out)
        go_ret
        have h := HF.out
        injection h with h1 h2
        injection h2 with h2 h3
        subst h1 h2 h3
        exact ⟨A6, c6, rfl, HO.out.mono (by rw [HBB.out]; exact Nat.le_succ _), HR.out, HK.out⟩
set_option maxRecDepth 100000 in
set_option maxHeartbeats 4000000 in
theorem kc_runs (m n N : Nat) (l q1 r : List UInt8) (e x1 e2 : Int) (h1 : withinR 0 4096 l e = (n, q1, x1)) (Y : List Rn) (h2 : runsRd n 0 q1 x1 = (Y, r, e2)) (hN : N = Y.length) (hl : l.length ≤ 1000000) (w : World) (hr : RdAt w m l e) :
    Calls Tryz.prog 153 #[.agg #[.pointer (some ⟨m, 0, none⟩)]] w fun x w' => ∃ A c, x = .returned (.slice A N c) ∧ kRn.Own w' w.heap.size (.slice A N c) Y ∧ RdAt w' m r e2 ∧ w.grownBy w' (some m) := by
  have hmw := hr.lt
  obtain ⟨w1, hw1⟩ : ∃ w1, w.alloc (.cells #[.pointer (some ⟨m, 0, none⟩)] 91) = w1 := ⟨_, rfl⟩
  have p0 : w1.cell? ⟨w.heap.size, 0, none⟩ = some (.pointer (some ⟨m, 0, none⟩)) := hw1 ▸ box_new _ _ _
  have hs1 : w1.heap.size = w.heap.size + 1 := by rw [← hw1]; simp
  obtain ⟨w2, hw2⟩ : ∃ w2, w1.alloc (.cells #[.int .i64 0] 3) = w2 := ⟨_, rfl⟩
  have q0 : w2.cell? ⟨w.heap.size, 0, none⟩ = some (.pointer (some ⟨m, 0, none⟩)) := by rw [← hw2, alloc_keeps _ _ _ _ (by omega)]; exact p0
  have hE : EndAt w2 (w.heap.size + 1) 0 := by rw [← hw2, ← hs1]; exact endAt_new _ _ _
  have hR : RdAt w2 m l e := by rw [← hw2, ← hw1]; exact heap_old _ (heap_old _ hr)
  have hgr : w.grownBy w2 (some m) := by rw [← hw2, ← hw1]; exact gb_alloc (gb_alloc (gb_refl _ _) _) _
  have KS := Lib.hid (kc_sevr m (w.heap.size + 1) w.heap.size n N l q1 r e x1 e2 h1 Y h2 hN hl (by omega) (by omega) (by omega) w2 hR hE q0)
  have HG := Lib.hid hgr
  have eg := enters_of Tryz.func164 (by kernel_rfl) rfl
  clear h1 h2 hN hE hR hgr hr
  subst hw2
  go_enter Tryz.func153, Tryz.ntmps153
  go_wp2_with ((with_reducible refine KS.out.mono ?_); rintro x w9 ⟨A9, c9, rfl, hown, hrf, hk⟩; have HO := Lib.hid (hown.mono (base' := w.heap.size) HG.out.size); have HR := Lib.hid hrf; have HK := Lib.hid (hk.gb HG.out (Nat.le_succ _)); clear hown hrf hk)
  go_ret
  exact ⟨A9, c9, rfl, HO.out, HR.out, HK.out⟩
set_option maxRecDepth 100000 in
set_option maxHeartbeats 4000000 in
theorem kc_known (m N : Nat) (l r : List UInt8) (e e2 : Int) (k : Kn) (hk : knRd l e = (k, r, e2)) (hN : N = k.runs.length) (X : Int) (hX : k.rep = X) (hl : l.length ≤ 1000000) (w : World) (hr : RdAt w m l e) :
    Calls Tryz.prog 131 #[.agg #[.pointer (some ⟨m, 0, none⟩)]] w fun x w' => ∃ A c, x = .returned (.agg #[.int .i64 X, .slice A N c]) ∧ kRn.Own w' w.heap.size (.slice A N c) k.runs ∧ RdAt w' m r e2 ∧ w.grownBy w' (some m) := by
  obtain ⟨rp, q1, x1, hq1⟩ : ∃ rp q1 x1, withinR 1 16 l e = (rp, q1, x1) := ⟨_, _, _, rfl⟩
  obtain ⟨n, q2, x2, hq2⟩ : ∃ n q2 x2, withinR 0 4096 q1 x1 = (n, q2, x2) := ⟨_, _, _, rfl⟩
  obtain ⟨Y, q3, x3, hY⟩ : ∃ Y q3 x3, runsRd n 0 q2 x2 = (Y, q3, x3) := ⟨_, _, _, rfl⟩
  have hkr : knRd l e = (⟨(rp : Int), Y⟩, q3, x3) := by unfold knRd; rw [hq1]; simp only; rw [hq2]; simp only; rw [hY]
  rw [hkr] at hk
  injection hk with k1 k2
  injection k2 with k2 k3
  subst k1 k2 k3 hX
  have l1 : q1.length ≤ l.length := by have := withinR_len 1 16 l e; rw [hq1] at this; exact this
  obtain ⟨H, hH⟩ : ∃ H, w.heap.size = H := ⟨_, rfl⟩
  have hmH : m < H := hH ▸ hr.lt
  have NmH := Lib.hid (show (some H : Option Nat) ≠ some m from fun e => by injection e with e; omega)
  have NmH1 := Lib.hid (show (some (H + 1) : Option Nat) ≠ some m from fun e => by injection e with e; omega)
  have NHm := Lib.hid (show m ≠ H + 1 by omega)
  have HHH := Lib.hid (show w.heap.size ≤ H + 1 by omega)
  have HBH := Lib.hid (show H ≤ H + 1 ∧ w.heap.size = H from ⟨Nat.le_succ _, hH⟩)
  have W1 := fun (w' : World) (hf : RdAt w' m l e) => Lib.hid (rd_within_q hq1 hf (by omega))
  have KR := fun (w' : World) (hf : RdAt w' m q1 x1) => Lib.hid (kc_runs m n N q1 q2 q3 x1 x2 x3 hq2 Y hY hN (by omega) w' hf)
  obtain ⟨w9, hw9⟩ : ∃ w9, w9 = (w.alloc (.cells #[.pointer (some ⟨m, 0, none⟩)] 91)).alloc (.cells #[.int .i64 0, .slice none 0 0] 64) := ⟨_, rfl⟩
  have HR := Lib.hid (show RdAt w9 m l e by rw [hw9]; exact heap_old _ (heap_old _ hr))
  have HK := Lib.hid (show KnAt w9 (H + 1) 0 (.slice none 0 0) by
    have := knAt_new (w.alloc (.cells #[.pointer (some ⟨m, 0, none⟩)] 91)) 0 (.slice none 0 0) 64
    rw [size1, hH] at this
    rw [hw9]; exact this)
  have HG := Lib.hid (show w.grownBy w9 (some m) by rw [hw9]; exact gb_alloc (gb_alloc (gb_refl _ _) _) _)
  have p0 : w9.cell? ⟨H, 0, none⟩ = some (.pointer (some ⟨m, 0, none⟩)) := by
    rw [hw9, alloc_keeps _ _ _ _ (by rw [size1, hH]; omega), ← hH]; exact box_new _ _ _
  have HP := Lib.hid p0
  clear hr hq1 hq2 hY hkr l1 hN hl hmH
  go_enter Tryz.func131, Tryz.ntmps131
  go_upto_region 1 with fail
  (try rw [hH])
  rw [← hw9]
  clear hw9 hH
  go_wp2_with (first
    | ((with_reducible refine (W1 _ HR.out).out.mono ?_); rintro e8 w9 ⟨rfl, hrf, hg⟩; replace HK := Lib.hid (HK.out.grown hg NmH1.out); replace HG := Lib.hid (gb_trans HG.out hg); replace HP := Lib.hid (World.grownBy.cell hg HP.out NmH.out); have HR2 := Lib.hid hrf; clear hrf hg p0; have p0 := HP.out)
    | ((with_reducible refine (KR _ HR2.out).out.mono ?_); rintro e8 w8 ⟨A8, c8, rfl, hown, hrf, hg⟩; have HO := Lib.hid (hown.mono (base' := H + 2) (Nat.succ_le_of_lt HK.out.lt)); replace HK := Lib.hid (HK.out.grown hg NmH1.out); replace HG := Lib.hid (gb_trans HG.out hg); have HR3 := Lib.hid hrf; clear hrf hg p0 hown; obtain ⟨k0, k1, k2⟩ := HK.out))
  obtain ⟨h0, h1, -⟩ := (HK.out.set0 (rp : Int)).set1 (.slice A8 N c8)
  exact bodyPost_ret (v := .agg #[.int .i64 (rp : Int), .slice A8 N c8]) (by simp [results, Tryz.results131, go_sem, h0, h1]) rfl ⟨A8, c8, rfl, (HO.out.other (grownBy_set _ _ _ _) (Nat.lt_succ_self _)).other (grownBy_set _ _ _ _) (Nat.lt_succ_self _) |>.mono (by have := HBH.out; omega), (HR3.out.far NHm.out _ _).far NHm.out _ _, gb_set (gb_set HG.out HHH.out _) HHH.out _⟩
end Go.Proofs.YtopjhebhdopjpaaGreat

namespace Go.Proofs.YtopjhebhdopjpaaGreat
open Go.RowKit

theorem runsRd_len : ∀ (n : Nat) (was : Int) (l : List UInt8) (e : Int), (runsRd n was l e).2.1.length ≤ l.length
  | 0, _, _, _ => Nat.le_refl _
  | n + 1, was, l, e => by
    rw [runsRd]
    split
    · have h1 : (runRd was l e).2.1.length ≤ l.length := by
        unfold runRd
        have a := numR_len l e
        have b := numR_len (numR l e).2.1 (numR l e).2.2
        simp only
        omega
      have h2 := runsRd_len n (runRd was l e).1.to (runRd was l e).2.1 (runRd was l e).2.2
      show (runsRd n (runRd was l e).1.to (runRd was l e).2.1 (runRd was l e).2.2).2.1.length ≤ l.length
      omega
    · exact Nat.le_refl _
theorem knRd_len (l : List UInt8) (e : Int) : (knRd l e).2.1.length ≤ l.length := by
  unfold knRd
  have a := withinR_len 1 16 l e
  have b := withinR_len 0 4096 (withinR 1 16 l e).2.1 (withinR 1 16 l e).2.2
  have c := runsRd_len (withinR 0 4096 (withinR 1 16 l e).2.1 (withinR 1 16 l e).2.2).1 0 (withinR 0 4096 (withinR 1 16 l e).2.1 (withinR 1 16 l e).2.2).2.1 (withinR 0 4096 (withinR 1 16 l e).2.1 (withinR 1 16 l e).2.2).2.2
  simp only
  omega
theorem manyR_len {α : Type} {f : List UInt8 → Int → α × List UInt8 × Int} (hf : ∀ l e, (f l e).2.1.length ≤ l.length) : ∀ (n : Nat) (l : List UInt8) (e : Int), (manyR f n l e).2.1.length ≤ l.length
  | 0, _, _ => Nat.le_refl _
  | n + 1, l, e => by
    rw [manyR]
    split
    · have h1 := hf l e
      have h2 := manyR_len hf n (f l e).2.1 (f l e).2.2
      show (manyR f n (f l e).2.1 (f l e).2.2).2.1.length ≤ l.length
      omega
    · exact Nat.le_refl _
set_option maxRecDepth 100000 in
set_option maxHeartbeats 8000000 in
theorem kc_sevk (m n N : Nat) (l q1 r : List UInt8) (e x1 e2 : Int) (h1 : withinR 0 16 l e = (n, q1, x1)) (Y : List Kn) (h2 : manyR knRd n q1 x1 = (Y, r, e2)) (hN : N = Y.length) (hl : l.length ≤ 1000000) (w : World) (hr : RdAt w m l e) :
    Calls Tryz.prog 130 #[.agg #[.pointer (some ⟨m, 0, none⟩)], .int .i64 16, .func (.func 131) #[.agg #[.pointer (some ⟨m, 0, none⟩)]] #[]] w fun x w' => ∃ A c, x = .returned (.slice A N c) ∧ dKn.Own w' w.heap.size (fun g => w.heap.size ≤ g) (.slice A N c) Y ∧ RdAt w' m r e2 ∧ w.grownBy w' (some m) := by
  have hn9 : n ≤ 16 := by have := withinR_to (lo := 0) (hi := 16) (by decide) l e; rw [h1] at this; simp only at this; omega
  have hq1 : q1.length ≤ 1000000 := by have := withinR_len 0 16 l e; rw [h1] at this; simp only at this; omega
  have W1 := fun (w' : World) (hf : RdAt w' m l e) => Lib.hid (rd_within_q h1 hf (by omega))
  obtain ⟨B, hB⟩ : ∃ B, w.heap.size = B := ⟨_, rfl⟩
  have hmB : m < B := hB ▸ hr.lt
  have NmB := Lib.hid (show (some B : Option Nat) ≠ some m from fun e => by injection e with e; omega)
  have NN := Lib.hid (show m < B + 1 by omega)
  have HBB := Lib.hid hB
  obtain ⟨w9, hw9⟩ : ∃ w9, w9 = w.alloc (.cells #[.pointer (some ⟨m, 0, none⟩)] 91) := ⟨_, rfl⟩
  have HR := Lib.hid (show RdAt w9 m l e by rw [hw9]; exact heap_old _ hr)
  have HK := Lib.hid (show w.grownBy w9 (some m) by rw [hw9]; exact gb_alloc (gb_refl _ _) _)
  have p0 : w9.cell? ⟨B, 0, none⟩ = some (.pointer (some ⟨m, 0, none⟩)) := by rw [hw9, ← hB]; exact box_new _ _ _
  have HP := Lib.hid p0
  have HQ1 := Lib.hid hq1
  have HY0 := Lib.hid h2
  have HNN := Lib.hid hN
  have eg := enters_of Tryz.func131 (by kernel_rfl) rfl
  clear hr h1 hq1 h2 hN hmB
  go_enter Tryz.func130, Tryz.ntmps130
  go_upto_region 1 with fail
  (try rw [hB])
  rw [← hw9]
  clear hw9 hB
  go_upto_region 2 with ((with_reducible refine (W1 _ HR.out).out.mono ?_); rintro e8 w9 ⟨rfl, hrf, hg⟩; replace HK := Lib.hid (HK.out.trans hg); replace HP := Lib.hid (World.grownBy.cell hg HP.out NmB.out); replace HR := Lib.hid hrf; clear hrf hg p0; have p0 := HP.out)
  clear W1
  go_wp2_with fail
  go_loopw [8] (fun v wr => ∃ (k : Nat) (q : List UInt8) (e' : Int) (dn : List Kn), k ≤ n ∧ Hid (k = dn.length) ∧ Hid (q.length ≤ 1000000) ∧ Hid ((Y, r, e2) = (dn ++ (manyR knRd (n - k) q e').1, (manyR knRd (n - k) q e').2)) ∧ Hid (RdAt wr m q e') ∧ Hid (dKn.Own wr (B + 1) (fun g => B + 1 ≤ g) v dn) ∧ Hid (w.grownBy wr (some m)) ∧ Hid (wr.cell? ⟨B, 0, none⟩ = some (.pointer (some ⟨m, 0, none⟩)))) (fun v _ => n - lenOf v)
  case atStart => exact ⟨0, q1, x1, [], by omega, rfl, HQ1, by rw [Nat.sub_zero, HY0.out]; rfl, HR, Deep.Own.nil _ _ _, HK, HP⟩
  case round =>
    clear HR HK HP p0
    obtain ⟨k, q, e', dn, hk, HD, HQ, HY, HR, HO, HK, HP⟩ := hrel
    have p0 := HP.out
    obtain ⟨bs, hown, hall⟩ := HO.out
    obtain ⟨A6, c6, rfl, hrd6⟩ := hown.read_n (n := k) (HD.out.trans hall.1.symm)
    have KE := fun (w' : World) (hr : RdAt w' m q e') => Lib.hid (rd_err (givenAt_some hr))
    have hkc : k ≤ c6 := by rw [HD.out, ← hall.1]; exact hrd6.room
    clear hown hall hrd6
    by_cases hc : k < n ∧ e' = 0
    · obtain ⟨hlt, rfl⟩ := hc
      obtain ⟨x, q4, x4, hx⟩ : ∃ x q4 x4, knRd q 0 = (x, q4, x4) := ⟨_, _, _, rfl⟩
      have hq4 : q4.length ≤ 1000000 := by have h5 := knRd_len q 0; rw [hx] at h5; have h6 := HQ.out; simp only at h5; omega
      obtain ⟨X, xl⟩ := x
      obtain ⟨N5, hN5⟩ : ∃ N5, N5 = xl.length := ⟨_, rfl⟩
      have KN := fun (w' : World) (hr : RdAt w' m q 0) => Lib.hid (kc_known m N5 q q4 0 x4 ⟨X, xl⟩ hx hN5 X rfl HQ.out w' hr)
      have HN5 := Lib.hid hN5
      obtain ⟨x, hxx⟩ : ∃ x, (⟨X, xl⟩ : Kn) = x := ⟨_, rfl⟩
      rw [hxx] at hx
      clear hN5
      have HY2 := Lib.hid (show (Y, r, e2) = ((dn ++ [x]) ++ (manyR knRd (n - (k + 1)) q4 x4).1, (manyR knRd (n - (k + 1)) q4 x4).2) by rw [HY.out, manyR_step knRd hlt, hx, List.append_assoc]; rfl)
      have HQ4 := Lib.hid hq4
      clear hx hq4 HY
      go_wp2_with (first
        | ((with_reducible refine (KE _ HR.out).out.mono ?_); rintro e8 w8 ⟨rfl, hrf, hg⟩; replace HO := Lib.hid (deep_other HO.out hg NN.out); replace HK := Lib.hid (HK.out.trans hg); replace HP := Lib.hid (World.grownBy.cell hg HP.out NmB.out); have HR2 := Lib.hid hrf; clear hrf hg p0; have p0 := HP.out)
        | ((with_reducible refine (KN _ HR2.out).out.mono ?_); rintro e8 w9 ⟨A5, c5, rfl, hxo, hrf, hg⟩; obtain ⟨bs0, ho0, -⟩ := HO.out; have HREL := Lib.hid (hxx ▸ holds_new ho0 hxo HN5.out (Nat.succ_le_of_lt (World.block_lt_of_cell? w8 _ HP.out)) X); clear ho0 bs0; obtain ⟨bs, hown, hall⟩ := deep_other HO.out hg NN.out; have HOW := Lib.hid hown; have HAL := Lib.hid hall; have HLE := Lib.hid (show bs.length + [(⟨X, A5, N5, c5⟩ : Ks)].length ≤ 1000000 by rw [hall.1, ← HD.out, List.length_singleton]; omega); have HLN := Lib.hid (show k + 1 = (bs ++ [(⟨X, A5, N5, c5⟩ : Ks)]).length by rw [List.length_append, hall.1, ← HD.out]; rfl); replace HK := Lib.hid (HK.out.trans hg); replace HP := Lib.hid (World.grownBy.cell hg HP.out NmB.out); have HR3 := Lib.hid hrf; clear hrf hg p0 hxo hown hall HO; have p0 := HP.out)
        | (at_builtin; refine wpList_app_k kKs rfl (.tmp 23) (.tmp 26) rfl (B + 1) _ bs rfl (Kind.Own.alloc HOW.out _) _ (some ⟨w9.heap.size, 0, none⟩) 1 1 [⟨X, A5, N5, c5⟩] rfl rfl (ks_row w9 X A5 N5 c5) HLE.out (by decide) (by have := World.block_lt_of_cell? w9 _ HP.out; rw [size1]; exact Nat.le_succ_of_le this) ?_; intro v3 w3 hown3 hg3 hb3 hv3; obtain ⟨A7, c7, rfl, -⟩ := hown3.read_n HLN.out; have HO3 := Lib.hid (Deep.Own.app (HAL.out.keep (keptS_below (below_new w9 _) _)) (.one (dKn.keep HREL.out (keptS_below (below_new w9 _) _))) hown3 hg3 hv3); have HB3 := Lib.hid hb3; clear hown3 hg3 hb3 hv3))
      have HR4 := Lib.hid (RdAt.below (heap_old _ HR3.out) HB3.out NN.out)
      have HP4 := Lib.hid (cell_under HP.out _ HB3.out (Nat.lt_succ_self _))
      have HK4 := Lib.hid (gb_below (gb_alloc HK.out _) HB3.out (by rw [HBB.out]; exact Nat.le_succ _))
      go_roundw
      case rel => exact ⟨k + 1, q4, x4, dn ++ [x], by omega, by rw [List.length_append, ← HD.out]; rfl, HQ4, HY2, HR4, HO3, HK4, HP4⟩
      case measure => simp [lenOf]; omega
    · have hor : n - k = 0 ∨ e' ≠ 0 := by
        by_cases h : k < n
        · exact .inr fun he => hc ⟨h, he⟩
        · exact .inl (by omega)
      have HF := Lib.hid (show (Y, r, e2) = (dn, q, e') by rw [HY.out, manyR_end knRd _ _ hor, List.append_nil])
      have hgo : (k < n ∧ (e' == 0) = false) ∨ ¬ k < n := by
        by_cases h : k < n
        · exact .inl ⟨h, beq_eq_false_iff_ne.2 fun he => hc ⟨h, he⟩⟩
        · exact .inr h
      obtain rfl : N = k := by
        have h := HF.out
        injection h with h1 h2
        rw [HNN.out, HD.out, h1]
      clear hc hor HY
      rcases hgo with ⟨hlt, heb⟩ | hlt
      all_goals
        go_wp2_with ((with_reducible refine (KE _ HR.out).out.mono ?_); rintro e8 w9 ⟨rfl, hrf, hg⟩; replace HO := Lib.hid (deep_other HO.out hg NN.out); replace HK := Lib.hid (HK.out.trans hg); replace HP := Lib.hid (World.grownBy.cell hg HP.out NmB.out); replace HR := Lib.hid hrf; clear hrf hg p0; have p0 := HP.out)
        go_ret
        have h := HF.out
        injection h with h1 h2
        injection h2 with h2 h3
        subst h1 h2 h3
        obtain ⟨bs, hown, hall⟩ := HO.out
        exact ⟨A6, c6, rfl, ⟨bs, hown.mono (by rw [HBB.out]; exact Nat.le_succ _), hall.mono fun g hg => ⟨Nat.le_trans (by rw [HBB.out]; exact Nat.le_succ _) hg.1, hg.2⟩⟩, HR.out, HK.out⟩
set_option maxRecDepth 100000 in
set_option maxHeartbeats 4000000 in
theorem kc_setr (m N : Nat) (l r : List UInt8) (e e2 : Int) (s : List Kn) (hs : setRd l e = (s, r, e2)) (hN : N = s.length) (hl : l.length ≤ 1000000) (w : World) (hr : RdAt w m l e) :
    Calls Tryz.prog 110 #[.agg #[.pointer (some ⟨m, 0, none⟩)]] w fun x w' => ∃ A c, x = .returned (.slice A N c) ∧ dKn.Own w' w.heap.size (fun g => w.heap.size ≤ g) (.slice A N c) s ∧ RdAt w' m r e2 ∧ w.grownBy w' (some m) := by
  obtain ⟨n, q1, x1, h1⟩ : ∃ n q1 x1, withinR 0 16 l e = (n, q1, x1) := ⟨_, _, _, rfl⟩
  have h2 : manyR knRd n q1 x1 = (s, r, e2) := by have := hs; unfold setRd at this; rw [h1] at this; exact this
  have HS := Lib.hid (show w.heap.size ≤ (w.alloc (.cells #[.pointer (some ⟨m, 0, none⟩)] 91)).heap.size by simp)
  have HG := Lib.hid (show w.grownBy (w.alloc (.cells #[.pointer (some ⟨m, 0, none⟩)] 91)) (some m) from gb_alloc (gb_refl _ _) _)
  have KS := Lib.hid (kc_sevk m n N l q1 r e x1 e2 h1 s h2 hN hl (w.alloc (.cells #[.pointer (some ⟨m, 0, none⟩)] 91)) (heap_old _ hr))
  clear hs h1 h2 hN hr
  go_enter Tryz.func110, Tryz.ntmps110
  go_wp2_with ((with_reducible refine KS.out.mono ?_); rintro x w9 ⟨A9, c9, rfl, ⟨bs, hown, hall⟩, hrf, hg⟩; have HO := Lib.hid (show dKn.Own w9 w.heap.size (fun g => w.heap.size ≤ g) (.slice A9 N c9) s from ⟨bs, hown.mono HS.out, hall.mono fun g hg => ⟨Nat.le_trans HS.out hg.1, hg.2⟩⟩); have HR := Lib.hid hrf; replace HG := Lib.hid (HG.out.trans hg); clear hown hall hrf hg)
  go_ret
  exact ⟨A9, c9, rfl, HO.out, HR.out, HG.out⟩
end Go.Proofs.YtopjhebhdopjpaaGreat

namespace Go.Proofs.YtopjhebhdopjpaaGreat
open Go.RowKit

def piecesRd (l : List UInt8) (e : Int) : List Pc × List UInt8 × Int :=
  let n := withinR 0 4096 l e
  manyR pieceRd n.1 n.2.1 n.2.2
theorem rdp_of {w : World} {S : Nat → Prop} {A : Option Addr} {c : Nat} {k : List Pc} (h : dPc.Rd w S A c k) : RdPc w A c k := Deep.Rd.all h
theorem setRd_len (l : List UInt8) (e : Int) : (setRd l e).2.1.length ≤ l.length := by
  unfold setRd
  have a := withinR_len 0 16 l e
  have b := manyR_len knRd_len (withinR 0 16 l e).1 (withinR 0 16 l e).2.1 (withinR 0 16 l e).2.2
  simp only
  omega
theorem pieceRd_len (l : List UInt8) (e : Int) : (pieceRd l e).2.1.length ≤ l.length := by
  unfold pieceRd
  have a := (rngR_size l e (Nat.le_refl _)).2
  have b := setRd_len (rngR l e).2.1 (rngR l e).2.2
  simp only
  omega
set_option maxRecDepth 100000 in
set_option maxHeartbeats 4000000 in
theorem kc_textrange (b : Nat) (l r : List UInt8) (e e2 : Int) (g : Rng) (hg : rngR l e = (g, r, e2)) (S T : ByteArray) (o : Bool) (hI : IsR g S T o) (hl : l.length ≤ 1000000) (w : World) (hr : RdAt w b l e) :
    Calls Tryz.prog 109 #[.agg #[.pointer (some ⟨b, 0, none⟩)]] w (RdPost w b (.agg #[.string S, .string T, .bool o]) r e2) := by
  obtain ⟨s, q1, x1, ht1⟩ : ∃ s q1 x1, textR 17 l e = (s, q1, x1) := ⟨_, _, _, rfl⟩
  obtain ⟨n, q2, x2, ht2⟩ : ∃ n q2 x2, withinR 0 1 q1 x1 = (n, q2, x2) := ⟨_, _, _, rfl⟩
  obtain ⟨t, q3, x3, ht3⟩ : ∃ t q3 x3, textR 17 q2 x2 = (t, q3, x3) := ⟨_, _, _, rfl⟩
  have l1 : q1.length ≤ l.length := by have := textR_len 17 l e; rw [ht1] at this; exact this
  have l2 : q2.length ≤ q1.length := by have := withinR_len 0 1 q1 x1; rw [ht2] at this; exact this
  obtain ⟨U, hU⟩ : ∃ U, str s = U := ⟨_, rfl⟩
  obtain ⟨V, hV⟩ : ∃ V, str t = V := ⟨_, rfl⟩
  obtain ⟨q, hq⟩ : ∃ q, decide (n = 1) = q := ⟨_, rfl⟩
  have hG : rngR l e = if n = 1 then (⟨s, [], true⟩, q2, x2) else (⟨s, t, false⟩, q3, x3) := by
    unfold rngR
    rw [ht1]; simp only; rw [ht2]; simp only; rw [ht3]
  have T1 := fun (w' : World) (hf : RdAt w' b l e) => Lib.hid (rd_text_q ht1 hU hf (by omega))
  have T2 := fun (w' : World) (hf : RdAt w' b q1 x1) => Lib.hid (rd_bool_q ht2 hq hf (by omega))
  have T3 := fun (w' : World) (hf : RdAt w' b q2 x2) => Lib.hid (rd_text_q ht3 hV hf (by omega))
  obtain ⟨M, hM⟩ : ∃ M, w.heap.size = M := ⟨_, rfl⟩
  have hbM : b < M := hM ▸ hr.lt
  have HMM := Lib.hid (show w.heap.size ≤ M + 1 by omega)
  have HNE := Lib.hid (show (some M : Option Nat) ≠ some b from fun e => by injection e with e; exact Nat.ne_of_gt hbM e)
  obtain ⟨w9, hw9⟩ : ∃ w9, w9 = (w.alloc (.cells #[.pointer (some ⟨b, 0, none⟩)] 93)).alloc (.cells #[.string ⟨#[]⟩, .string ⟨#[]⟩, .bool false] 45) := ⟨_, rfl⟩
  have HR := Lib.hid (show RdAt w9 b l e by rw [hw9]; exact heap_old _ (heap_old _ hr))
  have HGR := Lib.hid (show w.grownBy w9 (some b) by rw [hw9]; exact grown_alloc (grown_alloc (World.grownBy.refl _ _) _) _)
  have HG := Lib.hid (show RgAt w9 (M + 1) ⟨#[]⟩ ⟨#[]⟩ false by rw [hw9, ← hM]; exact rgAt_new1 _ _ _ _ _ _)
  have p0 : w9.cell? ⟨M, 0, none⟩ = some (.pointer (some ⟨b, 0, none⟩)) := by
    rw [hw9, alloc_keeps _ _ _ _ (by rw [size1, hM]; omega), cell_of_row _ _ _ _ _ _ (heap_new w _ _ hM.symm)]; rfl
  have HP := Lib.hid p0
  have HE := Lib.hid hG
  have HIS := Lib.hid hI
  have HGG := Lib.hid hg
  have HU := Lib.hid hU
  have HV := Lib.hid hV
  have HQ := Lib.hid hq
  clear hr ht1 ht2 ht3 l1 l2 hU hV hq hG hI hg hl
  go_enter Tryz.func109, Tryz.ntmps109
  go_upto_region 1 with fail
  rw [← hw9]
  clear hw9 hM
  obtain ⟨g0, g1, g2, gz⟩ := HG.out
  go_upto_region 2 with ((with_reducible refine (T1 _ HR.out).out.mono ?_); rintro e w9 ⟨rfl, hrf, hg⟩; replace HG := Lib.hid (HG.out.kept hg (by omega)); replace HGR := Lib.hid (HGR.out.trans hg); replace HP := Lib.hid (World.grownBy.cell hg HP.out HNE.out); replace HR := Lib.hid hrf; clear hrf hg p0 g0 g1 g2 gz; have p0 := HP.out; obtain ⟨g0, g1, g2, gz⟩ := HG.out)
  clear T1
  cases q
  · have hn : n ≠ 1 := of_decide_eq_false HQ.out
    have e1 := HGG.out.symm.trans (HE.out.trans (if_neg hn))
    injection e1 with e1 e2
    injection e2 with e2 e3
    have e4 := HIS.out
    rw [e1] at e4
    obtain ⟨i1, i2, i3⟩ := e4
    have i1 := HU.out.symm.trans i1
    have i2 := HV.out.symm.trans i2
    subst i1 i2 i3 e2 e3
    clear e1
    go_wp2_with (first | ((with_reducible refine (T2 _ HR.out).out.mono ?_); rintro e w9 ⟨rfl, hrf, hg⟩; replace HG := Lib.hid (HG.out.kept hg (by omega)); replace HGR := Lib.hid (HGR.out.trans hg); replace HP := Lib.hid (World.grownBy.cell hg HP.out HNE.out); replace HR := Lib.hid hrf; clear hrf hg p0 g0 g1 g2 gz; have p0 := HP.out; obtain ⟨g0, g1, g2, gz⟩ := HG.out) | ((with_reducible refine (T3 _ HR.out).out.mono ?_); rintro e w9 ⟨rfl, hrf, hg⟩; replace HG := Lib.hid (HG.out.kept hg (by omega)); replace HGR := Lib.hid (HGR.out.trans hg); replace HP := Lib.hid (World.grownBy.cell hg HP.out HNE.out); replace HR := Lib.hid hrf; clear hrf hg p0 g0 g1 g2 gz; have p0 := HP.out; obtain ⟨g0, g1, g2, gz⟩ := HG.out))
    obtain ⟨h0, h1, h2, -⟩ := HG.out.set3 U V false
    exact bodyPost_ret (v := .agg #[.string U, .string V, .bool false]) (by simp [results, Tryz.results109, go_sem, h0, h1, h2]) rfl ⟨rfl, ((HR.out.far (by omega) _ _).far (by omega) _ _).far (by omega) _ _, grown_set_new (grown_set_new (grown_set_new HGR.out HMM.out _ _) HMM.out _ _) HMM.out _ _⟩
  · have hn : n = 1 := of_decide_eq_true HQ.out
    have e1 := HGG.out.symm.trans (HE.out.trans (if_pos hn))
    injection e1 with e1 e2
    injection e2 with e2 e3
    have e4 := HIS.out
    rw [e1] at e4
    obtain ⟨i1, i2, i3⟩ := e4
    have i1 := HU.out.symm.trans i1
    have i2 : (⟨#[]⟩ : ByteArray) = T := i2
    subst i1 i2 i3 e2 e3
    clear e1 T3
    go_wp2_with ((with_reducible refine (T2 _ HR.out).out.mono ?_); rintro e w9 ⟨rfl, hrf, hg⟩; replace HG := Lib.hid (HG.out.kept hg (by omega)); replace HGR := Lib.hid (HGR.out.trans hg); replace HP := Lib.hid (World.grownBy.cell hg HP.out HNE.out); replace HR := Lib.hid hrf; clear hrf hg p0 g0 g1 g2 gz; have p0 := HP.out; obtain ⟨g0, g1, g2, gz⟩ := HG.out)
    obtain ⟨h0, h1, h2, -⟩ := HG.out.set3 U ⟨#[]⟩ true
    exact bodyPost_ret (v := .agg #[.string U, .string ⟨#[]⟩, .bool true]) (by simp [results, Tryz.results109, go_sem, h0, h1, h2]) rfl ⟨rfl, ((HR.out.far (by omega) _ _).far (by omega) _ _).far (by omega) _ _, grown_set_new (grown_set_new (grown_set_new HGR.out HMM.out _ _) HMM.out _ _) HMM.out _ _⟩
set_option maxRecDepth 100000 in
set_option maxHeartbeats 4000000 in
theorem kc_piece (m N : Nat) (l r : List UInt8) (e e2 : Int) (lo hi : List UInt8) (q0 : Bool) (st : List Kn) (U V : ByteArray) (hx : pieceRd l e = (⟨⟨lo, hi, q0⟩, st⟩, r, e2)) (hN : N = st.length) (hU : str lo = U) (hV : str hi = V) (hl : l.length ≤ 1000000) (w : World) (hr : RdAt w m l e) :
    Calls Tryz.prog 84 #[.agg #[.pointer (some ⟨m, 0, none⟩)]] w fun x w' => ∃ A c, x = .returned (.agg #[.string U, .string V, .bool q0, .slice A N c]) ∧ dKn.Rd w' (fun g => w.heap.size ≤ g) A c st ∧ RdAt w' m r e2 ∧ w.grownBy w' (some m) := by
  obtain ⟨g, q1, x1, hg⟩ : ∃ g q1 x1, rngR l e = (g, q1, x1) := ⟨_, _, _, rfl⟩
  obtain ⟨s, q2, x2, hs⟩ : ∃ s q2 x2, setRd q1 x1 = (s, q2, x2) := ⟨_, _, _, rfl⟩
  have hpr : pieceRd l e = (⟨g, s⟩, q2, x2) := by unfold pieceRd; rw [hg]; simp only; rw [hs]
  rw [hpr] at hx
  injection hx with k1 k2
  injection k2 with k2 k3
  injection k1 with k1 k4
  subst k2 k3 k4 k1
  have l1 : q1.length ≤ l.length := by have h := (rngR_size l e (Nat.le_refl _)).2; rw [hg] at h; exact h
  obtain ⟨H, hH⟩ : ∃ H, w.heap.size = H := ⟨_, rfl⟩
  have hmH : m < H := hH ▸ hr.lt
  have NmH := Lib.hid (show (some H : Option Nat) ≠ some m from fun e => by injection e with e; omega)
  have NmH1 := Lib.hid (show (some (H + 1) : Option Nat) ≠ some m from fun e => by injection e with e; omega)
  have NHm := Lib.hid (show m ≠ H + 1 by omega)
  have NH1 := Lib.hid (show H + 1 ≠ H by omega)
  have HHH := Lib.hid (show w.heap.size ≤ H + 1 by omega)
  have W1 := fun (w' : World) (hf : RdAt w' m l e) => Lib.hid (kc_textrange m l q1 e x1 ⟨lo, hi, q0⟩ hg U V q0 ⟨hU, hV, rfl⟩ (by omega) w' hf)
  have KR := fun (w' : World) (hf : RdAt w' m q1 x1) => Lib.hid (kc_setr m N q1 q2 x1 x2 s hs hN (by omega) w' hf)
  obtain ⟨w9, hw9⟩ : ∃ w9, w9 = (w.alloc (.cells #[.pointer (some ⟨m, 0, none⟩)] 93)).alloc (.cells #[.string ⟨#[]⟩, .string ⟨#[]⟩, .bool false, .slice none 0 0] 48) := ⟨_, rfl⟩
  have HR := Lib.hid (show RdAt w9 m l e by rw [hw9]; exact heap_old _ (heap_old _ hr))
  have HK := Lib.hid (show PcAt w9 (H + 1) ⟨#[]⟩ ⟨#[]⟩ false (.slice none 0 0) by
    have := pcAt_new (w.alloc (.cells #[.pointer (some ⟨m, 0, none⟩)] 93)) ⟨#[]⟩ ⟨#[]⟩ false (.slice none 0 0) 48
    rw [size1, hH] at this
    rw [hw9]; exact this)
  have HG := Lib.hid (show w.grownBy w9 (some m) by rw [hw9]; exact gb_alloc (gb_alloc (gb_refl _ _) _) _)
  have p0 : w9.cell? ⟨H, 0, none⟩ = some (.pointer (some ⟨m, 0, none⟩)) := by
    rw [hw9, alloc_keeps _ _ _ _ (by rw [size1, hH]; omega), ← hH]; exact box_new _ _ _
  have HP := Lib.hid p0
  have HN := Lib.hid hN
  clear hr hg hs hpr l1 hN hl hU hV
  go_enter Tryz.func84, Tryz.ntmps84
  go_upto_region 1 with fail
  (try rw [hH])
  rw [← hw9]
  clear hw9
  go_upto_region 2 with ((with_reducible refine (W1 _ HR.out).out.mono ?_); rintro e8 w9 ⟨rfl, hrf, hg⟩; replace HK := Lib.hid (HK.out.grown hg NmH1.out); replace HG := Lib.hid (gb_trans HG.out hg); replace HP := Lib.hid (World.grownBy.cell hg HP.out NmH.out); replace HR := Lib.hid hrf; clear hrf hg p0; have p0 := HP.out)
  clear W1
  obtain ⟨G, hG⟩ : ∃ G, w9.heap.size = G := ⟨_, rfl⟩
  have hHG : H + 1 < G := hG ▸ HK.out.lt
  obtain ⟨w8, hw8⟩ : ∃ w8, w8 = w9.alloc (.cells #[.string U, .string V, .bool q0] 45) := ⟨_, rfl⟩
  have HR8 := Lib.hid (show RdAt w8 m q1 x1 by rw [hw8]; exact heap_old _ HR.out)
  have HT := Lib.hid (show RgAt w8 G U V q0 by rw [hw8, ← hG]; exact rgAt_new _ _ _ _ _)
  have HK8 := Lib.hid (show PcAt w8 (H + 1) ⟨#[]⟩ ⟨#[]⟩ false (.slice none 0 0) by rw [hw8]; exact HK.out.grown (grown_of_below (below_new _ _) none) (by simp))
  have HG8 := Lib.hid (show w.grownBy w8 (some m) by rw [hw8]; exact gb_alloc HG.out _)
  have HP8 := Lib.hid (show w8.cell? ⟨H, 0, none⟩ = some (.pointer (some ⟨m, 0, none⟩)) by rw [hw8, alloc_keeps _ _ _ _ (by omega)]; exact HP.out)
  (try rw [hG])
  rw [← hw8]
  have NmG := Lib.hid (show (some G : Option Nat) ≠ some m from fun e => by injection e with e; omega)
  have NHG := Lib.hid (show H + 1 ≠ G by omega)
  have NmG2 := Lib.hid (show G ≠ m by omega)
  have HS8 := Lib.hid (show H + 1 < w8.heap.size by rw [hw8]; simp; omega)
  have HRd := Lib.hid (show RdAt w8.drew m q1 x1 from HR8.out)
  clear hw8 HK HG HP HR p0 hHG hmH hG
  have p0 := HP8.out
  obtain ⟨t0, t1, t2, t3⟩ := HT.out
  obtain ⟨k0, k1, k2, k3, k4⟩ := HK8.out
  go_region_held3 (fun w' => w'.cell? ⟨H, 0, none⟩ = some (.pointer (some ⟨m, 0, none⟩)) ∧ w'.cell? ⟨G, 0, none⟩ = some (.string U) ∧ w'.cell? ⟨G, 1, none⟩ = some (.string V) ∧ w'.cell? ⟨G, 2, none⟩ = some (.bool q0)) (first | (exact ⟨by assumption, by assumption, by assumption, by assumption⟩) | (exact ⟨set_other (set_other (set_other (set_other p0 (addr_block NH1.out) _) (addr_block NH1.out) _) (addr_block NH1.out) _) (addr_block NH1.out) _, set_other (set_other (set_other (set_other t0 (addr_block NHG.out) _) (addr_block NHG.out) _) (addr_block NHG.out) _) (addr_block NHG.out) _, set_other (set_other (set_other (set_other t1 (addr_block NHG.out) _) (addr_block NHG.out) _) (addr_block NHG.out) _) (addr_block NHG.out) _, set_other (set_other (set_other (set_other t2 (addr_block NHG.out) _) (addr_block NHG.out) _) (addr_block NHG.out) _) (addr_block NHG.out) _⟩) | go_keep)
    (first
      | (go_at_call 110; (with_reducible refine (KR _ HRd.out).out.mono ?_); rintro x w7 ⟨A7, c7, rfl, hown, hrf, hg⟩; replace hg := gb_of_drew hg; obtain ⟨A4, c4, hv4, hrd⟩ := Deep.Own.rd hown HN.out (fun g hg => hg); injection hv4 with i1 i2 i3; subst i1 i3; have HS7 := Lib.hid (show dKn.Rd w7 (fun g => w8.heap.size ≤ g) A7 c7 s from hrd); have HR7 := Lib.hid hrf; have HG7 := Lib.hid (gb_trans HG8.out hg); have HK7 := Lib.hid (HK8.out.grown hg NmH1.out); replace HT := Lib.hid (HT.out.kept hg NmG2.out); replace p0 := World.grownBy.cell hg p0 NmH.out; clear hown hrf hg hrd i2 t0 t1 t2 t3 k0 k1 k2 k3 k4; obtain ⟨t0, t1, t2, t3⟩ := HT.out; obtain ⟨k0, k1, k2, k3, k4⟩ := HK7.out))
  go_wp2_with fail
  have NS := Lib.hid (show ∀ g, w8.heap.size ≤ g → (some (H + 1) : Option Nat) ≠ some g from fun g hg e => by injection e with e; have := HS8.out; omega)
  obtain ⟨h0, h1, h2, h3, -⟩ := (((HK7.out.set0 U).set1 V).set2 q0).set3 (.slice A7 N c7)
  exact bodyPost_ret (v := .agg #[.string U, .string V, .bool q0, .slice A7 N c7]) (by simp [results, Tryz.results84, go_sem, h0, h1, h2, h3]) rfl ⟨A7, c7, rfl, ((((HS7.out.keep (keptS_grown (grownBy_set _ _ _ _) NS.out)).keep (keptS_grown (grownBy_set _ _ _ _) NS.out)).keep (keptS_grown (grownBy_set _ _ _ _) NS.out)).keep (keptS_grown (grownBy_set _ _ _ _) NS.out)).mono fun g hg => Nat.le_trans HG8.out.size hg, (((HR7.out.far NHm.out _ _).far NHm.out _ _).far NHm.out _ _).far NHm.out _ _, gb_set (gb_set (gb_set (gb_set HG7.out HHH.out _) HHH.out _) HHH.out _) HHH.out _⟩
set_option maxRecDepth 100000 in
set_option maxHeartbeats 8000000 in
theorem kc_sevp (m n N : Nat) (l q1 r : List UInt8) (e x1 e2 : Int) (h1 : withinR 0 4096 l e = (n, q1, x1)) (Y : List Pc) (h2 : manyR pieceRd n q1 x1 = (Y, r, e2)) (hN : N = Y.length) (hl : l.length ≤ 1000000) (w : World) (hr : RdAt w m l e) :
    Calls Tryz.prog 83 #[.agg #[.pointer (some ⟨m, 0, none⟩)], .int .i64 4096, .func (.func 84) #[.agg #[.pointer (some ⟨m, 0, none⟩)]] #[]] w fun x w' => ∃ A c, x = .returned (.slice A N c) ∧ dPc.Own w' w.heap.size (fun g => w.heap.size ≤ g) (.slice A N c) Y ∧ RdAt w' m r e2 ∧ w.grownBy w' (some m) := by
  have hn9 : n ≤ 4096 := by have := withinR_to (lo := 0) (hi := 4096) (by decide) l e; rw [h1] at this; simp only at this; omega
  have hq1 : q1.length ≤ 1000000 := by have := withinR_len 0 4096 l e; rw [h1] at this; simp only at this; omega
  have W1 := fun (w' : World) (hf : RdAt w' m l e) => Lib.hid (rd_within_q h1 hf (by omega))
  obtain ⟨B, hB⟩ : ∃ B, w.heap.size = B := ⟨_, rfl⟩
  have hmB : m < B := hB ▸ hr.lt
  have NmB := Lib.hid (show (some B : Option Nat) ≠ some m from fun e => by injection e with e; omega)
  have NN := Lib.hid (show m < B + 1 by omega)
  have HBB := Lib.hid hB
  obtain ⟨w9, hw9⟩ : ∃ w9, w9 = w.alloc (.cells #[.pointer (some ⟨m, 0, none⟩)] 91) := ⟨_, rfl⟩
  have HR := Lib.hid (show RdAt w9 m l e by rw [hw9]; exact heap_old _ hr)
  have HK := Lib.hid (show w.grownBy w9 (some m) by rw [hw9]; exact gb_alloc (gb_refl _ _) _)
  have p0 : w9.cell? ⟨B, 0, none⟩ = some (.pointer (some ⟨m, 0, none⟩)) := by rw [hw9, ← hB]; exact box_new _ _ _
  have HP := Lib.hid p0
  have HQ1 := Lib.hid hq1
  have HY0 := Lib.hid h2
  have HNN := Lib.hid hN
  have eg := enters_of Tryz.func84 (by kernel_rfl) rfl
  clear hr h1 hq1 h2 hN hmB
  go_enter Tryz.func83, Tryz.ntmps83
  go_upto_region 1 with fail
  (try rw [hB])
  rw [← hw9]
  clear hw9 hB
  go_upto_region 2 with ((with_reducible refine (W1 _ HR.out).out.mono ?_); rintro e8 w9 ⟨rfl, hrf, hg⟩; replace HK := Lib.hid (HK.out.trans hg); replace HP := Lib.hid (World.grownBy.cell hg HP.out NmB.out); replace HR := Lib.hid hrf; clear hrf hg p0; have p0 := HP.out)
  clear W1
  go_wp2_with fail
  go_loopw [8] (fun v wr => ∃ (k : Nat) (q : List UInt8) (e' : Int) (dn : List Pc), k ≤ n ∧ Hid (k = dn.length) ∧ Hid (q.length ≤ 1000000) ∧ Hid ((Y, r, e2) = (dn ++ (manyR pieceRd (n - k) q e').1, (manyR pieceRd (n - k) q e').2)) ∧ Hid (RdAt wr m q e') ∧ Hid (dPc.Own wr (B + 1) (fun g => B + 1 ≤ g) v dn) ∧ Hid (w.grownBy wr (some m)) ∧ Hid (wr.cell? ⟨B, 0, none⟩ = some (.pointer (some ⟨m, 0, none⟩)))) (fun v _ => n - lenOf v)
  case atStart => exact ⟨0, q1, x1, [], by omega, rfl, HQ1, by rw [Nat.sub_zero, HY0.out]; rfl, HR, Deep.Own.nil _ _ _, HK, HP⟩
  case round =>
    clear HR HK HP p0
    obtain ⟨k, q, e', dn, hk, HD, HQ, HY, HR, HO, HK, HP⟩ := hrel
    have p0 := HP.out
    obtain ⟨bs, hown, hall⟩ := HO.out
    obtain ⟨A6, c6, rfl, hrd6⟩ := hown.read_n (n := k) (HD.out.trans hall.1.symm)
    have KE := fun (w' : World) (hr : RdAt w' m q e') => Lib.hid (rd_err (givenAt_some hr))
    have hkc : k ≤ c6 := by rw [HD.out, ← hall.1]; exact hrd6.room
    clear hown hall hrd6
    by_cases hc : k < n ∧ e' = 0
    · obtain ⟨hlt, rfl⟩ := hc
      obtain ⟨x, q4, x4, hx⟩ : ∃ x q4 x4, pieceRd q 0 = (x, q4, x4) := ⟨_, _, _, rfl⟩
      have hq4 : q4.length ≤ 1000000 := by have h5 := pieceRd_len q 0; rw [hx] at h5; have h6 := HQ.out; simp only at h5; omega
      obtain ⟨⟨lo, hi, q0⟩, st⟩ := x
      obtain ⟨U, hU⟩ : ∃ U, str lo = U := ⟨_, rfl⟩
      obtain ⟨V, hV⟩ : ∃ V, str hi = V := ⟨_, rfl⟩
      obtain ⟨N5, hN5⟩ : ∃ N5, N5 = st.length := ⟨_, rfl⟩
      have KN := fun (w' : World) (hr : RdAt w' m q 0) => Lib.hid (kc_piece m N5 q q4 0 x4 lo hi q0 st U V hx hN5 hU hV HQ.out w' hr)
      obtain ⟨x, hxx⟩ : ∃ x, (⟨⟨lo, hi, q0⟩, st⟩ : Pc) = x := ⟨_, rfl⟩
      rw [hxx] at hx
      have HN5 := Lib.hid hN5
      have HU := Lib.hid hU
      have HV := Lib.hid hV
      clear hN5 hU hV
      have HY2 := Lib.hid (show (Y, r, e2) = ((dn ++ [x]) ++ (manyR pieceRd (n - (k + 1)) q4 x4).1, (manyR pieceRd (n - (k + 1)) q4 x4).2) by rw [HY.out, manyR_step pieceRd hlt, hx, List.append_assoc]; rfl)
      have HQ4 := Lib.hid hq4
      clear hx hq4 HY
      go_wp2_with (first
        | ((with_reducible refine (KE _ HR.out).out.mono ?_); rintro e8 w8 ⟨rfl, hrf, hg⟩; replace HO := Lib.hid (deep_other HO.out hg NN.out); replace HK := Lib.hid (HK.out.trans hg); replace HP := Lib.hid (World.grownBy.cell hg HP.out NmB.out); have HR2 := Lib.hid hrf; clear hrf hg p0; have p0 := HP.out)
        | ((with_reducible refine (KN _ HR2.out).out.mono ?_); rintro e8 w9 ⟨A5, c5, rfl, hxo, hrf, hg⟩; obtain ⟨bs0, ho0, -⟩ := HO.out; have HREL := Lib.hid (show dPc.rel w9 (fun g => B + 1 ≤ g ∧ (Value.slice A6 k c6).ownBlock ≠ some g) (⟨⟨lo, hi, q0⟩, A5, N5, c5⟩ : Ps) x from hxx ▸ ⟨rfl, HN5.out, Deep.Rd.mono hxo fun g hg => ⟨Nat.le_trans (Nat.succ_le_of_lt (World.block_lt_of_cell? w8 _ HP.out)) hg, fun h => by have := (ho0.lt g h).2; omega⟩⟩); clear ho0 bs0; obtain ⟨bs, hown, hall⟩ := deep_other HO.out hg NN.out; have HOW := Lib.hid hown; have HAL := Lib.hid hall; have HLE := Lib.hid (show bs.length + [(⟨⟨lo, hi, q0⟩, A5, N5, c5⟩ : Ps)].length ≤ 1000000 by rw [hall.1, ← HD.out, List.length_singleton]; omega); have HLN := Lib.hid (show k + 1 = (bs ++ [(⟨⟨lo, hi, q0⟩, A5, N5, c5⟩ : Ps)]).length by rw [List.length_append, hall.1, ← HD.out]; rfl); replace HK := Lib.hid (HK.out.trans hg); replace HP := Lib.hid (World.grownBy.cell hg HP.out NmB.out); have HR3 := Lib.hid hrf; clear hrf hg p0 hxo hown hall HO; have p0 := HP.out)
        | (at_builtin; refine wpList_app_k kPs rfl (.tmp 23) (.tmp 26) rfl (B + 1) _ bs rfl (Kind.Own.alloc HOW.out _) _ (some ⟨w9.heap.size, 0, none⟩) 1 1 [⟨⟨lo, hi, q0⟩, A5, N5, c5⟩] rfl rfl (piece_row_n w9 lo hi U V HU.out HV.out q0 A5 N5 c5) HLE.out (by decide) (by have := World.block_lt_of_cell? w9 _ HP.out; rw [size1]; exact Nat.le_succ_of_le this) ?_; intro v3 w3 hown3 hg3 hb3 hv3; obtain ⟨A7, c7, rfl, -⟩ := hown3.read_n HLN.out; have HO3 := Lib.hid (Deep.Own.app (HAL.out.keep (keptS_below (below_new w9 _) _)) (.one (dPc.keep HREL.out (keptS_below (below_new w9 _) _))) hown3 hg3 hv3); have HB3 := Lib.hid hb3; clear hown3 hg3 hb3 hv3))
      have HR4 := Lib.hid (RdAt.below (heap_old _ HR3.out) HB3.out NN.out)
      have HP4 := Lib.hid (cell_under HP.out _ HB3.out (Nat.lt_succ_self _))
      have HK4 := Lib.hid (gb_below (gb_alloc HK.out _) HB3.out (by rw [HBB.out]; exact Nat.le_succ _))
      go_roundw
      case rel => exact ⟨k + 1, q4, x4, dn ++ [x], by omega, by rw [List.length_append, ← HD.out]; rfl, HQ4, HY2, HR4, HO3, HK4, HP4⟩
      case measure => simp [lenOf]; omega
    · have hor : n - k = 0 ∨ e' ≠ 0 := by
        by_cases h : k < n
        · exact .inr fun he => hc ⟨h, he⟩
        · exact .inl (by omega)
      have HF := Lib.hid (show (Y, r, e2) = (dn, q, e') by rw [HY.out, manyR_end pieceRd _ _ hor, List.append_nil])
      have hgo : (k < n ∧ (e' == 0) = false) ∨ ¬ k < n := by
        by_cases h : k < n
        · exact .inl ⟨h, beq_eq_false_iff_ne.2 fun he => hc ⟨h, he⟩⟩
        · exact .inr h
      obtain rfl : N = k := by
        have h := HF.out
        injection h with h1 h2
        rw [HNN.out, HD.out, h1]
      clear hc hor HY
      rcases hgo with ⟨hlt, heb⟩ | hlt
      all_goals
        go_wp2_with ((with_reducible refine (KE _ HR.out).out.mono ?_); rintro e8 w9 ⟨rfl, hrf, hg⟩; replace HO := Lib.hid (deep_other HO.out hg NN.out); replace HK := Lib.hid (HK.out.trans hg); replace HP := Lib.hid (World.grownBy.cell hg HP.out NmB.out); replace HR := Lib.hid hrf; clear hrf hg p0; have p0 := HP.out)
        go_ret
        have h := HF.out
        injection h with h1 h2
        injection h2 with h2 h3
        subst h1 h2 h3
        obtain ⟨bs, hown, hall⟩ := HO.out
        exact ⟨A6, c6, rfl, ⟨bs, hown.mono (by rw [HBB.out]; exact Nat.le_succ _), hall.mono fun g hg => ⟨Nat.le_trans (by rw [HBB.out]; exact Nat.le_succ _) hg.1, hg.2⟩⟩, HR.out, HK.out⟩
set_option maxRecDepth 100000 in
set_option maxHeartbeats 4000000 in
theorem kc_pieces (m N : Nat) (l r : List UInt8) (e e2 : Int) (s : List Pc) (hs : piecesRd l e = (s, r, e2)) (hN : N = s.length) (hl : l.length ≤ 1000000) (w : World) (hr : RdAt w m l e) :
    Calls Tryz.prog 56 #[.agg #[.pointer (some ⟨m, 0, none⟩)]] w fun x w' => ∃ A c, x = .returned (.slice A N c) ∧ dPc.Own w' w.heap.size (fun g => w.heap.size ≤ g) (.slice A N c) s ∧ RdAt w' m r e2 ∧ w.grownBy w' (some m) := by
  obtain ⟨n, q1, x1, h1⟩ : ∃ n q1 x1, withinR 0 4096 l e = (n, q1, x1) := ⟨_, _, _, rfl⟩
  have h2 : manyR pieceRd n q1 x1 = (s, r, e2) := by have := hs; unfold piecesRd at this; rw [h1] at this; exact this
  have HS := Lib.hid (show w.heap.size ≤ (w.alloc (.cells #[.pointer (some ⟨m, 0, none⟩)] 93)).heap.size by simp)
  have HG := Lib.hid (show w.grownBy (w.alloc (.cells #[.pointer (some ⟨m, 0, none⟩)] 93)) (some m) from gb_alloc (gb_refl _ _) _)
  have KS := Lib.hid (kc_sevp m n N l q1 r e x1 e2 h1 s h2 hN hl (w.alloc (.cells #[.pointer (some ⟨m, 0, none⟩)] 93)) (heap_old _ hr))
  clear hs h1 h2 hN hr
  go_enter Tryz.func56, Tryz.ntmps56
  go_wp2_with ((with_reducible refine KS.out.mono ?_); rintro x w9 ⟨A9, c9, rfl, ⟨bs, hown, hall⟩, hrf, hg⟩; have HO := Lib.hid (show dPc.Own w9 w.heap.size (fun g => w.heap.size ≤ g) (.slice A9 N c9) s from ⟨bs, hown.mono HS.out, hall.mono fun g hg => ⟨Nat.le_trans HS.out hg.1, hg.2⟩⟩); have HR := Lib.hid hrf; replace HG := Lib.hid (HG.out.trans hg); clear hown hall hrf hg)
  go_ret
  exact ⟨A9, c9, rfl, HO.out, HR.out, HG.out⟩
set_option maxRecDepth 100000 in
set_option maxHeartbeats 4000000 in
theorem kc_wholep (m : Nat) (l : List UInt8) (e z : Int) (hz : endR l e = z) (s : List Pc) (n : Nat) (hn : n = s.length) (v : Bool) (hv : rightP s = v) (A : Option Addr) (c : Nat) (S : Nat → Prop) (hS : ∀ g, S g → g ≠ m) (N : Nat) (y : List Pc) (x : Int) (hy : (if z ≠ 0 then ([], z) else match v with | true => (s, 0) | false => ([], 11)) = (y, x)) (hN : N = y.length) (w : World) (hr : RdAt w m l e) (hs : dPc.Rd w S A c s) :
    Calls Tryz.prog 55 #[.agg #[.pointer (some ⟨m, 0, none⟩)], .slice A n c, .func (.func 19) #[] #[]] w fun e w' => ∃ A' c', e = .returned (.tuple #[.slice A' N c', .int .i64 x]) ∧ dPc.Rd w' S A' c' y ∧ w.grownBy w' (some m) := by
  have HB0 := Lib.hid (below_new w (.cells #[.pointer (some ⟨m, 0, none⟩)] 91))
  have HR := Lib.hid (show RdAt (w.alloc (.cells #[.pointer (some ⟨m, 0, none⟩)] 91)) m l e from heap_old _ hr)
  have HG := Lib.hid (show w.grownBy (w.alloc (.cells #[.pointer (some ⟨m, 0, none⟩)] 91)) (some m) from gb_alloc (gb_refl _ _) _)
  have HS := Lib.hid (show dPc.Rd (w.alloc (.cells #[.pointer (some ⟨m, 0, none⟩)] 91)) S A c s from hs.keep (keptS_below (below_new _ _) _))
  have KZ := fun (w' : World) (hr : RdAt w' m l e) => Lib.hid (hz ▸ rd_end (givenAt_some hr))
  have KR := fun (w' : World) (h : RdPc w' A c s) => Lib.hid (kw_right A c n s hn v hv w' h)
  have NS := Lib.hid (show ∀ g, S g → (some m : Option Nat) ≠ some g from fun g hg e => hS g hg (by injection e with e; exact e.symm))
  have HN := Lib.hid hN
  have HN2 := Lib.hid hn
  have eg := enters_of Tryz.func19 (by kernel_rfl) rfl
  clear hz hv hr hs hN hn hS
  by_cases h0 : z = 0
  · subst h0
    rw [if_neg (by decide)] at hy
    cases v
    · injection hy with h1 h2
      subst h1 h2
      obtain rfl : N = 0 := HN.out
      go_enter Tryz.func55, Tryz.ntmps55
      go_wp2_with (first
        | ((with_reducible refine (KZ _ HR.out).out.mono ?_); rintro e8 w9 ⟨rfl, hrf, hg⟩; replace HS := Lib.hid (HS.out.keep (keptS_grown hg NS.out)); replace HG := Lib.hid (HG.out.trans hg); clear hrf hg)
        | ((with_reducible refine (KR _ (rdp_of HS.out)).out.mono ?_); rintro e8 w8 ⟨rfl, hq⟩; replace HG := Lib.hid (HG.out.trans (grown_of_below hq _)); clear hq))
      go_ret2
      exact ⟨none, 0, rfl, Deep.Rd.nil _ _ _ _ (Nat.zero_le _), HG.out⟩
    · injection hy with h1 h2
      subst h1 h2
      obtain rfl : N = n := HN.out.trans HN2.out.symm
      go_enter Tryz.func55, Tryz.ntmps55
      go_wp2_with (first
        | ((with_reducible refine (KZ _ HR.out).out.mono ?_); rintro e8 w9 ⟨rfl, hrf, hg⟩; replace HS := Lib.hid (HS.out.keep (keptS_grown hg NS.out)); replace HG := Lib.hid (HG.out.trans hg); clear hrf hg)
        | ((with_reducible refine (KR _ (rdp_of HS.out)).out.mono ?_); rintro e8 w8 ⟨rfl, hq⟩; replace HS := Lib.hid (HS.out.keep (keptS_below hq _)); replace HG := Lib.hid (HG.out.trans (grown_of_below hq _)); clear hq))
      go_ret2
      exact ⟨A, c, rfl, HS.out, HG.out⟩
  · have hzb : (z == 0) = false := beq_eq_false_iff_ne.2 h0
    rw [if_pos h0] at hy
    injection hy with h1 h2
    subst h1 h2
    obtain rfl : N = 0 := HN.out
    go_enter Tryz.func55, Tryz.ntmps55
    go_wp2_with ((with_reducible refine (KZ _ HR.out).out.mono ?_); rintro e8 w9 ⟨rfl, hrf, hg⟩; replace HG := Lib.hid (HG.out.trans hg); clear hrf hg)
    go_ret2
    exact ⟨none, 0, rfl, Deep.Rd.nil _ _ _ _ (Nat.zero_le _), HG.out⟩
set_option maxRecDepth 100000 in
set_option maxHeartbeats 4000000 in
theorem kc_readknow_new (A : Option Addr) (c n : Nat) (b : List UInt8) (hn : n = b.length) (hn9 : n ≤ 1000000) (N : Nat) (y : List Pc) (x : Int) (hy : readK b = (y, x)) (hN : y.length = N) (w : World) (hr : RdB w w.heap.size A c b) :
    Calls Tryz.prog 31 #[.slice A n c] w fun e w' => ∃ A' c', e = .returned (.tuple #[.slice A' N c', .int .i64 x]) ∧ dPc.Rd w' (fun g => w.heap.size ≤ g) A' c' y ∧ Below w.heap.size w w' := by
  obtain ⟨M, hM⟩ : ∃ M, w.heap.size = M := ⟨_, rfl⟩
  have C1 := Lib.hid (show Calls Tryz.prog 54 #[.slice A n c] w fun e w' => e = .returned (.pointer (some ⟨M, 0, none⟩)) ∧ RdAt w' M b 0 ∧ Below M w w' by
    subst hn hM
    exact varint_new A c w.heap.size b w hr)
  obtain ⟨nn, q1, x1, h1⟩ : ∃ nn q1 x1, withinR 0 4096 b 0 = (nn, q1, x1) := ⟨_, _, _, rfl⟩
  obtain ⟨s, r0, e2, h2⟩ : ∃ s r0 e2, manyR pieceRd nn q1 x1 = (s, r0, e2) := ⟨_, _, _, rfl⟩
  have hs : piecesRd b 0 = (s, r0, e2) := by unfold piecesRd; rw [h1]; exact h2
  obtain ⟨z, hz⟩ : ∃ z, endR r0 e2 = z := ⟨_, rfl⟩
  obtain ⟨v, hv⟩ : ∃ v, rightP s = v := ⟨_, rfl⟩
  have hRE : (if z ≠ 0 then ([], z) else match v with | true => (s, 0) | false => ([], 11)) = (y, x) := by
    rw [← hy]
    exact (allR2_of h1 h2 hz hv).symm
  obtain ⟨N6, hN6⟩ : ∃ N6, N6 = s.length := ⟨_, rfl⟩
  have C2 := fun (w' : World) (h : RdAt w' M b 0) => Lib.hid (kc_pieces M N6 b r0 0 e2 s hs hN6 (by omega) w' h)
  have C3 := fun (w' : World) (A6 : Option Addr) (c6 : Nat) (h : RdAt w' M r0 e2) (h2 : dPc.Rd w' (fun g => M + 1 ≤ g) A6 c6 s) => Lib.hid (kc_wholep M r0 e2 z hz s N6 hN6 v hv A6 c6 (fun g => M + 1 ≤ g) (fun g hg => by omega) N y x hRE hN.symm w' h h2)
  have HM := Lib.hid hM
  have HN6 := Lib.hid hN6
  clear hy hN hr hM hn9 hn h1 h2 hs hz hv hRE hN6
  go_enter Tryz.func31, Tryz.ntmps31
  go_upto_region 2 with ((with_reducible refine C1.out.mono ?_); rintro e w1 ⟨rfl, hr, hq⟩; have HR := Lib.hid hr; have HB := Lib.hid hq; clear hr hq)
  clear C1
  obtain ⟨w2, hw2⟩ : ∃ w2, w2 = w1.alloc (.cells #[.pointer (some ⟨M, 0, none⟩)] 93) := ⟨_, rfl⟩
  have p0 : w2.cell? ⟨w1.heap.size, 0, none⟩ = some (.pointer (some ⟨M, 0, none⟩)) := by rw [hw2]; exact box_new _ _ _
  have HR2 := Lib.hid (show RdAt w2 M b 0 by rw [hw2]; exact heap_old _ HR.out)
  have HB2 := Lib.hid (show Below M w w2 by rw [hw2]; exact HB.out.trans ((below_new w1 _).mono (Nat.le_of_lt HR.out.lt)))
  rw [← hw2]
  have HNB := Lib.hid (show (some w1.heap.size : Option Nat) ≠ some M from fun e => by injection e with e; have := HR.out.lt; omega)
  have HM1 := Lib.hid (show M + 1 ≤ w2.heap.size from HR2.out.lt)
  clear hw2
  have HRd := Lib.hid (show RdAt w2.drew M b 0 from HR2.out)
  go_region_held3 (fun w' => w'.cell? ⟨w1.heap.size, 0, none⟩ = some (.pointer (some ⟨M, 0, none⟩))) (first | assumption | go_keep)
    (first
      | (go_at_call 56; (with_reducible refine (C2 _ HRd.out).out.mono ?_); rintro e w3 ⟨A3, c3, rfl, hown, hrf, hg⟩; replace hg := gb_of_drew hg; obtain ⟨A4, c4, hv4, hrd⟩ := Deep.Own.rd hown HN6.out (fun g hg => hg); injection hv4 with i1 i2 i3; subst i1 i3; have HS3 := Lib.hid (show dPc.Rd w3 (fun g => M + 1 ≤ g) A3 c3 s from hrd.mono fun g hg => Nat.le_trans HM1.out hg); have HR3 := Lib.hid hrf; have HB3 := Lib.hid (below_row HB2.out hg (Nat.le_refl _) (Nat.le_of_lt HR2.out.lt)); replace p0 := World.grownBy.cell hg p0 HNB.out; clear hown hrf hg hrd i2)
      | (go_at_call 55; (with_reducible refine (C3 _ _ _ HR3.out HS3.out).out.mono ?_); rintro e w4 ⟨A5, c5, rfl, hrd, hg⟩; have HF := Lib.hid hrd; have HB4 := Lib.hid (below_row HB3.out hg (Nat.le_refl _) (Nat.le_of_lt HR3.out.lt)); replace p0 := World.grownBy.cell hg p0 HNB.out; clear hrd hg))
  go_wp2_with fail
  go_ret2
  exact ⟨A5, c5, rfl, HF.out.mono (fun g hg => by have := HM.out; omega), by rw [HM.out]; exact HB4.out⟩
end Go.Proofs.YtopjhebhdopjpaaGreat

namespace Go.Proofs.YtopjhebhdopjpaaGreat
open Go.RowKit

theorem reads_len : ∀ {l : List (List UInt8)} {ks : List (List Pc)}, Reads l ks → ks.length = l.length
  | [], [], _ => rfl
  | _ :: l, _ :: ks, h => by rw [List.length_cons, List.length_cons, reads_len h.2]
  | [], _ :: _, h => False.elim h
  | _ :: _, [], h => False.elim h
theorem reads_snoc : ∀ {l : List (List UInt8)} {ks : List (List Pc)} {d : List UInt8} {k : List Pc}, Reads l ks → readK d = (k, 0) → Reads (l ++ [d]) (ks ++ [k])
  | [], [], _, _, _, h => ⟨h, trivial⟩
  | _ :: _, _ :: _, _, _, h, hd => ⟨h.1, reads_snoc h.2 hd⟩
  | [], _ :: _, _, _, h, _ => False.elim h
  | _ :: _, [], _, _, h, _ => False.elim h
theorem chain_reads : ∀ {l : List (List UInt8)} {ks : List (List Pc)} (a : List Pc), rightP a = true → Reads l ks → l.foldl stepP (a, 0) = (ks.foldl joinP a, 0)
  | [], [], _, _, _ => rfl
  | d :: l, k :: ks, a, ha, h => by
    rw [List.foldl_cons, stepP_ok, applyP_read ha h.1, List.foldl_cons]
    exact chain_reads (joinP a k) (join_right a k) h.2
  | [], _ :: _, _, _, h => False.elim h
  | _ :: _, [], _, _, h => False.elim h
theorem joins_right : ∀ (ks : List (List Pc)) {a : List Pc}, rightP a = true → rightP (ks.foldl joinP a) = true
  | [], _, h => h
  | k :: ks, a, _ => joins_right ks (a := joinP a k) (join_right a k)
theorem joins_of : ∀ (ks : List (List Pc)) (a : List Pc), ofP (ks.foldl joinP a) = ofP (a ++ ks.flatten)
  | [], a => by rw [List.foldl_nil, List.flatten_nil, List.append_nil]
  | k :: ks, a => by
    rw [List.foldl_cons, joins_of ks, List.flatten_cons]
    refine ofP_iff.2 fun s => ?_
    rw [← List.append_assoc, atK_append, atK_append (a ++ k), joinP_append, ofP_at]
theorem chainA_reads {a : List Pc} {l : List (List UInt8)} {ks : List (List Pc)} (ha : rightP a = true) (h : Reads l ks) : chainA a l = (ofP (a :: ks).flatten, 0) := by
  rw [chainA_ok (k := ks.foldl joinP a) (chain_reads a ha h), joins_of, List.flatten_cons]
theorem chainA_stop {a : List Pc} {l : List (List UInt8)} {k : Nat} {d : List UInt8} {ks : List (List Pc)} {Y : List Pc} {e : Int} (ha : rightP a = true) (h : Reads (l.take k) ks) (hg : l[k]? = some d) (hd : readK d = (Y, e)) (he : e ≠ 0) : chainA a l = ([], e) := by
  have h1 : chainP a (l.take (k + 1)) = ([], e) := by
    rw [chain_take hg]
    show stepP (List.foldl stepP (a, 0) (l.take k)) d = _
    rw [chain_reads a ha h, stepP_ok]
    rw [applyP_bad (joins_right ks ha) hd he]
  refine chainA_bad (k := []) ?_ he
  have h2 : chainP a (l.take (k + 1) ++ l.drop (k + 1)) = (l.drop (k + 1)).foldl stepP (chainP a (l.take (k + 1))) := by unfold chainP; rw [List.foldl_append]
  rw [List.take_append_drop, h1, chain_bad he] at h2
  exact h2
theorem chainA_wrong {a : List Pc} {l : List (List UInt8)} (h : rightP a = false) (hl : 0 < l.length) : chainA a l = ([], 2) := by
  cases l with
  | nil => simp at hl
  | cons d l =>
    refine chainA_bad (k := []) ?_ (by decide)
    unfold chainP
    rw [List.foldl_cons, stepP_ok, applyP_wrong h, chain_bad (by decide)]
theorem chainA_one (a : List Pc) (b : List UInt8) : chainA a [b] = applyP a b := by
  obtain ⟨k, e, h⟩ : ∃ k e, applyP a b = (k, e) := ⟨_, _, rfl⟩
  have h1 : chainP a [b] = (k, e) := h
  by_cases he : e = 0
  · subst he
    rw [chainA_ok h1, h, ofP_self (applyP_ok h).2]
  · rw [chainA_bad h1 he, h]
    cases ha : rightP a with
    | false =>
      rw [applyP_wrong ha] at h
      injection h with h2 h3
      rw [← h2, ← h3]
    | true =>
      obtain ⟨y, x, hr⟩ : ∃ y x, readK b = (y, x) := ⟨_, _, rfl⟩
      by_cases hx : x = 0
      · subst hx
        rw [applyP_read ha hr] at h
        injection h with _ h3
        exact absurd h3.symm he
      · rw [applyP_bad ha hr hx] at h
        injection h with h2 h3
        rw [← h2, ← h3]
theorem slp_one (w : World) (A : Option Addr) (n c : Nat) : kSlP.Own (w.alloc (.cells #[.slice A n c] 22)) w.heap.size (.slice (some ⟨w.heap.size, 0, none⟩) 1 1) [⟨A, n, c⟩] :=
  Kind.Own.of_row (n := 1) ⟨by simp [Kind.row, kSlP], .inr ⟨w.heap.size, 1, _, rfl, Nat.le_refl _, heap_alloc_new w _, Nat.le_refl _, by unfold maxLen; omega, by simp [kSlP], by simp [Kind.row, kSlP]⟩⟩
set_option maxRecDepth 100000 in
set_option maxHeartbeats 8000000 in
theorem k_chain (A B : Option Addr) (c d n m : Nat) (a : List Pc) (l : List (List UInt8)) (hn : n = a.length) (hm : m = l.length) (hm9 : m ≤ 900) (hx : ∀ x ∈ l, x.length ≤ 1000000) (hc : ∀ ks, Reads l ks → CapN 8000 20000 (a :: ks).flatten)
    (N : Nat) (y : List Pc) (x : Int) (hy : chainA a l = (y, x)) (hN : y.length = N) (w : World) (ha : RdPc w A c a) (hb : RdBB w B d l) :
    Calls Tryz.prog 16 #[.slice A n c, .slice B m d] w (RetPX w N x y) := by
  have hdx : m ≤ d := by rw [hm]; exact hb.room
  have hmx : m ≤ 9223372036854775807 := by omega
  by_cases h0 : m = 0
  · subst h0
    have hl : l = [] := List.eq_nil_of_length_eq_zero hm.symm
    subst hl
    have hU : chainA a [] = (ofP a, 0) := chainA_ok (k := a) rfl
    rw [hU] at hy
    injection hy with h1 h2
    subst h2
    have C1 := fun w h => Lib.hid (kw_of A c n a hn (by have := hc [] trivial; rwa [List.flatten_cons, List.flatten_nil, List.append_nil] at this) y h1 N hN.symm w h)
    have HA := Lib.hid ha
    clear hn hm hx hc hU hN ha hb h1
    go_enter Tryz.func16, Tryz.ntmps16
    go_wp2_with ((with_reducible refine (C1 _ HA.out).out.mono ?_); rintro e w1 ⟨A1, c1, rfl, hrd, hq⟩; have H1 := Lib.hid hrd; have HW := Lib.hid hq; clear hrd hq)
    go_ret2
    exact ⟨A1, c1, rfl, H1.out, HW.out⟩
  · have hm0 : ((m : Int) == 0) = false := beq_eq_false_iff_ne.2 (by omega)
    obtain ⟨v, hv⟩ : ∃ v, rightP a = v := ⟨_, rfl⟩
    have C1 := fun w h => Lib.hid (kw_right A c n a hn v hv w h)
    have HA := Lib.hid ha
    cases v
    · rw [chainA_wrong hv (by omega)] at hy
      injection hy with h1 h2
      subst h1 h2
      obtain rfl : 0 = N := hN
      clear hn hm hx hc ha hb hv
      go_enter Tryz.func16, Tryz.ntmps16
      go_wp2_with ((with_reducible refine (C1 _ HA.out).out.mono ?_); rintro e w1 ⟨rfl, hq⟩; have HW := Lib.hid hq; clear hq)
      go_ret2
      exact ⟨none, 0, rfl, rdPc_none _, HW.out⟩
    · have HAS := Lib.hid (Deep.Rd.lives ha)
      have HB := Lib.hid hb
      have HNA := Lib.hid hn
      have HM := Lib.hid hm
      have HX := Lib.hid hx
      have HC := Lib.hid hc
      have HY := Lib.hid hy
      have HN := Lib.hid hN
      have HV := Lib.hid hv
      clear hn hm hx hc hy hN ha hb hv h0
      go_enter Tryz.func16, Tryz.ntmps16
      go_wp2_with ((with_reducible refine (C1 _ HA.out).out.mono ?_); rintro e w1 ⟨rfl, hq⟩; have HW1 := Lib.hid hq; clear hq)
      clear C1 HA
      go_loopw [6, 23] (fun vs i wr => ∃ (k : Nat) (ks : List (List Pc)), k ≤ m ∧ Hid (Reads (l.take k) ks) ∧ Hid (dSlP.Own wr w.heap.size (fun _ => True) vs (a :: ks)) ∧ i = .int .i64 k ∧ Hid (Below w.heap.size w wr)) (fun _ i _ => m - (intOf i).toNat)
      case atStart =>
        have hb9 : Below w.heap.size w (w1.alloc (.cells #[.slice A n c] 22)) := HW1.out.alloc HW1.out.size _
        refine ⟨0, [], Nat.zero_le _, trivial, ⟨[⟨A, n, c⟩], (slp_one w1 A n c).mono HW1.out.size, .one ⟨HNA.out, (HAS.out.keep (keptS_under hb9 fun g h => h.2)).mono fun g hg => ⟨trivial, fun e => ?_⟩⟩⟩, rfl, hb9⟩
        have e2 : (some w1.heap.size : Option Nat) = some g := e
        injection e2 with e2
        have := HW1.out.size
        have := hg.2
        omega
      case round =>
        clear HW1
        obtain ⟨k, ks, hk, HRD, HO, rfl, HW⟩ := hrel
        by_cases hlt : k < m
        · obtain ⟨z, hg, -, hzm⟩ := get_some (l := l) (k := k) (by have := HM.out; omega)
          obtain ⟨b2, o2, rfl, hb2, hcell⟩ := bbs_at (HB.out.call HW.out) (by have := HM.out; omega)
          obtain ⟨A2, n2, c2, hn2, hr2, q0⟩ := hcell k z hg
          obtain ⟨Y, e, hY⟩ : ∃ Y e, readK z = (Y, e) := ⟨_, _, rfl⟩
          obtain ⟨NY, hNY⟩ : ∃ N, Y.length = N := ⟨_, rfl⟩
          have C1 := Lib.hid (kc_readknow_new A2 c2 n2 z hn2 (by rw [hn2]; exact HX.out z hzm) NY Y e hY hNY wr hr2)
          by_cases he : e = 0
          · subst he
            have HR2 := Lib.hid (show Reads (l.take (k + 1)) (ks ++ [Y]) by rw [List.take_add_one, hg, Option.toList_some]; exact reads_snoc HRD.out hY)
            have HNY := Lib.hid hNY
            have HLK := Lib.hid (show ks.length ≤ 900 by have := reads_len HRD.out; rw [List.length_take] at this; omega)
            obtain ⟨VS, hVS⟩ : ∃ VS, VS = u6 := ⟨_, rfl⟩
            subst hVS
            have HLT := Lib.hid (fun g (h : VS.ownBlock = some g) => HO.out.lt g h)
            have hj0 : (0 : Int) ≤ (k : Int) := by omega
            have hjn : (k : Int) < (m : Int) := by omega
            clear hg hzm hn2 hr2 hcell hY hNY
            go_upto_region 9 with fail
            obtain ⟨bs, hown, hall⟩ := HO.out
            have hlj : bs.length ≤ 1000 := by rw [hall.1, List.length_cons]; have := HLK.out; omega
            have HKO := Lib.hid hown
            have HKA := Lib.hid hall
            clear hown hall
            go_wp2_with (first
              | ((with_reducible refine C1.out.mono ?_); rintro e w3 ⟨A3, c3, rfl, hrd, hq⟩; replace HKO := Lib.hid (Kind.Own.alloc (Kind.Own.below HKO.out hq) (.cells #[.slice A3 NY c3] 22)); replace HKA := Lib.hid ((HKA.out.keep (keptS_below hq _)).keep (keptS_below (below_new w3 (.cells #[.slice A3 NY c3] 22)) _)); have HREL := Lib.hid (show dSlP.rel (w3.alloc (.cells #[.slice A3 NY c3] 22)) (fun g => True ∧ VS.ownBlock ≠ some g) ⟨A3, NY, c3⟩ Y from ⟨HNY.out.symm, (Deep.Rd.call hrd (below_new w3 _)).mono fun g hg => ⟨trivial, fun e => by have := HLT.out g e; omega⟩⟩); have HW3 := Lib.hid ((HW.out.trans (hq.mono HW.out.size)).alloc (Nat.le_trans HW.out.size hq.size) (.cells #[.slice A3 NY c3] 22)); have HRW := Lib.hid (show RowAt (w3.alloc (.cells #[.slice A3 NY c3] 22)) (w3.heap.size + 1) (some ⟨w3.heap.size, 0, none⟩) (kSlP.row [⟨A3, NY, c3⟩]) from (Kind.rd_new (k := kSlP) (l := [⟨A3, NY, c3⟩]) rfl rfl (by simp)).row); have HLE := Lib.hid (show bs.length + [(⟨A3, NY, c3⟩ : SlP)].length ≤ 1000000 by rw [List.length_singleton]; omega); have HSZ := Lib.hid HW3.out.size; clear hrd hq)
              | (at_builtin; refine wpList_app_k kSlP rfl (.tmp 35) (.tmp 37) rfl w.heap.size _ bs rfl HKO.out _ (some ⟨w3.heap.size, 0, none⟩) 1 1 [⟨A3, NY, c3⟩] rfl rfl HRW.out HLE.out (by decide) HSZ.out ?_; intro v7 w7 hown7 hg7 hb7 hv7; have HO7 := Lib.hid (Deep.Own.app HKA.out (.one HREL.out) hown7 hg7 hv7); have HW7 := Lib.hid (HW3.out.trans hb7); clear hown7 hg7 hb7 hv7))
            go_roundw
            case measure => simp [intOf]; omega
            case rel => exact ⟨k + 1, ks ++ [Y], by omega, HR2, HO7, by go_num, HW7⟩
          · have h1 := HY.out
            rw [chainA_stop HV.out HRD.out hg hY he] at h1
            injection h1 with h1 h2
            subst h1 h2
            obtain rfl : 0 = N := HN.out
            have hed : (e == 0) = false := beq_eq_false_iff_ne.2 he
            have hed2 : (e != 0) = true := by rw [bne, hed]; rfl
            clear hg hzm hn2 hr2 hcell hY hNY HY HC HX he
            go_wp2_with ((with_reducible refine C1.out.mono ?_); rintro e w3 ⟨A3, c3, rfl, hrd, hq⟩; have HW3 := Lib.hid (HW.out.trans (hq.mono HW.out.size)); clear hrd hq)
            go_ret2
            exact ⟨none, 0, rfl, rdPc_none _, HW3.out⟩
        · have hkm : l.take k = l := List.take_of_length_le (by have := HM.out; omega)
          rw [hkm] at HRD
          have h1 := HY.out
          rw [chainA_reads HV.out HRD.out] at h1
          injection h1 with h1 h2
          subst h2
          obtain ⟨NL, hNL⟩ : ∃ NL, NL = (a :: ks).length := ⟨_, rfl⟩
          obtain ⟨A7, c7, rfl, hrd⟩ := HO.out.rd hNL (fun _ _ => trivial)
          have C := Lib.hid (kw_joins A7 c7 NL (a :: ks) hNL (by rw [hNL, List.length_cons, reads_len HRD.out, ← HM.out]; omega) (HC.out ks HRD.out) y h1 N HN.out.symm wr hrd)
          clear hNL hrd HO h1 hkm HY HC HX
          go_wp2_with ((with_reducible refine C.out.mono ?_); rintro e w2 ⟨A8, c8, rfl, hrd, hq⟩; have HD := Lib.hid hrd; have HQ := Lib.hid (HW.out.trans (hq.mono HW.out.size)); clear hrd hq)
          go_ret2
          exact ⟨A8, c8, rfl, HD.out, HQ.out⟩
theorem k_dchain : DChainC 16 := fun A B c d n m a l hn hm hm9 hk N y x hy hN w ha hb => k_chain A B c d n m a l hn hm hm9 (fun z hz => (hk.each z hz).1) (fun ks h => by rw [List.flatten_cons]; exact hk.all ks h) N y x hy hN w ha hb
theorem rdBB_one (w : World) (A : Option Addr) (n c : Nat) (l : List UInt8) (hn : n = l.length) (h : RdB w w.heap.size A c l) : RdBB (w.alloc (.cells #[.slice A n c] 25)) (some ⟨w.heap.size, 0, none⟩) 1 [l] :=
  ⟨[⟨A, n, c⟩], ((Kind.rd_new (k := kSlB) (l := [⟨A, n, c⟩]) (n := 1) (by rw [kSlB.row_one]; rfl) rfl (by simp)).inS).mono fun _ _ => trivial, .one ⟨hn, (rdB_on h (below_new _ _)).inS⟩⟩
set_option maxRecDepth 100000 in
set_option maxHeartbeats 8000000 in
theorem k_dapply : DApplyC 10 := fun A B c d n m a b hn hm hm9 hca hcb N y x hy hN w ha hb => by
  have C := Lib.hid (k_chain A (some ⟨w.heap.size, 0, none⟩) c 1 n 1 a [b] hn rfl (by omega) (fun z hz => by rw [List.mem_singleton] at hz; rw [hz]; omega) (fun ks hk => by
    match ks, hk with
    | [k], hk =>
      rw [List.flatten_cons, List.flatten_cons, List.flatten_nil, List.append_nil]
      exact (CapN.append hca (hcb k hk.1)).mono (by omega) (by omega)) N y x (by rw [chainA_one]; exact hy) hN (w.alloc (.cells #[.slice B m d] 25)) (Deep.Rd.call ha (below_new _ _)) (rdBB_one w B m d b hm hb))
  clear hn hm hca hcb hy hN ha hb
  go_enter Tryz.func10, Tryz.ntmps10
  go_wp2_with ((with_reducible refine C.out.mono ?_); rintro e w2 ⟨A8, c8, rfl, hrd, hq⟩; have HD := Lib.hid hrd; have HQ := Lib.hid ((below_new w (.cells #[.slice B m d] 25)).trans (hq.mono (below_new w _).size)); clear hrd hq)
  go_ret2
  exact ⟨A8, c8, rfl, HD.out, HQ.out⟩
set_option maxRecDepth 100000 in
set_option maxHeartbeats 8000000 in
theorem k_ddelta : DDeltaC 8 := fun A B c d n m a b hn hm oa ob N L x hL hN w ha hb => by
  obtain ⟨va, hva⟩ : ∃ v, rightP a = v := ⟨_, rfl⟩
  obtain ⟨vb, hvb⟩ : ∃ v, rightP b = v := ⟨_, rfl⟩
  have R1 := fun w h => Lib.hid (kw_right A c n a hn va hva w h)
  have R2 := fun w h => Lib.hid (kw_right B d m b hm vb hvb w h)
  have HA := Lib.hid ha
  have HB := Lib.hid hb
  have HW := Lib.hid (Below.refl w.heap.size w)
  by_cases hv : (va && vb) = true
  · obtain ⟨rfl, rfl⟩ : va = true ∧ vb = true := by cases va <;> cases vb <;> simp at hv ⊢
    rw [deltaA_right hva hvb] at hL
    injection hL with hL hx
    subst hx
    obtain ⟨U, hU⟩ : ∃ U, lessP b a = U := ⟨_, rfl⟩
    obtain ⟨NU, hNU⟩ : ∃ N, N = U.length := ⟨_, rfl⟩
    have hc := ((ob.2 hvb).less (oa.2 hva)).mono (L' := 41) (B' := 65) (by omega) (by omega)
    rw [hU] at hc
    have hp := hc.put (by omega) (by omega)
    have hr : rightP U = true := by rw [← hU]; exact makeP_right ..
    have hLU : knowB U = L := by rw [← hU]; exact hL
    have C3 := fun w h1 h2 => Lib.hid (kw_lessP B A d c m n b a hm hn ((ob.2 hvb).mono (by omega) (by omega)) ((oa.2 hva).mono (by omega) (by omega)) U hU NU hNU w h1 h2)
    have C4 := fun A c w h => Lib.hid ((kc_know A c NU U hNU (by rw [hNU]; exact hp.1) hp.2 hr N L hLU hN w h).mono fun _ _ h => RetBO.to hN.symm h)
    clear hn hm oa ob hL hN ha hb hva hvb hv hU hNU hc hp hr hLU
    go_enter Tryz.func8, Tryz.ntmps8
    go_wp2_with (first
      | ((with_reducible refine (R1 _ HA.out).out.mono ?_); rintro e w1 ⟨rfl, hq⟩; replace HA := Lib.hid (HA.out.call hq); replace HB := Lib.hid (HB.out.call hq); replace HW := Lib.hid (HW.out.trans (hq.mono HW.out.size)); clear hq)
      | ((with_reducible refine (R2 _ HB.out).out.mono ?_); rintro e w2 ⟨rfl, hq⟩; replace HA := Lib.hid (HA.out.call hq); replace HB := Lib.hid (HB.out.call hq); replace HW := Lib.hid (HW.out.trans (hq.mono HW.out.size)); clear hq)
      | ((with_reducible refine (C3 _ HB.out HA.out).out.mono ?_); rintro e w3 ⟨A3, c3, rfl, hrd, hq⟩; have H3 := Lib.hid hrd; replace HW := Lib.hid (HW.out.trans (hq.mono HW.out.size)); clear hrd hq)
      | ((with_reducible refine (C4 _ _ _ H3.out).out.mono ?_); rintro e w4 ⟨A4, c4, rfl, hrd, hq⟩; have H4 := Lib.hid hrd; replace HW := Lib.hid (HW.out.trans (hq.mono HW.out.size)); clear hrd hq))
    go_ret2
    exact ⟨A4, c4, rfl, H4.out, HW.out⟩
  · have hf : (va && vb) = false := by cases h : va && vb <;> simp_all
    rw [deltaA_wrong (by rw [hva, hvb]; exact hf)] at hL
    injection hL with h1 h2
    subst h1 h2
    obtain rfl : 0 = N := hN
    clear hn hm oa ob ha hb hva hvb hv
    cases va <;> cases vb
    all_goals first
      | exact absurd hf (by decide)
      | skip
    all_goals
      go_enter Tryz.func8, Tryz.ntmps8
      go_wp2_with (first
        | ((with_reducible refine (R1 _ HA.out).out.mono ?_); rintro e w1 ⟨rfl, hq⟩; replace HA := Lib.hid (HA.out.call hq); replace HB := Lib.hid (HB.out.call hq); replace HW := Lib.hid (HW.out.trans (hq.mono HW.out.size)); clear hq)
        | ((with_reducible refine (R2 _ HB.out).out.mono ?_); rintro e w2 ⟨rfl, hq⟩; replace HA := Lib.hid (HA.out.call hq); replace HB := Lib.hid (HB.out.call hq); replace HW := Lib.hid (HW.out.trans (hq.mono HW.out.size)); clear hq))
      go_ret2
      exact ⟨none, 0, rfl, rdB_nil _ _, HW.out⟩
end Go.Proofs.YtopjhebhdopjpaaGreat
