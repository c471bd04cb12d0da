/-
  Several texts in one: FcdD, KcdB, Gb, KcdC, KcdD, KcdE, Law14A, Law15A, BytRet, Law16A, KdlA, Law16B.
-/
import Derived.Deep.CutRange
import Derived.Test.YtopjhebhdopjpaaGreatMg9
namespace Go.Proofs.YtopjhebhdopjpaaGreat
open Go.RowKit

def RfQ (w : World) (m : Nat) (A : Option Addr) (N c : Nat) (b : List UInt8) (v : Value) (l : List UInt8) (e : Int) (x : Ending) (w' : World) : Prop :=
  x = .returned v ∧ ∃ a, a ≤ N ∧ l = b.drop a ∧ RfAt w' m A N c a e ∧ w.grownBy w' (some m)
theorem rf_within_q {w : World} {m B a N c : Nat} {A : Option Addr} {b l r : List UInt8} {e e2 : Int} {n : Nat} {lo hi : Int} (hN : N = b.length) (hw : withinR lo hi l e = (n, r, e2)) (hla : l = b.drop a) (h : RfAt w m A N c a e) (hr : RdB w B A c b) (ha : a ≤ N) (hl : N ≤ 1000000) :
    Calls Tryz.prog 50 #[.pointer (some ⟨m, 0, none⟩), .int .i64 lo, .int .i64 hi] w (RfQ w m A N c b (.int .i64 n) r e2) := by
  subst hN hla
  have := rf_within h hr ha lo hi hl
  rw [hw] at this
  exact this
theorem rf_text_q {w : World} {m B a N c : Nat} {A : Option Addr} {b l r s : List UInt8} {e e2 : Int} {S : ByteArray} {most : Int} (hN : N = b.length) (hw : textR most l e = (s, r, e2)) (hS : str s = S) (hla : l = b.drop a) (h : RfAt w m A N c a e) (hr : RdB w B A c b) (ha : a ≤ N) (hm : B ≤ m) (hl : N ≤ 1000000) :
    Calls Tryz.prog 51 #[.pointer (some ⟨m, 0, none⟩), .int .i64 most] w (RfQ w m A N c b (.string S) r e2) := by
  subst hN hla hS
  have := rf_text h hr ha hm most hl
  rw [hw] at this
  exact this
theorem rf_end_q {w : World} {m a N c : Nat} {A : Option Addr} {b l : List UInt8} {e x : Int} (hN : N = b.length) (hx : endR l e = x) (hla : l = b.drop a) (h : RfAt w m A N c a e) (ha : a ≤ N) :
    Calls Tryz.prog 53 #[.pointer (some ⟨m, 0, none⟩)] w (RfQ w m A N c b (.int .i64 x) l e) := by
  subst hN hla hx
  exact rf_end h ha
theorem manyR_step {α : Type} (f : List UInt8 → Int → α × List UInt8 × Int) {n k : Nat} (h : k < n) (l : List UInt8) : manyR f (n - k) l 0 = ((f l 0).1 :: (manyR f (n - (k + 1)) (f l 0).2.1 (f l 0).2.2).1, (manyR f (n - (k + 1)) (f l 0).2.1 (f l 0).2.2).2) := by
  rw [show n - k = (n - (k + 1)) + 1 by omega, manyR, if_pos rfl]
theorem manyR_end {α : Type} (f : List UInt8 → Int → α × List UInt8 × Int) (n : Nat) (l : List UInt8) {e : Int} (h : n = 0 ∨ e ≠ 0) : manyR f n l e = ([], l, e) := by
  cases n with
  | zero => rfl
  | succ n =>
    rw [manyR, if_neg]
    rcases h with h | h
    · omega
    · exact h
theorem allR2_of {α : Type} {f : List UInt8 → Int → α × List UInt8 × Int} {most : Int} {right : List α → Bool} {b r1 l : List UInt8} {n : Nat} {e1 e x : Int} {dn : List α} {v : Bool} (h1 : withinR 0 most b 0 = (n, r1, e1)) (h2 : manyR f n r1 e1 = (dn, l, e)) (hx : endR l e = x) (hv : right dn = v) :
    allR2 f most right b = if x ≠ 0 then ([], x) else match v with | true => (dn, 0) | false => ([], 11) := by
  subst hx hv
  unfold allR2
  rw [h1]
  simp only
  rw [h2]
  rfl
theorem textR_size (m : Int) (l : List UInt8) (e : Int) : (textR m l e).1.length ≤ l.length := by
  have := withinR_len 0 m l e
  unfold textR
  split
  · simp
  · simp only [List.length_take]; omega
theorem rngR_size {B : Nat} (l : List UInt8) (e : Int) (h : l.length ≤ B) : ((rngR l e).1.lo.length ≤ B ∧ (rngR l e).1.hi.length ≤ B) ∧ (rngR l e).2.1.length ≤ B := by
  have a1 := textR_size 17 l e
  have a2 := textR_len 17 l e
  have b2 := withinR_len 0 1 (textR 17 l e).2.1 (textR 17 l e).2.2
  have c1 := textR_size 17 (withinR 0 1 (textR 17 l e).2.1 (textR 17 l e).2.2).2.1 (withinR 0 1 (textR 17 l e).2.1 (textR 17 l e).2.2).2.2
  have c2 := textR_len 17 (withinR 0 1 (textR 17 l e).2.1 (textR 17 l e).2.2).2.1 (withinR 0 1 (textR 17 l e).2.1 (textR 17 l e).2.2).2.2
  unfold rngR
  simp only
  split
  · simp only [List.length_nil]; omega
  · simp only; omega
theorem RgAt.kept {w w' : World} {g m : Nat} {S T : ByteArray} {o : Bool} (h : RgAt w g S T o) (hg : w.grownBy w' (some m)) (hne : g ≠ m) : RgAt w' g S T o := by
  have hb := hg.block g h.lt (fun e => hne (by injection e))
  obtain ⟨h0, h1, h2, h3⟩ := h
  have hn : some g ≠ some m := fun e => hne (by injection e)
  exact ⟨hg.cell h0 hn, hg.cell h1 hn, hg.cell h2 hn, fun k => by
    have := h3 k
    unfold World.frozen? at this ⊢
    simp only [hb]
    exact this⟩
theorem Kind.Own.set_far {P : Program} {α : Type} {K : Kind P α} {w : World} {base g k : Nat} {v : Value} {l : List α} (h : K.Own w base v l) (hv : ∀ x, v.ownBlock = some x → x < g) (u : Value) : K.Own (w.setCell ⟨g, k, none⟩ u) base v l :=
  h.kept (grownBy_set _ _ _ _) (by
    cases hx : v.ownBlock with
    | none => exact .inl rfl
    | some x => exact .inr (fun e => by have := hv x hx; injection e with e; omega))
theorem RfAt.far {w : World} {m n c a g k : Nat} {A : Option Addr} {e : Int} (h : RfAt w m A n c a e) (hne : m ≠ g) (u : Value) : RfAt (w.setCell ⟨g, k, none⟩ u) m A n c a e := h.kept (grownBy_set _ _ _ _) (fun e => hne (by injection e))
end Go.Proofs.YtopjhebhdopjpaaGreat

namespace Go.Proofs.YtopjhebhdopjpaaGreat
open Go.RowKit

theorem setB_len {s : List Kn} (h : rightS s = true) (hm : ∀ k ∈ s, k.runs.length ≤ 4096) : (setB s).length ≤ 1300000 := by
  have h1 := rightS_len h
  have h2 := fcd_flat_len knB 80000 s fun y hy => knB_len (smallKn_of h hm y hy)
  have h3 : s.length * 80000 ≤ 16 * 80000 := Nat.mul_le_mul_right _ h1
  have h4 := putV_len10 s.length (by omega)
  unfold setB
  rw [List.length_append]; omega
def smallPc (p : Pc) : Prop := onePc p = true ∧ ∀ x ∈ p.set, x.runs.length ≤ 4096
theorem pieceB_len {p : Pc} (h : smallPc p) : (pieceB p).length ≤ 4000000 := by
  obtain ⟨h1, -, h3⟩ := onePc_iff.1 h.1
  have h4 := setB_len h3 h.2
  have h5 := rngB_len (r := p.rng) ⟨by have := rightR_lo h1; omega, by have := rightR_hi h1; omega⟩
  unfold pieceB
  rw [List.length_append]; omega
theorem own_off {v v' : Value} {G t : Nat} (h : ∀ g, v.ownBlock = some g → g ≠ G) (h3 : v'.ownBlock = v.ownBlock ∨ v'.ownBlock = some t) (ht : G < t) : ∀ g, v'.ownBlock = some g → g ≠ G := fun g hg => by
  rcases h3 with h3 | h3
  · exact h g (h3.symm.trans hg)
  · rw [h3] at hg; injection hg with hg; omega
set_option maxRecDepth 100000 in
set_option maxHeartbeats 8000000 in
theorem ref_kknow (A : Option Addr) (c n : Nat) (l : List Pc) (hn : n = l.length) (hn9 : n ≤ 100000) (hsm : ∀ p ∈ l, smallPc p) (w : World) (hr : RdPc w A c l) :
    Calls Tryz.prog 26 #[.slice A n c] w (RetB w.heap.size w (knowB l)) := by
  have HR := Lib.hid hr
  have HN := Lib.hid hn
  have HSM := Lib.hid hsm
  have hb := fun w1 => Lib.hid (ref_bytes n n w1 (Nat.le_refl _) (by omega))
  have h9 := putV_len10 n (by omega)
  show Calls _ _ _ _ (RetB w.heap.size w (putV l.length ++ l.flatMap pieceB))
  rw [← hn]
  have hcx : n ≤ c := by rw [hn]; exact hr.room
  clear hr hsm hn
  go_enter Tryz.func26, Tryz.ntmps26
  go_wp2_with ((with_reducible refine (hb _).out.mono ?_); rintro e w1 ⟨v1, rfl, hown1, hb1⟩; have HO1 := Lib.hid hown1; have HB1 := Lib.hid hb1; clear hown1 hb1)
  clear hb
  go_loopw [3, 4] (fun v i wr => ∃ k : Nat, k ≤ n ∧ i = .int .i64 k ∧ Hid (OwnB wr w.heap.size v (putV n ++ (l.take k).flatMap pieceB)) ∧ Hid (Below w.heap.size w wr)) (fun _ i _ => n - (intOf i).toNat)
  case atStart => exact ⟨0, by omega, rfl, by rw [List.take_zero, List.flatMap_nil, List.append_nil]; exact HO1, HB1⟩
  case round =>
    obtain ⟨k, hk, rfl, HO, HB⟩ := hrel
    by_cases hlt : k < n
    · obtain ⟨p, hg, -, hmem⟩ := cnt_get (l := l) (k := k) (by have := HN.out; omega)
      obtain ⟨b, o, A', n', c', S, T, q, hA, hb1, hIs, hn', hset, d0, d1, d2, d3⟩ := HR.out.at_ hg
      subst hA
      obtain ⟨hS, hT, hq1⟩ := hIs
      have hsp := HSM.out p hmem
      obtain ⟨p1, -, p3⟩ := onePc_iff.1 hsp.1
      have HX : Hid (putV n ++ (l.take (k + 1)).flatMap pieceB = (putV n ++ (l.take k).flatMap pieceB) ++ pieceB p) := Lib.hid (by rw [fcd_flat_next pieceB hg, List.append_assoc])
      have hm0 : (putV n ++ (l.take k).flatMap pieceB).length ≤ 400000000009 := by
        have := fcd_flat_len pieceB 4000000 (l.take k) (fun x hx => pieceB_len (HSM.out x (take_mem hx)))
        have h2 : (l.take k).length ≤ 100000 := by rw [List.length_take]; omega
        have h3 : (l.take k).length * 4000000 ≤ 100000 * 4000000 := Nat.mul_le_mul_right _ h2
        rw [List.length_append]; omega
      have hm1 := txtB_len (s := p.rng.lo) (by have := rightR_lo p1; omega)
      have hm2 := txtB_len (s := p.rng.hi) (by have := rightR_hi p1; omega)
      have hm3 := setB_len p3 hsp.2
      obtain ⟨M, hM⟩ : ∃ M, putV n ++ (l.take k).flatMap pieceB = M := ⟨_, rfl⟩
      rw [hM] at HO HX hm0
      have D0 := Lib.hid d0
      have D1 := Lib.hid d1
      have D2 := Lib.hid d2
      have D3 := Lib.hid d3
      have c0 := ((bcell HB.out).1 _ _ hb1).trans D0.out
      have c1 := ((bcell HB.out).1 _ _ hb1).trans D1.out
      have c2 := ((bcell HB.out).1 _ _ hb1).trans D2.out
      have TX0 := fun w => Lib.hid (ref_vtext p.rng.lo S hS (by have := rightR_lo p1; omega) w)
      have TX1 := fun w => Lib.hid (ref_vtext p.rng.hi T hT (by have := rightR_hi p1; omega) w)
      have KS := fun w' (h : Below w.heap.size w w') => Lib.hid (ref_kset A' c' n' p.set hn' p3 hsp.2 w' (hset.call h))
      obtain ⟨N0, hN0⟩ : ∃ N0, N0 = (txtB p.rng.lo).length := ⟨_, rfl⟩
      obtain ⟨N1, hN1⟩ : ∃ N1, N1 = (txtB p.rng.hi).length := ⟨_, rfl⟩
      obtain ⟨N2, hN2⟩ : ∃ N2, N2 = (setB p.set).length := ⟨_, rfl⟩
      have HN0 := Lib.hid hN0
      have HN1 := Lib.hid hN1
      have HN2 := Lib.hid hN2
      have HL0 := Lib.hid (show M.length + (txtB p.rng.lo).length ≤ 140737488355328 by omega)
      have hk2 : (0 : Int) ≤ (k : Int) := by omega
      have hkn2 : (k : Int) < (n : Int) := by omega
      have HG := Lib.hid (rgAt_new wr S T q 45)
      have HV := Lib.hid (fun g hg => Nat.ne_of_lt (HO.out.lt g hg).2)
      have HB1 := Lib.hid (HB.out.alloc HB.out.size (.cells #[.string S, .string T, .bool q] 45))
      have HO1 := Lib.hid (HO.out.alloc (.cells #[.string S, .string T, .bool q] 45))
      clear d0 d1 d2 d3 hcx hN0 hN1 hN2 h9 hS hT hn' hset hg hmem hM HO HB
      obtain ⟨g0, g1, g2, g3⟩ := HG.out
      have c3 := ((bcell HB1.out).1 _ _ hb1).trans D3.out
      cases q
      · have HE := Lib.hid (show putV n ++ (l.take (k + 1)).flatMap pieceB = M ++ txtB p.rng.lo ++ [0] ++ txtB p.rng.hi ++ setB p.set by rw [HX.out]; unfold pieceB rngB; rw [hq1]; simp)
        have HL1 := Lib.hid (show (M ++ txtB p.rng.lo).length + [(0 : UInt8)].length ≤ 140737488355328 by rw [List.length_append, List.length_singleton]; omega)
        have HL2 := Lib.hid (show (M ++ txtB p.rng.lo ++ [0]).length + (txtB p.rng.hi).length ≤ 140737488355328 by rw [List.length_append, List.length_append, List.length_singleton]; omega)
        have HL3 := Lib.hid (show (M ++ txtB p.rng.lo ++ [0] ++ txtB p.rng.hi).length + (setB p.set).length ≤ 140737488355328 by rw [List.length_append, List.length_append, List.length_append, List.length_singleton]; omega)
        clear hq1 hm0 hm1 hm2 hm3 p1 p3 hsp
        go_wp2_with (first
          | ((with_reducible refine (TX0 _).out.mono ?_); rintro e w9 ⟨v2, rfl, hown2, hq⟩; replace HO1 := Lib.hid (HO1.out.below hq); replace HG := Lib.hid (HG.out.below hq); replace HB1 := Lib.hid (HB1.out.trans (hq.mono HB1.out.size)); clear g0 g1 g2 g3 c3; obtain ⟨g0, g1, g2, g3⟩ := HG.out; have c3 := ((bcell HB1.out).1 _ _ hb1).trans D3.out; obtain ⟨A2, c_2, rfl, hr2⟩ := hown2.read_n HN0.out; have HR0 := Lib.hid hr2; clear hown2 hq hr2)
          | (at_builtin; have HT9 := Lib.hid HG.out.lt; refine wpList_app_row rfl (.tmp 20) (.tmp 23) rfl w.heap.size _ (M) rfl HO1.out _ _ _ _ (txtB p.rng.lo) HN0.out rfl HR0.out.row HL0.out HB1.out.size ?_; intro v3 w9 hown3 hg3 hb3 hv3; replace HG := Lib.hid (HG.out.grown hg3 (fun h => HV.out _ h.symm rfl)); replace HV := Lib.hid (own_off HV.out hv3 HT9.out); replace HO1 := Lib.hid hown3; replace HB1 := Lib.hid (HB1.out.trans hb3); clear g0 g1 g2 g3 c3; obtain ⟨g0, g1, g2, g3⟩ := HG.out; have c3 := ((bcell HB1.out).1 _ _ hb1).trans D3.out; clear hown3 hg3 hb3 hv3 HT9)
          | (at_builtin; have HT9 := Lib.hid (Nat.lt_succ_of_lt HG.out.lt); refine wpList_app_row rfl (.tmp 30) (.tmp 31) rfl w.heap.size _ (M ++ txtB p.rng.lo) rfl (HO1.out.alloc _) _ _ 1 1 [0] rfl rfl (byte_row _ 0 0 rfl) HL1.out (le_alloc HB1.out.size _) ?_; intro v3 w9 hown3 hg3 hb3 hv3; replace HG := Lib.hid ((HG.out.below (below_new _ _)).grown hg3 (fun h => HV.out _ h.symm rfl)); replace HV := Lib.hid (own_off HV.out hv3 (by have := HT9.out; simp; omega)); replace HO1 := Lib.hid hown3; replace HB1 := Lib.hid ((HB1.out.alloc HB1.out.size _).trans hb3); clear g0 g1 g2 g3 c3; obtain ⟨g0, g1, g2, g3⟩ := HG.out; have c3 := ((bcell HB1.out).1 _ _ hb1).trans D3.out; clear hown3 hg3 hb3 hv3 HT9)
          | ((with_reducible refine (TX1 _).out.mono ?_); rintro e w9 ⟨v2, rfl, hown2, hq⟩; replace HO1 := Lib.hid (HO1.out.below hq); replace HG := Lib.hid (HG.out.below hq); replace HB1 := Lib.hid (HB1.out.trans (hq.mono HB1.out.size)); clear g0 g1 g2 g3 c3; obtain ⟨g0, g1, g2, g3⟩ := HG.out; have c3 := ((bcell HB1.out).1 _ _ hb1).trans D3.out; obtain ⟨A2, c_2, rfl, hr2⟩ := hown2.read_n HN1.out; have HR1 := Lib.hid hr2; clear hown2 hq hr2)
          | (at_builtin; have HT9 := Lib.hid HG.out.lt; refine wpList_app_row rfl (.tmp 33) (.tmp 36) rfl w.heap.size _ (M ++ txtB p.rng.lo ++ [0]) rfl HO1.out _ _ _ _ (txtB p.rng.hi) HN1.out rfl HR1.out.row HL2.out HB1.out.size ?_; intro v3 w9 hown3 hg3 hb3 hv3; replace HG := Lib.hid (HG.out.grown hg3 (fun h => HV.out _ h.symm rfl)); replace HV := Lib.hid (own_off HV.out hv3 HT9.out); replace HO1 := Lib.hid hown3; replace HB1 := Lib.hid (HB1.out.trans hb3); clear g0 g1 g2 g3 c3; obtain ⟨g0, g1, g2, g3⟩ := HG.out; have c3 := ((bcell HB1.out).1 _ _ hb1).trans D3.out; clear hown3 hg3 hb3 hv3 HT9)
          | ((with_reducible refine (KS _ HB1.out).out.mono ?_); rintro e w9 ⟨v2, rfl, hown2, hq⟩; replace HO1 := Lib.hid (HO1.out.below hq); replace HG := Lib.hid (HG.out.below hq); replace HB1 := Lib.hid (HB1.out.trans (hq.mono HB1.out.size)); clear g0 g1 g2 g3 c3; obtain ⟨g0, g1, g2, g3⟩ := HG.out; have c3 := ((bcell HB1.out).1 _ _ hb1).trans D3.out; obtain ⟨A2, c_2, rfl, hr2⟩ := hown2.read_n HN2.out; have HR2 := Lib.hid hr2; clear hown2 hq hr2)
          | (at_builtin; have HT9 := Lib.hid HG.out.lt; refine wpList_app_row rfl (.tmp 38) (.tmp 44) rfl w.heap.size _ (M ++ txtB p.rng.lo ++ [0] ++ txtB p.rng.hi) rfl HO1.out _ _ _ _ (setB p.set) HN2.out rfl HR2.out.row HL3.out HB1.out.size ?_; intro v3 w9 hown3 hg3 hb3 hv3; replace HG := Lib.hid (HG.out.grown hg3 (fun h => HV.out _ h.symm rfl)); replace HV := Lib.hid (own_off HV.out hv3 HT9.out); replace HO1 := Lib.hid hown3; replace HB1 := Lib.hid (HB1.out.trans hb3); clear g0 g1 g2 g3 c3; obtain ⟨g0, g1, g2, g3⟩ := HG.out; have c3 := ((bcell HB1.out).1 _ _ hb1).trans D3.out; clear hown3 hg3 hb3 hv3 HT9))
        go_roundw
        case rel => exact ⟨k + 1, by omega, by go_num, by rw [HE.out]; exact HO1, HB1⟩
        case measure => simp [intOf]; omega
      · have HE := Lib.hid (show putV n ++ (l.take (k + 1)).flatMap pieceB = M ++ txtB p.rng.lo ++ [1] ++ setB p.set by rw [HX.out]; unfold pieceB rngB; rw [hq1]; simp)
        have HL1 := Lib.hid (show (M ++ txtB p.rng.lo).length + [(1 : UInt8)].length ≤ 140737488355328 by rw [List.length_append, List.length_singleton]; omega)
        have HL3 := Lib.hid (show (M ++ txtB p.rng.lo ++ [1]).length + (setB p.set).length ≤ 140737488355328 by rw [List.length_append, List.length_append, List.length_singleton]; omega)
        clear hq1 hm0 hm1 hm2 hm3 p1 p3 hsp
        go_wp2_with (first
          | ((with_reducible refine (TX0 _).out.mono ?_); rintro e w9 ⟨v2, rfl, hown2, hq⟩; replace HO1 := Lib.hid (HO1.out.below hq); replace HG := Lib.hid (HG.out.below hq); replace HB1 := Lib.hid (HB1.out.trans (hq.mono HB1.out.size)); clear g0 g1 g2 g3 c3; obtain ⟨g0, g1, g2, g3⟩ := HG.out; have c3 := ((bcell HB1.out).1 _ _ hb1).trans D3.out; obtain ⟨A2, c_2, rfl, hr2⟩ := hown2.read_n HN0.out; have HR0 := Lib.hid hr2; clear hown2 hq hr2)
          | (at_builtin; have HT9 := Lib.hid HG.out.lt; refine wpList_app_row rfl (.tmp 20) (.tmp 23) rfl w.heap.size _ (M) rfl HO1.out _ _ _ _ (txtB p.rng.lo) HN0.out rfl HR0.out.row HL0.out HB1.out.size ?_; intro v3 w9 hown3 hg3 hb3 hv3; replace HG := Lib.hid (HG.out.grown hg3 (fun h => HV.out _ h.symm rfl)); replace HV := Lib.hid (own_off HV.out hv3 HT9.out); replace HO1 := Lib.hid hown3; replace HB1 := Lib.hid (HB1.out.trans hb3); clear g0 g1 g2 g3 c3; obtain ⟨g0, g1, g2, g3⟩ := HG.out; have c3 := ((bcell HB1.out).1 _ _ hb1).trans D3.out; clear hown3 hg3 hb3 hv3 HT9)
          | (at_builtin; have HT9 := Lib.hid (Nat.lt_succ_of_lt HG.out.lt); refine wpList_app_row rfl (.tmp 27) (.tmp 28) rfl w.heap.size _ (M ++ txtB p.rng.lo) rfl (HO1.out.alloc _) _ _ 1 1 [1] rfl rfl (byte_row _ 1 1 rfl) HL1.out (le_alloc HB1.out.size _) ?_; intro v3 w9 hown3 hg3 hb3 hv3; replace HG := Lib.hid ((HG.out.below (below_new _ _)).grown hg3 (fun h => HV.out _ h.symm rfl)); replace HV := Lib.hid (own_off HV.out hv3 (by have := HT9.out; simp; omega)); replace HO1 := Lib.hid hown3; replace HB1 := Lib.hid ((HB1.out.alloc HB1.out.size _).trans hb3); clear g0 g1 g2 g3 c3; obtain ⟨g0, g1, g2, g3⟩ := HG.out; have c3 := ((bcell HB1.out).1 _ _ hb1).trans D3.out; clear hown3 hg3 hb3 hv3 HT9)
          | ((with_reducible refine (KS _ HB1.out).out.mono ?_); rintro e w9 ⟨v2, rfl, hown2, hq⟩; replace HO1 := Lib.hid (HO1.out.below hq); replace HG := Lib.hid (HG.out.below hq); replace HB1 := Lib.hid (HB1.out.trans (hq.mono HB1.out.size)); clear g0 g1 g2 g3 c3; obtain ⟨g0, g1, g2, g3⟩ := HG.out; have c3 := ((bcell HB1.out).1 _ _ hb1).trans D3.out; obtain ⟨A2, c_2, rfl, hr2⟩ := hown2.read_n HN2.out; have HR2 := Lib.hid hr2; clear hown2 hq hr2)
          | (at_builtin; have HT9 := Lib.hid HG.out.lt; refine wpList_app_row rfl (.tmp 38) (.tmp 44) rfl w.heap.size _ (M ++ txtB p.rng.lo ++ [1]) rfl HO1.out _ _ _ _ (setB p.set) HN2.out rfl HR2.out.row HL3.out HB1.out.size ?_; intro v3 w9 hown3 hg3 hb3 hv3; replace HG := Lib.hid (HG.out.grown hg3 (fun h => HV.out _ h.symm rfl)); replace HV := Lib.hid (own_off HV.out hv3 HT9.out); replace HO1 := Lib.hid hown3; replace HB1 := Lib.hid (HB1.out.trans hb3); clear g0 g1 g2 g3 c3; obtain ⟨g0, g1, g2, g3⟩ := HG.out; have c3 := ((bcell HB1.out).1 _ _ hb1).trans D3.out; clear hown3 hg3 hb3 hv3 HT9))
        go_roundw
        case rel => exact ⟨k + 1, by omega, by go_num, by rw [HE.out]; exact HO1, HB1⟩
        case measure => simp [intOf]; omega
    · obtain rfl : k = n := by omega
      have HT := Lib.hid (show l.take k = l from List.take_of_length_le (by have := HN.out; omega))
      go_wp2_with fail
      go_ret
      exact ⟨_, rfl, by rw [HT.out] at HO; exact HO.out, HB.out⟩
end Go.Proofs.YtopjhebhdopjpaaGreat

namespace Go.Proofs.YtopjhebhdopjpaaGreat
open Go.RowKit

theorem gb_trans {a w w' : World} {r : Option Nat} (h : a.grownBy w r) (hg : w.grownBy w' r) : a.grownBy w' r :=
  ⟨hg.os.trans h.os, hg.tape.trans h.tape, hg.output.trans h.output, Nat.le_trans h.size hg.size, fun k hk hne => (hg.block k (Nat.lt_of_lt_of_le hk h.size) hne).trans (h.block k hk hne)⟩
theorem gb_below {a w w' : World} {r : Option Nat} {B : Nat} (h : a.grownBy w r) (hb : Below B w w') (hB : a.heap.size ≤ B) : a.grownBy w' r :=
  ⟨hb.os.trans h.os, hb.tape.trans h.tape, hb.output.trans h.output, Nat.le_trans h.size hb.size, fun k hk hne => (hb.block k (Nat.lt_of_lt_of_le hk hB)).trans (h.block k hk hne)⟩
theorem gb_set {a w : World} {r : Option Nat} {g k : Nat} (h : a.grownBy w r) (hg : a.heap.size ≤ g) (u : Value) : a.grownBy (w.setCell ⟨g, k, none⟩ u) r :=
  gb_below h ((Below.refl a.heap.size w).setCell (p := ⟨g, k, none⟩) hg u) (Nat.le_refl _)
theorem gb_alloc {a w : World} {r : Option Nat} (h : a.grownBy w r) (o : Obj) : a.grownBy (w.alloc o) r := gb_below h (below_new w o) h.size
theorem gb_drew {a w : World} {r : Option Nat} (h : a.grownBy w r) : a.grownBy w.drew r := ⟨h.os, h.tape, h.output, h.size, h.block⟩
theorem gb_of_drew {w w' : World} {r : Option Nat} (h : w.drew.grownBy w' r) : w.grownBy w' r := ⟨h.os, h.tape, h.output, h.size, h.block⟩
theorem gb_refl (a : World) (r : Option Nat) : a.grownBy a r := ⟨rfl, rfl, rfl, Nat.le_refl _, fun _ _ _ => rfl⟩
theorem RfAt.under {w w' : World} {m n c a B : Nat} {A : Option Addr} {e : Int} (h : RfAt w m A n c a e) (hb : Below B w w') (hm : m < B) : RfAt w' m A n c a e := (hb.block m hm).trans h
theorem withinR_hi {lo hi : Int} {l r : List UInt8} {e e2 : Int} {n : Nat} (h0 : 0 ≤ hi) (h : withinR lo hi l e = (n, r, e2)) : (n : Int) ≤ hi := by
  unfold withinR at h
  split at h
  · injection h with h _; subst h; exact h0
  · rename_i hc
    rw [h] at hc
    simp only at hc
    omega
theorem numR_hi {l r : List UInt8} {e e2 : Int} {n : Nat} (h : numR l e = (n, r, e2)) : n ≤ 281474976710656 := by have := numR_max l e; rw [h] at this; exact this
end Go.Proofs.YtopjhebhdopjpaaGreat

namespace Go.Proofs.YtopjhebhdopjpaaGreat
open Go.RowKit

theorem dKn_other {w w' : World} {base m : Nat} {v : Value} {s : List Kn} (h : dKn.Own w base (fun g => base ≤ g) v s) (hg : w.grownBy w' (some m)) (hm : m < base) : dKn.Own w' base (fun g => base ≤ g) v s := by
  obtain ⟨bs, h1, h2⟩ := h
  exact ⟨bs, Kind.Own.other h1 hg hm, h2.keep (keptS_grown hg fun g hS e => by injection e with e; have := hS.1; omega)⟩
def KnAt (w : World) (g : Nat) (r : Int) (v : Value) : Prop := w.cell? ⟨g, 0, none⟩ = some (.int .i64 r) ∧ w.cell? ⟨g, 1, none⟩ = some v ∧ ∀ k, w.frozen? ⟨g, k, none⟩ = false
theorem KnAt.lt {w : World} {g : Nat} {r : Int} {v : Value} (h : KnAt w g r v) : g < w.heap.size := World.block_lt_of_cell? w _ h.1
theorem KnAt.grown {w w' : World} {row : Option Nat} {g : Nat} {r : Int} {v : Value} (h : KnAt w g r v) (hg : w.grownBy w' row) (hne : some g ≠ row) : KnAt w' g r v :=
  ⟨hg.cell h.1 hne, hg.cell h.2.1 hne, fun k => (hg.frozen_far ⟨g, k, none⟩ h.lt hne).trans (h.2.2 k)⟩
theorem KnAt.under {w w' : World} {B g : Nat} {r : Int} {v : Value} (h : KnAt w g r v) (hb : Below B w w') (hg : g < B) : KnAt w' g r v := by
  obtain ⟨hc, hf⟩ := bcell hb
  exact ⟨(hc _ _ hg).trans h.1, (hc _ _ hg).trans h.2.1, fun k => (hf _ _ hg).trans (h.2.2 k)⟩
theorem KnAt.alloc {w : World} {g : Nat} {r : Int} {v : Value} (h : KnAt w g r v) (o : Obj) : KnAt (w.alloc o) g r v := h.under (below_new w o) h.lt
theorem KnAt.other {w : World} {g g' k : Nat} {r : Int} {v u : Value} (h : KnAt w g r v) (hne : g' ≠ g) : KnAt (w.setCell ⟨g', k, none⟩ u) g r v :=
  ⟨set_other h.1 (addr_block hne) u, set_other h.2.1 (addr_block hne) u, fun j => by rw [World.frozen?_setCell]; exact h.2.2 j⟩
theorem KnAt.set0 {w : World} {g : Nat} {r : Int} {v : Value} (h : KnAt w g r v) (x : Int) : KnAt (w.setCell ⟨g, 0, none⟩ (.int .i64 x)) g x v :=
  ⟨set_same h.1 _, set_other h.2.1 (addr_off (by decide)) _, fun j => by rw [World.frozen?_setCell]; exact h.2.2 j⟩
theorem KnAt.set1 {w : World} {g : Nat} {r : Int} {v : Value} (h : KnAt w g r v) (u : Value) : KnAt (w.setCell ⟨g, 1, none⟩ u) g r u :=
  ⟨set_other h.1 (addr_off (by decide)) _, set_same h.2.1 _, fun j => by rw [World.frozen?_setCell]; exact h.2.2 j⟩
theorem knAt_new (w : World) (r : Int) (v : Value) (t : TypeId) : KnAt (w.alloc (.cells #[.int .i64 r, v] t)) w.heap.size r v := by
  have h := heap_new w (.cells #[.int .i64 r, v] t) _ rfl
  refine ⟨?_, ?_, fun k => ?_⟩
  · rw [cell_of_row _ _ _ _ _ _ h]; rfl
  · rw [cell_of_row _ _ _ _ _ _ h]; rfl
  · unfold World.frozen?; rw [h]; simp
theorem RnAt.set0 {w : World} {g : Nat} {X Y : Int} (h : RnAt w g X Y) (x : Int) : RnAt (w.setCell ⟨g, 0, none⟩ (.int .i64 x)) g x Y :=
  ⟨set_same h.1 _, set_other h.2.1 (addr_off (by decide)) _, fun j => by rw [World.frozen?_setCell]; exact h.2.2 j⟩
theorem RnAt.set1 {w : World} {g : Nat} {X Y : Int} (h : RnAt w g X Y) (y : Int) : RnAt (w.setCell ⟨g, 1, none⟩ (.int .i64 y)) g X y :=
  ⟨set_other h.1 (addr_off (by decide)) _, set_same h.2.1 _, fun j => by rw [World.frozen?_setCell]; exact h.2.2 j⟩
theorem RnAt.other {w : World} {g g' k : Nat} {X Y : Int} {u : Value} (h : RnAt w g X Y) (hne : g' ≠ g) : RnAt (w.setCell ⟨g', k, none⟩ u) g X Y :=
  ⟨set_other h.1 (addr_block hne) u, set_other h.2.1 (addr_block hne) u, fun j => by rw [World.frozen?_setCell]; exact h.2.2 j⟩
theorem rf_number_q {w : World} {m B a N c : Nat} {A : Option Addr} {b l r : List UInt8} {e e2 : Int} {n : Nat} (hN : N = b.length) (hw : numR l e = (n, r, e2)) (hla : l = b.drop a) (h : RfAt w m A N c a e) (hr : RdB w B A c b) (ha : a ≤ N) (hl : N ≤ 1000000) :
    Calls Tryz.prog 81 #[.pointer (some ⟨m, 0, none⟩)] w (RfQ w m A N c b (.int .i64 n) r e2) := by
  subst hN hla
  have := rf_number h hr ha hl
  rw [hw] at this
  exact this
theorem runsRd_step {m j : Nat} (h : j < m) (W : Int) (l : List UInt8) : runsRd (m - j) W l 0 = ((runRd W l 0).1 :: (runsRd (m - (j + 1)) (runRd W l 0).1.to (runRd W l 0).2.1 (runRd W l 0).2.2).1, (runsRd (m - (j + 1)) (runRd W l 0).1.to (runRd W l 0).2.1 (runRd W l 0).2.2).2) := by
  rw [show m - j = (m - (j + 1)) + 1 by omega, runsRd, if_pos rfl]
theorem runsRd_end (m : Nat) (W : Int) (l : List UInt8) {e : Int} (h : m = 0 ∨ e ≠ 0) : runsRd m W l e = ([], l, e) := by
  cases m with
  | zero => rfl
  | succ m =>
    rcases h with h | h
    · cases h
    · rw [runsRd, if_neg h]
set_option maxRecDepth 100000 in
set_option maxHeartbeats 8000000 in
theorem ref_kreadin (M B a0 N c : Nat) (A : Option Addr) (b l0 r0 : List UInt8) (e0 e2 : Int) (s : List Kn) (hN : N = b.length) (hN9 : N ≤ 1000000) (hs : setRd l0 e0 = (s, r0, e2)) (hla : l0 = b.drop a0) (ha0 : a0 ≤ N) (hB : B ≤ M) (w : World) (hf0 : RfAt w M A N c a0 e0) (hr : RdB w B A c b) :
    Calls Tryz.prog 52 #[.pointer (some ⟨M, 0, none⟩)] w fun x w' => ∃ v a', x = .returned v ∧ a' ≤ N ∧ r0 = b.drop a' ∧ RfAt w' M A N c a' e2 ∧ w.grownBy w' (some M) ∧ dKn.Own w' w.heap.size (fun g => w.heap.size ≤ g) v s := by
  have hMw := hf0.lt
  have TW := fun (w' : World) (a' : Nat) (l' : List UInt8) (e' : Int) (lo hi : Int) (n : Nat) (r : List UInt8) (x : Int) (hw : withinR lo hi l' e' = (n, r, x)) (hl' : l' = b.drop a') (ha' : a' ≤ N) (hf : RfAt w' M A N c a' e') (hk : w.grownBy w' (some M)) => Lib.hid (rf_within_q hN hw hl' hf (hr.grown hk hB (by omega)) ha' (by omega))
  have TN := fun (w' : World) (a' : Nat) (l' : List UInt8) (e' : Int) (n : Nat) (r : List UInt8) (x : Int) (hw : numR l' e' = (n, r, x)) (hl' : l' = b.drop a') (ha' : a' ≤ N) (hf : RfAt w' M A N c a' e') (hk : w.grownBy w' (some M)) => Lib.hid (rf_number_q hN hw hl' hf (hr.grown hk hB (by omega)) ha' (by omega))
  obtain ⟨n, r1, e1, h1⟩ : ∃ n r1 e1, withinR 0 16 l0 e0 = (n, r1, e1) := ⟨_, _, _, rfl⟩
  have hn16 : n ≤ 16 := by have := withinR_hi (by decide) h1; omega
  have hY : manyR knRd n r1 e1 = (s, r0, e2) := by have := hs; unfold setRd at this; rw [h1] at this; exact this
  have HY0 := Lib.hid hY
  have W1 := Lib.hid (TW w a0 l0 e0 0 16 n r1 e1 h1 hla ha0 hf0 (gb_refl _ _))
  have TW := Lib.hid TW
  have TN := Lib.hid TN
  clear hs hla ha0 hf0 hr hY h1 hN
  go_enter Tryz.func52, Tryz.ntmps52
  go_wp2_with ((with_reducible refine W1.out.out.mono ?_); rintro e w2 ⟨rfl, a1, ha1, hla, hrf, hg⟩; have HF := Lib.hid hrf; have HW := Lib.hid hg; have HA := Lib.hid ha1; have HLA := Lib.hid hla; clear hrf hg hla ha1)
  clear W1
  go_loopw [3, 5] (fun v i wr => ∃ (k a : Nat) (e : Int) (dn : List Kn), k ≤ n ∧ i = .int .i64 k ∧ dn.length ≤ k ∧ Hid (a ≤ N) ∧ Hid ((s, r0, e2) = (dn ++ (manyR knRd (n - k) (b.drop a) e).1, (manyR knRd (n - k) (b.drop a) e).2)) ∧ Hid (RfAt wr M A N c a e) ∧ Hid (dKn.Own wr w.heap.size (fun g => w.heap.size ≤ g) v dn) ∧ Hid (w.grownBy wr (some M))) (fun _ i _ => n - (intOf i).toNat)
  case atStart => exact ⟨0, a1, e1, [], by omega, rfl, Nat.le_refl _, HA, by rw [← HLA.out, Nat.sub_zero, HY0.out]; rfl, HF, Deep.Own.nil _ _ _, HW⟩
  case round =>
    clear HF HW HA HLA HY0
    obtain ⟨k, a, e, dn, hk, rfl, hdk, HA, HY, HF, HO, HW⟩ := hrel
    obtain ⟨wz, hwz⟩ : ∃ wz, wz = wr := ⟨_, rfl⟩
    subst hwz
    by_cases hlt : k < n
    · by_cases he : e = 0
      · subst he
        obtain ⟨c0, c1, c2, z0, z1, z2⟩ := HF.out.cells
        obtain ⟨rp, q1, x1, hq1⟩ : ∃ rp q1 x1, withinR 1 16 (b.drop a) 0 = (rp, q1, x1) := ⟨_, _, _, rfl⟩
        obtain ⟨mm, q2, x2, hq2⟩ : ∃ mm q2 x2, withinR 0 4096 q1 x1 = (mm, q2, x2) := ⟨_, _, _, rfl⟩
        obtain ⟨Y2, q5, x5, hY2⟩ : ∃ Y2 q5 x5, runsRd mm 0 q2 x2 = (Y2, q5, x5) := ⟨_, _, _, rfl⟩
        have hmm : mm ≤ 4096 := by have := withinR_hi (by decide) hq2; omega
        have HKR := Lib.hid (show knRd (b.drop a) 0 = (⟨(rp : Int), Y2⟩, q5, x5) by unfold knRd; rw [hq1]; simp only; rw [hq2]; simp only; rw [hY2])
        have HY2 := Lib.hid hY2
        have HMG : M < wz.heap.size := HF.out.lt
        have HMGh := Lib.hid HMG
        have hMne : M ≠ wz.heap.size := Nat.ne_of_lt HMG
        have HF1 := Lib.hid (show RfAt (wz.alloc (.cells #[.int .i64 0, .slice none 0 0] 64)) M A N c a 0 from heap_old (.cells #[.int .i64 0, .slice none 0 0] 64) HF.out)
        have HG1 := Lib.hid (knAt_new wz 0 (.slice none 0 0) 64)
        have HK1 := Lib.hid (gb_alloc (gb_refl wz (some M)) (.cells #[.int .i64 0, .slice none 0 0] 64))
        have HQ1 := Lib.hid hq1
        have HQ2 := Lib.hid hq2
        have HNE := Lib.hid hMne
        clear hq1 hq2 hY2 HMG hMne
        go_wp2_with (first
          | ((with_reducible refine (TW.out _ a _ 0 1 16 rp q1 x1 HQ1.out rfl HA.out HF1.out (gb_trans HW.out HK1.out)).out.mono ?_); rintro e w2 ⟨rfl, a1, ha1, hla, hrf, hg⟩; have HA1 := Lib.hid ha1; have HL1 := Lib.hid hla; have HF2 := Lib.hid (RfAt.far hrf HNE.out (k := 0) (.int .i64 (rp : Int))); have HG0 := Lib.hid (HG1.out.grown hg (fun h => HNE.out (by injection h with h; exact h.symm))); have HG2 := Lib.hid (HG0.out.set0 (rp : Int)); have HK2 := Lib.hid (gb_set (gb_trans HK1.out hg) (Nat.le_refl _) (k := 0) (.int .i64 (rp : Int))); obtain ⟨g0, g1, g2⟩ := HG0.out; clear hla hrf hg ha1 c0 c1 c2 z0 z1 z2)
          | ((with_reducible refine (TW.out _ a1 _ x1 0 4096 mm q2 x2 HQ2.out HL1.out HA1.out HF2.out (gb_trans HW.out HK2.out)).out.mono ?_); rintro e w4 ⟨rfl, a2, ha2, hla, hrf, hg⟩; have HA2 := Lib.hid ha2; have HL2 := Lib.hid hla; have HF3 := Lib.hid hrf; have HG3 := Lib.hid (HG2.out.grown hg (fun h => HNE.out (by injection h with h; exact h.symm))); have HK3 := Lib.hid (gb_trans HK2.out hg); clear hla hrf hg ha2 g0 g1 g2))
        clear HF1 HG1 HK1 HF2 HG0 HG2 HK2 HQ1 HQ2 HA1 HL1
        go_loopw [8, 9] (fun wv i wx => ∃ (j a' : Nat) (e' : Int) (v2 : Value) (d2 : List Rn), j ≤ mm ∧ wv = .int .i64 (wasR 0 d2) ∧ i = .int .i64 j ∧ d2.length ≤ j ∧ 0 ≤ wasR 0 d2 ∧ wasR 0 d2 ≤ (j : Int) * 562949953421312 ∧ Hid (a' ≤ N) ∧ Hid ((Y2, q5, x5) = (d2 ++ (runsRd (mm - j) (wasR 0 d2) (b.drop a') e').1, (runsRd (mm - j) (wasR 0 d2) (b.drop a') e').2)) ∧ Hid (RfAt wx M A N c a' e') ∧ Hid (KnAt wx wz.heap.size (rp : Int) v2) ∧ Hid (kRn.Own wx (wz.heap.size + 1) v2 d2) ∧ Hid (wz.grownBy wx (some M))) (fun _ i _ => mm - (intOf i).toNat)
        case atStart => exact ⟨0, a2, x2, _, [], by omega, rfl, rfl, Nat.le_refl _, Int.le_refl _, by simp [wasR], HA2, by rw [← HL2.out, Nat.sub_zero, show wasR 0 [] = 0 from rfl, HY2.out]; rfl, HF3, HG3, Kind.Own.nil _ _, HK3⟩
        case round =>
          clear HF3 HG3 HK3 HA2 HL2 HY2
          obtain ⟨j, a', e', v2, d2, hj, rfl, rfl, hdj, hw0, hw1, HA2, HY2, HF2, HG2, HR2, HK2⟩ := hrel
          obtain ⟨wy, hwy⟩ : ∃ wy, wy = wr := ⟨_, rfl⟩
          subst hwy
          obtain ⟨c0, c1, c2, z0, z1, z2⟩ := HF2.out.cells
          by_cases hc : j < mm ∧ e' = 0
          · obtain ⟨hjl, rfl⟩ := hc
            obtain ⟨xx, q3, x3, hq3⟩ : ∃ xx q3 x3, numR (b.drop a') 0 = (xx, q3, x3) := ⟨_, _, _, rfl⟩
            obtain ⟨yy, q4, x4, hq4⟩ : ∃ yy q4 x4, numR q3 x3 = (yy, q4, x4) := ⟨_, _, _, rfl⟩
            have hx9 := numR_hi hq3
            have hy9 := numR_hi hq4
            have hRU : runRd (wasR 0 d2) (b.drop a') 0 = (⟨wasR 0 d2 + (xx : Int), wasR 0 d2 + (xx : Int) + (yy : Int)⟩, q4, x4) := by unfold runRd; rw [hq3]; simp only; rw [hq4]
            have HY3 := Lib.hid (show (Y2, q5, x5) = ((d2 ++ [⟨wasR 0 d2 + (xx : Int), wasR 0 d2 + (xx : Int) + (yy : Int)⟩]) ++ (runsRd (mm - (j + 1)) (wasR 0 d2 + (xx : Int) + (yy : Int)) q4 x4).1, (runsRd (mm - (j + 1)) (wasR 0 d2 + (xx : Int) + (yy : Int)) q4 x4).2) by rw [HY2.out, runsRd_step hjl, hRU, List.append_assoc]; rfl)
            obtain ⟨W, hW⟩ : ∃ W, wasR 0 d2 = W := ⟨_, rfl⟩
            rw [hW] at hw0 hw1 HY3 ⊢
            obtain ⟨X, hX⟩ : ∃ X, W + (xx : Int) = X := ⟨_, rfl⟩
            rw [hX] at HY3
            obtain ⟨Z, hZ⟩ : ∃ Z, X + (yy : Int) = Z := ⟨_, rfl⟩
            rw [hZ] at HY3
            have w1' : IntKind.i64.wrap (W + (xx : Int)) = X := by rw [hX]; exact IntWalk.i64_in _ (by omega)
            have w2' : IntKind.i64.wrap (X + (yy : Int)) = Z := by rw [hZ]; exact IntWalk.i64_in _ (by omega)
            have HZ := Lib.hid (show 0 ≤ Z ∧ Z ≤ ((j : Int) + 1) * 562949953421312 by omega)
            have HQ3 := Lib.hid hq3
            have HQ4 := Lib.hid hq4
            have HF5 := Lib.hid (show RfAt (wy.alloc (.cells #[.int .i64 0, .int .i64 0] 105)) M A N c a' 0 from heap_old _ HF2.out)
            have HG5 := Lib.hid (HG2.out.alloc (.cells #[.int .i64 0, .int .i64 0] 105))
            have HH5 := Lib.hid (rnAt_new wy 0 0 105)
            have HR5 := Lib.hid (HR2.out.alloc (.cells #[.int .i64 0, .int .i64 0] 105))
            have HK5 := Lib.hid (gb_alloc HK2.out (.cells #[.int .i64 0, .int .i64 0] 105))
            have HVO := Lib.hid (fun g hg => (HR2.out.lt g hg).2)
            have HGH := Lib.hid HG2.out.lt
            have HMH := Lib.hid HF2.out.lt
            have HDJ := Lib.hid hdj
            clear hq3 hq4 hRU hX hZ hW hw0 hw1 hx9 hy9 HG2 HR2 HK2 HY2 hdj
            go_upto_region 15 with (first
              | ((with_reducible refine (TN.out _ a' _ 0 xx q3 x3 HQ3.out rfl HA2.out HF5.out (gb_trans HW.out HK5.out)).out.mono ?_); rintro e w6 ⟨rfl, a3, ha3, hla, hrf, hg⟩; have HA3 := Lib.hid ha3; have HL3 := Lib.hid hla; have HF6 := Lib.hid hrf; have HG6 := Lib.hid (HG5.out.grown hg (fun h => HNE.out (by injection h with h; exact h.symm))); have HH6 := Lib.hid (HH5.out.grown hg (fun h => by injection h with h; have := HMH.out; omega)); have HR6 := Lib.hid (HR5.out.other hg (Nat.lt_succ_of_lt HMGh.out)); have HK6 := Lib.hid (gb_trans HK5.out hg); obtain ⟨h0, h1, h2⟩ := HH6.out; clear hla hrf hg ha3 c0 c1 c2 z0 z1 z2))
            obtain ⟨w7, hw7⟩ : ∃ w7, w7 = w6.setCell ⟨wy.heap.size, 0, none⟩ (.int .i64 X) := ⟨_, rfl⟩
            have HF7 := Lib.hid (show RfAt w7 M A N c a3 x3 by rw [hw7]; exact HF6.out.far (Nat.ne_of_lt HMH.out) _)
            have HG7 := Lib.hid (show KnAt w7 wz.heap.size (rp : Int) v2 by rw [hw7]; exact HG6.out.other (Ne.symm (Nat.ne_of_lt HGH.out)))
            have HH7 := Lib.hid (show RnAt w7 wy.heap.size X 0 by rw [hw7]; exact HH6.out.set0 X)
            have HR7 := Lib.hid (show kRn.Own w7 (wz.heap.size + 1) v2 d2 by rw [hw7]; exact HR6.out.set_far HVO.out _)
            have HK7 := Lib.hid (show wz.grownBy w7 (some M) by rw [hw7]; exact gb_set HK6.out (Nat.le_of_lt HGH.out) _)
            rw [← hw7]
            clear hw7 h0 h1 h2 HF5 HG5 HH5 HR5 HK5 HF6 HG6 HH6 HR6 HK6
            go_cut [] from 49 to 54 (fun wx => ∃ a4, Hid (a4 ≤ N) ∧ Hid (q4 = b.drop a4) ∧ Hid (RfAt wx M A N c a4 x4) ∧ Hid (KnAt wx wz.heap.size (rp : Int) v2) ∧ Hid (RnAt wx wy.heap.size X Z) ∧ Hid (kRn.Own wx (wz.heap.size + 1) v2 d2) ∧ Hid (wz.grownBy wx (some M)))
            case first =>
              obtain ⟨h0, h1, h2⟩ := HH7.out
              clear HY3 HZ HDJ
              have HF7d := Lib.hid (show RfAt w7.drew M A N c a3 x3 from HF7.out)
              have HK7d := Lib.hid (gb_drew (gb_trans HW.out HK7.out))
              go_region_with ((with_reducible refine (TN.out _ a3 _ x3 yy q4 x4 HQ4.out HL3.out HA3.out HF7d.out HK7d.out).out.mono ?_); rintro e w8 ⟨rfl, a4, ha4, hla, hrf, hg⟩; (try replace hg := gb_of_drew hg); have HA4 := Lib.hid ha4; have HL4 := Lib.hid hla; have HF8 := Lib.hid hrf; have HG8 := Lib.hid (HG7.out.grown hg (fun h => HNE.out (by injection h with h; exact h.symm))); have HH8 := Lib.hid (HH7.out.grown hg (fun h => by injection h with h; have := HMH.out; omega)); have HR8 := Lib.hid (HR7.out.other hg (Nat.lt_succ_of_lt HMGh.out)); have HK8 := Lib.hid (gb_trans HK7.out hg); clear h0 h1 h2; obtain ⟨h0, h1, h2⟩ := HH8.out; clear hla hrf hg ha4)
              all_goals
                go_wp2_with fail
                go_meet
                exact ⟨a4, HA4, HL4, HF8.out.far (Nat.ne_of_lt HMH.out) _, HG8.out.other (Ne.symm (Nat.ne_of_lt HGH.out)), HH8.out.set1 Z, HR8.out.set_far HVO.out _, gb_set HK8.out (Nat.le_of_lt HGH.out) _⟩
            case rest =>
              clear HF7 HG7 HH7 HR7 HK7 HA3 HL3
              obtain ⟨a4, HA4, HL4, HF9, HG9, HH9, HR9, HK9⟩ := hcut
              obtain ⟨g0, g1, g2⟩ := HG9.out
              obtain ⟨h0, h1, h2⟩ := HH9.out
              have HLE := Lib.hid (show d2.length + [(⟨X, Z⟩ : Rn)].length ≤ 1000000 by have := HDJ.out; rw [List.length_singleton]; omega)
              have HBS := Lib.hid (show wz.heap.size + 1 ≤ (wc.alloc (.cells #[.int .i64 X, .int .i64 Z] 105)).heap.size by have := HG9.out.lt; simp; omega)
              have HRW := Lib.hid (rn_row wc X Z)
              obtain ⟨N3, hN3⟩ : ∃ N3, N3 = (d2 ++ [(⟨X, Z⟩ : Rn)]).length := ⟨_, rfl⟩
              have HN3 := Lib.hid hN3
              clear hN3
              go_wp2_with (at_builtin; refine wpList_app_k kRn rfl (.tmp 56) (.tmp 58) rfl (wz.heap.size + 1) v2 d2 rfl (Kind.Own.alloc HR9.out _) _ (some ⟨wc.heap.size, 0, none⟩) 1 1 [⟨X, Z⟩] rfl rfl HRW.out HLE.out (by decide) HBS.out ?_; intro v3 w3 hown3 hg3 hb3 _; obtain ⟨A3, c3, rfl, -⟩ := hown3.read_n HN3.out; have HR10 := Lib.hid hown3; have HF10 := Lib.hid (RfAt.under (show RfAt (wc.alloc _) M A N c a4 x4 from heap_old _ HF9.out) hb3 (Nat.lt_succ_of_lt HMGh.out)); have HG10 := Lib.hid ((HG9.out.alloc _).under hb3 (Nat.lt_succ_self _)); have HH10 := Lib.hid ((HH9.out.below (below_new wc _)).grown hg3 (fun h => Nat.lt_irrefl _ (HVO.out _ h.symm))); have HK10 := Lib.hid (gb_below (gb_alloc HK9.out _) hb3 (Nat.le_succ _)); have HH11 := Lib.hid (HH10.out.other (g' := wz.heap.size) (k := 1) (u := .slice A3 N3 c3) (Nat.ne_of_lt HGH.out)); clear g0 g1 g2 h0 h1 h2; obtain ⟨g0, g1, g2⟩ := HG10.out; obtain ⟨h0, h1, h2⟩ := HH11.out; clear hown3 hg3 hb3)
              have HG11 := Lib.hid (HG10.out.set1 (.slice A3 N3 c3))
              have HF11 := Lib.hid (HF10.out.far (Nat.ne_of_lt HMGh.out) (k := 1) (.slice A3 N3 c3))
              have HR11 := Lib.hid (HR10.out.other (grownBy_set w3 wz.heap.size 1 (.slice A3 N3 c3)) (Nat.lt_succ_self _))
              have HK11 := Lib.hid (gb_set HK10.out (Nat.le_refl _) (k := 1) (.slice A3 N3 c3))
              go_roundw
              case rel => exact ⟨j + 1, a4, x4, _, d2 ++ [⟨X, Z⟩], by omega, by rw [wasR_snoc], by go_num, by have := HDJ.out; rw [List.length_append, List.length_singleton]; omega, by rw [wasR_snoc]; exact HZ.out.1, by rw [wasR_snoc]; have := HZ.out; show Z ≤ _; omega, HA4, by rw [wasR_snoc, ← HL4.out]; exact HY3, HF11, HG11, HR11, HK11⟩
              case measure => simp [intOf]; omega
          · have hor : mm - j = 0 ∨ e' ≠ 0 := by
              by_cases h : j < mm
              · exact .inr fun he => hc ⟨h, he⟩
              · exact .inl (by omega)
            have HE2 := Lib.hid (show (Y2, q5, x5) = (d2, b.drop a', e') by rw [HY2.out, runsRd_end _ _ _ hor, List.append_nil])
            have HK' := Lib.hid (gb_trans HW.out HK2.out)
            have HYN := Lib.hid (show (s, r0, e2) = ((dn ++ [⟨(rp : Int), d2⟩]) ++ (manyR knRd (n - (k + 1)) (b.drop a') e').1, (manyR knRd (n - (k + 1)) (b.drop a') e').2) by
              have h := HE2.out
              injection h with h1 h2
              injection h2 with h2 h3
              rw [HY.out, manyR_step knRd hlt, HKR.out, h1, h2, h3, List.append_assoc]; rfl)
            obtain ⟨bs0, ho0, -⟩ := HO.out
            obtain ⟨bs, hown, hall⟩ := dKn_other HO.out HK2.out hMw
            obtain ⟨N2, hN2⟩ : ∃ N2, N2 = d2.length := ⟨_, rfl⟩
            obtain ⟨A2, k2, rfl, -⟩ := HR2.out.read_n hN2
            have HREL := Lib.hid (holds_new ho0 (HR2.out.mono (Nat.le_succ _)) hN2 HW.out.size (rp : Int))
            have HOW := Lib.hid hown
            have HAL := Lib.hid hall
            have HLE := Lib.hid (show bs.length + [(⟨(rp : Int), A2, N2, k2⟩ : Ks)].length ≤ 1000000 by have := hall.1; rw [List.length_singleton]; omega)
            have HRW := Lib.hid (ks_row wy (rp : Int) A2 N2 k2)
            have HBS := Lib.hid (show w.heap.size ≤ (wy.alloc (.cells #[.int .i64 (rp : Int), .slice A2 N2 k2] 64)).heap.size by have := HK'.out.size; simp; omega)
            have HF9 := Lib.hid (show RfAt (wy.alloc (.cells #[.int .i64 (rp : Int), .slice A2 N2 k2] 64)) M A N c a' e' from heap_old _ HF2.out)
            have HMW := Lib.hid hMw
            obtain ⟨g0, g1, g2⟩ := HG2.out
            clear ho0 hown hall hN2 HY HO HR2 HE2 HKR
            have hgo : (j < mm ∧ (e' == 0) = false) ∨ ¬ j < mm := by
              by_cases h : j < mm
              · exact .inl ⟨h, beq_eq_false_iff_ne.2 fun he => hc ⟨h, he⟩⟩
              · exact .inr h
            clear hc hor
            rcases hgo with ⟨hjl, hne⟩ | hjl
            all_goals
              go_wp2_with (at_builtin; refine wpList_app_k kKs rfl (.tmp 63) (.tmp 65) rfl w.heap.size _ bs rfl (Kind.Own.alloc HOW.out _) _ (some ⟨wy.heap.size, 0, none⟩) 1 1 [⟨(rp : Int), A2, N2, k2⟩] rfl rfl HRW.out HLE.out (by decide) HBS.out ?_; intro v3 w3 hown3 hg3 hb3 hv3; have HO3 := Lib.hid (Deep.Own.app (HAL.out.keep (keptS_below (below_new wy _) _)) (.one (dKn.keep HREL.out (keptS_below (below_new wy _) _))) hown3 hg3 hv3); have HF3 := Lib.hid (HF9.out.under hb3 HMW.out); have HW3 := Lib.hid (gb_below (gb_alloc HK'.out _) hb3 (Nat.le_refl _)); clear hown3 hg3 hb3 hv3)
              go_roundw
              case rel => exact ⟨k + 1, a', e', dn ++ [⟨(rp : Int), d2⟩], by omega, by go_num, by rw [List.length_append, List.length_singleton]; omega, HA2, HYN, HF3, HO3, HW3⟩
              case measure => simp [intOf]; omega
      · have HE := Lib.hid (show (s, r0, e2) = (dn, b.drop a, e) by rw [HY.out, manyR_end knRd _ _ (.inr he), List.append_nil])
        have hne : (e == 0) = false := beq_eq_false_iff_ne.2 he
        obtain ⟨c0, c1, c2, z0, z1, z2⟩ := HF.out.cells
        clear HY he
        go_wp2_with fail
        go_ret
        have h := HE.out
        injection h with h1 h2
        injection h2 with h2 h3
        exact ⟨_, a, rfl, HA.out, h2, by rw [h3]; exact HF.out, HW.out, by rw [h1]; exact HO.out⟩
    · have HE := Lib.hid (show (s, r0, e2) = (dn, b.drop a, e) by rw [HY.out, manyR_end knRd _ _ (.inl (by omega)), List.append_nil])
      clear HY
      go_wp2_with fail
      go_ret
      have h := HE.out
      injection h with h1 h2
      injection h2 with h2 h3
      exact ⟨_, a, rfl, HA.out, h2, by rw [h3]; exact HF.out, HW.out, by rw [h1]; exact HO.out⟩
end Go.Proofs.YtopjhebhdopjpaaGreat

namespace Go.Proofs.YtopjhebhdopjpaaGreat
open Go.RowKit

def RetSe (w : World) (x : List Kn × Int) (e : Ending) (w' : World) : Prop := ∃ A c n, e = .returned (.tuple #[.slice A n c, .int .i64 x.2]) ∧ n = x.1.length ∧ RdK w' w'.heap.size A c x.1 ∧ Below w.heap.size w w'
end Go.Proofs.YtopjhebhdopjpaaGreat

namespace Go.Proofs.YtopjhebhdopjpaaGreat
open Go.RowKit

theorem textR_upto (m : Int) (hm : 0 ≤ m) (l : List UInt8) (e : Int) : ((textR m l e).1.length : Int) ≤ m := by
  unfold textR
  split
  · simpa using hm
  · obtain ⟨n, r, e2, h⟩ : ∃ n r e2, withinR 0 m l e = (n, r, e2) := ⟨_, _, _, rfl⟩
    have := withinR_hi hm h
    rw [h]
    simp only [List.length_take]
    omega
theorem rngR_upto (l : List UInt8) (e : Int) : (rngR l e).1.lo.length ≤ 17 ∧ (rngR l e).1.hi.length ≤ 17 := by
  obtain ⟨lo, q1, x1, h1⟩ : ∃ lo q1 x1, textR 17 l e = (lo, q1, x1) := ⟨_, _, _, rfl⟩
  obtain ⟨o, q2, x2, h2⟩ : ∃ o q2 x2, withinR 0 1 q1 x1 = (o, q2, x2) := ⟨_, _, _, rfl⟩
  obtain ⟨hi, q3, x3, h3⟩ : ∃ hi q3 x3, textR 17 q2 x2 = (hi, q3, x3) := ⟨_, _, _, rfl⟩
  have a1 := textR_upto 17 (by decide) l e
  have a3 := textR_upto 17 (by decide) q2 x2
  rw [h1] at a1
  rw [h3] at a3
  simp only at a1 a3
  unfold rngR
  rw [h1]
  simp only
  rw [h2]
  simp only
  rw [h3]
  split
  · exact ⟨by show lo.length ≤ 17; omega, by show ([] : List UInt8).length ≤ 17; simp⟩
  · exact ⟨by show lo.length ≤ 17; omega, by show hi.length ≤ 17; omega⟩
theorem manyR_each {α : Type} {f : List UInt8 → Int → α × List UInt8 × Int} {p : α → Prop} (hf : ∀ l e, p (f l e).1) : ∀ (n : Nat) (l : List UInt8) (e : Int), ∀ x ∈ (manyR f n l e).1, p x
  | 0, _, _, x, hx => by cases hx
  | n + 1, l, e, x, hx => by
    rw [manyR] at hx
    split at hx
    · rcases List.mem_cons.1 hx with rfl | hx
      · exact hf l e
      · exact manyR_each hf n _ _ x hx
    · cases hx
theorem deep_other {P : Program} {β α : Type} {d : Deep P β α} {w w' : World} {base m : Nat} {v : Value} {s : List α} (h : d.Own w base (fun g => base ≤ g) v s) (hg : w.grownBy w' (some m)) (hm : m < base) : d.Own w' base (fun g => base ≤ g) v s := by
  obtain ⟨bs, h1, h2⟩ := h
  exact ⟨bs, Kind.Own.other h1 hg hm, h2.keep (keptS_grown hg fun g hS e => by injection e with e; have := hS.1; omega)⟩
def PcAt (w : World) (g : Nat) (S T : ByteArray) (q : Bool) (v : Value) : Prop := w.cell? ⟨g, 0, none⟩ = some (.string S) ∧ w.cell? ⟨g, 1, none⟩ = some (.string T) ∧ w.cell? ⟨g, 2, none⟩ = some (.bool q) ∧ w.cell? ⟨g, 3, none⟩ = some v ∧ ∀ k, w.frozen? ⟨g, k, none⟩ = false
theorem PcAt.lt {w : World} {g : Nat} {S T : ByteArray} {q : Bool} {v : Value} (h : PcAt w g S T q v) : g < w.heap.size := World.block_lt_of_cell? w _ h.1
theorem PcAt.grown {w w' : World} {row : Option Nat} {g : Nat} {S T : ByteArray} {q : Bool} {v : Value} (h : PcAt w g S T q v) (hg : w.grownBy w' row) (hne : some g ≠ row) : PcAt w' g S T q v :=
  ⟨hg.cell h.1 hne, hg.cell h.2.1 hne, hg.cell h.2.2.1 hne, hg.cell h.2.2.2.1 hne, fun k => (hg.frozen_far ⟨g, k, none⟩ h.lt hne).trans (h.2.2.2.2 k)⟩
theorem PcAt.set0 {w : World} {g : Nat} {S T : ByteArray} {q : Bool} {v : Value} (h : PcAt w g S T q v) (X : ByteArray) : PcAt (w.setCell ⟨g, 0, none⟩ (.string X)) g X T q v :=
  ⟨set_same h.1 _, set_other h.2.1 (addr_off (by decide)) _, set_other h.2.2.1 (addr_off (by decide)) _, set_other h.2.2.2.1 (addr_off (by decide)) _, fun j => by rw [World.frozen?_setCell]; exact h.2.2.2.2 j⟩
theorem PcAt.set1 {w : World} {g : Nat} {S T : ByteArray} {q : Bool} {v : Value} (h : PcAt w g S T q v) (X : ByteArray) : PcAt (w.setCell ⟨g, 1, none⟩ (.string X)) g S X q v :=
  ⟨set_other h.1 (addr_off (by decide)) _, set_same h.2.1 _, set_other h.2.2.1 (addr_off (by decide)) _, set_other h.2.2.2.1 (addr_off (by decide)) _, fun j => by rw [World.frozen?_setCell]; exact h.2.2.2.2 j⟩
theorem PcAt.set2 {w : World} {g : Nat} {S T : ByteArray} {q : Bool} {v : Value} (h : PcAt w g S T q v) (x : Bool) : PcAt (w.setCell ⟨g, 2, none⟩ (.bool x)) g S T x v :=
  ⟨set_other h.1 (addr_off (by decide)) _, set_other h.2.1 (addr_off (by decide)) _, set_same h.2.2.1 _, set_other h.2.2.2.1 (addr_off (by decide)) _, fun j => by rw [World.frozen?_setCell]; exact h.2.2.2.2 j⟩
theorem PcAt.set3 {w : World} {g : Nat} {S T : ByteArray} {q : Bool} {v : Value} (h : PcAt w g S T q v) (u : Value) : PcAt (w.setCell ⟨g, 3, none⟩ u) g S T q u :=
  ⟨set_other h.1 (addr_off (by decide)) _, set_other h.2.1 (addr_off (by decide)) _, set_other h.2.2.1 (addr_off (by decide)) _, set_same h.2.2.2.1 _, fun j => by rw [World.frozen?_setCell]; exact h.2.2.2.2 j⟩
theorem pcAt_new (w : World) (S T : ByteArray) (q : Bool) (v : Value) (t : TypeId) : PcAt (w.alloc (.cells #[.string S, .string T, .bool q, v] t)) w.heap.size S T q v := by
  have h := heap_new w (.cells #[.string S, .string T, .bool q, v] t) _ rfl
  refine ⟨?_, ?_, ?_, ?_, fun k => ?_⟩
  · rw [cell_of_row _ _ _ _ _ _ h]; rfl
  · rw [cell_of_row _ _ _ _ _ _ h]; rfl
  · rw [cell_of_row _ _ _ _ _ _ h]; rfl
  · rw [cell_of_row _ _ _ _ _ _ h]; rfl
  · unfold World.frozen?; rw [h]; simp
def RetKe (w : World) (x : List Pc × Int) (e : Ending) (w' : World) : Prop := ∃ A c n, e = .returned (.tuple #[.slice A n c, .int .i64 x.2]) ∧ n = x.1.length ∧ RdPc w' A c x.1 ∧ Below w.heap.size w w'
theorem rdPc_none (w : World) : RdPc w none 0 [] := Deep.Rd.nil _ _ _ _ (Nat.zero_le _)
set_option maxRecDepth 100000 in
set_option maxHeartbeats 8000000 in
theorem ref_kreadk (A : Option Addr) (c N : Nat) (b : List UInt8) (hN : N = b.length) (hN9 : N ≤ 1000000) (w : World) (hr : RdB w w.heap.size A c b) :
    Calls Tryz.prog 29 #[.slice A N c] w (RetKe w (readK b)) := by
  obtain ⟨n, r1, e1, h1⟩ : ∃ n r1 e1, withinR 0 4096 b 0 = (n, r1, e1) := ⟨_, _, _, rfl⟩
  obtain ⟨s, r0, e2, hY⟩ : ∃ s r0 e2, manyR pieceRd n r1 e1 = (s, r0, e2) := ⟨_, _, _, rfl⟩
  have hn9 : n ≤ 4096 := by have := withinR_hi (by decide) h1; omega
  have hsz : ∀ p ∈ s, p.rng.lo.length ≤ 1000000 ∧ p.rng.hi.length ≤ 1000000 := by
    have h := manyR_each (f := pieceRd) (p := fun p => p.rng.lo.length ≤ 17 ∧ p.rng.hi.length ≤ 17) (fun l e => by unfold pieceRd; simp only; exact rngR_upto l e) n r1 e1
    rw [hY] at h
    exact fun p hp => ⟨by have := (h p hp).1; omega, by have := (h p hp).2; omega⟩
  obtain ⟨x, hx⟩ : ∃ x, endR r0 e2 = x := ⟨_, rfl⟩
  obtain ⟨v, hv⟩ : ∃ v, rightP s = v := ⟨_, rfl⟩
  have HRD := Lib.hid (show readK b = (if x ≠ 0 then ([], x) else match v with | true => (s, 0) | false => ([], 11)) from allR2_of h1 hY hx hv)
  have HB0 := Lib.hid (below_new w (.cells #[.slice A N c, .int .i64 0, .int .i64 0] 83))
  have HF0 := Lib.hid (show RfAt (w.alloc (.cells #[.slice A N c, .int .i64 0, .int .i64 0] 83)) w.heap.size A N c 0 0 from heap_new _ _ _ rfl)
  have TW := Lib.hid (fun (w' : World) (a' : Nat) (l' : List UInt8) (e' : Int) (lo hi : Int) (n : Nat) (r : List UInt8) (x : Int) (hw : withinR lo hi l' e' = (n, r, x)) (hl' : l' = b.drop a') (ha' : a' ≤ N) (hf : RfAt w' w.heap.size A N c a' e') (hq : Below w.heap.size w w') => Lib.hid (rf_within_q hN hw hl' hf (hr.below hq) ha' (by omega)))
  have TT := Lib.hid (fun (w' : World) (a' : Nat) (l' : List UInt8) (e' : Int) (t r : List UInt8) (x : Int) (S : ByteArray) (hw : textR 17 l' e' = (t, r, x)) (hS : str t = S) (hl' : l' = b.drop a') (ha' : a' ≤ N) (hf : RfAt w' w.heap.size A N c a' e') (hq : Below w.heap.size w w') => Lib.hid (rf_text_q hN hw hS hl' hf (hr.below hq) ha' (Nat.le_refl _) (by omega)))
  have TS := Lib.hid (fun (w' : World) (a' : Nat) (l' r : List UInt8) (e' x : Int) (t : List Kn) (hw : setRd l' e' = (t, r, x)) (hl' : l' = b.drop a') (ha' : a' ≤ N) (hf : RfAt w' w.heap.size A N c a' e') (hq : Below w.heap.size w w') => Lib.hid (ref_kreadin w.heap.size w.heap.size a' N c A b l' r e' x t hN hN9 hw hl' ha' (Nat.le_refl _) w' hf (hr.below hq)))
  have EN := Lib.hid (fun (w' : World) (a' : Nat) (ha : a' ≤ N) (hl : r0 = b.drop a') (hf : RfAt w' w.heap.size A N c a' e2) => Lib.hid (rf_end_q (b := b) hN hx hl hf ha))
  obtain ⟨n6, hn6⟩ : ∃ n6, n6 = s.length := ⟨_, rfl⟩
  have LR := Lib.hid (fun (A6 : Option Addr) (c6 : Nat) (w' : World) (h : RdPc w' A6 c6 s) => Lib.hid (ref_pright A6 c6 n6 s hn6 hsz v hv w' h))
  have HN6 := Lib.hid hn6
  have HY0 := Lib.hid hY
  have H1 := Lib.hid h1
  clear hx hv hr hN hn6 hY h1 hsz
  go_enter Tryz.func29, Tryz.ntmps29
  go_wp2_with ((with_reducible refine (TW.out _ 0 _ 0 0 4096 n r1 e1 H1.out rfl (Nat.zero_le _) HF0.out HB0.out).out.mono ?_); rintro e w2 ⟨rfl, a1, ha1, hla, hrf, hg⟩; have HF := Lib.hid hrf; have HB := Lib.hid (below_row HB0.out hg (Nat.le_refl _) HB0.out.size); have HA := Lib.hid ha1; have HLA := Lib.hid hla; clear hrf hg hla ha1)
  clear HF0 HB0 H1
  go_loopw [6, 7] (fun sv i wr => ∃ (k a : Nat) (e : Int) (dn : List Pc), k ≤ n ∧ i = .int .i64 k ∧ dn.length ≤ k ∧ Hid (a ≤ N) ∧ Hid ((s, r0, e2) = (dn ++ (manyR pieceRd (n - k) (b.drop a) e).1, (manyR pieceRd (n - k) (b.drop a) e).2)) ∧ Hid (RfAt wr w.heap.size A N c a e) ∧ Hid (dPc.Own wr (w.heap.size + 1) (fun g => w.heap.size + 1 ≤ g) sv dn) ∧ Hid (Below w.heap.size w wr)) (fun _ i _ => n - (intOf i).toNat)
  case atStart => exact ⟨0, a1, e1, [], by omega, rfl, Nat.le_refl _, HA, by rw [← HLA.out, Nat.sub_zero, HY0.out]; rfl, HF, Deep.Own.nil _ _ _, HB⟩
  case round =>
    clear HF HB HA HLA HY0
    obtain ⟨k, a, e, dn, hk, rfl, hdk, HA, HY, HF, HO, HB⟩ := hrel
    obtain ⟨wz, hwz⟩ : ∃ wz, wz = wr := ⟨_, rfl⟩
    subst hwz
    by_cases hc : k < n ∧ e = 0
    · obtain ⟨hlt, rfl⟩ := hc
      obtain ⟨c0, c1, c2, z0, z1, z2⟩ := HF.out.cells
      obtain ⟨lo, q1, x1, hq1⟩ : ∃ lo q1 x1, textR 17 (b.drop a) 0 = (lo, q1, x1) := ⟨_, _, _, rfl⟩
      obtain ⟨oo, q2, x2, hq2⟩ : ∃ oo q2 x2, withinR 0 1 q1 x1 = (oo, q2, x2) := ⟨_, _, _, rfl⟩
      have HMG := Lib.hid (show w.heap.size < wz.heap.size from HF.out.lt)
      have HNE := Lib.hid (Nat.ne_of_lt HMG.out)
      have HGB := Lib.hid (Nat.le_of_lt HMG.out)
      have HF0 := Lib.hid (show RfAt (wz.alloc (.cells #[.string ⟨#[]⟩, .string ⟨#[]⟩, .bool false, .slice none 0 0] 48)) w.heap.size A N c a 0 from heap_old (.cells #[.string ⟨#[]⟩, .string ⟨#[]⟩, .bool false, .slice none 0 0] 48) HF.out)
      have HP0 := Lib.hid (pcAt_new wz ⟨#[]⟩ ⟨#[]⟩ false (.slice none 0 0) 48)
      have HK0 := Lib.hid (gb_alloc (gb_refl wz (some w.heap.size)) (.cells #[.string ⟨#[]⟩, .string ⟨#[]⟩, .bool false, .slice none 0 0] 48))
      have HB0 := Lib.hid (HB.out.alloc HB.out.size (.cells #[.string ⟨#[]⟩, .string ⟨#[]⟩, .bool false, .slice none 0 0] 48))
      obtain ⟨S, hS⟩ : ∃ S, str lo = S := ⟨_, rfl⟩
      have HQ1 := Lib.hid hq1
      have HQ2 := Lib.hid hq2
      have HSS := Lib.hid hS
      obtain ⟨p0, p1, p2, p3, p4⟩ := HP0.out
      by_cases ho : oo = 1
      · have hob : ((oo : Int) == 1) = true := by rw [ho]; rfl
        obtain ⟨st, q5, x5, hq5⟩ : ∃ st q5 x5, setRd q2 x2 = (st, q5, x5) := ⟨_, _, _, rfl⟩
        have HQT := Lib.hid (show pieceRd (b.drop a) 0 = (⟨⟨lo, [], true⟩, st⟩, q5, x5) by unfold pieceRd rngR; rw [hq1]; simp only; rw [hq2]; simp only; rw [if_pos ho]; simp only; rw [hq5])
        have HQ5 := Lib.hid hq5
        have HYN := Lib.hid (show (s, r0, e2) = ((dn ++ [⟨⟨lo, [], true⟩, st⟩]) ++ (manyR pieceRd (n - (k + 1)) q5 x5).1, (manyR pieceRd (n - (k + 1)) q5 x5).2) by rw [HY.out, manyR_step pieceRd hlt, HQT.out, List.append_assoc]; rfl)
        obtain ⟨N5, hN5⟩ : ∃ N5, N5 = st.length := ⟨_, rfl⟩
        have HN5 := Lib.hid hN5
        clear hq1 hq2 hq5 hS hN5 ho HQT HY
        go_upto_region 13 with (first
          | ((with_reducible refine (TT.out _ a _ 0 lo q1 x1 S HQ1.out HSS.out rfl HA.out HF0.out HB0.out).out.mono ?_); rintro e w1 ⟨rfl, a1, ha, hla, hrf, hg⟩; have HA1 := Lib.hid ha; have HL1 := Lib.hid hla; have HP101 := Lib.hid (HP0.out.grown hg (fun h => HNE.out (by injection h with h; exact h.symm))); obtain ⟨p0, p1, p2, p3, p4⟩ := HP101.out; have HF1 := Lib.hid (RfAt.far hrf HNE.out (k := 0) (.string S)); have HP1 := Lib.hid (HP101.out.set0 S); have HK1 := Lib.hid (gb_set (gb_trans HK0.out hg) (Nat.le_refl _) (k := 0) (.string S)); have HB1 := Lib.hid ((below_row HB0.out hg (Nat.le_refl _) HB0.out.size).setCell (p := ⟨wz.heap.size, 0, none⟩) HGB.out (.string S));  clear ha hla hrf hg)
          | ((with_reducible refine (TW.out _ a1 _ x1 0 1 oo q2 x2 HQ2.out HL1.out HA1.out HF1.out HB1.out).out.mono ?_); rintro e w2 ⟨rfl, a2, ha, hla, hrf, hg⟩; have HA2 := Lib.hid ha; have HL2 := Lib.hid hla; have HP102 := Lib.hid (HP1.out.grown hg (fun h => HNE.out (by injection h with h; exact h.symm))); obtain ⟨p0, p1, p2, p3, p4⟩ := HP102.out; have HF2 := Lib.hid (RfAt.far hrf HNE.out (k := 2) (.bool true)); have HP2 := Lib.hid (HP102.out.set2 true); have HK2 := Lib.hid (gb_set (gb_trans HK1.out hg) (Nat.le_refl _) (k := 2) (.bool true)); have HB2 := Lib.hid ((below_row HB1.out hg (Nat.le_refl _) HB1.out.size).setCell (p := ⟨wz.heap.size, 2, none⟩) HGB.out (.bool true));  clear ha hla hrf hg)
          | ((with_reducible refine (TS.out _ a2 _ q5 x2 x5 st HQ5.out HL2.out HA2.out HF2.out HB2.out).out.mono ?_); rintro e w5 ⟨v5, a5, rfl, ha, hla, hrf, hg, hown⟩; have HGH := Lib.hid HP2.out.lt; obtain ⟨A6, c6, rfl, hrd⟩ := Deep.Own.rd hown HN5.out (fun g hg => hg); have HA5 := Lib.hid ha; have HL5 := Lib.hid hla; have HP15 := Lib.hid (HP2.out.grown hg (fun h => HNE.out (by injection h with h; exact h.symm))); obtain ⟨p0, p1, p2, p3, p4⟩ := HP15.out; have HF5 := Lib.hid (RfAt.far hrf HNE.out (k := 3) (.slice A6 N5 c6)); have HP5 := Lib.hid (HP15.out.set3 (.slice A6 N5 c6)); have HK5 := Lib.hid (gb_set (gb_trans HK2.out hg) (Nat.le_refl _) (k := 3) (.slice A6 N5 c6)); have HB5 := Lib.hid ((below_row HB2.out hg (Nat.le_refl _) HB2.out.size).setCell (p := ⟨wz.heap.size, 3, none⟩) HGB.out (.slice A6 N5 c6)); have HS5 := Lib.hid (show dKn.Rd (w5.setCell ⟨wz.heap.size, 3, none⟩ (.slice A6 N5 c6)) (fun g => wz.heap.size + 1 ≤ g) A6 c6 st from (hrd.keep (keptS_grown (grownBy_set w5 wz.heap.size 3 (.slice A6 N5 c6)) fun g hS h => by injection h with h; have := HGH.out; omega)).mono fun g hS => by have := HGH.out; omega); clear ha hla hrf hg hown hrd))
        obtain ⟨wy, hwy⟩ : ∃ wy, wy = w5.setCell ⟨wz.heap.size, 3, none⟩ (.slice A6 N5 c6) := ⟨_, rfl⟩
        rw [← hwy] at HF5 HP5 HK5 HB5 HS5
        rw [← hwy]
        clear hwy p0 p1 p2 p3 p4
        obtain ⟨p0, p1, p2, p3, p4⟩ := HP5.out
        have HVO := Lib.hid (fun g hg => (HO.out.lt g hg).2)
        obtain ⟨bs, hown, hall⟩ := deep_other HO.out HK5.out (Nat.lt_succ_self _)
        have HREL := Lib.hid (show dPc.rel wy (fun g => w.heap.size + 1 ≤ g ∧ (Value.ownBlock _) ≠ some g) (⟨⟨lo, [], true⟩, A6, N5, c6⟩ : Ps) ⟨⟨lo, [], true⟩, st⟩ from ⟨rfl, HN5.out, HS5.out.mono fun g hg => ⟨by have := HMG.out; omega, fun h => by have := HVO.out g h; omega⟩⟩)
        have HOW := Lib.hid hown
        have HAL := Lib.hid hall
        have HLE := Lib.hid (show bs.length + [(⟨⟨lo, [], true⟩, A6, N5, c6⟩ : Ps)].length ≤ 1000000 by have := hall.1; rw [List.length_singleton]; omega)
        have HRW := Lib.hid (piece_row_n wy lo [] S ⟨#[]⟩ HSS.out rfl true A6 N5 c6)
        have HBS := Lib.hid (show w.heap.size + 1 ≤ (wy.alloc (.cells #[.string S, .string ⟨#[]⟩, .bool true, .slice A6 N5 c6] 48)).heap.size by have := HP5.out.lt; have := HMG.out; simp; omega)
        have HF9 := Lib.hid (show RfAt (wy.alloc (.cells #[.string S, .string ⟨#[]⟩, .bool true, .slice A6 N5 c6] 48)) w.heap.size A N c a5 x5 from heap_old _ HF5.out)
        clear hown hall
        go_wp2_with (at_builtin; refine wpList_app_k kPs rfl (.tmp 47) (.tmp 49) rfl (w.heap.size + 1) _ bs rfl (Kind.Own.alloc HOW.out _) _ (some ⟨wy.heap.size, 0, none⟩) 1 1 [⟨⟨lo, [], true⟩, A6, N5, c6⟩] rfl rfl HRW.out HLE.out (by decide) HBS.out ?_; intro v3 w3 hown3 hg3 hb3 hv3; have HO3 := Lib.hid (Deep.Own.app (HAL.out.keep (keptS_below (below_new wy _) _)) (.one (dPc.keep HREL.out (keptS_below (below_new wy _) _))) hown3 hg3 hv3); have HF3 := Lib.hid (HF9.out.under hb3 (Nat.lt_succ_self _)); have HB3 := Lib.hid ((HB5.out.alloc HB5.out.size _).trans (hb3.mono (Nat.le_succ _))); clear hown3 hg3 hb3 hv3)
        go_roundw
        case rel => exact ⟨k + 1, a5, x5, dn ++ [⟨⟨lo, [], true⟩, st⟩], by omega, by go_num, by rw [List.length_append, List.length_singleton]; omega, HA5, by rw [← HL5.out]; exact HYN, HF3, HO3, HB3⟩
        case measure => simp [intOf]; omega
      · have hob : ((oo : Int) == 1) = false := beq_eq_false_iff_ne.2 (by omega)
        obtain ⟨hi, q3, x3, hq3⟩ : ∃ hi q3 x3, textR 17 q2 x2 = (hi, q3, x3) := ⟨_, _, _, rfl⟩
        obtain ⟨st, q5, x5, hq5⟩ : ∃ st q5 x5, setRd q3 x3 = (st, q5, x5) := ⟨_, _, _, rfl⟩
        have HQT := Lib.hid (show pieceRd (b.drop a) 0 = (⟨⟨lo, hi, false⟩, st⟩, q5, x5) by unfold pieceRd rngR; rw [hq1]; simp only; rw [hq2]; simp only; rw [if_neg ho]; simp only; rw [hq3]; simp only; rw [hq5])
        obtain ⟨T, hT⟩ : ∃ T, str hi = T := ⟨_, rfl⟩
        have HQ3 := Lib.hid hq3
        have HTT := Lib.hid hT
        have HQ5 := Lib.hid hq5
        have HYN := Lib.hid (show (s, r0, e2) = ((dn ++ [⟨⟨lo, hi, false⟩, st⟩]) ++ (manyR pieceRd (n - (k + 1)) q5 x5).1, (manyR pieceRd (n - (k + 1)) q5 x5).2) by rw [HY.out, manyR_step pieceRd hlt, HQT.out, List.append_assoc]; rfl)
        obtain ⟨N5, hN5⟩ : ∃ N5, N5 = st.length := ⟨_, rfl⟩
        have HN5 := Lib.hid hN5
        clear hq1 hq2 hq5 hS hN5 ho HQT HY hq3 hT
        go_upto_region 13 with (first
          | ((with_reducible refine (TT.out _ a _ 0 lo q1 x1 S HQ1.out HSS.out rfl HA.out HF0.out HB0.out).out.mono ?_); rintro e w1 ⟨rfl, a1, ha, hla, hrf, hg⟩; have HA1 := Lib.hid ha; have HL1 := Lib.hid hla; have HP101 := Lib.hid (HP0.out.grown hg (fun h => HNE.out (by injection h with h; exact h.symm))); obtain ⟨p0, p1, p2, p3, p4⟩ := HP101.out; have HF1 := Lib.hid (RfAt.far hrf HNE.out (k := 0) (.string S)); have HP1 := Lib.hid (HP101.out.set0 S); have HK1 := Lib.hid (gb_set (gb_trans HK0.out hg) (Nat.le_refl _) (k := 0) (.string S)); have HB1 := Lib.hid ((below_row HB0.out hg (Nat.le_refl _) HB0.out.size).setCell (p := ⟨wz.heap.size, 0, none⟩) HGB.out (.string S));  clear ha hla hrf hg)
          | ((with_reducible refine (TW.out _ a1 _ x1 0 1 oo q2 x2 HQ2.out HL1.out HA1.out HF1.out HB1.out).out.mono ?_); rintro e w2 ⟨rfl, a2, ha, hla, hrf, hg⟩; have HA2 := Lib.hid ha; have HL2 := Lib.hid hla; have HP102 := Lib.hid (HP1.out.grown hg (fun h => HNE.out (by injection h with h; exact h.symm))); obtain ⟨p0, p1, p2, p3, p4⟩ := HP102.out; have HF2 := Lib.hid (RfAt.far hrf HNE.out (k := 2) (.bool false)); have HP2 := Lib.hid (HP102.out.set2 false); have HK2 := Lib.hid (gb_set (gb_trans HK1.out hg) (Nat.le_refl _) (k := 2) (.bool false)); have HB2 := Lib.hid ((below_row HB1.out hg (Nat.le_refl _) HB1.out.size).setCell (p := ⟨wz.heap.size, 2, none⟩) HGB.out (.bool false));  clear ha hla hrf hg)
          | ((with_reducible refine (TT.out _ a2 _ x2 hi q3 x3 T HQ3.out HTT.out HL2.out HA2.out HF2.out HB2.out).out.mono ?_); rintro e w3 ⟨rfl, a3, ha, hla, hrf, hg⟩; have HA3 := Lib.hid ha; have HL3 := Lib.hid hla; have HP103 := Lib.hid (HP2.out.grown hg (fun h => HNE.out (by injection h with h; exact h.symm))); obtain ⟨p0, p1, p2, p3, p4⟩ := HP103.out; have HF3 := Lib.hid (RfAt.far hrf HNE.out (k := 1) (.string T)); have HP3 := Lib.hid (HP103.out.set1 T); have HK3 := Lib.hid (gb_set (gb_trans HK2.out hg) (Nat.le_refl _) (k := 1) (.string T)); have HB3 := Lib.hid ((below_row HB2.out hg (Nat.le_refl _) HB2.out.size).setCell (p := ⟨wz.heap.size, 1, none⟩) HGB.out (.string T));  clear ha hla hrf hg)
          | ((with_reducible refine (TS.out _ a3 _ q5 x3 x5 st HQ5.out HL3.out HA3.out HF3.out HB3.out).out.mono ?_); rintro e w5 ⟨v5, a5, rfl, ha, hla, hrf, hg, hown⟩; have HGH := Lib.hid HP3.out.lt; obtain ⟨A6, c6, rfl, hrd⟩ := Deep.Own.rd hown HN5.out (fun g hg => hg); have HA5 := Lib.hid ha; have HL5 := Lib.hid hla; have HP15 := Lib.hid (HP3.out.grown hg (fun h => HNE.out (by injection h with h; exact h.symm))); obtain ⟨p0, p1, p2, p3, p4⟩ := HP15.out; have HF5 := Lib.hid (RfAt.far hrf HNE.out (k := 3) (.slice A6 N5 c6)); have HP5 := Lib.hid (HP15.out.set3 (.slice A6 N5 c6)); have HK5 := Lib.hid (gb_set (gb_trans HK3.out hg) (Nat.le_refl _) (k := 3) (.slice A6 N5 c6)); have HB5 := Lib.hid ((below_row HB3.out hg (Nat.le_refl _) HB3.out.size).setCell (p := ⟨wz.heap.size, 3, none⟩) HGB.out (.slice A6 N5 c6)); have HS5 := Lib.hid (show dKn.Rd (w5.setCell ⟨wz.heap.size, 3, none⟩ (.slice A6 N5 c6)) (fun g => wz.heap.size + 1 ≤ g) A6 c6 st from (hrd.keep (keptS_grown (grownBy_set w5 wz.heap.size 3 (.slice A6 N5 c6)) fun g hS h => by injection h with h; have := HGH.out; omega)).mono fun g hS => by have := HGH.out; omega); clear ha hla hrf hg hown hrd))
        obtain ⟨wy, hwy⟩ : ∃ wy, wy = w5.setCell ⟨wz.heap.size, 3, none⟩ (.slice A6 N5 c6) := ⟨_, rfl⟩
        rw [← hwy] at HF5 HP5 HK5 HB5 HS5
        rw [← hwy]
        clear hwy p0 p1 p2 p3 p4
        obtain ⟨p0, p1, p2, p3, p4⟩ := HP5.out
        have HVO := Lib.hid (fun g hg => (HO.out.lt g hg).2)
        obtain ⟨bs, hown, hall⟩ := deep_other HO.out HK5.out (Nat.lt_succ_self _)
        have HREL := Lib.hid (show dPc.rel wy (fun g => w.heap.size + 1 ≤ g ∧ (Value.ownBlock _) ≠ some g) (⟨⟨lo, hi, false⟩, A6, N5, c6⟩ : Ps) ⟨⟨lo, hi, false⟩, st⟩ from ⟨rfl, HN5.out, HS5.out.mono fun g hg => ⟨by have := HMG.out; omega, fun h => by have := HVO.out g h; omega⟩⟩)
        have HOW := Lib.hid hown
        have HAL := Lib.hid hall
        have HLE := Lib.hid (show bs.length + [(⟨⟨lo, hi, false⟩, A6, N5, c6⟩ : Ps)].length ≤ 1000000 by have := hall.1; rw [List.length_singleton]; omega)
        have HRW := Lib.hid (piece_row_n wy lo hi S T HSS.out HTT.out false A6 N5 c6)
        have HBS := Lib.hid (show w.heap.size + 1 ≤ (wy.alloc (.cells #[.string S, .string T, .bool false, .slice A6 N5 c6] 48)).heap.size by have := HP5.out.lt; have := HMG.out; simp; omega)
        have HF9 := Lib.hid (show RfAt (wy.alloc (.cells #[.string S, .string T, .bool false, .slice A6 N5 c6] 48)) w.heap.size A N c a5 x5 from heap_old _ HF5.out)
        clear hown hall
        go_wp2_with (at_builtin; refine wpList_app_k kPs rfl (.tmp 47) (.tmp 49) rfl (w.heap.size + 1) _ bs rfl (Kind.Own.alloc HOW.out _) _ (some ⟨wy.heap.size, 0, none⟩) 1 1 [⟨⟨lo, hi, false⟩, A6, N5, c6⟩] rfl rfl HRW.out HLE.out (by decide) HBS.out ?_; intro v3 w3 hown3 hg3 hb3 hv3; have HO3 := Lib.hid (Deep.Own.app (HAL.out.keep (keptS_below (below_new wy _) _)) (.one (dPc.keep HREL.out (keptS_below (below_new wy _) _))) hown3 hg3 hv3); have HF3 := Lib.hid (HF9.out.under hb3 (Nat.lt_succ_self _)); have HB3 := Lib.hid ((HB5.out.alloc HB5.out.size _).trans (hb3.mono (Nat.le_succ _))); clear hown3 hg3 hb3 hv3)
        go_roundw
        case rel => exact ⟨k + 1, a5, x5, dn ++ [⟨⟨lo, hi, false⟩, st⟩], by omega, by go_num, by rw [List.length_append, List.length_singleton]; omega, HA5, by rw [← HL5.out]; exact HYN, HF3, HO3, HB3⟩
        case measure => simp [intOf]; omega
    · have hor : n - k = 0 ∨ e ≠ 0 := by
        by_cases h : k < n
        · exact .inr fun he => hc ⟨h, he⟩
        · exact .inl (by omega)
      have HE := Lib.hid (show (s, r0, e2) = (dn, b.drop a, e) by rw [HY.out, manyR_end pieceRd _ _ hor, List.append_nil])
      have h := HE.out
      injection h with h1 h2
      injection h2 with h2 h3
      subst h1 h3
      have HL := Lib.hid h2
      obtain ⟨A6, c6, rfl, hrd⟩ := HO.out.rd (n := n6) HN6.out (fun g hg => hg)
      have HR := Lib.hid (show RdPc wz A6 c6 s from hrd.all)
      obtain ⟨c0, c1, c2, z0, z1, z2⟩ := HF.out.cells
      have hgo : (k < n ∧ (e2 == 0) = false) ∨ ¬ k < n := by
        by_cases h : k < n
        · exact .inl ⟨h, beq_eq_false_iff_ne.2 fun he => hc ⟨h, he⟩⟩
        · exact .inr h
      have HRK := Lib.hid (show RdPc wz A6 c6 s ∧ dPc.Rd wz (fun g => w.heap.size + 1 ≤ g) A6 c6 s from ⟨HR.out, hrd⟩)
      clear hc hor h2 HE HY HO hrd HR TW TT TS
      by_cases h0 : x = 0
      · subst h0
        cases v
        case true =>
          have HRE := Lib.hid (show readK b = (s, 0) by rw [HRD.out, if_neg (by decide)])
          clear HRD
          rcases hgo with ⟨hlt, hne⟩ | hlt
          all_goals
            go_wp2_with (first
              | ((with_reducible refine (EN.out _ a HA.out HL.out HF.out).out.mono ?_); rintro e w3 ⟨rfl, a3, -, -, -, hg⟩; have HR3 := Lib.hid (show RdPc w3 A6 c6 s from (HRK.out.2.keep (keptS_grown hg fun g hS h => by injection h with h; omega)).all); have HB3 := Lib.hid (below_row HB.out hg (Nat.le_refl _) HB.out.size); clear hg)
              | ((with_reducible refine (LR.out A6 c6 _ HR3.out).out.mono ?_); rintro e w4 ⟨rfl, hq⟩; have HR4 := Lib.hid (RdPc.call HR3.out hq); have HB4 := Lib.hid (HB3.out.trans (hq.mono HB3.out.size)); clear hq))
            go_ret2
            exact ⟨A6, c6, n6, by rw [HRE.out]; rfl, by rw [HRE.out]; exact HN6.out, by rw [HRE.out]; exact HR4.out, HB4.out⟩
        case false =>
          have HRE := Lib.hid (show readK b = ([], 11) by rw [HRD.out, if_neg (by decide)])
          clear HRD
          rcases hgo with ⟨hlt, hne⟩ | hlt
          all_goals
            go_wp2_with (first
              | ((with_reducible refine (EN.out _ a HA.out HL.out HF.out).out.mono ?_); rintro e w3 ⟨rfl, a3, -, -, -, hg⟩; have HR3 := Lib.hid (show RdPc w3 A6 c6 s from (HRK.out.2.keep (keptS_grown hg fun g hS h => by injection h with h; omega)).all); have HB3 := Lib.hid (below_row HB.out hg (Nat.le_refl _) HB.out.size); clear hg)
              | ((with_reducible refine (LR.out A6 c6 _ HR3.out).out.mono ?_); rintro e w4 ⟨rfl, hq⟩; have HB4 := Lib.hid (HB3.out.trans (hq.mono HB3.out.size)); clear hq))
            go_ret2
            exact ⟨none, 0, 0, by rw [HRE.out]; rfl, by rw [HRE.out]; rfl, by rw [HRE.out]; exact rdPc_none _, HB4.out⟩
      · have HRE := Lib.hid (show readK b = ([], x) by rw [HRD.out, if_pos h0])
        have hxe : (x == 0) = false := beq_eq_false_iff_ne.2 h0
        clear HRD LR
        rcases hgo with ⟨hlt, hne⟩ | hlt
        all_goals
          go_wp2_with (first
            | ((with_reducible refine (EN.out _ a3 HA3.out HL3.out HF3.out).out.mono ?_); rintro e w4 ⟨rfl, a4, -, -, -, hg⟩; have HB4 := Lib.hid (below_row HB3.out hg (Nat.le_refl _) HB3.out.size); clear hg)
            | ((with_reducible refine (EN.out _ a HA.out HL.out HF.out).out.mono ?_); rintro e w3 ⟨rfl, a3, ha, hl, hf, hg⟩; have HA3 := Lib.hid ha; have HL3 := Lib.hid hl; have HF3 := Lib.hid hf; have HB3 := Lib.hid (below_row HB.out hg (Nat.le_refl _) HB.out.size); clear ha hl hf hg))
          go_ret2
          exact ⟨none, 0, 0, by rw [HRE.out]; rfl, by rw [HRE.out]; rfl, by rw [HRE.out]; exact rdPc_none _, HB4.out⟩
end Go.Proofs.YtopjhebhdopjpaaGreat

namespace Go.Proofs.YtopjhebhdopjpaaGreat
open Go.RowKit

def VecAt (w : World) (g : Nat) (G : Nat → Int) : Prop := ∀ k, k < 16 → w.cell? ⟨g, k, none⟩ = some (.int .i64 (G k))
theorem VecAt.below {w w' : World} {g : Nat} {G : Nat → Int} (h : VecAt w g G) (hb : Below w.heap.size w w') : VecAt w' g G := fun k hk => ((bcell hb).1 _ _ (World.block_lt_of_cell? w _ (h k hk))).trans (h k hk)
end Go.Proofs.YtopjhebhdopjpaaGreat

namespace Go.Proofs.YtopjhebhdopjpaaGreat
open Go.RowKit

structure SlP where
  A : Option Addr
  n : Nat
  c : Nat
noncomputable def kSlP : Kind Tryz.prog SlP where
  ty := 39
  el := 22
  size := 1
  bytes := 24
  zero := .slice none 0 0
  cells := fun s => [.slice s.A s.n s.c]
  len := fun _ => rfl
  one := fun s u hu => by simp at hu; subst hu; rfl
  pos := by decide
  under := Tryz.underlying39
  info := by kernel_rfl
  zsize := rfl
noncomputable def dSlP : Deep Tryz.prog SlP (List Pc) where
  k := kSlP
  rel := fun w S b a => b.n = a.length ∧ dPc.Rd w S b.A b.c a
  mono := fun h hs => ⟨h.1, h.2.mono hs⟩
  lives := fun h => ⟨h.1, h.2.lives⟩
  keep := fun h hk => ⟨h.1, h.2.keep hk⟩
def RdPP (w : World) (A : Option Addr) (c : Nat) (ks : List (List Pc)) : Prop := dSlP.Rd w (fun _ => True) A c ks
theorem RdPP.call {w w' : World} {A : Option Addr} {c : Nat} {ks : List (List Pc)} (h : RdPP w A c ks) (hb : Below w.heap.size w w') : RdPP w' A c ks := Deep.Rd.call h hb
theorem psame_is (A B : Option Addr) (c d n m : Nat) (k : List Pc) (hn : n = k.length) (hm : m = k.length) (w : World) (ha : RdPc w A c k) (hb : RdPc w B d k) :
    Calls Tryz.prog 13 #[.slice A n c, .slice B m d] w fun e w' => e = .returned (.bool true) ∧ Below w.heap.size w w' :=
  ref_psame A B c d n m k k hn hm true (sameP_iff.2 rfl) w ha hb
end Go.Proofs.YtopjhebhdopjpaaGreat

namespace Go.Proofs.YtopjhebhdopjpaaGreat
open Go.RowKit

def RetBX (w : World) (N : Nat) (x : Int) (l : List UInt8) (e : Ending) (w' : World) : Prop := ∃ A c, e = .returned (.tuple #[.slice A N c, .int .i64 x]) ∧ RdB w' w'.heap.size A c l ∧ Below w.heap.size w w'
theorem rdB_on {w w' : World} {A : Option Addr} {c : Nat} {l : List UInt8} (h : RdB w w.heap.size A c l) (hb : Below w.heap.size w w') : RdB w' w'.heap.size A c l := ⟨(h.row.below hb).more hb.size, h.room, h.cap⟩
theorem rdB_fresh (w : World) (cs : Array Value) (l : List UInt8) (n : Nat) (hl : cs.toList = bytes l) (hn : n = l.length) (hm : l.length ≤ 1000000) : RdB (w.alloc (.cells cs 5)) (w.alloc (.cells cs 5)).heap.size (some ⟨w.heap.size, 0, none⟩) n l := rdB_block (heap_new w _ _ rfl) hl hn hm
theorem bytes_eq (A A2 : Option Addr) (c c2 n : Nat) (a : List UInt8) (hn : n = a.length) (hl : a.length ≤ 1000000) (w : World) (ha : RdB w w.heap.size A c a) (hb : RdB w w.heap.size A2 c2 a) :
    Calls Tryz.prog 11 #[.slice A n c, .slice A2 n c2] w fun e w' => e = .returned (.bool true) ∧ Below w.heap.size w w' :=
  (ref_eq_same A A2 c c2 n n _ _ a w hn hn ha.row hb.row (by omega)).mono fun _ _ ⟨h1, h2⟩ => ⟨h1, grown_none h2⟩
def RetBN (w : World) (N : Nat) (l : List UInt8) (e : Ending) (w' : World) : Prop := ∃ A c, e = .returned (.slice A N c) ∧ RdB w' w'.heap.size A c l ∧ Below w.heap.size w w'
theorem RetB.name {w w' : World} {l L : List UInt8} {e : Ending} {N : Nat} (h : RetB w.heap.size w l e w') (hL : l = L) (hN : L.length = N) : RetBN w N L e w' := by
  subst hL
  obtain ⟨v, h1, h2, h3⟩ := h
  obtain ⟨A, c, rfl, h4⟩ := h2.read_n hN.symm
  exact ⟨A, c, h1, h4, h3⟩
end Go.Proofs.YtopjhebhdopjpaaGreat

namespace Go.Proofs.YtopjhebhdopjpaaGreat
open Go.RowKit

def RetSX (w : World) (N : Nat) (x : Int) (s : List Kn) (e : Ending) (w' : World) : Prop := ∃ A c, e = .returned (.tuple #[.slice A N c, .int .i64 x]) ∧ RdK w' w'.heap.size A c s ∧ Below w.heap.size w w'
def RetPX (w : World) (N : Nat) (x : Int) (k : List Pc) (e : Ending) (w' : World) : Prop := ∃ A c, e = .returned (.tuple #[.slice A N c, .int .i64 x]) ∧ RdPc w' A c k ∧ Below w.heap.size w w'
theorem RetSe.named {w w' : World} {x : List Kn × Int} {l : List Kn} {f : Int} {e : Ending} {N : Nat} (h : RetSe w x e w') (hx : x = (l, f)) (hN : l.length = N) : RetSX w N f l e w' := by
  subst hx
  obtain ⟨A, c, n, h1, h2, h3, h4⟩ := h
  subst hN h2
  exact ⟨A, c, h1, h3, h4⟩
theorem RetKe.named {w w' : World} {x : List Pc × Int} {l : List Pc} {f : Int} {e : Ending} {N : Nat} (h : RetKe w x e w') (hx : x = (l, f)) (hN : l.length = N) : RetPX w N f l e w' := by
  subst hx
  obtain ⟨A, c, n, h1, h2, h3, h4⟩ := h
  subst hN h2
  exact ⟨A, c, h1, h3, h4⟩
theorem ex16k : knowB [] = [0] := by simp [knowB, putV_zero]
end Go.Proofs.YtopjhebhdopjpaaGreat

namespace Go.Proofs.YtopjhebhdopjpaaGreat
open Go.RowKit

theorem smallPc_all {k : List Pc} (h : rightP k = true) (hp : PutP k) : ∀ p ∈ k, smallPc p := fun p hm => ⟨rightP_all h p hm, hp.2 p hm⟩
theorem pcs_texts {k : List Pc} {L B : Nat} (h : CapN L B k) : ∀ p ∈ k, p.rng.lo.length ≤ 1000000 ∧ p.rng.hi.length ≤ 1000000 := fun p hp => ⟨by have := (h.each p hp).1; omega, by have := (h.each p hp).2.1; omega⟩
theorem ref_ddelta_own (A B : Option Addr) (c d n m : Nat) (a b : List Pc) (hn : n = a.length) (hm : m = b.length) (hca : CapP a) (hcb : CapP b) (hp : PutP (lessP b a)) (w : World) (ha : RdPc w A c a) (hb : RdPc w B d b) :
    Calls Tryz.prog 12 #[.slice A n c, .slice B m d] w (RetB w.heap.size w (deltaB a b)) := by
  obtain ⟨U, hU⟩ : ∃ U, lessP b a = U := ⟨_, rfl⟩
  obtain ⟨NU, hNU⟩ : ∃ N, N = U.length := ⟨_, rfl⟩
  have C1 := Lib.hid (ref_pless B A d c m n b a hm hn hcb hca U hU NU hNU w hb ha)
  have hr : rightP U = true := by rw [← hU]; exact makeP_right ..
  rw [hU] at hp
  have C2 := fun A c w h => Lib.hid (ref_kknow A c NU U hNU (by have := hp.1; omega) (smallPc_all hr hp) w h)
  have HL := Lib.hid (show deltaB a b = knowB U by rw [deltaB, hU])
  clear hn hm hca hcb hp hU hNU ha hb hr
  go_enter Tryz.func12, Tryz.ntmps12
  go_wp2_with (first
    | ((with_reducible refine C1.out.mono ?_); rintro e w1 ⟨A1, c1, rfl, hrd, hq⟩; have HR1 := Lib.hid hrd; have HQ1 := Lib.hid hq; clear hrd hq)
    | ((with_reducible refine (C2 _ _ _ HR1.out).out.mono ?_); rintro e w2 ⟨v2, rfl, hrd, hq⟩; have HR2 := Lib.hid hrd; have HQ2 := Lib.hid hq; clear hrd hq))
  go_ret
  exact ⟨v2, rfl, HL.out ▸ OwnB.mono HR2.out HQ1.out.size, HQ1.out.trans (HQ2.out.mono HQ1.out.size)⟩
theorem ref_ddelta (A B : Option Addr) (c d n m : Nat) (a b : List Pc) (hn : n = a.length) (hm : m = b.length) (hca : CapP a) (hcb : CapP b) (hp : PutP (lessP b a)) (N : Nat) (L : List UInt8) (hL : deltaB a b = L) (hN : L.length = N) (w : World) (ha : RdPc w A c a) (hb : RdPc w B d b) :
    Calls Tryz.prog 12 #[.slice A n c, .slice B m d] w (RetBN w N L) :=
  (ref_ddelta_own A B c d n m a b hn hm hca hcb hp w ha hb).mono fun _ _ h => h.name hL hN
set_option maxHeartbeats 2000000 in
theorem ref_dapply (A B : Option Addr) (c d n m : Nat) (a : List Pc) (b : List UInt8) (hn : n = a.length) (hm : m = b.length) (hm9 : m ≤ 1000000) (hca : CapP a) (hla : ∀ p ∈ a, p.rng.lo.length ≤ 1000000 ∧ p.rng.hi.length ≤ 1000000) (hcb : ∀ k, readK b = (k, 0) → CapP k) (N : Nat) (y : List Pc) (x : Int) (hy : applyP a b = (y, x)) (hN : y.length = N) (w : World) (ha : RdPc w A c a) (hb : RdB w w.heap.size B d b) :
    Calls Tryz.prog 15 #[.slice A n c, .slice B m d] w (RetPX w N x y) := by
  obtain ⟨z, hz⟩ : ∃ z, rightP a = z := ⟨_, rfl⟩
  obtain ⟨K, X, hK⟩ : ∃ K X, readK b = (K, X) := ⟨_, _, rfl⟩
  obtain ⟨NK, hNK⟩ : ∃ N, K.length = N := ⟨_, rfl⟩
  have C1 := Lib.hid (ref_pright A c n a hn hla z hz w ha)
  have C2 := fun w h => Lib.hid ((ref_kreadk B d m b hm hm9 w h).mono fun e w' h => h.named hK hNK)
  have HA := Lib.hid ha
  have HB := Lib.hid hb
  cases z with
  | false =>
    rw [applyP_wrong hz] at hy
    injection hy with hy hx
    subst hy hx
    obtain rfl : 0 = N := hN
    clear hn hm hm9 hca hla hcb ha hb hz hK hNK C2
    go_enter Tryz.func15, Tryz.ntmps15
    go_wp2_with ((with_reducible refine C1.out.mono ?_); rintro e w1 ⟨rfl, hq⟩; have HQ1 := Lib.hid hq; clear hq)
    go_ret2
    exact ⟨none, 0, rfl, .empty _ _ _ (Nat.zero_le _), HQ1.out⟩
  | true =>
    by_cases hX : X = 0
    · subst hX
      rw [applyP_read hz hK] at hy
      injection hy with hy hx
      subst hx
      have C3 := fun B d w h1 h2 => Lib.hid (ref_pjoin A B c d n NK a K hn hNK.symm hca (hcb K hK) y hy N hN.symm w h1 h2)
      clear hn hm hm9 hca hla hcb hN ha hb hz hK hNK hy
      go_enter Tryz.func15, Tryz.ntmps15
      go_wp2_with (first
        | ((with_reducible refine C1.out.mono ?_); rintro e w1 ⟨rfl, hq⟩; have HQ1 := Lib.hid hq; replace HA := Lib.hid (HA.out.call hq); replace HB := Lib.hid (rdB_on HB.out hq); clear hq)
        | ((with_reducible refine (C2 _ HB.out).out.mono ?_); rintro e w2 ⟨A2, c2, rfl, hrd, hq⟩; have HR2 := Lib.hid hrd; have HQ2 := Lib.hid (HQ1.out.trans (hq.mono HQ1.out.size)); replace HA := Lib.hid (HA.out.call hq); clear hrd hq)
        | ((with_reducible refine (C3 _ _ _ HA.out HR2.out).out.mono ?_); rintro e w3 ⟨A3, c3, rfl, hrd, hq⟩; have HR3 := Lib.hid hrd; have HQ3 := Lib.hid (HQ2.out.trans (hq.mono HQ2.out.size)); clear hrd hq))
      go_ret2
      exact ⟨A3, c3, rfl, HR3.out, HQ3.out⟩
    · rw [applyP_bad hz hK hX] at hy
      injection hy with hy hx
      subst hy hx
      obtain rfl : 0 = N := hN
      have hX2 : (X == 0) = false := beq_eq_false_iff_ne.2 hX
      clear hn hm hm9 hca hla hcb ha hb hz hK hNK
      go_enter Tryz.func15, Tryz.ntmps15
      go_wp2_with (first
        | ((with_reducible refine C1.out.mono ?_); rintro e w1 ⟨rfl, hq⟩; have HQ1 := Lib.hid hq; replace HB := Lib.hid (rdB_on HB.out hq); clear hq)
        | ((with_reducible refine (C2 _ HB.out).out.mono ?_); rintro e w2 ⟨A2, c2, rfl, -, hq⟩; have HQ2 := Lib.hid (HQ1.out.trans (hq.mono HQ1.out.size)); clear hq))
      go_ret2
      exact ⟨none, 0, rfl, .empty _ _ _ (Nat.zero_le _), HQ2.out⟩
end Go.Proofs.YtopjhebhdopjpaaGreat

namespace Go.Proofs.YtopjhebhdopjpaaGreat
open Go.RowKit

theorem knB_len1 {k : Kn} {m : Nat} (h : smallKn k) (hm : k.runs.length ≤ m) : (knB k).length ≤ 18 + 18 * m := by
  obtain ⟨h1, h2, h3, h4⟩ := h
  have p1 := putV_len10 k.rep.toNat (by omega)
  have p2 := putV_len10 k.runs.length (by omega)
  have p3 := runsB_len k.runs 0 (Int.le_refl _) h3 fun r m e => by rw [e] at h3; have := oneC_iff.1 (rightC_head h3); omega
  unfold knB
  rw [List.length_append, List.length_append]
  omega
theorem setB_len1 {s : List Kn} {m : Nat} (h : rightS s = true) (hm : ∀ k ∈ s, k.runs.length ≤ m) (h9 : m ≤ 4096) : (setB s).length ≤ 9 + 16 * (18 + 18 * m) := by
  have h1 := rightS_len h
  have h2 := fcd_flat_len knB (18 + 18 * m) s fun y hy => knB_len1 (smallKn_of h (fun k hk => Nat.le_trans (hm k hk) h9) y hy) (hm y hy)
  have h3 : s.length * (18 + 18 * m) ≤ 16 * (18 + 18 * m) := Nat.mul_le_mul_right _ h1
  have h4 := putV_len10 s.length (by omega)
  unfold setB
  rw [List.length_append]; omega
theorem longPc_set {p : Pc} (h : longPc p = false) : longV 16 p.set = false := by
  unfold longPc at h
  simp only [Bool.or_eq_false_iff] at h
  exact h.2
theorem longP_set {m : Nat} {k : List Pc} (h : longP m k = false) : k.length ≤ m ∧ ∀ p ∈ k, longPc p = false := by
  unfold longP at h
  rw [Bool.or_eq_false_iff, decide_eq_false_iff_not, List.any_eq_false] at h
  exact ⟨by omega, fun p hp => by have := h.2 p hp; simpa using this⟩
end Go.Proofs.YtopjhebhdopjpaaGreat
