/-
  Several texts in one: VstE, VstF, VstG, VstH, ShelfCmp, KeyA, KeyB, KeyC, KeyD, KeyE, Law06A, Law06B.
-/
import Derived.Deep.DeepCutAuto
import Derived.Shelf.Small.Strs
import Derived.Test.YtopjhebhdopjpaaGreatProg
import Derived.Outline
import Derived.Deep.RegionHeld3
import Derived.BigRegion
import Derived.Test.YtopjhebhdopjpaaGreatMg4
namespace Go.Proofs.YtopjhebhdopjpaaGreat
open Go.RowKit

noncomputable def dKn : Deep Tryz.prog Ks Kn where
  k := kKs
  rel := fun w S b a => b.rep = a.rep ∧ b.n = a.runs.length ∧ kRn.RdS w S b.A b.c a.runs
  mono := fun h hs => ⟨h.1, h.2.1, h.2.2.mono hs⟩
  lives := fun h => ⟨h.1, h.2.1, h.2.2.lives⟩
  keep := fun h hk => ⟨h.1, h.2.1, h.2.2.keep hk⟩
theorem rdk_in {w : World} {B : Nat} {A : Option Addr} {c : Nat} {s : List Kn} (h : RdK w B A c s) : dKn.Rd w (fun g => g < B) A c s := by
  obtain ⟨ks, h1, h2, h3⟩ := h
  exact ⟨ks, h1.inS, h2, fun i k x hk hx => ⟨(h3 i k x hk hx).1, (h3 i k x hk hx).2.1, (h3 i k x hk hx).2.2.inS⟩⟩
theorem rdk_of {w : World} {S : Nat → Prop} {A : Option Addr} {c : Nat} {s : List Kn} (h : dKn.Rd w S A c s) : RdK w w.heap.size A c s := by
  obtain ⟨ks, h1, h2, h3⟩ := h
  exact ⟨ks, h1.rd, h2, fun i k x hk hx => ⟨(h3 i k x hk hx).1, (h3 i k x hk hx).2.1, (h3 i k x hk hx).2.2.rd⟩⟩
theorem holds_new {w2 w3 : World} {base n c : Nat} {A : Option Addr} {l : List Rn} {v : Value} {ks : List Ks} (ho : kKs.Own w2 base v ks) (hr : kRn.Own w3 w2.heap.size (.slice A n c) l) (hn : n = l.length) (hb : base ≤ w2.heap.size) (r : Int) : dKn.rel w3 (fun g => base ≤ g ∧ v.ownBlock ≠ some g) ⟨r, A, n, c⟩ ⟨r, l⟩ :=
  ⟨rfl, hn, (hr.rdS hn).mono fun g hg => ⟨by omega, fun e => by have := (ho.lt g e).2; omega⟩⟩
def RetK (w : World) (N : Nat) (s : List Kn) (e : Ending) (w' : World) : Prop := ∃ A c, e = .returned (.slice A N c) ∧ RdK w' w'.heap.size A c s ∧ Below w.heap.size w w'
def RetKF (w : World) (N : Nat) (s : List Kn) (e : Ending) (w' : World) : Prop := ∃ A c, e = .returned (.slice A N c) ∧ dKn.Rd w' (fun g => w.heap.size ≤ g) A c s ∧ Below w.heap.size w w'
theorem RetKF.to {w : World} {N : Nat} {s : List Kn} {e : Ending} {w' : World} (h : RetKF w N s e w') : RetK w N s e w' := by
  obtain ⟨A, c, h1, h2, h3⟩ := h
  exact ⟨A, c, h1, rdk_of h2, h3⟩
theorem ks_row (w : World) (r : Int) (A : Option Addr) (n c : Nat) : RowAt (w.alloc (.cells #[.int .i64 r, .slice A n c] 64)) (w.heap.size + 1) (some ⟨w.heap.size, 0, none⟩) (kKs.row [⟨r, A, n, c⟩]) := (Kind.rd_new (k := kKs) (l := [⟨r, A, n, c⟩]) (n := 1) (by rw [kKs.row_one]; rfl) rfl (by simp)).row
set_option maxRecDepth 100000 in
set_option maxHeartbeats 4000000 in
theorem ref_vmake_new (op : Int) (A B : Option Addr) (c d n m : Nat) (a b : List Kn) (hn : n = a.length) (hm : m = b.length) (hnl : ∀ r, (runsV a r).length ≤ 20000) (hml : ∀ r, (runsV b r).length ≤ 20000) (U : List Kn) (hU : makeS op a b = U) (N : Nat) (hN : U.length = N) (w : World) (ha : RdK w w.heap.size A c a) (hb : RdK w w.heap.size B d b) :
    Calls Tryz.prog 77 #[.int .i64 op, .slice A n c, .slice B m d] w (RetKF w N U) := by
  have HA := Lib.hid ha
  have HB := Lib.hid hb
  have HNA := Lib.hid hn
  have HNB := Lib.hid hm
  have HLA := Lib.hid hnl
  have HLB := Lib.hid hml
  have HN := Lib.hid hN
  obtain ⟨f, hf⟩ : ∃ f, (fun r => makeC op (runsV a r) (runsV b r)) = f := ⟨_, rfl⟩
  have HF := Lib.hid (fun r => (congrFun hf r : makeC op (runsV a r) (runsV b r) = f r))
  have HU := Lib.hid (show colS f 16 = U by rw [← hU, ← hf]; rfl)
  clear ha hb hn hm hnl hml hU hN hf
  go_enter Tryz.func77, Tryz.ntmps77
  go_wp2_with fail
  go_loopw [7, 8, 9] (fun v i _ wr => ∃ k : Nat, k ≤ 16 ∧ Hid (dKn.Own wr w.heap.size (fun g => w.heap.size ≤ g) v (colS f k)) ∧ i = .int .i64 ((k : Int) + 1) ∧ Hid (Below w.heap.size w wr)) (fun _ i _ _ => 17 - (intOf i).toNat)
  case atStart => exact ⟨0, by omega, Deep.Own.nil _ _ _, rfl, Below.refl _ _⟩
  case round =>
    obtain ⟨k, hk, HO, rfl, HW⟩ := hrel
    by_cases hlt : k < 16
    · have hd : decide ((k : Int) + 1 ≤ 16) = true := decide_eq_true (by omega)
      have HS := Lib.hid (show colS f (k + 1) = colS f k ++ putK ((k : Int) + 1) (f ((k : Int) + 1)) from rfl)
      obtain ⟨N1, hN1⟩ : ∃ N, (runsV a ((k : Int) + 1)).length = N := ⟨_, rfl⟩
      obtain ⟨N2, hN2⟩ : ∃ N, (runsV b ((k : Int) + 1)).length = N := ⟨_, rfl⟩
      obtain ⟨N3, hN3⟩ : ∃ N, (f ((k : Int) + 1)).length = N := ⟨_, rfl⟩
      have hl1 := HLA.out ((k : Int) + 1)
      have hl2 := HLB.out ((k : Int) + 1)
      rw [hN1] at hl1
      rw [hN2] at hl2
      have C1 := fun w h => Lib.hid (ref_vruns A c n a ((k : Int) + 1) HNA.out N1 hN1 (by omega) w h)
      have C2 := fun w h => Lib.hid (ref_vruns B d m b ((k : Int) + 1) HNB.out N2 hN2 (by omega) w h)
      have C3 := fun A B c d w h1 h2 => Lib.hid (ref_cmake_own op A B c d N1 N2 (runsV a ((k : Int) + 1)) (runsV b ((k : Int) + 1)) hN1.symm hN2.symm (by omega) (by omega) (f ((k : Int) + 1)) (HF.out ((k : Int) + 1)) N3 hN3 w h1 h2)
      have HN3 := Lib.hid hN3
      have HAr := Lib.hid (HA.out.call HW.out)
      have HBr := Lib.hid (HB.out.call HW.out)
      have hlk := colS_len f k
      obtain ⟨ks, ho, hall⟩ := HO.out
      have hlen := hall.1
      have HKO := Lib.hid ho
      have HKA := Lib.hid hall
      have HLE := Lib.hid (show ks.length + [(⟨(k : Int) + 1, none, 0, 0⟩ : Ks)].length ≤ 1000000 by rw [hlen, List.length_singleton]; omega)
      by_cases h0 : N3 = 0
      · have HP := Lib.hid (show putK ((k : Int) + 1) (f ((k : Int) + 1)) = [] by rw [List.eq_nil_of_length_eq_zero (hN3.trans h0)]; rfl)
        subst h0
        clear hN1 hN2 hN3 hl1 hl2 ho hall hlen hlk HLE HKO HKA
        go_wp2_with (first
          | ((with_reducible refine (C1 _ HAr.out).out.mono ?_); rintro e w1 ⟨A1, c1, rfl, hrd, hq⟩; replace HBr := Lib.hid (HBr.out.call hq); replace HO := Lib.hid (HO.out.below hq); replace HW := Lib.hid (HW.out.trans (hq.mono HW.out.size)); have HX := Lib.hid hrd; clear hrd hq)
          | ((with_reducible refine (C2 _ HBr.out).out.mono ?_); rintro e w2 ⟨A2, c2, rfl, hrd, hq⟩; replace HX := Lib.hid (HX.out.call hq); replace HO := Lib.hid (HO.out.below hq); replace HW := Lib.hid (HW.out.trans (hq.mono HW.out.size)); have HY := Lib.hid hrd; clear hrd hq)
          | ((with_reducible refine (C3 _ _ _ _ _ HX.out HY.out).out.mono ?_); rintro e w3 ⟨A3, c3, rfl, hrd, hq⟩; replace HO := Lib.hid (HO.out.below hq); replace HW := Lib.hid (HW.out.trans (hq.mono HW.out.size)); clear hrd hq))
        go_roundw
        case rel => exact ⟨k + 1, by omega, show dKn.Own _ _ _ _ _ from by rw [HS.out, HP.out, List.append_nil]; exact HO.out, by go_num, HW⟩
        case measure => simp [intOf]; omega
      · have HP := Lib.hid (show f ((k : Int) + 1) ≠ [] from fun h => h0 (by rw [← hN3, h]; rfl))
        have hp1 : decide ((0 : Int) < (N3 : Int)) = true := decide_eq_true (by omega)
        have hp2 : decide (0 < N3) = true := decide_eq_true (by omega)
        have hmxN : N3 ≤ 9223372036854775807 ∨ True := .inr trivial
        clear hN1 hN2 hN3 hl1 hl2 ho hall hlen hlk HO hmxN
        go_wp2_with (first
          | ((with_reducible refine (C1 _ HAr.out).out.mono ?_); rintro e w1 ⟨A1, c1, rfl, hrd, hq⟩; replace HBr := Lib.hid (HBr.out.call hq); replace HKO := Lib.hid (Kind.Own.below HKO.out hq); replace HKA := Lib.hid (HKA.out.keep (keptS_below hq _)); replace HW := Lib.hid (HW.out.trans (hq.mono HW.out.size)); have HX := Lib.hid hrd; clear hrd hq)
          | ((with_reducible refine (C2 _ HBr.out).out.mono ?_); rintro e w2 ⟨A2, c2, rfl, hrd, hq⟩; replace HX := Lib.hid (HX.out.call hq); replace HKO := Lib.hid (Kind.Own.below HKO.out hq); replace HKA := Lib.hid (HKA.out.keep (keptS_below hq _)); replace HW := Lib.hid (HW.out.trans (hq.mono HW.out.size)); have HY := Lib.hid hrd; clear hrd hq)
          | ((with_reducible refine (C3 _ _ _ _ _ HX.out HY.out).out.mono ?_); rintro e w3 ⟨A3, c3, rfl, hrd, hq⟩; have HH := Lib.hid (holds_new HKO.out hrd HN3.out.symm HW.out.size ((k : Int) + 1)); replace HKO := Lib.hid (Kind.Own.below HKO.out hq); replace HKA := Lib.hid (HKA.out.keep (keptS_below hq _)); replace HW := Lib.hid (HW.out.trans (hq.mono HW.out.size)); have hm3 := rd_maxC hrd.rd HN3.out.symm; clear hrd hq)
          | (at_builtin; refine wpList_app_k kKs rfl (.tmp 25) (.tmp 29) rfl w.heap.size _ ks rfl (Kind.Own.alloc HKO.out _) _ (some ⟨w3.heap.size, 0, none⟩) 1 1 [⟨(k : Int) + 1, A3, N3, c3⟩] rfl rfl (ks_row w3 _ _ _ _) HLE.out (by decide) (cle_alloc HW.out.size _) ?_; intro v5 w5 hown5 hg5 hb5 hv5; have HO5 := Lib.hid (Deep.Own.app (HKA.out.keep (keptS_below (below_new w3 _) _)) (.one (dKn.keep HH.out (keptS_below (below_new w3 _) _))) hown5 hg5 hv5); have HW5 := Lib.hid ((HW.out.alloc HW.out.size _).trans hb5); clear hown5 hg5 hb5 hv5))
        go_roundw
        case rel => exact ⟨k + 1, by omega, show dKn.Own _ _ _ _ _ from by rw [HS.out, putK_some HP.out]; exact HO5.out, by go_num, HW5⟩
        case measure => simp [intOf]; omega
    · have hd : decide ((k : Int) + 1 ≤ 16) = false := decide_eq_false (by omega)
      obtain rfl : k = 16 := by omega
      obtain ⟨A9, c9, rfl, hrd⟩ := HO.out.rd (n := N) (by rw [HU.out]; exact HN.out.symm) fun _ h => h
      rw [HU.out] at hrd
      have HD := Lib.hid hrd
      clear hrd HO
      go_wp2_with fail
      go_ret
      exact ⟨A9, c9, rfl, HD.out, HW.out⟩
end Go.Proofs.YtopjhebhdopjpaaGreat

namespace Go.Proofs.YtopjhebhdopjpaaGreat
open Go.RowKit

theorem rdk_nil (w : World) (B : Nat) (A : Option Addr) : RdK w B A 0 [] := ⟨[], Kind.Rd.empty _ _ _ _ (Nat.zero_le _), rfl, fun i k x h => by cases h⟩
theorem ref_vof_new (A : Option Addr) (c n : Nat) (a : List Kn) (hn : n = a.length) (hnl : ∀ r, (runsV a r).length ≤ 20000) (U : List Kn) (hU : ofS a = U) (N : Nat) (hN : U.length = N) (w : World) (ha : RdK w w.heap.size A c a) :
    Calls Tryz.prog 104 #[.slice A n c] w (RetKF w N U) := by
  have C := fun (W : World) (h1 : RdK W W.heap.size A c a) (h2 : RdK W W.heap.size (some ⟨w.heap.size, 0, none⟩) 0 []) => Lib.hid (ref_vmake_new 1 A (some ⟨w.heap.size, 0, none⟩) c 0 n 0 a [] hn rfl hnl (fun _ => Nat.zero_le _) U hU N hN W h1 h2)
  have HB := Lib.hid (below_new w (.cells #[] 64))
  have H1 := Lib.hid (ha.call HB.out)
  have H2 := Lib.hid (rdk_nil (w.alloc (.cells #[] 64)) (w.alloc (.cells #[] 64)).heap.size (some ⟨w.heap.size, 0, none⟩))
  clear hn ha hU hN hnl
  go_enter Tryz.func104, Tryz.ntmps104
  go_wp2_with ((with_reducible refine (C _ H1.out H2.out).out.mono ?_); rintro e w1 ⟨A1, c1, rfl, hrd, hq⟩; have HF := Lib.hid (show RetKF w N U (.returned (.slice A1 N c1)) w1 from ⟨A1, c1, rfl, hrd.mono fun g hg => Nat.le_trans HB.out.size hg, HB.out.trans (hq.mono HB.out.size)⟩); clear hrd hq)
  go_ret
  exact HF.out
end Go.Proofs.YtopjhebhdopjpaaGreat

namespace Go.Proofs.YtopjhebhdopjpaaGreat
open Go.RowKit

theorem right_len : ∀ {l s : List Rn}, rightC l = true → (∀ n, hasC l n = hasC s n) → l.length ≤ s.length
  | [], _, _, _ => Nat.zero_le _
  | r :: l, s, hr, h => by
    have h0 := oneC_iff.1 (rightC_head hr)
    have hb := hasC_behind hr
    rw [h] at hb
    have hall : ∀ t ∈ s, ∀ n, inC t n = true → hasC s n = true := fun t ht n hn => List.any_eq_true.2 ⟨t, ht, hn⟩
    have e : ∀ n, hasC l n = hasC (s.filter fun t => decide (r.to < t.fr)) n := fun n => by
      rw [hasC_tail hr, h, Bool.eq_iff_iff, Bool.and_eq_true, decide_eq_true_eq]
      constructor
      · rintro ⟨h1, h2⟩
        obtain ⟨t, ht, hn⟩ := List.any_eq_true.1 h1
        refine List.any_eq_true.2 ⟨t, List.mem_filter.2 ⟨ht, decide_eq_true ?_⟩, hn⟩
        have h3 := inC_iff.1 hn
        rcases Int.lt_or_le r.to t.fr with h4 | h4
        · exact h4
        · rw [hall t ht (r.to + 1) (inC_iff.2 ⟨h3.1, by omega, by omega⟩)] at hb; cases hb
      · intro h1
        obtain ⟨t, ht, hn⟩ := List.any_eq_true.1 h1
        obtain ⟨ht, h2⟩ := List.mem_filter.1 ht
        have h3 := inC_iff.1 hn
        have h4 := of_decide_eq_true h2
        exact ⟨hall t ht n hn, by omega⟩
    have h1 := right_len (rightC_tail hr) e
    have h2 : hasC s r.fr = true := by rw [← h]; exact hasC_first hr (Int.le_refl _) h0.2.1
    obtain ⟨t, ht, hn⟩ := List.any_eq_true.1 h2
    have h3 : (s.filter fun t => decide (r.to < t.fr)).length < s.length := by
      rw [List.length_filter_lt_length_iff_exists]
      exact ⟨t, ht, by have := inC_iff.1 hn; simp only [decide_eq_true_eq]; omega⟩
    rw [List.length_cons]
    omega
theorem makeC1_len (a b : List Rn) : (makeC 1 a b).length ≤ a.length + b.length := by
  rw [← List.length_append]
  exact right_len (makeC_right 1 a b) fun n => by rw [makeC_has, gC1, hasC_append]
theorem rightS_out {s : List Kn} (h : rightS s = true) {r : Int} (hr : ¬ (1 ≤ r ∧ r ≤ 16)) : runsV s r = [] := runsV_none fun k hk => by have := upS_all h k hk; omega
theorem makeS1_runs (a b : List Kn) (r : Int) : (runsV (makeS 1 a b) r).length ≤ (runsV a r).length + (runsV b r).length := by
  by_cases hr : 1 ≤ r ∧ r ≤ 16
  · rw [makeS_runs hr.1 hr.2]; exact makeC1_len _ _
  · rw [rightS_out (makeS_right 1 a b) hr]; exact Nat.zero_le _
end Go.Proofs.YtopjhebhdopjpaaGreat

namespace Go.Proofs.YtopjhebhdopjpaaGreat
open Go.RowKit

theorem upS_bool (c : Int) (k : Kn) (s : List Kn) : upS c (k :: s) = (decide (c < k.rep) && (decide (k.rep ≤ 16) && ((!(k.runs.length == 0)) && (rightC k.runs && upS k.rep s)))) := by
  rw [upS, oneK, Bool.and_assoc]
  cases k.runs <;> rfl
theorem upS_first {X : Int} {n : Nat} {z u : Bool} : (decide (0 < X) && (decide (X ≤ 16) && ((!(n == 0)) && (z && u)))) = ((!decide (X < 1)) && ((!decide (16 < X)) && ((!(n == 0)) && (z && u)))) := by
  rw [show decide (0 < X) = !decide (X < 1) from by rw [Bool.eq_iff_iff]; simp; omega, show decide (X ≤ 16) = !decide (16 < X) from by rw [Bool.eq_iff_iff]; simp]
theorem upS_later {X Z : Int} {n : Nat} {z u : Bool} (hZ : 1 ≤ Z) : (decide (Z < X) && (decide (X ≤ 16) && ((!(n == 0)) && (z && u)))) = ((!decide (X < 1)) && ((!decide (16 < X)) && ((!decide (X ≤ Z)) && ((!(n == 0)) && (z && u))))) := by
  rw [show decide (Z < X) = ((!decide (X < 1)) && !decide (X ≤ Z)) from by rw [Bool.eq_iff_iff]; simp; omega, show decide (X ≤ 16) = !decide (16 < X) from by rw [Bool.eq_iff_iff]; simp]
  cases decide (X < 1) <;> cases decide (16 < X) <;> cases decide (X ≤ Z) <;> rfl
set_option maxRecDepth 100000 in
set_option maxHeartbeats 8000000 in
theorem ref_vsright (A : Option Addr) (c n : Nat) (s : List Kn) (hn : n = s.length) (v : Bool) (hv : rightS s = v) (w : World) (hr : RdK w w.heap.size A c s) :
    Calls Tryz.prog 23 #[.slice A n c] w fun e w' => e = .returned (.bool v) ∧ Below w.heap.size w w' := by
  have HN := Lib.hid hn
  have HR := Lib.hid hr
  have HV := Lib.hid hv
  have hmx := rdk_max hr hn
  have hcx : n ≤ c := by rw [hn]; exact hr.room
  clear hn hr hv
  go_enter Tryz.func23, Tryz.ntmps23
  go_wp2_with fail
  go_loopw [3] (fun i wr => ∃ k : Nat, k ≤ n ∧ i = .int .i64 k ∧ Hid ((k = 0 ∧ upS 0 s = v) ∨ ∃ j p, k = j + 1 ∧ s[j]? = some p ∧ 1 ≤ p.rep ∧ upS p.rep (s.drop k) = v) ∧ Hid (Below w.heap.size w wr)) (fun i _ => n - (intOf i).toNat)
  case atStart => exact ⟨0, by omega, rfl, .inl ⟨rfl, HV.out⟩, Below.refl _ _⟩
  case round =>
    obtain ⟨k, hk, rfl, HL, HW⟩ := hrel
    by_cases hlt : k < n
    · obtain ⟨r, hg, hd, -⟩ := cnt_get (l := s) (k := k) (by have := HN.out; omega)
      obtain ⟨b, o, rfl, hb1, hcell⟩ := knowns_at (HR.out.below HW.out) (by have := HN.out; omega)
      obtain ⟨A1, n1, c1, hn1, hr1, q0, q1⟩ := hcell k r hg
      obtain ⟨z, hz⟩ : ∃ z, rightC r.runs = z := ⟨_, rfl⟩
      obtain ⟨X, hX⟩ : ∃ X, r.rep = X := ⟨_, rfl⟩
      obtain ⟨p1, P1⟩ : ∃ p, decide (X < 1) = p := ⟨_, rfl⟩
      obtain ⟨p2, P2⟩ : ∃ p, decide (16 < X) = p := ⟨_, rfl⟩
      obtain ⟨p5, P5⟩ : ∃ p, (n1 == 0) = p := ⟨_, rfl⟩
      have P6 : ((n1 : Int) == 0) = p5 := by rw [← P5, Bool.eq_iff_iff]; simp
      have P7 : decide (n1 = 0) = p5 := by rw [← P5, Bool.eq_iff_iff]; simp
      have hmx1 := rd_maxC hr1 hn1
      have CS := Lib.hid (fun (L : List (Addr × Value)) => fun (W : World) (hC : CellL wr L W) => (ref_cright A1 c1 n1 r.runs hn1 z hz W ((hr1.more HW.out.size).call (cellL_size hC))).mono fun (e' : Ending) (W' : World) ⟨h1, h2⟩ => (⟨h1, cellL_call h2 hC⟩ : e' = Ending.returned (.bool z) ∧ CellL wr L W'))
      rw [hX] at q0
      have hk0 : (0 : Int) ≤ (k : Int) := by omega
      have hkn : (k : Int) < (n : Int) := by omega
      rcases HL.out with ⟨h0, hL⟩ | ⟨j, p, hj, hgj, hp1, hL⟩
      · subst h0
        rw [List.drop_zero] at hd
        have hL2 : ((!p1) && ((!p2) && ((!p5) && (z && upS X (s.drop 1))))) = v := by
          rw [hd, upS_bool, hX, hz, ← hn1, upS_first, P1, P2, P5] at hL
          exact hL
        have HNX := Lib.hid (fun (h1 : p1 = false) (h : upS X (s.drop 1) = v) => show (0 + 1 = 0 ∧ upS 0 s = v) ∨ ∃ j p, 0 + 1 = j + 1 ∧ s[j]? = some p ∧ 1 ≤ p.rep ∧ upS p.rep (s.drop (0 + 1)) = v from .inr ⟨0, r, rfl, hg, by rw [h1] at P1; have := of_decide_eq_false P1; omega, by rw [hX]; exact h⟩)
        have HF := Lib.hid hL2
        rw [Nat.zero_mul, Nat.add_zero] at q0 q1
        have HC := Lib.hid (show CellL wr [(⟨b, o, none⟩, .int .i64 X), (⟨b, o + 1, none⟩, .slice A1 n1 c1)] wr from ⟨q0, q1, Below.refl _ _⟩)
        clear hcell hg hd hX hz hL hL2 HL hr1 hn1 q0 q1
        cases p1 <;> cases p2 <;> cases p5 <;> cases z
        all_goals
          go_wp2_with fail
          refine q_region (CellL wr [(⟨b, o, none⟩, .int .i64 X), (⟨b, o + 1, none⟩, .slice A1 n1 c1)]) (by kernel_rfl) (by kernel_rfl) (cellL_drew HC.out) ?_
          repeat (first
            | go_big_quiet_skip
            | (go_big_quiet_want; (first
              | (refine q_take (v := ?_) ?_ ?_; rotate_left; (focus (intro w hSw; (try simp only [CellL] at hSw); go_split_ands; go_simp; (try (rw [if_neg (by omega)])); (try with_reducible rfl); done)))
              | (refine q_call (CS.out _) ?_ ?_; (focus (intro w hSw; (try simp only [CellL] at hSw); go_split_ands; go_simp; (try (rw [if_neg (by omega)])); done)))); (try simp only [Act.put, List.setIfInBounds_toArray, List.set_cons_zero, List.set_cons_succ]); go_big_quiet_on))
          refine wpQuiet_nil ?_
          intro w2 hw2
          have HB2 := Lib.hid (HW.out.trans ((cellL_size hw2).mono HW.out.size))
          clear hw2
          go_wp2_with fail
          first
            | (go_ret; exact ⟨ret_bool (show false = v from HF.out), HB2.out⟩)
            | (go_roundw
               case rel => exact ⟨0 + 1, by omega, by go_num, HNX.out (by first | rfl | trivial) HF.out, HB2⟩
               case measure => simp [intOf]; omega)
      · subst hj
        obtain ⟨A2, n2, c2, hn2, hr2, t0, t1⟩ := hcell j p hgj
        obtain ⟨Z, hZ⟩ : ∃ Z, p.rep = Z := ⟨_, rfl⟩
        rw [hZ] at t0 hp1 hL
        obtain ⟨p4, P4⟩ : ∃ p, decide (X ≤ Z) = p := ⟨_, rfl⟩
        have hL2 : ((!p1) && ((!p2) && ((!p4) && ((!p5) && (z && upS X (s.drop (j + 1 + 1))))))) = v := by
          rw [hd, upS_bool, hX, hz, ← hn1, upS_later hp1, P1, P2, P4, P5] at hL
          exact hL
        have HNX := Lib.hid (fun (h1 : p1 = false) (h : upS X (s.drop (j + 1 + 1)) = v) => show (j + 1 + 1 = 0 ∧ upS 0 s = v) ∨ ∃ j' p, j + 1 + 1 = j' + 1 ∧ s[j']? = some p ∧ 1 ≤ p.rep ∧ upS p.rep (s.drop (j + 1 + 1)) = v from .inr ⟨j + 1, r, rfl, hg, by rw [h1] at P1; have := of_decide_eq_false P1; omega, by rw [hX]; exact h⟩)
        have HF := Lib.hid hL2
        have hk1 : (0 : Int) ≤ (j : Int) + 1 := by omega
        have hkn1 : (j : Int) + 1 < (n : Int) := by omega
        have hj0 : (0 : Int) ≤ (j : Int) := by omega
        have hjn : (j : Int) < (n : Int) := by omega
        have hjd : decide ((j : Int) < 0) = false := decide_eq_false (by omega)
        have hjg : decide ((0 : Int) < (j : Int) + 1) = true := decide_eq_true (by omega)
        have hjw : IntKind.i64.wrap ((j : Int) + 1 - 1) = (j : Int) := by rw [Int.add_sub_cancel]; exact IntWalk.i64_in _ (by omega)
        have hjw2 : IntKind.i64.wrap (j : Int) = (j : Int) := IntWalk.i64_in _ (by omega)
        have HC := Lib.hid (show CellL wr [(⟨b, o + (j + 1) * 2, none⟩, .int .i64 X), (⟨b, o + (j + 1) * 2 + 1, none⟩, .slice A1 n1 c1), (⟨b, o + j * 2, none⟩, .int .i64 Z)] wr from ⟨q0, q1, t0, Below.refl _ _⟩)
        clear hcell hg hgj hd hX hZ hz hL hL2 HL hr1 hn1 hr2 hn2 q0 q1 t0 t1
        cases p1 <;> cases p2 <;> cases p4 <;> cases p5 <;> cases z
        all_goals
          go_wp2_with fail
          refine q_region (CellL wr [(⟨b, o + (j + 1) * 2, none⟩, .int .i64 X), (⟨b, o + (j + 1) * 2 + 1, none⟩, .slice A1 n1 c1), (⟨b, o + j * 2, none⟩, .int .i64 Z)]) (by kernel_rfl) (by kernel_rfl) (cellL_drew HC.out) ?_
          repeat (first
            | go_big_quiet_skip
            | (go_big_quiet_want; (first
              | (refine q_take (v := ?_) ?_ ?_; rotate_left; (focus (intro w hSw; (try simp only [CellL] at hSw); go_split_ands; go_simp; (try (rw [if_neg (by omega)])); (try with_reducible rfl); done)))
              | (refine q_call (CS.out _) ?_ ?_; (focus (intro w hSw; (try simp only [CellL] at hSw); go_split_ands; go_simp; (try (rw [if_neg (by omega)])); done)))); (try simp only [Act.put, List.setIfInBounds_toArray, List.set_cons_zero, List.set_cons_succ]); go_big_quiet_on))
          refine wpQuiet_nil ?_
          intro w2 hw2
          have HB2 := Lib.hid (HW.out.trans ((cellL_size hw2).mono HW.out.size))
          clear hw2
          go_wp2_with fail
          first
            | (go_ret; exact ⟨ret_bool (show false = v from HF.out), HB2.out⟩)
            | (go_roundw
               case rel => exact ⟨j + 1 + 1, by omega, by go_num, HNX.out (by first | rfl | trivial) HF.out, HB2⟩
               case measure => simp [intOf]; omega)
    · have HF := Lib.hid (show true = v by
        rcases HL.out with ⟨h0, hL⟩ | ⟨j, p, hj, hgj, hp1, hL⟩
        · have : s = [] := List.eq_nil_of_length_eq_zero (by have := HN.out; omega)
          rw [← hL, this]; rfl
        · rw [← hL, List.drop_eq_nil_of_le (by have := HN.out; omega)]; rfl)
      go_wp2_with fail
      go_ret
      exact ⟨ret_bool HF.out, HW.out⟩
end Go.Proofs.YtopjhebhdopjpaaGreat

namespace Go.Proofs
open Go.Shelf
def Tryz.lays106_ren : Go.Shelf.Ren := ⟨fun | 106 => 88 | 213 => 114 | 265 => 135 | n => n, fun | 9 => 9 | 3 => 3 | n => n, fun | n => n⟩
theorem Tryz.lays106 : Go.Proofs.Lays.n106 Tryz.prog Tryz.lays106_ren := {
  mixed := by kernel_rfl
  f106 := Tryz.func88.trans (congrArg some (by kernel_rfl))
  f213 := Tryz.func114.trans (congrArg some (by kernel_rfl))
  f265 := Tryz.func135.trans (congrArg some (by kernel_rfl))
  t3 := Tryz.underlying3
  a3 := Tryz.isAgg3
  z3 := Tryz.sizeOf3
  v3 := Tryz.zeroValue3
  t9 := Tryz.underlying9
  a9 := Tryz.isAgg9
  z9 := Tryz.sizeOf9
  v9 := Tryz.zeroValue9 }
open Go.RowKit in
theorem Tryz.strings_Compare (a b : ByteArray) (w : World) :
    Calls Tryz.prog 88 #[.string a, .string b] w fun e w' => e = .returned (.int .i64 (Lib.compareBytes a.data.toList b.data.toList)) ∧ w' = w := Any.strings_Compare Tryz.lays106 a b w
end Go.Proofs

namespace Go.Proofs.YtopjhebhdopjpaaGreat
open Go.RowKit

theorem txt_at (l : List UInt8) (k : Nat) (h : k < (str l).size) : (str l)[k] = l.getD k 0 := str_get l k (by rwa [str_size] at h)

theorem key_cmp (a b : List UInt8) (w : World) : Calls Tryz.prog 60 #[.string (str a), .string (str b)] w fun e w' => e = .returned (.int .i64 (Lib.compareBytes a b)) ∧ w = w' := by
  have K := Tryz.strings_Compare (str a) (str b) w
  rw [str_data, str_data] at K
  have K := Lib.hid K
  go_enter Tryz.func60, Tryz.ntmps60
  go_wp2_with ((with_reducible refine K.out.mono ?_); rintro e w' ⟨rfl, rfl⟩)
  go_ret
  exact ⟨rfl, rfl⟩

def edgeB (k : List UInt8) : Bool := decide (k.length ≤ 17)
theorem key_edge (k : List UInt8) (w : World) : Calls Tryz.prog 86 #[.string (str k)] w fun e w' => e = .returned (.bool (edgeB k)) ∧ w = w' := by
  have hz : (str k).size = k.length := str_size k
  generalize str k = S at hz ⊢
  go_enter Tryz.func86, Tryz.ntmps86
  go_wp2_with fail
  all_goals
    go_ret
    exact ⟨ret_bool (by unfold edgeB; rw [← hz]; simp; try omega), rfl⟩

end Go.Proofs.YtopjhebhdopjpaaGreat

namespace Go.Proofs.YtopjhebhdopjpaaGreat
open Go.RowKit

theorem int_eq_false {x y : UInt8} (h : x ≠ y) : ((x.toNat : Int) == (y.toNat : Int)) = false := by
  rw [beq_eq_false_iff_ne]
  intro e
  exact h (UInt8.toNat_inj.1 (by omega))
theorem ref_less (a b : List UInt8) (ha : a.length ≤ 9223372036854775807) (w : World) : Calls Tryz.prog 24 #[.string (str a), .string (str b)] w fun e w' => e = .returned (.bool (ltB a b)) ∧ ∃ n, w' = w.drewN n := by
  have hza : (str a).size = a.length := str_size a
  have hzb : (str b).size = b.length := str_size b
  have hA : ∀ k, (h : k < (str a).size) → (str a)[k] = a.getD k 0 := fun k h => txt_at a k h
  have hB : ∀ k, (h : k < (str b).size) → (str b)[k] = b.getD k 0 := fun k h => txt_at b k h
  generalize str a = S at hza hA ⊢
  generalize str b = T at hzb hB ⊢
  have HA := Lib.hid hA
  have HB := Lib.hid hB
  have HZA := Lib.hid hza
  have HZB := Lib.hid hzb
  have hmx : S.size ≤ 9223372036854775807 := by omega
  clear hA hB hza hzb
  go_enter Tryz.func24, Tryz.ntmps24
  go_wp2_with fail
  go_loopw [5] (fun i wr => ∃ k m : Nat, k ≤ S.size ∧ k ≤ T.size ∧ Hid (ltB a b = ltB (a.drop k) (b.drop k)) ∧ i = .int .i64 k ∧ wr = w.drewN m) (fun i _ => S.size - (intOf i).toNat)
  case atStart => exact ⟨0, 0, by omega, by omega, rfl, rfl, rfl⟩
  case round =>
    obtain ⟨k, m, hk, hk2, HL, rfl, rfl⟩ := hrel
    by_cases hlt : k < S.size
    · by_cases hlt2 : k < T.size
      · have c1 := HA.out k hlt
        have c2 := HB.out k hlt2
        have HS := fun h => Lib.hid (ltB_step (a := a) (b := b) (k := k) (by have := HZA.out; omega) (by have := HZB.out; omega) h)
        have HT := fun h => Lib.hid (ltB_stop (a := a) (b := b) (k := k) (by have := HZA.out; omega) (by have := HZB.out; omega) h)
        obtain ⟨x, hx⟩ : ∃ x, a.getD k 0 = x := ⟨_, rfl⟩
        obtain ⟨y, hy⟩ : ∃ y, b.getD k 0 = y := ⟨_, rfl⟩
        rw [hx] at c1 HS HT
        rw [hy] at c2 HS HT
        clear hx hy
        by_cases hxy : x = y
        · subst hxy
          have HN := Lib.hid (HL.out.trans (HS rfl).out)
          clear HT HS
          go_wp2_with fail
          go_quiet (fail)
          go_wp2_with fail
          go_roundw
          case rel => exact ⟨k + 1, _, by omega, by omega, HN, by go_num, rfl⟩
          case measure => simp [intOf]; omega
        · have hxy' := int_eq_false hxy
          have hxy2 : ((x.toNat : Int) != (y.toNat : Int)) = true := by simp [bne, hxy']
          have HN := Lib.hid (HL.out.trans (HT hxy).out)
          clear HT HS hxy
          go_wp2_with fail
          go_quiet (fail)
          go_wp2_with fail
          go_quiet (fail)
          go_wp2_with fail
          go_ret
          refine ⟨ret_bool (by rw [HN.out]), ?_⟩
          rw [World.drewN_drewN, World.drewN_drewN]
          exact ⟨_, rfl⟩
      · have hge : T.size ≤ k := by omega
        have HN := Lib.hid (HL.out.trans (ltB_out (by have := HZB.out; omega)))
        go_wp2_with fail
        go_ret
        exact ⟨ret_bool HN.out.symm, _, rfl⟩
    · have hke : S.size = k := by omega
      have HN := Lib.hid (HL.out.trans (ltB_end (by have := HZA.out; omega) (by have := HZB.out; omega)))
      have HE : Hid (decide (S.size < T.size) = decide (k < b.length)) := decide_eq_decide.2 (by have := HZB.out; omega)
      clear hke
      go_wp2_with fail
      go_ret
      exact ⟨ret_bool (HE.out.trans HN.out.symm), _, rfl⟩
end Go.Proofs.YtopjhebhdopjpaaGreat

namespace Go.Proofs.YtopjhebhdopjpaaGreat
open Go.RowKit

end Go.Proofs.YtopjhebhdopjpaaGreat

namespace Go.Proofs.YtopjhebhdopjpaaGreat
open Go.RowKit

end Go.Proofs.YtopjhebhdopjpaaGreat

namespace Go.Proofs.YtopjhebhdopjpaaGreat
open Go.RowKit

end Go.Proofs.YtopjhebhdopjpaaGreat

namespace Go.Proofs.YtopjhebhdopjpaaGreat
open Go.RowKit

theorem less_is (a b : List UInt8) (S T : ByteArray) (hS : str a = S) (hT : str b = T) (ha : a.length ≤ 1000000) (v : Bool) (hv : ltB a b = v) (w : World) : Calls Tryz.prog 24 #[.string S, .string T] w fun e w' => e = .returned (.bool v) ∧ Below w.heap.size w w' := by
  subst hS hT hv
  exact (ref_less a b (by omega) w).mono fun e w' ⟨h1, n, h2⟩ => ⟨h1, below_quiet h2⟩
theorem cmp_is (a b : List UInt8) (S T : ByteArray) (hS : str a = S) (hT : str b = T) (v : Int) (hv : Lib.compareBytes a b = v) (w : World) : Calls Tryz.prog 60 #[.string S, .string T] w fun e w' => e = .returned (.int .i64 v) ∧ w = w' := by
  subst hS hT hv
  exact key_cmp a b w
theorem edge_is (a : List UInt8) (S : ByteArray) (hS : str a = S) (v : Bool) (hv : edgeB a = v) (w : World) : Calls Tryz.prog 86 #[.string S] w fun e w' => e = .returned (.bool v) ∧ w = w' := by
  subst hS hv
  exact key_edge a w
theorem txt_ne {a b : List UInt8} {S T : ByteArray} (hS : str a = S) (hT : str b = T) (h : a ≠ b) : (S.toList == T.toList) = false := by
  subst hS hT
  rw [str_toList, str_toList]
  simpa using h
end Go.Proofs.YtopjhebhdopjpaaGreat

namespace Go.Proofs.YtopjhebhdopjpaaGreat
open Go.RowKit

end Go.Proofs.YtopjhebhdopjpaaGreat
