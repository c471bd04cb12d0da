/-
  Several texts in one: VstH, KnwA, KnwB, KcdB, Gb, KcdC, KcdD, KnwC, KnwD, KnwE, KnwMk, KnwF.
-/
import Derived.Deep.RegionHeld3
import Derived.Deep.CutRange
import Derived.Test.YtfklochgciijkaaMg8
/-
  Layer 14 (vset), the document's words: is a set right.
-/
namespace Go.Proofs.Ytfklochgciijkaa
open Go.RowKit

theorem upS_bool (c : Int) (k : Kn) (s : List Kn) : upS c (k :: s) = (decide (c < k.rep) && (decide (k.rep ≤ 16) && ((!(k.runs.length == 0)) && (rightC k.runs && upS k.rep s)))) := by
  rw [upS, oneK, Bool.and_assoc]
  cases k.runs <;> rfl
theorem upS_first {X : Int} {n : Nat} {z u : Bool} : (decide (0 < X) && (decide (X ≤ 16) && ((!(n == 0)) && (z && u)))) = ((!decide (X < 1)) && ((!decide (16 < X)) && ((!(n == 0)) && (z && u)))) := by
  rw [show decide (0 < X) = !decide (X < 1) from by rw [Bool.eq_iff_iff]; simp; omega, show decide (X ≤ 16) = !decide (16 < X) from by rw [Bool.eq_iff_iff]; simp]
theorem upS_later {X Z : Int} {n : Nat} {z u : Bool} (hZ : 1 ≤ Z) : (decide (Z < X) && (decide (X ≤ 16) && ((!(n == 0)) && (z && u)))) = ((!decide (X < 1)) && ((!decide (16 < X)) && ((!decide (X ≤ Z)) && ((!(n == 0)) && (z && u))))) := by
  rw [show decide (Z < X) = ((!decide (X < 1)) && !decide (X ≤ Z)) from by rw [Bool.eq_iff_iff]; simp; omega, show decide (X ≤ 16) = !decide (16 < X) from by rw [Bool.eq_iff_iff]; simp]
  cases decide (X < 1) <;> cases decide (16 < X) <;> cases decide (X ≤ Z) <;> rfl
set_option maxRecDepth 100000 in
set_option maxHeartbeats 8000000 in
theorem ref_vsright (A : Option Addr) (c n : Nat) (s : List Kn) (hn : n = s.length) (v : Bool) (hv : rightS s = v) (w : World) (hr : RdK w w.heap.size A c s) :
    Calls Try.prog 9 #[.slice A n c] w fun e w' => e = .returned (.bool v) ∧ Below w.heap.size w w' := by
  have HN := Lib.hid hn
  have HR := Lib.hid hr
  have HV := Lib.hid hv
  have hmx := rdk_max hr hn
  have hcx : n ≤ c := by rw [hn]; exact hr.room
  clear hn hr hv
  go_enter Try.func9, Try.ntmps9
  go_wp2_with fail
  go_loopw [3] (fun i wr => ∃ k : Nat, k ≤ n ∧ i = .int .i64 k ∧ Hid ((k = 0 ∧ upS 0 s = v) ∨ ∃ j p, k = j + 1 ∧ s[j]? = some p ∧ 1 ≤ p.rep ∧ upS p.rep (s.drop k) = v) ∧ Hid (Below w.heap.size w wr)) (fun i _ => n - (intOf i).toNat)
  case atStart => exact ⟨0, by omega, rfl, .inl ⟨rfl, HV.out⟩, Below.refl _ _⟩
  case round =>
    obtain ⟨k, hk, rfl, HL, HW⟩ := hrel
    by_cases hlt : k < n
    · obtain ⟨r, hg, hd, -⟩ := cnt_get (l := s) (k := k) (by have := HN.out; omega)
      obtain ⟨b, o, rfl, hb1, hcell⟩ := knowns_at (HR.out.below HW.out) (by have := HN.out; omega)
      obtain ⟨A1, n1, c1, hn1, hr1, q0, q1⟩ := hcell k r hg
      obtain ⟨z, hz⟩ : ∃ z, rightC r.runs = z := ⟨_, rfl⟩
      obtain ⟨X, hX⟩ : ∃ X, r.rep = X := ⟨_, rfl⟩
      obtain ⟨p1, P1⟩ : ∃ p, decide (X < 1) = p := ⟨_, rfl⟩
      obtain ⟨p2, P2⟩ : ∃ p, decide (16 < X) = p := ⟨_, rfl⟩
      obtain ⟨p5, P5⟩ : ∃ p, (n1 == 0) = p := ⟨_, rfl⟩
      have P6 : ((n1 : Int) == 0) = p5 := by rw [← P5, Bool.eq_iff_iff]; simp
      have P7 : decide (n1 = 0) = p5 := by rw [← P5, Bool.eq_iff_iff]; simp
      have hmx1 := rd_maxC hr1 hn1
      have CS := Lib.hid (fun (L : List (Addr × Value)) => fun (W : World) (hC : CellL wr L W) => (ref_cright A1 c1 n1 r.runs hn1 z hz W ((hr1.more HW.out.size).call (cellL_size hC))).mono fun (e' : Ending) (W' : World) ⟨h1, h2⟩ => (⟨h1, cellL_call h2 hC⟩ : e' = Ending.returned (.bool z) ∧ CellL wr L W'))
      rw [hX] at q0
      have hk0 : (0 : Int) ≤ (k : Int) := by omega
      have hkn : (k : Int) < (n : Int) := by omega
      rcases HL.out with ⟨h0, hL⟩ | ⟨j, p, hj, hgj, hp1, hL⟩
      · subst h0
        rw [List.drop_zero] at hd
        have hL2 : ((!p1) && ((!p2) && ((!p5) && (z && upS X (s.drop 1))))) = v := by
          rw [hd, upS_bool, hX, hz, ← hn1, upS_first, P1, P2, P5] at hL
          exact hL
        have HNX := Lib.hid (fun (h1 : p1 = false) (h : upS X (s.drop 1) = v) => show (0 + 1 = 0 ∧ upS 0 s = v) ∨ ∃ j p, 0 + 1 = j + 1 ∧ s[j]? = some p ∧ 1 ≤ p.rep ∧ upS p.rep (s.drop (0 + 1)) = v from .inr ⟨0, r, rfl, hg, by rw [h1] at P1; have := of_decide_eq_false P1; omega, by rw [hX]; exact h⟩)
        have HF := Lib.hid hL2
        rw [Nat.zero_mul, Nat.add_zero] at q0 q1
        have HC := Lib.hid (show CellL wr [(⟨b, o, none⟩, .int .i64 X), (⟨b, o + 1, none⟩, .slice A1 n1 c1)] wr from ⟨q0, q1, Below.refl _ _⟩)
        clear hcell hg hd hX hz hL hL2 HL hr1 hn1 q0 q1
        cases p1 <;> cases p2 <;> cases p5 <;> cases z
        all_goals
          go_wp2_with fail
          refine q_region (CellL wr [(⟨b, o, none⟩, .int .i64 X), (⟨b, o + 1, none⟩, .slice A1 n1 c1)]) (by kernel_rfl) (by kernel_rfl) (cellL_drew HC.out) ?_
          repeat (first
            | go_big_quiet_skip
            | (go_big_quiet_want; (first
              | (refine q_take (v := ?_) ?_ ?_; rotate_left; (focus (intro w hSw; (try simp only [CellL] at hSw); go_split_ands; go_simp; (try (rw [if_neg (by omega)])); (try with_reducible rfl); done)))
              | (refine q_call (CS.out _) ?_ ?_; (focus (intro w hSw; (try simp only [CellL] at hSw); go_split_ands; go_simp; (try (rw [if_neg (by omega)])); done)))); (try simp only [Act.put, List.setIfInBounds_toArray, List.set_cons_zero, List.set_cons_succ]); go_big_quiet_on))
          refine wpQuiet_nil ?_
          intro w2 hw2
          have HB2 := Lib.hid (HW.out.trans ((cellL_size hw2).mono HW.out.size))
          clear hw2
          go_wp2_with fail
          first
            | (go_ret; exact ⟨ret_bool (show false = v from HF.out), HB2.out⟩)
            | (go_roundw
               case rel => exact ⟨0 + 1, by omega, by go_num, HNX.out (by first | rfl | trivial) HF.out, HB2⟩
               case measure => simp [intOf]; omega)
      · subst hj
        obtain ⟨A2, n2, c2, hn2, hr2, t0, t1⟩ := hcell j p hgj
        obtain ⟨Z, hZ⟩ : ∃ Z, p.rep = Z := ⟨_, rfl⟩
        rw [hZ] at t0 hp1 hL
        obtain ⟨p4, P4⟩ : ∃ p, decide (X ≤ Z) = p := ⟨_, rfl⟩
        have hL2 : ((!p1) && ((!p2) && ((!p4) && ((!p5) && (z && upS X (s.drop (j + 1 + 1))))))) = v := by
          rw [hd, upS_bool, hX, hz, ← hn1, upS_later hp1, P1, P2, P4, P5] at hL
          exact hL
        have HNX := Lib.hid (fun (h1 : p1 = false) (h : upS X (s.drop (j + 1 + 1)) = v) => show (j + 1 + 1 = 0 ∧ upS 0 s = v) ∨ ∃ j' p, j + 1 + 1 = j' + 1 ∧ s[j']? = some p ∧ 1 ≤ p.rep ∧ upS p.rep (s.drop (j + 1 + 1)) = v from .inr ⟨j + 1, r, rfl, hg, by rw [h1] at P1; have := of_decide_eq_false P1; omega, by rw [hX]; exact h⟩)
        have HF := Lib.hid hL2
        have hk1 : (0 : Int) ≤ (j : Int) + 1 := by omega
        have hkn1 : (j : Int) + 1 < (n : Int) := by omega
        have hj0 : (0 : Int) ≤ (j : Int) := by omega
        have hjn : (j : Int) < (n : Int) := by omega
        have hjd : decide ((j : Int) < 0) = false := decide_eq_false (by omega)
        have hjg : decide ((0 : Int) < (j : Int) + 1) = true := decide_eq_true (by omega)
        have hjw : IntKind.i64.wrap ((j : Int) + 1 - 1) = (j : Int) := by rw [Int.add_sub_cancel]; exact IntWalk.i64_in _ (by omega)
        have hjw2 : IntKind.i64.wrap (j : Int) = (j : Int) := IntWalk.i64_in _ (by omega)
        have HC := Lib.hid (show CellL wr [(⟨b, o + (j + 1) * 2, none⟩, .int .i64 X), (⟨b, o + (j + 1) * 2 + 1, none⟩, .slice A1 n1 c1), (⟨b, o + j * 2, none⟩, .int .i64 Z)] wr from ⟨q0, q1, t0, Below.refl _ _⟩)
        clear hcell hg hgj hd hX hZ hz hL hL2 HL hr1 hn1 hr2 hn2 q0 q1 t0 t1
        cases p1 <;> cases p2 <;> cases p4 <;> cases p5 <;> cases z
        all_goals
          go_wp2_with fail
          refine q_region (CellL wr [(⟨b, o + (j + 1) * 2, none⟩, .int .i64 X), (⟨b, o + (j + 1) * 2 + 1, none⟩, .slice A1 n1 c1), (⟨b, o + j * 2, none⟩, .int .i64 Z)]) (by kernel_rfl) (by kernel_rfl) (cellL_drew HC.out) ?_
          repeat (first
            | go_big_quiet_skip
            | (go_big_quiet_want; (first
              | (refine q_take (v := ?_) ?_ ?_; rotate_left; (focus (intro w hSw; (try simp only [CellL] at hSw); go_split_ands; go_simp; (try (rw [if_neg (by omega)])); (try with_reducible rfl); done)))
              | (refine q_call (CS.out _) ?_ ?_; (focus (intro w hSw; (try simp only [CellL] at hSw); go_split_ands; go_simp; (try (rw [if_neg (by omega)])); done)))); (try simp only [Act.put, List.setIfInBounds_toArray, List.set_cons_zero, List.set_cons_succ]); go_big_quiet_on))
          refine wpQuiet_nil ?_
          intro w2 hw2
          have HB2 := Lib.hid (HW.out.trans ((cellL_size hw2).mono HW.out.size))
          clear hw2
          go_wp2_with fail
          first
            | (go_ret; exact ⟨ret_bool (show false = v from HF.out), HB2.out⟩)
            | (go_roundw
               case rel => exact ⟨j + 1 + 1, by omega, by go_num, HNX.out (by first | rfl | trivial) HF.out, HB2⟩
               case measure => simp [intOf]; omega)
    · have HF := Lib.hid (show true = v by
        rcases HL.out with ⟨h0, hL⟩ | ⟨j, p, hj, hgj, hp1, hL⟩
        · have : s = [] := List.eq_nil_of_length_eq_zero (by have := HN.out; omega)
          rw [← hL, this]; rfl
        · rw [← hL, List.drop_eq_nil_of_le (by have := HN.out; omega)]; rfl)
      go_wp2_with fail
      go_ret
      exact ⟨ret_bool HF.out, HW.out⟩
end Go.Proofs.Ytfklochgciijkaa

/-
  Layer 15 (know), the document's words: pieces as values; all that knowledge has of a text.
-/
namespace Go.Proofs.Ytfklochgciijkaa
open Go.RowKit

/-- A piece as it lies: its range, and where its set is. -/
structure Ps where
  rng : Rng
  A : Option Addr
  n : Nat
  c : Nat
def psCells (p : Ps) : List Value := [.string (str p.rng.lo), .string (str p.rng.hi), .bool p.rng.op, .slice p.A p.n p.c]
noncomputable def kPs : Kind Try.prog Ps where
  ty := 35
  el := 69
  size := 4
  bytes := 64
  zero := .agg #[.string ⟨#[]⟩, .string ⟨#[]⟩, .bool false, .slice none 0 0]
  cells := psCells
  len := fun _ => rfl
  one := fun r u hu => by simp [psCells] at hu; rcases hu with rfl | rfl | rfl | rfl <;> rfl
  pos := by decide
  under := Try.underlying35
  info := by kernel_rfl
  zsize := rfl
noncomputable def dPc : Deep Try.prog Ps Pc where
  k := kPs
  rel := fun w S b a => b.rng = a.rng ∧ b.n = a.set.length ∧ dKn.Rd w S b.A b.c a.set
  mono := fun h hs => ⟨h.1, h.2.1, h.2.2.mono hs⟩
  lives := fun h => ⟨h.1, h.2.1, h.2.2.lives⟩
  keep := fun h hk => ⟨h.1, h.2.1, h.2.2.keep hk⟩
/-- Where the pieces lie. -/
theorem pieces_of {w : World} {S : Nat → Prop} {A : Option Addr} {c : Nat} {k : List Pc} (h : dPc.Rd w S A c k) (hp : 0 < k.length) :
    ∃ b o, A = some ⟨b, o, none⟩ ∧ b < w.heap.size ∧ ∀ i x, k[i]? = some x → ∃ (A' : Option Addr) (n' c' : Nat), n' = x.set.length ∧ dKn.Rd w S A' c' x.set ∧ w.cell? ⟨b, o + i * 4, none⟩ = some (.string (str x.rng.lo)) ∧ w.cell? ⟨b, o + i * 4 + 1, none⟩ = some (.string (str x.rng.hi)) ∧ w.cell? ⟨b, o + i * 4 + 2, none⟩ = some (.bool x.rng.op) ∧ w.cell? ⟨b, o + i * 4 + 3, none⟩ = some (.slice A' n' c') := by
  obtain ⟨b, o, e1, -, e2, e3⟩ := h.at_ hp
  refine ⟨b, o, e1, e2, fun i x hx => ?_⟩
  obtain ⟨y, ⟨g1, g2, g3⟩, g4⟩ := e3 i x hx
  refine ⟨y.A, y.n, y.c, g2, g3, ?_, ?_, ?_, g4 3 _ rfl⟩
  · rw [← g1]; exact g4 0 _ rfl
  · rw [← g1]; exact g4 1 _ rfl
  · rw [← g1]; exact g4 2 _ rfl
theorem catK_take {k : List Pc} {j : Nat} {x : Pc} (s : List UInt8) (h : k[j]? = some x) : catK (k.take (j + 1)) s = catK (k.take j) s ++ setP x s := by
  rw [List.take_add_one, h, catK_append]
  show _ ++ (setP x s ++ []) = _
  rw [List.append_nil]
theorem catK_part (k : List Pc) (j : Nat) (s : List UInt8) : (catK (k.take j) s).length ≤ (catK k s).length := by
  have h : catK k s = catK (k.take j) s ++ catK (k.drop j) s := by rw [← catK_append, List.take_append_drop]
  rw [h, List.length_append]
  omega
end Go.Proofs.Ytfklochgciijkaa

/-
  Layer 15 (know), the document's words: the ranges of knowledge; has it a version of a text; is it too long to be looked at; are two lists the same.
-/
namespace Go.Proofs.Ytfklochgciijkaa
open Go.RowKit

/-- Knowledge that reads. -/
def RdPc (w : World) (A : Option Addr) (c : Nat) (k : List Pc) : Prop := dPc.Rd w (fun _ => True) A c k
theorem RdPc.call {w w' : World} {A : Option Addr} {c : Nat} {k : List Pc} (h : RdPc w A c k) (hb : Below w.heap.size w w') : RdPc w' A c k := Deep.Rd.call h hb
theorem RdPc.room {w : World} {A : Option Addr} {c : Nat} {k : List Pc} (h : RdPc w A c k) : k.length ≤ c := Deep.Rd.room h
theorem RdPc.max {w : World} {A : Option Addr} {c n : Nat} {k : List Pc} (h : RdPc w A c k) (hn : n = k.length) : n ≤ 9223372036854775807 := Deep.Rd.max h hn
theorem RdPc.at_ {w : World} {A : Option Addr} {c : Nat} {k : List Pc} (h : RdPc w A c k) {i : Nat} {x : Pc} (hx : k[i]? = some x) :
    ∃ (b o : Nat) (A' : Option Addr) (n' c' : Nat) (S T : ByteArray) (q : Bool), A = some ⟨b, o, none⟩ ∧ b < w.heap.size ∧ IsR x.rng S T q ∧ n' = x.set.length ∧ RdK w w.heap.size A' c' x.set ∧
      w.cell? ⟨b, o + i * 4, none⟩ = some (.string S) ∧ w.cell? ⟨b, o + i * 4 + 1, none⟩ = some (.string T) ∧ w.cell? ⟨b, o + i * 4 + 2, none⟩ = some (.bool q) ∧ w.cell? ⟨b, o + i * 4 + 3, none⟩ = some (.slice A' n' c') := by
  obtain ⟨b, o, e1, e2, e3⟩ := pieces_of h (by have := (List.getElem?_eq_some_iff.1 hx).1; omega)
  obtain ⟨A', n', c', h1, h2, h3, h4, h5, h6⟩ := e3 i x hx
  exact ⟨b, o, A', n', c', _, _, _, e1, e2, IsR.mk' x.rng, h1, rdk_of h2, h3, h4, h5, h6⟩
theorem spansP_take {k : List Pc} {j : Nat} {x : Pc} (h : k[j]? = some x) : spansP (k.take (j + 1)) = spansP (k.take j) ++ [x.rng] := by
  unfold spansP
  rw [List.take_add_one, h, List.map_append]; rfl
theorem hasP_cons (p : Pc) (k : List Pc) (s : List UInt8) (v : Vr) : hasP (p :: k) s v = (hasR p.rng s && hasS p.set v || hasP k s v) := rfl
end Go.Proofs.Ytfklochgciijkaa

/-
  Layer 16 (kcode), the document's words: knowledge's bytes.
-/
namespace Go.Proofs.Ytfklochgciijkaa
open Go.RowKit

theorem setB_len {s : List Kn} (h : rightS s = true) (hm : ∀ k ∈ s, k.runs.length ≤ 4096) : (setB s).length ≤ 1300000 := by
  have h1 := rightS_len h
  have h2 := fcd_flat_len knB 80000 s fun y hy => knB_len (smallKn_of h hm y hy)
  have h3 : s.length * 80000 ≤ 16 * 80000 := Nat.mul_le_mul_right _ h1
  have h4 := putV_len10 s.length (by omega)
  unfold setB
  rw [List.length_append]; omega
/-- What is asked of knowledge, so that its bytes are those of the chapter. -/
def smallPc (p : Pc) : Prop := onePc p = true ∧ ∀ x ∈ p.set, x.runs.length ≤ 4096
theorem pieceB_len {p : Pc} (h : smallPc p) : (pieceB p).length ≤ 4000000 := by
  obtain ⟨h1, -, h3⟩ := onePc_iff.1 h.1
  have h4 := setB_len h3 h.2
  have h5 := rngB_len (r := p.rng) ⟨by have := rightR_lo h1; omega, by have := rightR_hi h1; omega⟩
  unfold pieceB
  rw [List.length_append]; omega
theorem own_off {v v' : Value} {G t : Nat} (h : ∀ g, v.ownBlock = some g → g ≠ G) (h3 : v'.ownBlock = v.ownBlock ∨ v'.ownBlock = some t) (ht : G < t) : ∀ g, v'.ownBlock = some g → g ≠ G := fun g hg => by
  rcases h3 with h3 | h3
  · exact h g (h3.symm.trans hg)
  · rw [h3] at hg; injection hg with hg; omega
set_option maxRecDepth 100000 in
set_option maxHeartbeats 8000000 in
theorem ref_kknow (A : Option Addr) (c n : Nat) (l : List Pc) (hn : n = l.length) (hn9 : n ≤ 100000) (hsm : ∀ p ∈ l, smallPc p) (w : World) (hr : RdPc w A c l) :
    Calls Try.prog 18 #[.slice A n c] w (RetB w.heap.size w (knowB l)) := by
  have HR := Lib.hid hr
  have HN := Lib.hid hn
  have HSM := Lib.hid hsm
  have hb := fun w1 => Lib.hid (ref_bytes n n w1 (Nat.le_refl _) (by omega))
  have h9 := putV_len10 n (by omega)
  show Calls _ _ _ _ (RetB w.heap.size w (putV l.length ++ l.flatMap pieceB))
  rw [← hn]
  have hcx : n ≤ c := by rw [hn]; exact hr.room
  clear hr hsm hn
  go_enter Try.func18, Try.ntmps18
  go_wp2_with ((with_reducible refine (hb _).out.mono ?_); rintro e w1 ⟨v1, rfl, hown1, hb1⟩; have HO1 := Lib.hid hown1; have HB1 := Lib.hid hb1; clear hown1 hb1)
  clear hb
  go_loopw [3, 4] (fun v i wr => ∃ k : Nat, k ≤ n ∧ i = .int .i64 k ∧ Hid (OwnB wr w.heap.size v (putV n ++ (l.take k).flatMap pieceB)) ∧ Hid (Below w.heap.size w wr)) (fun _ i _ => n - (intOf i).toNat)
  case atStart => exact ⟨0, by omega, rfl, by rw [List.take_zero, List.flatMap_nil, List.append_nil]; exact HO1, HB1⟩
  case round =>
    obtain ⟨k, hk, rfl, HO, HB⟩ := hrel
    by_cases hlt : k < n
    · obtain ⟨p, hg, -, hmem⟩ := cnt_get (l := l) (k := k) (by have := HN.out; omega)
      obtain ⟨b, o, A', n', c', S, T, q, hA, hb1, hIs, hn', hset, d0, d1, d2, d3⟩ := HR.out.at_ hg
      subst hA
      obtain ⟨hS, hT, hq1⟩ := hIs
      have hsp := HSM.out p hmem
      obtain ⟨p1, -, p3⟩ := onePc_iff.1 hsp.1
      have HX : Hid (putV n ++ (l.take (k + 1)).flatMap pieceB = (putV n ++ (l.take k).flatMap pieceB) ++ pieceB p) := Lib.hid (by rw [fcd_flat_next pieceB hg, List.append_assoc])
      have hm0 : (putV n ++ (l.take k).flatMap pieceB).length ≤ 400000000009 := by
        have := fcd_flat_len pieceB 4000000 (l.take k) (fun x hx => pieceB_len (HSM.out x (take_mem hx)))
        have h2 : (l.take k).length ≤ 100000 := by rw [List.length_take]; omega
        have h3 : (l.take k).length * 4000000 ≤ 100000 * 4000000 := Nat.mul_le_mul_right _ h2
        rw [List.length_append]; omega
      have hm1 := txtB_len (s := p.rng.lo) (by have := rightR_lo p1; omega)
      have hm2 := txtB_len (s := p.rng.hi) (by have := rightR_hi p1; omega)
      have hm3 := setB_len p3 hsp.2
      obtain ⟨M, hM⟩ : ∃ M, putV n ++ (l.take k).flatMap pieceB = M := ⟨_, rfl⟩
      rw [hM] at HO HX hm0
      have D0 := Lib.hid d0
      have D1 := Lib.hid d1
      have D2 := Lib.hid d2
      have D3 := Lib.hid d3
      have c0 := ((bcell HB.out).1 _ _ hb1).trans D0.out
      have c1 := ((bcell HB.out).1 _ _ hb1).trans D1.out
      have c2 := ((bcell HB.out).1 _ _ hb1).trans D2.out
      have TX0 := fun w => Lib.hid (ref_vtext p.rng.lo S hS (by have := rightR_lo p1; omega) w)
      have TX1 := fun w => Lib.hid (ref_vtext p.rng.hi T hT (by have := rightR_hi p1; omega) w)
      have KS := fun w' (h : Below w.heap.size w w') => Lib.hid (ref_kset A' c' n' p.set hn' p3 hsp.2 w' (hset.call h))
      obtain ⟨N0, hN0⟩ : ∃ N0, N0 = (txtB p.rng.lo).length := ⟨_, rfl⟩
      obtain ⟨N1, hN1⟩ : ∃ N1, N1 = (txtB p.rng.hi).length := ⟨_, rfl⟩
      obtain ⟨N2, hN2⟩ : ∃ N2, N2 = (setB p.set).length := ⟨_, rfl⟩
      have HN0 := Lib.hid hN0
      have HN1 := Lib.hid hN1
      have HN2 := Lib.hid hN2
      have HL0 := Lib.hid (show M.length + (txtB p.rng.lo).length ≤ 140737488355328 by omega)
      have hk2 : (0 : Int) ≤ (k : Int) := by omega
      have hkn2 : (k : Int) < (n : Int) := by omega
      have HG := Lib.hid (rgAt_new wr S T q 67)
      have HV := Lib.hid (fun g hg => Nat.ne_of_lt (HO.out.lt g hg).2)
      have HB1 := Lib.hid (HB.out.alloc HB.out.size (.cells #[.string S, .string T, .bool q] 67))
      have HO1 := Lib.hid (HO.out.alloc (.cells #[.string S, .string T, .bool q] 67))
      clear d0 d1 d2 d3 hcx hN0 hN1 hN2 h9 hS hT hn' hset hg hmem hM HO HB
      obtain ⟨g0, g1, g2, g3⟩ := HG.out
      have c3 := ((bcell HB1.out).1 _ _ hb1).trans D3.out
      cases q
      · have HE := Lib.hid (show putV n ++ (l.take (k + 1)).flatMap pieceB = M ++ txtB p.rng.lo ++ [0] ++ txtB p.rng.hi ++ setB p.set by rw [HX.out]; unfold pieceB rngB; rw [hq1]; simp)
        have HL1 := Lib.hid (show (M ++ txtB p.rng.lo).length + [(0 : UInt8)].length ≤ 140737488355328 by rw [List.length_append, List.length_singleton]; omega)
        have HL2 := Lib.hid (show (M ++ txtB p.rng.lo ++ [0]).length + (txtB p.rng.hi).length ≤ 140737488355328 by rw [List.length_append, List.length_append, List.length_singleton]; omega)
        have HL3 := Lib.hid (show (M ++ txtB p.rng.lo ++ [0] ++ txtB p.rng.hi).length + (setB p.set).length ≤ 140737488355328 by rw [List.length_append, List.length_append, List.length_append, List.length_singleton]; omega)
        clear hq1 hm0 hm1 hm2 hm3 p1 p3 hsp
        go_wp2_with (first
          | ((with_reducible refine (TX0 _).out.mono ?_); rintro e w9 ⟨v2, rfl, hown2, hq⟩; replace HO1 := Lib.hid (HO1.out.below hq); replace HG := Lib.hid (HG.out.below hq); replace HB1 := Lib.hid (HB1.out.trans (hq.mono HB1.out.size)); clear g0 g1 g2 g3 c3; obtain ⟨g0, g1, g2, g3⟩ := HG.out; have c3 := ((bcell HB1.out).1 _ _ hb1).trans D3.out; obtain ⟨A2, c_2, rfl, hr2⟩ := hown2.read_n HN0.out; have HR0 := Lib.hid hr2; clear hown2 hq hr2)
          | (at_builtin; have HT9 := Lib.hid HG.out.lt; refine wpList_app_row rfl (.tmp 20) (.tmp 23) rfl w.heap.size _ (M) rfl HO1.out _ _ _ _ (txtB p.rng.lo) HN0.out rfl HR0.out.row HL0.out HB1.out.size ?_; intro v3 w9 hown3 hg3 hb3 hv3; replace HG := Lib.hid (HG.out.grown hg3 (fun h => HV.out _ h.symm rfl)); replace HV := Lib.hid (own_off HV.out hv3 HT9.out); replace HO1 := Lib.hid hown3; replace HB1 := Lib.hid (HB1.out.trans hb3); clear g0 g1 g2 g3 c3; obtain ⟨g0, g1, g2, g3⟩ := HG.out; have c3 := ((bcell HB1.out).1 _ _ hb1).trans D3.out; clear hown3 hg3 hb3 hv3 HT9)
          | (at_builtin; have HT9 := Lib.hid (Nat.lt_succ_of_lt HG.out.lt); refine wpList_app_row rfl (.tmp 30) (.tmp 31) rfl w.heap.size _ (M ++ txtB p.rng.lo) rfl (HO1.out.alloc _) _ _ 1 1 [0] rfl rfl (byte_row _ 0 0 rfl) HL1.out (le_alloc HB1.out.size _) ?_; intro v3 w9 hown3 hg3 hb3 hv3; replace HG := Lib.hid ((HG.out.below (below_new _ _)).grown hg3 (fun h => HV.out _ h.symm rfl)); replace HV := Lib.hid (own_off HV.out hv3 (by have := HT9.out; simp; omega)); replace HO1 := Lib.hid hown3; replace HB1 := Lib.hid ((HB1.out.alloc HB1.out.size _).trans hb3); clear g0 g1 g2 g3 c3; obtain ⟨g0, g1, g2, g3⟩ := HG.out; have c3 := ((bcell HB1.out).1 _ _ hb1).trans D3.out; clear hown3 hg3 hb3 hv3 HT9)
          | ((with_reducible refine (TX1 _).out.mono ?_); rintro e w9 ⟨v2, rfl, hown2, hq⟩; replace HO1 := Lib.hid (HO1.out.below hq); replace HG := Lib.hid (HG.out.below hq); replace HB1 := Lib.hid (HB1.out.trans (hq.mono HB1.out.size)); clear g0 g1 g2 g3 c3; obtain ⟨g0, g1, g2, g3⟩ := HG.out; have c3 := ((bcell HB1.out).1 _ _ hb1).trans D3.out; obtain ⟨A2, c_2, rfl, hr2⟩ := hown2.read_n HN1.out; have HR1 := Lib.hid hr2; clear hown2 hq hr2)
          | (at_builtin; have HT9 := Lib.hid HG.out.lt; refine wpList_app_row rfl (.tmp 33) (.tmp 36) rfl w.heap.size _ (M ++ txtB p.rng.lo ++ [0]) rfl HO1.out _ _ _ _ (txtB p.rng.hi) HN1.out rfl HR1.out.row HL2.out HB1.out.size ?_; intro v3 w9 hown3 hg3 hb3 hv3; replace HG := Lib.hid (HG.out.grown hg3 (fun h => HV.out _ h.symm rfl)); replace HV := Lib.hid (own_off HV.out hv3 HT9.out); replace HO1 := Lib.hid hown3; replace HB1 := Lib.hid (HB1.out.trans hb3); clear g0 g1 g2 g3 c3; obtain ⟨g0, g1, g2, g3⟩ := HG.out; have c3 := ((bcell HB1.out).1 _ _ hb1).trans D3.out; clear hown3 hg3 hb3 hv3 HT9)
          | ((with_reducible refine (KS _ HB1.out).out.mono ?_); rintro e w9 ⟨v2, rfl, hown2, hq⟩; replace HO1 := Lib.hid (HO1.out.below hq); replace HG := Lib.hid (HG.out.below hq); replace HB1 := Lib.hid (HB1.out.trans (hq.mono HB1.out.size)); clear g0 g1 g2 g3 c3; obtain ⟨g0, g1, g2, g3⟩ := HG.out; have c3 := ((bcell HB1.out).1 _ _ hb1).trans D3.out; obtain ⟨A2, c_2, rfl, hr2⟩ := hown2.read_n HN2.out; have HR2 := Lib.hid hr2; clear hown2 hq hr2)
          | (at_builtin; have HT9 := Lib.hid HG.out.lt; refine wpList_app_row rfl (.tmp 38) (.tmp 44) rfl w.heap.size _ (M ++ txtB p.rng.lo ++ [0] ++ txtB p.rng.hi) rfl HO1.out _ _ _ _ (setB p.set) HN2.out rfl HR2.out.row HL3.out HB1.out.size ?_; intro v3 w9 hown3 hg3 hb3 hv3; replace HG := Lib.hid (HG.out.grown hg3 (fun h => HV.out _ h.symm rfl)); replace HV := Lib.hid (own_off HV.out hv3 HT9.out); replace HO1 := Lib.hid hown3; replace HB1 := Lib.hid (HB1.out.trans hb3); clear g0 g1 g2 g3 c3; obtain ⟨g0, g1, g2, g3⟩ := HG.out; have c3 := ((bcell HB1.out).1 _ _ hb1).trans D3.out; clear hown3 hg3 hb3 hv3 HT9))
        go_roundw
        case rel => exact ⟨k + 1, by omega, by go_num, by rw [HE.out]; exact HO1, HB1⟩
        case measure => simp [intOf]; omega
      · have HE := Lib.hid (show putV n ++ (l.take (k + 1)).flatMap pieceB = M ++ txtB p.rng.lo ++ [1] ++ setB p.set by rw [HX.out]; unfold pieceB rngB; rw [hq1]; simp)
        have HL1 := Lib.hid (show (M ++ txtB p.rng.lo).length + [(1 : UInt8)].length ≤ 140737488355328 by rw [List.length_append, List.length_singleton]; omega)
        have HL3 := Lib.hid (show (M ++ txtB p.rng.lo ++ [1]).length + (setB p.set).length ≤ 140737488355328 by rw [List.length_append, List.length_append, List.length_singleton]; omega)
        clear hq1 hm0 hm1 hm2 hm3 p1 p3 hsp
        go_wp2_with (first
          | ((with_reducible refine (TX0 _).out.mono ?_); rintro e w9 ⟨v2, rfl, hown2, hq⟩; replace HO1 := Lib.hid (HO1.out.below hq); replace HG := Lib.hid (HG.out.below hq); replace HB1 := Lib.hid (HB1.out.trans (hq.mono HB1.out.size)); clear g0 g1 g2 g3 c3; obtain ⟨g0, g1, g2, g3⟩ := HG.out; have c3 := ((bcell HB1.out).1 _ _ hb1).trans D3.out; obtain ⟨A2, c_2, rfl, hr2⟩ := hown2.read_n HN0.out; have HR0 := Lib.hid hr2; clear hown2 hq hr2)
          | (at_builtin; have HT9 := Lib.hid HG.out.lt; refine wpList_app_row rfl (.tmp 20) (.tmp 23) rfl w.heap.size _ (M) rfl HO1.out _ _ _ _ (txtB p.rng.lo) HN0.out rfl HR0.out.row HL0.out HB1.out.size ?_; intro v3 w9 hown3 hg3 hb3 hv3; replace HG := Lib.hid (HG.out.grown hg3 (fun h => HV.out _ h.symm rfl)); replace HV := Lib.hid (own_off HV.out hv3 HT9.out); replace HO1 := Lib.hid hown3; replace HB1 := Lib.hid (HB1.out.trans hb3); clear g0 g1 g2 g3 c3; obtain ⟨g0, g1, g2, g3⟩ := HG.out; have c3 := ((bcell HB1.out).1 _ _ hb1).trans D3.out; clear hown3 hg3 hb3 hv3 HT9)
          | (at_builtin; have HT9 := Lib.hid (Nat.lt_succ_of_lt HG.out.lt); refine wpList_app_row rfl (.tmp 27) (.tmp 28) rfl w.heap.size _ (M ++ txtB p.rng.lo) rfl (HO1.out.alloc _) _ _ 1 1 [1] rfl rfl (byte_row _ 1 1 rfl) HL1.out (le_alloc HB1.out.size _) ?_; intro v3 w9 hown3 hg3 hb3 hv3; replace HG := Lib.hid ((HG.out.below (below_new _ _)).grown hg3 (fun h => HV.out _ h.symm rfl)); replace HV := Lib.hid (own_off HV.out hv3 (by have := HT9.out; simp; omega)); replace HO1 := Lib.hid hown3; replace HB1 := Lib.hid ((HB1.out.alloc HB1.out.size _).trans hb3); clear g0 g1 g2 g3 c3; obtain ⟨g0, g1, g2, g3⟩ := HG.out; have c3 := ((bcell HB1.out).1 _ _ hb1).trans D3.out; clear hown3 hg3 hb3 hv3 HT9)
          | ((with_reducible refine (KS _ HB1.out).out.mono ?_); rintro e w9 ⟨v2, rfl, hown2, hq⟩; replace HO1 := Lib.hid (HO1.out.below hq); replace HG := Lib.hid (HG.out.below hq); replace HB1 := Lib.hid (HB1.out.trans (hq.mono HB1.out.size)); clear g0 g1 g2 g3 c3; obtain ⟨g0, g1, g2, g3⟩ := HG.out; have c3 := ((bcell HB1.out).1 _ _ hb1).trans D3.out; obtain ⟨A2, c_2, rfl, hr2⟩ := hown2.read_n HN2.out; have HR2 := Lib.hid hr2; clear hown2 hq hr2)
          | (at_builtin; have HT9 := Lib.hid HG.out.lt; refine wpList_app_row rfl (.tmp 38) (.tmp 44) rfl w.heap.size _ (M ++ txtB p.rng.lo ++ [1]) rfl HO1.out _ _ _ _ (setB p.set) HN2.out rfl HR2.out.row HL3.out HB1.out.size ?_; intro v3 w9 hown3 hg3 hb3 hv3; replace HG := Lib.hid (HG.out.grown hg3 (fun h => HV.out _ h.symm rfl)); replace HV := Lib.hid (own_off HV.out hv3 HT9.out); replace HO1 := Lib.hid hown3; replace HB1 := Lib.hid (HB1.out.trans hb3); clear g0 g1 g2 g3 c3; obtain ⟨g0, g1, g2, g3⟩ := HG.out; have c3 := ((bcell HB1.out).1 _ _ hb1).trans D3.out; clear hown3 hg3 hb3 hv3 HT9))
        go_roundw
        case rel => exact ⟨k + 1, by omega, by go_num, by rw [HE.out]; exact HO1, HB1⟩
        case measure => simp [intOf]; omega
    · obtain rfl : k = n := by omega
      have HT := Lib.hid (show l.take k = l from List.take_of_length_le (by have := HN.out; omega))
      go_wp2_with fail
      go_ret
      exact ⟨_, rfl, by rw [HT.out] at HO; exact HO.out, HB.out⟩
end Go.Proofs.Ytfklochgciijkaa

/-
  What has grown since then: from step to step (one row, one reader, apart).
-/
namespace Go.Proofs.Ytfklochgciijkaa
open Go.RowKit

theorem gb_trans {a w w' : World} {r : Option Nat} (h : a.grownBy w r) (hg : w.grownBy w' r) : a.grownBy w' r :=
  ⟨hg.os.trans h.os, hg.tape.trans h.tape, hg.output.trans h.output, Nat.le_trans h.size hg.size, fun k hk hne => (hg.block k (Nat.lt_of_lt_of_le hk h.size) hne).trans (h.block k hk hne)⟩
theorem gb_below {a w w' : World} {r : Option Nat} {B : Nat} (h : a.grownBy w r) (hb : Below B w w') (hB : a.heap.size ≤ B) : a.grownBy w' r :=
  ⟨hb.os.trans h.os, hb.tape.trans h.tape, hb.output.trans h.output, Nat.le_trans h.size hb.size, fun k hk hne => (hb.block k (Nat.lt_of_lt_of_le hk hB)).trans (h.block k hk hne)⟩
theorem gb_set {a w : World} {r : Option Nat} {g k : Nat} (h : a.grownBy w r) (hg : a.heap.size ≤ g) (u : Value) : a.grownBy (w.setCell ⟨g, k, none⟩ u) r :=
  gb_below h ((Below.refl a.heap.size w).setCell (p := ⟨g, k, none⟩) hg u) (Nat.le_refl _)
theorem gb_alloc {a w : World} {r : Option Nat} (h : a.grownBy w r) (o : Obj) : a.grownBy (w.alloc o) r := gb_below h (below_new w o) h.size
theorem gb_drew {a w : World} {r : Option Nat} (h : a.grownBy w r) : a.grownBy w.drew r := ⟨h.os, h.tape, h.output, h.size, h.block⟩
theorem gb_of_drew {w w' : World} {r : Option Nat} (h : w.drew.grownBy w' r) : w.grownBy w' r := ⟨h.os, h.tape, h.output, h.size, h.block⟩
theorem gb_refl (a : World) (r : Option Nat) : a.grownBy a r := ⟨rfl, rfl, rfl, Nat.le_refl _, fun _ _ _ => rfl⟩
theorem RfAt.under {w w' : World} {m n c a B : Nat} {A : Option Addr} {e : Int} (h : RfAt w m A n c a e) (hb : Below B w w') (hm : m < B) : RfAt w' m A n c a e := (hb.block m hm).trans h
theorem withinR_hi {lo hi : Int} {l r : List UInt8} {e e2 : Int} {n : Nat} (h0 : 0 ≤ hi) (h : withinR lo hi l e = (n, r, e2)) : (n : Int) ≤ hi := by
  unfold withinR at h
  split at h
  · injection h with h _; subst h; exact h0
  · rename_i hc
    rw [h] at hc
    simp only at hc
    omega
theorem numR_hi {l r : List UInt8} {e e2 : Int} {n : Nat} (h : numR l e = (n, r, e2)) : n ≤ 281474976710656 := by have := numR_max l e; rw [h] at this; exact this
end Go.Proofs.Ytfklochgciijkaa

/-
  Layer 16 (kcode), the document's words: a set, read from where a reader stands.
-/
namespace Go.Proofs.Ytfklochgciijkaa
open Go.RowKit

theorem dKn_other {w w' : World} {base m : Nat} {v : Value} {s : List Kn} (h : dKn.Own w base (fun g => base ≤ g) v s) (hg : w.grownBy w' (some m)) (hm : m < base) : dKn.Own w' base (fun g => base ≤ g) v s := by
  obtain ⟨bs, h1, h2⟩ := h
  exact ⟨bs, Kind.Own.other h1 hg hm, h2.keep (keptS_grown hg fun g hS e => by injection e with e; have := hS.1; omega)⟩
/-- A Known in a block. -/
def KnAt (w : World) (g : Nat) (r : Int) (v : Value) : Prop := w.cell? ⟨g, 0, none⟩ = some (.int .i64 r) ∧ w.cell? ⟨g, 1, none⟩ = some v ∧ ∀ k, w.frozen? ⟨g, k, none⟩ = false
theorem KnAt.lt {w : World} {g : Nat} {r : Int} {v : Value} (h : KnAt w g r v) : g < w.heap.size := World.block_lt_of_cell? w _ h.1
theorem KnAt.grown {w w' : World} {row : Option Nat} {g : Nat} {r : Int} {v : Value} (h : KnAt w g r v) (hg : w.grownBy w' row) (hne : some g ≠ row) : KnAt w' g r v :=
  ⟨hg.cell h.1 hne, hg.cell h.2.1 hne, fun k => (hg.frozen_far ⟨g, k, none⟩ h.lt hne).trans (h.2.2 k)⟩
theorem KnAt.under {w w' : World} {B g : Nat} {r : Int} {v : Value} (h : KnAt w g r v) (hb : Below B w w') (hg : g < B) : KnAt w' g r v := by
  obtain ⟨hc, hf⟩ := bcell hb
  exact ⟨(hc _ _ hg).trans h.1, (hc _ _ hg).trans h.2.1, fun k => (hf _ _ hg).trans (h.2.2 k)⟩
theorem KnAt.alloc {w : World} {g : Nat} {r : Int} {v : Value} (h : KnAt w g r v) (o : Obj) : KnAt (w.alloc o) g r v := h.under (below_new w o) h.lt
theorem KnAt.other {w : World} {g g' k : Nat} {r : Int} {v u : Value} (h : KnAt w g r v) (hne : g' ≠ g) : KnAt (w.setCell ⟨g', k, none⟩ u) g r v :=
  ⟨set_other h.1 (addr_block hne) u, set_other h.2.1 (addr_block hne) u, fun j => by rw [World.frozen?_setCell]; exact h.2.2 j⟩
theorem KnAt.set0 {w : World} {g : Nat} {r : Int} {v : Value} (h : KnAt w g r v) (x : Int) : KnAt (w.setCell ⟨g, 0, none⟩ (.int .i64 x)) g x v :=
  ⟨set_same h.1 _, set_other h.2.1 (addr_off (by decide)) _, fun j => by rw [World.frozen?_setCell]; exact h.2.2 j⟩
theorem KnAt.set1 {w : World} {g : Nat} {r : Int} {v : Value} (h : KnAt w g r v) (u : Value) : KnAt (w.setCell ⟨g, 1, none⟩ u) g r u :=
  ⟨set_other h.1 (addr_off (by decide)) _, set_same h.2.1 _, fun j => by rw [World.frozen?_setCell]; exact h.2.2 j⟩
theorem knAt_new (w : World) (r : Int) (v : Value) (t : TypeId) : KnAt (w.alloc (.cells #[.int .i64 r, v] t)) w.heap.size r v := by
  have h := heap_new w (.cells #[.int .i64 r, v] t) _ rfl
  refine ⟨?_, ?_, fun k => ?_⟩
  · rw [cell_of_row _ _ _ _ _ _ h]; rfl
  · rw [cell_of_row _ _ _ _ _ _ h]; rfl
  · unfold World.frozen?; rw [h]; simp
theorem RnAt.set0 {w : World} {g : Nat} {X Y : Int} (h : RnAt w g X Y) (x : Int) : RnAt (w.setCell ⟨g, 0, none⟩ (.int .i64 x)) g x Y :=
  ⟨set_same h.1 _, set_other h.2.1 (addr_off (by decide)) _, fun j => by rw [World.frozen?_setCell]; exact h.2.2 j⟩
theorem RnAt.set1 {w : World} {g : Nat} {X Y : Int} (h : RnAt w g X Y) (y : Int) : RnAt (w.setCell ⟨g, 1, none⟩ (.int .i64 y)) g X y :=
  ⟨set_other h.1 (addr_off (by decide)) _, set_same h.2.1 _, fun j => by rw [World.frozen?_setCell]; exact h.2.2 j⟩
theorem RnAt.other {w : World} {g g' k : Nat} {X Y : Int} {u : Value} (h : RnAt w g X Y) (hne : g' ≠ g) : RnAt (w.setCell ⟨g', k, none⟩ u) g X Y :=
  ⟨set_other h.1 (addr_block hne) u, set_other h.2.1 (addr_block hne) u, fun j => by rw [World.frozen?_setCell]; exact h.2.2 j⟩
theorem rf_number_q {w : World} {m B a N c : Nat} {A : Option Addr} {b l r : List UInt8} {e e2 : Int} {n : Nat} (hN : N = b.length) (hw : numR l e = (n, r, e2)) (hla : l = b.drop a) (h : RfAt w m A N c a e) (hr : RdB w B A c b) (ha : a ≤ N) (hl : N ≤ 1000000) :
    Calls Try.prog 56 #[.pointer (some ⟨m, 0, none⟩)] w (RfQ w m A N c b (.int .i64 n) r e2) := by
  subst hN hla
  have := rf_number h hr ha hl
  rw [hw] at this
  exact this
theorem runsRd_step {m j : Nat} (h : j < m) (W : Int) (l : List UInt8) : runsRd (m - j) W l 0 = ((runRd W l 0).1 :: (runsRd (m - (j + 1)) (runRd W l 0).1.to (runRd W l 0).2.1 (runRd W l 0).2.2).1, (runsRd (m - (j + 1)) (runRd W l 0).1.to (runRd W l 0).2.1 (runRd W l 0).2.2).2) := by
  rw [show m - j = (m - (j + 1)) + 1 by omega, runsRd, if_pos rfl]
theorem runsRd_end (m : Nat) (W : Int) (l : List UInt8) {e : Int} (h : m = 0 ∨ e ≠ 0) : runsRd m W l e = ([], l, e) := by
  cases m with
  | zero => rfl
  | succ m =>
    rcases h with h | h
    · cases h
    · rw [runsRd, if_neg h]
set_option maxRecDepth 100000 in
set_option maxHeartbeats 8000000 in
theorem ref_kreadin (M B a0 N c : Nat) (A : Option Addr) (b l0 r0 : List UInt8) (e0 e2 : Int) (s : List Kn) (hN : N = b.length) (hN9 : N ≤ 1000000) (hs : setRd l0 e0 = (s, r0, e2)) (hla : l0 = b.drop a0) (ha0 : a0 ≤ N) (hB : B ≤ M) (w : World) (hf0 : RfAt w M A N c a0 e0) (hr : RdB w B A c b) :
    Calls Try.prog 40 #[.pointer (some ⟨M, 0, none⟩)] w fun x w' => ∃ v a', x = .returned v ∧ a' ≤ N ∧ r0 = b.drop a' ∧ RfAt w' M A N c a' e2 ∧ w.grownBy w' (some M) ∧ dKn.Own w' w.heap.size (fun g => w.heap.size ≤ g) v s := by
  have hMw := hf0.lt
  have TW := fun (w' : World) (a' : Nat) (l' : List UInt8) (e' : Int) (lo hi : Int) (n : Nat) (r : List UInt8) (x : Int) (hw : withinR lo hi l' e' = (n, r, x)) (hl' : l' = b.drop a') (ha' : a' ≤ N) (hf : RfAt w' M A N c a' e') (hk : w.grownBy w' (some M)) => Lib.hid (rf_within_q hN hw hl' hf (hr.grown hk hB (by omega)) ha' (by omega))
  have TN := fun (w' : World) (a' : Nat) (l' : List UInt8) (e' : Int) (n : Nat) (r : List UInt8) (x : Int) (hw : numR l' e' = (n, r, x)) (hl' : l' = b.drop a') (ha' : a' ≤ N) (hf : RfAt w' M A N c a' e') (hk : w.grownBy w' (some M)) => Lib.hid (rf_number_q hN hw hl' hf (hr.grown hk hB (by omega)) ha' (by omega))
  obtain ⟨n, r1, e1, h1⟩ : ∃ n r1 e1, withinR 0 16 l0 e0 = (n, r1, e1) := ⟨_, _, _, rfl⟩
  have hn16 : n ≤ 16 := by have := withinR_hi (by decide) h1; omega
  have hY : manyR knRd n r1 e1 = (s, r0, e2) := by have := hs; unfold setRd at this; rw [h1] at this; exact this
  have HY0 := Lib.hid hY
  have W1 := Lib.hid (TW w a0 l0 e0 0 16 n r1 e1 h1 hla ha0 hf0 (gb_refl _ _))
  have TW := Lib.hid TW
  have TN := Lib.hid TN
  clear hs hla ha0 hf0 hr hY h1 hN
  go_enter Try.func40, Try.ntmps40
  go_wp2_with ((with_reducible refine W1.out.out.mono ?_); rintro e w2 ⟨rfl, a1, ha1, hla, hrf, hg⟩; have HF := Lib.hid hrf; have HW := Lib.hid hg; have HA := Lib.hid ha1; have HLA := Lib.hid hla; clear hrf hg hla ha1)
  clear W1
  go_loopw [3, 5] (fun v i wr => ∃ (k a : Nat) (e : Int) (dn : List Kn), k ≤ n ∧ i = .int .i64 k ∧ dn.length ≤ k ∧ Hid (a ≤ N) ∧ Hid ((s, r0, e2) = (dn ++ (manyR knRd (n - k) (b.drop a) e).1, (manyR knRd (n - k) (b.drop a) e).2)) ∧ Hid (RfAt wr M A N c a e) ∧ Hid (dKn.Own wr w.heap.size (fun g => w.heap.size ≤ g) v dn) ∧ Hid (w.grownBy wr (some M))) (fun _ i _ => n - (intOf i).toNat)
  case atStart => exact ⟨0, a1, e1, [], by omega, rfl, Nat.le_refl _, HA, by rw [← HLA.out, Nat.sub_zero, HY0.out]; rfl, HF, Deep.Own.nil _ _ _, HW⟩
  case round =>
    clear HF HW HA HLA HY0
    obtain ⟨k, a, e, dn, hk, rfl, hdk, HA, HY, HF, HO, HW⟩ := hrel
    obtain ⟨wz, hwz⟩ : ∃ wz, wz = wr := ⟨_, rfl⟩
    subst hwz
    by_cases hlt : k < n
    · by_cases he : e = 0
      · subst he
        obtain ⟨c0, c1, c2, z0, z1, z2⟩ := HF.out.cells
        obtain ⟨rp, q1, x1, hq1⟩ : ∃ rp q1 x1, withinR 1 16 (b.drop a) 0 = (rp, q1, x1) := ⟨_, _, _, rfl⟩
        obtain ⟨mm, q2, x2, hq2⟩ : ∃ mm q2 x2, withinR 0 4096 q1 x1 = (mm, q2, x2) := ⟨_, _, _, rfl⟩
        obtain ⟨Y2, q5, x5, hY2⟩ : ∃ Y2 q5 x5, runsRd mm 0 q2 x2 = (Y2, q5, x5) := ⟨_, _, _, rfl⟩
        have hmm : mm ≤ 4096 := by have := withinR_hi (by decide) hq2; omega
        have HKR := Lib.hid (show knRd (b.drop a) 0 = (⟨(rp : Int), Y2⟩, q5, x5) by unfold knRd; rw [hq1]; simp only; rw [hq2]; simp only; rw [hY2])
        have HY2 := Lib.hid hY2
        have HMG : M < wz.heap.size := HF.out.lt
        have HMGh := Lib.hid HMG
        have hMne : M ≠ wz.heap.size := Nat.ne_of_lt HMG
        have HF1 := Lib.hid (show RfAt (wz.alloc (.cells #[.int .i64 0, .slice none 0 0] 52)) M A N c a 0 from heap_old (.cells #[.int .i64 0, .slice none 0 0] 52) HF.out)
        have HG1 := Lib.hid (knAt_new wz 0 (.slice none 0 0) 52)
        have HK1 := Lib.hid (gb_alloc (gb_refl wz (some M)) (.cells #[.int .i64 0, .slice none 0 0] 52))
        have HQ1 := Lib.hid hq1
        have HQ2 := Lib.hid hq2
        have HNE := Lib.hid hMne
        clear hq1 hq2 hY2 HMG hMne
        go_wp2_with (first
          | ((with_reducible refine (TW.out _ a _ 0 1 16 rp q1 x1 HQ1.out rfl HA.out HF1.out (gb_trans HW.out HK1.out)).out.mono ?_); rintro e w2 ⟨rfl, a1, ha1, hla, hrf, hg⟩; have HA1 := Lib.hid ha1; have HL1 := Lib.hid hla; have HF2 := Lib.hid (RfAt.far hrf HNE.out (k := 0) (.int .i64 (rp : Int))); have HG0 := Lib.hid (HG1.out.grown hg (fun h => HNE.out (by injection h with h; exact h.symm))); have HG2 := Lib.hid (HG0.out.set0 (rp : Int)); have HK2 := Lib.hid (gb_set (gb_trans HK1.out hg) (Nat.le_refl _) (k := 0) (.int .i64 (rp : Int))); obtain ⟨g0, g1, g2⟩ := HG0.out; clear hla hrf hg ha1 c0 c1 c2 z0 z1 z2)
          | ((with_reducible refine (TW.out _ a1 _ x1 0 4096 mm q2 x2 HQ2.out HL1.out HA1.out HF2.out (gb_trans HW.out HK2.out)).out.mono ?_); rintro e w4 ⟨rfl, a2, ha2, hla, hrf, hg⟩; have HA2 := Lib.hid ha2; have HL2 := Lib.hid hla; have HF3 := Lib.hid hrf; have HG3 := Lib.hid (HG2.out.grown hg (fun h => HNE.out (by injection h with h; exact h.symm))); have HK3 := Lib.hid (gb_trans HK2.out hg); clear hla hrf hg ha2 g0 g1 g2))
        clear HF1 HG1 HK1 HF2 HG0 HG2 HK2 HQ1 HQ2 HA1 HL1
        go_loopw [8, 9] (fun wv i wx => ∃ (j a' : Nat) (e' : Int) (v2 : Value) (d2 : List Rn), j ≤ mm ∧ wv = .int .i64 (wasR 0 d2) ∧ i = .int .i64 j ∧ d2.length ≤ j ∧ 0 ≤ wasR 0 d2 ∧ wasR 0 d2 ≤ (j : Int) * 562949953421312 ∧ Hid (a' ≤ N) ∧ Hid ((Y2, q5, x5) = (d2 ++ (runsRd (mm - j) (wasR 0 d2) (b.drop a') e').1, (runsRd (mm - j) (wasR 0 d2) (b.drop a') e').2)) ∧ Hid (RfAt wx M A N c a' e') ∧ Hid (KnAt wx wz.heap.size (rp : Int) v2) ∧ Hid (kRn.Own wx (wz.heap.size + 1) v2 d2) ∧ Hid (wz.grownBy wx (some M))) (fun _ i _ => mm - (intOf i).toNat)
        case atStart => exact ⟨0, a2, x2, _, [], by omega, rfl, rfl, Nat.le_refl _, Int.le_refl _, by simp [wasR], HA2, by rw [← HL2.out, Nat.sub_zero, show wasR 0 [] = 0 from rfl, HY2.out]; rfl, HF3, HG3, Kind.Own.nil _ _, HK3⟩
        case round =>
          clear HF3 HG3 HK3 HA2 HL2 HY2
          obtain ⟨j, a', e', v2, d2, hj, rfl, rfl, hdj, hw0, hw1, HA2, HY2, HF2, HG2, HR2, HK2⟩ := hrel
          obtain ⟨wy, hwy⟩ : ∃ wy, wy = wr := ⟨_, rfl⟩
          subst hwy
          obtain ⟨c0, c1, c2, z0, z1, z2⟩ := HF2.out.cells
          by_cases hc : j < mm ∧ e' = 0
          · obtain ⟨hjl, rfl⟩ := hc
            obtain ⟨xx, q3, x3, hq3⟩ : ∃ xx q3 x3, numR (b.drop a') 0 = (xx, q3, x3) := ⟨_, _, _, rfl⟩
            obtain ⟨yy, q4, x4, hq4⟩ : ∃ yy q4 x4, numR q3 x3 = (yy, q4, x4) := ⟨_, _, _, rfl⟩
            have hx9 := numR_hi hq3
            have hy9 := numR_hi hq4
            have hRU : runRd (wasR 0 d2) (b.drop a') 0 = (⟨wasR 0 d2 + (xx : Int), wasR 0 d2 + (xx : Int) + (yy : Int)⟩, q4, x4) := by unfold runRd; rw [hq3]; simp only; rw [hq4]
            have HY3 := Lib.hid (show (Y2, q5, x5) = ((d2 ++ [⟨wasR 0 d2 + (xx : Int), wasR 0 d2 + (xx : Int) + (yy : Int)⟩]) ++ (runsRd (mm - (j + 1)) (wasR 0 d2 + (xx : Int) + (yy : Int)) q4 x4).1, (runsRd (mm - (j + 1)) (wasR 0 d2 + (xx : Int) + (yy : Int)) q4 x4).2) by rw [HY2.out, runsRd_step hjl, hRU, List.append_assoc]; rfl)
            obtain ⟨W, hW⟩ : ∃ W, wasR 0 d2 = W := ⟨_, rfl⟩
            rw [hW] at hw0 hw1 HY3 ⊢
            obtain ⟨X, hX⟩ : ∃ X, W + (xx : Int) = X := ⟨_, rfl⟩
            rw [hX] at HY3
            obtain ⟨Z, hZ⟩ : ∃ Z, X + (yy : Int) = Z := ⟨_, rfl⟩
            rw [hZ] at HY3
            have w1' : IntKind.i64.wrap (W + (xx : Int)) = X := by rw [hX]; exact IntWalk.i64_in _ (by omega)
            have w2' : IntKind.i64.wrap (X + (yy : Int)) = Z := by rw [hZ]; exact IntWalk.i64_in _ (by omega)
            have HZ := Lib.hid (show 0 ≤ Z ∧ Z ≤ ((j : Int) + 1) * 562949953421312 by omega)
            have HQ3 := Lib.hid hq3
            have HQ4 := Lib.hid hq4
            have HF5 := Lib.hid (show RfAt (wy.alloc (.cells #[.int .i64 0, .int .i64 0] 49)) M A N c a' 0 from heap_old _ HF2.out)
            have HG5 := Lib.hid (HG2.out.alloc (.cells #[.int .i64 0, .int .i64 0] 49))
            have HH5 := Lib.hid (rnAt_new wy 0 0 49)
            have HR5 := Lib.hid (HR2.out.alloc (.cells #[.int .i64 0, .int .i64 0] 49))
            have HK5 := Lib.hid (gb_alloc HK2.out (.cells #[.int .i64 0, .int .i64 0] 49))
            have HVO := Lib.hid (fun g hg => (HR2.out.lt g hg).2)
            have HGH := Lib.hid HG2.out.lt
            have HMH := Lib.hid HF2.out.lt
            have HDJ := Lib.hid hdj
            clear hq3 hq4 hRU hX hZ hW hw0 hw1 hx9 hy9 HG2 HR2 HK2 HY2 hdj
            go_upto_region 15 with (first
              | ((with_reducible refine (TN.out _ a' _ 0 xx q3 x3 HQ3.out rfl HA2.out HF5.out (gb_trans HW.out HK5.out)).out.mono ?_); rintro e w6 ⟨rfl, a3, ha3, hla, hrf, hg⟩; have HA3 := Lib.hid ha3; have HL3 := Lib.hid hla; have HF6 := Lib.hid hrf; have HG6 := Lib.hid (HG5.out.grown hg (fun h => HNE.out (by injection h with h; exact h.symm))); have HH6 := Lib.hid (HH5.out.grown hg (fun h => by injection h with h; have := HMH.out; omega)); have HR6 := Lib.hid (HR5.out.other hg (Nat.lt_succ_of_lt HMGh.out)); have HK6 := Lib.hid (gb_trans HK5.out hg); obtain ⟨h0, h1, h2⟩ := HH6.out; clear hla hrf hg ha3 c0 c1 c2 z0 z1 z2))
            obtain ⟨w7, hw7⟩ : ∃ w7, w7 = w6.setCell ⟨wy.heap.size, 0, none⟩ (.int .i64 X) := ⟨_, rfl⟩
            have HF7 := Lib.hid (show RfAt w7 M A N c a3 x3 by rw [hw7]; exact HF6.out.far (Nat.ne_of_lt HMH.out) _)
            have HG7 := Lib.hid (show KnAt w7 wz.heap.size (rp : Int) v2 by rw [hw7]; exact HG6.out.other (Ne.symm (Nat.ne_of_lt HGH.out)))
            have HH7 := Lib.hid (show RnAt w7 wy.heap.size X 0 by rw [hw7]; exact HH6.out.set0 X)
            have HR7 := Lib.hid (show kRn.Own w7 (wz.heap.size + 1) v2 d2 by rw [hw7]; exact HR6.out.set_far HVO.out _)
            have HK7 := Lib.hid (show wz.grownBy w7 (some M) by rw [hw7]; exact gb_set HK6.out (Nat.le_of_lt HGH.out) _)
            rw [← hw7]
            clear hw7 h0 h1 h2 HF5 HG5 HH5 HR5 HK5 HF6 HG6 HH6 HR6 HK6
            go_cut [] from 49 to 54 (fun wx => ∃ a4, Hid (a4 ≤ N) ∧ Hid (q4 = b.drop a4) ∧ Hid (RfAt wx M A N c a4 x4) ∧ Hid (KnAt wx wz.heap.size (rp : Int) v2) ∧ Hid (RnAt wx wy.heap.size X Z) ∧ Hid (kRn.Own wx (wz.heap.size + 1) v2 d2) ∧ Hid (wz.grownBy wx (some M)))
            case first =>
              obtain ⟨h0, h1, h2⟩ := HH7.out
              clear HY3 HZ HDJ
              have HF7d := Lib.hid (show RfAt w7.drew M A N c a3 x3 from HF7.out)
              have HK7d := Lib.hid (gb_drew (gb_trans HW.out HK7.out))
              go_region_with ((with_reducible refine (TN.out _ a3 _ x3 yy q4 x4 HQ4.out HL3.out HA3.out HF7d.out HK7d.out).out.mono ?_); rintro e w8 ⟨rfl, a4, ha4, hla, hrf, hg⟩; (try replace hg := gb_of_drew hg); have HA4 := Lib.hid ha4; have HL4 := Lib.hid hla; have HF8 := Lib.hid hrf; have HG8 := Lib.hid (HG7.out.grown hg (fun h => HNE.out (by injection h with h; exact h.symm))); have HH8 := Lib.hid (HH7.out.grown hg (fun h => by injection h with h; have := HMH.out; omega)); have HR8 := Lib.hid (HR7.out.other hg (Nat.lt_succ_of_lt HMGh.out)); have HK8 := Lib.hid (gb_trans HK7.out hg); clear h0 h1 h2; obtain ⟨h0, h1, h2⟩ := HH8.out; clear hla hrf hg ha4)
              all_goals
                go_wp2_with fail
                go_meet
                exact ⟨a4, HA4, HL4, HF8.out.far (Nat.ne_of_lt HMH.out) _, HG8.out.other (Ne.symm (Nat.ne_of_lt HGH.out)), HH8.out.set1 Z, HR8.out.set_far HVO.out _, gb_set HK8.out (Nat.le_of_lt HGH.out) _⟩
            case rest =>
              clear HF7 HG7 HH7 HR7 HK7 HA3 HL3
              obtain ⟨a4, HA4, HL4, HF9, HG9, HH9, HR9, HK9⟩ := hcut
              obtain ⟨g0, g1, g2⟩ := HG9.out
              obtain ⟨h0, h1, h2⟩ := HH9.out
              have HLE := Lib.hid (show d2.length + [(⟨X, Z⟩ : Rn)].length ≤ 1000000 by have := HDJ.out; rw [List.length_singleton]; omega)
              have HBS := Lib.hid (show wz.heap.size + 1 ≤ (wc.alloc (.cells #[.int .i64 X, .int .i64 Z] 49)).heap.size by have := HG9.out.lt; simp; omega)
              have HRW := Lib.hid (rn_row wc X Z)
              obtain ⟨N3, hN3⟩ : ∃ N3, N3 = (d2 ++ [(⟨X, Z⟩ : Rn)]).length := ⟨_, rfl⟩
              have HN3 := Lib.hid hN3
              clear hN3
              go_wp2_with (at_builtin; refine wpList_app_k kRn rfl (.tmp 56) (.tmp 58) rfl (wz.heap.size + 1) v2 d2 rfl (Kind.Own.alloc HR9.out _) _ (some ⟨wc.heap.size, 0, none⟩) 1 1 [⟨X, Z⟩] rfl rfl HRW.out HLE.out (by decide) HBS.out ?_; intro v3 w3 hown3 hg3 hb3 _; obtain ⟨A3, c3, rfl, -⟩ := hown3.read_n HN3.out; have HR10 := Lib.hid hown3; have HF10 := Lib.hid (RfAt.under (show RfAt (wc.alloc _) M A N c a4 x4 from heap_old _ HF9.out) hb3 (Nat.lt_succ_of_lt HMGh.out)); have HG10 := Lib.hid ((HG9.out.alloc _).under hb3 (Nat.lt_succ_self _)); have HH10 := Lib.hid ((HH9.out.below (below_new wc _)).grown hg3 (fun h => Nat.lt_irrefl _ (HVO.out _ h.symm))); have HK10 := Lib.hid (gb_below (gb_alloc HK9.out _) hb3 (Nat.le_succ _)); have HH11 := Lib.hid (HH10.out.other (g' := wz.heap.size) (k := 1) (u := .slice A3 N3 c3) (Nat.ne_of_lt HGH.out)); clear g0 g1 g2 h0 h1 h2; obtain ⟨g0, g1, g2⟩ := HG10.out; obtain ⟨h0, h1, h2⟩ := HH11.out; clear hown3 hg3 hb3)
              have HG11 := Lib.hid (HG10.out.set1 (.slice A3 N3 c3))
              have HF11 := Lib.hid (HF10.out.far (Nat.ne_of_lt HMGh.out) (k := 1) (.slice A3 N3 c3))
              have HR11 := Lib.hid (HR10.out.other (grownBy_set w3 wz.heap.size 1 (.slice A3 N3 c3)) (Nat.lt_succ_self _))
              have HK11 := Lib.hid (gb_set HK10.out (Nat.le_refl _) (k := 1) (.slice A3 N3 c3))
              go_roundw
              case rel => exact ⟨j + 1, a4, x4, _, d2 ++ [⟨X, Z⟩], by omega, by rw [wasR_snoc], by go_num, by have := HDJ.out; rw [List.length_append, List.length_singleton]; omega, by rw [wasR_snoc]; exact HZ.out.1, by rw [wasR_snoc]; have := HZ.out; show Z ≤ _; omega, HA4, by rw [wasR_snoc, ← HL4.out]; exact HY3, HF11, HG11, HR11, HK11⟩
              case measure => simp [intOf]; omega
          · have hor : mm - j = 0 ∨ e' ≠ 0 := by
              by_cases h : j < mm
              · exact .inr fun he => hc ⟨h, he⟩
              · exact .inl (by omega)
            have HE2 := Lib.hid (show (Y2, q5, x5) = (d2, b.drop a', e') by rw [HY2.out, runsRd_end _ _ _ hor, List.append_nil])
            have HK' := Lib.hid (gb_trans HW.out HK2.out)
            have HYN := Lib.hid (show (s, r0, e2) = ((dn ++ [⟨(rp : Int), d2⟩]) ++ (manyR knRd (n - (k + 1)) (b.drop a') e').1, (manyR knRd (n - (k + 1)) (b.drop a') e').2) by
              have h := HE2.out
              injection h with h1 h2
              injection h2 with h2 h3
              rw [HY.out, manyR_step knRd hlt, HKR.out, h1, h2, h3, List.append_assoc]; rfl)
            obtain ⟨bs0, ho0, -⟩ := HO.out
            obtain ⟨bs, hown, hall⟩ := dKn_other HO.out HK2.out hMw
            obtain ⟨N2, hN2⟩ : ∃ N2, N2 = d2.length := ⟨_, rfl⟩
            obtain ⟨A2, k2, rfl, -⟩ := HR2.out.read_n hN2
            have HREL := Lib.hid (holds_new ho0 (HR2.out.mono (Nat.le_succ _)) hN2 HW.out.size (rp : Int))
            have HOW := Lib.hid hown
            have HAL := Lib.hid hall
            have HLE := Lib.hid (show bs.length + [(⟨(rp : Int), A2, N2, k2⟩ : Ks)].length ≤ 1000000 by have := hall.1; rw [List.length_singleton]; omega)
            have HRW := Lib.hid (ks_row wy (rp : Int) A2 N2 k2)
            have HBS := Lib.hid (show w.heap.size ≤ (wy.alloc (.cells #[.int .i64 (rp : Int), .slice A2 N2 k2] 52)).heap.size by have := HK'.out.size; simp; omega)
            have HF9 := Lib.hid (show RfAt (wy.alloc (.cells #[.int .i64 (rp : Int), .slice A2 N2 k2] 52)) M A N c a' e' from heap_old _ HF2.out)
            have HMW := Lib.hid hMw
            obtain ⟨g0, g1, g2⟩ := HG2.out
            clear ho0 hown hall hN2 HY HO HR2 HE2 HKR
            have hgo : (j < mm ∧ (e' == 0) = false) ∨ ¬ j < mm := by
              by_cases h : j < mm
              · exact .inl ⟨h, beq_eq_false_iff_ne.2 fun he => hc ⟨h, he⟩⟩
              · exact .inr h
            clear hc hor
            rcases hgo with ⟨hjl, hne⟩ | hjl
            all_goals
              go_wp2_with (at_builtin; refine wpList_app_k kKs rfl (.tmp 63) (.tmp 65) rfl w.heap.size _ bs rfl (Kind.Own.alloc HOW.out _) _ (some ⟨wy.heap.size, 0, none⟩) 1 1 [⟨(rp : Int), A2, N2, k2⟩] rfl rfl HRW.out HLE.out (by decide) HBS.out ?_; intro v3 w3 hown3 hg3 hb3 hv3; have HO3 := Lib.hid (Deep.Own.app (HAL.out.keep (keptS_below (below_new wy _) _)) (.one (dKn.keep HREL.out (keptS_below (below_new wy _) _))) hown3 hg3 hv3); have HF3 := Lib.hid (HF9.out.under hb3 HMW.out); have HW3 := Lib.hid (gb_below (gb_alloc HK'.out _) hb3 (Nat.le_refl _)); clear hown3 hg3 hb3 hv3)
              go_roundw
              case rel => exact ⟨k + 1, a', e', dn ++ [⟨(rp : Int), d2⟩], by omega, by go_num, by rw [List.length_append, List.length_singleton]; omega, HA2, HYN, HF3, HO3, HW3⟩
              case measure => simp [intOf]; omega
      · have HE := Lib.hid (show (s, r0, e2) = (dn, b.drop a, e) by rw [HY.out, manyR_end knRd _ _ (.inr he), List.append_nil])
        have hne : (e == 0) = false := beq_eq_false_iff_ne.2 he
        obtain ⟨c0, c1, c2, z0, z1, z2⟩ := HF.out.cells
        clear HY he
        go_wp2_with fail
        go_ret
        have h := HE.out
        injection h with h1 h2
        injection h2 with h2 h3
        exact ⟨_, a, rfl, HA.out, h2, by rw [h3]; exact HF.out, HW.out, by rw [h1]; exact HO.out⟩
    · have HE := Lib.hid (show (s, r0, e2) = (dn, b.drop a, e) by rw [HY.out, manyR_end knRd _ _ (.inl (by omega)), List.append_nil])
      clear HY
      go_wp2_with fail
      go_ret
      have h := HE.out
      injection h with h1 h2
      injection h2 with h2 h3
      exact ⟨_, a, rfl, HA.out, h2, by rw [h3]; exact HF.out, HW.out, by rw [h1]; exact HO.out⟩
end Go.Proofs.Ytfklochgciijkaa

/-
  Layer 16 (kcode), the document's words: the set that bytes are, and what is wrong.
-/
namespace Go.Proofs.Ytfklochgciijkaa
open Go.RowKit

/-- A set that was read, and what is wrong. -/
def RetSe (w : World) (x : List Kn × Int) (e : Ending) (w' : World) : Prop := ∃ A c n, e = .returned (.tuple #[.slice A n c, .int .i64 x.2]) ∧ n = x.1.length ∧ RdK w' w'.heap.size A c x.1 ∧ Below w.heap.size w w'
theorem rdK_none (w : World) (B : Nat) : RdK w B none 0 [] := ⟨[], Kind.Rd.nil _ _, rfl, fun i k x hk _ => by cases hk⟩
theorem readS_of {b r0 : List UInt8} {s : List Kn} {e2 x : Int} {v : Bool} (hs : setRd b 0 = (s, r0, e2)) (hx : endR r0 e2 = x) (hv : rightS s = v) : readS b = (if x ≠ 0 then ([], x) else match v with | true => (s, 0) | false => ([], 11)) := by
  obtain ⟨n, r1, e1, h1⟩ : ∃ n r1 e1, withinR 0 16 b 0 = (n, r1, e1) := ⟨_, _, _, rfl⟩
  have h2 : manyR knRd n r1 e1 = (s, r0, e2) := by have := hs; unfold setRd at this; rw [h1] at this; exact this
  exact allR2_of h1 h2 hx hv
set_option maxRecDepth 100000 in
set_option maxHeartbeats 4000000 in
theorem ref_kreads (A : Option Addr) (c N : Nat) (b : List UInt8) (hN : N = b.length) (hN9 : N ≤ 1000000) (w : World) (hr : RdB w w.heap.size A c b) :
    Calls Try.prog 20 #[.slice A N c] w (RetSe w (readS b)) := by
  obtain ⟨s, r0, e2, hs⟩ : ∃ s r0 e2, setRd b 0 = (s, r0, e2) := ⟨_, _, _, rfl⟩
  obtain ⟨x, hx⟩ : ∃ x, endR r0 e2 = x := ⟨_, rfl⟩
  obtain ⟨v, hv⟩ : ∃ v, rightS s = v := ⟨_, rfl⟩
  have HRD := Lib.hid (readS_of hs hx hv)
  have HB0 := Lib.hid (below_new w (.cells #[.slice A N c, .int .i64 0, .int .i64 0] 81))
  have HF0 := Lib.hid (show RfAt (w.alloc (.cells #[.slice A N c, .int .i64 0, .int .i64 0] 81)) w.heap.size A N c 0 0 from heap_new _ _ _ rfl)
  have KR := Lib.hid (ref_kreadin w.heap.size w.heap.size 0 N c A b b r0 0 e2 s hN hN9 hs rfl (Nat.zero_le _) (Nat.le_refl _) _ HF0.out (hr.below HB0.out))
  have EN := fun (w' : World) (a' : Nat) (ha : a' ≤ N) (hl : r0 = b.drop a') (hf : RfAt w' w.heap.size A N c a' e2) => Lib.hid (rf_end_q (b := b) hN hx hl hf ha)
  obtain ⟨n6, hn6⟩ : ∃ n6, n6 = s.length := ⟨_, rfl⟩
  have LR := fun (A6 : Option Addr) (c6 : Nat) (w' : World) (h : RdK w' w'.heap.size A6 c6 s) => Lib.hid (ref_vsright A6 c6 n6 s hn6 v hv w' h)
  have HN6 := Lib.hid hn6
  clear hs hx hv hr hN hn6
  have IN : ∀ g, (w.alloc (.cells #[.slice A N c, .int .i64 0, .int .i64 0] 81)).heap.size ≤ g → w.heap.size ≠ g := fun g hg => by simp at hg; omega
  have IN := Lib.hid IN
  by_cases h0 : x = 0
  · subst h0
    cases v
    case true =>
      have HRE := Lib.hid (show readS b = (s, 0) by rw [HRD.out, if_neg (by decide)])
      clear HRD
      go_enter Try.func20, Try.ntmps20
      go_wp2_with (first
        | ((with_reducible refine KR.out.mono ?_); rintro e w2 ⟨v2, a2, rfl, ha, hl, hf, hg, ho⟩; obtain ⟨A6, c6, rfl, hrd⟩ := Deep.Own.rd ho HN6.out (fun g hg => hg); have HA := Lib.hid ha; have HL := Lib.hid hl; have HF := Lib.hid hf; have HR := Lib.hid hrd; have HB := Lib.hid (below_row HB0.out hg (Nat.le_refl _) HB0.out.size); clear ha hl hf hg ho hrd)
        | ((with_reducible refine (EN _ a2 HA.out HL.out HF.out).out.mono ?_); rintro e w3 ⟨rfl, a3, -, -, -, hg⟩; replace HR := Lib.hid (HR.out.keep (keptS_grown hg fun g hS h => by injection h with h; exact IN.out g hS h)); replace HB := Lib.hid (below_row HB.out hg (Nat.le_refl _) HB.out.size); clear hg)
        | ((with_reducible refine (LR A6 c6 _ (rdk_of HR.out)).out.mono ?_); rintro e w4 ⟨rfl, hq⟩; replace HR := Lib.hid (HR.out.call hq); replace HB := Lib.hid (HB.out.trans (hq.mono HB.out.size)); clear hq))
      go_ret2
      exact ⟨A6, c6, n6, by rw [HRE.out]; rfl, by rw [HRE.out]; exact HN6.out, by rw [HRE.out]; exact rdk_of HR.out, HB.out⟩
    case false =>
      have HRE := Lib.hid (show readS b = ([], 11) by rw [HRD.out, if_neg (by decide)])
      clear HRD
      go_enter Try.func20, Try.ntmps20
      go_wp2_with (first
        | ((with_reducible refine KR.out.mono ?_); rintro e w2 ⟨v2, a2, rfl, ha, hl, hf, hg, ho⟩; obtain ⟨A6, c6, rfl, hrd⟩ := Deep.Own.rd ho HN6.out (fun g hg => hg); have HA := Lib.hid ha; have HL := Lib.hid hl; have HF := Lib.hid hf; have HR := Lib.hid hrd; have HB := Lib.hid (below_row HB0.out hg (Nat.le_refl _) HB0.out.size); clear ha hl hf hg ho hrd)
        | ((with_reducible refine (EN _ a2 HA.out HL.out HF.out).out.mono ?_); rintro e w3 ⟨rfl, a3, -, -, -, hg⟩; replace HR := Lib.hid (HR.out.keep (keptS_grown hg fun g hS h => by injection h with h; exact IN.out g hS h)); replace HB := Lib.hid (below_row HB.out hg (Nat.le_refl _) HB.out.size); clear hg)
        | ((with_reducible refine (LR A6 c6 _ (rdk_of HR.out)).out.mono ?_); rintro e w4 ⟨rfl, hq⟩; replace HR := Lib.hid (HR.out.call hq); replace HB := Lib.hid (HB.out.trans (hq.mono HB.out.size)); clear hq))
      go_ret2
      exact ⟨none, 0, 0, by rw [HRE.out]; rfl, by rw [HRE.out]; rfl, by rw [HRE.out]; exact rdK_none _ _, HB.out⟩
  · have HRE := Lib.hid (show readS b = ([], x) by rw [HRD.out, if_pos h0])
    have hxe : (x == 0) = false := beq_eq_false_iff_ne.2 h0
    clear HRD LR
    go_enter Try.func20, Try.ntmps20
    go_wp2_with (first
      | ((with_reducible refine KR.out.mono ?_); rintro e w2 ⟨v2, a2, rfl, ha, hl, hf, hg, ho⟩; have HA := Lib.hid ha; have HL := Lib.hid hl; have HF := Lib.hid hf; have HB := Lib.hid (below_row HB0.out hg (Nat.le_refl _) HB0.out.size); clear ha hl hf hg ho)
      | ((with_reducible refine (EN _ a3 HA3.out HL3.out HF3.out).out.mono ?_); rintro e w4 ⟨rfl, a4, -, -, -, hg⟩; have HB4 := Lib.hid (below_row HB3.out hg (Nat.le_refl _) HB3.out.size); clear hg)
      | ((with_reducible refine (EN _ a2 HA.out HL.out HF.out).out.mono ?_); rintro e w3 ⟨rfl, a3, ha, hl, hf, hg⟩; have HA3 := Lib.hid ha; have HL3 := Lib.hid hl; have HF3 := Lib.hid hf; have HB3 := Lib.hid (below_row HB.out hg (Nat.le_refl _) HB.out.size); clear ha hl hf hg))
    go_ret2
    exact ⟨none, 0, 0, by rw [HRE.out]; rfl, by rw [HRE.out]; rfl, by rw [HRE.out]; exact rdK_none _ _, HB4.out⟩
end Go.Proofs.Ytfklochgciijkaa

/-
  Layer 15 (know), the document's words: is knowledge too long to be looked at; are two lists the same.
-/
namespace Go.Proofs.Ytfklochgciijkaa
open Go.RowKit

/-- Is a piece too long? -/
def longPc (p : Pc) : Bool := decide (40 < p.rng.lo.length) || decide (40 < p.rng.hi.length) || longV 16 p.set
/-- Is knowledge too long? -/
def longP (m : Nat) (k : List Pc) : Bool := decide (m < k.length) || k.any longPc
set_option maxRecDepth 100000 in
set_option maxHeartbeats 2000000 in
theorem ref_plong (m : Nat) (y : Int) (hy : (m : Int) = y) (hml : m ≤ 1000) (A : Option Addr) (c n : Nat) (k : List Pc) (hn : n = k.length) (v : Bool) (hv : longP m k = v) (w : World) (hr : RdPc w A c k) :
    Calls Try.prog 14 #[.slice A n c, .int .i64 y] w fun e w' => e = .returned (.bool v) ∧ Below w.heap.size w w' := by
  subst hy
  have HN := Lib.hid hn
  have HR := Lib.hid hr
  have hmx := hr.max hn
  have hcx : n ≤ c := by rw [hn]; exact hr.room
  by_cases h1 : m < n
  · have HE : Hid (true = v) := by rw [← hv]; unfold longP; rw [decide_eq_true (by omega)]; rfl
    clear hn hr hv
    go_enter Try.func14, Try.ntmps14
    go_wp2_with fail
    go_ret
    exact ⟨ret_bool HE.out, Below.refl _ _⟩
  · have hdm : decide (m < n) = false := decide_eq_false h1
    have HE : Hid (k.any longPc = v) := by rw [← hv]; unfold longP; rw [decide_eq_false (by omega), Bool.false_or]; rfl
    clear hn hr hv
    go_enter Try.func14, Try.ntmps14
    go_wp2_with fail
    go_loopw [5] (fun i wr => ∃ j : Nat, j ≤ n ∧ Hid ((k.drop j).any longPc = v) ∧ i = .int .i64 j ∧ Hid (Below w.heap.size w wr)) (fun i _ => n - (intOf i).toNat)
    case atStart => exact ⟨0, by omega, HE, rfl, Below.refl _ _⟩
    case round =>
      obtain ⟨j, hj, HL, rfl, HB⟩ := hrel
      by_cases hlt : j < n
      · obtain ⟨p, hg, hd, -⟩ := get_some (l := k) (k := j) (by have := HN.out; omega)
        obtain ⟨b, o, A', n', c', S, T, q, rfl, hb1, ⟨hS, hT, -⟩, hn', hrd, c0, c1, c2, c3⟩ := (HR.out.call HB.out).at_ hg
        have HL2 := Lib.hid (show (longPc p || (k.drop (j + 1)).any longPc) = v from by rw [← List.any_cons, ← hd]; exact HL.out)
        have hz1 : S.size = p.rng.lo.length := by rw [← hS]; exact str_size _
        have hz2 : T.size = p.rng.hi.length := by rw [← hT]; exact str_size _
        have hmx' : n' ≤ c' := by rw [hn']; exact hrd.room
        obtain ⟨d, hd2⟩ : ∃ d, longV 16 p.set = d := ⟨_, rfl⟩
        have C1 := Lib.hid (ref_vlong 16 16 rfl (by omega) A' c' n' p.set hn' d hd2 wr hrd)
        clear hg hd hn' hrd HE hS hT
        by_cases g1 : p.rng.lo.length ≤ 40
        · by_cases g2 : p.rng.hi.length ≤ 40
          · have k1 : S.size ≤ 40 := by omega
            have k2 : T.size ≤ 40 := by omega
            have HE := Lib.hid (show (d || (k.drop (j + 1)).any longPc) = v from by
              rw [← HL2.out]
              unfold longPc
              rw [decide_eq_false (show ¬ 40 < p.rng.lo.length by omega), decide_eq_false (show ¬ 40 < p.rng.hi.length by omega), hd2]; rfl)
            clear hz1 hz2 g1 g2 HL2 hd2
            cases d
            · go_wp2_with ((with_reducible refine C1.out.mono ?_); rintro e w2 ⟨rfl, hq⟩; have HB2 := Lib.hid (HB.out.trans (hq.mono HB.out.size)); clear hq)
              go_roundw
              case rel => exact ⟨j + 1, by omega, HE, by go_num, HB2⟩
              case measure => simp [intOf]; omega
            · go_wp2_with ((with_reducible refine C1.out.mono ?_); rintro e w2 ⟨rfl, hq⟩; have HB2 := Lib.hid (HB.out.trans (hq.mono HB.out.size)); clear hq)
              go_ret
              exact ⟨ret_bool HE.out, HB2.out⟩
          · have k1 : S.size ≤ 40 := by omega
            have k2 : 40 < T.size := by omega
            have HE := Lib.hid (show true = v from by
              rw [← HL2.out]
              unfold longPc
              rw [decide_eq_true (show 40 < p.rng.hi.length by omega), Bool.or_true]; rfl)
            clear hz1 hz2 g1 g2 HL2 hd2 C1
            go_wp2_with fail
            go_ret
            exact ⟨ret_bool HE.out, HB.out⟩
        · have k1 : 40 < S.size := by omega
          have HE := Lib.hid (show true = v from by
            rw [← HL2.out]
            unfold longPc
            rw [decide_eq_true (show 40 < p.rng.lo.length by omega)]; rfl)
          clear hz1 hz2 g1 HL2 hd2 C1
          go_wp2_with fail
          go_ret
          exact ⟨ret_bool HE.out, HB.out⟩
      · have HE2 := Lib.hid (show false = v from by rw [← HL.out, List.drop_eq_nil_of_le (by have := HN.out; omega)]; rfl)
        go_wp2_with fail
        go_ret
        exact ⟨ret_bool HE2.out, HB.out⟩
/-- Are two lists the same, in all their parts? -/
def sameP : List Pc → List Pc → Bool
  | [], [] => true
  | p :: a, q :: b => eqR p.rng q.rng && sameS p.set q.set && sameP a b
  | _, _ => false
theorem sameP_iff : ∀ {a b : List Pc}, sameP a b = true ↔ a = b
  | [], [] => by simp [sameP]
  | [], _ :: _ => by simp [sameP]
  | _ :: _, [] => by simp [sameP]
  | p :: a, q :: b => by
    rw [sameP, Bool.and_eq_true, Bool.and_eq_true, eqR_iff, sameS_iff, sameP_iff (a := a)]
    constructor
    · rintro ⟨⟨h1, h2⟩, h3⟩; rw [pc_ext h1 h2, h3]
    · intro h; injection h with h1 h2; subst h1 h2; exact ⟨⟨rfl, rfl⟩, rfl⟩
theorem sameP_len {a b : List Pc} (h : a.length ≠ b.length) : sameP a b = false := by
  cases hs : sameP a b with
  | false => rfl
  | true => rw [sameP_iff] at hs; subst hs; exact absurd rfl h
set_option maxRecDepth 100000 in
set_option maxHeartbeats 4000000 in
theorem ref_psame (A B : Option Addr) (c d n m : Nat) (a b : List Pc) (hn : n = a.length) (hm : m = b.length) (v : Bool) (hv : sameP a b = v) (w : World) (ha : RdPc w A c a) (hb : RdPc w B d b) :
    Calls Try.prog 19 #[.slice A n c, .slice B m d] w fun e w' => e = .returned (.bool v) ∧ Below w.heap.size w w' := by
  by_cases hnm : n = m
  · subst hnm
    have HN := Lib.hid hn
    have HM := Lib.hid hm
    have HA := Lib.hid ha
    have HB := Lib.hid hb
    have HV := Lib.hid hv
    have hmx := ha.max hn
    have hcx : n ≤ c := by rw [hn]; exact ha.room
    have hcy : n ≤ d := by rw [hm]; exact hb.room
    clear hn hm ha hb hv
    go_enter Try.func19, Try.ntmps19
    go_wp2_with fail
    go_loopw [5] (fun i wr => ∃ k : Nat, k ≤ n ∧ i = .int .i64 k ∧ Hid (sameP (a.drop k) (b.drop k) = v) ∧ Hid (Below w.heap.size w wr)) (fun i _ => n - (intOf i).toNat)
    case atStart => exact ⟨0, by omega, rfl, HV, Below.refl _ _⟩
    case round =>
      obtain ⟨k, hk, rfl, HL, HW⟩ := hrel
      by_cases hlt : k < n
      · obtain ⟨r, hg, hd, -⟩ := get_some (l := a) (k := k) (by have := HN.out; omega)
        obtain ⟨t, hgt, hdt, -⟩ := get_some (l := b) (k := k) (by have := HM.out; omega)
        obtain ⟨b1, o1, A1, n1, c1, S1, T1, q1, rfl, hb1, ⟨hS1, hT1, hq1⟩, hn1, hr1, p0, p1, p2, p3⟩ := (HA.out.call HW.out).at_ hg
        obtain ⟨b2, o2, A2, n2, c2, S2, T2, q2, rfl, hb2, ⟨hS2, hT2, hq2⟩, hn2, hr2, r0, r1, r2, r3⟩ := (HB.out.call HW.out).at_ hgt
        obtain ⟨e, he⟩ : ∃ e, eqR r.rng t.rng = e := ⟨_, rfl⟩
        obtain ⟨f, hf⟩ : ∃ f, sameS r.set t.set = f := ⟨_, rfl⟩
        have hL := HL.out
        rw [hd, hdt, sameP, he, hf] at hL
        have EQ := fun w => eq_rngs r.rng t.rng e he w
        rw [hS1, hT1, hq1, hS2, hT2, hq2] at EQ
        have HR1 := Lib.hid hr1
        have HR2 := Lib.hid hr2
        have CS := Lib.hid (fun (L : List (Addr × Value)) => fun (W : World) (hC : CellL wr L W) => (ref_vsame A1 A2 c1 c2 n1 n2 r.set t.set hn1 hn2 f hf W (HR1.out.call (cellL_size hC)) (HR2.out.call (cellL_size hC))).mono fun (e : Ending) (W' : World) ⟨h1, h2⟩ => (⟨h1, cellL_call h2 hC⟩ : e = Ending.returned (.bool f) ∧ CellL wr L W'))
        have hx1 : n1 ≤ c1 := by rw [hn1]; exact hr1.room
        have hx2 : n2 ≤ c2 := by rw [hn2]; exact hr2.room
        have HC := Lib.hid (show CellL wr [(⟨b1, o1 + k * 4, none⟩, .string S1), (⟨b1, o1 + k * 4 + 1, none⟩, .string T1), (⟨b1, o1 + k * 4 + 2, none⟩, .bool q1), (⟨b1, o1 + k * 4 + 3, none⟩, .slice A1 n1 c1), (⟨b2, o2 + k * 4, none⟩, .string S2), (⟨b2, o2 + k * 4 + 1, none⟩, .string T2), (⟨b2, o2 + k * 4 + 2, none⟩, .bool q2), (⟨b2, o2 + k * 4 + 3, none⟩, .slice A2 n2 c2)] wr from ⟨p0, p1, p2, p3, r0, r1, r2, r3, Below.refl _ _⟩)
        have hk0 : (0 : Int) ≤ (k : Int) := by omega
        have hkn : (k : Int) < (n : Int) := by omega
        have hkd : decide ((k : Int) < 0) = false := decide_eq_false (by omega)
        have HLL := Lib.hid hL
        clear hg hd hgt hdt hS1 hT1 hq1 hS2 hT2 hq2 hn1 hn2 hr1 hr2 p0 p1 p2 p3 r0 r1 r2 r3 he hf hL
        go_wp2_with fail
        cases e
        · have HE := Lib.hid (show false = v from HLL.out)
          refine q_region (CellL wr [(⟨b1, o1 + k * 4, none⟩, .string S1), (⟨b1, o1 + k * 4 + 1, none⟩, .string T1), (⟨b1, o1 + k * 4 + 2, none⟩, .bool q1), (⟨b1, o1 + k * 4 + 3, none⟩, .slice A1 n1 c1), (⟨b2, o2 + k * 4, none⟩, .string S2), (⟨b2, o2 + k * 4 + 1, none⟩, .string T2), (⟨b2, o2 + k * 4 + 2, none⟩, .bool q2), (⟨b2, o2 + k * 4 + 3, none⟩, .slice A2 n2 c2)]) (by kernel_rfl) (by kernel_rfl) (cellL_drew HC.out) ?_
          repeat (first
            | go_big_quiet_skip
            | (go_big_quiet_want; (first
              | (refine q_take (v := ?_) ?_ ?_; rotate_left; (focus (intro w hSw; (try simp only [CellL] at hSw); go_split_ands; go_simp; (try (rw [if_neg (by omega)])); (try with_reducible rfl); done)))
              | (refine q_call (CS.out _) ?_ ?_; (focus (intro w hSw; (try simp only [CellL] at hSw); go_split_ands; go_simp; (try (rw [if_neg (by omega)])); done)))); (try simp only [Act.put, List.setIfInBounds_toArray, List.set_cons_zero, List.set_cons_succ]); go_big_quiet_on))
          refine wpQuiet_nil ?_
          intro w2 hw2
          have HB2 := Lib.hid (HW.out.trans ((cellL_size hw2).mono HW.out.size))
          clear hw2
          go_wp2_with fail
          go_ret
          exact ⟨ret_bool HE.out, HB2.out⟩
        · have HE := Lib.hid (show (f && sameP (a.drop (k + 1)) (b.drop (k + 1))) = v from HLL.out)
          refine q_region (CellL wr [(⟨b1, o1 + k * 4, none⟩, .string S1), (⟨b1, o1 + k * 4 + 1, none⟩, .string T1), (⟨b1, o1 + k * 4 + 2, none⟩, .bool q1), (⟨b1, o1 + k * 4 + 3, none⟩, .slice A1 n1 c1), (⟨b2, o2 + k * 4, none⟩, .string S2), (⟨b2, o2 + k * 4 + 1, none⟩, .string T2), (⟨b2, o2 + k * 4 + 2, none⟩, .bool q2), (⟨b2, o2 + k * 4 + 3, none⟩, .slice A2 n2 c2)]) (by kernel_rfl) (by kernel_rfl) (cellL_drew HC.out) ?_
          repeat (first
            | go_big_quiet_skip
            | (go_big_quiet_want; (first
              | (refine q_take (v := ?_) ?_ ?_; rotate_left; (focus (intro w hSw; (try simp only [CellL] at hSw); go_split_ands; go_simp; (try (rw [if_neg (by omega)])); (try with_reducible rfl); done)))
              | (refine q_call (CS.out _) ?_ ?_; (focus (intro w hSw; (try simp only [CellL] at hSw); go_split_ands; go_simp; (try (rw [if_neg (by omega)])); done)))); (try simp only [Act.put, List.setIfInBounds_toArray, List.set_cons_zero, List.set_cons_succ]); go_big_quiet_on))
          refine wpQuiet_nil ?_
          intro w2 hw2
          have HB2 := Lib.hid (HW.out.trans ((cellL_size hw2).mono HW.out.size))
          clear hw2
          cases f
          · have HE2 := Lib.hid (show false = v from HE.out)
            go_wp2_with fail
            go_ret
            exact ⟨ret_bool HE2.out, HB2.out⟩
          · have HE2 := Lib.hid (show sameP (a.drop (k + 1)) (b.drop (k + 1)) = v from HE.out)
            go_wp2_with fail
            go_roundw
            case rel => exact ⟨k + 1, by omega, by go_num, HE2, HB2⟩
            case measure => simp [intOf]; omega
      · have HE2 := Lib.hid (show true = v from by rw [← HL.out, List.drop_eq_nil_of_le (by have := HN.out; omega), List.drop_eq_nil_of_le (by have := HM.out; omega)]; rfl)
        go_wp2_with fail
        go_ret
        exact ⟨ret_bool HE2.out, HW.out⟩
  · have HE := Lib.hid (show false = v from by rw [← hv, sameP_len (a := a) (b := b) (by omega)])
    have hne : ((n : Int) == (m : Int)) = false := beq_eq_false_iff_ne.2 (by omega)
    have hne2 : ((n : Int) != (m : Int)) = true := by rw [bne, hne]; rfl
    clear hn hm ha hb hnm hv
    go_enter Try.func19, Try.ntmps19
    go_wp2_with fail
    go_ret
    exact ⟨ret_bool HE.out, Below.refl _ _⟩
end Go.Proofs.Ytfklochgciijkaa

/-
  Layer 15 (know), the document's words: is knowledge right?
-/
namespace Go.Proofs.Ytfklochgciijkaa
open Go.RowKit

/-- Is what comes behind a piece right? -/
def rightFP : Option Pc → List Pc → Bool
  | _, [] => true
  | none, r :: l => onePc r && rightFP (some r) l
  | some p, r :: l => onePc r && (gapP p r && rightFP (some r) l)
theorem rightFP_some : ∀ (r : Pc) (l : List Pc), (onePc r && rightFP (some r) l) = rightP (r :: l)
  | r, [] => by simp [rightFP, rightP]
  | r, t :: l => by
    have := rightFP_some t l
    unfold rightFP rightP
    rw [← this]
    cases onePc r <;> cases gapP r t <;> cases onePc t <;> simp
theorem rightFP_none (l : List Pc) : rightFP none l = rightP l := by
  cases l with
  | nil => rfl
  | cons r l => rw [← rightFP_some]; rfl
/-- The piece ahead of place k. -/
def prevPc (l : List Pc) : Nat → Option Pc
  | 0 => none
  | k + 1 => l[k]?
theorem rightFP_no {o : Option Pc} {r : Pc} {l : List Pc} (h : onePc r = false) : rightFP o (r :: l) = false := by cases o <;> simp [rightFP, h]
theorem boxA (w : World) (S T S' T' : ByteArray) (q q' : Bool) : (((w.alloc (.cells #[.string S, .string T, .bool q] 67)).alloc (.cells #[.string S', .string T', .bool q'] 67)).drew).cell? ⟨w.heap.size, 0, none⟩ = some (.string S) ∧ (((w.alloc (.cells #[.string S, .string T, .bool q] 67)).alloc (.cells #[.string S', .string T', .bool q'] 67)).drew).cell? ⟨w.heap.size, 1, none⟩ = some (.string T) ∧ (((w.alloc (.cells #[.string S, .string T, .bool q] 67)).alloc (.cells #[.string S', .string T', .bool q'] 67)).drew).cell? ⟨w.heap.size, 2, none⟩ = some (.bool q) := by
  obtain ⟨a0, a1, a2, -⟩ := rgAt_new w S T q 67
  have K := fun j => (bcell (below_new (w.alloc (.cells #[.string S, .string T, .bool q] 67)) (.cells #[.string S', .string T', .bool q'] 67)).drew).1 w.heap.size j (by simp)
  exact ⟨(K 0).trans a0, (K 1).trans a1, (K 2).trans a2⟩
theorem boxB (w : World) (S T S' T' : ByteArray) (q q' : Bool) : (((w.alloc (.cells #[.string S, .string T, .bool q] 67)).alloc (.cells #[.string S', .string T', .bool q'] 67)).drew).cell? ⟨w.heap.size + 1, 0, none⟩ = some (.string S') ∧ (((w.alloc (.cells #[.string S, .string T, .bool q] 67)).alloc (.cells #[.string S', .string T', .bool q'] 67)).drew).cell? ⟨w.heap.size + 1, 1, none⟩ = some (.string T') ∧ (((w.alloc (.cells #[.string S, .string T, .bool q] 67)).alloc (.cells #[.string S', .string T', .bool q'] 67)).drew).cell? ⟨w.heap.size + 1, 2, none⟩ = some (.bool q') := by
  obtain ⟨a0, a1, a2, -⟩ := rgAt_new (w.alloc (.cells #[.string S, .string T, .bool q] 67)) S' T' q' 67
  rw [size1] at a0 a1 a2
  exact ⟨a0, a1, a2⟩
set_option maxRecDepth 100000 in
set_option maxHeartbeats 16000000 in
theorem ref_pright (A : Option Addr) (c n : Nat) (k : List Pc) (hn : n = k.length) (hl : ∀ p ∈ k, p.rng.lo.length ≤ 1000000 ∧ p.rng.hi.length ≤ 1000000) (v : Bool) (hv : rightP k = v) (w : World) (hr : RdPc w A c k) :
    Calls Try.prog 16 #[.slice A n c] w fun e w' => e = .returned (.bool v) ∧ Below w.heap.size w w' := by
  have HN := Lib.hid hn
  have HR := Lib.hid hr
  have HLN := Lib.hid hl
  have hmx := hr.max hn
  have hcx : n ≤ c := by rw [hn]; exact hr.room
  have HV := Lib.hid (show rightFP (prevPc k 0) (k.drop 0) = v from (rightFP_none k).trans hv)
  clear hn hr hl hv
  go_enter Try.func16, Try.ntmps16
  go_wp2_with fail
  go_loopw [3] (fun i wr => ∃ j : Nat, j ≤ n ∧ Hid (rightFP (prevPc k j) (k.drop j) = v) ∧ i = .int .i64 j ∧ Hid (Below w.heap.size w wr)) (fun i _ => n - (intOf i).toNat)
  case atStart => exact ⟨0, by omega, HV, rfl, Below.refl _ _⟩
  case round =>
    obtain ⟨j, hj, HL, rfl, hb⟩ := hrel
    by_cases hlt : j < n
    · obtain ⟨r, hg, hd, hm⟩ := get_some (l := k) (k := j) (by have := HN.out; omega)
      have HR1 := Lib.hid (HR.out.call hb.out)
      obtain ⟨b, o, A2, n2, c2, S2, T2, q2, rfl, hb1, hIs, hn2, hrd2, r0, r1, r2, r3⟩ := HR1.out.at_ hg
      obtain ⟨d1, hd1⟩ : ∃ d, rightR r.rng = d := ⟨_, rfl⟩
      obtain ⟨d3, hd3⟩ : ∃ d, rightS r.set = d := ⟨_, rfl⟩
      have C1 := fun w => Lib.hid (ref_rright r.rng S2 T2 q2 d1 hIs hd1 w)
      have C3 := fun w h => Lib.hid (ref_vsright A2 c2 n2 r.set hn2 d3 hd3 w h)
      have HRD2 := Lib.hid hrd2
      have hx2 : n2 ≤ c2 := by rw [hn2]; exact hrd2.room
      by_cases hone : onePc r = true
      · obtain rfl : d1 = true := hd1.symm.trans (onePc_iff.1 hone).1
        obtain rfl : d3 = true := hd3.symm.trans (onePc_iff.1 hone).2.2
        have hz : n2 ≠ 0 := fun e => (onePc_iff.1 hone).2.1 (List.eq_nil_of_length_eq_zero (by rw [← hn2]; exact e))
        have hz0 : ((n2 : Int) == 0) = false := beq_eq_false_iff_ne.2 (by omega)
        cases j with
        | zero =>
          have HE := Lib.hid (show rightFP (prevPc k 1) (k.drop 1) = v from by
            rw [← HL.out, hd]
            show rightFP k[0]? _ = rightFP none _
            rw [hg, rightFP, hone]; rfl)
          rw [Nat.zero_mul, Nat.add_zero] at r0 r1 r2 r3
          clear hg hd hm hd1 hd3 hn2 hrd2 hIs hone
          go_wp2_with (first
            | ((with_reducible refine (C1 _).out.mono ?_); rintro e w2 ⟨rfl, hq⟩; replace hb := Lib.hid (hb.out.trans (hq.mono hb.out.size)); replace r3 := ((bcell hq).1 _ _ hb1).trans r3; replace HRD2 := Lib.hid (HRD2.out.call hq); clear hq)
            | ((with_reducible refine (C3 _ HRD2.out).out.mono ?_); rintro e w3 ⟨rfl, hq⟩; replace hb := Lib.hid (hb.out.trans (hq.mono hb.out.size)); clear hq))
          go_roundw
          case rel => exact ⟨1, by omega, HE, rfl, hb⟩
          case measure => simp [intOf]; omega
        | succ i =>
          obtain ⟨p, hp, -, hpm⟩ := get_some (l := k) (k := i) (by have := HN.out; omega)
          obtain ⟨b', o', A1, n1, c1, S1, T1, q1, hbb, hb1', hIs1, hn1, hrd1, p0, p1, p2, p3⟩ := HR1.out.at_ hp
          injection hbb with hbb
          injection hbb with e1 e2
          subst e1 e2
          have HRD1 := Lib.hid hrd1
          have hx1 : n1 ≤ c1 := by rw [hn1]; exact hrd1.room
          have HL2 := Lib.hid (show (gapP p r && rightFP (prevPc k (i + 2)) (k.drop (i + 2))) = v from by
            rw [← HL.out, hd]
            show (_ && rightFP k[i + 1]? _) = rightFP k[i]? _
            rw [hp, hg, rightFP, hone]; rfl)
          obtain ⟨x, hx⟩ : ∃ x, ltB r.rng.lo p.rng.hi = x := ⟨_, rfl⟩
          obtain ⟨y, hy⟩ : ∃ y, (T1.toList == S2.toList) = y := ⟨_, rfl⟩
          obtain ⟨f, hf⟩ : ∃ f, sameS p.set r.set = f := ⟨_, rfl⟩
          have CL := fun w => Lib.hid (less_q r.rng.lo p.rng.hi S2 T1 hIs.1 hIs1.2 (by have := (HLN.out r hm).1; omega) x hx w)
          have CF := fun w h1 h2 => Lib.hid (ref_vsame A1 A2 c1 c2 n1 n2 p.set r.set hn1 hn2 f hf w h1 h2)
          have HGP := Lib.hid (show gapP p r = (!q1 && (!x && !(y && f))) from by
            have e1 : decide (p.rng.hi = r.rng.lo) = y := by
              rw [← hy, ← hIs1.2, ← hIs.1, str_toList, str_toList]
              by_cases h : p.rng.hi = r.rng.lo <;> simp [h]
            have e2 : decide (p.set = r.set) = f := by
              rw [← hf]
              by_cases h : p.set = r.set
              · rw [decide_eq_true h, sameS_iff.2 h]
              · rw [decide_eq_false h]
                cases hs : sameS p.set r.set with
                | false => rfl
                | true => exact absurd (sameS_iff.1 hs) h
            unfold gapP
            rw [hIs1.3, hx, e1, e2])
          have hw1 : IntKind.i64.wrap ((i : Int) + 1 - 1) = (i : Int) := by rw [Int.add_sub_cancel]; exact IntWalk.i64_in _ (by omega)
          have HWR := Lib.hid hw1
          clear hg hd hm hd1 hd3 hn2 hrd2 hIs hone hp hpm hIs1 hn1 hrd1 hx hf hw1
          go_wp2_with (first
            | ((with_reducible refine (C1 _).out.mono ?_); rintro e w2 ⟨rfl, hq⟩; replace hb := Lib.hid (hb.out.trans (hq.mono hb.out.size)); replace r3 := ((bcell hq).1 _ _ hb1).trans r3; replace r0 := ((bcell hq).1 _ _ hb1).trans r0; replace r1 := ((bcell hq).1 _ _ hb1).trans r1; replace r2 := ((bcell hq).1 _ _ hb1).trans r2; replace p3 := ((bcell hq).1 _ _ hb1).trans p3; replace p0 := ((bcell hq).1 _ _ hb1).trans p0; replace p1 := ((bcell hq).1 _ _ hb1).trans p1; replace p2 := ((bcell hq).1 _ _ hb1).trans p2; replace hb1 := Nat.lt_of_lt_of_le hb1 hq.size; replace HRD2 := Lib.hid (HRD2.out.call hq); replace HRD1 := Lib.hid (HRD1.out.call hq); clear hq)
            | ((with_reducible refine (C3 _ HRD2.out).out.mono ?_); rintro e w3 ⟨rfl, hq⟩; replace hb := Lib.hid (hb.out.trans (hq.mono hb.out.size)); replace r3 := ((bcell hq).1 _ _ hb1).trans r3; replace r0 := ((bcell hq).1 _ _ hb1).trans r0; replace r1 := ((bcell hq).1 _ _ hb1).trans r1; replace r2 := ((bcell hq).1 _ _ hb1).trans r2; replace p3 := ((bcell hq).1 _ _ hb1).trans p3; replace p0 := ((bcell hq).1 _ _ hb1).trans p0; replace p1 := ((bcell hq).1 _ _ hb1).trans p1; replace p2 := ((bcell hq).1 _ _ hb1).trans p2; replace hb1 := Nat.lt_of_lt_of_le hb1 hq.size; replace HRD2 := Lib.hid (HRD2.out.call hq); replace HRD1 := Lib.hid (HRD1.out.call hq); clear hq))
          have hw1 := HWR.out
          have hi0 : (0 : Int) ≤ (i : Int) := by omega
          have hin : (i : Int) < (n : Int) := by omega
          have hin1 : (i : Int) + 1 < (n : Int) := by omega
          have hit : ((i : Int) + 1).toNat = i + 1 := by omega
          have hw2 : IntKind.i64.wrap ((i : Int) + 1) = (i : Int) + 1 := IntWalk.i64_in _ (by omega)
          go_region
          · obtain ⟨WX, hWX⟩ : ∃ WX, ((w3.alloc (.cells #[.string S1, .string T1, .bool q1] 67)).alloc (.cells #[.string S2, .string T2, .bool q2] 67)).drew = WX := ⟨_, rfl⟩
            have hbX : Below w3.heap.size w3 WX := hWX ▸ (((below_new w3 (.cells #[.string S1, .string T1, .bool q1] 67)).alloc (by simp) (.cells #[.string S2, .string T2, .bool q2] 67)).drew)
            obtain ⟨g0, g1, g2⟩ : WX.cell? ⟨w3.heap.size, 0, none⟩ = some (.string S1) ∧ WX.cell? ⟨w3.heap.size, 1, none⟩ = some (.string T1) ∧ WX.cell? ⟨w3.heap.size, 2, none⟩ = some (.bool q1) := hWX ▸ boxA w3 _ _ _ _ _ _
            obtain ⟨h0, h1, h2⟩ : WX.cell? ⟨w3.heap.size + 1, 0, none⟩ = some (.string S2) ∧ WX.cell? ⟨w3.heap.size + 1, 1, none⟩ = some (.string T2) ∧ WX.cell? ⟨w3.heap.size + 1, 2, none⟩ = some (.bool q2) := hWX ▸ boxB w3 _ _ _ _ _ _
            rw [hWX]
            replace r3 := ((bcell hbX).1 _ _ hb1).trans r3
            replace p3 := ((bcell hbX).1 _ _ hb1).trans p3
            replace hb := Lib.hid (hb.out.trans (hbX.mono hb.out.size))
            replace HRD1 := Lib.hid (HRD1.out.call hbX)
            replace HRD2 := Lib.hid (HRD2.out.call hbX)
            have HC := Lib.hid (show CellL WX [(⟨w3.heap.size, 0, none⟩, .string S1), (⟨w3.heap.size, 1, none⟩, .string T1), (⟨w3.heap.size, 2, none⟩, .bool q1), (⟨w3.heap.size + 1, 0, none⟩, .string S2), (⟨w3.heap.size + 1, 1, none⟩, .string T2), (⟨w3.heap.size + 1, 2, none⟩, .bool q2), (⟨b, o + i * 4 + 3, none⟩, .slice A1 n1 c1), (⟨b, o + (i + 1) * 4 + 3, none⟩, .slice A2 n2 c2)] WX from ⟨g0, g1, g2, h0, h1, h2, p3, r3, Below.refl _ _⟩)
            have CLX := Lib.hid (fun (L : List (Addr × Value)) => fun (W : World) (hC : CellL WX L W) => ((CL W).out).mono fun (e : Ending) (W' : World) ⟨h1, n, h2⟩ => (⟨h1, cellL_call (h2 ▸ below_drewN (Below.refl _ _) n) hC⟩ : e = Ending.returned (.bool x) ∧ CellL WX L W'))
            have CFX := Lib.hid (fun (L : List (Addr × Value)) => fun (W : World) (hC : CellL WX L W) => ((CF W (HRD1.out.call (cellL_size hC)) (HRD2.out.call (cellL_size hC))).out).mono fun (e : Ending) (W' : World) ⟨h1, h2⟩ => (⟨h1, cellL_call h2 hC⟩ : e = Ending.returned (.bool f) ∧ CellL WX L W'))
            clear hWX hbX g0 g1 g2 h0 h1 h2 p0 p1 p2 p3 r0 r1 r2 r3 hw2 C1 C3 CL CF
            have hid : decide ((i : Int) < 0) = false := decide_eq_false (by omega)
            have hid1 : decide ((i : Int) + 1 < 0) = false := decide_eq_false (by omega)
            have hi10 : (0 : Int) ≤ (i : Int) + 1 := by omega
            have hwi : IntKind.i64.wrap (i : Int) = (i : Int) := IntWalk.i64_in _ (by omega)
            go_wp2_with fail
            cases q1
            case' false =>
              cases x
              case' false =>
                cases y
                case' true =>
                  cases f
            all_goals
              refine q_region (CellL WX _) (by kernel_rfl) (by kernel_rfl) (cellL_drew HC.out) ?_
              repeat (first
                | go_big_quiet_skip
                | (go_big_quiet_want; (first
                  | (refine q_take (v := ?_) ?_ ?_; rotate_left; (focus (intro w hSw; (try simp only [CellL] at hSw); go_split_ands; go_simp; (try (rw [if_neg (by omega)])); (try with_reducible rfl); done)))
                  | (refine q_call (CLX.out _) ?_ ?_; (focus (intro w hSw; (try simp only [CellL] at hSw); go_split_ands; go_simp; (try (rw [if_neg (by omega)])); done)))
                  | (refine q_call (CFX.out _) ?_ ?_; (focus (intro w hSw; (try simp only [CellL] at hSw); go_split_ands; go_simp; (try (rw [if_neg (by omega)])); done)))); (try simp only [Act.put, List.setIfInBounds_toArray, List.set_cons_zero, List.set_cons_succ]); go_big_quiet_on))
              refine wpQuiet_nil ?_
              intro w4 hw4
              have HB4 := Lib.hid (hb.out.trans ((cellL_size hw4).mono hb.out.size))
              clear hw4
              go_wp2_with fail
            all_goals first
              | (have HE := Lib.hid (show rightFP (prevPc k (i + 2)) (k.drop (i + 2)) = v from by rw [← HL2.out, HGP.out]; rfl)
                 go_roundw
                 case rel => exact ⟨i + 2, by omega, HE, by go_num, HB4⟩
                 case measure => simp [intOf]; omega)
              | (have HE := Lib.hid (show false = v from by rw [← HL2.out, HGP.out]; rfl)
                 go_ret
                 exact ⟨ret_bool HE.out, HB4.out⟩)
          · obtain ⟨WX, hWX⟩ : ∃ WX, ((w3.alloc (.cells #[.string S2, .string T2, .bool q2] 67)).alloc (.cells #[.string S1, .string T1, .bool q1] 67)).drew = WX := ⟨_, rfl⟩
            have hbX : Below w3.heap.size w3 WX := hWX ▸ (((below_new w3 (.cells #[.string S2, .string T2, .bool q2] 67)).alloc (by simp) (.cells #[.string S1, .string T1, .bool q1] 67)).drew)
            obtain ⟨g0, g1, g2⟩ : WX.cell? ⟨w3.heap.size + 1, 0, none⟩ = some (.string S1) ∧ WX.cell? ⟨w3.heap.size + 1, 1, none⟩ = some (.string T1) ∧ WX.cell? ⟨w3.heap.size + 1, 2, none⟩ = some (.bool q1) := hWX ▸ boxB w3 _ _ _ _ _ _
            obtain ⟨h0, h1, h2⟩ : WX.cell? ⟨w3.heap.size, 0, none⟩ = some (.string S2) ∧ WX.cell? ⟨w3.heap.size, 1, none⟩ = some (.string T2) ∧ WX.cell? ⟨w3.heap.size, 2, none⟩ = some (.bool q2) := hWX ▸ boxA w3 _ _ _ _ _ _
            rw [hWX]
            replace r3 := ((bcell hbX).1 _ _ hb1).trans r3
            replace p3 := ((bcell hbX).1 _ _ hb1).trans p3
            replace hb := Lib.hid (hb.out.trans (hbX.mono hb.out.size))
            replace HRD1 := Lib.hid (HRD1.out.call hbX)
            replace HRD2 := Lib.hid (HRD2.out.call hbX)
            have HC := Lib.hid (show CellL WX [(⟨w3.heap.size + 1, 0, none⟩, .string S1), (⟨w3.heap.size + 1, 1, none⟩, .string T1), (⟨w3.heap.size + 1, 2, none⟩, .bool q1), (⟨w3.heap.size, 0, none⟩, .string S2), (⟨w3.heap.size, 1, none⟩, .string T2), (⟨w3.heap.size, 2, none⟩, .bool q2), (⟨b, o + i * 4 + 3, none⟩, .slice A1 n1 c1), (⟨b, o + (i + 1) * 4 + 3, none⟩, .slice A2 n2 c2)] WX from ⟨g0, g1, g2, h0, h1, h2, p3, r3, Below.refl _ _⟩)
            have CLX := Lib.hid (fun (L : List (Addr × Value)) => fun (W : World) (hC : CellL WX L W) => ((CL W).out).mono fun (e : Ending) (W' : World) ⟨h1, n, h2⟩ => (⟨h1, cellL_call (h2 ▸ below_drewN (Below.refl _ _) n) hC⟩ : e = Ending.returned (.bool x) ∧ CellL WX L W'))
            have CFX := Lib.hid (fun (L : List (Addr × Value)) => fun (W : World) (hC : CellL WX L W) => ((CF W (HRD1.out.call (cellL_size hC)) (HRD2.out.call (cellL_size hC))).out).mono fun (e : Ending) (W' : World) ⟨h1, h2⟩ => (⟨h1, cellL_call h2 hC⟩ : e = Ending.returned (.bool f) ∧ CellL WX L W'))
            clear hWX hbX g0 g1 g2 h0 h1 h2 p0 p1 p2 p3 r0 r1 r2 r3 hw2 C1 C3 CL CF
            have hid : decide ((i : Int) < 0) = false := decide_eq_false (by omega)
            have hid1 : decide ((i : Int) + 1 < 0) = false := decide_eq_false (by omega)
            have hi10 : (0 : Int) ≤ (i : Int) + 1 := by omega
            have hwi : IntKind.i64.wrap (i : Int) = (i : Int) := IntWalk.i64_in _ (by omega)
            go_wp2_with fail
            cases q1
            case' false =>
              cases x
              case' false =>
                cases y
                case' true =>
                  cases f
            all_goals
              refine q_region (CellL WX _) (by kernel_rfl) (by kernel_rfl) (cellL_drew HC.out) ?_
              repeat (first
                | go_big_quiet_skip
                | (go_big_quiet_want; (first
                  | (refine q_take (v := ?_) ?_ ?_; rotate_left; (focus (intro w hSw; (try simp only [CellL] at hSw); go_split_ands; go_simp; (try (rw [if_neg (by omega)])); (try with_reducible rfl); done)))
                  | (refine q_call (CLX.out _) ?_ ?_; (focus (intro w hSw; (try simp only [CellL] at hSw); go_split_ands; go_simp; (try (rw [if_neg (by omega)])); done)))
                  | (refine q_call (CFX.out _) ?_ ?_; (focus (intro w hSw; (try simp only [CellL] at hSw); go_split_ands; go_simp; (try (rw [if_neg (by omega)])); done)))); (try simp only [Act.put, List.setIfInBounds_toArray, List.set_cons_zero, List.set_cons_succ]); go_big_quiet_on))
              refine wpQuiet_nil ?_
              intro w4 hw4
              have HB4 := Lib.hid (hb.out.trans ((cellL_size hw4).mono hb.out.size))
              clear hw4
              go_wp2_with fail
            all_goals first
              | (have HE := Lib.hid (show rightFP (prevPc k (i + 2)) (k.drop (i + 2)) = v from by rw [← HL2.out, HGP.out]; rfl)
                 go_roundw
                 case rel => exact ⟨i + 2, by omega, HE, by go_num, HB4⟩
                 case measure => simp [intOf]; omega)
              | (have HE := Lib.hid (show false = v from by rw [← HL2.out, HGP.out]; rfl)
                 go_ret
                 exact ⟨ret_bool HE.out, HB4.out⟩)
      · have HE := Lib.hid (show false = v from by rw [← HL.out, hd, rightFP_no (by simpa using hone)])
        have hno : d1 = false ∨ n2 = 0 ∨ d3 = false := by
          rw [onePc_iff, hd1, hd3] at hone
          cases d1
          · exact .inl rfl
          · cases d3
            · exact .inr (.inr rfl)
            · refine .inr (.inl ?_)
              rw [hn2]
              cases hs : r.set with
              | nil => rfl
              | cons x l => exact absurd ⟨rfl, by rw [hs]; simp, rfl⟩ hone
        have HB := Lib.hid (Below.refl wr.heap.size wr)
        clear hd hm hd1 hd3 hn2 hrd2 hIs hone
        cases d1
        · go_wp2_with ((with_reducible refine (C1 _).out.mono ?_); rintro e w2 ⟨rfl, hq⟩; have hb2 := Lib.hid (hb.out.trans (hq.mono hb.out.size)); clear hq)
          go_ret
          exact ⟨ret_bool HE.out, hb2.out⟩
        · by_cases hz : n2 = 0
          · subst hz
            clear hno
            go_wp2_with ((with_reducible refine (C1 _).out.mono ?_); rintro e w2 ⟨rfl, hq⟩; have hb2 := Lib.hid (hb.out.trans (hq.mono hb.out.size)); replace r3 := ((bcell hq).1 _ _ hb1).trans r3; clear hq)
            go_ret
            exact ⟨ret_bool HE.out, hb2.out⟩
          · obtain rfl : d3 = false := by rcases hno with h | h | h; cases h; exact absurd h hz; exact h
            clear hno
            have hz0 : ((n2 : Int) == 0) = false := beq_eq_false_iff_ne.2 (by omega)
            go_wp2_with (first
              | ((with_reducible refine (C1 _).out.mono ?_); rintro e w2 ⟨rfl, hq⟩; replace hb := Lib.hid (hb.out.trans (hq.mono hb.out.size)); replace r3 := ((bcell hq).1 _ _ hb1).trans r3; replace HRD2 := Lib.hid (HRD2.out.call hq); clear hq)
              | ((with_reducible refine (C3 _ HRD2.out).out.mono ?_); rintro e w3 ⟨rfl, hq⟩; replace hb := Lib.hid (hb.out.trans (hq.mono hb.out.size)); clear hq))
            go_ret
            exact ⟨ret_bool HE.out, hb.out⟩
    · have HE := Lib.hid (show true = v from by rw [← HL.out, List.drop_eq_nil_of_le (by have := HN.out; omega)]; cases prevPc k j <;> rfl)
      go_wp2_with fail
      go_ret
      exact ⟨ret_bool HE.out, hb.out⟩
end Go.Proofs.Ytfklochgciijkaa

/-
  Layer 15 (know), the document's words: what is meant of a text.
-/
namespace Go.Proofs.Ytfklochgciijkaa
open Go.RowKit

/-- Knowledge that is short enough. -/
structure CapP (k : List Pc) : Prop where
  len : k.length ≤ 8000
  all : ∀ s, (catK k s).length ≤ 900000
  runs : ∀ s r, (runsV (catK k s) r).length ≤ 20000
theorem CapP.nil : CapP [] := ⟨by simp, fun _ => by simp [catK], fun _ _ => by simp [catK, runsV]⟩
theorem ofS_short (s : List Kn) (r : Int) : (runsV (ofS s) r).length ≤ (runsV s r).length := makeS1_runs s [] r
theorem CapP.at_ {k : List Pc} (h : CapP k) (s : List UInt8) (r : Int) : (runsV (atK k s) r).length ≤ 20000 := Nat.le_trans (ofS_short _ r) (h.runs s r)
theorem RetKF.more {w0 w w' : World} {N : Nat} {s : List Kn} {e : Ending} (h : RetKF w N s e w') (hb : Below w0.heap.size w0 w) : RetKF w0 N s e w' := by
  obtain ⟨A, c, h1, h2, h3⟩ := h
  exact ⟨A, c, h1, h2.mono fun g hg => Nat.le_trans hb.size hg, hb.trans (h3.mono hb.size)⟩
end Go.Proofs.Ytfklochgciijkaa

/-
  Layer 15 (know): a list made at edges, edge by edge, as a program goes: what lies in its list at each edge. No program in this text.
-/
namespace Go.Proofs.Ytfklochgciijkaa

/-- Where what has begun ends for now: at the edge k, or nowhere. -/
def edgeK (E : List (List UInt8)) (k : Nat) : List UInt8 × Bool := match E[k]? with
  | some e => (e, false)
  | none => ([], true)
theorem edgeK_some {E : List (List UInt8)} {k : Nat} {e : List UInt8} (h : E[k]? = some e) : edgeK E k = (e, false) := by unfold edgeK; rw [h]
theorem edgeK_none {E : List (List UInt8)} {k : Nat} (h : E.length ≤ k) : edgeK E k = ([], true) := by unfold edgeK; rw [List.getElem?_eq_none h]
/-- The piece that has begun, ended for now. -/
def pendP (o : Option (List UInt8 × List Kn)) (h : List UInt8 × Bool) : List Pc := match o with
  | none => []
  | some (lo, S) => [⟨⟨lo, h.1, h.2⟩, S⟩]
/-- What holds from edge to edge. -/
structure MkSt (f : List UInt8 → List Kn) (E : List (List UInt8)) (k : Nat) (dn : List Pc) (o : Option (List UInt8 × List Kn)) : Prop where
  eq : mkP f E none = dn ++ mkP f (E.drop k) o
  past : ∀ p ∈ dn, p.rng.op = false ∧ p.rng.hi ∈ E.take k
  begun : ∀ lo S, o = some (lo, S) → S ≠ []
  len : dn.length + (match o with | none => 0 | some _ => 1) ≤ k
theorem MkSt.start (f : List UInt8 → List Kn) (E : List (List UInt8)) : MkSt f E 0 [] none := ⟨rfl, fun p h => (by cases h), fun lo S h => (by cases h), Nat.le_refl _⟩
theorem take_next {E : List (List UInt8)} {k : Nat} {e : List UInt8} (h : E[k]? = some e) : ∀ x, x ∈ E.take k ∨ x = e → x ∈ E.take (k + 1) := fun x hx => by
  rw [List.take_add_one, h, List.mem_append]
  rcases hx with hx | rfl
  · exact .inl hx
  · exact .inr (by simp)
theorem drop_now {E : List (List UInt8)} {k : Nat} {e : List UInt8} (h : E[k]? = some e) : E.drop k = e :: E.drop (k + 1) := by
  obtain ⟨h1, rfl⟩ := List.getElem?_eq_some_iff.1 h
  exact List.drop_eq_getElem_cons h1
section
variable {f : List UInt8 → List Kn} {E : List (List UInt8)} {k : Nat} {dn : List Pc} {e lo : List UInt8} {S : List Kn}
theorem MkSt.out (h : MkSt f E k dn none) (he : E[k]? = some e) (hf : f e = []) : MkSt f E (k + 1) dn none :=
  ⟨by rw [h.eq, drop_now he, mkP_none_no hf], fun p hp => ⟨(h.past p hp).1, take_next he _ (.inl (h.past p hp).2)⟩, h.begun, by have := h.len; simp at this ⊢; omega⟩
theorem MkSt.off (h : MkSt f E k dn (some (lo, S))) (he : E[k]? = some e) (hf : f e = []) : MkSt f E (k + 1) (dn ++ [⟨⟨lo, e, false⟩, S⟩]) none := by
  have hS := h.begun lo S rfl
  refine ⟨?_, fun p hp => ?_, fun lo S h => (by cases h), by have := h.len; simp at this ⊢; omega⟩
  · rw [h.eq, drop_now he, mkP_end (by rw [hf]; exact fun e => hS e.symm), mkP_none_no hf, List.append_assoc]; rfl
  · rcases List.mem_append.1 hp with hp | hp
    · exact ⟨(h.past p hp).1, take_next he _ (.inl (h.past p hp).2)⟩
    · rw [List.mem_singleton] at hp
      subst hp
      exact ⟨rfl, take_next he _ (.inr rfl)⟩
theorem MkSt.new (h : MkSt f E k dn none) (he : E[k]? = some e) (hf : f e ≠ []) : MkSt f E (k + 1) dn (some (e, f e)) :=
  ⟨by rw [h.eq, drop_now he, mkP_none_yes hf], fun p hp => ⟨(h.past p hp).1, take_next he _ (.inl (h.past p hp).2)⟩, fun lo S h => by
    injection h with h; injection h with h1 h2; subst h2; exact hf, by have := h.len; simp at this ⊢; omega⟩
theorem MkSt.stay (h : MkSt f E k dn (some (lo, S))) (he : E[k]? = some e) (hf : f e = S) : MkSt f E (k + 1) dn (some (lo, S)) :=
  ⟨by rw [h.eq, drop_now he, mkP_on hf], fun p hp => ⟨(h.past p hp).1, take_next he _ (.inl (h.past p hp).2)⟩, h.begun, by have := h.len; simp at this ⊢; omega⟩
theorem MkSt.turn (h : MkSt f E k dn (some (lo, S))) (he : E[k]? = some e) (hf : f e ≠ []) (hne : f e ≠ S) : MkSt f E (k + 1) (dn ++ [⟨⟨lo, e, false⟩, S⟩]) (some (e, f e)) := by
  refine ⟨?_, fun p hp => ?_, fun lo S h => ?_, by have := h.len; simp at this ⊢; omega⟩
  · rw [h.eq, drop_now he, mkP_end hne, mkP_none_yes hf, List.append_assoc]; rfl
  · rcases List.mem_append.1 hp with hp | hp
    · exact ⟨(h.past p hp).1, take_next he _ (.inl (h.past p hp).2)⟩
    · rw [List.mem_singleton] at hp
      subst hp
      exact ⟨rfl, take_next he _ (.inr rfl)⟩
  · injection h with h; injection h with h1 h2; subst h2; exact hf
end
theorem MkSt.done {f : List UInt8 → List Kn} {E : List (List UInt8)} {k : Nat} {dn : List Pc} {o : Option (List UInt8 × List Kn)} (h : MkSt f E k dn o) (hk : E.length ≤ k) : mkP f E none = dn ++ pendP o (edgeK E k) := by
  rw [h.eq, List.drop_eq_nil_of_le hk, edgeK_none hk]
  match o with
  | none => rfl
  | some (lo, S) => rfl
theorem rising_pairs : ∀ {l : List (List UInt8)} {c : List UInt8}, risingB c l = true → l.Pairwise fun a b => ltB a b = true
  | [], _, _ => List.Pairwise.nil
  | x :: l, c, h => by
    obtain ⟨_, h2⟩ := rising_head h
    exact List.pairwise_cons.2 ⟨fun y hy => rising_all h2 y hy, rising_pairs h2⟩
theorem edges_new {E : List (List UInt8)} (h : EdgesOk E) {k : Nat} {e : List UInt8} (he : E[k]? = some e) : e ∉ E.take k := by
  obtain ⟨m, rfl, h1, _⟩ := h
  have hp : ([] :: m).Pairwise fun a b => ltB a b = true := List.pairwise_cons.2 ⟨fun y hy => rising_all h1 y hy, rising_pairs h1⟩
  intro hm
  obtain ⟨i, hi, hie⟩ := List.getElem_of_mem hm
  rw [List.length_take] at hi
  rw [List.getElem_take] at hie
  obtain ⟨hk, rfl⟩ := List.getElem?_eq_some_iff.1 he
  have := List.pairwise_iff_getElem.1 hp i k (by omega) hk (by omega)
  rw [hie, ltB_irrefl] at this
  cases this
/-- The last of what is done ends ahead of this edge. -/
theorem MkSt.last {f : List UInt8 → List Kn} {E : List (List UInt8)} {k : Nat} {dn : List Pc} {o : Option (List UInt8 × List Kn)} (h : MkSt f E k dn o) (hE : EdgesOk E) {e : List UInt8} (he : E[k]? = some e) {p : Pc} (hp : p ∈ dn) : p.rng.op = false ∧ p.rng.hi ≠ e :=
  ⟨(h.past p hp).1, fun h2 => edges_new hE he (h2 ▸ (h.past p hp).2)⟩
section
variable {f : List UInt8 → List Kn} {E : List (List UInt8)} {k : Nat} {dn dq : List Pc} {o : Option (List UInt8 × List Kn)} {e : List UInt8} {K : List Kn} {p : Pc}
/-- What stands last in the list at an edge. -/
theorem MkSt.shape (h : MkSt f E k dn o) (hE : EdgesOk E) (he : E[k]? = some e) (hl : dn ++ pendP o (edgeK E k) = dq ++ [p]) :
    p.rng.op = false ∧ ((o = none ∧ dn = dq ++ [p] ∧ p.rng.hi ≠ e) ∨ ∃ lo S, o = some (lo, S) ∧ dq = dn ∧ p = ⟨⟨lo, e, false⟩, S⟩) := by
  match o with
  | none =>
    have hl : dn ++ [] = dq ++ [p] := hl
    rw [List.append_nil] at hl
    have := h.last hE he (p := p) (by rw [hl]; simp)
    exact ⟨this.1, .inl ⟨rfl, hl, this.2⟩⟩
  | some (lo, S) =>
    rw [edgeK_some he] at hl
    have hl : dn ++ [⟨⟨lo, e, false⟩, S⟩] = dq ++ [p] := hl
    obtain ⟨h1, h2⟩ := List.append_inj' hl rfl
    injection h2 with h2
    subst h1 h2
    exact ⟨rfl, .inr ⟨lo, S, rfl, rfl, rfl⟩⟩
theorem MkSt.app (h : MkSt f E k dn o) (he : E[k]? = some e) (hK : f e = K) (hK0 : K ≠ []) (hno : ∀ dq p, dn ++ pendP o (edgeK E k) = dq ++ [p] → ¬ (p.rng.hi = e ∧ p.set = K)) :
    ∃ dn2, MkSt f E (k + 1) dn2 (some (e, K)) ∧ (dn ++ pendP o (edgeK E k)) ++ [⟨⟨e, (edgeK E (k + 1)).1, (edgeK E (k + 1)).2⟩, K⟩] = dn2 ++ pendP (some (e, K)) (edgeK E (k + 1)) := by
  subst hK
  match o with
  | none => exact ⟨dn, h.new he hK0, by show (dn ++ []) ++ _ = dn ++ _; rw [List.append_nil]; rfl⟩
  | some (lo, S) =>
    rw [edgeK_some he] at hno ⊢
    have hne : f e ≠ S := fun e1 => hno dn ⟨⟨lo, e, false⟩, S⟩ rfl ⟨rfl, e1.symm⟩
    exact ⟨_, h.turn he hK0 hne, rfl⟩
theorem MkSt.ext (h : MkSt f E k dn o) (hE : EdgesOk E) (he : E[k]? = some e) (hK : f e = K) (hl : dn ++ pendP o (edgeK E k) = dq ++ [p]) (h1 : p.rng.hi = e) (h2 : p.set = K) :
    ∃ dn2 q, MkSt f E (k + 1) dn2 q ∧ dq ++ [⟨⟨p.rng.lo, (edgeK E (k + 1)).1, (edgeK E (k + 1)).2⟩, p.set⟩] = dn2 ++ pendP q (edgeK E (k + 1)) := by
  obtain ⟨_, hs⟩ := h.shape hE he hl
  rcases hs with ⟨_, _, hne⟩ | ⟨lo, S, rfl, rfl, rfl⟩
  · exact absurd h1 hne
  · exact ⟨_, _, h.stay he (hK.trans h2.symm), rfl⟩
end
end Go.Proofs.Ytfklochgciijkaa

/-
  Layer 15 (know), the document's words: the right list of what is meant.
-/
namespace Go.Proofs.Ytfklochgciijkaa
open Go.RowKit

/-- What a call hands back: knowledge that reads. -/
def RetP (w : World) (N : Nat) (k : List Pc) (e : Ending) (w' : World) : Prop := ∃ A c, e = .returned (.slice A N c) ∧ RdPc w' A c k ∧ Below w.heap.size w w'
/-- .. all of it new. -/
def RetPF (w : World) (N : Nat) (k : List Pc) (e : Ending) (w' : World) : Prop := ∃ A c, e = .returned (.slice A N c) ∧ dPc.Rd w' (fun g => w.heap.size ≤ g) A c k ∧ Below w.heap.size w w'
theorem RetPF.to {w w' : World} {N : Nat} {k : List Pc} {e : Ending} (h : RetPF w N k e w') : RetP w N k e w' := by
  obtain ⟨A, c, h1, h2, h3⟩ := h
  exact ⟨A, c, h1, Deep.Rd.all h2, h3⟩
/-- Knowledge in a row of the call's own. -/
def OwnPF (w : World) (base : Nat) (v : Value) (k : List Pc) : Prop := dPc.Own w base (fun g => base ≤ g) v k
theorem OwnPF.below {w w' : World} {base : Nat} {v : Value} {k : List Pc} (h : OwnPF w base v k) (hb : Below w.heap.size w w') : OwnPF w' base v k := Deep.Own.below h hb
theorem OwnPF.read_n {w : World} {base n : Nat} {v : Value} {k : List Pc} (h : OwnPF w base v k) (hn : n = k.length) : ∃ A c, v = .slice A n c ∧ RdPc w A c k := by
  obtain ⟨A, c, e, hr⟩ := Deep.Own.rd h hn fun _ h => h
  exact ⟨A, c, e, Deep.Rd.all hr⟩
/-- .. all of it new. -/
theorem OwnPF.read_f {w : World} {base n : Nat} {v : Value} {k : List Pc} (h : OwnPF w base v k) (hn : n = k.length) : ∃ A c, v = .slice A n c ∧ dPc.Rd w (fun g => base ≤ g) A c k := Deep.Own.rd h hn fun _ h => h
theorem OwnPF.lt {w : World} {base g n c : Nat} {k : List Pc} (h : OwnPF w base (.slice (some ⟨g, 0, none⟩) n c) k) : base ≤ g ∧ g < w.heap.size := Deep.Own.lt h g rfl
/-- .. which may hold what was there. -/
def OwnP (w : World) (base : Nat) (v : Value) (k : List Pc) : Prop := dPc.Own w base (fun _ => True) v k
theorem OwnP.below {w w' : World} {base : Nat} {v : Value} {k : List Pc} (h : OwnP w base v k) (hb : Below w.heap.size w w') : OwnP w' base v k := Deep.Own.below h hb
theorem OwnP.read_n {w : World} {base n : Nat} {v : Value} {k : List Pc} (h : OwnP w base v k) (hn : n = k.length) : ∃ A c, v = .slice A n c ∧ RdPc w A c k := Deep.Own.rd h hn fun _ _ => trivial
theorem OwnP.lt {w : World} {base g n c : Nat} {k : List Pc} (h : OwnP w base (.slice (some ⟨g, 0, none⟩) n c) k) : base ≤ g ∧ g < w.heap.size := Deep.Own.lt h g rfl
/-- A piece more. -/
theorem piece_row (w : World) (p : Ps) : RowAt (w.alloc (.cells #[.string (str p.rng.lo), .string (str p.rng.hi), .bool p.rng.op, .slice p.A p.n p.c] 69)) (w.heap.size + 1) (some ⟨w.heap.size, 0, none⟩) (kPs.row [p]) := (Kind.rd_new (k := kPs) (l := [p]) rfl rfl (by simp)).row
theorem own_lastP {w : World} {base g n c D : Nat} {dn : List Pc} {p : Pc} (h : OwnPF w base (.slice (some ⟨g, 0, none⟩) n c) (dn ++ [p])) (hn : n = (dn ++ [p]).length) (hD : dn.length = D) (x : List UInt8) (T : ByteArray) (hT : str x = T) (q : Bool) :
    OwnPF ((w.setCell ⟨g, D * 4 + 1, none⟩ (.string T)).setCell ⟨g, D * 4 + 2, none⟩ (.bool q)) base (.slice (some ⟨g, 0, none⟩) n c) (dn ++ [⟨⟨p.rng.lo, x, q⟩, p.set⟩]) := by
  subst hD hT
  obtain ⟨bs, h1, h2⟩ := h
  have hnb : n = bs.length := hn.trans h2.1.symm
  have hDl : dn.length < bs.length := by rw [h2.1, List.length_append, List.length_singleton]; omega
  obtain ⟨b, hb⟩ : ∃ b, bs[dn.length]? = some b := ⟨_, List.getElem?_eq_getElem hDl⟩
  have g1 : (dn ++ [p])[dn.length]? = some p := by rw [List.getElem?_append_right (Nat.le_refl _), Nat.sub_self]; rfl
  have hrel := h2.2 _ _ _ hb g1
  obtain ⟨e1, e2, e3⟩ := hrel
  have k1 := Kind.Own.stored (k := kPs) h1 (j := 1) (y := ⟨⟨b.rng.lo, x, b.rng.op⟩, b.A, b.n, b.c⟩) (v := .string (str x)) hnb hb (by decide) rfl
  have k2 := Kind.Own.stored (k := kPs) k1 (i := dn.length) (j := 2) (x := ⟨⟨b.rng.lo, x, b.rng.op⟩, b.A, b.n, b.c⟩) (y := ⟨⟨b.rng.lo, x, q⟩, b.A, b.n, b.c⟩) (v := .bool q) (by rw [hnb, List.length_set]) (by rw [List.getElem?_set_self hDl]) (by decide) rfl
  rw [List.set_set] at k2
  have hkeep : KeptS (fun g' => (base ≤ g' ∧ (Value.slice (some ⟨g, 0, none⟩) n c).ownBlock ≠ some g')) w ((w.setCell ⟨g, dn.length * 4 + 1, none⟩ (.string (str x))).setCell ⟨g, dn.length * 4 + 2, none⟩ (.bool q)) := fun a ha _ => by
    have hne : g ≠ a.block := fun e => ha.2 (by rw [← e]; rfl)
    rw [World.cell?_setCell_other _ _ _ _ (fun e => hne (by rw [← e])), World.cell?_setCell_other _ _ _ _ (fun e => hne (by rw [← e]))]
  have h3 := Deep.All.keep h2 hkeep
  refine ⟨_, k2, ?_, fun i b' a' hb' ha' => ?_⟩
  · rw [List.length_set, h2.1, List.length_append, List.length_append]; rfl
  · by_cases hi : i = dn.length
    · subst hi
      rw [List.getElem?_set_self hDl] at hb'
      rw [List.getElem?_append_right (Nat.le_refl _), Nat.sub_self] at ha'
      injection hb' with hb'
      injection ha' with ha'
      subst hb' ha'
      obtain ⟨f1, f2, f3⟩ := h3.2 _ _ _ hb g1
      exact ⟨by rw [f1], f2, f3⟩
    · rw [List.getElem?_set_ne (fun e => hi e.symm)] at hb'
      refine h3.2 i b' a' hb' ?_
      by_cases hl : i < dn.length
      · rw [List.getElem?_append_left hl] at ha' ⊢; exact ha'
      · rw [List.getElem?_append_right (by omega)] at ha'
        exfalso
        obtain ⟨m, hm⟩ : ∃ m, i - dn.length = m + 1 := ⟨i - dn.length - 1, by omega⟩
        rw [hm] at ha'
        cases ha'
/-- Where the last piece lies. -/
theorem own_atP {w : World} {base g n c D : Nat} {dq : List Pc} {p : Pc} (h : OwnPF w base (.slice (some ⟨g, 0, none⟩) n c) (dq ++ [p])) (hn : n = (dq ++ [p]).length) (hD : dq.length = D) :
    ∃ (A' : Option Addr) (n' c' : Nat) (T : ByteArray), str p.rng.hi = T ∧ n' = p.set.length ∧ RdK w w.heap.size A' c' p.set ∧ w.cell? ⟨g, D * 4 + 1, none⟩ = some (.string T) ∧ w.cell? ⟨g, D * 4 + 2, none⟩ = some (.bool p.rng.op) ∧ w.cell? ⟨g, D * 4 + 3, none⟩ = some (.slice A' n' c') ∧ ∀ j, w.frozen? ⟨g, j, none⟩ = false := by
  subst hD
  obtain ⟨bs, h1, h2⟩ := h
  have hnb : n = bs.length := hn.trans h2.1.symm
  have hDl : dq.length < bs.length := by rw [h2.1, List.length_append, List.length_singleton]; omega
  obtain ⟨b, hb⟩ : ∃ b, bs[dq.length]? = some b := ⟨_, List.getElem?_eq_getElem hDl⟩
  have g1 : (dq ++ [p])[dq.length]? = some p := by rw [List.getElem?_append_right (Nat.le_refl _), Nat.sub_self]; rfl
  obtain ⟨e1, e2, e3⟩ := h2.2 _ _ _ hb g1
  obtain ⟨-, -, hf, hc⟩ := h1.at_g hnb (by omega)
  refine ⟨b.A, b.n, b.c, str b.rng.hi, by rw [e1], e2, rdk_of e3, hc _ b hb 1 _ rfl, ?_, hc _ b hb 3 _ rfl, hf⟩
  rw [← e1]
  exact hc _ b hb 2 _ rfl
theorem piece_row_n (w : World) (x h : List UInt8) (X T : ByteArray) (hX : str x = X) (hT : str h = T) (q : Bool) (A : Option Addr) (n c : Nat) :
    RowAt (w.alloc (.cells #[.string X, .string T, .bool q, .slice A n c] 69)) (w.heap.size + 1) (some ⟨w.heap.size, 0, none⟩) (kPs.row [⟨⟨x, h, q⟩, A, n, c⟩]) := by
  subst hX hT
  exact piece_row w ⟨⟨x, h, q⟩, A, n, c⟩
end Go.Proofs.Ytfklochgciijkaa
