/-
  Several texts in one: RetO, StepB, VrOne, VrB, MaxAt, Sys, Law12A, VrC, ItpA, IcpA, IcpB, IcpC.
-/
import Derived.Deep.RegionLaw
import Derived.Lib.LaidTab
import Derived.Lib.ItoaNum
import Derived.Deep.CutRange
import Derived.BigRegion
import Derived.Deep.RegionHeld3
import Derived.Handy
import Derived.Test.YtfpgklpnpplnnaaMg8
namespace Go.Proofs.Ytfpgklpnpplnnaa
open Go.RowKit

def RetO1 (w : World) (N : Nat) (l : List UInt8) (e : Ending) (w' : World) : Prop := ∃ A c, e = .returned (.slice A N c) ∧ OwnB w' w.heap.size (.slice A N c) l ∧ RdB w' w'.heap.size A c l ∧ Below w.heap.size w w'
theorem retO1_of {w w' : World} {N : Nat} {l : List UInt8} {v : Value} (hN : N = l.length) (ho : OwnB w' w.heap.size v l) (hb : Below w.heap.size w w') : RetO1 w N l (.returned v) w' := by
  obtain ⟨A, c, rfl, hr⟩ := ho.read_n hN
  exact ⟨A, c, rfl, ho, hr, hb⟩
theorem RdB.drew {w : World} {A : Option Addr} {c : Nat} {l : List UInt8} (h : RdB w w.heap.size A c l) : RdB w.drew w.drew.heap.size A c l := ⟨h.row, h.room, h.cap⟩
theorem rdB_call {w w' : World} {A : Option Addr} {c : Nat} {l : List UInt8} (h : RdB w w.heap.size A c l) (hb : Below w.heap.size w w') : RdB w' w'.heap.size A c l := ⟨(h.row.below hb).more hb.size, h.room, h.cap⟩
theorem okL_alli {l : List Int} (h : okL l = true) : AllI64 l := fun x hx => by
  have := List.all_eq_true.1 h x hx
  simp [okN] at this
  omega
theorem okL_one {n : Nat} (h : n ≤ 281474976710656) : okL [(n : Int)] = true := by simp [okL, okN]; omega
theorem int_row (w : World) (n : Nat) : RowAt (w.alloc (.cells #[.int .i64 n] 3)) (w.heap.size + 1) (some ⟨w.heap.size, 0, none⟩) (ints [(n : Int)]) := RowAt.of_block (heap_new w _ _ rfl)
theorem fcd_str_row (w : World) (s : List UInt8) (S : ByteArray) (h : str s = S) : RowAt (w.alloc (.cells #[.string S] 9)) (w.heap.size + 1) (some ⟨w.heap.size, 0, none⟩) (strs [s]) := by
  subst h
  exact RowAt.of_block (heap_new w _ _ rfl)
theorem str_row2 (w : World) (s t : List UInt8) (S T : ByteArray) (h : str s = S) (g : str t = T) : RowAt (w.alloc (.cells #[.string S, .string T] 9)) (w.heap.size + 1) (some ⟨w.heap.size, 0, none⟩) (strs [s, t]) := by
  subst h g
  exact RowAt.of_block (heap_new w _ _ rfl)
theorem textsV_one (s : List UInt8) : textsV [s] = txtB s := by simp [textsV, txtB]
theorem txtB_len9 (s : List UInt8) (h : s.length ≤ 100000) : (txtB s).length ≤ s.length + 9 := by
  have := putV_len10 s.length (by omega)
  unfold txtB
  rw [List.length_append]
  omega
theorem fcd_texts (A A2 : Option Addr) (c N n2 : Nat) (b : List UInt8) (hN : N = b.length) (l : List (List UInt8)) (hn2 : n2 = l.length) (h9 : n2 ≤ 9) (M : Nat) (R : List UInt8) (hR : b ++ textsV l = R) (hM : M = R.length) (hl : M ≤ 1000000) (w : World) (hr : RdB w w.heap.size A c b) (h2 : RowAt w w.heap.size A2 (strs l)) :
    Calls Try.prog 40 #[.slice A N c, .slice A2 n2 n2] w (RetO1 w M R) := by
  subst hN hR
  rw [List.length_append] at hM
  exact (varint_text A c w.heap.size b A2 n2 n2 l w hn2 (by omega) hr h2 (Nat.le_refl _) (by omega)).mono fun e w' ⟨v, he, h, hb⟩ => he ▸ retO1_of (by rw [List.length_append]; exact hM) h hb
end Go.Proofs.Ytfpgklpnpplnnaa

namespace Go.Proofs.Ytfpgklpnpplnnaa
open Go.RowKit

theorem step_app_b {ops : Array Oper} {w : World} {o : Oper} {a : Act} {K : Act → World → Prop} {Q : Exit → Act → World → Prop} {E : Prop} (hgd : o.guard = none) (s x : Operand)
    (ho : o.op = .call { callee := .builtin .append, args := #[s, x], argTypes := #[29, 29] })
    (base : Nat) (v : Value) (xs : List UInt8) (hs : a.eval s = v) (hown : OwnB w base v xs)
    (B : Nat) (A : Option Addr) (c n : Nat) (ys : List UInt8) (hn : n = ys.length) (hx : a.eval x = .slice A n c) (hr : RowAt w B A (bytes ys)) (hlen : xs.length + ys.length ≤ 140737488355328) (hbase : base ≤ w.heap.size)
    (h : ∀ v' w', OwnB w' base v' (xs ++ ys) → w.grownBy w' v.ownBlock → Below base w w' → (v'.ownBlock = v.ownBlock ∨ v'.ownBlock = some w.heap.size) → K (a.put o.dst v') w') :
    if Region.wanted o (yielded ops a.tmps) = true then Oper.wp Try.prog o a w K Q else E := by
  rw [if_pos (by simp [Region.wanted, hgd])]
  obtain ⟨i0, hi0, hz0, hz1, hz2⟩ := info_parts byte_info
  subst hn
  refine wp_append_row w s x _ ho base 5 i0 _ 1 1 Try.underlying29 hi0 hz0 hz1 hz2 rfl Nat.one_pos v xs.length (bytes xs) hs hown.row B A ys.length c (bytes ys) hx (bytes_len ys) hr (bytes_one ys) (by unfold maxLen; omega) (by omega) hbase fun v' w' h1 h2 h3 => ?_
  refine h v' w' ?_ h2 ((Below.refl _ _).grown h2 hbase (fun g hg => (World.ownsRow.lt hown.row g hg).1)) h3
  rw [bytes_append] at h1
  exact OwnB.of_row h1
end Go.Proofs.Ytfpgklpnpplnnaa

namespace Go.Proofs.Ytfpgklpnpplnnaa
open Go.RowKit

def VRightC (F : FuncId) : Prop := ∀ (v : Vr) (x y : Int), v.rep = x → v.cnt = y → ∀ z, rightVr v = z → ∀ w, Calls Try.prog F #[.agg #[.int .i64 x, .int .i64 y]] w fun e w' => e = .returned (.bool z) ∧ Below w.heap.size w w'
set_option maxRecDepth 100000 in
theorem k_vright : VRightC 39 := by
  intro v x y hx hy z hz w
  unfold rightVr at hz
  rw [hx, hy] at hz
  have HB := Lib.hid (below_new w (.cells #[.int .i64 x, .int .i64 y] 23))
  obtain ⟨b1, h1⟩ : ∃ b, decide (1 ≤ x) = b := ⟨_, rfl⟩
  obtain ⟨b2, h2⟩ : ∃ b, decide (x ≤ 16) = b := ⟨_, rfl⟩
  obtain ⟨b3, h3⟩ : ∃ b, decide (1 ≤ y) = b := ⟨_, rfl⟩
  obtain ⟨b4, h4⟩ : ∃ b, decide (y ≤ 1099511627776) = b := ⟨_, rfl⟩
  rw [h1, h2, h3, h4] at hz
  subst hz
  clear hx hy
  cases b1
  case' true =>
    cases b2
    case' true =>
      cases b3
      case' true =>
        cases b4
  all_goals
    go_enter Try.func39, Try.ntmps39
    go_wp2_with fail
    go_ret
    exact ⟨rfl, HB.out⟩
end Go.Proofs.Ytfpgklpnpplnnaa

namespace Go.Proofs.Ytfpgklpnpplnnaa
open Go.RowKit

theorem DigSt.len {n r : Nat} {s : List UInt8} (h : DigSt n s r) : s.length ≤ 21 := by
  obtain ⟨f, _, h⟩ := h
  rcases h with ⟨h1, _⟩ | ⟨_, h2⟩
  · rw [h1]; simp
  · have h3 := digF_len 20 n
    unfold digN at h2
    rw [h2, List.length_append] at h3
    omega
end Go.Proofs.Ytfpgklpnpplnnaa

namespace Go.Proofs.Ytfpgklpnpplnnaa
open Go.RowKit

end Go.Proofs.Ytfpgklpnpplnnaa

namespace Go.Proofs.Ytfpgklpnpplnnaa
open Go.RowKit

end Go.Proofs.Ytfpgklpnpplnnaa

namespace Go.Proofs.Ytfpgklpnpplnnaa
open Go.RowKit

end Go.Proofs.Ytfpgklpnpplnnaa

namespace Go.Proofs.Ytfpgklpnpplnnaa
open Go.RowKit

end Go.Proofs.Ytfpgklpnpplnnaa

namespace Go.Proofs.Ytfpgklpnpplnnaa
open Go.RowKit

theorem rightI_parts2 (x : Itm) {b1 b2 c1 c2 c3 c4 c5 d e : Bool} (h1 : rightB x.key = b1) (h2 : rightVr x.ver = b2) (g1 : decide (1 ≤ x.rank) = c1) (g2 : decide (x.rank ≤ 1099511627776) = c2) (g3 : decide (0 ≤ x.prio) = c3) (g4 : decide (x.prio ≤ 255) = c4) (g5 : decide (x.body.length ≤ 64) = c5) (g6 : x.dead = d) (g7 : x.body.isEmpty = e) :
    rightI x = (b1 && (b2 && (c1 && (c2 && (c3 && (c4 && (c5 && (!d || e)))))))) := by
  subst h1 h2 g1 g2 g3 g4 g5 g6 g7
  unfold rightI rightB
  rw [Bool.and_assoc]
  congr 8
  cases x.dead <;> cases x.body <;> simp
set_option maxRecDepth 100000 in
set_option maxHeartbeats 2000000 in
theorem itp_right (x : Itm) (K : ByteArray) (r c k p : Int) (d : Bool) (B : ByteArray) (hx : IsI x K r c k p d B) (v : Bool) (hv : rightI x = v) (w : World) :
    Calls Try.prog 20 #[itV K r c k p d B] w fun e w' => e = .returned (.bool v) ∧ Below w.heap.size w w' := by
  have HB := Lib.hid (below_new w (itO K r c k p d B))
  have hz : B.size = x.body.length := by rw [← hx.body]; exact str_size _
  have hbl : B.toList = x.body := by rw [← hx.body]; exact str_toList _
  obtain ⟨b1, h1⟩ : ∃ b, rightB x.key = b := ⟨_, rfl⟩
  obtain ⟨b2, h2⟩ : ∃ b, rightVr x.ver = b := ⟨_, rfl⟩
  obtain ⟨c1, g1⟩ : ∃ b, decide (1 ≤ k) = b := ⟨_, rfl⟩
  obtain ⟨c2, g2⟩ : ∃ b, decide (k ≤ 1099511627776) = b := ⟨_, rfl⟩
  obtain ⟨c3, g3⟩ : ∃ b, decide (0 ≤ p) = b := ⟨_, rfl⟩
  obtain ⟨c4, g4⟩ : ∃ b, decide (p ≤ 255) = b := ⟨_, rfl⟩
  obtain ⟨c5, g5⟩ : ∃ b, decide ((B.size : Int) ≤ 64) = b := ⟨_, rfl⟩
  obtain ⟨e, g7⟩ : ∃ b, B.toList.isEmpty = b := ⟨_, rfl⟩
  have e5 : decide (x.body.length ≤ 64) = c5 := by rw [← g5, ← hz]; exact decide_eq_decide.2 (by omega)
  have f5 : decide (B.size ≤ 64) = c5 := by rw [← g5]; exact decide_eq_decide.2 (by omega)
  rw [rightI_parts2 x (b1 := b1) (b2 := b2) (c1 := c1) (c2 := c2) (c3 := c3) (c4 := c4) (c5 := c5) (d := d) (e := e) h1 h2 (by rw [hx.rank]; exact g1) (by rw [hx.rank]; exact g2) (by rw [hx.prio]; exact g3) (by rw [hx.prio]; exact g4) e5 hx.dead (by rw [← hbl]; exact g7)] at hv
  have C1 := fun w => Lib.hid (key_right x.key w)
  rw [h1, hx.key] at C1
  have C2 := fun w => Lib.hid (k_vright x.ver r c hx.rep hx.cnt b2 h2 w)
  have HV := Lib.hid hv
  have HI := Lib.hid (itAt_new w K r c k p d B)
  have g8 : (B.toList == []) = e := by rw [← g7]; cases B.toList <;> rfl
  clear hx hz h1 h2 e5 hv hbl
  cases b1
  case' true =>
    cases b2
    case' true =>
      cases c1
      case' true =>
        cases c2
        case' true =>
          cases c3
          case' true =>
            cases c4
            case' true =>
              cases c5
              case' true =>
                cases d
                case' true =>
                  cases e
  all_goals
    go_enter Try.func20, Try.ntmps20
    go_wp2_with (first
      | ((with_reducible refine (C1 _).out.mono ?_); rintro e w1 ⟨rfl, rfl⟩)
      | ((with_reducible refine (C2 _).out.mono ?_); rintro e w1 ⟨rfl, hq⟩; replace HB := Lib.hid (HB.out.trans (hq.mono HB.out.size)); obtain ⟨-, -, -, t3, t4, t5, t6⟩ := HI.out.below hq; clear hq))
    go_ret
    exact ⟨ret_bool HV.out, HB.out⟩
end Go.Proofs.Ytfpgklpnpplnnaa

namespace Go.Proofs.Ytfpgklpnpplnnaa
open Go.RowKit

theorem icp_one (d : Bool) (D : Int) (hD : (deadN d : Int) = D) (w : World) : Calls Try.prog 41 #[.bool d] w fun e w' => e = .returned (.int .i64 D) ∧ w = w' := by
  subst hD
  cases d
  all_goals
    go_enter Try.func41, Try.ntmps41
    go_wp2_with fail
    go_ret
    exact ⟨rfl, rfl⟩
theorem icp_numbers (A A2 : Option Addr) (c N n2 : Nat) (b : List UInt8) (hN : N = b.length) (l : List Int) (h2 : n2 = l.length) (h9 : n2 ≤ 9) (hok : okL l = true) (M : Nat) (R : List UInt8) (hR : b ++ putsV l = R) (hM : M = R.length) (hl : M ≤ 1000000) (w : World) (hr : RdB w w.heap.size A c b) (h3 : RowAt w w.heap.size A2 (ints l)) :
    Calls Try.prog 29 #[.slice A N c, .slice A2 n2 n2] w (RetO1 w M R) := by
  have hbl : b.length ≤ M := by rw [hM, ← hR, List.length_append]; omega
  have HC : Hid (Calls Try.prog 47 #[.slice A N c, .slice A2 n2 n2] w (RetB2 w.heap.size w (b ++ putsV l))) := by
    subst hN
    refine Lib.hid ((varint_put A c w.heap.size b A2 n2 n2 l w h2 hr h3 (okL_alli hok) (Nat.le_refl _) (by omega)).mono fun e w' h => ?_)
    rcases h with ⟨-, h⟩ | ⟨h, -⟩
    · exact h
    · rw [hok] at h; cases h
  have HR := Lib.hid hR
  have HM := Lib.hid hM
  clear hN hl hr hR hM h3 hok h2 hbl
  go_enter Try.func29, Try.ntmps29
  go_wp2_with ((with_reducible refine HC.out.mono ?_); rintro e w1 ⟨v1, rfl, hown, hq⟩; have HF := Lib.hid (retO1_of (w := w) HM.out (by rw [← HR.out]; exact hown) hq); clear hown hq)
  go_ret
  exact HF.out
theorem icp_len {q : List UInt8} {x : Itm} (hq : q.length ≤ 16) (hx : rightI x = true) : (txtB q).length ≤ 100 ∧ (txtB q ++ putsV [x.ver.rep, x.ver.cnt, x.rank, x.prio, (deadN x.dead : Int)]).length ≤ 400 ∧ (txtB q ++ restB x).length ≤ 400 := by
  have h1 := restB_len hx
  have h2 := txtB_len9 q (by omega)
  have h3 := restB_puts x
  have h4 := congrArg List.length h3
  simp only [List.length_append] at h4 ⊢
  omega
theorem five_ok {x : Itm} (hx : rightI x = true) : okL [x.ver.rep, x.ver.cnt, x.rank, x.prio, (deadN x.dead : Int)] = true := by
  obtain ⟨-, -, h3, h4, h5, h6, h7, -⟩ := rightI_iff.1 hx
  obtain ⟨v1, v2, v3, v4⟩ := rightVr_nums h3
  have hd1 := deadN_le x.dead
  simp [okL, okN]
  omega
theorem row_on {w w' : World} {A : Option Addr} {l : List Value} (h : RowAt w w.heap.size A l) (hb : Below w.heap.size w w') : RowAt w' w'.heap.size A l := (h.below hb).more hb.size
theorem cell_alo {w : World} {p : Addr} {v : Value} (h : w.cell? p = some v) (o : Obj) : (w.alloc o).cell? p = some v := ((below_new w o).cell (World.block_lt_of_cell? w p h)).trans h
abbrev i5O (r c k p D : Int) : Obj := .cells #[.int .i64 r, .int .i64 c, .int .i64 k, .int .i64 p, .int .i64 D] 3
abbrev stO1 (K : ByteArray) : Obj := .cells #[.string K] 9
theorem row_drew {w : World} {A : Option Addr} {l : List Value} (h : RowAt w w.heap.size A l) : RowAt w.drew w.drew.heap.size A l := h
theorem st_row1 (W : World) {s : List UInt8} {S : ByteArray} (h : str s = S) (g : Nat) (hg : W.heap.size = g) : RowAt (W.alloc (stO1 S)) (W.alloc (stO1 S)).heap.size (some ⟨g, 0, none⟩) (strs [s]) := by
  subst hg
  rw [size1]
  exact fcd_str_row W s S h
theorem i5_row (W : World) (r c k p D : Int) (g : Nat) (hg : W.heap.size = g) : RowAt (W.alloc (i5O r c k p D)) (W.alloc (i5O r c k p D)).heap.size (some ⟨g, 0, none⟩) (ints [r, c, k, p, D]) := by
  subst hg
  exact five_row W r c k p D
set_option maxRecDepth 100000 in
set_option maxHeartbeats 8000000 in
theorem icp_bytes (x : Itm) (hx : rightI x = true) (q : List UInt8) (hq : q.length ≤ 16) (K : ByteArray) (hK : str q = K) (K0 : ByteArray) (r c k p : Int) (d : Bool) (B : ByteArray) (hI : IsI x K0 r c k p d B) (M : Nat) (R : List UInt8) (hR : txtB q ++ restB x = R) (hM : M = R.length) (w : World) :
    Calls Try.prog 21 #[itV K r c k p d B] w (RetO1 w M R) := by
  obtain ⟨D, hD⟩ : ∃ D : Int, (deadN d : Int) = D := ⟨_, rfl⟩
  obtain ⟨-, i1, i2, i3, i4, i5, iB⟩ := hI
  have hok := five_ok hx
  obtain ⟨l1, l2, l3⟩ := icp_len hq hx
  rw [i1, i2, i3, i4, i5, hD] at hok l2
  have hre := restB_puts x
  rw [i1, i2, i3, i4, i5, hD] at hre
  obtain ⟨T1, hT1⟩ : ∃ T, txtB q = T := ⟨_, rfl⟩
  obtain ⟨T2, hT2⟩ : ∃ T, T1 ++ putsV [r, c, k, p, D] = T := ⟨_, rfl⟩
  rw [hre, ← List.append_assoc, hT1, hT2] at hR
  rw [hT1] at l1 l2 l3
  rw [hT2] at l2
  rw [hre, ← List.append_assoc, hT2, hR] at l3
  obtain ⟨N1, hN1⟩ : ∃ N, N = T1.length := ⟨_, rfl⟩
  obtain ⟨N2, hN2⟩ : ∃ N, N = T2.length := ⟨_, rfl⟩
  have C1 := fun (W : World) (A2 : Option Addr) (h : RowAt W W.heap.size A2 (strs [q])) => Lib.hid (fcd_texts none A2 0 0 1 [] rfl [q] rfl (by omega) N1 T1 (by rw [textsV_one]; exact hT1) hN1 (by omega) W (rdB_nil _ _) h)
  have CD := fun W => Lib.hid (icp_one d D hD W)
  have C2 := fun (W : World) (A1 A2 : Option Addr) (c1 : Nat) (h : RdB W W.heap.size A1 c1 T1) (h2 : RowAt W W.heap.size A2 (ints [r, c, k, p, D])) => Lib.hid (icp_numbers A1 A2 c1 N1 5 T1 hN1 [r, c, k, p, D] rfl (by omega) hok N2 T2 hT2 hN2 (by omega) W h h2)
  have C3 := fun (W : World) (A2 A3 : Option Addr) (c3 : Nat) (h : RdB W W.heap.size A3 c3 T2) (g : RowAt W W.heap.size A2 (strs [x.body])) => Lib.hid (fcd_texts A3 A2 c3 N2 1 T2 hN2 [x.body] rfl (by omega) M R (by rw [textsV_one]; exact hR) hM (by omega) W h g)
  obtain ⟨WB, hWB⟩ : ∃ WB, w.alloc (itO K r c k p d B) = WB := ⟨_, rfl⟩
  have HI := Lib.hid (show ItAt WB w.heap.size K r c k p d B from hWB ▸ itAt_new _ _ _ _ _ _ _ _)
  have HB := Lib.hid (show Below w.heap.size w WB from hWB ▸ below_new _ _)
  have F1 := Lib.hid (row_drew (st_row1 WB hK WB.heap.size rfl))
  have F2 := Lib.hid (row_drew (st_row1 (WB.alloc (i5O r c k p D)) hK (WB.heap.size + 1) (by rw [size1])))
  have F3 := Lib.hid (row_drew (row_on (st_row1 WB hK WB.heap.size rfl) (below_new _ (i5O r c k p D))))
  have HRB := fun W : World => Lib.hid (st_row1 W iB W.heap.size rfl)
  have G2 := Lib.hid (row_drew (row_on (i5_row WB r c k p D WB.heap.size rfl) (below_new _ (stO1 K))))
  have G3 := Lib.hid (row_drew (i5_row (WB.alloc (stO1 K)) r c k p D (WB.heap.size + 1) (by rw [size1])))
  have GN := fun W : World => Lib.hid (i5_row W r c k p D W.heap.size rfl)
  have HM := Lib.hid hM
  clear hx hq hK i1 i2 i3 i4 i5 iB hok l1 l2 l3 hre hT1 hT2 hR hM hN1 hN2 hD
  obtain ⟨u0, u1, u2, u3, u4, u5, -⟩ := HI.out
  go_enter Try.func21, Try.ntmps21
  go_upto_region 1 with fail
  go_region_held3 (fun w' => w'.cell? ⟨w.heap.size, 0, none⟩ = some (.string K) ∧ w'.cell? ⟨w.heap.size, 1, none⟩ = some (.int .i64 r) ∧ w'.cell? ⟨w.heap.size, 2, none⟩ = some (.int .i64 c) ∧ w'.cell? ⟨w.heap.size, 3, none⟩ = some (.int .i64 k) ∧ w'.cell? ⟨w.heap.size, 4, none⟩ = some (.int .i64 p) ∧ w'.cell? ⟨w.heap.size, 5, none⟩ = some (.bool d)) (first | (exact ⟨by assumption, by assumption, by assumption, by assumption, by assumption, by assumption⟩) | (exact ⟨cell_alo u0 _, cell_alo u1 _, cell_alo u2 _, cell_alo u3 _, cell_alo u4 _, cell_alo u5 _⟩) | (exact ⟨cell_alo (cell_alo u0 _) _, cell_alo (cell_alo u1 _) _, cell_alo (cell_alo u2 _) _, cell_alo (cell_alo u3 _) _, cell_alo (cell_alo u4 _) _, cell_alo (cell_alo u5 _) _⟩) | go_keep)
    (first
      | (go_at_call 41; (with_reducible refine (CD _).out.mono ?_); rintro e w6 ⟨rfl, rfl⟩)
      | (go_at_call 40; (with_reducible refine (C1 (WB.alloc (stO1 K)).drew (some ⟨WB.heap.size, 0, none⟩) F1.out).out.mono ?_); rintro e w1 ⟨A1, c1, rfl, -, hrd, hq⟩; have HQ := Lib.hid ((below_new WB _).drew.trans (hq.mono (by simp))); have H1 := Lib.hid hrd; clear hrd hq u0 u1 u2 u3 u4 u5; obtain ⟨u0, u1, u2, u3, u4, u5, -⟩ := HI.out.below HQ.out)
      | (go_at_call 40; (with_reducible refine (C1 ((WB.alloc (i5O r c k p D)).alloc (stO1 K)).drew (some ⟨WB.heap.size + 1, 0, none⟩) F2.out).out.mono ?_); rintro e w1 ⟨A1, c1, rfl, -, hrd, hq⟩; have HQ := Lib.hid (((below_new WB _).trans ((below_new _ _).mono (by simp))).drew.trans (hq.mono (by simp))); have H1 := Lib.hid hrd; have HR2 := Lib.hid (row_on G2.out hq); clear hrd hq u0 u1 u2 u3 u4 u5; obtain ⟨u0, u1, u2, u3, u4, u5, -⟩ := HI.out.below HQ.out)
      | (go_at_call 40; (with_reducible refine (C1 ((WB.alloc (stO1 K)).alloc (i5O r c k p D)).drew (some ⟨WB.heap.size, 0, none⟩) F3.out).out.mono ?_); rintro e w1 ⟨A1, c1, rfl, -, hrd, hq⟩; have HQ := Lib.hid (((below_new WB _).trans ((below_new _ _).mono (by simp))).drew.trans (hq.mono (by simp))); have H1 := Lib.hid hrd; have HR3 := Lib.hid (row_on G3.out hq); clear hrd hq u0 u1 u2 u3 u4 u5; obtain ⟨u0, u1, u2, u3, u4, u5, -⟩ := HI.out.below HQ.out)
      | (go_at_call 29; (with_reducible refine (C2 w1 A1 (some ⟨WB.heap.size, 0, none⟩) c1 H1.out HR2.out).out.mono ?_); rintro e w2 ⟨A2, c2, rfl, -, hrd, hq⟩; have HQ2 := Lib.hid (HQ.out.trans (hq.mono HQ.out.size)); have H2 := Lib.hid hrd; clear hrd hq u0 u1 u2 u3 u4 u5; obtain ⟨u0, u1, u2, u3, u4, u5, -⟩ := HI.out.below HQ2.out)
      | (go_at_call 29; (with_reducible refine (C2 w1 A1 (some ⟨WB.heap.size + 1, 0, none⟩) c1 H1.out HR3.out).out.mono ?_); rintro e w2 ⟨A2, c2, rfl, -, hrd, hq⟩; have HQ2 := Lib.hid (HQ.out.trans (hq.mono HQ.out.size)); have H2 := Lib.hid hrd; clear hrd hq u0 u1 u2 u3 u4 u5; obtain ⟨u0, u1, u2, u3, u4, u5, -⟩ := HI.out.below HQ2.out)
      | (go_at_call 29; (with_reducible refine (C2 (w1.alloc (i5O r c k p D)) A1 (some ⟨w1.heap.size, 0, none⟩) c1 (rdB_call H1.out (below_new _ _)) (GN w1).out).out.mono ?_); rintro e w2 ⟨A2, c2, rfl, -, hrd, hq⟩; have HQ2 := Lib.hid (HQ.out.trans (((below_new w1 _).trans (hq.mono (by simp))).mono HQ.out.size)); have H2 := Lib.hid hrd; clear hrd hq u0 u1 u2 u3 u4 u5; obtain ⟨u0, u1, u2, u3, u4, u5, -⟩ := HI.out.below HQ2.out))
  all_goals
    obtain ⟨-, -, -, -, -, -, u6⟩ := HI.out.below HQ2.out
    go_wp2_with ((with_reducible refine (C3 (w2.alloc (stO1 B)) (some ⟨w2.heap.size, 0, none⟩) A2 c2 (rdB_call H2.out (below_new _ _)) (HRB w2).out).out.mono ?_); rintro e w3 ⟨A3, c3, rfl, ho, hrd, hq⟩; have HF := Lib.hid (retO1_of (w := w) HM.out (OwnB.mono ho (Nat.le_trans (Nat.le_trans HB.out.size HQ2.out.size) (by simp))) (HB.out.trans ((HQ2.out.trans (((below_new w2 _).trans (hq.mono (by simp))).mono HQ2.out.size)).mono HB.out.size))); clear ho hrd hq)
    go_ret
    exact HF.out
end Go.Proofs.Ytfpgklpnpplnnaa

namespace Go.Proofs.Ytfpgklpnpplnnaa
open Go.RowKit

abbrev stO2 (U K : ByteArray) : Obj := .cells #[.string U, .string K] 9
abbrev inO1 (n : Nat) : Obj := .cells #[.int .i64 (n : Int)] 3
theorem in_row1 (W : World) (n g : Nat) (hg : W.heap.size = g) : RowAt (W.alloc (inO1 n)) (W.alloc (inO1 n)).heap.size (some ⟨g, 0, none⟩) (ints [(n : Int)]) := by
  subst hg
  rw [size1]
  exact int_row W n
theorem icp_common (a b : List UInt8) (U K : ByteArray) (hU : str a = U) (hK : str b = K) (ha : a.length ≤ 1000000) (hb : b.length ≤ 1000000) (n : Nat) (hn : alikeN a b = n) (CM : ByteArray) (hCM : str (a.take n) = CM) (W : World) (g : Nat) (hg : W.heap.size = g) :
    Calls Try.prog 48 #[.slice (some ⟨g, 0, none⟩) 2 2] (W.alloc (stO2 U K)) fun e w' => e = .returned (.string CM) ∧ Below (W.alloc (stO2 U K)).heap.size (W.alloc (stO2 U K)) w' := by
  subst hg
  refine (key_common (some ⟨W.heap.size, 0, none⟩) 2 2 (W.heap.size + 1) [a, b] rfl (Nat.le_refl _) (by decide) (fun x hx => ?_) (W.alloc (stO2 U K)) (str_row2 W a b U K hU hK)).mono fun e w' h => ?_
  · unfold maxLen
    rcases List.mem_cons.1 hx with rfl | hx
    · omega
    · rw [List.mem_singleton] at hx; subst hx; omega
  · obtain ⟨h1, m, h2⟩ := h
    refine ⟨?_, h2 ▸ below_drewN (Below.refl _ _) _⟩
    rw [h1, ← hCM, ← hn]
    rfl
set_option maxRecDepth 100000 in
set_option maxHeartbeats 8000000 in
theorem icp_behind (was : List UInt8) (hw : was.length ≤ 16) (U : ByteArray) (hU : str was = U) (x : Itm) (hx : rightI x = true) (K : ByteArray) (r c k p : Int) (d : Bool) (B : ByteArray) (hI : IsI x K r c k p d B) (n : Nat) (hn : alikeN was x.key = n) (M : Nat) (R : List UInt8) (hR : putV n ++ (txtB (x.key.drop n) ++ restB x) = R) (hM : M = R.length) (w : World) :
    Calls Try.prog 30 #[.string U, itV K r c k p d B] w (RetO1 w M R) := by
  obtain ⟨h1, h2, -⟩ := rightI_iff.1 hx
  have ha := alikeN_le was x.key
  rw [hn] at ha
  obtain ⟨CM, hCM⟩ : ∃ CM, str (was.take n) = CM := ⟨_, rfl⟩
  have hsz : CM.size = n := by rw [← hCM, str_size, List.length_take]; omega
  obtain ⟨V, hV⟩ : ∃ V, str (x.key.drop n) = V := ⟨_, rfl⟩
  have KS := fun w => run_str_drop (P := Try.prog) Try.underlying9 x.key K V hI.key n ha.2 hV w
  have hdl : (x.key.drop n).length ≤ 16 := by rw [List.length_drop]; omega
  have l3 := (icp_len hdl hx).2.2
  have l4 := putV_len10 n (by omega)
  obtain ⟨T, hT⟩ : ∃ T, txtB (x.key.drop n) ++ restB x = T := ⟨_, rfl⟩
  obtain ⟨PN, hPN⟩ : ∃ P, putV n = P := ⟨_, rfl⟩
  rw [hT] at hR l3
  rw [hPN] at hR l4
  obtain ⟨N1, hN1⟩ : ∃ N, N = PN.length := ⟨_, rfl⟩
  obtain ⟨N2, hN2⟩ : ∃ N, N = T.length := ⟨_, rfl⟩
  have CC := fun (W : World) (g : Nat) (hg : W.heap.size = g) => Lib.hid (icp_common was x.key U K hU hI.key (by omega) (by omega) n hn CM hCM W g hg)
  have CN := fun (W : World) (A2 : Option Addr) (h : RowAt W W.heap.size A2 (ints [(n : Int)])) => Lib.hid (icp_numbers none A2 0 0 1 [] rfl [(n : Int)] rfl (by omega) (okL_one (by omega)) N1 PN (by simpa [putsV] using hPN) hN1 (by omega) W (rdB_nil _ _) h)
  have CB := fun (W : World) => Lib.hid (icp_bytes x hx (x.key.drop n) hdl V hV K r c k p d B hI N2 T hT hN2 W)
  obtain ⟨WB, hWB⟩ : ∃ WB, w.alloc (itO K r c k p d B) = WB := ⟨_, rfl⟩
  have HX0 := Lib.hid (show ItW WB w.heap.size K r c k p d B from hWB ▸ itW_new _ _ _ _ _ _ _ _)
  have HB0 := Lib.hid (show Below w.heap.size w WB from hWB ▸ below_new _ _)
  have HM := Lib.hid hM
  have HR := Lib.hid hR
  have HN2 := Lib.hid hN2
  have HL := Lib.hid (show PN.length + T.length ≤ 140737488355328 by omega)
  clear hw hU hx hI hn hR hM h1 h2 ha hCM hV hdl l3 l4 hT hPN hN1 hN2
  obtain ⟨⟨u0, u1, u2, u3, u4, u5, u6⟩, -⟩ := HX0.out
  go_enter Try.func30, Try.ntmps30
  go_upto_region 2 with ((with_reducible refine (CC WB WB.heap.size rfl).out.mono ?_); rintro e w1 ⟨rfl, hq⟩; have HX1 := Lib.hid (HX0.out.below ((below_new WB _).trans (hq.mono (by simp)))); have HB1 := Lib.hid (HB0.out.trans (((below_new WB _).trans (hq.mono (by simp))).mono HB0.out.size)); clear hq u0 u1 u2 u3 u4 u5 u6; obtain ⟨⟨u0, u1, u2, u3, u4, u5, u6⟩, uf⟩ := HX1.out)
  clear CC
  go_upto_region 3 with fail
  obtain ⟨w2, hw2⟩ : ∃ w2, w2 = w1.setCell ⟨w.heap.size, 0, none⟩ (.string V) := ⟨_, rfl⟩
  have HX2 := Lib.hid (show ItW w2 w.heap.size V r c k p d B by rw [hw2]; exact HX1.out.set0 V)
  have HB2 := Lib.hid (show Below w.heap.size w w2 by rw [hw2]; exact HB1.out.setCell (p := ⟨w.heap.size, 0, none⟩) (Nat.le_refl _) (.string V))
  rw [← hw2]
  clear hw2 u0 u1 u2 u3 u4 u5 u6 uf HX0 HX1 HB0 HB1 KS hsz hWB
  obtain ⟨⟨u0, u1, u2, u3, u4, u5, u6⟩, -⟩ := HX2.out
  have HG := Lib.hid HX2.out.lt
  have FA := Lib.hid (row_drew (in_row1 w2 n w2.heap.size rfl))
  have GN := fun W : World => Lib.hid (in_row1 W n W.heap.size rfl)
  go_region_held3 (fun w' => w'.cell? ⟨w.heap.size, 0, none⟩ = some (.string V) ∧ w'.cell? ⟨w.heap.size, 1, none⟩ = some (.int .i64 r) ∧ w'.cell? ⟨w.heap.size, 2, none⟩ = some (.int .i64 c) ∧ w'.cell? ⟨w.heap.size, 3, none⟩ = some (.int .i64 k) ∧ w'.cell? ⟨w.heap.size, 4, none⟩ = some (.int .i64 p) ∧ w'.cell? ⟨w.heap.size, 5, none⟩ = some (.bool d) ∧ w'.cell? ⟨w.heap.size, 6, none⟩ = some (.string B)) (first | (exact ⟨by assumption, by assumption, by assumption, by assumption, by assumption, by assumption, by assumption⟩) | (exact ⟨cell_alo u0 _, cell_alo u1 _, cell_alo u2 _, cell_alo u3 _, cell_alo u4 _, cell_alo u5 _, cell_alo u6 _⟩) | go_keep)
    (first
      | (go_at_call 29; (with_reducible refine (CN (w2.alloc (inO1 n)).drew (some ⟨w2.heap.size, 0, none⟩) FA.out).out.mono ?_); rintro e w3 ⟨A3, c3, rfl, ho, -, hq⟩; have HO3 := Lib.hid (OwnB.mono ho (show w2.heap.size ≤ (w2.alloc (inO1 n)).drew.heap.size from (below_new w2 (inO1 n)).size)); have HQ3 := Lib.hid ((below_new w2 (inO1 n)).drew.trans (hq.mono (by simp))); clear ho hq u0 u1 u2 u3 u4 u5 u6; obtain ⟨⟨u0, u1, u2, u3, u4, u5, u6⟩, -⟩ := HX2.out.below HQ3.out)
      | (go_at_call 21; (with_reducible refine (CB w3).out.mono ?_); rintro e w4 ⟨A4, c4, rfl, -, hrd, hq⟩; have HRF := Lib.hid hrd; have HOF := Lib.hid (HO3.out.below hq); have HQF := Lib.hid (HQ3.out.trans (hq.mono HQ3.out.size)); clear hrd hq u0 u1 u2 u3 u4 u5 u6; obtain ⟨⟨u0, u1, u2, u3, u4, u5, u6⟩, -⟩ := HX2.out.below HQF.out)
      | (go_at_call 21; (with_reducible refine (CB (w2.alloc (inO1 n)).drew).out.mono ?_); rintro e w4 ⟨A4, c4, rfl, -, hrd, hq⟩; have HR4 := Lib.hid hrd; have HQ4 := Lib.hid ((below_new w2 (inO1 n)).drew.trans (hq.mono (by simp))); have GR := Lib.hid (row_on FA.out hq); clear hrd hq u0 u1 u2 u3 u4 u5 u6; obtain ⟨⟨u0, u1, u2, u3, u4, u5, u6⟩, -⟩ := HX2.out.below HQ4.out)
      | (go_at_call 21; (with_reducible refine (CB w2.drew).out.mono ?_); rintro e w4 ⟨A4, c4, rfl, -, hrd, hq⟩; have HR4 := Lib.hid hrd; have HQ4 := Lib.hid ((Below.refl w2.heap.size w2).drew.trans hq); have GR := Lib.hid True.intro; clear hrd hq u0 u1 u2 u3 u4 u5 u6; obtain ⟨⟨u0, u1, u2, u3, u4, u5, u6⟩, -⟩ := HX2.out.below HQ4.out)
      | (go_at_call 29; (with_reducible refine (CN w4 (some ⟨w2.heap.size, 0, none⟩) GR.out).out.mono ?_); rintro e w3 ⟨A3, c3, rfl, ho, -, hq⟩; have HOF := Lib.hid (OwnB.mono ho HQ4.out.size); have HRF := Lib.hid (rdB_call HR4.out hq); have HQF := Lib.hid (HQ4.out.trans (hq.mono HQ4.out.size)); clear ho hq u0 u1 u2 u3 u4 u5 u6; obtain ⟨⟨u0, u1, u2, u3, u4, u5, u6⟩, -⟩ := HX2.out.below HQF.out)
      | (go_at_call 29; (with_reducible refine (CN (w4.alloc (inO1 n)) (some ⟨w4.heap.size, 0, none⟩) (GN w4).out).out.mono ?_); rintro e w3 ⟨A3, c3, rfl, ho, -, hq⟩; have HOF := Lib.hid (OwnB.mono ho (Nat.le_trans HQ4.out.size (below_new w4 (inO1 n)).size)); have HRF := Lib.hid (rdB_call HR4.out ((below_new w4 _).trans (hq.mono (by simp)))); have HQF := Lib.hid (HQ4.out.trans (((below_new w4 _).trans (hq.mono (by simp))).mono HQ4.out.size)); clear ho hq u0 u1 u2 u3 u4 u5 u6; obtain ⟨⟨u0, u1, u2, u3, u4, u5, u6⟩, -⟩ := HX2.out.below HQF.out)
      | (refine step_app_b rfl (.tmp 19) (.tmp 21) rfl w2.heap.size _ PN rfl HOF.out _ A4 c4 N2 T HN2.out rfl HRF.out.row HL.out HQF.out.size ?_; intro v5 w5 hown5 hg5 hb5 _; have HF := Lib.hid (retO1_of (w := w) HM.out (by rw [← HR.out]; exact hown5.mono HB2.out.size) (HB2.out.trans ((HQF.out.trans hb5).mono HB2.out.size))); have HXZ := Lib.hid ((HX2.out.below HQF.out).grown hg5 (fun e => by have h1 := (HOF.out.lt _ e.symm).1; have h2 := HG.out; omega)); clear hown5 hg5 hb5 u0 u1 u2 u3 u4 u5 u6; obtain ⟨⟨u0, u1, u2, u3, u4, u5, u6⟩, -⟩ := HXZ.out))
  all_goals
    go_wp2_with fail
    go_ret
    exact HF.out
set_option maxRecDepth 100000 in
set_option maxHeartbeats 4000000 in
theorem icp_item (x : Itm) (hx : rightI x = true) (K : ByteArray) (r c k p : Int) (d : Bool) (B : ByteArray) (hI : IsI x K r c k p d B) (N : Nat) (l : List UInt8) (hl : itemB x = l) (hN : l.length = N) (w : World) :
    Calls Try.prog 8 #[itV K r c k p d B] w (RetBX w N 0 l) := by
  obtain ⟨h1, h2, -⟩ := rightI_iff.1 hx
  have CR := fun W => Lib.hid (itp_right x K r c k p d B hI true hx W)
  have CB := fun W => Lib.hid (icp_bytes x hx x.key h2 K hI.key K r c k p d B hI N l hl hN.symm W)
  obtain ⟨WB, hWB⟩ : ∃ WB, w.alloc (itO K r c k p d B) = WB := ⟨_, rfl⟩
  have HX := Lib.hid (show ItAt WB w.heap.size K r c k p d B from hWB ▸ itAt_new _ _ _ _ _ _ _ _)
  have HB := Lib.hid (show Below w.heap.size w WB from hWB ▸ below_new _ _)
  clear hx hI hl hN h1 h2
  obtain ⟨u0, u1, u2, u3, u4, u5, u6⟩ := HX.out
  go_enter Try.func8, Try.ntmps8
  go_wp2_with (first
    | ((with_reducible refine (CR _).out.mono ?_); rintro e w1 ⟨rfl, hq⟩; replace HX := Lib.hid (HX.out.below hq); replace HB := Lib.hid (HB.out.trans (hq.mono HB.out.size)); clear hq u0 u1 u2 u3 u4 u5 u6; obtain ⟨u0, u1, u2, u3, u4, u5, u6⟩ := HX.out)
    | ((with_reducible refine (CB _).out.mono ?_); rintro e w2 ⟨A2, c2, rfl, -, hrd, hq⟩; have HF := Lib.hid hrd; replace HB := Lib.hid (HB.out.trans (hq.mono HB.out.size)); clear hrd hq))
  go_ret2
  exact ⟨A2, c2, rfl, HF.out, HB.out⟩
set_option maxRecDepth 100000 in
theorem icp_item_no (x : Itm) (hx : rightI x = false) (K : ByteArray) (r c k p : Int) (d : Bool) (B : ByteArray) (hI : IsI x K r c k p d B) (w : World) :
    Calls Try.prog 8 #[itV K r c k p d B] w (RetBX w 0 2 []) := by
  have CR := fun W => Lib.hid (itp_right x K r c k p d B hI false hx W)
  have HB := Lib.hid (below_new w (itO K r c k p d B))
  have HX := Lib.hid (itAt_new w K r c k p d B)
  clear hx hI
  go_enter Try.func8, Try.ntmps8
  go_wp2_with ((with_reducible refine (CR _).out.mono ?_); rintro e w1 ⟨rfl, hq⟩; replace HB := Lib.hid (HB.out.trans (hq.mono HB.out.size)); clear hq)
  go_ret2
  exact ⟨none, 0, rfl, rdB_nil _ _, HB.out⟩
set_option maxRecDepth 100000 in
theorem icp_size (K : ByteArray) (r c k p : Int) (d : Bool) (B : ByteArray) (N : Nat) (z : Int) (l : List UInt8) (hC : ∀ w, Calls Try.prog 8 #[itV K r c k p d B] w (RetBX w N z l)) (w : World) :
    Calls Try.prog 10 #[itV K r c k p d B] w fun e w' => e = .returned (.int .i64 (N : Int)) ∧ Below w.heap.size w w' := by
  have C := fun W => Lib.hid (hC W)
  have HB := Lib.hid (below_new w (itO K r c k p d B))
  clear hC
  go_enter Try.func10, Try.ntmps10
  go_wp2_with ((with_reducible refine (C _).out.mono ?_); rintro e w1 ⟨A1, c1, rfl, -, hq⟩; replace HB := Lib.hid (HB.out.trans (hq.mono HB.out.size)); clear hq)
  go_ret
  exact ⟨rfl, HB.out⟩
end Go.Proofs.Ytfpgklpnpplnnaa

namespace Go.Proofs.Ytfpgklpnpplnnaa
open Go.RowKit

def RetIs (l : List Itm) (w : World) (N : Nat) (L : List UInt8) (e : Ending) (w' : World) : Prop :=
  ((∀ x ∈ l, rightI x = true) ∧ ∃ A c, e = .returned (.tuple #[.slice A N c, .int .i64 0]) ∧ OwnB w' w.heap.size (.slice A N c) L ∧ Below w.heap.size w w') ∨ (¬ (∀ x ∈ l, rightI x = true) ∧ e = .returned (.tuple #[.slice none 0 0, .int .i64 2]) ∧ Below w.heap.size w w')
set_option maxRecDepth 100000 in
set_option maxHeartbeats 8000000 in
theorem icp_items (A : Option Addr) (c n : Nat) (l : List Itm) (hn : n = l.length) (hn9 : n ≤ 4096) (N : Nat) (L : List UInt8) (hL : itemsB l = L) (hN : N = L.length) (w : World) (hr : kItm.Rd w w.heap.size A c l) :
    Calls Try.prog 14 #[.slice A n c] w (RetIs l w N L) := by
  have HN := Lib.hid hn
  have HR := Lib.hid hr
  have hmx := rd_maxI hr hn
  have hcx : n ≤ c := by rw [hn]; exact hr.room
  have l9 := putV_len10 n (by omega)
  obtain ⟨PN, hPN⟩ : ∃ P, putV n = P := ⟨_, rfl⟩
  have HLL := Lib.hid (show PN ++ listB [] l = L by rw [← hPN, hn]; exact hL)
  rw [hPN] at l9
  obtain ⟨N1, hN1⟩ : ∃ N, N = PN.length := ⟨_, rfl⟩
  have CN := fun (W : World) (A2 : Option Addr) (h : RowAt W W.heap.size A2 (ints [(n : Int)])) => Lib.hid (icp_numbers none A2 0 0 1 [] rfl [(n : Int)] rfl (by omega) (okL_one (by omega)) N1 PN (by simpa [putsV] using hPN) hN1 (by omega) W (rdB_nil _ _) h)
  have FA := Lib.hid (in_row1 w n w.heap.size rfl)
  have HL9 := Lib.hid l9
  have HNL := Lib.hid hN
  have hn4 : ¬ (4096 : Int) < (n : Int) := by omega
  clear hn hr hL hN hPN hN1 l9
  go_enter Try.func14, Try.ntmps14
  go_upto_region 4 with ((with_reducible refine (CN (w.alloc (inO1 n)) (some ⟨w.heap.size, 0, none⟩) FA.out).out.mono ?_); rintro e w1 ⟨A1, c1, rfl, ho, -, hq⟩; have HO1 := Lib.hid (OwnB.mono ho (show w.heap.size ≤ (w.alloc (inO1 n)).heap.size from (below_new w (inO1 n)).size)); have HB1 := Lib.hid ((below_new w (inO1 n)).trans (hq.mono (by simp))); clear ho hq)
  clear CN FA
  go_wp2_with fail
  go_loopw [4, 5, 17] (fun v sv i wr => ∃ (k : Nat) (U : ByteArray), k ≤ n ∧ i = .int .i64 k ∧ sv = .string U ∧ Hid (str (wasK [] (l.take k)) = U) ∧ Hid (OwnB wr w.heap.size v (PN ++ listB [] (l.take k))) ∧ Hid (Below w.heap.size w wr) ∧ Hid (∀ x ∈ l.take k, rightI x = true)) (fun _ _ i _ => n - (intOf i).toNat)
  case atStart => exact ⟨0, ⟨#[]⟩, by omega, rfl, rfl, rfl, by rw [List.take_zero]; show OwnB _ _ _ (_ ++ []); rw [List.append_nil]; exact HO1.out, HB1, Lib.hid (fun x hx => by cases hx)⟩
  case round =>
    clear HO1 HB1
    obtain ⟨k, U, hk, rfl, rfl, HU, HO, HB, HX⟩ := hrel
    by_cases hlt : k < n
    · obtain ⟨x, hg, hd, hxm⟩ := get_some (l := l) (k := k) (by have := HN.out; omega)
      obtain ⟨b, o, rfl, hb1, hcell⟩ := itms_at HR.out (by have := HN.out; omega)
      obtain ⟨X, r, c', kk, p, d, S, hI⟩ : ∃ K r c k p d B, IsI x K r c k p d B := ⟨_, _, _, _, _, _, _, IsI.mk' x⟩
      have HC0 : Hid (ItC w b (o + k * 7) X r c' kk p d S) := by
        have h := hcell k x hg
        rw [hI.key, hI.rep, hI.cnt, hI.rank, hI.prio, hI.dead, hI.body] at h
        exact h
      have hwl : (wasK [] (l.take k)).length ≤ 16 := wasK_len (by simp) HX.out
      have hll := listB_len (l := l.take k) (was := []) (by simp) HX.out
      have hlk : (l.take k).length ≤ k := by rw [List.length_take]; omega
      obtain ⟨M, hM⟩ : ∃ M, PN ++ listB [] (l.take k) = M := ⟨_, rfl⟩
      have hMl : M.length ≤ 3000100 := by rw [← hM, List.length_append]; have := HL9.out; omega
      obtain ⟨was, hwas⟩ : ∃ was, wasK [] (l.take k) = was := ⟨_, rfl⟩
      have HNX := Lib.hid (listB_next hg)
      have HWN := Lib.hid (show wasK [] (l.take (k + 1)) = x.key by rw [List.take_add_one, hg]; exact wasK_snoc _ _ _)
      rw [hwas] at HU hwl HNX
      obtain ⟨al, hal⟩ : ∃ al, alikeN was x.key = al := ⟨_, rfl⟩
      have hal2 := alikeN_le was x.key
      rw [hal] at HNX hal2
      obtain ⟨v, hv⟩ : ∃ v, rightI x = v := ⟨_, rfl⟩
      have CR := fun W => Lib.hid (itp_right x X r c' kk p d S hI v hv W)
      have HKX := Lib.hid hI.key
      have HBB := Lib.hid hb1
      have hk0 : (0 : Int) ≤ (k : Int) := by omega
      have hkn : (k : Int) < (n : Int) := by omega
      rw [hM] at HO
      have HCc := Lib.hid (HC0.out.below HB.out hb1)
      have HW0 := Lib.hid (itW_new wr X r c' kk p d S)
      have HBW := Lib.hid (HB.out.alloc HB.out.size (itO X r c' kk p d S))
      have HVO := Lib.hid (fun g (hg : u4.ownBlock = some g) => (HO.out.lt g hg).2)
      obtain ⟨p0, p1, p2, p3, p4, p5, p6⟩ := HCc.out
      cases v
      · have HNO := Lib.hid (show ¬ (∀ x ∈ l, rightI x = true) from fun h => by rw [h x hxm] at hv; cases hv)
        clear hcell hg hd hxm hI hwl hll hlk hM hMl hwas HNX hal hal2 hb1 hv
        go_wp2_with ((with_reducible refine (CR _).out.mono ?_); rintro e w2 ⟨rfl, hq⟩; have HF := Lib.hid (HBW.out.trans (hq.mono HBW.out.size)); clear hq)
        go_ret2
        exact .inr ⟨HNO.out, rfl, HF.out⟩
      · obtain ⟨Y, hY⟩ : ∃ Y, putV al ++ (txtB (x.key.drop al) ++ restB x) = Y := ⟨_, rfl⟩
        rw [hY] at HNX
        have hYl : Y.length ≤ 600 := by
          have h1 := putV_len10 al (by omega)
          have h2 := (icp_len (q := x.key.drop al) (by rw [List.length_drop]; have := (rightI_iff.1 hv).2.1; omega) hv).2.2
          rw [← hY, List.length_append]; omega
        obtain ⟨NY, hNY⟩ : ∃ N, N = Y.length := ⟨_, rfl⟩
        have CB := fun W => Lib.hid (icp_behind was hwl U HU.out x hv X r c' kk p d S hI al hal NY Y hY hNY W)
        have HNX2 := Lib.hid (show PN ++ listB [] (l.take (k + 1)) = M ++ Y by rw [HNX.out, ← hM, List.append_assoc])
        have HNY := Lib.hid hNY
        have HL := Lib.hid (show M.length + Y.length ≤ 140737488355328 by omega)
        have HX2 := Lib.hid (show ∀ y ∈ l.take (k + 1), rightI y = true from fun y hy => by
          rw [List.take_add_one, hg] at hy
          rcases List.mem_append.1 hy with h | h
          · exact HX.out y h
          · rw [Option.toList_some, List.mem_singleton] at h; subst h; exact hv)
        clear hcell hg hd hxm hI hwl hll hlk hM hMl hwas HNX hal hal2 hb1 hv hY hYl hNY
        go_wp2_with (first
          | ((with_reducible refine (CR _).out.mono ?_); rintro e w2 ⟨rfl, hq⟩; have HO2 := Lib.hid ((HO.out.alloc _).below hq); have HW2 := Lib.hid (HW0.out.below hq); have HB2 := Lib.hid (HBW.out.trans (hq.mono HBW.out.size)); clear hq; obtain ⟨⟨q0, q1, q2, q3, q4, q5, q6⟩, -⟩ := HW2.out)
          | ((with_reducible refine (CB _).out.mono ?_); rintro e w3 ⟨A3, c3, rfl, -, hrd, hq⟩; have HR3 := Lib.hid hrd.row; have HO3 := Lib.hid (HO2.out.below hq); have HW3 := Lib.hid (HW2.out.below hq); have HB3 := Lib.hid (HB2.out.trans (hq.mono HB2.out.size)); clear hrd hq q0 q1 q2 q3 q4 q5 q6)
          | (at_builtin; refine wpList_app_row rfl (.tmp 24) (.tmp 27) rfl w.heap.size _ M rfl HO3.out _ A3 c3 NY Y HNY.out rfl HR3.out HL.out HB3.out.size ?_; intro v4 w4 hown4 hg4 hb4 _; have HO4 := Lib.hid hown4; have HB4 := Lib.hid (HB3.out.trans hb4); have HW4 := Lib.hid (HW3.out.grown hg4 (fun e => Nat.lt_irrefl _ (HVO.out _ e.symm))); clear hown4 hg4 hb4; obtain ⟨⟨q0, q1, q2, q3, q4, q5, q6⟩, -⟩ := HW4.out))
        go_roundw
        case rel => exact ⟨k + 1, X, by omega, by go_num, rfl, by rw [HWN.out]; exact HKX.out, by rw [HNX2.out]; exact HO4.out, HB4, HX2⟩
        case measure => simp [intOf]; omega
    · have hkn : l.take k = l := List.take_of_length_le (by have := HN.out; omega)
      rw [hkn, HLL.out] at HO
      rw [hkn] at HX
      obtain ⟨A5, c5, rfl, -⟩ := HO.out.read_n HNL.out
      go_wp2_with fail
      go_ret2
      exact .inl ⟨HX.out, A5, c5, rfl, HO.out, HB.out⟩
end Go.Proofs.Ytfpgklpnpplnnaa
