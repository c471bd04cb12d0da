/-
  Several texts in one: FltH, FltI, FltJ, Law08B, Law08C, Law08D, Law08E, Law08F, Law08G, RgsMrg, SpanD, RgsG.
-/
import Derived.Deep.DeepCutAuto
import Derived.Deep.RegionHeld3
import Derived.Deep.RegionWith
import Derived.Test.YtbobgkepnocenaaMg4
/-
  Layer 9 (filter), the program: what a list of nodes comes to, where each comes to a truth.
-/
namespace Go.Proofs.Ytbobgkepnocenaa
open Go.RowKit

noncomputable def kBo : Kind Try.prog Bool where
  ty := 55
  el := 4
  size := 1
  bytes := 1
  zero := .bool false
  cells := fun b => [.bool b]
  len := fun _ => rfl
  one := fun b u hu => by simp at hu; subst hu; rfl
  pos := by decide
  under := Try.underlying55
  info := by kernel_rfl
  zsize := rfl
theorem bool_sizeOf (w : World) : (sizeOf 4).run Try.prog w = .ok 1 w := by kernel_rfl
theorem bools_at {w : World} {B : Nat} {A : Option Addr} {c : Nat} {l : List Bool} (h : kBo.Rd w B A c l) (hp : 0 < l.length) :
    ∃ b o, A = some ⟨b, o, none⟩ ∧ b < B ∧ ∀ k x, l[k]? = some x → w.cell? ⟨b, o + k, none⟩ = some (.bool x) := by
  obtain ⟨b, o, h1, h2, h3⟩ := h.at_ hp
  exact ⟨b, o, h1, h2, fun k x hx => by have := h3 k x hx 0 _ rfl; rwa [show kBo.size = 1 from rfl, Nat.mul_one, Nat.add_zero] at this⟩
set_option maxRecDepth 100000 in
set_option maxHeartbeats 4000000 in
theorem fold_bool (g : FuncId) (p : Addr) (f : Nd → List Bool → Bool) (eg : ∀ args w, (callFunc g args).run Try.prog w = .ok (.enter g args) w)
    (A : Option Addr) (c n : Nat) (l : List Nd) (hn : n = l.length) (hn9 : n ≤ 64) (w : World) (hr : kNd.Rd w w.heap.size A c l)
    (K : ∀ nd, nd ∈ l → nodeV nd = true → ∀ (O Q : Int) (S T : ByteArray), nd.op = O → nd.kids = Q → str nd.lo = S → str nd.hi = T → ∀ (ks : List Bool) (A : Option Addr) (c m : Nat), m = ks.length → ks.length = kidsN nd → ∀ x, f nd ks = x → ∀ W, Below w.heap.size w W → kBo.Rd W W.heap.size A c ks →
      Calls Try.prog g #[.agg #[.int .i64 O, .int .i64 Q, .string S, .string T], .slice A m c, .pointer p] W fun e W' => e = .returned (.bool x) ∧ Below W.heap.size W W')
    (hd : depV l 0 = some 1) (v : Bool) (hv : foldG f l [] = [v]) :
    Calls Try.prog 36 #[.slice A n c, .func (.func g) #[] #[.pointer p]] w fun e w' => e = .returned (.bool v) ∧ Below w.heap.size w w' := by
  have HN := Lib.hid hn
  have HR := Lib.hid hr
  have HV := Lib.hid hv
  have HD := Lib.hid hd
  have HK := Lib.hid K
  have hcx : n ≤ c := by rw [hn]; exact hr.room
  clear hn hr hv hd K
  go_enter Try.func36, Try.ntmps36
  go_wp2_with fail
  go_loopw [5, 13] (fun s i wr => ∃ (k m c2 : Nat) (O : List Bool) (A2 : Option Addr), k ≤ n ∧ m ≤ k ∧ m ≤ c2 ∧ Hid (m = O.length) ∧ Hid (depV (l.drop k) m = some 1) ∧ Hid (foldG f l [] = foldG f (l.drop k) O) ∧ Hid (kBo.Rd wr wr.heap.size A2 c2 O) ∧ s = .slice A2 m c2 ∧ i = .int .i64 k ∧ Below w.heap.size w wr) (fun _ i _ => n - (intOf i).toNat)
  case atStart => exact ⟨0, 0, 0, [], none, by omega, by omega, by omega, rfl, HD.out, rfl, Kind.Rd.nil _ _, rfl, rfl, Below.refl _ _⟩
  case round =>
    obtain ⟨k, m, c2, O, A2, hk, hmk, hmc, HM, HE, HF, HO, rfl, rfl, hb⟩ := hrel
    by_cases hlt : k < n
    · obtain ⟨r, hg, hdr, hrm⟩ := get_some (l := l) (k := k) (by have := HN.out; omega)
      obtain ⟨b, o, rfl, hb1, hcell⟩ := nds_at (HR.out.below hb) (by have := HN.out; omega)
      obtain ⟨c0, c1, d2, c3⟩ := hcell k r hg
      have he := HE.out
      rw [hdr] at he
      obtain ⟨hx, hqm, he2⟩ := dep_step he
      obtain ⟨g0, g32⟩ := nodeV_kids hx
      have hb2 := Nat.lt_of_lt_of_le hb1 hb.size
      obtain ⟨q, hq⟩ : ∃ q, kidsN r = q := ⟨_, rfl⟩
      rw [hq] at hqm he2
      have hkq : r.kids = (q : Int) := by rw [← hq]; unfold kidsN; omega
      obtain ⟨j, hj⟩ : ∃ j, m - q = j := ⟨_, rfl⟩
      rw [hj] at he2
      have hjm : j ≤ m := by omega
      have hjO : j ≤ O.length := by rw [← HM.out]; exact hjm
      obtain ⟨x, hxv⟩ : ∃ x, f r (O.drop j) = x := ⟨_, rfl⟩
      have HK2 := fun (W : World) (hW : Below w.heap.size w W) (hO : kBo.Rd W W.heap.size A2 c2 O) => Lib.hid (HK.out r hrm hx _ _ _ _ rfl rfl rfl rfl (O.drop j) (cutA A2 j c2) (c2 - j) (m - j) (by rw [List.length_drop, ← HM.out]) (by rw [List.length_drop, ← HM.out, hq]; omega) x hxv W hW (Kind.Rd.cut1 rfl hO hjO))
      have HF2 := Lib.hid (HF.out.trans (show foldG f (l.drop k) O = foldG f (l.drop (k + 1)) (O.take j ++ [x]) by rw [hdr, foldG_cons f r _ O (m := j) (by rw [← HM.out, hq]; exact hj), hxv]))
      have HE2 := Lib.hid he2
      have HT := fun (W : World) (hO : kBo.Rd W W.heap.size A2 c2 O) => Lib.hid (Kind.Rd.take hO hjO)
      have HTL := Lib.hid (show j = (O.take j).length by rw [List.length_take]; omega)
      have K1 := fun W : World => run_take3 (T := 55) (E := 4) Try.underlying55 bool_sizeOf W A2 m c2 j (by omega)
      have K2 := fun W : World => run_cut (T := 55) (E := 4) Try.underlying55 bool_sizeOf W A2 m c2 j (by omega)
      obtain ⟨A3, hA3⟩ : ∃ A3, cutA A2 j c2 = A3 := ⟨_, rfl⟩
      obtain ⟨c3', hc3⟩ : ∃ c3', c2 - j = c3' := ⟨_, rfl⟩
      obtain ⟨m3, hm3⟩ : ∃ m3, m - j = m3 := ⟨_, rfl⟩
      rw [hA3, hc3, hm3] at K2 HK2
      have hw : IntKind.i64.wrap ((m : Int) - (q : Int)) = (j : Int) := by rw [show (m : Int) - (q : Int) = (j : Int) by omega]; exact IntWalk.i64_in _ (by omega)
      have hj9 : j ≤ 64 := by omega
      obtain ⟨O', hO'⟩ : ∃ O', r.op = O' := ⟨_, rfl⟩
      obtain ⟨S, hS⟩ : ∃ S, str r.lo = S := ⟨_, rfl⟩
      obtain ⟨T, hT⟩ : ∃ T, str r.hi = T := ⟨_, rfl⟩
      rw [hO', hkq, hS, hT] at HK2
      rw [hO'] at c0
      rw [hkq] at c1
      rw [hS] at d2
      rw [hT] at c3
      have HB1 := Lib.hid (hb.alloc hb.size (.cells #[.int .i64 O', .int .i64 (q : Int), .string S, .string T] 33))
      have HO1 := Lib.hid (HO.out.call (below_new wr (.cells #[.int .i64 O', .int .i64 (q : Int), .string S, .string T] 33)))
      have HK3 := fun q' => HK2 ((wr.alloc (.cells #[.int .i64 O', .int .i64 (q : Int), .string S, .string T] 33)).drewN q') (below_drewN HB1.out q') (HO1.out.drewN q')
      have HB2 := fun q' => Lib.hid (below_drewN HB1.out q')
      have HO2 := fun q' => Lib.hid (show kBo.Rd ((wr.alloc (.cells #[.int .i64 O', .int .i64 (q : Int), .string S, .string T] 33)).drewN q') ((wr.alloc (.cells #[.int .i64 O', .int .i64 (q : Int), .string S, .string T] 33)).drewN q').heap.size A2 c2 O from HO1.out.drewN q')
      have HRW := fun W : World => Lib.hid (show RowAt (W.alloc (.cells #[.bool x] 4)) (W.heap.size + 1) (some ⟨W.heap.size, 0, none⟩) (kBo.row [x]) from (Kind.rd_new (k := kBo) (l := [x]) (n := 1) rfl rfl (by simp)).row)
      clear hcell hg hdr he he2 hx hqm hq hkq hj hjO hxv hA3 hc3 hm3 hO' hS hT HE HF HK2 HO HO1
      go_wp2_with fail
      go_quiet (fail)
      go_wp2_with (first
        | ((with_reducible refine (HK3 _).out.mono ?_); rintro e w3 ⟨rfl, hq⟩; have HB3 := Lib.hid ((HB2 _).out.trans (hq.mono (HB2 _).out.size)); have HO3 := Lib.hid ((HO2 _).out.call hq); clear hq)
        | (at_builtin; refine wpList_app_full kBo rfl (.tmp 29) (.tmp 34) rfl _ A2 j (O.take j) HTL.out rfl (HT _ (HO3.out.call (below_new w3 _))).out _ w3.heap.size x rfl (HRW w3).out (by omega) (by decide) ?_; intro v4 w4 hown hb4; obtain ⟨A4, c4, rfl, hrd⟩ := hown.read_n (n := j + 1) (by rw [List.length_append, ← HTL.out]; rfl); have HO4 := Lib.hid hrd; have HB4 := Lib.hid ((HB3.out.alloc HB3.out.size _).trans (hb4.mono (HB3.out.alloc HB3.out.size _).size)); have hroom := hrd.room; clear hown hb4 hrd))
      have hroom2 : j + 1 ≤ c4 := by rw [List.length_append, ← HTL.out] at hroom; exact hroom
      go_roundw
      case rel => exact ⟨k + 1, j + 1, c4, O.take j ++ [x], A4, by omega, by omega, hroom2, by rw [List.length_append, ← HTL.out]; rfl, HE2.out, HF2.out, HO4.out, rfl, by go_num, HB4.out⟩
      case measure => simp [intOf]; omega
    · have he := HE.out
      rw [List.drop_eq_nil_of_le (by have := HN.out; omega)] at he
      obtain rfl : m = 1 := by injection he
      have hf := HV.out.symm.trans HF.out
      rw [List.drop_eq_nil_of_le (by have := HN.out; omega)] at hf
      obtain rfl : O = [v] := hf.symm
      obtain ⟨b, o, rfl, hb1, hcell⟩ := bools_at HO.out (by simp)
      have c0 := hcell 0 v rfl
      rw [Nat.add_zero] at c0
      clear he hf hcell HF HE
      go_wp2_with fail
      go_ret
      exact ⟨rfl, hb⟩
end Go.Proofs.Ytbobgkepnocenaa

/-
  Layer 9 (filter), the program: is a truth among some; what a node comes to; has a filter a text.
-/
namespace Go.Proofs.Ytbobgkepnocenaa
open Go.RowKit

theorem ret_i64 {a b : Int} (h : a = b) : Ending.returned (.int .i64 a) = .returned (.int .i64 b) := by rw [h]
/-- Where a truth stands first. -/
def idxB (x : Bool) : List Bool → Int → Int
  | [], _ => -1
  | y :: l, k => match x == y with | true => k | false => idxB x l (k + 1)
theorem idxB_is (x : Bool) : ∀ (l : List Bool) (k : Int), 0 ≤ k → decide (0 ≤ idxB x l k) = l.contains x
  | [], k, _ => rfl
  | y :: l, k, hk => by
    rw [List.contains_cons, idxB]
    cases h : x == y with
    | true => rw [decide_eq_true hk]; rfl
    | false => rw [idxB_is x l (k + 1) (by omega)]; rfl
set_option maxHeartbeats 1000000 in
theorem index_bool (A : Option Addr) (c n : Nat) (l : List Bool) (x : Bool) (hn : n = l.length) (v : Int) (hv : idxB x l 0 = v) (w : World) (hr : kBo.Rd w w.heap.size A c l) :
    Calls Try.prog 56 #[.slice A n c, .bool x] w fun e w' => e = .returned (.int .i64 v) ∧ w = w' := by
  have HN := Lib.hid hn
  have HR := Lib.hid hr
  have HV := Lib.hid hv
  have hmx : n ≤ 9223372036854775807 := rd_max hr hn
  have hcx : n ≤ c := by rw [hn]; exact hr.room
  clear hn hr hv
  go_enter Try.func56, Try.ntmps56
  go_wp2_with fail
  go_loop [8] (fun i => ∃ k : Nat, k ≤ n ∧ Hid (idxB x l 0 = idxB x (l.drop k) k) ∧ i = .int .i64 k) (fun i => n - (intOf i).toNat)
  case atStart => exact ⟨0, by omega, rfl, rfl⟩
  case round =>
    obtain ⟨k, hk, HL, rfl⟩ := hrel
    by_cases hlt : k < n
    · obtain ⟨y, hg, hd, -⟩ := get_some (l := l) (k := k) (by have := HN.out; omega)
      obtain ⟨b1, o1, rfl, hb1, hcell1⟩ := bools_at HR.out (by have := HN.out; omega)
      have c0 := hcell1 k y hg
      obtain ⟨z, hz⟩ : ∃ z, (x == y) = z := ⟨_, rfl⟩
      have HL2 := Lib.hid (HL.out.trans (by rw [hd, idxB, hz]))
      clear hcell1 hg hd
      cases z
      · have HF := Lib.hid (HL2.out.trans (show (match false with | true => ((k : Nat) : Int) | false => idxB x (l.drop (k + 1)) ((k : Int) + 1)) = idxB x (l.drop (k + 1)) ((k + 1 : Nat) : Int) from rfl))
        clear HL2
        go_wp2_with fail
        go_round
        case rel => exact ⟨k + 1, by omega, HF, by go_num⟩
        case measure => simp [intOf]; omega
      · have HF := Lib.hid (HL2.out.trans (show (match true with | true => ((k : Nat) : Int) | false => idxB x (l.drop (k + 1)) ((k : Int) + 1)) = (k : Int) from rfl))
        clear HL2
        go_wp2_with fail
        go_ret
        exact ⟨ret_i64 (HF.out.symm.trans HV.out), rfl⟩
    · have HL2 := Lib.hid (HL.out.trans (show idxB x (l.drop k) (k : Int) = -1 by rw [List.drop_eq_nil_of_le (by have := HN.out; omega)]; rfl))
      go_wp2_with fail
      go_ret
      exact ⟨ret_i64 (HL2.out.symm.trans HV.out), rfl⟩
theorem contains_bool (A : Option Addr) (c n : Nat) (l : List Bool) (x : Bool) (hn : n = l.length) (v : Bool) (hv : l.contains x = v) (w : World) (hr : kBo.Rd w w.heap.size A c l) :
    Calls Try.prog 38 #[.slice A n c, .bool x] w fun e w' => e = .returned (.bool v) ∧ w = w' := by
  obtain ⟨i, hi⟩ : ∃ i, idxB x l 0 = i := ⟨_, rfl⟩
  have C := Lib.hid (index_bool A c n l x hn i hi w hr)
  have h0 : decide (0 ≤ i) = v := by rw [← hi, idxB_is x l 0 (Int.le_refl 0), hv]
  clear hn hr hv hi
  subst h0
  go_enter Try.func38, Try.ntmps38
  go_wp2_with ((with_reducible refine C.out.mono ?_); rintro e w1 ⟨rfl, rfl⟩)
  go_ret
  exact ⟨rfl, rfl⟩
set_option maxHeartbeats 4000000 in
theorem match_node (n : Nd) (hnv : nodeV n = true) (hl : n.lo.length ≤ 1000000) (O Q : Int) (S T : ByteArray) (hO : n.op = O) (hS : str n.lo = S) (hT : str n.hi = T) (s : List UInt8) (U : ByteArray) (hU : str s = U) (p : Addr)
    (ks : List Bool) (A : Option Addr) (c m : Nat) (hm : m = ks.length) (hk : ks.length = kidsN n) (x : Bool) (hx : boolN s n ks = x) (w : World) (hp : w.cell? p = some (.string U)) (hr : kBo.Rd w w.heap.size A c ks) :
    Calls Try.prog 37 #[.agg #[.int .i64 O, .int .i64 Q, .string S, .string T], .slice A m c, .pointer p] w fun e w' => e = .returned (.bool x) ∧ Below w.heap.size w w' := by
  have HB := Lib.hid ((Below.refl w.heap.size w).alloc (Nat.le_refl _) (.cells #[.int .i64 O, .int .i64 Q, .string S, .string T] 33))
  have HR := Lib.hid (hr.call HB.out)
  have hpl := World.block_lt_of_cell? w p hp
  have hp1 : (w.alloc (.cells #[.int .i64 O, .int .i64 Q, .string S, .string T] 33)).cell? p = some (.string U) := (HB.out.cell (p := p) hpl).trans hp
  have hcx : m ≤ c := by rw [hm]; exact hr.room
  unfold boolN at hx
  rw [hO] at hx
  by_cases h6 : O = 6
  · rw [if_pos h6] at hx
    have h1 := nodeV_not hnv (by rw [hO]; exact h6)
    rw [h1] at hk
    obtain ⟨y, rfl⟩ : ∃ y, ks = [y] := by
      match ks, hk with
      | [y], _ => exact ⟨y, rfl⟩
    obtain rfl : x = !y := hx.symm
    obtain rfl : m = 1 := hm
    obtain ⟨b, o, rfl, hb1, hcell⟩ := bools_at hr (by simp)
    have c0 := hcell 0 y rfl
    rw [Nat.add_zero] at c0
    subst h6
    clear hO hS hT hU hx hk hr hcell h1 hnv
    go_enter Try.func37, Try.ntmps37
    go_wp2_with fail
    go_ret
    exact ⟨rfl, HB.out⟩
  · rw [if_neg h6] at hx
    have n6 : (O == 6) = false := beq_eq_false_iff_ne.2 h6
    by_cases h7 : O = 7
    · rw [if_pos h7] at hx
      obtain ⟨y, hy⟩ : ∃ y, ks.contains false = y := ⟨_, rfl⟩
      have C := Lib.hid (contains_bool A c m ks false hm y hy _ HR.out)
      rw [hy] at hx
      subst hx
      subst h7
      clear hO hS hT hU hm hk hr hnv hy
      go_enter Try.func37, Try.ntmps37
      go_wp2_with ((with_reducible refine C.out.mono ?_); rintro e w1 ⟨rfl, rfl⟩)
      go_ret
      exact ⟨rfl, HB.out⟩
    · rw [if_neg h7] at hx
      have n7 : (O == 7) = false := beq_eq_false_iff_ne.2 h7
      by_cases h8 : O = 8
      · rw [if_pos h8] at hx
        have C := Lib.hid (contains_bool A c m ks true hm x hx _ HR.out)
        subst h8
        clear hO hS hT hU hm hk hr hnv hx
        go_enter Try.func37, Try.ntmps37
        go_wp2_with ((with_reducible refine C.out.mono ?_); rintro e w1 ⟨rfl, rfl⟩)
        go_ret
        exact ⟨rfl, HB.out⟩
      · rw [if_neg h8] at hx
        have n8 : (O == 8) = false := beq_eq_false_iff_ne.2 h8
        obtain ⟨r, hr2⟩ : ∃ r, ownR n = r := ⟨_, rfl⟩
        rw [hr2] at hx
        obtain ⟨U1, hU1⟩ : ∃ U, str r.lo = U := ⟨_, rfl⟩
        obtain ⟨V1, hV1⟩ : ∃ V, str r.hi = V := ⟨_, rfl⟩
        obtain ⟨p1, hp2⟩ : ∃ p, r.op = p := ⟨_, rfl⟩
        obtain ⟨WB, hWB⟩ : ∃ WB, w.alloc (.cells #[.int .i64 O, .int .i64 Q, .string S, .string T] 33) = WB := ⟨_, rfl⟩
        have CO := fun w => flt_own n O Q S T hO hS hT hl r hr2 U1 V1 p1 ⟨hU1, hV1, hp2⟩ w
        have CO := Lib.hid (fun L => cellL_of (a := WB) (l := L) CO)
        have CH := fun w => span_has r s U1 V1 U p1 x ⟨hU1, hV1, hp2⟩ hU hx w
        have CH := Lib.hid (fun L => cellL_of (a := WB) (l := L) CH)
        have hg := heap_new w (.cells #[.int .i64 O, .int .i64 Q, .string S, .string T] 33) _ rfl
        rw [hWB] at hg hp1 HB
        have g0 : WB.cell? ⟨w.heap.size, 0, none⟩ = some (.int .i64 O) := by rw [cell_of_row _ _ _ _ _ _ hg]; rfl
        have g1 : WB.cell? ⟨w.heap.size, 1, none⟩ = some (.int .i64 Q) := by rw [cell_of_row _ _ _ _ _ _ hg]; rfl
        have g2 : WB.cell? ⟨w.heap.size, 2, none⟩ = some (.string S) := by rw [cell_of_row _ _ _ _ _ _ hg]; rfl
        have g3 : WB.cell? ⟨w.heap.size, 3, none⟩ = some (.string T) := by rw [cell_of_row _ _ _ _ _ _ hg]; rfl
        have HC := Lib.hid (show CellL WB [(⟨w.heap.size, 0, none⟩, .int .i64 O), (⟨w.heap.size, 1, none⟩, .int .i64 Q), (⟨w.heap.size, 2, none⟩, .string S), (⟨w.heap.size, 3, none⟩, .string T), (p, .string U)] WB from ⟨g0, g1, g2, g3, hp1, Below.refl _ _⟩)
        clear hO hS hT hU hm hk hr hnv hx hr2 hU1 hV1 hp2 hp hp1 hpl hg HR
        go_enter Try.func37, Try.ntmps37
        go_wp2_with fail
        clear hWB g0 g1 g2 g3
        refine q_region (CellL WB [(⟨w.heap.size, 0, none⟩, .int .i64 O), (⟨w.heap.size, 1, none⟩, .int .i64 Q), (⟨w.heap.size, 2, none⟩, .string S), (⟨w.heap.size, 3, none⟩, .string T), (p, .string U)]) (by kernel_rfl) (by kernel_rfl) (cellL_drew HC.out) ?_
        repeat (first
          | go_big_quiet_skip
          | (go_big_quiet_want; (first
            | (refine q_take (v := ?_) ?_ ?_; rotate_left; (focus (intro w hSw; (try simp only [CellL] at hSw); go_split_ands; go_simp; (try with_reducible rfl); done)))
            | (refine q_call (CO.out _) ?_ ?_; (focus (intro w hSw; (try simp only [CellL] at hSw); go_split_ands; go_simp; done)))
            | (refine q_call (CH.out _) ?_ ?_; (focus (intro w hSw; (try simp only [CellL] at hSw); go_split_ands; go_simp; done)))); (try simp only [Act.put, List.setIfInBounds_toArray, List.set_cons_zero, List.set_cons_succ]); go_big_quiet_on))
        refine wpQuiet_nil ?_
        intro w2 hw2
        have HB2 := Lib.hid (HB.out.trans ((cellL_size hw2).mono HB.out.size))
        clear hw2
        go_wp2_with fail
        go_ret
        exact ⟨rfl, HB2.out⟩
end Go.Proofs.Ytbobgkepnocenaa

/-
  Layer 9 (filter), the program: has a filter a text.
-/
namespace Go.Proofs.Ytbobgkepnocenaa
open Go.RowKit

theorem k_nright : NRightC 10 := fun A c n a hn hs v hv w hr => flt_right A c n a hn (fun r hr => by have := (hs.2 r hr).1; omega) v hv w hr
set_option maxHeartbeats 1000000 in
theorem k_nmatch : NMatchC 12 := fun A c n a s U hU hn hs hsl v hv w hr => by
  have hmf : ∀ (fn : Fn) (first cap : Array Value) (w : World), (Instr.makeFunc fn first cap).run Try.prog w = .ok (.func fn first cap) w := fun _ _ _ _ => rfl
  obtain ⟨W1, hW1⟩ : ∃ W1, w.alloc (.cells #[.string U] 9) = W1 := ⟨_, rfl⟩
  have hb1 : Below w.heap.size w W1 := hW1 ▸ below_new w _
  have hr1 := hr.call hb1
  have hp : W1.cell? ⟨w.heap.size, 0, none⟩ = some (.string U) := by
    rw [← hW1, cell_of_row _ _ _ _ _ _ (heap_new w (.cells #[.string U] 9) _ rfl)]; rfl
  have hpl := World.block_lt_of_cell? W1 _ hp
  have hll : ∀ r ∈ a, r.lo.length ≤ 1000000 := fun r hr => by have := (hs.2 r hr).1; omega
  obtain ⟨x, hx⟩ : ∃ x, rightN a = x := ⟨_, rfl⟩
  have C1 := Lib.hid (flt_right A c n a hn hll x hx W1 hr1)
  have HB1 := Lib.hid hb1
  cases x
  · obtain rfl : v = false := by rw [← hv]; unfold matchN; rw [hx]; rfl
    clear hmf hU hn hs hsl hv hr hr1 hp hpl hll hx hb1
    go_enter Try.func12, Try.ntmps12
    go_wp2_with ((with_reducible refine C1.out.mono ?_); rintro e w2 ⟨rfl, hq⟩; have HB2 := Lib.hid (HB1.out.trans (hq.mono HB1.out.size)); clear hq)
    go_ret
    exact ⟨rfl, HB2.out⟩
  · have C2 := fun (W2 : World) (h : Below W1.heap.size W1 W2) => Lib.hid (fold_bool 37 ⟨w.heap.size, 0, none⟩ (boolN s) (enters_of Try.func37 (by kernel_rfl) rfl) A c n a hn (by rw [hn]; exact hs.1) W2 (hr1.call h)
      (fun nd hm hvn O Q S T hO hQ hS hT ks A3 c3 m3 hm3 hk3 x3 hx3 W3 hW3 hr3 => match_node nd hvn (hll nd hm) O Q S T hO hS hT s U hU ⟨w.heap.size, 0, none⟩ ks A3 c3 m3 hm3 hk3 x3 hx3 W3 ((hW3.cell (p := ⟨w.heap.size, 0, none⟩) (Nat.lt_of_lt_of_le hpl h.size)).trans ((h.cell (p := ⟨w.heap.size, 0, none⟩) hpl).trans hp)) hr3)
      ((rightN_iff.1 hx).2.2) v (by rw [fold_match hx s, hv]))
    clear hU hn hs hsl hv hr hr1 hp hpl hll hx hb1
    go_enter Try.func12, Try.ntmps12
    go_wp2_with (first
      | ((with_reducible refine C1.out.mono ?_); rintro e w2 ⟨rfl, hq⟩; have HQ := Lib.hid hq; have HB2 := Lib.hid (HB1.out.trans (hq.mono HB1.out.size)); clear hq)
      | ((with_reducible refine (C2 _ HQ.out).out.mono ?_); rintro e w3 ⟨rfl, hq⟩; have HB3 := Lib.hid (HB2.out.trans (hq.mono HB2.out.size)); clear hq))
    go_ret
    exact ⟨rfl, HB3.out⟩
end Go.Proofs.Ytbobgkepnocenaa

/-
  The laws of layer 8: the chapter's examples.
-/
namespace Go.Proofs.Ytbobgkepnocenaa
open Go.RowKit

theorem row_two (w : World) (r t : Rng) : kRng.Rd (w.alloc (.cells #[.string (str r.lo), .string (str r.hi), .bool r.op, .string (str t.lo), .string (str t.hi), .bool t.op] 45)) (w.alloc (.cells #[.string (str r.lo), .string (str r.hi), .bool r.op, .string (str t.lo), .string (str t.hi), .bool t.op] 45)).heap.size (some ⟨w.heap.size, 0, none⟩) 2 [r, t] := by
  rw [size1]; exact Kind.rd_new rfl rfl (by simp)
theorem ex_of : makeV 1 [⟨[99], [100], false⟩, ⟨[97], [99], false⟩] [] = [⟨[97], [100], false⟩] := by decide +kernel
theorem ex_not : makeV 4 [] [] = [⟨[], [], true⟩] := by decide +kernel
theorem ex_all : makeV 4 [⟨[], [], true⟩] [] = [] := by decide +kernel
end Go.Proofs.Ytbobgkepnocenaa

/-
  The laws of layer 8: RangesSets.
-/
namespace Go.Proofs.Ytbobgkepnocenaa
open Go.RowKit

theorem sameL_self (l : List Rng) : sameL l l = true := sameL_iff.2 rfl
end Go.Proofs.Ytbobgkepnocenaa

/-
  The laws of layer 8: RangesOf.
-/
namespace Go.Proofs.Ytbobgkepnocenaa
open Go.RowKit

theorem same_n (A B : Option Addr) (c d n m : Nat) (a b : List Rng) (hn : n = a.length) (hm : m = b.length) (v : Bool) (hv : sameL a b = v) (w : World) (ha : kRng.Rd w w.heap.size A c a) (hb : kRng.Rd w w.heap.size B d b) :
    Calls Try.prog 14 #[.slice A n c, .slice B m d] w fun e w' => e = .returned (.bool v) ∧ Below w.heap.size w w' := by
  subst hn hm; exact same_is A B c d a b v hv w ha hb
end Go.Proofs.Ytbobgkepnocenaa

/-
  The laws of layer 8: RangesSets.
-/
namespace Go.Proofs.Ytbobgkepnocenaa
open Go.RowKit

end Go.Proofs.Ytbobgkepnocenaa

/-
  The laws of layer 8: RangesSame.
-/
namespace Go.Proofs.Ytbobgkepnocenaa
open Go.RowKit

theorem tell_is {F : FuncId} {f : List Rng → List Rng → Bool} (h : TellC F f) (A B : Option Addr) (c d n m : Nat) (a b : List Rng) (hn : n = a.length) (hm : m = b.length) (ha' : SmallL 400 a) (hb' : SmallL 400 b) (v : Bool) (hv : f a b = v) (w : World) (ha : kRng.Rd w w.heap.size A c a) (hb : kRng.Rd w w.heap.size B d b) :
    Calls Try.prog F #[.slice A n c, .slice B m d] w fun e w' => e = .returned (.bool v) ∧ Below w.heap.size w w' := h A B c d n m a b hn hm ha' hb' v hv w ha hb
theorem sameL_sameV (a b : List Rng) : sameL (makeV 1 a []) (makeV 1 b []) = sameV a b := by
  rw [Bool.eq_iff_iff, sameL_iff]; unfold sameV normV; rw [decide_eq_true_eq]
theorem within_len (a b : List Rng) : (((makeV 3 a b).length : Int) == 0) = withinV a b := by
  unfold withinV
  cases makeV 3 a b with
  | nil => rfl
  | cons x l => rw [beq_eq_false_iff_ne.2 (by simp; omega)]; rfl
end Go.Proofs.Ytbobgkepnocenaa

/-
  The laws of layer 8: RangesLaws.
-/
namespace Go.Proofs.Ytbobgkepnocenaa
open Go.RowKit

theorem own_new (w : World) : kRng.Own (w.alloc (.cells #[] 45)) w.heap.size (.slice (some ⟨w.heap.size, 0, none⟩) 0 0) [] := own_none w _ _
end Go.Proofs.Ytbobgkepnocenaa

/-
  Plain facts on how right lists are made (layer 8): ranges in the order of their beginnings, merged; the edges of two lists, swept together. No program in this text.
-/
namespace Go.Proofs.Ytbobgkepnocenaa

/-! Ranges in the order of their beginnings, merged. -/
def mergeL : Option Rng → List Rng → List Rng
  | none, [] => []
  | some p, [] => [p]
  | none, r :: l => mergeL (some r) l
  | some p, r :: l => match gapR p r with
    | true => p :: mergeL (some r) l
    | false => match endLt p r with
      | true => mergeL (some ⟨p.lo, r.hi, r.op⟩) l
      | false => mergeL (some p) l
theorem mergeL_gap {p r : Rng} {l : List Rng} (h : gapR p r = true) : mergeL (some p) (r :: l) = p :: mergeL (some r) l := by rw [mergeL, h]
theorem mergeL_more {p r : Rng} {l : List Rng} (h : gapR p r = false) (h' : endLt p r = true) : mergeL (some p) (r :: l) = mergeL (some ⟨p.lo, r.hi, r.op⟩) l := by rw [mergeL, h, h']
theorem mergeL_in {p r : Rng} {l : List Rng} (h : gapR p r = false) (h' : endLt p r = false) : mergeL (some p) (r :: l) = mergeL (some p) l := by rw [mergeL, h, h']
/-- Ranges, each of which begins not behind those behind it. -/
def SortedL (l : List Rng) : Prop := l.Pairwise fun a b => ltB b.lo a.lo = false
theorem gapR_false {p r : Rng} (h : gapR p r = false) : p.op = true ∨ (p.op = false ∧ ltB p.hi r.lo = false) := by
  unfold gapR at h
  cases ho : p.op with
  | true => exact .inl rfl
  | false => rw [ho] at h; exact .inr ⟨rfl, h⟩
theorem endLt_true {p r : Rng} (h : endLt p r = true) : p.op = false ∧ (r.op = true ∨ (r.op = false ∧ ltB p.hi r.hi = true)) := by
  unfold endLt at h
  cases ho : p.op <;> cases hr : r.op <;> rw [ho, hr] at h
  · exact ⟨rfl, .inr ⟨rfl, h⟩⟩
  · exact ⟨rfl, .inl rfl⟩
  · cases h
  · cases h
theorem endLt_false {p r : Rng} (h : endLt p r = false) : p.op = true ∨ (p.op = false ∧ r.op = false ∧ ltB p.hi r.hi = false) := by
  unfold endLt at h
  cases ho : p.op <;> cases hr : r.op <;> rw [ho, hr] at h
  · exact .inr ⟨rfl, rfl, h⟩
  · cases h
  · exact .inl rfl
  · exact .inl rfl
theorem hasR_eq {r : Rng} (h : rightR r = true) (s : List UInt8) : hasR r s = (!ltB s r.lo && (r.op || ltB s r.hi)) := by unfold hasR aheadR; rw [h, Bool.true_and]
theorem more_right {p r : Rng} (hp : rightR p = true) (hr : rightR r = true) (h : ltB r.lo p.lo = false) : rightR ⟨p.lo, r.hi, r.op⟩ = true :=
  rightR_iff.2 ⟨(show p.lo.length ≤ 17 from rightR_lo hp), (show r.hi.length ≤ 17 from rightR_hi hr), (show r.op = true → r.hi = [] from rightR_op hr), (show r.op = false → ltB p.lo r.hi = true from fun ho => ltB_of_le_of_lt h (rightR_lt hr ho))⟩
theorem more_has {p r : Rng} (hp : rightR p = true) (hr : rightR r = true) (h : ltB r.lo p.lo = false) (hg : gapR p r = false) (he : endLt p r = true) (s : List UInt8) : hasR ⟨p.lo, r.hi, r.op⟩ s = (hasR p s || hasR r s) := by
  rw [hasR_eq (more_right hp hr h), hasR_eq hp, hasR_eq hr]
  obtain ⟨ho, he⟩ := endLt_true he
  rcases gapR_false hg with h1 | ⟨_, h1⟩
  · rw [ho] at h1; cases h1
  rw [ho, Bool.false_or]
  cases hs : ltB s p.hi with
  | true =>
    have h2 : (r.op || ltB s r.hi) = true := by
      rcases he with he | ⟨_, he⟩
      · rw [he]; rfl
      · rw [ltB_trans hs he, Bool.or_true]
    show (!ltB s p.lo && (r.op || ltB s r.hi)) = _
    rw [h2, Bool.and_true, Bool.and_true]
    cases h3 : ltB s p.lo with
    | false => rfl
    | true => rw [ltB_of_lt_of_le h3 h]; rfl
  | false =>
    have h2 : ltB s r.lo = false := leB_trans h1 hs
    have h3 : ltB s p.lo = false := leB_trans h h2
    show (!ltB s p.lo && (r.op || ltB s r.hi)) = _
    rw [h2, h3]; rfl
theorem in_has {p r : Rng} (hp : rightR p = true) (h : ltB r.lo p.lo = false) (he : endLt p r = false) (s : List UInt8) : hasR p s = (hasR p s || hasR r s) := by
  cases hs : hasR r s with
  | false => rw [Bool.or_false]
  | true =>
    rw [Bool.or_true]
    have h1 := hasR_ge hs
    have h2 := hasR_ahead hs
    rw [hasR_eq hp, leB_trans h h1]
    rcases endLt_false he with h3 | ⟨h3, h4, h5⟩
    · rw [h3]; rfl
    · unfold aheadR at h2
      rw [h4, Bool.false_or] at h2
      rw [ltB_of_lt_of_le h2 h5, Bool.or_true]; rfl
theorem mergeL_ok : ∀ (l : List Rng) (p : Rng), rightR p = true → (∀ r ∈ l, rightR r = true ∧ ltB r.lo p.lo = false) → SortedL l →
    rightL (mergeL (some p) l) = true ∧ (∀ s, hasL (mergeL (some p) l) s = (hasR p s || hasL l s)) ∧ ∃ t m, mergeL (some p) l = t :: m ∧ t.lo = p.lo
  | [], p, hp, _, _ => ⟨hp, fun s => by rw [show mergeL (some p) [] = [p] from rfl, hasL_cons], p, [], rfl, rfl⟩
  | r :: l, p, hp, hl, hs => by
    obtain ⟨hr, hlo⟩ := hl r (List.mem_cons_self ..)
    obtain ⟨hs1, hs2⟩ := List.pairwise_cons.1 hs
    have hl' : ∀ t ∈ l, rightR t = true ∧ ltB t.lo r.lo = false := fun t ht => ⟨(hl t (List.mem_cons_of_mem _ ht)).1, hs1 t ht⟩
    cases hg : gapR p r with
    | true =>
      obtain ⟨h1, h2, t, m, h3, h4⟩ := mergeL_ok l r hr hl' hs2
      rw [mergeL_gap hg]
      refine ⟨?_, fun s => by rw [hasL_cons, h2, hasL_cons], p, _, rfl, rfl⟩
      rw [h3] at h1 ⊢
      have h5 : gapR p t = true := by unfold gapR at hg ⊢; rw [h4]; exact hg
      unfold rightL
      rw [hp, h5, h1]; rfl
    | false =>
      cases he : endLt p r with
      | true =>
        obtain ⟨h1, h2, t, m, h3, h4⟩ := mergeL_ok l ⟨p.lo, r.hi, r.op⟩ (more_right hp hr hlo) (fun t ht => ⟨(hl' t ht).1, leB_trans hlo (hl' t ht).2⟩) hs2
        rw [mergeL_more hg he]
        exact ⟨h1, fun s => by rw [h2, more_has hp hr hlo hg he, hasL_cons, Bool.or_assoc], t, m, h3, h4⟩
      | false =>
        obtain ⟨h1, h2, t, m, h3, h4⟩ := mergeL_ok l p hp (fun t ht => hl t (List.mem_cons_of_mem _ ht)) hs2
        rw [mergeL_in hg he]
        exact ⟨h1, fun s => by rw [h2, hasL_cons, ← Bool.or_assoc, ← in_has hp hlo he], t, m, h3, h4⟩
theorem mergeL_all {l : List Rng} (hl : ∀ r ∈ l, rightR r = true) (hs : SortedL l) : rightL (mergeL none l) = true ∧ ∀ s, hasL (mergeL none l) s = hasL l s := by
  cases l with
  | nil => exact ⟨rfl, fun _ => rfl⟩
  | cons r l =>
    obtain ⟨hs1, hs2⟩ := List.pairwise_cons.1 hs
    obtain ⟨h1, h2, _⟩ := mergeL_ok l r (hl r (List.mem_cons_self ..)) (fun t ht => ⟨hl t (List.mem_cons_of_mem _ ht), hs1 t ht⟩) hs2
    exact ⟨h1, fun s => by rw [show mergeL none (r :: l) = mergeL (some r) l from rfl, h2, hasL_cons]⟩
/-- The right ones, in some order of their beginnings, merged: the right list of all. -/
theorem mergeL_norm {l m : List Rng} (hp : m.Perm (l.filter rightR)) (hs : SortedL m) : mergeL none m = normV l := by
  have hm : ∀ r ∈ m, rightR r = true := fun r hr => by have := hp.mem_iff.1 hr; exact (List.mem_filter.1 this).2
  obtain ⟨h1, h2⟩ := mergeL_all hm hs
  refine makeV_unique h1 fun s => ?_
  rw [h2, gV1, hasL_nil, Bool.or_false, Bool.eq_iff_iff]
  unfold hasL
  rw [List.any_eq_true, List.any_eq_true]
  constructor
  · rintro ⟨r, hr, h⟩; exact ⟨r, (List.mem_filter.1 (hp.mem_iff.1 hr)).1, h⟩
  · rintro ⟨r, hr, h⟩; exact ⟨r, hp.mem_iff.2 (List.mem_filter.2 ⟨hr, hasR_right h⟩), h⟩
/-- The last one that is kept, behind a range. -/
def lastR (p r : Rng) : Rng := match endLt p r with | true => ⟨p.lo, r.hi, r.op⟩ | false => p
theorem mergeL_last {p r : Rng} {l : List Rng} (h : gapR p r = false) : mergeL (some p) (r :: l) = mergeL (some (lastR p r)) l := by
  unfold lastR
  cases h' : endLt p r with
  | true => rw [mergeL_more h h']
  | false => rw [mergeL_in h h']

/-! The edges of a right list. -/
def edgesR : List Rng → List (List UInt8)
  | [] => []
  | r :: l => match r.op with
    | true => r.lo :: edgesR l
    | false => r.lo :: r.hi :: edgesR l
theorem edgesR_open {r : Rng} {l : List Rng} (h : r.op = true) : edgesR (r :: l) = r.lo :: edgesR l := by rw [edgesR, h]
theorem edgesR_shut {r : Rng} {l : List Rng} (h : r.op = false) : edgesR (r :: l) = r.lo :: r.hi :: edgesR l := by rw [edgesR, h]
theorem edgesR_append : ∀ (a b : List Rng), edgesR (a ++ b) = edgesR a ++ edgesR b
  | [], _ => rfl
  | r :: a, b => by
    rw [List.cons_append]
    cases ho : r.op with
    | true => rw [edgesR_open ho, edgesR_open ho, edgesR_append a b, List.cons_append]
    | false => rw [edgesR_shut ho, edgesR_shut ho, edgesR_append a b, List.cons_append, List.cons_append]
/-- Are texts rising? -/
def riseB : List (List UInt8) → Bool
  | [] => true
  | x :: l => risingB x l
theorem risingB_of {c x : List UInt8} {l : List (List UInt8)} (h : ltB c x = true) (h' : risingB x l = true) : risingB c (x :: l) = true := by unfold risingB; rw [h, h']; rfl
theorem edgesR_rise : ∀ {l : List Rng}, rightL l = true → (∀ c, (∀ r m, l = r :: m → ltB c r.lo = true) → risingB c (edgesR l) = true)
  | [], _, _, _ => rfl
  | r :: l, h, c, hc => by
    have h1 := hc r l rfl
    cases ho : r.op with
    | true =>
      have hl : l = [] := by
        cases l with
        | nil => rfl
        | cons t m => have := (rightL_gap h).1; rw [ho] at this; cases this
      rw [edgesR_open ho, hl]
      exact risingB_of h1 rfl
    | false =>
      rw [edgesR_shut ho]
      refine risingB_of h1 (risingB_of (rightR_lt (rightL_head h) ho) (edgesR_rise (rightL_tail h) _ fun t m e => ?_))
      subst e
      exact (rightL_gap h).2
theorem edgesR_riseB {l : List Rng} (h : rightL l = true) : riseB (edgesR l) = true := by
  cases l with
  | nil => rfl
  | cons r l =>
    cases ho : r.op with
    | true =>
      have hl : l = [] := by
        cases l with
        | nil => rfl
        | cons t m => have := (rightL_gap h).1; rw [ho] at this; cases this
      rw [edgesR_open ho, hl]; rfl
    | false =>
      rw [edgesR_shut ho]
      refine risingB_of (rightR_lt (rightL_head h) ho) (edgesR_rise (rightL_tail h) _ fun t m e => ?_)
      subst e
      exact (rightL_gap h).2
theorem edgesR_len17 : ∀ {l : List Rng}, (∀ r ∈ l, rightR r = true) → ∀ x ∈ edgesR l, x.length ≤ 17
  | [], _, x, hx => by cases hx
  | r :: l, h, x, hx => by
    have h1 := h r (List.mem_cons_self ..)
    have h2 := edgesR_len17 fun t ht => h t (List.mem_cons_of_mem _ ht)
    cases ho : r.op with
    | true =>
      rw [edgesR_open ho] at hx
      rcases List.mem_cons.1 hx with rfl | hx
      · exact rightR_lo h1
      · exact h2 x hx
    | false =>
      rw [edgesR_shut ho] at hx
      rcases List.mem_cons.1 hx with rfl | hx
      · exact rightR_lo h1
      · rcases List.mem_cons.1 hx with rfl | hx
        · exact rightR_hi h1
        · exact h2 x hx
theorem edgesR_len : ∀ l : List Rng, (edgesR l).length ≤ 2 * l.length
  | [] => by simp [edgesR]
  | r :: l => by
    have := edgesR_len l
    cases ho : r.op with
    | true => rw [edgesR_open ho]; simp only [List.length_cons]; omega
    | false => rw [edgesR_shut ho]; simp only [List.length_cons]; omega
/-- Is a text in, by the edges at which that turns? -/
def togV : Bool → List (List UInt8) → List UInt8 → Bool
  | v, [], _ => v
  | v, x :: l, s => match ltB s x with | true => v | false => togV (!v) l s
theorem togV_low {v : Bool} {x s : List UInt8} {l : List (List UInt8)} (h : ltB s x = true) : togV v (x :: l) s = v := by rw [togV, h]
theorem togV_high {v : Bool} {x s : List UInt8} {l : List (List UInt8)} (h : ltB s x = false) : togV v (x :: l) s = togV (!v) l s := by rw [togV, h]
theorem togV_all {v : Bool} {s : List UInt8} {l : List (List UInt8)} (h : ∀ x ∈ l, ltB s x = true) : togV v l s = v := by
  cases l with
  | nil => rfl
  | cons x l => exact togV_low (h x (List.mem_cons_self ..))
theorem togV_edges : ∀ {l : List Rng}, rightL l = true → ∀ s, togV false (edgesR l) s = hasL l s
  | [], _, _ => rfl
  | r :: l, h, s => by
    have hr := rightL_head h
    cases h1 : ltB s r.lo with
    | true =>
      have h2 : hasL (r :: l) s = false := by
        cases hc : hasL (r :: l) s with
        | false => rfl
        | true => rw [hasL_ge h hc] at h1; cases h1
      rw [h2]
      cases ho : r.op with
      | true => rw [edgesR_open ho, togV_low h1]
      | false => rw [edgesR_shut ho, togV_low h1]
    | false =>
      cases ho : r.op with
      | true =>
        have hl : l = [] := by
          cases l with
          | nil => rfl
          | cons t m => have := (rightL_gap h).1; rw [ho] at this; cases this
        rw [edgesR_open ho, togV_high h1, hl, hasL_cons, hasR_eq hr, h1, ho]; rfl
      | false =>
        rw [edgesR_shut ho, togV_high h1, hasL_cons, hasR_eq hr, h1, ho]
        cases h3 : ltB s r.hi with
        | true => rw [togV_low h3]; rfl
        | false => rw [togV_high h3, show (!!false) = false from rfl, togV_edges (rightL_tail h)]; rfl
theorem togV_det : ∀ (l : List (List UInt8)) (v : Bool) {s c : List UInt8}, (∀ x ∈ l, ltB s x = ltB c x) → togV v l s = togV v l c
  | [], _, _, _, _ => rfl
  | x :: l, v, s, c, h => by
    have h1 := h x (List.mem_cons_self ..)
    have h2 := togV_det l (!v) fun y hy => h y (List.mem_cons_of_mem _ hy)
    unfold togV
    rw [h1, h2]

/-! The edges of two lists, together. -/
/-- What is left of edges behind one that may be the first of them. -/
def dropE (e : List UInt8) : List (List UInt8) → List (List UInt8)
  | [] => []
  | x :: l => match decide (x = e) with | true => l | false => x :: l
/-- .. and whether a text is in from there on. -/
def passB (e : List UInt8) (v : Bool) : List (List UInt8) → Bool
  | [] => v
  | x :: _ => match decide (x = e) with | true => !v | false => v
theorem dropE_same {e : List UInt8} {l : List (List UInt8)} : dropE e (e :: l) = l := by rw [dropE, decide_eq_true rfl]
theorem dropE_other {e x : List UInt8} {l : List (List UInt8)} (h : x ≠ e) : dropE e (x :: l) = x :: l := by rw [dropE, decide_eq_false h]
theorem passB_same {e : List UInt8} {v : Bool} {l : List (List UInt8)} : passB e v (e :: l) = !v := by rw [passB, decide_eq_true rfl]
theorem passB_other {e x : List UInt8} {v : Bool} {l : List (List UInt8)} (h : x ≠ e) : passB e v (x :: l) = v := by rw [passB, decide_eq_false h]
theorem dropE_len (e : List UInt8) (l : List (List UInt8)) : (dropE e l).length ≤ l.length := by
  cases l with
  | nil => exact Nat.le_refl _
  | cons x l =>
    by_cases h : x = e
    · subst h; rw [dropE_same]; simp
    · rw [dropE_other h]; exact Nat.le_refl _
theorem dropE_mem {e x : List UInt8} {l : List (List UInt8)} (h : x ∈ dropE e l) : x ∈ l := by
  cases l with
  | nil => cases h
  | cons y l =>
    by_cases hy : y = e
    · subst hy; rw [dropE_same] at h; exact List.mem_cons_of_mem _ h
    · rw [dropE_other hy] at h; exact h
theorem mem_dropE {e x : List UInt8} {l : List (List UInt8)} (h : x ∈ l) (hne : x ≠ e) : x ∈ dropE e l := by
  cases l with
  | nil => cases h
  | cons y l =>
    by_cases hy : y = e
    · subst hy; rw [dropE_same]
      rcases List.mem_cons.1 h with rfl | h
      · exact absurd rfl hne
      · exact h
    · rw [dropE_other hy]; exact h
/-- Rising texts, none of them ahead of one. -/
def FromE (e : List UInt8) (l : List (List UInt8)) : Prop := riseB l = true ∧ ∀ x ∈ l, ltB x e = false
theorem FromE.drop {e : List UInt8} {l : List (List UInt8)} (h : FromE e l) : risingB e (dropE e l) = true := by
  obtain ⟨h1, h2⟩ := h
  cases l with
  | nil => rfl
  | cons x l =>
    by_cases hx : x = e
    · subst hx; rw [dropE_same]; exact h1
    · rw [dropE_other hx]
      refine risingB_of ?_ h1
      have h3 := h2 x (List.mem_cons_self ..)
      cases hc : ltB e x with
      | true => rfl
      | false => exact absurd (ltB_total h3 hc) hx
theorem riseB_of {c : List UInt8} {l : List (List UInt8)} (h : risingB c l = true) : riseB l = true := by
  cases l with
  | nil => rfl
  | cons x l => exact (rising_head h).2
theorem FromE.pass {e : List UInt8} {l : List (List UInt8)} {v : Bool} (_h : FromE e l) {s : List UInt8} (hs : ltB s e = false) : togV (passB e v l) (dropE e l) s = togV v l s := by
  cases l with
  | nil => rfl
  | cons x l =>
    by_cases hx : x = e
    · subst hx; rw [dropE_same, passB_same, togV_high hs]
    · rw [dropE_other hx, passB_other hx]
theorem FromE.at {e : List UInt8} {l : List (List UInt8)} {v : Bool} (h : FromE e l) : togV v l e = passB e v l := by
  rw [← h.pass (ltB_irrefl e)]
  exact togV_all (rising_all h.drop)
/-- The next edge of both. -/
def nearE : List (List UInt8) → List (List UInt8) → Option (List UInt8)
  | [], [] => none
  | [], y :: _ => some y
  | x :: _, [] => some x
  | x :: _, y :: _ => match ltB x y with | true => some x | false => some y
theorem nearE_lt {x y : List UInt8} {a b : List (List UInt8)} (h : ltB x y = true) : nearE (x :: a) (y :: b) = some x := by rw [nearE, h]
theorem nearE_ge {x y : List UInt8} {a b : List (List UInt8)} (h : ltB x y = false) : nearE (x :: a) (y :: b) = some y := by rw [nearE, h]
/-- What is known of the next edge of two rising lists. -/
theorem nearE_some {c e : List UInt8} {a b : List (List UInt8)} (ha : risingB c a = true) (hb : risingB c b = true) (h : nearE a b = some e) :
    ltB c e = true ∧ FromE e a ∧ FromE e b ∧ (dropE e a).length + (dropE e b).length < a.length + b.length ∧ (e ∈ a ∨ e ∈ b) := by
  have up : ∀ {x : List UInt8} {l : List (List UInt8)}, risingB x l = true → ∀ y ∈ x :: l, ltB y x = false := fun hl y hy => by
    rcases List.mem_cons.1 hy with rfl | hy
    · exact ltB_irrefl _
    · exact ltB_asymm (rising_all hl y hy)
  cases a with
  | nil =>
    cases b with
    | nil => cases h
    | cons y b =>
      obtain rfl : y = e := by rw [nearE] at h; injection h
      obtain ⟨h1, h2⟩ := rising_head hb
      refine ⟨h1, ⟨rfl, by simp⟩, ⟨h2, up h2⟩, ?_, .inr (List.mem_cons_self ..)⟩
      rw [dropE_same]; simp [dropE]
  | cons x a =>
    obtain ⟨h1, h2⟩ := rising_head ha
    cases b with
    | nil =>
      obtain rfl : x = e := by rw [nearE] at h; injection h
      refine ⟨h1, ⟨h2, up h2⟩, ⟨rfl, by simp⟩, ?_, .inl (List.mem_cons_self ..)⟩
      rw [dropE_same]; simp [dropE]
    | cons y b =>
      obtain ⟨h3, h4⟩ := rising_head hb
      cases hxy : ltB x y with
      | true =>
        rw [nearE_lt hxy] at h
        obtain rfl : x = e := by injection h
        refine ⟨h1, ⟨h2, up h2⟩, ⟨h4, fun z hz => leB_trans (ltB_asymm hxy) (up h4 z hz)⟩, ?_, .inl (List.mem_cons_self ..)⟩
        have := dropE_len x (y :: b)
        rw [dropE_same]; simp only [List.length_cons] at this ⊢; omega
      | false =>
        rw [nearE_ge hxy] at h
        obtain rfl : y = e := by injection h
        refine ⟨h3, ⟨h2, fun z hz => leB_trans hxy (up h2 z hz)⟩, ⟨h4, up h4⟩, ?_, .inr (List.mem_cons_self ..)⟩
        have := dropE_len y (x :: a)
        rw [dropE_same]; simp only [List.length_cons] at this ⊢; omega
theorem nearE_none {a b : List (List UInt8)} (h : nearE a b = none) : a = [] ∧ b = [] := by
  cases a with
  | nil => cases b with
    | nil => exact ⟨rfl, rfl⟩
    | cons y b => cases h
  | cons x a => cases b with
    | nil => cases h
    | cons y b => rw [nearE] at h; cases hxy : ltB x y <;> rw [hxy] at h <;> cases h
/-- All edges of both, rising. -/
def mrgE : Nat → List (List UInt8) → List (List UInt8) → List (List UInt8)
  | 0, _, _ => []
  | n + 1, a, b => match nearE a b with
    | none => []
    | some e => e :: mrgE n (dropE e a) (dropE e b)
theorem mrgE_some {n : Nat} {a b : List (List UInt8)} {e : List UInt8} (h : nearE a b = some e) : mrgE (n + 1) a b = e :: mrgE n (dropE e a) (dropE e b) := by rw [mrgE, h]
theorem mrgE_none {n : Nat} {a b : List (List UInt8)} (h : nearE a b = none) : mrgE n a b = [] := by
  cases n with
  | zero => rfl
  | succ n => rw [mrgE, h]
theorem mrgE_rise : ∀ (n : Nat) {c : List UInt8} {a b : List (List UInt8)}, risingB c a = true → risingB c b = true → risingB c (mrgE n a b) = true
  | 0, _, _, _, _, _ => rfl
  | n + 1, c, a, b, ha, hb => by
    cases h : nearE a b with
    | none => rw [mrgE_none h]; rfl
    | some e =>
      obtain ⟨h1, h2, h3, _⟩ := nearE_some ha hb h
      rw [mrgE_some h]
      exact risingB_of h1 (mrgE_rise n h2.drop h3.drop)
theorem mrgE_mem : ∀ (n : Nat) {c : List UInt8} {a b : List (List UInt8)}, risingB c a = true → risingB c b = true → a.length + b.length ≤ n → ∀ x, (x ∈ a ∨ x ∈ b) → x ∈ mrgE n a b
  | 0, _, a, b, _, _, hn, x, hx => by
    have h1 : a = [] := List.length_eq_zero_iff.1 (by omega)
    have h2 : b = [] := List.length_eq_zero_iff.1 (by omega)
    rw [h1, h2] at hx; rcases hx with hx | hx <;> cases hx
  | n + 1, c, a, b, ha, hb, hn, x, hx => by
    cases h : nearE a b with
    | none =>
      obtain ⟨h1, h2⟩ := nearE_none h
      rw [h1, h2] at hx; rcases hx with hx | hx <;> cases hx
    | some e =>
      obtain ⟨_, h2, h3, h4, _⟩ := nearE_some ha hb h
      rw [mrgE_some h]
      by_cases he : x = e
      · subst he; exact List.mem_cons_self ..
      · refine List.mem_cons_of_mem _ (mrgE_mem n h2.drop h3.drop (by omega) x ?_)
        rcases hx with hx | hx
        · exact .inl (mem_dropE hx he)
        · exact .inr (mem_dropE hx he)
theorem mrgE_of : ∀ (n : Nat) {a b : List (List UInt8)} {x : List UInt8}, x ∈ mrgE n a b → x ∈ a ∨ x ∈ b
  | 0, _, _, _, h => by cases h
  | n + 1, a, b, x, h => by
    cases hn : nearE a b with
    | none => rw [mrgE_none hn] at h; cases h
    | some e =>
      rw [mrgE_some hn] at h
      rcases List.mem_cons.1 h with rfl | h
      · cases a with
        | nil => cases b with
          | nil => cases hn
          | cons y b => injection hn with hn; subst hn; exact .inr (List.mem_cons_self ..)
        | cons u a => cases b with
          | nil => injection hn with hn; subst hn; exact .inl (List.mem_cons_self ..)
          | cons y b =>
            cases hu : ltB u y with
            | true => rw [nearE_lt hu] at hn; injection hn with hn; subst hn; exact .inl (List.mem_cons_self ..)
            | false => rw [nearE_ge hu] at hn; injection hn with hn; subst hn; exact .inr (List.mem_cons_self ..)
      · rcases mrgE_of n h with h | h
        · exact .inl (dropE_mem h)
        · exact .inr (dropE_mem h)
/-- What is swept, edge by edge: what is still to come. -/
def restE (n : Nat) (a b : List (List UInt8)) : Option (List UInt8) → List (List UInt8)
  | none => []
  | some e => e :: mrgE n (dropE e a) (dropE e b)
theorem restE_next (n : Nat) (a b : List (List UInt8)) : mrgE (n + 1) a b = restE n a b (nearE a b) := by
  cases hn : nearE a b with
  | none => rw [mrgE_none hn]; rfl
  | some e => rw [mrgE_some hn]; rfl
/-- The swept list is what is meant. -/
theorem sweep_make (op : Int) (a b : List Rng) (f : List UInt8 → Bool) (hf : ∀ s, f s = inV op a b s) (n : Nat) (hn : (edgesR (normV a)).length + (edgesR (normV b)).length ≤ n) :
    mkR f (restE n (edgesR (normV a)) (edgesR (normV b)) (some [])) none = makeV op a b := by
  have ra : rightL (normV a) = true := makeV_right _ _ _
  have rb : rightL (normV b) = true := makeV_right _ _ _
  have fa : FromE [] (edgesR (normV a)) := ⟨edgesR_riseB ra, fun x _ => ltB_nil x⟩
  have fb : FromE [] (edgesR (normV b)) := ⟨edgesR_riseB rb, fun x _ => ltB_nil x⟩
  have hlen : ∀ x ∈ mrgE n (dropE [] (edgesR (normV a))) (dropE [] (edgesR (normV b))), x.length ≤ 17 := fun x hx => by
    rcases mrgE_of n hx with h | h
    · exact edgesR_len17 (rightL_all ra) x (dropE_mem h)
    · exact edgesR_len17 (rightL_all rb) x (dropE_mem h)
  have hmem : ∀ x, (x ∈ edgesR (normV a) ∨ x ∈ edgesR (normV b)) → x ∈ [] :: mrgE n (dropE [] (edgesR (normV a))) (dropE [] (edgesR (normV b))) := fun x hx => by
    by_cases he : x = []
    · rw [he]; exact List.mem_cons_self ..
    · refine List.mem_cons_of_mem _ (mrgE_mem n fa.drop fb.drop ?_ x ?_)
      · have := dropE_len [] (edgesR (normV a)); have := dropE_len [] (edgesR (normV b)); omega
      · rcases hx with hx | hx
        · exact .inl (mem_dropE hx he)
        · exact .inr (mem_dropE hx he)
  have hdet : Det f ([] :: mrgE n (dropE [] (edgesR (normV a))) (dropE [] (edgesR (normV b)))) := fun s c h => by
    rw [hf, hf]
    unfold inV
    rw [← normV_has a s, ← normV_has b s, ← normV_has a c, ← normV_has b c, ← togV_edges ra, ← togV_edges rb, ← togV_edges ra, ← togV_edges rb,
      togV_det (edgesR (normV a)) false fun x hx => h x (hmem x (.inl hx)), togV_det (edgesR (normV b)) false fun x hx => h x (hmem x (.inr hx))]
  obtain ⟨h1, h2⟩ := mkR_all (mrgE_rise n fa.drop fb.drop) hlen hdet
  exact makeV_unique h1 fun s => by
    rw [show restE n (edgesR (normV a)) (edgesR (normV b)) (some []) = [] :: mrgE n (dropE [] (edgesR (normV a))) (dropE [] (edgesR (normV b))) from rfl, h2, hf]; rfl
end Go.Proofs.Ytbobgkepnocenaa

/-
  Layer 7 (span): which of two ranges ends ahead.
-/
namespace Go.Proofs.Ytbobgkepnocenaa
open Go.RowKit

theorem span_upTo (S T : ByteArray) (o : Bool) (w : World) :
    Calls Try.prog 69 #[.agg #[.string S, .string T, .bool o]] w fun e w' => e = .returned (.agg #[.string ⟨#[]⟩, .string T, .bool o]) ∧ Below w.heap.size w w' := by
  go_enter Try.func69, Try.ntmps69
  go_wp2_with fail
  exact bodyPost_ret (v := .agg #[.string ⟨#[]⟩, .string T, .bool o]) (by simp [results, Try.results69, go_sem]) rfl ⟨rfl, ((Below.refl _ _).alloc (Nat.le_refl _) _).alloc (by simp) _⟩
set_option maxHeartbeats 1600000 in
/-- What Ends does with right ranges: the way is told by six cases. -/
theorem span_ends (r t : Rng) (S T U V : ByteArray) (o p : Bool) (hr : IsR r S T o) (ht : IsR t U V p) (v : Int) (hv : endsR r t = v) (w : World) :
    Calls Try.prog 51 #[.agg #[.string S, .string T, .bool o], .agg #[.string U, .string V, .bool p]] w fun e w' => e = .returned (.int .i64 v) ∧ Below w.heap.size w w' := by
  obtain ⟨v1, e1⟩ : ∃ v1, rightR r = v1 := ⟨_, rfl⟩
  obtain ⟨v2, e2⟩ : ∃ v2, rightR t = v2 := ⟨_, rfl⟩
  have R1 := fun w => Lib.hid (span_right r S T o v1 hr e1 w)
  have R2 := fun w => Lib.hid (span_right t U V p v2 ht e2 w)
  cases v1
  case true =>
    cases v2
    case true =>
      have T1 := fun w => Lib.hid (span_upTo S T o w)
      have T2 := fun w => Lib.hid (span_upTo U V p w)
      have HO1 := fun e => Lib.hid (rightR_op e1 e)
      have HO2 := fun e => Lib.hid (rightR_op e2 e)
      obtain ⟨-, h2, h3⟩ := hr
      obtain ⟨-, h5, h6⟩ := ht
      have EQ := fun q hq w => Lib.hid (eq_rng_is ⟨#[]⟩ T ⟨#[]⟩ V o p q hq w)
      unfold endsR endLt at hv
      rw [e1, e2, h3, h6] at hv
      rw [h3] at HO1
      rw [h6] at HO2
      have key : (o = true ∧ p = true ∧ v = 0 ∧ T = V) ∨ (o = true ∧ p = false ∧ v = 1) ∨ (o = false ∧ p = true ∧ v = -1) ∨ (o = false ∧ p = false ∧ v = 0 ∧ T = V) ∨ (o = false ∧ p = false ∧ (T.toList == V.toList) = false ∧ Lib.compareBytes r.hi t.hi = v) := by
        cases o <;> cases p
        · rcases ltB_three r.hi t.hi with ⟨g1, g2, g3⟩ | ⟨g1, g2, g3⟩ | ⟨g1, g2, g3⟩
          · rw [g1, g2] at hv; exact .inr (.inr (.inr (.inr ⟨rfl, rfl, txt_ne h2 h5 g3, (cmp_lt g1).trans hv⟩)))
          · rw [g1, g2] at hv; exact .inr (.inr (.inr (.inr ⟨rfl, rfl, txt_ne h2 h5 g3, (cmp_gt g2).trans hv⟩)))
          · rw [g1, g2] at hv; exact .inr (.inr (.inr (.inl ⟨rfl, rfl, hv.symm, (h2.symm.trans (congrArg str g3)).trans h5⟩)))
        · exact .inr (.inr (.inl ⟨rfl, rfl, hv.symm⟩))
        · exact .inr (.inl ⟨rfl, rfl, hv.symm⟩)
        · exact .inl ⟨rfl, rfl, hv.symm, (h2.symm.trans (congrArg str ((HO1 rfl).out.trans (HO2 rfl).out.symm))).trans h5⟩
      have C := fun x hx w => Lib.hid (cmp_is r.hi t.hi T V h2 h5 x hx w)
      have KEY := Lib.hid key
      clear hv HO1 HO2 h2 h3 h5 h6 e1 e2 key
      go_enter Try.func51, Try.ntmps51
      go_wp2_with (first | ((with_reducible refine (R1 _).out.mono ?_); rintro e w1 ⟨rfl, hb1⟩; obtain ⟨hc1, hf1⟩ := bcell hb1) | ((with_reducible refine (R2 _).out.mono ?_); rintro e w2 ⟨rfl, hb2⟩; obtain ⟨hc2, hf2⟩ := bcell hb2))
      have hA := (((rgAt_new w S _ _ _).keep _).below hb1).below hb2
      have hB := ((rgAt_new (w.alloc _) U _ _ _).below hb1).below hb2
      rw [size1] at hB
      replace hb2 := (((Below.refl w.heap.size w).alloc (Nat.le_refl _) _).alloc (by simp) _).trans ((hb1.trans (hb2.mono hb1.size)).mono (by simp; omega))
      have HA := Lib.hid hA
      have HB := Lib.hid hB
      obtain ⟨a0, a1, a2, a3⟩ := hA
      obtain ⟨b0, b1, b2, b3⟩ := hB
      clear hb1 hc1 hf1 hc2 hf2 R1 R2
      have HW := Lib.hid hb2.size
      go_region_with (first
        | ((with_reducible refine (T1 _).out.mono ?_); rintro e w3 ⟨rfl, hb3⟩; clear a0 a1 a2 a3 b0 b1 b2 b3; (first | have HA := Lib.hid (HA.out.below hb3) | have HA := Lib.hid (HA.out.drew.below hb3)); (first | have HB := Lib.hid (HB.out.below hb3) | have HB := Lib.hid (HB.out.drew.below hb3)); obtain ⟨a0, a1, a2, a3⟩ := HA.out; obtain ⟨b0, b1, b2, b3⟩ := HB.out; (first | replace hb2 := hb2.trans (hb3.mono HW.out) | replace hb2 := hb2.drew.trans (hb3.mono HW.out)); replace HW := Lib.hid (Nat.le_trans HW.out hb3.size); clear hb3)
        | ((with_reducible refine (T2 _).out.mono ?_); rintro e w4 ⟨rfl, hb4⟩; clear a0 a1 a2 a3 b0 b1 b2 b3; (first | have HA := Lib.hid (HA.out.below hb4) | have HA := Lib.hid (HA.out.drew.below hb4)); (first | have HB := Lib.hid (HB.out.below hb4) | have HB := Lib.hid (HB.out.drew.below hb4)); obtain ⟨a0, a1, a2, a3⟩ := HA.out; obtain ⟨b0, b1, b2, b3⟩ := HB.out; (first | replace hb2 := hb2.trans (hb4.mono HW.out) | replace hb2 := hb2.drew.trans (hb4.mono HW.out)); replace HW := Lib.hid (Nat.le_trans HW.out hb4.size); clear hb4))
      all_goals
        rcases KEY.out with ⟨rfl, rfl, rfl, rfl⟩ | ⟨rfl, rfl, rfl⟩ | ⟨rfl, rfl, rfl⟩ | ⟨rfl, rfl, rfl, rfl⟩ | ⟨rfl, rfl, hne, hx⟩
        case' inr.inr.inr.inr =>
          replace EQ := EQ false (by rw [hne, Bool.and_false]; rfl)
          replace C := C v hx
        case' inl => replace EQ := EQ true (by simp)
        case' inr.inl => replace EQ := EQ false (by simp)
        case' inr.inr.inl => replace EQ := EQ false (by simp)
        case' inr.inr.inr.inl => replace EQ := EQ true (by simp)
        all_goals
          have EQ := fun w => (EQ w).out
          go_wp2_with ((with_reducible refine (C _).out.mono ?_); rintro e w' ⟨rfl, rfl⟩)
          go_ret
          exact ⟨rfl, below_set3 (below_set3 hb2 (Nat.le_refl _) _ _ _) (Nat.le_succ _) _ _ _⟩
    case false =>
      obtain rfl : v = 0 := by rw [← hv, endsR_wrong (by rw [e2, Bool.and_false])]
      clear hv e1 e2 hr ht
      go_enter Try.func51, Try.ntmps51
      go_wp2_with (first | ((with_reducible refine (R1 _).out.mono ?_); rintro e w1 ⟨rfl, hb1⟩; obtain ⟨hc1, hf1⟩ := bcell hb1) | ((with_reducible refine (R2 _).out.mono ?_); rintro e w2 ⟨rfl, hb2⟩; obtain ⟨hc2, hf2⟩ := bcell hb2))
      go_ret
      exact ⟨rfl, (((Below.refl w.heap.size w).alloc (Nat.le_refl _) _).alloc (by simp) _).trans ((hb1.trans (hb2.mono hb1.size)).mono (by simp; omega))⟩
  case false =>
    obtain rfl : v = 0 := by rw [← hv, endsR_wrong (by rw [e1]; rfl)]
    clear hv e1 e2 hr ht R2
    go_enter Try.func51, Try.ntmps51
    go_wp2_with ((with_reducible refine (R1 _).out.mono ?_); rintro e w1 ⟨rfl, hb1⟩; obtain ⟨hc1, hf1⟩ := bcell hb1)
    go_ret
    exact ⟨rfl, (((Below.refl w.heap.size w).alloc (Nat.le_refl _) _).alloc (by simp) _).trans (hb1.mono (by simp; omega))⟩
end Go.Proofs.Ytbobgkepnocenaa

/-
  Layer 8 (ranges), the program: is there a text between two; is a list right; which texts it has; are two lists the same, range by range.
-/
namespace Go.Proofs.Ytbobgkepnocenaa
open Go.RowKit

theorem rg_apart (r t : Rng) (S T U V : ByteArray) (o p v : Bool) (hr : IsR r S T o) (ht : IsR t U V p) (hv : gapR r t = v) (w : World) :
    Calls Try.prog 50 #[.agg #[.string S, .string T, .bool o], .agg #[.string U, .string V, .bool p]] w fun e w' => e = .returned (.bool v) ∧ Below w.heap.size w w' := by
  obtain ⟨-, h2, h3⟩ := hr
  obtain ⟨h4, -, -⟩ := ht
  obtain ⟨x, hx, hx1, -⟩ := cmp_test r.hi t.lo
  have C := fun w => Lib.hid (cmp_is r.hi t.lo T U h2 h4 x hx w)
  unfold gapR at hv
  rw [← hx1, h3] at hv
  clear hx hx1 h2 h3 h4
  obtain ⟨d, hd⟩ : ∃ d, decide (x < 0) = d := ⟨_, rfl⟩
  rw [hd] at hv
  subst hv
  cases o <;> cases d
  all_goals
    go_enter Try.func50, Try.ntmps50
    go_wp2_with ((with_reducible refine (C _).out.mono ?_); rintro e w' ⟨rfl, rfl⟩)
    go_ret
    exact ⟨rfl, ((Below.refl _ _).alloc (Nat.le_refl _) _).alloc (by simp) _⟩
end Go.Proofs.Ytbobgkepnocenaa
