/-
  The laws of layer 13: what the program's functions do, as they ask it.
-/
import Derived.Test.YtnfhkmlggajhaaaLaw13E
import Derived.Test.YtnfhkmlggajhaaaCntK
import Derived.Test.YtnfhkmlggajhaaaFull
import Derived.Lib.SliceRun
namespace Go.Proofs.Ytnfhkmlggajhaaa
open Go.RowKit

theorem clo_cunion (x y : Bool) (w : World) : Calls Try.prog 29 #[.bool x, .bool y] w fun e w' => e = .returned (.bool (x || y)) ∧ w = w' := by
  cases x <;> cases y
  all_goals
    go_enter Try.func29, Try.ntmps29
    go_wp2_with fail
    go_ret
    exact ⟨rfl, rfl⟩
theorem clo_cmeet (x y : Bool) (w : World) : Calls Try.prog 30 #[.bool x, .bool y] w fun e w' => e = .returned (.bool (x && y)) ∧ w = w' := by
  cases x <;> cases y
  all_goals
    go_enter Try.func30, Try.ntmps30
    go_wp2_with fail
    go_ret
    exact ⟨rfl, rfl⟩
theorem clo_cless (x y : Bool) (w : World) : Calls Try.prog 31 #[.bool x, .bool y] w fun e w' => e = .returned (.bool (x && !y)) ∧ w = w' := by
  cases x <;> cases y
  all_goals
    go_enter Try.func31, Try.ntmps31
    go_wp2_with fail
    go_ret
    exact ⟨rfl, rfl⟩
/-- What a call hands back that hands two lists on, of the call's own. -/
def CSetOC (F : FuncId) (op : Int) : Prop := ∀ (A B : Option Addr) (c d n m : Nat) (a b : List Rn), n = a.length → m = b.length → n ≤ 100000 → m ≤ 100000 → ∀ U, makeC op a b = U → ∀ N, U.length = N → ∀ w, kRn.Rd w w.heap.size A c a → kRn.Rd w w.heap.size B d b →
  Calls Try.prog F #[.slice A n c, .slice B m d] w (RetOC w N U)
theorem CSetOC.ret {F : FuncId} {op : Int} (h : CSetOC F op) : CSetC F op := fun A B c d n m a b hn hm h1 h2 U hU N hN w ha hb => (h A B c d n m a b hn hm h1 h2 U hU N hN w ha hb).mono fun _ _ h => h.ret
theorem k_cunion_own : CSetOC 16 1 := fun A B c d n m a b hn hm ha' hb' U hU N hN w ha hb => by
  have K := Lib.hid (cn_sweep 29 (fun x y => x || y) clo_cunion (enters_of Try.func29 (by kernel_rfl) rfl) 1 rfl A B c d n m a b (fun s => (gC1 _ _).symm) hn hm ha' hb' U hU N hN w ha hb)
  clear hn hm ha' hb' ha hb
  go_enter Try.func16, Try.ntmps16
  go_wp2_with ((with_reducible refine K.out.mono ?_); rintro e w1 ⟨A1, c1, rfl, hrd, hq⟩; have HR := Lib.hid hrd; clear hrd)
  go_ret
  exact ⟨A1, c1, rfl, HR.out, hq⟩
theorem k_cmeet_own : CSetOC 17 2 := fun A B c d n m a b hn hm ha' hb' U hU N hN w ha hb => by
  have K := Lib.hid (cn_sweep 30 (fun x y => x && y) clo_cmeet (enters_of Try.func30 (by kernel_rfl) rfl) 2 rfl A B c d n m a b (fun s => (gC2 _ _).symm) hn hm ha' hb' U hU N hN w ha hb)
  clear hn hm ha' hb' ha hb
  go_enter Try.func17, Try.ntmps17
  go_wp2_with ((with_reducible refine K.out.mono ?_); rintro e w1 ⟨A1, c1, rfl, hrd, hq⟩; have HR := Lib.hid hrd; clear hrd)
  go_ret
  exact ⟨A1, c1, rfl, HR.out, hq⟩
theorem k_cless_own : CSetOC 18 3 := fun A B c d n m a b hn hm ha' hb' U hU N hN w ha hb => by
  have K := Lib.hid (cn_sweep 31 (fun x y => x && !y) clo_cless (enters_of Try.func31 (by kernel_rfl) rfl) 3 rfl A B c d n m a b (fun s => (gC3 _ _).symm) hn hm ha' hb' U hU N hN w ha hb)
  clear hn hm ha' hb' ha hb
  go_enter Try.func18, Try.ntmps18
  go_wp2_with ((with_reducible refine K.out.mono ?_); rintro e w1 ⟨A1, c1, rfl, hrd, hq⟩; have HR := Lib.hid hrd; clear hrd)
  go_ret
  exact ⟨A1, c1, rfl, HR.out, hq⟩
theorem k_cunion : CSetC 16 1 := k_cunion_own.ret
theorem k_cmeet : CSetC 17 2 := k_cmeet_own.ret
theorem k_cless : CSetC 18 3 := k_cless_own.ret
theorem k_cright : CRightC 8 := fun A c n l hn _ v hv w hr => cn_right A c n l hn v hv w hr
theorem k_chas : CHasC 10 := fun A c n l x hn _ v hv w hr => cn_has A c n l x hn v hv w hr
theorem k_cof : COfC 13 := fun A c n l hn hnl U hU N hN w hr => (cn_of_own A c n l hn (by omega) U hU N hN w hr).mono fun _ _ h => h.ret
theorem cn_clone (A : Option Addr) (c n : Nat) (l : List Rn) (hn : n = l.length) (hnl : n ≤ 100000) (w : World) (hr : kRn.Rd w w.heap.size A c l) :
    Calls Try.prog 27 #[.slice A n c] w fun e w' => ∃ v, e = .returned v ∧ kRn.Own w' w.heap.size v l ∧ Below w.heap.size w w' := by
  have qT : ∀ (w : World) (a : Option Addr) (n c n' c' : Nat), (binOp .eql 22 (.slice a n c) (.slice none n' c')).run Try.prog w = .ok (.bool a.isNone) w := fun w a n c n' c' => Lib.run_eql_slice_nil w _ _ a n c n' c' Try.underlying22
  cases A with
  | none =>
    obtain rfl := hr.none
    obtain rfl : n = 0 := hn
    clear hr
    go_enter Try.func27, Try.ntmps27
    go_wp2_with fail
    go_ret
    exact ⟨_, rfl, Kind.Own.nil _ _, Below.refl _ _⟩
  | some p =>
    have HO : Hid (kRn.Own (w.alloc (.cells #[] 26)) w.heap.size (.slice (some ⟨w.heap.size, 0, none⟩) 0 0) []) := by
      refine Kind.Own.of_row (n := 0) ⟨by simp [Kind.row], .inr ⟨w.heap.size, 0, #[], rfl, Nat.le_refl _, heap_new w _ _ rfl, Nat.le_refl _, Nat.zero_le _, by simp, by simp [Kind.row]⟩⟩
    have HB := Lib.hid (below_new w (.cells #[] 26))
    have HR := Lib.hid (hr.call HB.out).row
    have HN := Lib.hid hn
    have HL := Lib.hid (show ([] : List Rn).length + l.length ≤ 1000000 by rw [List.length_nil]; omega)
    have HS := Lib.hid HB.out.size
    clear hn hr
    go_enter Try.func27, Try.ntmps27
    go_wp2_with (at_builtin; refine wpList_app_k kRn rfl (.tmp 5) (.tmp 6) rfl w.heap.size _ [] rfl HO.out _ (some p) c n l HN.out rfl HR.out HL.out (by decide) HS.out ?_; intro v3 w3 hown3 hg3 hb3 _; have HO3 := Lib.hid hown3; have HB3 := Lib.hid (HB.out.trans hb3); clear hown3 hb3 hg3)
    go_ret
    exact ⟨_, rfl, HO3.out, HB3.out⟩
set_option maxHeartbeats 2000000 in
theorem k_cadd_own (A B : Option Addr) (c d n m : Nat) (l : List Rn) (cs : List Int) (hn : n = l.length) (hm : m = cs.length) (hnl : n ≤ 100000) (hml : m ≤ 100000) (U : List Rn) (hU : ofC (l ++ cs.map runC) = U) (N : Nat) (hN : U.length = N) (w : World) (hl : kRn.Rd w w.heap.size A c l) (hc : kIt.Rd w w.heap.size B d cs) :
    Calls Try.prog 15 #[.slice A n c, .slice B m d] w (RetOC w N U) := by
  have KC := Lib.hid (cn_clone A c n l hn hnl w hl)
  have HM := Lib.hid hm
  have HC := Lib.hid hc
  have HN := Lib.hid hn
  have hcx : m ≤ d := by rw [hm]; exact hc.room
  have HU := Lib.hid hU
  have HNN := Lib.hid hN
  clear hn hm hl hc hU hN
  go_enter Try.func15, Try.ntmps15
  go_wp2_with ((with_reducible refine KC.out.mono ?_); rintro e w1 ⟨v1, rfl, ho, hq⟩; have HO1 := Lib.hid ho; have HB1 := Lib.hid hq; clear ho hq)
  clear KC
  go_loopw [5, 12] (fun v i wr => ∃ k : Nat, k ≤ m ∧ Hid (kRn.Own wr w.heap.size v (l ++ (cs.take k).map runC)) ∧ i = .int .i64 k ∧ Hid (Below w.heap.size w wr)) (fun _ i _ => m - (intOf i).toNat)
  case atStart => exact ⟨0, by omega, by rw [List.take_zero, List.map_nil, List.append_nil]; exact HO1, rfl, HB1⟩
  case round =>
    obtain ⟨k, hk, HO, rfl, HB⟩ := hrel
    by_cases hlt : k < m
    · obtain ⟨x, hg, hd, -⟩ := cnt_get (l := cs) (k := k) (by have := HM.out; omega)
      obtain ⟨b, o, rfl, hb1, hcell⟩ := its_at (HC.out.call HB.out) (by have := HM.out; omega)
      have c0 := hcell k x hg
      have HX := Lib.hid (show l ++ (cs.take (k + 1)).map runC = (l ++ (cs.take k).map runC) ++ [⟨x, x⟩] by rw [List.take_add_one, hg, List.map_append, ← List.append_assoc]; rfl)
      have HRW := fun w => Lib.hid (rn_row w x x)
      have HLE := Lib.hid (show (l ++ (cs.take k).map runC).length + [(⟨x, x⟩ : Rn)].length ≤ 1000000 by rw [List.length_append, List.length_map, List.length_take, List.length_singleton]; have := HN.out; omega)
      clear hcell hg hd
      go_wp2_with (at_builtin; refine wpList_app_k kRn rfl (.tmp 16) (.tmp 20) rfl w.heap.size _ _ rfl (Kind.Own.alloc HO.out _) _ (some ⟨wr.heap.size, 0, none⟩) 1 1 [⟨x, x⟩] rfl rfl (HRW wr).out HLE.out (by decide) (cle_alloc (HB.out.size) _) ?_; intro v3 w3 hown3 hg3 hb3 _; have HO3 := Lib.hid hown3; have HB3 := Lib.hid ((HB.out.alloc HB.out.size _).trans hb3); clear hown3 hb3 hg3)
      go_roundw
      case rel => exact ⟨k + 1, by omega, by rw [HX.out]; exact HO3, by go_num, HB3⟩
      case measure => simp [intOf]; omega
    · have hkn : cs.take k = cs := List.take_of_length_le (by have := HM.out; omega)
      rw [hkn] at HO
      obtain ⟨N9, hN9⟩ : ∃ N9, (l ++ cs.map runC).length = N9 := ⟨_, rfl⟩
      obtain ⟨A9, c9, rfl, hrd⟩ := HO.out.read_n hN9.symm
      have K := Lib.hid (cn_of_own A9 c9 N9 (l ++ cs.map runC) hN9.symm (by rw [← hN9, List.length_append, List.length_map]; have := HN.out; have := HM.out; omega) U HU.out N HNN.out wr hrd)
      clear hkn hrd hN9
      go_wp2_with ((with_reducible refine K.out.mono ?_); rintro e w5 ⟨A5, c5, rfl, ho, hq⟩; have HO5 := Lib.hid ho; have HB5 := Lib.hid hq; clear ho hq)
      go_ret
      exact ⟨A5, c5, rfl, HO5.out.mono HB.out.size, HB.out.trans (HB5.out.mono HB.out.size)⟩
theorem k_cadd : CAddC 15 := fun A B c d n m l cs hn hm h1 h2 U hU N hN w hl hc => (k_cadd_own A B c d n m l cs hn hm h1 h2 U hU N hN w hl hc).mono fun _ _ h => h.ret
set_option maxHeartbeats 1000000 in
theorem k_cbase : CNumC 20 baseC := fun A c n l hn hnl z hz w hr => by
  have hb := baseC_first l
  rw [hz] at hb
  have hR := ofC_right l
  obtain ⟨U, hU⟩ : ∃ U, ofC l = U := ⟨_, rfl⟩
  obtain ⟨N, hN⟩ : ∃ N, U.length = N := ⟨_, rfl⟩
  have K := Lib.hid (cn_of_own A c n l hn (by omega) U hU N hN w hr)
  rw [hU] at hb hR
  clear hn hr hU hz hnl
  cases U with
  | nil =>
    obtain rfl : N = 0 := hN.symm
    obtain rfl : z = 0 := hb
    clear hN hR
    go_enter Try.func20, Try.ntmps20
    go_wp2_with ((with_reducible refine K.out.mono ?_); rintro e w1 ⟨A1, c1, rfl, -, hq⟩; have HB := Lib.hid hq; clear hq)
    go_ret
    exact ⟨rfl, HB.out⟩
  | cons r u =>
    obtain ⟨X, hX⟩ : ∃ X, r.fr = X := ⟨_, rfl⟩
    obtain ⟨Y, hY⟩ : ∃ Y, r.to = Y := ⟨_, rfl⟩
    replace hb : z = (match decide (r.fr > 1) with | true => 0 | false => r.to) := hb
    rw [hX, hY] at hb
    have hN0 : 0 < N := by rw [← hN]; simp
    have hNd : ((N : Int) == 0) = false := beq_eq_false_iff_ne.2 (by omega)
    have HN := Lib.hid hN
    have HXY := Lib.hid (And.intro hX hY)
    clear hN hR hX hY
    by_cases hx : X > 1
    · rw [decide_eq_true hx] at hb
      replace hb : z = 0 := hb
      subst hb
      have hxd : decide (X > 1) = true := decide_eq_true hx
      clear hx
      go_enter Try.func20, Try.ntmps20
      go_wp2_with ((with_reducible refine K.out.mono ?_); rintro e w1 ⟨A1, c1, rfl, ho, hq⟩; have HB := Lib.hid hq; obtain ⟨b, o, rfl, hb1, hcell⟩ := rns_at ho.rd (by simp); obtain ⟨c0, c1'⟩ := hcell 0 r rfl; rw [Nat.zero_mul, Nat.add_zero, HXY.out.1] at c0; rw [Nat.zero_mul, Nat.add_zero, HXY.out.2] at c1'; clear ho hq hcell)
      go_ret
      exact ⟨rfl, HB.out⟩
    · rw [decide_eq_false hx] at hb
      replace hb : z = Y := hb
      subst hb
      have hxd : decide (X > 1) = false := decide_eq_false hx
      clear hx
      go_enter Try.func20, Try.ntmps20
      go_wp2_with ((with_reducible refine K.out.mono ?_); rintro e w1 ⟨A1, c1, rfl, ho, hq⟩; have HB := Lib.hid hq; obtain ⟨b, o, rfl, hb1, hcell⟩ := rns_at ho.rd (by simp); obtain ⟨c0, c1'⟩ := hcell 0 r rfl; rw [Nat.zero_mul, Nat.add_zero, HXY.out.1] at c0; rw [Nat.zero_mul, Nat.add_zero, HXY.out.2] at c1'; clear ho hq hcell)
      go_ret
      exact ⟨rfl, HB.out⟩
set_option maxHeartbeats 1000000 in
theorem k_cmost : CNumC 21 mostC := fun A c n l hn hnl z hz w hr => by
  have HN := Lib.hid hn
  have HR := Lib.hid hr
  have HZ := Lib.hid ((topC_most l).trans hz)
  have hmx := rd_maxC hr hn
  have hcx : n ≤ c := by rw [hn]; exact hr.room
  clear hn hr hz
  go_enter Try.func21, Try.ntmps21
  go_wp2_with fail
  go_loopw [3, 8] (fun v i wr => ∃ k : Nat, k ≤ n ∧ v = .int .i64 (topC 0 (l.take k)) ∧ i = .int .i64 k ∧ Below w.heap.size w wr) (fun _ i _ => n - (intOf i).toNat)
  case atStart => exact ⟨0, by omega, rfl, rfl, Below.refl _ _⟩
  case round =>
    obtain ⟨k, hk, rfl, rfl, hb⟩ := hrel
    by_cases hlt : k < n
    · obtain ⟨r, hg, hd, -⟩ := cnt_get (l := l) (k := k) (by have := HN.out; omega)
      obtain ⟨b, o, rfl, hb1, hcell⟩ := rns_at (HR.out.below hb) (by have := HN.out; omega)
      obtain ⟨c0, c1⟩ := hcell k r hg
      have hb2 := Nat.lt_of_lt_of_le hb1 hb.size
      obtain ⟨d, hdv⟩ : ∃ d, oneC r = d := ⟨_, rfl⟩
      have C := fun w => Lib.hid (cn_one r _ _ rfl rfl d hdv w)
      have HT := topC_take hg 0
      rw [hdv] at HT
      obtain ⟨X, hX⟩ : ∃ X, r.fr = X := ⟨_, rfl⟩
      obtain ⟨Y, hY⟩ : ∃ Y, r.to = Y := ⟨_, rfl⟩
      rw [hX, hY] at C
      rw [hY] at HT
      rw [hX] at c0
      rw [hY] at c1
      have HG := Lib.hid (rnAt_new wr X Y 26)
      have HB1 := Lib.hid (hb.alloc hb.size (.cells #[.int .i64 X, .int .i64 Y] 26))
      obtain ⟨T, hT⟩ : ∃ T, topC 0 (l.take k) = T := ⟨_, rfl⟩
      rw [hT] at HT ⊢
      clear hcell hg hd hX hY hdv hT
      cases d
      · have HT2 := Lib.hid (show topC 0 (l.take (k + 1)) = T from HT)
        clear HT
        go_wp2_with ((with_reducible refine (C _).out.mono ?_); rintro e w2 ⟨rfl, hq⟩; have HB2 := Lib.hid (HB1.out.trans (hq.mono HB1.out.size)); obtain ⟨g0, g1, g2⟩ := HG.out.below hq; clear hq)
        go_roundw
        case rel => exact ⟨k + 1, by omega, by rw [HT2.out], by go_num, HB2.out⟩
        case measure => simp [intOf]; omega
      · obtain ⟨Z, hZ⟩ : ∃ Z, max T Y = Z := ⟨_, rfl⟩
        have HT2 := Lib.hid (show topC 0 (l.take (k + 1)) = Z from HT.trans hZ)
        have hZ2 : (if T < Y then Y else T) = Z := by rw [← hZ]; split <;> omega
        clear HT
        go_wp2_with ((with_reducible refine (C _).out.mono ?_); rintro e w2 ⟨rfl, hq⟩; have HB2 := Lib.hid (HB1.out.trans (hq.mono HB1.out.size)); obtain ⟨g0, g1, g2⟩ := HG.out.below hq; clear hq)
        go_roundw
        case rel => exact ⟨k + 1, by omega, by rw [HT2.out], by go_num, HB2.out⟩
        case measure => simp [intOf]; omega
    · have HL2 := Lib.hid (show topC 0 (l.take k) = z by rw [List.take_of_length_le (by have := HN.out; omega)]; exact HZ.out)
      go_wp2_with fail
      go_ret
      exact ⟨by rw [HL2.out]; rfl, hb⟩
set_option maxHeartbeats 1000000 in
theorem k_cmany : CNumC 22 manyC := fun A c n l hn hnl z hz w hr => by
  have HR0 := Lib.hid (ofC_right l)
  obtain ⟨U, hU⟩ : ∃ U, ofC l = U := ⟨_, rfl⟩
  obtain ⟨N, hN⟩ : ∃ N, U.length = N := ⟨_, rfl⟩
  have K := Lib.hid (cn_of_own A c n l hn (by omega) U hU N hN w hr)
  have hN9 : N ≤ 200001 := by rw [← hN, ← hU]; have := ofC_len l; omega
  unfold manyC at hz
  rw [hU] at HR0 hz
  have HZ := Lib.hid hz
  have HN := Lib.hid hN
  clear hn hr hU hz hN
  go_enter Try.func22, Try.ntmps22
  go_wp2_with ((with_reducible refine K.out.mono ?_); rintro e w1 ⟨A1, c1, rfl, ho, hq⟩; have HB0 := Lib.hid hq; have HR := Lib.hid ho.rd; clear ho hq)
  clear K
  have hcx : N ≤ c1 := by rw [← HN.out]; exact HR.out.room
  go_loopw [3, 9] (fun v i wr => ∃ k : Nat, k ≤ N ∧ v = .int .i64 (sumC (U.take k)) ∧ i = .int .i64 k ∧ Below w1.heap.size w1 wr) (fun _ i _ => N - (intOf i).toNat)
  case atStart => exact ⟨0, by omega, rfl, rfl, Below.refl _ _⟩
  case round =>
    obtain ⟨k, hk, rfl, rfl, hb⟩ := hrel
    by_cases hlt : k < N
    · obtain ⟨r, hg, hd, hrm⟩ := cnt_get (l := U) (k := k) (by have := HN.out; omega)
      obtain ⟨b, o, rfl, hb1, hcell⟩ := rns_at (HR.out.below hb) (by have := HN.out; omega)
      obtain ⟨c0, c1'⟩ := hcell k r hg
      have hb2 := Nat.lt_of_lt_of_le hb1 hb.size
      have hr3 := oneC_iff.1 (rightC_all HR0.out r hrm)
      have s1 := sumC_range (rightC_take k HR0.out)
      have s2 := sumC_range (rightC_take (k + 1) HR0.out)
      have HT := sumC_take hg
      obtain ⟨X, hX⟩ : ∃ X, r.fr = X := ⟨_, rfl⟩
      obtain ⟨Y, hY⟩ : ∃ Y, r.to = Y := ⟨_, rfl⟩
      rw [hX, hY] at HT hr3
      rw [hX] at c0
      rw [hY] at c1'
      obtain ⟨S, hS⟩ : ∃ S, sumC (U.take k) = S := ⟨_, rfl⟩
      rw [hS] at HT s1 ⊢
      rw [HT] at s2
      have w1' : IntKind.i64.wrap (Y - X) = Y - X := IntWalk.i64_in _ (by omega)
      have w2' : IntKind.i64.wrap (Y - X + 1) = Y - X + 1 := IntWalk.i64_in _ (by omega)
      have w3' : IntKind.i64.wrap (S + (Y - X + 1)) = S + (Y - X + 1) := IntWalk.i64_in _ (by omega)
      have HT2 := Lib.hid HT
      have HB1 := Lib.hid (hb.alloc hb.size (.cells #[.int .i64 X, .int .i64 Y] 26))
      clear hcell hg hd hX hY hS HT s1 s2 hr3 hrm
      go_wp2_with fail
      go_roundw
      case rel => exact ⟨k + 1, by omega, by rw [HT2.out], by go_num, HB1.out⟩
      case measure => simp [intOf]; omega
    · have HL2 := Lib.hid (show sumC (U.take k) = z by rw [List.take_of_length_le (by have := HN.out; omega)]; exact HZ.out)
      go_wp2_with fail
      go_ret
      exact ⟨by rw [HL2.out]; rfl, HB0.out.trans (hb.mono HB0.out.size)⟩
end Go.Proofs.Ytnfhkmlggajhaaa
