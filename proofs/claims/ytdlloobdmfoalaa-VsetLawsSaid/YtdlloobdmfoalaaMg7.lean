/-
  Several texts in one: Law13H, VstP, VstK, VstM, VstL, VstQ, Law14H.
-/
import Derived.Lib.SliceRun
import Derived.Test.YtdlloobdmfoalaaMg6
/-
  The laws of layer 13: what the program's functions do, as they ask it.
-/
namespace Go.Proofs.Ytdlloobdmfoalaa
open Go.RowKit

theorem clo_cunion (x y : Bool) (w : World) : Calls Try.prog 60 #[.bool x, .bool y] w fun e w' => e = .returned (.bool (x || y)) ∧ w = w' := by
  cases x <;> cases y
  all_goals
    go_enter Try.func60, Try.ntmps60
    go_wp2_with fail
    go_ret
    exact ⟨rfl, rfl⟩
theorem clo_cmeet (x y : Bool) (w : World) : Calls Try.prog 61 #[.bool x, .bool y] w fun e w' => e = .returned (.bool (x && y)) ∧ w = w' := by
  cases x <;> cases y
  all_goals
    go_enter Try.func61, Try.ntmps61
    go_wp2_with fail
    go_ret
    exact ⟨rfl, rfl⟩
theorem clo_cless (x y : Bool) (w : World) : Calls Try.prog 62 #[.bool x, .bool y] w fun e w' => e = .returned (.bool (x && !y)) ∧ w = w' := by
  cases x <;> cases y
  all_goals
    go_enter Try.func62, Try.ntmps62
    go_wp2_with fail
    go_ret
    exact ⟨rfl, rfl⟩
/-- What a call hands back that hands two lists on, of the call's own. -/
def CSetOC (F : FuncId) (op : Int) : Prop := ∀ (A B : Option Addr) (c d n m : Nat) (a b : List Rn), n = a.length → m = b.length → n ≤ 100000 → m ≤ 100000 → ∀ U, makeC op a b = U → ∀ N, U.length = N → ∀ w, kRn.Rd w w.heap.size A c a → kRn.Rd w w.heap.size B d b →
  Calls Try.prog F #[.slice A n c, .slice B m d] w (RetOC w N U)
theorem CSetOC.ret {F : FuncId} {op : Int} (h : CSetOC F op) : CSetC F op := fun A B c d n m a b hn hm h1 h2 U hU N hN w ha hb => (h A B c d n m a b hn hm h1 h2 U hU N hN w ha hb).mono fun _ _ h => h.ret
theorem k_cunion_own : CSetOC 43 1 := fun A B c d n m a b hn hm ha' hb' U hU N hN w ha hb => by
  have K := Lib.hid (cn_sweep 60 (fun x y => x || y) clo_cunion (enters_of Try.func60 (by kernel_rfl) rfl) 1 rfl A B c d n m a b (fun s => (gC1 _ _).symm) hn hm ha' hb' U hU N hN w ha hb)
  clear hn hm ha' hb' ha hb
  go_enter Try.func43, Try.ntmps43
  go_wp2_with ((with_reducible refine K.out.mono ?_); rintro e w1 ⟨A1, c1, rfl, hrd, hq⟩; have HR := Lib.hid hrd; clear hrd)
  go_ret
  exact ⟨A1, c1, rfl, HR.out, hq⟩
theorem k_cmeet_own : CSetOC 44 2 := fun A B c d n m a b hn hm ha' hb' U hU N hN w ha hb => by
  have K := Lib.hid (cn_sweep 61 (fun x y => x && y) clo_cmeet (enters_of Try.func61 (by kernel_rfl) rfl) 2 rfl A B c d n m a b (fun s => (gC2 _ _).symm) hn hm ha' hb' U hU N hN w ha hb)
  clear hn hm ha' hb' ha hb
  go_enter Try.func44, Try.ntmps44
  go_wp2_with ((with_reducible refine K.out.mono ?_); rintro e w1 ⟨A1, c1, rfl, hrd, hq⟩; have HR := Lib.hid hrd; clear hrd)
  go_ret
  exact ⟨A1, c1, rfl, HR.out, hq⟩
theorem k_cless_own : CSetOC 45 3 := fun A B c d n m a b hn hm ha' hb' U hU N hN w ha hb => by
  have K := Lib.hid (cn_sweep 62 (fun x y => x && !y) clo_cless (enters_of Try.func62 (by kernel_rfl) rfl) 3 rfl A B c d n m a b (fun s => (gC3 _ _).symm) hn hm ha' hb' U hU N hN w ha hb)
  clear hn hm ha' hb' ha hb
  go_enter Try.func45, Try.ntmps45
  go_wp2_with ((with_reducible refine K.out.mono ?_); rintro e w1 ⟨A1, c1, rfl, hrd, hq⟩; have HR := Lib.hid hrd; clear hrd)
  go_ret
  exact ⟨A1, c1, rfl, HR.out, hq⟩
theorem k_cunion : CSetC 43 1 := k_cunion_own.ret
theorem k_cmeet : CSetC 44 2 := k_cmeet_own.ret
theorem k_cless : CSetC 45 3 := k_cless_own.ret
theorem k_cright : CRightC 53 := fun A c n l hn _ v hv w hr => cn_right A c n l hn v hv w hr
theorem k_chas : CHasC 34 := fun A c n l x hn _ v hv w hr => cn_has A c n l x hn v hv w hr
theorem k_cof : COfC 39 := fun A c n l hn hnl U hU N hN w hr => (cn_of_own A c n l hn (by omega) U hU N hN w hr).mono fun _ _ h => h.ret
set_option maxHeartbeats 1000000 in
theorem k_cbase : CNumC 50 baseC := fun A c n l hn hnl z hz w hr => by
  have hb := baseC_first l
  rw [hz] at hb
  have hR := ofC_right l
  obtain ⟨U, hU⟩ : ∃ U, ofC l = U := ⟨_, rfl⟩
  obtain ⟨N, hN⟩ : ∃ N, U.length = N := ⟨_, rfl⟩
  have K := Lib.hid (cn_of_own A c n l hn (by omega) U hU N hN w hr)
  rw [hU] at hb hR
  clear hn hr hU hz hnl
  cases U with
  | nil =>
    obtain rfl : N = 0 := hN.symm
    obtain rfl : z = 0 := hb
    clear hN hR
    go_enter Try.func50, Try.ntmps50
    go_wp2_with ((with_reducible refine K.out.mono ?_); rintro e w1 ⟨A1, c1, rfl, -, hq⟩; have HB := Lib.hid hq; clear hq)
    go_ret
    exact ⟨rfl, HB.out⟩
  | cons r u =>
    obtain ⟨X, hX⟩ : ∃ X, r.fr = X := ⟨_, rfl⟩
    obtain ⟨Y, hY⟩ : ∃ Y, r.to = Y := ⟨_, rfl⟩
    replace hb : z = (match decide (r.fr > 1) with | true => 0 | false => r.to) := hb
    rw [hX, hY] at hb
    have hN0 : 0 < N := by rw [← hN]; simp
    have hNd : ((N : Int) == 0) = false := beq_eq_false_iff_ne.2 (by omega)
    have HN := Lib.hid hN
    have HXY := Lib.hid (And.intro hX hY)
    clear hN hR hX hY
    by_cases hx : X > 1
    · rw [decide_eq_true hx] at hb
      replace hb : z = 0 := hb
      subst hb
      have hxd : decide (X > 1) = true := decide_eq_true hx
      clear hx
      go_enter Try.func50, Try.ntmps50
      go_wp2_with ((with_reducible refine K.out.mono ?_); rintro e w1 ⟨A1, c1, rfl, ho, hq⟩; have HB := Lib.hid hq; obtain ⟨b, o, rfl, hb1, hcell⟩ := rns_at ho.rd (by simp); obtain ⟨c0, c1'⟩ := hcell 0 r rfl; rw [Nat.zero_mul, Nat.add_zero, HXY.out.1] at c0; rw [Nat.zero_mul, Nat.add_zero, HXY.out.2] at c1'; clear ho hq hcell)
      go_ret
      exact ⟨rfl, HB.out⟩
    · rw [decide_eq_false hx] at hb
      replace hb : z = Y := hb
      subst hb
      have hxd : decide (X > 1) = false := decide_eq_false hx
      clear hx
      go_enter Try.func50, Try.ntmps50
      go_wp2_with ((with_reducible refine K.out.mono ?_); rintro e w1 ⟨A1, c1, rfl, ho, hq⟩; have HB := Lib.hid hq; obtain ⟨b, o, rfl, hb1, hcell⟩ := rns_at ho.rd (by simp); obtain ⟨c0, c1'⟩ := hcell 0 r rfl; rw [Nat.zero_mul, Nat.add_zero, HXY.out.1] at c0; rw [Nat.zero_mul, Nat.add_zero, HXY.out.2] at c1'; clear ho hq hcell)
      go_ret
      exact ⟨rfl, HB.out⟩
set_option maxHeartbeats 1000000 in
theorem k_cmost : CNumC 52 mostC := fun A c n l hn hnl z hz w hr => by
  have HN := Lib.hid hn
  have HR := Lib.hid hr
  have HZ := Lib.hid ((topC_most l).trans hz)
  have hmx := rd_maxC hr hn
  have hcx : n ≤ c := by rw [hn]; exact hr.room
  clear hn hr hz
  go_enter Try.func52, Try.ntmps52
  go_wp2_with fail
  go_loopw [3, 8] (fun v i wr => ∃ k : Nat, k ≤ n ∧ v = .int .i64 (topC 0 (l.take k)) ∧ i = .int .i64 k ∧ Below w.heap.size w wr) (fun _ i _ => n - (intOf i).toNat)
  case atStart => exact ⟨0, by omega, rfl, rfl, Below.refl _ _⟩
  case round =>
    obtain ⟨k, hk, rfl, rfl, hb⟩ := hrel
    by_cases hlt : k < n
    · obtain ⟨r, hg, hd, -⟩ := cnt_get (l := l) (k := k) (by have := HN.out; omega)
      obtain ⟨b, o, rfl, hb1, hcell⟩ := rns_at (HR.out.below hb) (by have := HN.out; omega)
      obtain ⟨c0, c1⟩ := hcell k r hg
      have hb2 := Nat.lt_of_lt_of_le hb1 hb.size
      obtain ⟨d, hdv⟩ : ∃ d, oneC r = d := ⟨_, rfl⟩
      have C := fun w => Lib.hid (cn_one r _ _ rfl rfl d hdv w)
      have HT := topC_take hg 0
      rw [hdv] at HT
      obtain ⟨X, hX⟩ : ∃ X, r.fr = X := ⟨_, rfl⟩
      obtain ⟨Y, hY⟩ : ∃ Y, r.to = Y := ⟨_, rfl⟩
      rw [hX, hY] at C
      rw [hY] at HT
      rw [hX] at c0
      rw [hY] at c1
      have HG := Lib.hid (rnAt_new wr X Y 45)
      have HB1 := Lib.hid (hb.alloc hb.size (.cells #[.int .i64 X, .int .i64 Y] 45))
      obtain ⟨T, hT⟩ : ∃ T, topC 0 (l.take k) = T := ⟨_, rfl⟩
      rw [hT] at HT ⊢
      clear hcell hg hd hX hY hdv hT
      cases d
      · have HT2 := Lib.hid (show topC 0 (l.take (k + 1)) = T from HT)
        clear HT
        go_wp2_with ((with_reducible refine (C _).out.mono ?_); rintro e w2 ⟨rfl, hq⟩; have HB2 := Lib.hid (HB1.out.trans (hq.mono HB1.out.size)); obtain ⟨g0, g1, g2⟩ := HG.out.below hq; clear hq)
        go_roundw
        case rel => exact ⟨k + 1, by omega, by rw [HT2.out], by go_num, HB2.out⟩
        case measure => simp [intOf]; omega
      · obtain ⟨Z, hZ⟩ : ∃ Z, max T Y = Z := ⟨_, rfl⟩
        have HT2 := Lib.hid (show topC 0 (l.take (k + 1)) = Z from HT.trans hZ)
        have hZ2 : (if T < Y then Y else T) = Z := by rw [← hZ]; split <;> omega
        clear HT
        go_wp2_with ((with_reducible refine (C _).out.mono ?_); rintro e w2 ⟨rfl, hq⟩; have HB2 := Lib.hid (HB1.out.trans (hq.mono HB1.out.size)); obtain ⟨g0, g1, g2⟩ := HG.out.below hq; clear hq)
        go_roundw
        case rel => exact ⟨k + 1, by omega, by rw [HT2.out], by go_num, HB2.out⟩
        case measure => simp [intOf]; omega
    · have HL2 := Lib.hid (show topC 0 (l.take k) = z by rw [List.take_of_length_le (by have := HN.out; omega)]; exact HZ.out)
      go_wp2_with fail
      go_ret
      exact ⟨by rw [HL2.out]; rfl, hb⟩
end Go.Proofs.Ytdlloobdmfoalaa

/-
  Layer 14 (vset), the program: the greatest count of a replica; the vector.
-/
namespace Go.Proofs.Ytdlloobdmfoalaa
open Go.RowKit

theorem most_is (l : List Rn) : 0 ≤ mostC l ∧ (∀ n, hasC l n = true → n ≤ mostC l) ∧ (mostC l = 0 ∨ hasC l (mostC l) = true) := by rw [← topC_most]; exact topC_ok l 0
theorem most_append (a b : List Rn) : mostC (a ++ b) = max (mostC a) (mostC b) := by
  obtain ⟨h1, h2, h3⟩ := most_is (a ++ b)
  obtain ⟨a1, a2, a3⟩ := most_is a
  obtain ⟨b1, b2, b3⟩ := most_is b
  have ha : mostC a ≤ mostC (a ++ b) := by
    rcases a3 with e | e
    · omega
    · exact h2 _ (by rw [hasC_append, e]; rfl)
  have hb : mostC b ≤ mostC (a ++ b) := by
    rcases b3 with e | e
    · omega
    · exact h2 _ (by rw [hasC_append, e, Bool.or_true])
  rcases h3 with e | e
  · omega
  · rw [hasC_append, Bool.or_eq_true] at e
    rcases e with e | e
    · have := a2 _ e; omega
    · have := b2 _ e; omega
theorem most_range (l : List Rn) : 0 ≤ mostC l ∧ mostC l ≤ 1099511627776 := by
  obtain ⟨h1, h2, h3⟩ := most_is l
  refine ⟨h1, ?_⟩
  rcases h3 with e | e
  · omega
  · exact (hasC_range e).2
set_option maxRecDepth 100000 in
set_option maxHeartbeats 2000000 in
theorem vs_most (A : Option Addr) (c n : Nat) (s : List Kn) (r : Int) (hn : n = s.length) (hnl : ∀ r, (runsV s r).length ≤ 100000) (z : Int) (hz : topS s r = z) (w : World) (hr : RdK w w.heap.size A c s) :
    Calls Try.prog 28 #[.slice A n c, .int .i64 r] w fun e w' => e = .returned (.int .i64 z) ∧ Below w.heap.size w w' := by
  have HN := Lib.hid hn
  have HR := Lib.hid hr
  have HL := Lib.hid hnl
  have hmx := rdk_max hr hn
  have hcx : n ≤ c := by rw [hn]; exact hr.room
  obtain ⟨p, hp⟩ : ∃ p, (decide (1 ≤ r) && decide (r ≤ 16)) = p := ⟨_, rfl⟩
  have C1 := fun w => Lib.hid (vs_rep r p hp w)
  unfold topS at hz
  rw [hp] at hz
  clear hn hr hnl
  cases p
  · obtain rfl : (0 : Int) = z := hz
    go_enter Try.func28, Try.ntmps28
    go_wp2_with ((with_reducible refine (C1 _).out.mono ?_); rintro e w1 ⟨rfl, rfl⟩)
    go_ret
    exact ⟨rfl, Below.refl _ _⟩
  · have HZ := Lib.hid (show mostC (runsV s r) = z from hz)
    clear hz hp
    go_enter Try.func28, Try.ntmps28
    go_wp2_with ((with_reducible refine (C1 _).out.mono ?_); rintro e w1 ⟨rfl, rfl⟩)
    go_loopw [5, 13] (fun v i wr => ∃ k : Nat, k ≤ n ∧ v = .int .i64 (mostC (runsV (s.take k) r)) ∧ i = .int .i64 k ∧ Hid (Below w.heap.size w wr)) (fun _ i _ => n - (intOf i).toNat)
    case atStart => exact ⟨0, by omega, rfl, rfl, Below.refl _ _⟩
    case round =>
      obtain ⟨k, hk, rfl, rfl, HW⟩ := hrel
      by_cases hlt : k < n
      · obtain ⟨x, hg, -, -⟩ := cnt_get (l := s) (k := k) (by have := HN.out; omega)
        obtain ⟨b, o, rfl, hb1, hcell⟩ := knowns_at (HR.out.call HW.out) (by have := HN.out; omega)
        obtain ⟨A1, n1, c1, hn1, hr1, q0, q1⟩ := hcell k x hg
        obtain ⟨X, hX⟩ : ∃ X, x.rep = X := ⟨_, rfl⟩
        rw [hX] at q0
        have hT := runsV_take r hg
        have HB := Lib.hid (HW.out.alloc HW.out.size (.cells #[.int .i64 X, .slice A1 n1 c1] 48))
        obtain ⟨T, hTT⟩ : ∃ T, mostC (runsV (s.take k) r) = T := ⟨_, rfl⟩
        rw [hTT]
        by_cases he : X = r
        · have hed : (X == r) = true := beq_iff_eq.2 he
          have hn1l : n1 ≤ 100000 := by
            have h1 := runsV_part s (k + 1) r
            rw [hT, partV_yes (hX.trans he), List.length_append] at h1
            have := HL.out r
            omega
          obtain ⟨Y, hY⟩ : ∃ Y, mostC x.runs = Y := ⟨_, rfl⟩
          have C2 := Lib.hid (k_cmost A1 c1 n1 x.runs hn1 hn1l Y hY _ (hr1.call (below_new wr (.cells #[.int .i64 X, .slice A1 n1 c1] 48))))
          obtain ⟨Z, hZ⟩ : ∃ Z, max T Y = Z := ⟨_, rfl⟩
          have HT2 := Lib.hid (show mostC (runsV (s.take (k + 1)) r) = Z by rw [hT, partV_yes (hX.trans he), most_append, hTT, hY, hZ])
          have HZZ := Lib.hid hZ
          clear hcell hg hr1 hn1 hT hX hTT hY he hZ hn1l
          go_wp2_with ((with_reducible refine C2.out.mono ?_); rintro e w2 ⟨rfl, hq⟩; have HB2 := Lib.hid (HB.out.trans (hq.mono HB.out.size)); clear hq)
          go_roundw
          case rel => exact ⟨k + 1, by omega, by rw [HT2.out, ← HZZ.out], by go_num, HB2⟩
          case measure => simp [intOf]; omega
        · have hed : (X == r) = false := beq_eq_false_iff_ne.2 he
          have HT2 := Lib.hid (show mostC (runsV (s.take (k + 1)) r) = T by rw [hT, partV_no (by rw [hX]; exact he), List.append_nil, hTT])
          clear hcell hg hr1 hn1 hT hX hTT he
          go_wp2_with fail
          go_roundw
          case rel => exact ⟨k + 1, by omega, by rw [HT2.out], by go_num, HB⟩
          case measure => simp [intOf]; omega
      · have HL2 := Lib.hid (show mostC (runsV (s.take k) r) = z by rw [List.take_of_length_le (by have := HN.out; omega)]; exact HZ.out)
        go_wp2_with fail
        go_ret
        exact ⟨by rw [HL2.out]; rfl, HW.out⟩
/-- How the vector stands while it is made: the result's cells, then its own; the rows behind them. -/
structure VcAt (w0 w : World) (k : Nat) (G : Nat → Int) (V : Nat → Value) (L : Nat → List Rn) : Prop where
  res : GrAt w w0.heap.size (fun _ => .int .i64 0)
  all : GrAt w (w0.heap.size + 1) (fun j => if j < k then .int .i64 (G j) else .int .i64 0)
  rows : RowsG w (w0.heap.size + 1 + 1) V L
  low : Below w0.heap.size w0 w
theorem VcAt.next {w0 w w' : World} {k : Nat} {G : Nat → Int} {V : Nat → Value} {L : Nat → List Rn} (h : VcAt w0 w k G V L) (hk : k < 16) (hb : Below w.heap.size w w') : VcAt w0 (w'.setCell ⟨w0.heap.size + 1, k, none⟩ (.int .i64 (G k))) (k + 1) G V L := by
  refine ⟨(h.res.below hb).other (by omega) _, ((h.all.below hb).set hk _).congr fun j _ => ?_, (h.rows.below hb).set (h.rows.low (by omega)) _, (h.low.trans (hb.mono h.low.size)).setCell (p := ⟨w0.heap.size + 1, k, none⟩) (Nat.le_succ _) _⟩
  by_cases e : j = k
  · subst e; rw [upd_at]; exact if_pos (by omega)
  · rw [upd_far _ _ e]
    by_cases h1 : j < k
    · rw [if_pos h1, if_pos (by omega)]
    · rw [if_neg h1, if_neg (by omega)]
theorem vec_end {fn : Func} {a : Act} {w0 w : World} {Z : Nat → Value} {G : Nat → Int} (h : GrAt w w0.heap.size Z) (hb : Below w0.heap.size w0 w) (hd : a.defers = []) (hr : ∀ w', GrAt w' w0.heap.size (fun j => .int .i64 (G j)) → (results fn a.tmps).run Try.prog w' = .ok (grV (fun j => .int .i64 (G j))) w') :
    bodyPost Try.prog fn (fun e w' => e = .returned (grV (fun j => .int .i64 (G j))) ∧ Below w0.heap.size w0 w') .ret a (set16 w w0.heap.size (fun j => .int .i64 (G j))) :=
  bodyPost_ret (hr _ (set16_at h)) hd ⟨rfl, below_set16 hb (Nat.le_refl _) _⟩
set_option maxRecDepth 100000 in
set_option maxHeartbeats 8000000 in
theorem vs_vector (A : Option Addr) (c n : Nat) (s : List Kn) (hn : n = s.length) (hnl : ∀ r, (runsV s r).length ≤ 100000) (G : Nat → Int) (hG : ∀ k : Nat, G k = baseC (runsV s ((k : Int) + 1))) (w : World) (hr : RdK w w.heap.size A c s) :
    Calls Try.prog 25 #[.slice A n c] w fun e w' => e = .returned (grV (fun j => .int .i64 (G j))) ∧ Below w.heap.size w w' := by
  obtain ⟨NA, hNA⟩ : ∃ NA : Nat → Nat, ∀ k : Nat, (runsV s ((k : Int) + 1)).length = NA k := ⟨_, fun _ => rfl⟩
  have C1 := fun w h => Lib.hid (vs_gather A c n s hn (fun r => by have := hnl r; omega) NA hNA w h)
  have KB := Lib.hid (fun (k : Nat) (A : Option Addr) (c : Nat) W h => k_cbase A c (NA k) (runsV s ((k : Int) + 1)) (hNA k).symm (by rw [← hNA]; exact hnl _) (G k) (hG k).symm W h)
  obtain ⟨w0, hw0⟩ : ∃ w0, w0 = (w.alloc (grO (fun _ => .int .i64 0) 39)).alloc (grO (fun _ => .int .i64 0) 39) := ⟨_, rfl⟩
  have hb0 : Below w.heap.size w w0 := by rw [hw0]; exact (below_new _ _).trans ((below_new _ _).mono (by simp))
  have hz0 : w0.heap.size = w.heap.size + 1 + 1 := by rw [hw0]; simp
  have HG0 := Lib.hid (show GrAt w0 w.heap.size (fun _ => .int .i64 0) by rw [hw0]; exact (grAt_new _ _ _).alloc _)
  have HG1 := Lib.hid (show GrAt w0 (w.heap.size + 1) (fun _ => .int .i64 0) by rw [hw0, ← size1 w (grO (fun _ => .int .i64 0) 39)]; exact grAt_new _ _ _)
  have HR := Lib.hid (hr.call hb0)
  have HZ0 := Lib.hid hz0
  have HW0 := Lib.hid hb0
  clear hn hr hnl hNA hG hz0 hb0
  go_enter Try.func25, Try.ntmps25
  go_upto_region 2 with fail
  rw [← hw0]
  clear hw0
  go_wp2_with ((with_reducible refine (C1 _ HR.out).out.mono ?_); rintro e w1 ⟨A1, c1, rfl, hrd, hq⟩; have HQ := Lib.hid (show VcAt w w1 0 G (slV A1 NA c1) (fun k => runsV s ((k : Int) + 1)) from ⟨HG0.out.below hq, (HG1.out.below hq).congr fun k _ => if_neg (by omega), HZ0.out ▸ hrd, HW0.out.trans (hq.mono HW0.out.size)⟩); clear hrd hq)
  clear C1 HG0 HG1 HR HW0
  go_loopw [8] (fun i wr => ∃ k : Nat, k ≤ 16 ∧ i = .int .i64 k ∧ Hid (VcAt w wr k G (slV A1 NA c1) (fun k => runsV s ((k : Int) + 1)))) (fun i _ => 16 - (intOf i).toNat)
  case atStart => exact ⟨0, by omega, rfl, HQ⟩
  case round =>
    obtain ⟨k, hk, rfl, HQ⟩ := hrel
    by_cases hlt : k < 16
    · have hd : decide ((k : Int) < 16) = true := decide_eq_true (by omega)
      have hk0 : (0 : Int) ≤ (k : Int) := by omega
      have hk1 : (k : Int) < 16 := by omega
      have I0 : ∀ w, (Instr.index 56 (.agg #[.slice (A1 0) (NA 0) (c1 0), .slice (A1 1) (NA 1) (c1 1), .slice (A1 2) (NA 2) (c1 2), .slice (A1 3) (NA 3) (c1 3), .slice (A1 4) (NA 4) (c1 4), .slice (A1 5) (NA 5) (c1 5), .slice (A1 6) (NA 6) (c1 6), .slice (A1 7) (NA 7) (c1 7), .slice (A1 8) (NA 8) (c1 8), .slice (A1 9) (NA 9) (c1 9), .slice (A1 10) (NA 10) (c1 10), .slice (A1 11) (NA 11) (c1 11), .slice (A1 12) (NA 12) (c1 12), .slice (A1 13) (NA 13) (c1 13), .slice (A1 14) (NA 14) (c1 14), .slice (A1 15) (NA 15) (c1 15)]) (.int .i64 (k : Int))).run Try.prog w = .ok (.slice (A1 k) (NA k) (c1 k)) w := fun w => idx16 (slV A1 NA c1) hlt w
      have K := Lib.hid (KB.out k (A1 k) (c1 k) wr ((HQ.out.rows.own k hlt).rd))
      go_wp2_with ((with_reducible refine K.out.mono ?_); rintro e w7 ⟨rfl, hq⟩; have HN7 := Lib.hid (HQ.out.next hlt hq); have q3 := (HQ.out.all.below hq).cell k hlt; have f3 := (HQ.out.all.below hq).free k; rw [if_neg (Nat.lt_irrefl k)] at q3; clear hq)
      go_roundw
      case rel => exact ⟨k + 1, by omega, by go_num, HN7⟩
      case measure => simp [intOf]; omega
    · have hd : decide ((k : Int) < 16) = false := decide_eq_false (by omega)
      obtain rfl : k = 16 := by omega
      have a0 : wr.cell? ⟨w.heap.size + 1, 0, none⟩ = some (.int .i64 (G 0)) := HQ.out.all.cell 0 (by omega)
      have a1 : wr.cell? ⟨w.heap.size + 1, 1, none⟩ = some (.int .i64 (G 1)) := HQ.out.all.cell 1 (by omega)
      have a2 : wr.cell? ⟨w.heap.size + 1, 2, none⟩ = some (.int .i64 (G 2)) := HQ.out.all.cell 2 (by omega)
      have a3 : wr.cell? ⟨w.heap.size + 1, 3, none⟩ = some (.int .i64 (G 3)) := HQ.out.all.cell 3 (by omega)
      have a4 : wr.cell? ⟨w.heap.size + 1, 4, none⟩ = some (.int .i64 (G 4)) := HQ.out.all.cell 4 (by omega)
      have a5 : wr.cell? ⟨w.heap.size + 1, 5, none⟩ = some (.int .i64 (G 5)) := HQ.out.all.cell 5 (by omega)
      have a6 : wr.cell? ⟨w.heap.size + 1, 6, none⟩ = some (.int .i64 (G 6)) := HQ.out.all.cell 6 (by omega)
      have a7 : wr.cell? ⟨w.heap.size + 1, 7, none⟩ = some (.int .i64 (G 7)) := HQ.out.all.cell 7 (by omega)
      have a8 : wr.cell? ⟨w.heap.size + 1, 8, none⟩ = some (.int .i64 (G 8)) := HQ.out.all.cell 8 (by omega)
      have a9 : wr.cell? ⟨w.heap.size + 1, 9, none⟩ = some (.int .i64 (G 9)) := HQ.out.all.cell 9 (by omega)
      have a10 : wr.cell? ⟨w.heap.size + 1, 10, none⟩ = some (.int .i64 (G 10)) := HQ.out.all.cell 10 (by omega)
      have a11 : wr.cell? ⟨w.heap.size + 1, 11, none⟩ = some (.int .i64 (G 11)) := HQ.out.all.cell 11 (by omega)
      have a12 : wr.cell? ⟨w.heap.size + 1, 12, none⟩ = some (.int .i64 (G 12)) := HQ.out.all.cell 12 (by omega)
      have a13 : wr.cell? ⟨w.heap.size + 1, 13, none⟩ = some (.int .i64 (G 13)) := HQ.out.all.cell 13 (by omega)
      have a14 : wr.cell? ⟨w.heap.size + 1, 14, none⟩ = some (.int .i64 (G 14)) := HQ.out.all.cell 14 (by omega)
      have a15 : wr.cell? ⟨w.heap.size + 1, 15, none⟩ = some (.int .i64 (G 15)) := HQ.out.all.cell 15 (by omega)
      have z0 : wr.cell? ⟨w.heap.size, 0, none⟩ = some (.int .i64 0) := HQ.out.res.cell 0 (by omega)
      have z1 : wr.cell? ⟨w.heap.size, 1, none⟩ = some (.int .i64 0) := HQ.out.res.cell 1 (by omega)
      have z2 : wr.cell? ⟨w.heap.size, 2, none⟩ = some (.int .i64 0) := HQ.out.res.cell 2 (by omega)
      have z3 : wr.cell? ⟨w.heap.size, 3, none⟩ = some (.int .i64 0) := HQ.out.res.cell 3 (by omega)
      have z4 : wr.cell? ⟨w.heap.size, 4, none⟩ = some (.int .i64 0) := HQ.out.res.cell 4 (by omega)
      have z5 : wr.cell? ⟨w.heap.size, 5, none⟩ = some (.int .i64 0) := HQ.out.res.cell 5 (by omega)
      have z6 : wr.cell? ⟨w.heap.size, 6, none⟩ = some (.int .i64 0) := HQ.out.res.cell 6 (by omega)
      have z7 : wr.cell? ⟨w.heap.size, 7, none⟩ = some (.int .i64 0) := HQ.out.res.cell 7 (by omega)
      have z8 : wr.cell? ⟨w.heap.size, 8, none⟩ = some (.int .i64 0) := HQ.out.res.cell 8 (by omega)
      have z9 : wr.cell? ⟨w.heap.size, 9, none⟩ = some (.int .i64 0) := HQ.out.res.cell 9 (by omega)
      have z10 : wr.cell? ⟨w.heap.size, 10, none⟩ = some (.int .i64 0) := HQ.out.res.cell 10 (by omega)
      have z11 : wr.cell? ⟨w.heap.size, 11, none⟩ = some (.int .i64 0) := HQ.out.res.cell 11 (by omega)
      have z12 : wr.cell? ⟨w.heap.size, 12, none⟩ = some (.int .i64 0) := HQ.out.res.cell 12 (by omega)
      have z13 : wr.cell? ⟨w.heap.size, 13, none⟩ = some (.int .i64 0) := HQ.out.res.cell 13 (by omega)
      have z14 : wr.cell? ⟨w.heap.size, 14, none⟩ = some (.int .i64 0) := HQ.out.res.cell 14 (by omega)
      have z15 : wr.cell? ⟨w.heap.size, 15, none⟩ = some (.int .i64 0) := HQ.out.res.cell 15 (by omega)
      have zf := HQ.out.res.free
      go_wp2_with fail
      clear a0 z0 a1 z1 a2 z2 a3 z3 a4 z4 a5 z5 a6 z6 a7 z7 a8 z8 a9 z9 a10 z10 a11 z11 a12 z12 a13 z13 a14 z14 a15 z15 zf
      refine vec_end HQ.out.res HQ.out.low ?_ ?_
      · rfl
      intro w' hg
      have r0 : w'.cell? ⟨w.heap.size, 0, none⟩ = some (.int .i64 (G 0)) := hg.cell 0 (by omega)
      have r1 : w'.cell? ⟨w.heap.size, 1, none⟩ = some (.int .i64 (G 1)) := hg.cell 1 (by omega)
      have r2 : w'.cell? ⟨w.heap.size, 2, none⟩ = some (.int .i64 (G 2)) := hg.cell 2 (by omega)
      have r3 : w'.cell? ⟨w.heap.size, 3, none⟩ = some (.int .i64 (G 3)) := hg.cell 3 (by omega)
      have r4 : w'.cell? ⟨w.heap.size, 4, none⟩ = some (.int .i64 (G 4)) := hg.cell 4 (by omega)
      have r5 : w'.cell? ⟨w.heap.size, 5, none⟩ = some (.int .i64 (G 5)) := hg.cell 5 (by omega)
      have r6 : w'.cell? ⟨w.heap.size, 6, none⟩ = some (.int .i64 (G 6)) := hg.cell 6 (by omega)
      have r7 : w'.cell? ⟨w.heap.size, 7, none⟩ = some (.int .i64 (G 7)) := hg.cell 7 (by omega)
      have r8 : w'.cell? ⟨w.heap.size, 8, none⟩ = some (.int .i64 (G 8)) := hg.cell 8 (by omega)
      have r9 : w'.cell? ⟨w.heap.size, 9, none⟩ = some (.int .i64 (G 9)) := hg.cell 9 (by omega)
      have r10 : w'.cell? ⟨w.heap.size, 10, none⟩ = some (.int .i64 (G 10)) := hg.cell 10 (by omega)
      have r11 : w'.cell? ⟨w.heap.size, 11, none⟩ = some (.int .i64 (G 11)) := hg.cell 11 (by omega)
      have r12 : w'.cell? ⟨w.heap.size, 12, none⟩ = some (.int .i64 (G 12)) := hg.cell 12 (by omega)
      have r13 : w'.cell? ⟨w.heap.size, 13, none⟩ = some (.int .i64 (G 13)) := hg.cell 13 (by omega)
      have r14 : w'.cell? ⟨w.heap.size, 14, none⟩ = some (.int .i64 (G 14)) := hg.cell 14 (by omega)
      have r15 : w'.cell? ⟨w.heap.size, 15, none⟩ = some (.int .i64 (G 15)) := hg.cell 15 (by omega)
      simp [results, Try.results25, go_sem, r0, r1, r2, r3, r4, r5, r6, r7, r8, r9, r10, r11, r12, r13, r14, r15]
end Go.Proofs.Ytdlloobdmfoalaa

/-
  Layer 14 (vset), the program: two sets' rows held against each other.
-/
namespace Go.Proofs.Ytdlloobdmfoalaa
open Go.RowKit

/-- What a call hands back that is handed two lists on, of the call's own. -/
def CTwoC (F : FuncId) (op : Int) : Prop := ∀ (A B : Option Addr) (c d n m : Nat) (a b : List Rn), n = a.length → m = b.length → n ≤ 100000 → m ≤ 100000 → ∀ U, makeC op a b = U → ∀ N, U.length = N → ∀ w, kRn.Rd w w.heap.size A c a → kRn.Rd w w.heap.size B d b →
  Calls Try.prog F #[.slice A n c, .slice B m d] w (RetOC w N U)
theorem RowsG.rds {w : World} {base : Nat} {A : Nat → Option Addr} {N c : Nat → Nat} {L : Nat → List Rn} (h : RowsG w base (slV A N c) L) : ∀ k, k < 16 → kRn.Rd w w.heap.size (A k) (c k) (L k) := fun k hk => (h.own k hk).rd
theorem vs_set_sl (A : Nat → Option Addr) (N c : Nat → Nat) (L : Nat → List Rn) (hL : ∀ k, (L k).length = N k) (f : Int → List Rn) (hf : ∀ k : Nat, f ((k : Int) + 1) = L k) (U : List Kn) (hU : colS f 16 = U) (NU : Nat) (hN : U.length = NU) (w : World) (hr : ∀ k, k < 16 → kRn.Rd w w.heap.size (A k) (c k) (L k)) :
    Calls Try.prog 40 #[grV (slV A N c)] w (RetK w NU U) :=
  vs_set (slV A N c) L (fun k _ => ⟨A k, c k, by rw [hL]⟩) f hf U hU NU hN w fun k A' n' c' hk e => by
    injection e with e1 e2 e3
    subst e1 e3
    exact hr k hk
/-- How the rows stand while they are made, one behind the other, in block g. -/
structure MkAt (w0 w : World) (k : Nat) (V : Nat → Value) (L : Nat → List Rn) : Prop where
  all : GrAt w w0.heap.size V
  rows : RowsG w (w0.heap.size + 1) V (fun j => if j < k then L j else [])
  low : Below w0.heap.size w0 w
theorem mkAt_new (w : World) (t : TypeId) (L : Nat → List Rn) : MkAt w (w.alloc (grO (fun _ => .slice none 0 0) t)) 0 (fun _ => .slice none 0 0) L :=
  ⟨grAt_new w _ t, (rowsG_nil _ _).congr fun k _ => if_neg (by omega), below_new w _⟩
theorem MkAt.next {w0 w w' : World} {k : Nat} {V : Nat → Value} {L : Nat → List Rn} {v' : Value} (h : MkAt w0 w k V L) (hk : k < 16) (ho : kRn.Own w' w.heap.size v' (L k)) (hb : Below w.heap.size w w') : MkAt w0 (w'.setCell ⟨w0.heap.size, k, none⟩ v') (k + 1) (upd V k v') L := by
  have hl := h.all.lt
  have hr := h.rows.new hk ho hb hl
  refine ⟨(h.all.below hb).set hk _, (hr.set (hr.low (by omega)) _).congr fun j _ => ?_, (h.low.trans (hb.mono h.low.size)).setCell (p := ⟨w0.heap.size, k, none⟩) (Nat.le_refl _) _⟩
  by_cases e : j = k
  · subst e; rw [upd_at]; exact if_pos (by omega)
  · rw [upd_far _ _ e]
    by_cases h1 : j < k
    · show (if j < k + 1 then L j else []) = if j < k then L j else []
      rw [if_pos h1, if_pos (by omega)]
    · show (if j < k + 1 then L j else []) = if j < k then L j else []
      rw [if_neg h1, if_neg (by omega)]
theorem MkAt.fin {w0 w : World} {V : Nat → Value} {L : Nat → List Rn} (h : MkAt w0 w 16 V L) (N : Nat → Nat) (hN : ∀ k, (L k).length = N k) : ∃ A c, GrAt w w0.heap.size (slV A N c) ∧ ∀ k, k < 16 → kRn.Rd w w.heap.size (A k) (c k) (L k) := by
  have hr := h.rows.congr (M := L) fun k hk => (if_pos hk).symm
  obtain ⟨A, c, e⟩ := hr.form N hN
  exact ⟨A, c, h.all.congr e, (hr.congrV e).rds⟩
set_option maxRecDepth 100000 in
set_option maxHeartbeats 8000000 in
theorem vs_both (F : FuncId) (op : Int) (HK : CTwoC F op) (eg : ∀ args w, (callFunc F args).run Try.prog w = .ok (.enter F args) w) (A B : Option Addr) (c d n m : Nat) (a b : List Kn) (hn : n = a.length) (hm : m = b.length) (hnl : ∀ r, (runsV a r).length ≤ 100000) (hml : ∀ r, (runsV b r).length ≤ 100000) (U : List Kn) (hU : makeS op a b = U) (N : Nat) (hN : U.length = N) (w : World) (ha : RdK w w.heap.size A c a) (hb : RdK w w.heap.size B d b) :
    Calls Try.prog 42 #[.slice A n c, .slice B m d, .func (.func F) #[] #[]] w (RetK w N U) := by
  obtain ⟨NA, hNA⟩ : ∃ NA : Nat → Nat, ∀ k : Nat, (runsV a ((k : Int) + 1)).length = NA k := ⟨_, fun _ => rfl⟩
  obtain ⟨NB, hNB⟩ : ∃ NB : Nat → Nat, ∀ k : Nat, (runsV b ((k : Int) + 1)).length = NB k := ⟨_, fun _ => rfl⟩
  obtain ⟨M, hM⟩ : ∃ M : Nat → List Rn, ∀ k : Nat, makeC op (runsV a ((k : Int) + 1)) (runsV b ((k : Int) + 1)) = M k := ⟨_, fun _ => rfl⟩
  obtain ⟨NM, hNM⟩ : ∃ NM : Nat → Nat, ∀ k : Nat, (M k).length = NM k := ⟨_, fun _ => rfl⟩
  have C1 := Lib.hid (vs_gather A c n a hn (fun r => by have := hnl r; omega) NA hNA w ha)
  have C2 := fun w h => Lib.hid (vs_gather B d m b hm (fun r => by have := hml r; omega) NB hNB w h)
  have KK := Lib.hid (fun (k : Nat) (A B : Option Addr) (c d : Nat) W h1 h2 => HK A B c d (NA k) (NB k) (runsV a ((k : Int) + 1)) (runsV b ((k : Int) + 1)) (hNA k).symm (hNB k).symm (by rw [← hNA]; exact hnl _) (by rw [← hNB]; exact hml _) (M k) (hM k) (NM k) (hNM k) W h1 h2)
  have KS := Lib.hid (fun (AA : Nat → Option Addr) (cc : Nat → Nat) W h => vs_set_sl AA NM cc M hNM (fun r => makeC op (runsV a r) (runsV b r)) hM U hU N hN W h)
  have HNM := Lib.hid hNM
  have HB0 := Lib.hid hb
  clear ha hb hn hm hnl hml hU hN hNA hNB hM hNM HK
  go_enter Try.func42, Try.ntmps42
  go_upto_region 2 with (first
    | ((with_reducible refine C1.out.mono ?_); rintro e w1 ⟨A1, c1, rfl, hrd, hq⟩; have HGA := Lib.hid hrd; have HW1 := Lib.hid hq; replace HB0 := Lib.hid (HB0.out.call hq); clear hrd hq)
    | ((with_reducible refine (C2 _ HB0.out).out.mono ?_); rintro e w2 ⟨A2, c2, rfl, hrd, hq⟩; have HGB := Lib.hid hrd; have HW2 := Lib.hid hq; clear hrd hq))
  clear C1 C2 HB0
  obtain ⟨w5, hw5⟩ : ∃ w5, w5 = (w2.alloc (grO (slV A1 NA c1) 56)).alloc (grO (slV A2 NB c2) 56) := ⟨_, rfl⟩
  have hb5 : Below w2.heap.size w2 w5 := by rw [hw5]; exact (below_new _ _).trans ((below_new _ _).mono (by simp))
  have HA5 := Lib.hid (show GrAt w5 w2.heap.size (slV A1 NA c1) by rw [hw5]; exact (grAt_new _ _ _).alloc _)
  have HB5 := Lib.hid (show GrAt w5 (w2.heap.size + 1) (slV A2 NB c2) by rw [hw5, ← size1 w2 (grO (slV A1 NA c1) 56)]; exact grAt_new _ _ _)
  have HRA := Lib.hid (fun k hk => (((HGA.out.rds k hk).call HW2.out).call hb5))
  have HRB := Lib.hid (fun k hk => ((HGB.out.rds k hk).call hb5))
  have HW5 := Lib.hid ((HW1.out.trans (HW2.out.mono HW1.out.size)).trans (hb5.mono (Nat.le_trans HW1.out.size HW2.out.size)))
  rw [← hw5]
  clear hb5 hw5 HGA HGB HW1 HW2
  go_wp2_with fail
  go_loopw [15] (fun i wr => ∃ (k : Nat) (V : Nat → Value), k ≤ 16 ∧ i = .int .i64 k ∧ Hid (MkAt w5 wr k V M)) (fun i _ => 16 - (intOf i).toNat)
  case atStart => exact ⟨0, _, by omega, rfl, mkAt_new w5 _ M⟩
  case round =>
    obtain ⟨k, V, hk, rfl, HG⟩ := hrel
    by_cases hlt : k < 16
    · have hd : decide ((k : Int) < 16) = true := decide_eq_true (by omega)
      have hk0 : (0 : Int) ≤ (k : Int) := by omega
      have hk1 : (k : Int) < 16 := by omega
      have qa : wr.cell? ⟨w2.heap.size, k, none⟩ = some (.slice (A1 k) (NA k) (c1 k)) := (HA5.out.below HG.out.low).cell k hlt
      have qb : wr.cell? ⟨w2.heap.size + 1, k, none⟩ = some (.slice (A2 k) (NB k) (c2 k)) := (HB5.out.below HG.out.low).cell k hlt
      have K := Lib.hid (KK.out k (A1 k) (A2 k) (c1 k) (c2 k) wr.drew ((HRA.out k hlt).call HG.out.low.drew) ((HRB.out k hlt).call HG.out.low.drew))
      go_upto_region 6 with fail
      go_region_law (first
        | ((try go_simp); (with_reducible refine K.out.mono ?_); rintro e w7 ⟨A7, c7, rfl, ho, hq⟩; (try replace hq := below_of_drew hq); have HO7 := Lib.hid ho; have HQ7 := Lib.hid hq; have q3 := (HG.out.all.below hq).cell k hlt; have f3 := (HG.out.all.below hq).free k; clear ho hq))
      all_goals
        have HN7 := Lib.hid (HG.out.next hlt HO7.out HQ7.out)
        clear HO7 HQ7 q3 f3 qa qb K
        go_wp2_with fail
        go_roundw
        case rel => exact ⟨k + 1, upd V k (.slice A7 (NM k) c7), by omega, by go_num, HN7⟩
        case measure => simp [intOf]; omega
    · have hd : decide ((k : Int) < 16) = false := decide_eq_false (by omega)
      obtain rfl : k = 16 := by omega
      obtain ⟨AA, cc, hgr, hrd⟩ := HG.out.fin NM HNM.out
      have K := Lib.hid (KS.out AA cc wr hrd)
      have a0 : wr.cell? ⟨w5.heap.size, 0, none⟩ = some (.slice (AA 0) (NM 0) (cc 0)) := hgr.cell 0 (by omega)
      have a1 : wr.cell? ⟨w5.heap.size, 1, none⟩ = some (.slice (AA 1) (NM 1) (cc 1)) := hgr.cell 1 (by omega)
      have a2 : wr.cell? ⟨w5.heap.size, 2, none⟩ = some (.slice (AA 2) (NM 2) (cc 2)) := hgr.cell 2 (by omega)
      have a3 : wr.cell? ⟨w5.heap.size, 3, none⟩ = some (.slice (AA 3) (NM 3) (cc 3)) := hgr.cell 3 (by omega)
      have a4 : wr.cell? ⟨w5.heap.size, 4, none⟩ = some (.slice (AA 4) (NM 4) (cc 4)) := hgr.cell 4 (by omega)
      have a5 : wr.cell? ⟨w5.heap.size, 5, none⟩ = some (.slice (AA 5) (NM 5) (cc 5)) := hgr.cell 5 (by omega)
      have a6 : wr.cell? ⟨w5.heap.size, 6, none⟩ = some (.slice (AA 6) (NM 6) (cc 6)) := hgr.cell 6 (by omega)
      have a7 : wr.cell? ⟨w5.heap.size, 7, none⟩ = some (.slice (AA 7) (NM 7) (cc 7)) := hgr.cell 7 (by omega)
      have a8 : wr.cell? ⟨w5.heap.size, 8, none⟩ = some (.slice (AA 8) (NM 8) (cc 8)) := hgr.cell 8 (by omega)
      have a9 : wr.cell? ⟨w5.heap.size, 9, none⟩ = some (.slice (AA 9) (NM 9) (cc 9)) := hgr.cell 9 (by omega)
      have a10 : wr.cell? ⟨w5.heap.size, 10, none⟩ = some (.slice (AA 10) (NM 10) (cc 10)) := hgr.cell 10 (by omega)
      have a11 : wr.cell? ⟨w5.heap.size, 11, none⟩ = some (.slice (AA 11) (NM 11) (cc 11)) := hgr.cell 11 (by omega)
      have a12 : wr.cell? ⟨w5.heap.size, 12, none⟩ = some (.slice (AA 12) (NM 12) (cc 12)) := hgr.cell 12 (by omega)
      have a13 : wr.cell? ⟨w5.heap.size, 13, none⟩ = some (.slice (AA 13) (NM 13) (cc 13)) := hgr.cell 13 (by omega)
      have a14 : wr.cell? ⟨w5.heap.size, 14, none⟩ = some (.slice (AA 14) (NM 14) (cc 14)) := hgr.cell 14 (by omega)
      have a15 : wr.cell? ⟨w5.heap.size, 15, none⟩ = some (.slice (AA 15) (NM 15) (cc 15)) := hgr.cell 15 (by omega)
      clear hgr hrd
      go_wp2_with ((with_reducible refine K.out.mono ?_); rintro e w8 ⟨A8, c8, rfl, hrd, hq⟩; have H8 := Lib.hid hrd; have HQ8 := Lib.hid hq; clear hrd hq)
      go_ret
      exact ⟨A8, c8, rfl, H8.out, (HW5.out.trans (HG.out.low.mono HW5.out.size)).trans (HQ8.out.mono (Nat.le_trans HW5.out.size HG.out.low.size))⟩
end Go.Proofs.Ytdlloobdmfoalaa

/-
  Layer 14 (vset), the program: a set and some versions more.
-/
namespace Go.Proofs.Ytdlloobdmfoalaa
open Go.RowKit

theorem le_alloc2 {B : Nat} {w : World} (h : B ≤ w.heap.size) (o : Obj) : B ≤ (w.alloc o).heap.size := by rw [size1]; omega
/-- How the rows stand, in block g, while runs are put behind them. -/
structure PutAt (w0 : World) (g : Nat) (w : World) (V : Nat → Value) (L : Nat → List Rn) : Prop where
  all : GrAt w g V
  rows : RowsG w w0.heap.size V L
  off : ∀ j, j < 16 → (V j).ownBlock ≠ some g
  low : Below w0.heap.size w0 w
  ge : w0.heap.size ≤ g
theorem PutAt.below {w0 w w' : World} {g : Nat} {V : Nat → Value} {L : Nat → List Rn} (h : PutAt w0 g w V L) (hb : Below w.heap.size w w') : PutAt w0 g w' V L := ⟨h.all.below hb, h.rows.below hb, h.off, h.low.trans (hb.mono h.low.size), h.ge⟩
theorem PutAt.congr {w0 w : World} {g : Nat} {V : Nat → Value} {L M : Nat → List Rn} (h : PutAt w0 g w V L) (e : ∀ k, k < 16 → M k = L k) : PutAt w0 g w V M := ⟨h.all, h.rows.congr e, h.off, h.low, h.ge⟩
theorem PutAt.congrV {w0 w : World} {g : Nat} {V W : Nat → Value} {L : Nat → List Rn} (h : PutAt w0 g w V L) (e : ∀ k, k < 16 → W k = V k) : PutAt w0 g w W L := ⟨h.all.congr e, h.rows.congrV e, fun j hj => by rw [e j hj]; exact h.off j hj, h.low, h.ge⟩
theorem putAt_new {w0 w : World} {V : Nat → Value} {L : Nat → List Rn} (h : RowsG w w0.heap.size V L) (hb : Below w0.heap.size w0 w) (t : TypeId) : PutAt w0 w.heap.size (w.alloc (grO V t)) V L :=
  ⟨grAt_new w V t, h.alloc _, fun j hj e => by have := ((h.own j hj).lt _ e).2; omega, hb.alloc hb.size _, hb.size⟩
theorem PutAt.mid {w0 w w' : World} {g : Nat} {V : Nat → Value} {L : Nat → List Rn} (h : PutAt w0 g w V L) {j : Nat} (hj : j < 16) (hg : w.grownBy w' (V j).ownBlock) : GrAt w' g V := h.all.grown hg fun e => h.off j hj e.symm
theorem PutAt.app {w0 w w' : World} {g : Nat} {V : Nat → Value} {L : Nat → List Rn} {v' : Value} {l : List Rn} (h : PutAt w0 g w V L) {j : Nat} (hj : j < 16) (ho : kRn.Own w' w0.heap.size v' l) (hg : w.grownBy w' (V j).ownBlock) (hv : v'.ownBlock = (V j).ownBlock ∨ v'.ownBlock = some w.heap.size) :
    PutAt w0 g (w'.setCell ⟨g, j, none⟩ v') (upd V j v') (upd L j l) := by
  have hr := h.rows.app hj ho hg hv
  have ho' := RowsG.upd_off h.off h.all.lt hv hj
  exact ⟨(h.mid hj hg).set hj _, hr.set ho' _, ho', ((h.low.grown hg h.low.size fun g e => ((h.rows.own j hj).lt g e).1)).setCell (p := ⟨g, j, none⟩) h.ge _, h.ge⟩
/-- How the rows stand while they are put in order, one behind the other: the new ones, and behind them the old. -/
structure OrdAt (w0 : World) (g B : Nat) (w : World) (k : Nat) (VO VN : Nat → Value) (L M : Nat → List Rn) : Prop where
  all : GrAt w g (fun j => if j < k then VN j else VO j)
  old : RowsG w w0.heap.size VO L
  off : ∀ j, j < 16 → (VO j).ownBlock ≠ some g
  new : RowsG w B VN (fun j => if j < k then M j else [])
  low : Below w0.heap.size w0 w
  ge : w0.heap.size ≤ g
  lt : g < B
  le : B ≤ w.heap.size
theorem PutAt.ord {w0 w : World} {g : Nat} {V : Nat → Value} {L : Nat → List Rn} (h : PutAt w0 g w V L) (M : Nat → List Rn) : OrdAt w0 g w.heap.size w 0 V (fun _ => .slice none 0 0) L M :=
  ⟨h.all.congr fun k _ => if_neg (by omega), h.rows, h.off, (rowsG_nil _ _).congr fun k _ => if_neg (by omega), h.low, h.ge, h.all.lt, Nat.le_refl _⟩
theorem OrdAt.below {w0 w w' : World} {g B k : Nat} {VO VN : Nat → Value} {L M : Nat → List Rn} (h : OrdAt w0 g B w k VO VN L M) (hb : Below w.heap.size w w') : OrdAt w0 g B w' k VO VN L M :=
  ⟨h.all.below hb, h.old.below hb, h.off, h.new.below hb, h.low.trans (hb.mono h.low.size), h.ge, h.lt, Nat.le_trans h.le hb.size⟩
theorem OrdAt.next {w0 w w' : World} {g B k : Nat} {VO VN : Nat → Value} {L M : Nat → List Rn} {v' : Value} (h : OrdAt w0 g B w k VO VN L M) (hk : k < 16) (ho : kRn.Own w' w.heap.size v' (M k)) (hb : Below w.heap.size w w') : OrdAt w0 g B (w'.setCell ⟨g, k, none⟩ v') (k + 1) VO (upd VN k v') L M := by
  have hr := h.new.new hk ho hb h.le
  have h1 := h.below hb
  refine ⟨(h1.all.set hk v').congr fun j _ => ?_, h1.old.set h.off _, h.off, (hr.set (hr.low h.lt) _).congr fun j _ => ?_, h1.low.setCell (p := ⟨g, k, none⟩) h.ge _, h.ge, h.lt, ?_⟩
  · by_cases e : j = k
    · subst e; rw [upd_at]; rw [if_pos (by omega), upd_at]
    · rw [upd_far (fun j => if j < k then VN j else VO j) _ e, upd_far VN _ e]
      by_cases h2 : j < k
      · rw [if_pos h2, if_pos (by omega)]
      · rw [if_neg h2, if_neg (by omega)]
  · by_cases e : j = k
    · subst e; rw [upd_at]; exact if_pos (by omega)
    · rw [upd_far _ _ e]
      by_cases h2 : j < k
      · show (if j < k + 1 then M j else []) = if j < k then M j else []
        rw [if_pos h2, if_pos (by omega)]
      · show (if j < k + 1 then M j else []) = if j < k then M j else []
        rw [if_neg h2, if_neg (by omega)]
  · exact Nat.le_trans h1.le (by simp)
theorem OrdAt.fin {w0 w : World} {g B : Nat} {VO VN : Nat → Value} {L M : Nat → List Rn} (h : OrdAt w0 g B w 16 VO VN L M) (N : Nat → Nat) (hN : ∀ k, (M k).length = N k) : ∃ A c, GrAt w g (slV A N c) ∧ ∀ k, k < 16 → kRn.Rd w w.heap.size (A k) (c k) (M k) := by
  have hr := h.new.congr (M := M) fun k hk => (if_pos hk).symm
  obtain ⟨A, c, e⟩ := hr.form N hN
  exact ⟨A, c, h.all.congr fun k hk => by rw [e k hk, if_pos hk], (hr.congrV e).rds⟩
set_option maxRecDepth 100000 in
set_option maxHeartbeats 8000000 in
theorem vs_add (A B : Option Addr) (c d n m : Nat) (s : List Kn) (l : List Vr) (hn : n = s.length) (hm : m = l.length) (hml : m ≤ 100000) (hnl : ∀ r, (runsV s r).length ≤ 200000) (U : List Kn) (hU : addsS s l = U) (N : Nat) (hN : U.length = N) (w : World) (ha : RdK w w.heap.size A c s) (hb : kVr.Rd w w.heap.size B d l) :
    Calls Try.prog 17 #[.slice A n c, .slice B m d] w (RetK w N U) := by
  obtain ⟨NA, hNA⟩ : ∃ NA : Nat → Nat, ∀ k : Nat, (runsV s ((k : Int) + 1)).length = NA k := ⟨_, fun _ => rfl⟩
  obtain ⟨L, hL⟩ : ∃ L : Nat → List Rn, ∀ k : Nat, runsV s ((k : Int) + 1) ++ versR l ((k : Int) + 1) = L k := ⟨_, fun _ => rfl⟩
  obtain ⟨NL, hNL⟩ : ∃ NL : Nat → Nat, ∀ k : Nat, (L k).length = NL k := ⟨_, fun _ => rfl⟩
  obtain ⟨M, hM⟩ : ∃ M : Nat → List Rn, ∀ k : Nat, ofC (L k) = M k := ⟨_, fun _ => rfl⟩
  obtain ⟨NM, hNM⟩ : ∃ NM : Nat → Nat, ∀ k : Nat, (M k).length = NM k := ⟨_, fun _ => rfl⟩
  have hLl : ∀ k : Nat, NL k ≤ 300000 := fun k => by
    rw [← hNL, ← hL, List.length_append]
    have h1 := hnl ((k : Int) + 1)
    have h2 := versR_len l ((k : Int) + 1)
    omega
  have C1 := Lib.hid (vs_gather A c n s hn (fun r => by have := hnl r; omega) NA hNA w ha)
  have KO := Lib.hid (fun (k : Nat) (A : Option Addr) (c : Nat) W h => cn_of_own A c (NL k) (L k) (hNL k).symm (hLl k) (M k) (hM k) (NM k) (hNM k) W h)
  have KS := Lib.hid (fun (AA : Nat → Option Addr) (cc : Nat → Nat) W h => vs_set_sl AA NM cc M hNM (fun r => ofC (runsV s r ++ versR l r)) (fun k => (congrArg ofC (hL k)).trans (hM k)) U (by rw [← hU, addsS_cols]) N hN W h)
  have HNM := Lib.hid hNM
  have HNL := Lib.hid hNL
  have HLL := Lib.hid hL
  have HL9 := Lib.hid hnl
  have HM := Lib.hid hm
  have HR := Lib.hid hb
  have HML := Lib.hid hml
  have hcx : m ≤ d := by rw [hm]; exact hb.room
  have hmx : m ≤ 9223372036854775807 := by omega
  clear ha hb hn hm hnl hml hU hN hNA hNL hL hM hNM hLl
  go_enter Try.func17, Try.ntmps17
  go_upto_region 2 with ((with_reducible refine C1.out.mono ?_); rintro e w1 ⟨A1, c1, rfl, hrd, hq⟩; have HP := Lib.hid (putAt_new hrd hq 56); clear hrd hq)
  clear C1
  obtain ⟨w2, hw2⟩ : ∃ w2, w2 = w1.alloc (grO (slV A1 NA c1) 56) := ⟨_, rfl⟩
  rw [← hw2] at HP
  rw [← hw2]
  clear hw2
  obtain ⟨g, hg⟩ : ∃ g, g = w1.heap.size := ⟨_, rfl⟩
  rw [← hg] at HP
  rw [← hg]
  clear hg
  go_wp2_with fail
  go_loopw [15] (fun i wr => ∃ (k : Nat) (V : Nat → Value), k ≤ m ∧ i = .int .i64 k ∧ Hid (PutAt w g wr V (fun j => runsV s ((j : Int) + 1) ++ versR (l.take k) ((j : Int) + 1)))) (fun i _ => m - (intOf i).toNat)
  case atStart => exact ⟨0, _, by omega, rfl, HP.out.congr fun k _ => List.append_nil _⟩
  case round =>
    obtain ⟨k, V, hk, rfl, HG⟩ := hrel
    by_cases hlt : k < m
    · obtain ⟨x, hg, -, -⟩ := cnt_get (l := l) (k := k) (by have := HM.out; omega)
      obtain ⟨b, o, rfl, hb1, hcell⟩ := vrs_at (HR.out.below HG.out.low) (by have := HM.out; omega)
      obtain ⟨q0, q1⟩ := hcell k x hg
      obtain ⟨X, hX⟩ : ∃ X, x.rep = X := ⟨_, rfl⟩
      obtain ⟨Y, hY⟩ : ∃ Y, x.cnt = Y := ⟨_, rfl⟩
      rw [hX] at q0
      rw [hY] at q1
      have hT := fun r => versR_take hg r
      obtain ⟨p, hp⟩ : ∃ p, rightVr x = p := ⟨_, rfl⟩
      have C1 := fun w => Lib.hid (k_vright x X Y hX hY p hp w)
      have HG2 := Lib.hid (HG.out.below (below_new wr (.cells #[.int .i64 X, .int .i64 Y] 25)))
      cases p with
      | false =>
        have HE := Lib.hid (fun (j : Nat) (_ : j < 16) => show runsV s ((j : Int) + 1) ++ versR (l.take (k + 1)) ((j : Int) + 1) = runsV s ((j : Int) + 1) ++ versR (l.take k) ((j : Int) + 1) from by rw [hT, runOf_wrong hp, List.append_nil])
        clear hcell hg hT hp hX hY HG
        go_wp2_with ((with_reducible refine (C1 _).out.mono ?_); rintro e w3 ⟨rfl, hq⟩; have HG3 := Lib.hid (HG2.out.below hq); clear hq)
        go_roundw
        case rel => exact ⟨k + 1, V, by omega, by go_num, HG3.out.congr HE.out⟩
        case measure => simp [intOf]; omega
      | true =>
        have hr9 := rightVr_iff.1 hp
        rw [hX] at hr9
        obtain ⟨j, hj⟩ : ∃ j : Nat, X = (j : Int) + 1 := ⟨(X - 1).toNat, by omega⟩
        have hj16 : j < 16 := by omega
        subst hj
        have HE := Lib.hid (fun (j' : Nat) (_ : j' < 16) => show runsV s ((j' : Int) + 1) ++ versR (l.take (k + 1)) ((j' : Int) + 1) = upd (fun j => runsV s ((j : Int) + 1) ++ versR (l.take k) ((j : Int) + 1)) j ((runsV s ((j : Int) + 1) ++ versR (l.take k) ((j : Int) + 1)) ++ [⟨Y, Y⟩]) j' from by
          rw [hT]
          by_cases e : j' = j
          · subst e; rw [upd_at, runOf_yes hp hX, hY, List.append_assoc]
          · rw [upd_far _ _ e, runOf_no (by rw [hX]; omega), List.append_nil])
        have HLE := Lib.hid (show (runsV s ((j : Int) + 1) ++ versR (l.take k) ((j : Int) + 1)).length + [(⟨Y, Y⟩ : Rn)].length ≤ 1000000 by
          have h1 := versR_len (l.take k) ((j : Int) + 1)
          have h2 := HL9.out ((j : Int) + 1)
          have h3 := HML.out
          rw [List.length_take] at h1
          rw [List.length_append, List.length_singleton]
          omega)
        obtain ⟨NJ, hNJ⟩ : ∃ N, ((runsV s ((j : Int) + 1) ++ versR (l.take k) ((j : Int) + 1)) ++ [(⟨Y, Y⟩ : Rn)]).length = N := ⟨_, rfl⟩
        have HNJ := Lib.hid hNJ
        obtain ⟨vj, hvj⟩ : ∃ v, V j = v := ⟨_, rfl⟩
        have hjw : IntKind.i64.wrap ((j : Int) + 1 - 1) = (j : Int) := by rw [Int.add_sub_cancel]; exact IntWalk.i64_in _ (by omega)
        have hj0 : decide ((j : Int) < 0) = false := decide_eq_false (by omega)
        have hj1 : decide ((j : Int) < 16) = true := decide_eq_true (by omega)
        have hjk0 : (0 : Int) ≤ (j : Int) := by omega
        have hjk1 : (j : Int) < 16 := by omega
        clear hcell hg hT hp hX hY HG hr9 hNJ
        have hbx := vbox_new wr ((j : Int) + 1) Y
        have hlz : wr.heap.size < (wr.alloc (.cells #[.int .i64 ((j : Int) + 1), .int .i64 Y] 25)).heap.size := by simp
        go_upto_region 7 with ((with_reducible refine (C1 _).out.mono ?_); rintro e w3 ⟨rfl, hq⟩; have s0 := ((bcell hq).1 wr.heap.size 0 hlz).trans hbx.1; have s1 := ((bcell hq).1 wr.heap.size 1 hlz).trans hbx.2; have lz := Nat.lt_of_lt_of_le hlz hq.size; have HG3 := Lib.hid (HG2.out.below hq); clear hq)
        clear hbx hlz HG2 C1
        have q2 := HG3.out.all.cell j hj16
        rw [hvj] at q2
        have lg := HG3.out.all.lt
        have HG4 := Lib.hid (HG3.out.below ((Below.refl w3.heap.size w3).drew.alloc (Nat.le_refl _) (.cells #[.int .i64 Y, .int .i64 Y] 45)))
        have HO := Lib.hid (HG4.out.rows.own j hj16)
        rw [hvj] at HO
        have HRW := fun w => Lib.hid (rn_row w Y Y)
        have HVJ := Lib.hid hvj
        clear hvj
        go_region_law (first
          | (refine step_app_k kRn rfl (.tmp 28) (.tmp 34) rfl w.heap.size vj (runsV s ((j : Int) + 1) ++ versR (l.take k) ((j : Int) + 1)) rfl HO.out _ (some ⟨w3.heap.size, 0, none⟩) 1 1 [⟨Y, Y⟩] rfl rfl (HRW _).out HLE.out (by decide) (Nat.le_trans HG3.out.low.size (Nat.le_trans (Nat.le_succ _) (Nat.le_of_eq (size1 _ _).symm))) ?_; intro v4 w4 hown hg4 _ hv4; obtain ⟨A4, c4, rfl, -⟩ := hown.read_n HNJ.out.symm; have q3 := (HG4.out.mid hj16 (HVJ.out.symm ▸ hg4)).cell j hj16; have f3 := (HG4.out.mid hj16 (HVJ.out.symm ▸ hg4)).free j; have HG5 := Lib.hid (HG4.out.app hj16 hown (HVJ.out.symm ▸ hg4) (HVJ.out.symm ▸ hv4)); clear hown hg4 hv4))
        all_goals
          clear q2 s0 s1
          go_wp2_with fail
          go_roundw
          case rel => exact ⟨k + 1, upd V j (.slice A4 NJ c4), by omega, by go_num, HG5.out.congr HE.out⟩
          case measure => simp [intOf]; omega
    · have hkn : l.take k = l := List.take_of_length_le (by have := HM.out; omega)
      rw [hkn] at HG
      replace HG := Lib.hid (HG.out.congr fun j _ => (HLL.out j).symm)
      obtain ⟨AA, cc, hV⟩ := HG.out.rows.form NL HNL.out
      replace HG := Lib.hid (HG.out.congrV hV)
      have a0 : wr.cell? ⟨g, 0, none⟩ = some (.slice (AA 0) (NL 0) (cc 0)) := HG.out.all.cell 0 (by omega)
      have a1 : wr.cell? ⟨g, 1, none⟩ = some (.slice (AA 1) (NL 1) (cc 1)) := HG.out.all.cell 1 (by omega)
      have a2 : wr.cell? ⟨g, 2, none⟩ = some (.slice (AA 2) (NL 2) (cc 2)) := HG.out.all.cell 2 (by omega)
      have a3 : wr.cell? ⟨g, 3, none⟩ = some (.slice (AA 3) (NL 3) (cc 3)) := HG.out.all.cell 3 (by omega)
      have a4 : wr.cell? ⟨g, 4, none⟩ = some (.slice (AA 4) (NL 4) (cc 4)) := HG.out.all.cell 4 (by omega)
      have a5 : wr.cell? ⟨g, 5, none⟩ = some (.slice (AA 5) (NL 5) (cc 5)) := HG.out.all.cell 5 (by omega)
      have a6 : wr.cell? ⟨g, 6, none⟩ = some (.slice (AA 6) (NL 6) (cc 6)) := HG.out.all.cell 6 (by omega)
      have a7 : wr.cell? ⟨g, 7, none⟩ = some (.slice (AA 7) (NL 7) (cc 7)) := HG.out.all.cell 7 (by omega)
      have a8 : wr.cell? ⟨g, 8, none⟩ = some (.slice (AA 8) (NL 8) (cc 8)) := HG.out.all.cell 8 (by omega)
      have a9 : wr.cell? ⟨g, 9, none⟩ = some (.slice (AA 9) (NL 9) (cc 9)) := HG.out.all.cell 9 (by omega)
      have a10 : wr.cell? ⟨g, 10, none⟩ = some (.slice (AA 10) (NL 10) (cc 10)) := HG.out.all.cell 10 (by omega)
      have a11 : wr.cell? ⟨g, 11, none⟩ = some (.slice (AA 11) (NL 11) (cc 11)) := HG.out.all.cell 11 (by omega)
      have a12 : wr.cell? ⟨g, 12, none⟩ = some (.slice (AA 12) (NL 12) (cc 12)) := HG.out.all.cell 12 (by omega)
      have a13 : wr.cell? ⟨g, 13, none⟩ = some (.slice (AA 13) (NL 13) (cc 13)) := HG.out.all.cell 13 (by omega)
      have a14 : wr.cell? ⟨g, 14, none⟩ = some (.slice (AA 14) (NL 14) (cc 14)) := HG.out.all.cell 14 (by omega)
      have a15 : wr.cell? ⟨g, 15, none⟩ = some (.slice (AA 15) (NL 15) (cc 15)) := HG.out.all.cell 15 (by omega)
      clear hkn hV
      go_wp2_with fail
      clear a0 a1 a2 a3 a4 a5 a6 a7 a8 a9 a10 a11 a12 a13 a14 a15
      have HQ := Lib.hid (HG.out.ord M)
      clear HG HP
      go_loopw [39] (fun i wx => ∃ (k : Nat) (VN : Nat → Value), k ≤ 16 ∧ i = .int .i64 k ∧ Hid (OrdAt w g wr.heap.size wx k (slV AA NL cc) VN L M)) (fun i _ => 16 - (intOf i).toNat)
      case atStart => exact ⟨0, _, by omega, rfl, HQ⟩
      case round =>
        obtain ⟨q, VN, hq9, rfl, HQ⟩ := hrel
        by_cases hlt2 : q < 16
        · have hd : decide ((q : Int) < 16) = true := decide_eq_true (by omega)
          have hk0 : (0 : Int) ≤ (q : Int) := by omega
          have hk1 : (q : Int) < 16 := by omega
          have I0 : ∀ w, (Instr.index 56 (.agg #[.slice (AA 0) (NL 0) (cc 0), .slice (AA 1) (NL 1) (cc 1), .slice (AA 2) (NL 2) (cc 2), .slice (AA 3) (NL 3) (cc 3), .slice (AA 4) (NL 4) (cc 4), .slice (AA 5) (NL 5) (cc 5), .slice (AA 6) (NL 6) (cc 6), .slice (AA 7) (NL 7) (cc 7), .slice (AA 8) (NL 8) (cc 8), .slice (AA 9) (NL 9) (cc 9), .slice (AA 10) (NL 10) (cc 10), .slice (AA 11) (NL 11) (cc 11), .slice (AA 12) (NL 12) (cc 12), .slice (AA 13) (NL 13) (cc 13), .slice (AA 14) (NL 14) (cc 14), .slice (AA 15) (NL 15) (cc 15)]) (.int .i64 (q : Int))).run Try.prog w = .ok (.slice (AA q) (NL q) (cc q)) w := fun w => idx16 (slV AA NL cc) hlt2 w
          have K := Lib.hid (KO.out q (AA q) (cc q) wr ((HQ.out.old.rds q hlt2)))
          go_wp2_with ((with_reducible refine K.out.mono ?_); rintro e w7 ⟨A7, c7, rfl, ho, hq⟩; have HO7 := Lib.hid ho; have HQ7 := Lib.hid hq; have q3 := (HQ.out.below hq).all.cell q hlt2; have f3 := (HQ.out.below hq).all.free q; clear ho hq)
          have HN7 := Lib.hid (HQ.out.next hlt2 HO7.out HQ7.out)
          clear HO7 HQ7 q3 f3 K I0
          go_roundw
          case rel => exact ⟨q + 1, upd VN q (.slice A7 (NM q) c7), by omega, by go_num, HN7⟩
          case measure => simp [intOf]; omega
        · have hd : decide ((q : Int) < 16) = false := decide_eq_false (by omega)
          obtain rfl : q = 16 := by omega
          obtain ⟨A3, c3, hgr, hrd⟩ := HQ.out.fin NM HNM.out
          have K := Lib.hid (KS.out A3 c3 wr hrd)
          have a0 : wr.cell? ⟨g, 0, none⟩ = some (.slice (A3 0) (NM 0) (c3 0)) := hgr.cell 0 (by omega)
          have a1 : wr.cell? ⟨g, 1, none⟩ = some (.slice (A3 1) (NM 1) (c3 1)) := hgr.cell 1 (by omega)
          have a2 : wr.cell? ⟨g, 2, none⟩ = some (.slice (A3 2) (NM 2) (c3 2)) := hgr.cell 2 (by omega)
          have a3 : wr.cell? ⟨g, 3, none⟩ = some (.slice (A3 3) (NM 3) (c3 3)) := hgr.cell 3 (by omega)
          have a4 : wr.cell? ⟨g, 4, none⟩ = some (.slice (A3 4) (NM 4) (c3 4)) := hgr.cell 4 (by omega)
          have a5 : wr.cell? ⟨g, 5, none⟩ = some (.slice (A3 5) (NM 5) (c3 5)) := hgr.cell 5 (by omega)
          have a6 : wr.cell? ⟨g, 6, none⟩ = some (.slice (A3 6) (NM 6) (c3 6)) := hgr.cell 6 (by omega)
          have a7 : wr.cell? ⟨g, 7, none⟩ = some (.slice (A3 7) (NM 7) (c3 7)) := hgr.cell 7 (by omega)
          have a8 : wr.cell? ⟨g, 8, none⟩ = some (.slice (A3 8) (NM 8) (c3 8)) := hgr.cell 8 (by omega)
          have a9 : wr.cell? ⟨g, 9, none⟩ = some (.slice (A3 9) (NM 9) (c3 9)) := hgr.cell 9 (by omega)
          have a10 : wr.cell? ⟨g, 10, none⟩ = some (.slice (A3 10) (NM 10) (c3 10)) := hgr.cell 10 (by omega)
          have a11 : wr.cell? ⟨g, 11, none⟩ = some (.slice (A3 11) (NM 11) (c3 11)) := hgr.cell 11 (by omega)
          have a12 : wr.cell? ⟨g, 12, none⟩ = some (.slice (A3 12) (NM 12) (c3 12)) := hgr.cell 12 (by omega)
          have a13 : wr.cell? ⟨g, 13, none⟩ = some (.slice (A3 13) (NM 13) (c3 13)) := hgr.cell 13 (by omega)
          have a14 : wr.cell? ⟨g, 14, none⟩ = some (.slice (A3 14) (NM 14) (c3 14)) := hgr.cell 14 (by omega)
          have a15 : wr.cell? ⟨g, 15, none⟩ = some (.slice (A3 15) (NM 15) (c3 15)) := hgr.cell 15 (by omega)
          clear hgr hrd
          go_wp2_with ((with_reducible refine K.out.mono ?_); rintro e w8 ⟨A8, c8, rfl, hrd, hq⟩; have H8 := Lib.hid hrd; have HQ8 := Lib.hid hq; clear hrd hq)
          go_ret
          exact ⟨A8, c8, rfl, H8.out, HQ.out.low.trans (HQ8.out.mono HQ.out.low.size)⟩
end Go.Proofs.Ytdlloobdmfoalaa

/-
  Layer 14 (vset), the program: two sets held against each other by the library's calls.
-/
namespace Go.Proofs.Ytdlloobdmfoalaa
open Go.RowKit

theorem eq_rn_is (r t : Rn) (X Y Z W : Int) (h1 : r.fr = X) (h2 : r.to = Y) (h3 : t.fr = Z) (h4 : t.to = W) (q : Bool) (hq : (r.fr == t.fr && r.to == t.to) = q) (w : World) : (Op.equalIn 10000 45 (.agg #[.int .i64 X, .int .i64 Y]) (.agg #[.int .i64 Z, .int .i64 W])).run Try.prog w = .ok q w := by
  subst h1 h2 h3 h4; exact eq_rn _ _ _ _ q hq w
theorem sameC_cons (r t : Rn) (a b : List Rn) : sameC (r :: a) (t :: b) = ((r.fr == t.fr && r.to == t.to) && sameC a b) := rfl
set_option maxHeartbeats 1000000 in
theorem vs_equal (A B : Option Addr) (c d n m : Nat) (a b : List Rn) (hn : n = a.length) (hm : m = b.length) (v : Bool) (hv : sameC a b = v) (w : World) (ha : kRn.Rd w w.heap.size A c a) (hb : kRn.Rd w w.heap.size B d b) :
    Calls Try.prog 49 #[.slice A n c, .slice B m d] w fun e w' => e = .returned (.bool v) ∧ Below w.heap.size w w' := by
  have HN := Lib.hid hn
  have HM := Lib.hid hm
  have HA := Lib.hid ha
  have HB := Lib.hid hb
  have hmx := rd_maxC ha hn
  have hmy := rd_maxC hb hm
  have hcx : n ≤ c := by rw [hn]; exact ha.room
  have hcy : m ≤ d := by rw [hm]; exact hb.room
  subst hv
  by_cases hnm : n = m
  · subst hnm
    clear hn hm ha hb
    go_enter Try.func49, Try.ntmps49
    go_wp2_with fail
    go_loopw [13] (fun i wr => ∃ k : Nat, k ≤ n ∧ Hid (sameC a b = sameC (a.drop k) (b.drop k)) ∧ i = .int .i64 k ∧ Hid (Below w.heap.size w wr)) (fun i _ => n - (intOf i).toNat)
    case atStart => exact ⟨0, by omega, rfl, rfl, Below.refl _ _⟩
    case round =>
      obtain ⟨k, hk, HL, rfl, HW⟩ := hrel
      by_cases hlt : k < n
      · obtain ⟨r, hg, hd, -⟩ := cnt_get (l := a) (k := k) (by have := HN.out; omega)
        obtain ⟨t, hg', hd', -⟩ := cnt_get (l := b) (k := k) (by have := HM.out; omega)
        obtain ⟨b1, o1, rfl, hb1, hcell1⟩ := rns_at (HA.out.below HW.out) (by have := HN.out; omega)
        obtain ⟨b2, o2, rfl, hb2, hcell2⟩ := rns_at (HB.out.below HW.out) (by have := HM.out; omega)
        obtain ⟨a0, a1⟩ := hcell1 k r hg
        obtain ⟨c0, c1⟩ := hcell2 k t hg'
        obtain ⟨X, hX⟩ : ∃ X, r.fr = X := ⟨_, rfl⟩
        obtain ⟨Y, hY⟩ : ∃ Y, r.to = Y := ⟨_, rfl⟩
        obtain ⟨Z, hZ⟩ : ∃ Z, t.fr = Z := ⟨_, rfl⟩
        obtain ⟨W, hW⟩ : ∃ W, t.to = W := ⟨_, rfl⟩
        obtain ⟨x, hx⟩ : ∃ x, (r.fr == t.fr && r.to == t.to) = x := ⟨_, rfl⟩
        have EQ := fun w => eq_rn_is r t X Y Z W hX hY hZ hW x hx w
        have HL2 := Lib.hid (HL.out.trans (show sameC (a.drop k) (b.drop k) = (x && sameC (a.drop (k + 1)) (b.drop (k + 1))) by rw [hd, hd', sameC_cons, hx]))
        have hk0 : (0 : Int) ≤ (k : Int) := by omega
        have hkn : (k : Int) < (n : Int) := by omega
        rw [hX] at a0
        rw [hY] at a1
        rw [hZ] at c0
        rw [hW] at c1
        clear hcell1 hcell2 hg hg' hd hd' hx hX hY hZ hW
        cases x
        all_goals
          go_wp2_with fail
          go_quiet (fail)
          go_wp2_with fail
        · go_ret
          exact ⟨ret_bool HL2.out.symm, below_drewN HW.out _⟩
        · go_roundw
          case rel => exact ⟨k + 1, by omega, HL2, by go_num, below_drewN HW.out _⟩
          case measure => simp [intOf]; omega
      · have HL2 := Lib.hid (HL.out.trans (show sameC (a.drop k) (b.drop k) = true by rw [List.drop_eq_nil_of_le (by have := HN.out; omega), List.drop_eq_nil_of_le (by have := HM.out; omega)]; rfl))
        go_wp2_with fail
        go_ret
        exact ⟨ret_bool HL2.out.symm, HW.out⟩
  · have HE := Lib.hid (sameC_len (a := a) (b := b) (by omega))
    have hne : ((n : Int) == (m : Int)) = false := beq_eq_false_iff_ne.2 (by omega)
    have hne2 : ((n : Int) != (m : Int)) = true := by rw [bne, hne]; rfl
    clear hn hm ha hb hnm
    go_enter Try.func49, Try.ntmps49
    go_wp2_with fail
    go_ret
    exact ⟨ret_bool HE.out.symm, Below.refl _ _⟩
/-- A Known of a set held against one of another. -/
theorem vs_same1 (x y : Kn) (A B : Option Addr) (c d n m : Nat) (hn : n = x.runs.length) (hm : m = y.runs.length) (X Y : Int) (hX : x.rep = X) (hY : y.rep = Y) (v : Bool) (hv : ((x.rep == y.rep) && sameC x.runs y.runs) = v) (w : World) (ha : kRn.Rd w w.heap.size A c x.runs) (hb : kRn.Rd w w.heap.size B d y.runs) :
    Calls Try.prog 48 #[.agg #[.int .i64 X, .slice A n c], .agg #[.int .i64 Y, .slice B m d]] w fun e w' => e = .returned (.bool v) ∧ Below w.heap.size w w' := by
  obtain ⟨z, hz⟩ : ∃ z, sameC x.runs y.runs = z := ⟨_, rfl⟩
  obtain ⟨p, hp⟩ : ∃ p, (X == Y) = p := ⟨_, rfl⟩
  have hb2 : Below w.heap.size w ((w.alloc (.cells #[.int .i64 X, .slice A n c] 48)).alloc (.cells #[.int .i64 Y, .slice B m d] 48)) := (below_new w _).trans ((below_new _ _).mono (by simp))
  have C := Lib.hid (vs_equal A B c d n m x.runs y.runs hn hm z hz _ (ha.call hb2) (hb.call hb2))
  clear hb2
  rw [hX, hY, hz, hp] at hv
  clear ha hb hn hm hz hX hY
  subst hv
  cases p
  · go_enter Try.func48, Try.ntmps48
    go_wp2_with fail
    go_ret
    exact ⟨rfl, (below_new w _).trans ((below_new _ _).mono (by simp))⟩
  · go_enter Try.func48, Try.ntmps48
    go_wp2_with ((with_reducible refine C.out.mono ?_); rintro e w1 ⟨rfl, hq⟩; have HQ := Lib.hid hq; clear hq)
    go_ret
    exact ⟨rfl, (below_new w _).trans (((below_new _ _).mono (by simp)).trans (HQ.out.mono (by simp; omega)))⟩
end Go.Proofs.Ytdlloobdmfoalaa

/-
  Layer 14 (vset), the program: are two sets the same, is one within the other?
-/
namespace Go.Proofs.Ytdlloobdmfoalaa
open Go.RowKit

theorem vs_of (A : Option Addr) (c n : Nat) (s : List Kn) (hn : n = s.length) (hnl : ∀ r, (runsV s r).length ≤ 200000) (U : List Kn) (hU : ofS s = U) (N : Nat) (hN : U.length = N) (w : World) (hr : RdK w w.heap.size A c s) :
    Calls Try.prog 15 #[.slice A n c] w (RetK w N U) := by
  have C := Lib.hid (vs_add A none c 0 n 0 s [] hn rfl (by omega) hnl U hU N hN w hr (Kind.Rd.nil _ _))
  clear hn hnl hU hN hr
  go_enter Try.func15, Try.ntmps15
  go_wp2_with ((with_reducible refine C.out.mono ?_); rintro e w1 ⟨A1, c1, rfl, hrd, hq⟩; have HR := Lib.hid hrd; have HQ := Lib.hid hq; clear hrd hq)
  go_ret
  exact ⟨A1, c1, rfl, HR.out, HQ.out⟩
theorem vs_union (A B : Option Addr) (c d n m : Nat) (a b : List Kn) (hn : n = a.length) (hm : m = b.length) (hnl : ∀ r, (runsV a r).length ≤ 100000) (hml : ∀ r, (runsV b r).length ≤ 100000) (U : List Kn) (hU : makeS 1 a b = U) (N : Nat) (hN : U.length = N) (w : World) (ha : RdK w w.heap.size A c a) (hb : RdK w w.heap.size B d b) :
    Calls Try.prog 19 #[.slice A n c, .slice B m d] w (RetK w N U) := by
  have C := Lib.hid (vs_both 43 1 k_cunion_own (enters_of Try.func43 (by kernel_rfl) rfl) A B c d n m a b hn hm hnl hml U hU N hN w ha hb)
  clear hn hm hnl hml hU hN ha hb
  go_enter Try.func19, Try.ntmps19
  go_wp2_with ((with_reducible refine C.out.mono ?_); rintro e w1 ⟨A1, c1, rfl, hrd, hq⟩; have HR := Lib.hid hrd; have HQ := Lib.hid hq; clear hrd hq)
  go_ret
  exact ⟨A1, c1, rfl, HR.out, HQ.out⟩
theorem vs_meet (A B : Option Addr) (c d n m : Nat) (a b : List Kn) (hn : n = a.length) (hm : m = b.length) (hnl : ∀ r, (runsV a r).length ≤ 100000) (hml : ∀ r, (runsV b r).length ≤ 100000) (U : List Kn) (hU : makeS 2 a b = U) (N : Nat) (hN : U.length = N) (w : World) (ha : RdK w w.heap.size A c a) (hb : RdK w w.heap.size B d b) :
    Calls Try.prog 20 #[.slice A n c, .slice B m d] w (RetK w N U) := by
  have C := Lib.hid (vs_both 44 2 k_cmeet_own (enters_of Try.func44 (by kernel_rfl) rfl) A B c d n m a b hn hm hnl hml U hU N hN w ha hb)
  clear hn hm hnl hml hU hN ha hb
  go_enter Try.func20, Try.ntmps20
  go_wp2_with ((with_reducible refine C.out.mono ?_); rintro e w1 ⟨A1, c1, rfl, hrd, hq⟩; have HR := Lib.hid hrd; have HQ := Lib.hid hq; clear hrd hq)
  go_ret
  exact ⟨A1, c1, rfl, HR.out, HQ.out⟩
theorem vs_less (A B : Option Addr) (c d n m : Nat) (a b : List Kn) (hn : n = a.length) (hm : m = b.length) (hnl : ∀ r, (runsV a r).length ≤ 100000) (hml : ∀ r, (runsV b r).length ≤ 100000) (U : List Kn) (hU : makeS 3 a b = U) (N : Nat) (hN : U.length = N) (w : World) (ha : RdK w w.heap.size A c a) (hb : RdK w w.heap.size B d b) :
    Calls Try.prog 21 #[.slice A n c, .slice B m d] w (RetK w N U) := by
  have C := Lib.hid (vs_both 45 3 k_cless_own (enters_of Try.func45 (by kernel_rfl) rfl) A B c d n m a b hn hm hnl hml U hU N hN w ha hb)
  clear hn hm hnl hml hU hN ha hb
  go_enter Try.func21, Try.ntmps21
  go_wp2_with ((with_reducible refine C.out.mono ?_); rintro e w1 ⟨A1, c1, rfl, hrd, hq⟩; have HR := Lib.hid hrd; have HQ := Lib.hid hq; clear hrd hq)
  go_ret
  exact ⟨A1, c1, rfl, HR.out, HQ.out⟩
theorem sameS_cons (x y : Kn) (a b : List Kn) : sameS (x :: a) (y :: b) = (((x.rep == y.rep) && sameC x.runs y.runs) && sameS a b) := rfl
set_option maxRecDepth 100000 in
set_option maxHeartbeats 2000000 in
theorem vs_equalF (A B : Option Addr) (c d n m : Nat) (a b : List Kn) (hn : n = a.length) (hm : m = b.length) (v : Bool) (hv : sameS a b = v) (w : World) (ha : RdK w w.heap.size A c a) (hb : RdK w w.heap.size B d b) :
    Calls Try.prog 47 #[.slice A n c, .slice B m d, .func (.func 48) #[] #[]] w fun e w' => e = .returned (.bool v) ∧ Below w.heap.size w w' := by
  have HN := Lib.hid hn
  have HM := Lib.hid hm
  have HA := Lib.hid ha
  have HB := Lib.hid hb
  have hmx := rdk_max ha hn
  have hmy := rdk_max hb hm
  have hcx : n ≤ c := by rw [hn]; exact ha.room
  have hcy : m ≤ d := by rw [hm]; exact hb.room
  subst hv
  by_cases hnm : n = m
  · subst hnm
    clear hn hm ha hb
    go_enter Try.func47, Try.ntmps47
    go_wp2_with fail
    go_loopw [17] (fun i wr => ∃ k : Nat, k ≤ n ∧ Hid (sameS a b = sameS (a.drop k) (b.drop k)) ∧ i = .int .i64 k ∧ Hid (Below w.heap.size w wr)) (fun i _ => n - (intOf i).toNat)
    case atStart => exact ⟨0, by omega, rfl, rfl, Below.refl _ _⟩
    case round =>
      obtain ⟨k, hk, HL, rfl, HW⟩ := hrel
      by_cases hlt : k < n
      · obtain ⟨x, hg, hd, -⟩ := cnt_get (l := a) (k := k) (by have := HN.out; omega)
        obtain ⟨y, hg', hd', -⟩ := cnt_get (l := b) (k := k) (by have := HM.out; omega)
        obtain ⟨b1, o1, rfl, hb1, hcell1⟩ := knowns_at (HA.out.call HW.out) (by have := HN.out; omega)
        obtain ⟨b2, o2, rfl, hb2, hcell2⟩ := knowns_at (HB.out.call HW.out) (by have := HM.out; omega)
        obtain ⟨A1, n1, c1, hn1, hr1, p0, p1⟩ := hcell1 k x hg
        obtain ⟨A2, n2, c2, hn2, hr2, q0, q1⟩ := hcell2 k y hg'
        obtain ⟨X, hX⟩ : ∃ X, x.rep = X := ⟨_, rfl⟩
        obtain ⟨Y, hY⟩ : ∃ Y, y.rep = Y := ⟨_, rfl⟩
        rw [hX] at p0
        rw [hY] at q0
        obtain ⟨z, hz⟩ : ∃ z, ((x.rep == y.rep) && sameC x.runs y.runs) = z := ⟨_, rfl⟩
        have hbb : Below wr.heap.size wr ((wr.alloc (.cells #[.int .i64 X, .slice A1 n1 c1] 48)).alloc (.cells #[.int .i64 Y, .slice A2 n2 c2] 48)) := (below_new _ _).trans ((below_new _ _).mono (by simp))
        have C := Lib.hid (vs_same1 x y A1 A2 c1 c2 n1 n2 hn1 hn2 X Y hX hY z hz _ (hr1.call hbb) (hr2.call hbb))
        have HW1 := Lib.hid (HW.out.trans (hbb.mono HW.out.size))
        have HL2 := Lib.hid (HL.out.trans (show sameS (a.drop k) (b.drop k) = (z && sameS (a.drop (k + 1)) (b.drop (k + 1))) by rw [hd, hd', sameS_cons, hz]))
        have hk0 : (0 : Int) ≤ (k : Int) := by omega
        have hkn : (k : Int) < (n : Int) := by omega
        have p0b := ((bcell (below_new wr (.cells #[.int .i64 X, .slice A1 n1 c1] 48))).1 b2 (o2 + k * 2) (World.block_lt_of_cell? wr _ q0)).trans q0
        have p1b := ((bcell (below_new wr (.cells #[.int .i64 X, .slice A1 n1 c1] 48))).1 b2 (o2 + k * 2 + 1) (World.block_lt_of_cell? wr _ q0)).trans q1
        clear hcell1 hcell2 hg hg' hd hd' hz hX hY hr1 hr2 hn1 hn2 hbb
        cases z
        · go_wp2_with ((with_reducible refine C.out.mono ?_); rintro e w2 ⟨rfl, hq⟩; have HW2 := Lib.hid (HW1.out.trans (hq.mono HW1.out.size)); clear hq)
          go_ret
          exact ⟨ret_bool HL2.out.symm, HW2.out⟩
        · go_wp2_with ((with_reducible refine C.out.mono ?_); rintro e w2 ⟨rfl, hq⟩; have HW2 := Lib.hid (HW1.out.trans (hq.mono HW1.out.size)); clear hq)
          go_roundw
          case rel => exact ⟨k + 1, by omega, HL2, by go_num, HW2⟩
          case measure => simp [intOf]; omega
      · have HL2 := Lib.hid (HL.out.trans (show sameS (a.drop k) (b.drop k) = true by rw [List.drop_eq_nil_of_le (by have := HN.out; omega), List.drop_eq_nil_of_le (by have := HM.out; omega)]; rfl))
        go_wp2_with fail
        go_ret
        exact ⟨ret_bool HL2.out.symm, HW.out⟩
  · have HE := Lib.hid (sameS_len (a := a) (b := b) (by omega))
    have hne : ((n : Int) == (m : Int)) = false := beq_eq_false_iff_ne.2 (by omega)
    have hne2 : ((n : Int) != (m : Int)) = true := by rw [bne, hne]; rfl
    clear hn hm ha hb hnm
    go_enter Try.func47, Try.ntmps47
    go_wp2_with fail
    go_ret
    exact ⟨ret_bool HE.out.symm, Below.refl _ _⟩
theorem vs_same (A B : Option Addr) (c d n m : Nat) (a b : List Kn) (hn : n = a.length) (hm : m = b.length) (hnl : ∀ r, (runsV a r).length ≤ 200000) (hml : ∀ r, (runsV b r).length ≤ 200000) (v : Bool) (hv : v = true ↔ ofS a = ofS b) (w : World) (ha : RdK w w.heap.size A c a) (hb : RdK w w.heap.size B d b) :
    Calls Try.prog 23 #[.slice A n c, .slice B m d] w fun e w' => e = .returned (.bool v) ∧ Below w.heap.size w w' := by
  obtain ⟨U, hU⟩ : ∃ U, ofS a = U := ⟨_, rfl⟩
  obtain ⟨W, hW⟩ : ∃ W, ofS b = W := ⟨_, rfl⟩
  obtain ⟨N, hN⟩ : ∃ N, U.length = N := ⟨_, rfl⟩
  obtain ⟨M, hM⟩ : ∃ M, W.length = M := ⟨_, rfl⟩
  have C1 := Lib.hid (vs_of A c n a hn hnl U hU N hN w ha)
  have C2 := fun w h => Lib.hid (vs_of B d m b hm hml W hW M hM w h)
  have hs : sameS U W = v := by
    rw [Bool.eq_iff_iff, sameS_iff, hv, hU, hW]
  have C3 := fun A B c d w h1 h2 => Lib.hid (vs_equalF A B c d N M U W hN.symm hM.symm v hs w h1 h2)
  have HB := Lib.hid hb
  clear hn hm hnl hml hU hW hN hM hs hv ha hb
  go_enter Try.func23, Try.ntmps23
  go_wp2_with (first
    | ((with_reducible refine C1.out.mono ?_); rintro e w1 ⟨A1, c1, rfl, hrd, hq⟩; have HR1 := Lib.hid hrd; have HQ1 := Lib.hid hq; replace HB := Lib.hid (HB.out.call hq); clear hrd hq)
    | ((with_reducible refine (C2 _ HB.out).out.mono ?_); rintro e w2 ⟨A2, c2, rfl, hrd, hq⟩; have HR2 := Lib.hid hrd; have HQ2 := Lib.hid (HQ1.out.trans (hq.mono HQ1.out.size)); replace HR1 := Lib.hid (HR1.out.call hq); clear hrd hq)
    | ((with_reducible refine (C3 _ _ _ _ _ HR1.out HR2.out).out.mono ?_); rintro e w3 ⟨rfl, hq⟩; have HQ3 := Lib.hid (HQ2.out.trans (hq.mono HQ2.out.size)); clear hq))
  go_ret
  exact ⟨rfl, HQ3.out⟩
theorem vs_within (A B : Option Addr) (c d n m : Nat) (a b : List Kn) (hn : n = a.length) (hm : m = b.length) (hnl : ∀ r, (runsV a r).length ≤ 100000) (hml : ∀ r, (runsV b r).length ≤ 100000) (v : Bool) (hv : v = true ↔ makeS 3 a b = []) (w : World) (ha : RdK w w.heap.size A c a) (hb : RdK w w.heap.size B d b) :
    Calls Try.prog 24 #[.slice A n c, .slice B m d] w fun e w' => e = .returned (.bool v) ∧ Below w.heap.size w w' := by
  obtain ⟨U, hU⟩ : ∃ U, makeS 3 a b = U := ⟨_, rfl⟩
  obtain ⟨N, hN⟩ : ∃ N, U.length = N := ⟨_, rfl⟩
  have C := Lib.hid (vs_less A B c d n m a b hn hm hnl hml U hU N hN w ha hb)
  have hs : ((N : Int) == 0) = v := by
    rw [Bool.eq_iff_iff, hv, hU, beq_iff_eq, ← hN]
    constructor
    · exact fun h => List.eq_nil_of_length_eq_zero (by omega)
    · exact fun h => by rw [h]; rfl
  subst hs
  clear hn hm hnl hml hU ha hb hv hN
  go_enter Try.func24, Try.ntmps24
  go_wp2_with ((with_reducible refine C.out.mono ?_); rintro e w1 ⟨A1, c1, rfl, -, hq⟩; have HQ := Lib.hid hq; clear hq)
  go_ret
  exact ⟨rfl, HQ.out⟩
end Go.Proofs.Ytdlloobdmfoalaa

/-
  The laws of layer 14: what the program's functions do, as they ask it.
-/
namespace Go.Proofs.Ytdlloobdmfoalaa
open Go.RowKit

theorem k_sright : SRightC 10 := fun A c n s hn _ v hv w hr => vs_right A c n s hn v hv w hr
theorem k_shas : SHasC 12 := fun A c n s v x y hx hy hn _ f hf w hr => vs_has A c n s v x y hx hy hn f hf w hr
theorem k_sof : SOfC 15 := fun A c n s hn hc U hU N hN w hr => vs_of A c n s hn (fun r => by have := hc.2 r; omega) U hU N hN w hr
theorem k_sadd : SAddC 17 := fun A B c d n m s l hn hm hml _ hc U hU N hN w ha hb => vs_add A B c d n m s l hn hm (by omega) (fun r => by have := hc r; omega) U hU N hN w ha hb
theorem k_sunion : SSetC 19 1 := fun A B c d n m a b hn hm hc hd U hU N hN w ha hb => vs_union A B c d n m a b hn hm (fun r => by have := hc.2 r; omega) (fun r => by have := hd.2 r; omega) U hU N hN w ha hb
theorem k_smeet : SSetC 20 2 := fun A B c d n m a b hn hm hc hd U hU N hN w ha hb => vs_meet A B c d n m a b hn hm (fun r => by have := hc.2 r; omega) (fun r => by have := hd.2 r; omega) U hU N hN w ha hb
theorem k_sless : SSetC 21 3 := fun A B c d n m a b hn hm hc hd U hU N hN w ha hb => vs_less A B c d n m a b hn hm (fun r => by have := hc.2 r; omega) (fun r => by have := hd.2 r; omega) U hU N hN w ha hb
theorem k_ssame : SBoolC 23 sameQ := fun A B c d n m a b hn hm hc hd v hv w ha hb => vs_same A B c d n m a b hn hm (fun r => by have := hc.2 r; omega) (fun r => by have := hd.2 r; omega) v hv w ha hb
theorem k_swithin : SBoolC 24 withinQ := fun A B c d n m a b hn hm hc hd v hv w ha hb => vs_within A B c d n m a b hn hm (fun r => by have := hc.2 r; omega) (fun r => by have := hd.2 r; omega) v hv w ha hb
theorem k_svec : SVecC 25 := fun A c n s hn hc G hG w hr => vs_vector A c n s hn (fun r => by have := hc.2 r; omega) G hG w hr
theorem k_smost : SMostC 28 := fun A c n s r hn hc z hz w hr => vs_most A c n s r hn (fun r => by have := hc.2 r; omega) z hz w hr
end Go.Proofs.Ytdlloobdmfoalaa
