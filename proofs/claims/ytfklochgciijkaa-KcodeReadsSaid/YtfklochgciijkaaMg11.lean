/-
  Several texts in one: VstI, VstMrg, Step, VstJ, CntF, VstO, RgsMrg, KnwMrg, KnwK, KcpA, FcdF, Law13A.
-/
import Derived.Deep.RegionLaw
import Derived.Lib.AppendZeros
import Derived.Deep.RegionHeld3
import Derived.Deep.CutRange
import Derived.Handy
import Derived.Test.YtfklochgciijkaaMg10
/-
  Layer 14 (vset), the program: the set of sixteen rows.
-/
namespace Go.Proofs.Ytfklochgciijkaa
open Go.RowKit

/-- Sixteen values as one. -/
abbrev grV (V : Nat → Value) : Value := .agg #[V 0, V 1, V 2, V 3, V 4, V 5, V 6, V 7, V 8, V 9, V 10, V 11, V 12, V 13, V 14, V 15]
/-- A row of runs that was there holds as a new Known behind it. -/
theorem holds_old {w w2 : World} {n c : Nat} {T : Nat → Prop} {A : Option Addr} {l : List Rn} {v : Value} {ks : List Ks} (ho : kKs.Own w2 w.heap.size v ks) (hr : kRn.RdS w T A c l) (hb : Below w.heap.size w w2) (hn : n = l.length) (r : Int) : dKn.rel w2 (fun g => (T g ∨ w.heap.size ≤ g) ∧ v.ownBlock ≠ some g) ⟨r, A, n, c⟩ ⟨r, l⟩ :=
  ⟨rfl, hn, (hr.lives.keep (keptS_under hb fun g h => h.2)).mono fun g hg => ⟨.inl hg.1, fun e => by have := (ho.lt g e).1; have := hg.2; omega⟩⟩
end Go.Proofs.Ytfklochgciijkaa

/-
  Plain facts on sets of versions (layer 14), as the program makes them: row by row. No program in this text.
-/
namespace Go.Proofs.Ytfklochgciijkaa

/-- What a version puts into the row of a replica. -/
def runOf (v : Vr) (r : Int) : List Rn := match rightVr v && decide (v.rep = r) with
  | true => [⟨v.cnt, v.cnt⟩]
  | false => []
theorem runOf_yes {v : Vr} {r : Int} (h : rightVr v = true) (hr : v.rep = r) : runOf v r = [⟨v.cnt, v.cnt⟩] := by unfold runOf; rw [h, decide_eq_true hr]; rfl
theorem runOf_wrong {v : Vr} {r : Int} (h : rightVr v = false) : runOf v r = [] := by unfold runOf; rw [h]; rfl
theorem runOf_no {v : Vr} {r : Int} (hr : v.rep ≠ r) : runOf v r = [] := by unfold runOf; rw [decide_eq_false hr, Bool.and_false]
theorem runOf_len (v : Vr) (r : Int) : (runOf v r).length ≤ 1 := by
  unfold runOf; split <;> simp
/-- What some versions put into the row of a replica. -/
def versR (l : List Vr) (r : Int) : List Rn := l.flatMap fun v => runOf v r
theorem versR_nil (r : Int) : versR [] r = [] := rfl
theorem versR_cons (v : Vr) (l : List Vr) (r : Int) : versR (v :: l) r = runOf v r ++ versR l r := rfl
theorem versR_take {l : List Vr} {k : Nat} {v : Vr} (h : l[k]? = some v) (r : Int) : versR (l.take (k + 1)) r = versR (l.take k) r ++ runOf v r := by
  unfold versR
  rw [List.take_add_one, h, Option.toList_some, List.flatMap_append, List.flatMap_singleton]
theorem versR_len : ∀ (l : List Vr) (r : Int), (versR l r).length ≤ l.length
  | [], _ => Nat.le_refl _
  | v :: l, r => by
    have h1 := versR_len l r
    have h2 := runOf_len v r
    rw [versR_cons, List.length_append, List.length_cons]; omega
theorem addS_has (s : List Kn) (v : Vr) (r n : Int) : hasK (addS s v) r n = (hasK s r n || (decide (1 ≤ r) && (decide (r ≤ 16) && hasC (runOf v r) n))) := by
  unfold addS
  cases h : rightVr v with
  | false => rw [runOf_wrong h, hasC_nil, Bool.and_false, Bool.and_false, Bool.or_false]
  | true =>
    show hasK (makeS 1 s (oneS v)) r n = _
    rw [makeS_has, gC1]
    congr 1
    unfold hasK oneS
    rw [runsV]
    by_cases hr : v.rep = r
    · rw [runOf_yes h hr, partV_yes (k := ⟨v.rep, _⟩) hr, runsV, List.append_nil]
    · rw [runOf_no hr, partV_no (k := ⟨v.rep, _⟩) hr, runsV, List.append_nil]
theorem addS_fold_has : ∀ (l : List Vr) (s : List Kn) (r n : Int), hasK (l.foldl addS s) r n = (hasK s r n || (decide (1 ≤ r) && (decide (r ≤ 16) && hasC (versR l r) n)))
  | [], s, r, n => by rw [versR_nil, hasC_nil, Bool.and_false, Bool.and_false, Bool.or_false]; rfl
  | v :: l, s, r, n => by
    rw [List.foldl_cons, addS_fold_has l, addS_has, versR_cons, hasC_append]
    cases hasK s r n <;> cases decide (1 ≤ r) <;> cases decide (r ≤ 16) <;> rfl
theorem addS_fold_right : ∀ (l : List Vr) {s : List Kn}, rightS s = true → rightS (l.foldl addS s) = true
  | [], _, h => h
  | _ :: l, _, h => addS_fold_right l (addS_right h)
/-- Some versions more, row by row. -/
theorem addsS_cols (s : List Kn) (l : List Vr) : addsS s l = colS (fun r => ofC (runsV s r ++ versR l r)) 16 := by
  refine rightS_unique (addS_fold_right l (ofS_right s)) (colS_up (fun r => ofC_right _) (Nat.le_refl _)) fun r n => ?_
  unfold addsS
  rw [addS_fold_has, ofS_has]
  by_cases h : 1 ≤ r ∧ r ≤ 16
  · rw [hasK_in h.1 h.2, hasK_in h.1 h.2, decide_eq_true h.1, decide_eq_true h.2, colS_runs, decide_eq_true h.1, decide_eq_true (show r ≤ ((16 : Nat) : Int) by omega)]
    show _ = hasC (ofC _) n
    rw [ofC_has, hasC_append, Bool.true_and, Bool.true_and]
  · rw [hasK_out (by omega), hasK_out (by omega)]
    by_cases h1 : 1 ≤ r
    · rw [decide_eq_false (show ¬ r ≤ 16 by omega), Bool.false_and, Bool.and_false]; rfl
    · rw [decide_eq_false h1, Bool.false_and]; rfl
theorem ofS_cols (s : List Kn) : ofS s = colS (fun r => ofC (runsV s r)) 16 := by
  have h := addsS_cols s []
  simp only [versR_nil, List.append_nil] at h
  exact h
end Go.Proofs.Ytfklochgciijkaa

/-
  append in a statement that draws its order, at one operation of the drawn region.
-/
namespace Go.Proofs.Ytfklochgciijkaa
open Go.RowKit

theorem step_app_k {P : Program} {α : Type} (k : Kind P α) {ops : Array Oper} {w : World} {o : Oper} {a : Act} {K : Act → World → Prop} {Q : Exit → Act → World → Prop} {E : Prop} (hgd : o.guard = none) (s x : Operand)
    (ho : o.op = .call { callee := .builtin .append, args := #[s, x], argTypes := #[k.ty, k.ty] })
    (base : Nat) (v : Value) (xs : List α) (hs : a.eval s = v) (hown : k.Own w base v xs)
    (B : Nat) (A : Option Addr) (c n : Nat) (ys : List α) (hn : n = ys.length) (hx : a.eval x = .slice A n c) (hr : RowAt w B A (k.row ys)) (hlen : xs.length + ys.length ≤ 1000000) (hby : k.bytes ≤ 1000) (hbase : base ≤ w.heap.size)
    (h : ∀ v' w', k.Own w' base v' (xs ++ ys) → w.grownBy w' v.ownBlock → Below base w w' → (v'.ownBlock = v.ownBlock ∨ v'.ownBlock = some w.heap.size) → K (a.put o.dst v') w') :
    if Region.wanted o (yielded ops a.tmps) = true then Oper.wp P o a w K Q else E := by
  rw [if_pos (by simp [Region.wanted, hgd])]
  exact op_app_k k s x ho base v xs hs hown B A c n ys hn hx hr hlen hby hbase h
end Go.Proofs.Ytfklochgciijkaa

/-
  Layer 14 (vset), the program: the rows of each replica.
-/
namespace Go.Proofs.Ytfklochgciijkaa
open Go.RowKit

theorem vs_rep (x : Int) (p : Bool) (hp : (decide (1 ≤ x) && decide (x ≤ 16)) = p) (w : World) :
    Calls Try.prog 58 #[.int .i64 x] w fun e w' => e = .returned (.bool p) ∧ w = w' := by
  obtain ⟨a, ha⟩ : ∃ a, decide (1 ≤ x) = a := ⟨_, rfl⟩
  obtain ⟨b, hb⟩ : ∃ b, decide (x ≤ 16) = b := ⟨_, rfl⟩
  rw [ha, hb] at hp
  subst hp
  cases a <;> cases b
  all_goals
    go_enter Try.func58, Try.ntmps58
    go_wp2_with fail
    go_ret
    exact ⟨rfl, rfl⟩
/-- Sixteen stores, one behind the other. -/
abbrev set16 (w : World) (g : Nat) (V : Nat → Value) : World := (((((((((((((((w.setCell ⟨g, 0, none⟩ (V 0)).setCell ⟨g, 1, none⟩ (V 1)).setCell ⟨g, 2, none⟩ (V 2)).setCell ⟨g, 3, none⟩ (V 3)).setCell ⟨g, 4, none⟩ (V 4)).setCell ⟨g, 5, none⟩ (V 5)).setCell ⟨g, 6, none⟩ (V 6)).setCell ⟨g, 7, none⟩ (V 7)).setCell ⟨g, 8, none⟩ (V 8)).setCell ⟨g, 9, none⟩ (V 9)).setCell ⟨g, 10, none⟩ (V 10)).setCell ⟨g, 11, none⟩ (V 11)).setCell ⟨g, 12, none⟩ (V 12)).setCell ⟨g, 13, none⟩ (V 13)).setCell ⟨g, 14, none⟩ (V 14)).setCell ⟨g, 15, none⟩ (V 15)
theorem set16_at {w : World} {g : Nat} {Z V : Nat → Value} (h : GrAt w g Z) : GrAt (set16 w g V) g V :=
  ((((((((((((((((h.set (k := 0) (by omega) (V 0)).set (k := 1) (by omega) (V 1)).set (k := 2) (by omega) (V 2)).set (k := 3) (by omega) (V 3)).set (k := 4) (by omega) (V 4)).set (k := 5) (by omega) (V 5)).set (k := 6) (by omega) (V 6)).set (k := 7) (by omega) (V 7)).set (k := 8) (by omega) (V 8)).set (k := 9) (by omega) (V 9)).set (k := 10) (by omega) (V 10)).set (k := 11) (by omega) (V 11)).set (k := 12) (by omega) (V 12)).set (k := 13) (by omega) (V 13)).set (k := 14) (by omega) (V 14)).set (k := 15) (by omega) (V 15)).congr fun k hk => by
    rcases lt16 hk with rfl | rfl | rfl | rfl | rfl | rfl | rfl | rfl | rfl | rfl | rfl | rfl | rfl | rfl | rfl | rfl <;> rfl
theorem below_set16 {B g : Nat} {a w : World} (h : Below B a w) (hg : B ≤ g) (V : Nat → Value) : Below B a (set16 w g V) :=
  (((((((((((((((h.setCell (p := ⟨g, 0, none⟩) hg _).setCell (p := ⟨g, 1, none⟩) hg _).setCell (p := ⟨g, 2, none⟩) hg _).setCell (p := ⟨g, 3, none⟩) hg _).setCell (p := ⟨g, 4, none⟩) hg _).setCell (p := ⟨g, 5, none⟩) hg _).setCell (p := ⟨g, 6, none⟩) hg _).setCell (p := ⟨g, 7, none⟩) hg _).setCell (p := ⟨g, 8, none⟩) hg _).setCell (p := ⟨g, 9, none⟩) hg _).setCell (p := ⟨g, 10, none⟩) hg _).setCell (p := ⟨g, 11, none⟩) hg _).setCell (p := ⟨g, 12, none⟩) hg _).setCell (p := ⟨g, 13, none⟩) hg _).setCell (p := ⟨g, 14, none⟩) hg _).setCell (p := ⟨g, 15, none⟩) hg _
theorem RowsG.set16 {w : World} {base g : Nat} {V : Nat → Value} {L : Nat → List Rn} (h : RowsG w base V L) (hg : ∀ j, j < 16 → (V j).ownBlock ≠ some g) (U : Nat → Value) : RowsG (set16 w g U) base V L :=
  (((((((((((((((h.set hg _).set hg _).set hg _).set hg _).set hg _).set hg _).set hg _).set hg _).set hg _).set hg _).set hg _).set hg _).set hg _).set hg _).set hg _).set hg _
theorem RowsG.low {w : World} {base g : Nat} {V : Nat → Value} {L : Nat → List Rn} (h : RowsG w base V L) (hg : g < base) : ∀ j, j < 16 → (V j).ownBlock ≠ some g := fun j hj e => by have := ((h.own j hj).lt g e).1; omega
/-- How the rows stand while they are gathered: the result's cells, then the rows', and behind them the rows. -/
structure GatAt (w0 w : World) (V : Nat → Value) (L : Nat → List Rn) : Prop where
  res : GrAt w w0.heap.size (fun _ => .slice none 0 0)
  all : GrAt w (w0.heap.size + 1) V
  rows : RowsG w (w0.heap.size + 1 + 1) V L
  low : Below w0.heap.size w0 w
theorem GatAt.below {w0 w w' : World} {V : Nat → Value} {L : Nat → List Rn} (h : GatAt w0 w V L) (hb : Below w.heap.size w w') : GatAt w0 w' V L := ⟨h.res.below hb, h.all.below hb, h.rows.below hb, h.low.trans (hb.mono h.low.size)⟩
theorem GatAt.congr {w0 w : World} {V : Nat → Value} {L M : Nat → List Rn} (h : GatAt w0 w V L) (e : ∀ k, k < 16 → M k = L k) : GatAt w0 w V M := ⟨h.res, h.all, h.rows.congr e, h.low⟩
theorem gatAt_new (w : World) (t : TypeId) : GatAt w ((w.alloc (grO (fun _ => .slice none 0 0) t)).alloc (grO (fun _ => .slice none 0 0) t)) (fun _ => .slice none 0 0) (fun _ => []) := by
  refine ⟨(grAt_new w _ t).alloc _, ?_, rowsG_nil _ _, (below_new w _).trans ((below_new _ _).mono (by simp))⟩
  have h := grAt_new (w.alloc (grO (fun _ => .slice none 0 0) t)) (fun _ => .slice none 0 0) t
  rw [size1] at h
  exact h
theorem GatAt.own_lt {w0 w : World} {V : Nat → Value} {L : Nat → List Rn} (h : GatAt w0 w V L) {j g : Nat} (hj : j < 16) (hg : g < w0.heap.size + 1 + 1) : some g ≠ (V j).ownBlock := fun e => h.rows.low hg j hj e.symm
theorem GatAt.congrV {w0 w : World} {V W : Nat → Value} {L : Nat → List Rn} (h : GatAt w0 w V L) (e : ∀ k, k < 16 → W k = V k) : GatAt w0 w W L := ⟨h.res, h.all.congr e, h.rows.congrV e, h.low⟩
/-- Behind an append, ahead of its store. -/
theorem GatAt.mid {w0 w w' : World} {V : Nat → Value} {L : Nat → List Rn} (h : GatAt w0 w V L) {j : Nat} (hj : j < 16) (hg : w.grownBy w' (V j).ownBlock) : GrAt w' (w0.heap.size + 1) V := h.all.grown hg (h.own_lt hj (by omega))
theorem GatAt.app {w0 w w' : World} {V : Nat → Value} {L : Nat → List Rn} {v' : Value} {l : List Rn} (h : GatAt w0 w V L) {j : Nat} (hj : j < 16) (ho : kRn.Own w' (w0.heap.size + 1 + 1) v' l) (hg : w.grownBy w' (V j).ownBlock) (hv : v'.ownBlock = (V j).ownBlock ∨ v'.ownBlock = some w.heap.size) :
    GatAt w0 (w'.setCell ⟨w0.heap.size + 1, j, none⟩ v') (upd V j v') (upd L j l) := by
  have hr := h.rows.app hj ho hg hv
  refine ⟨(h.res.grown hg (h.own_lt hj (by omega))).other (by omega) _, (h.mid hj hg).set hj _, hr.set (hr.low (by omega)) _, ?_⟩
  exact ((h.low.grown hg h.low.size fun g e => by have := ((h.rows.own j hj).lt g e).1; omega)).setCell (p := ⟨w0.heap.size + 1, j, none⟩) (by show w0.heap.size ≤ w0.heap.size + 1; omega) _
/-- What a call hands back that gathers the rows. -/
def RetG (w : World) (N : Nat → Nat) (L : Nat → List Rn) (e : Ending) (w' : World) : Prop := ∃ A c, e = .returned (grV (slV A N c)) ∧ RowsG w' w.heap.size (slV A N c) L ∧ Below w.heap.size w w'
theorem gat_end {fn : Func} {a : Act} {w0 w : World} {A : Nat → Option Addr} {N c : Nat → Nat} {L : Nat → List Rn} (h : GatAt w0 w (slV A N c) L) (hd : a.defers = []) (hr : ∀ w', GrAt w' w0.heap.size (slV A N c) → (results fn a.tmps).run Try.prog w' = .ok (grV (slV A N c)) w') : bodyPost Try.prog fn (RetG w0 N L) .ret a (set16 w w0.heap.size (slV A N c)) :=
  bodyPost_ret (hr _ (set16_at h.res)) hd ⟨A, c, rfl, (h.rows.set16 (h.rows.low (by omega)) _).mono (by omega), below_set16 h.low (Nat.le_refl _) _⟩
end Go.Proofs.Ytfklochgciijkaa

/-
  Layer 13 (counts), the program: is a run right, is there a count between two, has a list a count, is a list right.
-/
namespace Go.Proofs.Ytfklochgciijkaa
open Go.RowKit

theorem cn_one (r : Rn) (x y : Int) (hx : r.fr = x) (hy : r.to = y) (z : Bool) (hz : oneC r = z) (w : World) :
    Calls Try.prog 69 #[.agg #[.int .i64 x, .int .i64 y]] w fun e w' => e = .returned (.bool z) ∧ Below w.heap.size w w' := by
  unfold oneC at hz
  rw [hx, hy] at hz
  have HB := Lib.hid (below_new w (.cells #[.int .i64 x, .int .i64 y] 49))
  obtain ⟨b1, h1⟩ : ∃ b, decide (1 ≤ x) = b := ⟨_, rfl⟩
  obtain ⟨b2, h2⟩ : ∃ b, decide (x ≤ y) = b := ⟨_, rfl⟩
  obtain ⟨b3, h3⟩ : ∃ b, decide (y ≤ 1099511627776) = b := ⟨_, rfl⟩
  rw [h1, h2, h3] at hz
  subst hz
  clear hx hy
  cases b1
  case' true =>
    cases b2
    case' true =>
      cases b3
  all_goals
    go_enter Try.func69, Try.ntmps69
    go_wp2_with fail
    go_ret
    exact ⟨rfl, HB.out⟩
theorem cn_apart (p r : Rn) (a b c d : Int) (hb : p.to = b) (hc : r.fr = c) (h1 : oneC p = true) (v : Bool) (hv : gapC p r = v) (w : World) :
    Calls Try.prog 70 #[.agg #[.int .i64 a, .int .i64 b], .agg #[.int .i64 c, .int .i64 d]] w fun e w' => e = .returned (.bool v) ∧ Below w.heap.size w w' := by
  have h2 := oneC_iff.1 h1
  have HB := Lib.hid ((below_new w (.cells #[.int .i64 a, .int .i64 b] 49)).alloc (by simp) (.cells #[.int .i64 c, .int .i64 d] 49))
  have hw : IntKind.i64.wrap (b + 1) = b + 1 := IntWalk.i64_in _ (by omega)
  unfold gapC at hv
  rw [hb, hc] at hv
  clear hb hc h1 h2
  go_enter Try.func70, Try.ntmps70
  cases v
  all_goals
    go_wp2_with fail
    go_ret
    exact ⟨rfl, HB.out⟩
theorem gapC_two (p r : Rn) : decide (p.to + 2 ≤ r.fr) = gapC p r := decide_eq_decide.2 (by omega)
set_option maxHeartbeats 1000000 in
theorem cn_right (A : Option Addr) (c n : Nat) (l : List Rn) (hn : n = l.length) (v : Bool) (hv : rightC l = v) (w : World) (hr : kRn.Rd w w.heap.size A c l) :
    Calls Try.prog 59 #[.slice A n c] w fun e w' => e = .returned (.bool v) ∧ Below w.heap.size w w' := by
  have HN := Lib.hid hn
  have HR := Lib.hid hr
  have hmx := rd_maxC hr hn
  have hcx : n ≤ c := by rw [hn]; exact hr.room
  subst hv
  clear hn hr
  go_enter Try.func59, Try.ntmps59
  go_wp2_with fail
  go_loopw [7] (fun i wr => ∃ k : Nat, k ≤ n ∧ i = .int .i64 k ∧ Hid (k = 0 ∨ ∃ j p, k = j + 1 ∧ l[j]? = some p ∧ oneC p = true ∧ rightC l = contC p (l.drop k)) ∧ Below w.heap.size w wr) (fun i _ => n - (intOf i).toNat)
  case atStart => exact ⟨0, by omega, rfl, .inl rfl, Below.refl _ _⟩
  case round =>
    obtain ⟨k, hk, rfl, HL, hb⟩ := hrel
    by_cases hlt : k < n
    · obtain ⟨r, hg, hd, -⟩ := cnt_get (l := l) (k := k) (by have := HN.out; omega)
      have HR1 := Lib.hid (HR.out.below hb)
      obtain ⟨b, o, rfl, hb1, hcell⟩ := rns_at HR1.out (by have := HN.out; omega)
      obtain ⟨c0, c1⟩ := hcell k r hg
      obtain ⟨d, hdv⟩ : ∃ d, oneC r = d := ⟨_, rfl⟩
      have C := fun w => (cn_one r _ _ rfl rfl d hdv w)
      have hbl := Nat.lt_of_lt_of_le hb1 hb.size
      obtain ⟨X, hX⟩ : ∃ X, r.fr = X := ⟨_, rfl⟩
      obtain ⟨Y, hY⟩ : ∃ Y, r.to = Y := ⟨_, rfl⟩
      have HG := rnAt_new wr X Y 49
      have HB1 := hb.alloc hb.size (.cells #[.int .i64 X, .int .i64 Y] 49)
      have HC : Hid (CellL w [(⟨wr.heap.size, 0, none⟩, .int .i64 X), (⟨wr.heap.size, 1, none⟩, .int .i64 Y)] (wr.alloc (.cells #[.int .i64 X, .int .i64 Y] 49))) := ⟨HG.1, HG.2.1, HB1⟩
      rw [hX, hY] at C
      rw [hX] at c0
      rw [hY] at c1
      cases d
      · have HL2 := Lib.hid (show rightC l = false from by
          rcases HL.out with rfl | ⟨j, p, rfl, hp, h1, h2⟩
          · rw [List.drop_zero] at hd; rw [hd, rightC_cont, hdv]; rfl
          · rw [h2, hd, contC_cons, hdv]; rfl)
        have C := Lib.hid (fun L => cellL_of (a := w) (l := L) C)
        clear hcell hg hd hdv hX hY HG HB1 HL
        go_wp2_with fail
        clear c0 c1
        refine q_region (CellL w [(⟨wr.heap.size, 0, none⟩, .int .i64 X), (⟨wr.heap.size, 1, none⟩, .int .i64 Y)]) (by kernel_rfl) (by kernel_rfl) (cellL_drew HC.out) ?_
        repeat (first
          | go_big_quiet_skip
          | (go_big_quiet_want; (first
            | (refine q_take (v := ?_) ?_ ?_; rotate_left; (focus (intro w hSw; (try simp only [CellL] at hSw); go_split_ands; go_simp; (try (rw [if_neg (by omega)])); (try with_reducible rfl); done)))
            | (refine q_call (C.out _) ?_ ?_; (focus (intro w hSw; (try simp only [CellL] at hSw); go_split_ands; go_simp; (try (rw [if_neg (by omega)])); done)))); (try simp only [Act.put, List.setIfInBounds_toArray, List.set_cons_zero, List.set_cons_succ]); go_big_quiet_on))
        refine wpQuiet_nil ?_
        intro w2 hw2
        go_wp2_with fail
        go_ret
        exact ⟨ret_bool HL2.out.symm, cellL_size hw2⟩
      · have C := Lib.hid (fun L => cellL_of (a := w) (l := L) C)
        cases k with
        | zero =>
          have HL2 := Lib.hid (show (0 : Nat) + 1 = 0 ∨ ∃ j p, 0 + 1 = j + 1 ∧ l[j]? = some p ∧ oneC p = true ∧ rightC l = contC p (l.drop (0 + 1)) from .inr ⟨0, r, rfl, hg, hdv, by rw [List.drop_zero] at hd; rw [hd, rightC_cont, hdv, Bool.true_and]; rfl⟩)
          clear hcell hg hd hdv hX hY HG HB1 HL
          simp only [Nat.zero_mul, Nat.add_zero] at c0 c1
          go_wp2_with fail
          clear c0 c1
          refine q_region (CellL w [(⟨wr.heap.size, 0, none⟩, .int .i64 X), (⟨wr.heap.size, 1, none⟩, .int .i64 Y)]) (by kernel_rfl) (by kernel_rfl) (cellL_drew HC.out) ?_
          repeat (first
            | go_big_quiet_skip
            | (go_big_quiet_want; (first
              | (refine q_take (v := ?_) ?_ ?_; rotate_left; (focus (intro w hSw; (try simp only [CellL] at hSw); go_split_ands; go_simp; (try (rw [if_neg (by omega)])); (try with_reducible rfl); done)))
              | (refine q_call (C.out _) ?_ ?_; (focus (intro w hSw; (try simp only [CellL] at hSw); go_split_ands; go_simp; (try (rw [if_neg (by omega)])); done)))); (try simp only [Act.put, List.setIfInBounds_toArray, List.set_cons_zero, List.set_cons_succ]); go_big_quiet_on))
          refine wpQuiet_nil ?_
          intro w2 hw2
          go_wp2_with fail
          go_roundw
          case rel => exact ⟨1, by omega, rfl, HL2, cellL_size hw2⟩
          case measure => simp [intOf]; omega
        | succ j =>
          obtain ⟨p, hp, hp1, hp2⟩ : ∃ p, l[j]? = some p ∧ oneC p = true ∧ rightC l = contC p (l.drop (j + 1)) := by
            rcases HL.out with h | ⟨j', p, h, h1, h2, h3⟩
            · cases h
            · obtain rfl : j = j' := by omega
              exact ⟨p, h1, h2, h3⟩
          obtain ⟨p0, p1⟩ := hcell j p hp
          obtain ⟨x, hx⟩ : ∃ x, gapC p r = x := ⟨_, rfl⟩
          have CA := fun w => (cn_apart p r p.fr p.to X Y rfl hX hp1 x hx w)
          have CA := Lib.hid (fun L => cellL_of (a := w) (l := L) CA)
          have HL1 := Lib.hid (show rightC l = (x && contC r (l.drop (j + 1 + 1))) from by rw [hp2, hd, contC_cons, hdv, gapC_two, hx, Bool.true_and])
          have HL2 := Lib.hid (fun h : x = true => show j + 1 + 1 = 0 ∨ ∃ j' p', j + 1 + 1 = j' + 1 ∧ l[j']? = some p' ∧ oneC p' = true ∧ rightC l = contC p' (l.drop (j + 1 + 1)) from .inr ⟨j + 1, r, rfl, hg, hdv, by rw [HL1.out, h]; rfl⟩)
          obtain ⟨U, hU⟩ : ∃ U, p.fr = U := ⟨_, rfl⟩
          obtain ⟨V, hV⟩ : ∃ V, p.to = V := ⟨_, rfl⟩
          rw [hU, hV] at CA
          rw [hU] at p0
          rw [hV] at p1
          have HW := alloc_keeps wr (.cells #[.int .i64 X, .int .i64 Y] 49)
          have HC2 : Hid (CellL w [(⟨wr.heap.size, 0, none⟩, .int .i64 X), (⟨wr.heap.size, 1, none⟩, .int .i64 Y), (⟨b, o + j * 2, none⟩, .int .i64 U), (⟨b, o + j * 2 + 1, none⟩, .int .i64 V)] (wr.alloc (.cells #[.int .i64 X, .int .i64 Y] 49))) := ⟨HG.1, HG.2.1, (HW _ _ hbl).trans p0, (HW _ _ hbl).trans p1, HB1⟩
          have hj1 : (0 : Int) < (j : Int) + 1 := by omega
          have hjd : decide ((0 : Int) < (j : Int) + 1) = true := decide_eq_true hj1
          have hjn : (j : Int) < (n : Int) := by omega
          have hj0 : (0 : Int) ≤ (j : Int) := by omega
          have hjw : IntKind.i64.wrap ((j : Int) + 1 - 1) = (j : Int) := by rw [Int.add_sub_cancel]; exact IntWalk.i64_in _ (by omega)
          have hjw2 : IntKind.i64.wrap (j : Int) = (j : Int) := IntWalk.i64_in _ (by omega)
          have HJW := Lib.hid (And.intro hjw hjw2)
          clear hcell hg hd hdv hX hY HG HB1 hp hp1 hp2 hx hU hV HC HW p0 p1 hjw hjw2 HL
          cases x
          all_goals
            go_wp2_with fail
            clear c0 c1
            obtain ⟨hjw, hjw2⟩ := HJW.out
            refine q_region (CellL w [(⟨wr.heap.size, 0, none⟩, .int .i64 X), (⟨wr.heap.size, 1, none⟩, .int .i64 Y), (⟨b, o + j * 2, none⟩, .int .i64 U), (⟨b, o + j * 2 + 1, none⟩, .int .i64 V)]) (by kernel_rfl) (by kernel_rfl) (cellL_drew HC2.out) ?_
            repeat (first
              | go_big_quiet_skip
              | (go_big_quiet_want; (first
                | (refine q_take (v := ?_) ?_ ?_; rotate_left; (focus (intro w hSw; (try simp only [CellL] at hSw); go_split_ands; go_simp; (try (rw [if_neg (by omega)])); (try with_reducible rfl); done)))
                | (refine q_call (C.out _) ?_ ?_; (focus (intro w hSw; (try simp only [CellL] at hSw); go_split_ands; go_simp; (try (rw [if_neg (by omega)])); done)))
                | (refine q_call (CA.out _) ?_ ?_; (focus (intro w hSw; (try simp only [CellL] at hSw); go_split_ands; go_simp; (try (rw [if_neg (by omega)])); done)))); (try simp only [Act.put, List.setIfInBounds_toArray, List.set_cons_zero, List.set_cons_succ]); go_big_quiet_on))
            clear hjw hjw2
            refine wpQuiet_nil ?_
            intro w2 hw2
            go_wp2_with fail
          · go_ret
            exact ⟨ret_bool HL1.out.symm, cellL_size hw2⟩
          · go_roundw
            case rel => exact ⟨j + 2, by omega, by go_num, Lib.hid (by first | exact HL2.out rfl | exact HL2.out trivial), cellL_size hw2⟩
            case measure => simp [intOf]; omega
    · have HL2 := Lib.hid (show rightC l = true from by
        rcases HL.out with rfl | ⟨j, p, rfl, hp, h1, h2⟩
        · rw [show l = [] from List.length_eq_zero_iff.1 (by have := HN.out; omega)]; rfl
        · rw [h2, List.drop_eq_nil_of_le (by have := HN.out; omega)]; rfl)
      clear HL
      go_wp2_with fail
      go_ret
      exact ⟨ret_bool HL2.out.symm, hb⟩
end Go.Proofs.Ytfklochgciijkaa

/-
  Layer 14 (vset), the program: is a set right?
-/
namespace Go.Proofs.Ytfklochgciijkaa
open Go.RowKit

/-- May the counts of a replica stand in a right set? -/
def oneR (k : Kn) : Bool := (decide (1 ≤ k.rep) && decide (k.rep ≤ 16)) && (!(k.runs.length == 0) && rightC k.runs)
theorem upS_one0 (k : Kn) (s : List Kn) : upS 0 (k :: s) = (oneR k && upS k.rep s) := by
  rw [upS_bool]
  unfold oneR
  have e : decide (0 < k.rep) = decide (1 ≤ k.rep) := decide_eq_decide.2 (by omega)
  rw [e]
  cases decide (1 ≤ k.rep) <;> cases decide (k.rep ≤ 16) <;> cases (k.runs.length == 0) <;> cases rightC k.runs <;> rfl
theorem upS_one1 {Z : Int} (hZ : 1 ≤ Z) (k : Kn) (s : List Kn) : upS Z (k :: s) = (oneR k && ((!decide (Z ≥ k.rep)) && upS k.rep s)) := by
  rw [upS_bool]
  unfold oneR
  have e : decide (Z < k.rep) = !decide (Z ≥ k.rep) := by
    by_cases h : Z < k.rep
    · rw [decide_eq_true h, decide_eq_false (by omega)]; rfl
    · rw [decide_eq_false h, decide_eq_true (by omega)]; rfl
  rw [e]
  by_cases h : 1 ≤ k.rep
  · rw [decide_eq_true h]
    cases decide (Z ≥ k.rep) <;> cases decide (k.rep ≤ 16) <;> cases (k.runs.length == 0) <;> cases rightC k.runs <;> rfl
  · rw [decide_eq_false h, decide_eq_true (show Z ≥ k.rep by omega)]; rfl
set_option maxRecDepth 100000 in
theorem vs_right1 (x : Kn) (A : Option Addr) (c n : Nat) (hn : n = x.runs.length) (X : Int) (hX : x.rep = X) (v : Bool) (hv : oneR x = v) (w : World) (hr : kRn.Rd w w.heap.size A c x.runs) :
    Calls Try.prog 44 #[.agg #[.int .i64 X, .slice A n c]] w fun e w' => e = .returned (.bool v) ∧ Below w.heap.size w w' := by
  have hb := below_new w (.cells #[.int .i64 X, .slice A n c] 52)
  obtain ⟨z, hz⟩ : ∃ z, rightC x.runs = z := ⟨_, rfl⟩
  obtain ⟨p, hp⟩ : ∃ p, (decide (1 ≤ X) && decide (X ≤ 16)) = p := ⟨_, rfl⟩
  obtain ⟨q, hq⟩ : ∃ q, (n == 0) = q := ⟨_, rfl⟩
  have C1 := fun w => Lib.hid (vs_rep X p hp w)
  have C2 := Lib.hid (cn_right A c n x.runs hn z hz _ (hr.call hb))
  have HB := Lib.hid hb
  have hmx := rd_maxC hr hn
  unfold oneR at hv
  rw [hX, ← hn, hz, hp, hq] at hv
  have h3 : decide ((n : Int) > 0) = !q := by
    rw [← hq]
    by_cases h : n = 0
    · subst h; rfl
    · rw [decide_eq_true (by omega), beq_eq_false_iff_ne.2 h]; rfl
  have h4 : decide ((0 : Int) < (n : Int)) = !q := h3
  have h5 : decide (0 < n) = !q := by
    rw [← h3]; exact decide_eq_decide.2 (by omega)
  subst hv
  clear hn hr hz hp hX hb hq
  cases p <;> cases q
  all_goals
    go_enter Try.func44, Try.ntmps44
    go_wp2_with (first
      | ((with_reducible refine (C1 _).out.mono ?_); rintro e w1 ⟨rfl, rfl⟩)
      | ((with_reducible refine C2.out.mono ?_); rintro e w1 ⟨rfl, hq⟩; have HQ := Lib.hid hq; clear hq))
    go_ret
    first
      | exact ⟨rfl, HB.out⟩
      | exact ⟨rfl, HB.out.trans (HQ.out.mono HB.out.size)⟩
set_option maxRecDepth 100000 in
set_option maxHeartbeats 8000000 in
theorem vs_right (A : Option Addr) (c n : Nat) (s : List Kn) (hn : n = s.length) (v : Bool) (hv : rightS s = v) (w : World) (hr : RdK w w.heap.size A c s) :
    Calls Try.prog 22 #[.slice A n c] w fun e w' => e = .returned (.bool v) ∧ Below w.heap.size w w' := by
  have HN := Lib.hid hn
  have HR := Lib.hid hr
  have HV := Lib.hid hv
  have hmx := rdk_max hr hn
  have hcx : n ≤ c := by rw [hn]; exact hr.room
  clear hn hr hv
  go_enter Try.func22, Try.ntmps22
  go_wp2_with fail
  go_loopw [7] (fun i wr => ∃ k : Nat, k ≤ n ∧ i = .int .i64 k ∧ Hid ((k = 0 ∧ upS 0 s = v) ∨ ∃ j p, k = j + 1 ∧ s[j]? = some p ∧ 1 ≤ p.rep ∧ upS p.rep (s.drop k) = v) ∧ Hid (Below w.heap.size w wr)) (fun i _ => n - (intOf i).toNat)
  case atStart => exact ⟨0, by omega, rfl, .inl ⟨rfl, HV.out⟩, Below.refl _ _⟩
  case round =>
    obtain ⟨k, hk, rfl, HL, HW⟩ := hrel
    by_cases hlt : k < n
    · obtain ⟨r, hg, hd, -⟩ := cnt_get (l := s) (k := k) (by have := HN.out; omega)
      obtain ⟨b, o, rfl, hb1, hcell⟩ := knowns_at (HR.out.below HW.out) (by have := HN.out; omega)
      obtain ⟨A1, n1, c1, hn1, hr1, q0, q1⟩ := hcell k r hg
      obtain ⟨X, hX⟩ : ∃ X, r.rep = X := ⟨_, rfl⟩
      obtain ⟨z, hz⟩ : ∃ z, oneR r = z := ⟨_, rfl⟩
      have hz1 : z = true → 1 ≤ X := fun h => by
        rw [h] at hz
        unfold oneR at hz
        rw [Bool.and_eq_true, Bool.and_eq_true, decide_eq_true_eq] at hz
        rw [← hX]; exact hz.1.1
      obtain ⟨wb, hwb⟩ : ∃ wb, wr.alloc (.cells #[.int .i64 X, .slice A1 n1 c1] 52) = wb := ⟨_, rfl⟩
      have hbb : Below wr.heap.size wr wb := by rw [← hwb]; exact below_new _ _
      have CS := Lib.hid (fun (L : List (Addr × Value)) => fun (W : World) (hC : CellL wb L W) => (vs_right1 r A1 c1 n1 hn1 X hX z hz W (((hr1.more HW.out.size).call hbb).call (cellL_size hC))).mono fun (e' : Ending) (W' : World) ⟨h1, h2⟩ => (⟨h1, cellL_call h2 hC⟩ : e' = Ending.returned (.bool z) ∧ CellL wb L W'))
      rw [hX] at q0
      have hnew := heap_new wr (.cells #[.int .i64 X, .slice A1 n1 c1] 52) _ rfl
      have t0 : wb.cell? ⟨wr.heap.size, 0, none⟩ = some (.int .i64 X) := by rw [← hwb, cell_of_row _ _ _ _ _ _ hnew]; rfl
      have t1 : wb.cell? ⟨wr.heap.size, 1, none⟩ = some (.slice A1 n1 c1) := by rw [← hwb, cell_of_row _ _ _ _ _ _ hnew]; rfl
      have HWB := Lib.hid (HW.out.trans (hbb.mono HW.out.size))
      have hk0 : (0 : Int) ≤ (k : Int) := by omega
      have hkn : (k : Int) < (n : Int) := by omega
      rcases HL.out with ⟨h0, hL⟩ | ⟨j, p, hj, hgj, hp1, hL⟩
      · subst h0
        rw [List.drop_zero] at hd
        have HF := Lib.hid (show (z && upS X (s.drop (0 + 1))) = v by rw [hd, upS_one0, hX, hz] at hL; exact hL)
        have HNX := Lib.hid (fun (h1 : z = true) (h : upS X (s.drop (0 + 1)) = v) => show (0 + 1 = 0 ∧ upS 0 s = v) ∨ ∃ j p, 0 + 1 = j + 1 ∧ s[j]? = some p ∧ 1 ≤ p.rep ∧ upS p.rep (s.drop (0 + 1)) = v from .inr ⟨0, r, rfl, hg, by rw [hX]; exact hz1 h1, by rw [hX]; exact h⟩)
        rw [Nat.zero_mul, Nat.add_zero] at q0 q1
        have HC := Lib.hid (show CellL wb [(⟨wr.heap.size, 0, none⟩, .int .i64 X), (⟨wr.heap.size, 1, none⟩, .slice A1 n1 c1)] wb from ⟨t0, t1, Below.refl _ _⟩)
        clear hcell hg hd hX hz hz1 hL HL hr1 hn1 t0 t1 hnew hbb
        cases z
        all_goals
          go_upto_region 4 with fail
          refine q_region (CellL wb [(⟨wr.heap.size, 0, none⟩, .int .i64 X), (⟨wr.heap.size, 1, none⟩, .slice A1 n1 c1)]) (by kernel_rfl) (by kernel_rfl) (cellL_drew HC.out) ?_
          repeat (first
            | go_big_quiet_skip
            | (go_big_quiet_want; (first
              | (refine q_take (v := ?_) ?_ ?_; rotate_left; (focus (intro w hSw; (try simp only [CellL] at hSw); go_split_ands; go_simp; (try (rw [if_neg (by omega)])); (try with_reducible rfl); done)))
              | (refine q_call (CS.out _) ?_ ?_; (focus (intro w hSw; (try simp only [CellL] at hSw); go_split_ands; go_simp; (try (rw [if_neg (by omega)])); done)))); (try simp only [Act.put, List.setIfInBounds_toArray, List.set_cons_zero, List.set_cons_succ]); go_big_quiet_on))
          refine wpQuiet_nil ?_
          intro w2 hw2
          have HB2 := Lib.hid (HWB.out.trans ((cellL_size hw2).mono HWB.out.size))
          clear hw2
          go_wp2_with fail
          first
            | (go_ret; exact ⟨ret_bool (show false = v from HF.out), HB2.out⟩)
            | (go_roundw
               case rel => exact ⟨0 + 1, by omega, by go_num, HNX.out rfl HF.out, HB2⟩
               case measure => simp [intOf]; omega)
      · subst hj
        obtain ⟨A2, n2, c2, hn2, hr2, u0, u1⟩ := hcell j p hgj
        obtain ⟨Z, hZ⟩ : ∃ Z, p.rep = Z := ⟨_, rfl⟩
        rw [hZ] at u0 hp1 hL
        obtain ⟨y, hy⟩ : ∃ y, decide (Z ≥ X) = y := ⟨_, rfl⟩
        have hy2 : decide (X ≤ Z) = y := hy
        have HF := Lib.hid (show (z && ((!y) && upS X (s.drop (j + 1 + 1)))) = v by rw [hd, upS_one1 hp1, hX, hz, hy] at hL; exact hL)
        have HNX := Lib.hid (fun (h1 : z = true) (h : upS X (s.drop (j + 1 + 1)) = v) => show (j + 1 + 1 = 0 ∧ upS 0 s = v) ∨ ∃ j' p, j + 1 + 1 = j' + 1 ∧ s[j']? = some p ∧ 1 ≤ p.rep ∧ upS p.rep (s.drop (j + 1 + 1)) = v from .inr ⟨j + 1, r, rfl, hg, by rw [hX]; exact hz1 h1, by rw [hX]; exact h⟩)
        have hk1 : (0 : Int) ≤ (j : Int) + 1 := by omega
        have hkn1 : (j : Int) + 1 < (n : Int) := by omega
        have hj0 : (0 : Int) ≤ (j : Int) := by omega
        have hjn : (j : Int) < (n : Int) := by omega
        have hjd : decide ((j : Int) < 0) = false := decide_eq_false (by omega)
        have hjg : decide ((0 : Int) < (j : Int) + 1) = true := decide_eq_true (by omega)
        have hjg2 : decide ((j : Int) + 1 > 0) = true := hjg
        have hjw : IntKind.i64.wrap ((j : Int) + 1 - 1) = (j : Int) := by rw [Int.add_sub_cancel]; exact IntWalk.i64_in _ (by omega)
        have hjw2 : IntKind.i64.wrap (j : Int) = (j : Int) := IntWalk.i64_in _ (by omega)
        have u2 : wb.cell? ⟨b, o + j * 2, none⟩ = some (.int .i64 Z) := ((bcell hbb).1 _ _ (World.block_lt_of_cell? wr _ u0)).trans u0
        have HC := Lib.hid (show CellL wb [(⟨wr.heap.size, 0, none⟩, .int .i64 X), (⟨wr.heap.size, 1, none⟩, .slice A1 n1 c1), (⟨b, o + j * 2, none⟩, .int .i64 Z)] wb from ⟨t0, t1, u2, Below.refl _ _⟩)
        clear hcell hg hgj hd hX hZ hz hz1 hL HL hr1 hn1 hr2 hn2 t0 t1 u0 u1 u2 hnew hbb
        cases z <;> cases y
        all_goals
          go_upto_region 4 with fail
          refine q_region (CellL wb [(⟨wr.heap.size, 0, none⟩, .int .i64 X), (⟨wr.heap.size, 1, none⟩, .slice A1 n1 c1), (⟨b, o + j * 2, none⟩, .int .i64 Z)]) (by kernel_rfl) (by kernel_rfl) (cellL_drew HC.out) ?_
          repeat (first
            | go_big_quiet_skip
            | (go_big_quiet_want; (first
              | (refine q_take (v := ?_) ?_ ?_; rotate_left; (focus (intro w hSw; (try simp only [CellL] at hSw); go_split_ands; go_simp; (try (rw [if_neg (by omega)])); (try with_reducible rfl); done)))
              | (refine q_call (CS.out _) ?_ ?_; (focus (intro w hSw; (try simp only [CellL] at hSw); go_split_ands; go_simp; (try (rw [if_neg (by omega)])); done)))); (try simp only [Act.put, List.setIfInBounds_toArray, List.set_cons_zero, List.set_cons_succ]); go_big_quiet_on))
          refine wpQuiet_nil ?_
          intro w2 hw2
          have HB2 := Lib.hid (HWB.out.trans ((cellL_size hw2).mono HWB.out.size))
          clear hw2
          go_wp2_with fail
          first
            | (go_ret; exact ⟨ret_bool (show false = v from HF.out), HB2.out⟩)
            | (go_roundw
               case rel => exact ⟨j + 1 + 1, by omega, by go_num, HNX.out rfl HF.out, HB2⟩
               case measure => simp [intOf]; omega)
    · have HF := Lib.hid (show true = v by
        rcases HL.out with ⟨h0, hL⟩ | ⟨j, p, hj, hgj, hp1, hL⟩
        · have : s = [] := List.eq_nil_of_length_eq_zero (by have := HN.out; omega)
          rw [← hL, this]; rfl
        · rw [← hL, List.drop_eq_nil_of_le (by have := HN.out; omega)]; rfl)
      go_wp2_with fail
      go_ret
      exact ⟨ret_bool HF.out, HW.out⟩
end Go.Proofs.Ytfklochgciijkaa

/-
  Plain facts on how right lists are made (layer 8): ranges in the order of their beginnings, merged; the edges of two lists, swept together. No program in this text.
-/
namespace Go.Proofs.Ytfklochgciijkaa

/-! Ranges in the order of their beginnings, merged. -/
def mergeL : Option Rng → List Rng → List Rng
  | none, [] => []
  | some p, [] => [p]
  | none, r :: l => mergeL (some r) l
  | some p, r :: l => match gapR p r with
    | true => p :: mergeL (some r) l
    | false => match endLt p r with
      | true => mergeL (some ⟨p.lo, r.hi, r.op⟩) l
      | false => mergeL (some p) l
theorem mergeL_gap {p r : Rng} {l : List Rng} (h : gapR p r = true) : mergeL (some p) (r :: l) = p :: mergeL (some r) l := by rw [mergeL, h]
theorem mergeL_more {p r : Rng} {l : List Rng} (h : gapR p r = false) (h' : endLt p r = true) : mergeL (some p) (r :: l) = mergeL (some ⟨p.lo, r.hi, r.op⟩) l := by rw [mergeL, h, h']
theorem mergeL_in {p r : Rng} {l : List Rng} (h : gapR p r = false) (h' : endLt p r = false) : mergeL (some p) (r :: l) = mergeL (some p) l := by rw [mergeL, h, h']
/-- Ranges, each of which begins not behind those behind it. -/
def SortedL (l : List Rng) : Prop := l.Pairwise fun a b => ltB b.lo a.lo = false
theorem gapR_false {p r : Rng} (h : gapR p r = false) : p.op = true ∨ (p.op = false ∧ ltB p.hi r.lo = false) := by
  unfold gapR at h
  cases ho : p.op with
  | true => exact .inl rfl
  | false => rw [ho] at h; exact .inr ⟨rfl, h⟩
theorem endLt_true {p r : Rng} (h : endLt p r = true) : p.op = false ∧ (r.op = true ∨ (r.op = false ∧ ltB p.hi r.hi = true)) := by
  unfold endLt at h
  cases ho : p.op <;> cases hr : r.op <;> rw [ho, hr] at h
  · exact ⟨rfl, .inr ⟨rfl, h⟩⟩
  · exact ⟨rfl, .inl rfl⟩
  · cases h
  · cases h
theorem endLt_false {p r : Rng} (h : endLt p r = false) : p.op = true ∨ (p.op = false ∧ r.op = false ∧ ltB p.hi r.hi = false) := by
  unfold endLt at h
  cases ho : p.op <;> cases hr : r.op <;> rw [ho, hr] at h
  · exact .inr ⟨rfl, rfl, h⟩
  · cases h
  · exact .inl rfl
  · exact .inl rfl
theorem hasR_eq {r : Rng} (h : rightR r = true) (s : List UInt8) : hasR r s = (!ltB s r.lo && (r.op || ltB s r.hi)) := by unfold hasR aheadR; rw [h, Bool.true_and]
theorem more_right {p r : Rng} (hp : rightR p = true) (hr : rightR r = true) (h : ltB r.lo p.lo = false) : rightR ⟨p.lo, r.hi, r.op⟩ = true :=
  rightR_iff.2 ⟨(show p.lo.length ≤ 17 from rightR_lo hp), (show r.hi.length ≤ 17 from rightR_hi hr), (show r.op = true → r.hi = [] from rightR_op hr), (show r.op = false → ltB p.lo r.hi = true from fun ho => ltB_of_le_of_lt h (rightR_lt hr ho))⟩
theorem more_has {p r : Rng} (hp : rightR p = true) (hr : rightR r = true) (h : ltB r.lo p.lo = false) (hg : gapR p r = false) (he : endLt p r = true) (s : List UInt8) : hasR ⟨p.lo, r.hi, r.op⟩ s = (hasR p s || hasR r s) := by
  rw [hasR_eq (more_right hp hr h), hasR_eq hp, hasR_eq hr]
  obtain ⟨ho, he⟩ := endLt_true he
  rcases gapR_false hg with h1 | ⟨_, h1⟩
  · rw [ho] at h1; cases h1
  rw [ho, Bool.false_or]
  cases hs : ltB s p.hi with
  | true =>
    have h2 : (r.op || ltB s r.hi) = true := by
      rcases he with he | ⟨_, he⟩
      · rw [he]; rfl
      · rw [ltB_trans hs he, Bool.or_true]
    show (!ltB s p.lo && (r.op || ltB s r.hi)) = _
    rw [h2, Bool.and_true, Bool.and_true]
    cases h3 : ltB s p.lo with
    | false => rfl
    | true => rw [ltB_of_lt_of_le h3 h]; rfl
  | false =>
    have h2 : ltB s r.lo = false := leB_trans h1 hs
    have h3 : ltB s p.lo = false := leB_trans h h2
    show (!ltB s p.lo && (r.op || ltB s r.hi)) = _
    rw [h2, h3]; rfl
theorem in_has {p r : Rng} (hp : rightR p = true) (h : ltB r.lo p.lo = false) (he : endLt p r = false) (s : List UInt8) : hasR p s = (hasR p s || hasR r s) := by
  cases hs : hasR r s with
  | false => rw [Bool.or_false]
  | true =>
    rw [Bool.or_true]
    have h1 := hasR_ge hs
    have h2 := hasR_ahead hs
    rw [hasR_eq hp, leB_trans h h1]
    rcases endLt_false he with h3 | ⟨h3, h4, h5⟩
    · rw [h3]; rfl
    · unfold aheadR at h2
      rw [h4, Bool.false_or] at h2
      rw [ltB_of_lt_of_le h2 h5, Bool.or_true]; rfl
theorem mergeL_ok : ∀ (l : List Rng) (p : Rng), rightR p = true → (∀ r ∈ l, rightR r = true ∧ ltB r.lo p.lo = false) → SortedL l →
    rightL (mergeL (some p) l) = true ∧ (∀ s, hasL (mergeL (some p) l) s = (hasR p s || hasL l s)) ∧ ∃ t m, mergeL (some p) l = t :: m ∧ t.lo = p.lo
  | [], p, hp, _, _ => ⟨hp, fun s => by rw [show mergeL (some p) [] = [p] from rfl, hasL_cons], p, [], rfl, rfl⟩
  | r :: l, p, hp, hl, hs => by
    obtain ⟨hr, hlo⟩ := hl r (List.mem_cons_self ..)
    obtain ⟨hs1, hs2⟩ := List.pairwise_cons.1 hs
    have hl' : ∀ t ∈ l, rightR t = true ∧ ltB t.lo r.lo = false := fun t ht => ⟨(hl t (List.mem_cons_of_mem _ ht)).1, hs1 t ht⟩
    cases hg : gapR p r with
    | true =>
      obtain ⟨h1, h2, t, m, h3, h4⟩ := mergeL_ok l r hr hl' hs2
      rw [mergeL_gap hg]
      refine ⟨?_, fun s => by rw [hasL_cons, h2, hasL_cons], p, _, rfl, rfl⟩
      rw [h3] at h1 ⊢
      have h5 : gapR p t = true := by unfold gapR at hg ⊢; rw [h4]; exact hg
      unfold rightL
      rw [hp, h5, h1]; rfl
    | false =>
      cases he : endLt p r with
      | true =>
        obtain ⟨h1, h2, t, m, h3, h4⟩ := mergeL_ok l ⟨p.lo, r.hi, r.op⟩ (more_right hp hr hlo) (fun t ht => ⟨(hl' t ht).1, leB_trans hlo (hl' t ht).2⟩) hs2
        rw [mergeL_more hg he]
        exact ⟨h1, fun s => by rw [h2, more_has hp hr hlo hg he, hasL_cons, Bool.or_assoc], t, m, h3, h4⟩
      | false =>
        obtain ⟨h1, h2, t, m, h3, h4⟩ := mergeL_ok l p hp (fun t ht => hl t (List.mem_cons_of_mem _ ht)) hs2
        rw [mergeL_in hg he]
        exact ⟨h1, fun s => by rw [h2, hasL_cons, ← Bool.or_assoc, ← in_has hp hlo he], t, m, h3, h4⟩
theorem mergeL_all {l : List Rng} (hl : ∀ r ∈ l, rightR r = true) (hs : SortedL l) : rightL (mergeL none l) = true ∧ ∀ s, hasL (mergeL none l) s = hasL l s := by
  cases l with
  | nil => exact ⟨rfl, fun _ => rfl⟩
  | cons r l =>
    obtain ⟨hs1, hs2⟩ := List.pairwise_cons.1 hs
    obtain ⟨h1, h2, _⟩ := mergeL_ok l r (hl r (List.mem_cons_self ..)) (fun t ht => ⟨hl t (List.mem_cons_of_mem _ ht), hs1 t ht⟩) hs2
    exact ⟨h1, fun s => by rw [show mergeL none (r :: l) = mergeL (some r) l from rfl, h2, hasL_cons]⟩
/-- The right ones, in some order of their beginnings, merged: the right list of all. -/
theorem mergeL_norm {l m : List Rng} (hp : m.Perm (l.filter rightR)) (hs : SortedL m) : mergeL none m = normV l := by
  have hm : ∀ r ∈ m, rightR r = true := fun r hr => by have := hp.mem_iff.1 hr; exact (List.mem_filter.1 this).2
  obtain ⟨h1, h2⟩ := mergeL_all hm hs
  refine makeV_unique h1 fun s => ?_
  rw [h2, gV1, hasL_nil, Bool.or_false, Bool.eq_iff_iff]
  unfold hasL
  rw [List.any_eq_true, List.any_eq_true]
  constructor
  · rintro ⟨r, hr, h⟩; exact ⟨r, (List.mem_filter.1 (hp.mem_iff.1 hr)).1, h⟩
  · rintro ⟨r, hr, h⟩; exact ⟨r, hp.mem_iff.2 (List.mem_filter.2 ⟨hr, hasR_right h⟩), h⟩
/-- The last one that is kept, behind a range. -/
def lastR (p r : Rng) : Rng := match endLt p r with | true => ⟨p.lo, r.hi, r.op⟩ | false => p
theorem mergeL_last {p r : Rng} {l : List Rng} (h : gapR p r = false) : mergeL (some p) (r :: l) = mergeL (some (lastR p r)) l := by
  unfold lastR
  cases h' : endLt p r with
  | true => rw [mergeL_more h h']
  | false => rw [mergeL_in h h']

/-! The edges of a right list. -/
def edgesR : List Rng → List (List UInt8)
  | [] => []
  | r :: l => match r.op with
    | true => r.lo :: edgesR l
    | false => r.lo :: r.hi :: edgesR l
theorem edgesR_open {r : Rng} {l : List Rng} (h : r.op = true) : edgesR (r :: l) = r.lo :: edgesR l := by rw [edgesR, h]
theorem edgesR_shut {r : Rng} {l : List Rng} (h : r.op = false) : edgesR (r :: l) = r.lo :: r.hi :: edgesR l := by rw [edgesR, h]
theorem edgesR_append : ∀ (a b : List Rng), edgesR (a ++ b) = edgesR a ++ edgesR b
  | [], _ => rfl
  | r :: a, b => by
    rw [List.cons_append]
    cases ho : r.op with
    | true => rw [edgesR_open ho, edgesR_open ho, edgesR_append a b, List.cons_append]
    | false => rw [edgesR_shut ho, edgesR_shut ho, edgesR_append a b, List.cons_append, List.cons_append]
/-- Are texts rising? -/
def riseB : List (List UInt8) → Bool
  | [] => true
  | x :: l => risingB x l
theorem risingB_of {c x : List UInt8} {l : List (List UInt8)} (h : ltB c x = true) (h' : risingB x l = true) : risingB c (x :: l) = true := by unfold risingB; rw [h, h']; rfl
theorem edgesR_rise : ∀ {l : List Rng}, rightL l = true → (∀ c, (∀ r m, l = r :: m → ltB c r.lo = true) → risingB c (edgesR l) = true)
  | [], _, _, _ => rfl
  | r :: l, h, c, hc => by
    have h1 := hc r l rfl
    cases ho : r.op with
    | true =>
      have hl : l = [] := by
        cases l with
        | nil => rfl
        | cons t m => have := (rightL_gap h).1; rw [ho] at this; cases this
      rw [edgesR_open ho, hl]
      exact risingB_of h1 rfl
    | false =>
      rw [edgesR_shut ho]
      refine risingB_of h1 (risingB_of (rightR_lt (rightL_head h) ho) (edgesR_rise (rightL_tail h) _ fun t m e => ?_))
      subst e
      exact (rightL_gap h).2
theorem edgesR_riseB {l : List Rng} (h : rightL l = true) : riseB (edgesR l) = true := by
  cases l with
  | nil => rfl
  | cons r l =>
    cases ho : r.op with
    | true =>
      have hl : l = [] := by
        cases l with
        | nil => rfl
        | cons t m => have := (rightL_gap h).1; rw [ho] at this; cases this
      rw [edgesR_open ho, hl]; rfl
    | false =>
      rw [edgesR_shut ho]
      refine risingB_of (rightR_lt (rightL_head h) ho) (edgesR_rise (rightL_tail h) _ fun t m e => ?_)
      subst e
      exact (rightL_gap h).2
theorem edgesR_len17 : ∀ {l : List Rng}, (∀ r ∈ l, rightR r = true) → ∀ x ∈ edgesR l, x.length ≤ 17
  | [], _, x, hx => by cases hx
  | r :: l, h, x, hx => by
    have h1 := h r (List.mem_cons_self ..)
    have h2 := edgesR_len17 fun t ht => h t (List.mem_cons_of_mem _ ht)
    cases ho : r.op with
    | true =>
      rw [edgesR_open ho] at hx
      rcases List.mem_cons.1 hx with rfl | hx
      · exact rightR_lo h1
      · exact h2 x hx
    | false =>
      rw [edgesR_shut ho] at hx
      rcases List.mem_cons.1 hx with rfl | hx
      · exact rightR_lo h1
      · rcases List.mem_cons.1 hx with rfl | hx
        · exact rightR_hi h1
        · exact h2 x hx
theorem edgesR_len : ∀ l : List Rng, (edgesR l).length ≤ 2 * l.length
  | [] => by simp [edgesR]
  | r :: l => by
    have := edgesR_len l
    cases ho : r.op with
    | true => rw [edgesR_open ho]; simp only [List.length_cons]; omega
    | false => rw [edgesR_shut ho]; simp only [List.length_cons]; omega
/-- Is a text in, by the edges at which that turns? -/
def togV : Bool → List (List UInt8) → List UInt8 → Bool
  | v, [], _ => v
  | v, x :: l, s => match ltB s x with | true => v | false => togV (!v) l s
theorem togV_low {v : Bool} {x s : List UInt8} {l : List (List UInt8)} (h : ltB s x = true) : togV v (x :: l) s = v := by rw [togV, h]
theorem togV_high {v : Bool} {x s : List UInt8} {l : List (List UInt8)} (h : ltB s x = false) : togV v (x :: l) s = togV (!v) l s := by rw [togV, h]
theorem togV_all {v : Bool} {s : List UInt8} {l : List (List UInt8)} (h : ∀ x ∈ l, ltB s x = true) : togV v l s = v := by
  cases l with
  | nil => rfl
  | cons x l => exact togV_low (h x (List.mem_cons_self ..))
theorem togV_edges : ∀ {l : List Rng}, rightL l = true → ∀ s, togV false (edgesR l) s = hasL l s
  | [], _, _ => rfl
  | r :: l, h, s => by
    have hr := rightL_head h
    cases h1 : ltB s r.lo with
    | true =>
      have h2 : hasL (r :: l) s = false := by
        cases hc : hasL (r :: l) s with
        | false => rfl
        | true => rw [hasL_ge h hc] at h1; cases h1
      rw [h2]
      cases ho : r.op with
      | true => rw [edgesR_open ho, togV_low h1]
      | false => rw [edgesR_shut ho, togV_low h1]
    | false =>
      cases ho : r.op with
      | true =>
        have hl : l = [] := by
          cases l with
          | nil => rfl
          | cons t m => have := (rightL_gap h).1; rw [ho] at this; cases this
        rw [edgesR_open ho, togV_high h1, hl, hasL_cons, hasR_eq hr, h1, ho]; rfl
      | false =>
        rw [edgesR_shut ho, togV_high h1, hasL_cons, hasR_eq hr, h1, ho]
        cases h3 : ltB s r.hi with
        | true => rw [togV_low h3]; rfl
        | false => rw [togV_high h3, show (!!false) = false from rfl, togV_edges (rightL_tail h)]; rfl
theorem togV_det : ∀ (l : List (List UInt8)) (v : Bool) {s c : List UInt8}, (∀ x ∈ l, ltB s x = ltB c x) → togV v l s = togV v l c
  | [], _, _, _, _ => rfl
  | x :: l, v, s, c, h => by
    have h1 := h x (List.mem_cons_self ..)
    have h2 := togV_det l (!v) fun y hy => h y (List.mem_cons_of_mem _ hy)
    unfold togV
    rw [h1, h2]

/-! The edges of two lists, together. -/
/-- What is left of edges behind one that may be the first of them. -/
def dropE (e : List UInt8) : List (List UInt8) → List (List UInt8)
  | [] => []
  | x :: l => match decide (x = e) with | true => l | false => x :: l
/-- .. and whether a text is in from there on. -/
def passB (e : List UInt8) (v : Bool) : List (List UInt8) → Bool
  | [] => v
  | x :: _ => match decide (x = e) with | true => !v | false => v
theorem dropE_same {e : List UInt8} {l : List (List UInt8)} : dropE e (e :: l) = l := by rw [dropE, decide_eq_true rfl]
theorem dropE_other {e x : List UInt8} {l : List (List UInt8)} (h : x ≠ e) : dropE e (x :: l) = x :: l := by rw [dropE, decide_eq_false h]
theorem passB_same {e : List UInt8} {v : Bool} {l : List (List UInt8)} : passB e v (e :: l) = !v := by rw [passB, decide_eq_true rfl]
theorem passB_other {e x : List UInt8} {v : Bool} {l : List (List UInt8)} (h : x ≠ e) : passB e v (x :: l) = v := by rw [passB, decide_eq_false h]
theorem dropE_len (e : List UInt8) (l : List (List UInt8)) : (dropE e l).length ≤ l.length := by
  cases l with
  | nil => exact Nat.le_refl _
  | cons x l =>
    by_cases h : x = e
    · subst h; rw [dropE_same]; simp
    · rw [dropE_other h]; exact Nat.le_refl _
theorem dropE_mem {e x : List UInt8} {l : List (List UInt8)} (h : x ∈ dropE e l) : x ∈ l := by
  cases l with
  | nil => cases h
  | cons y l =>
    by_cases hy : y = e
    · subst hy; rw [dropE_same] at h; exact List.mem_cons_of_mem _ h
    · rw [dropE_other hy] at h; exact h
theorem mem_dropE {e x : List UInt8} {l : List (List UInt8)} (h : x ∈ l) (hne : x ≠ e) : x ∈ dropE e l := by
  cases l with
  | nil => cases h
  | cons y l =>
    by_cases hy : y = e
    · subst hy; rw [dropE_same]
      rcases List.mem_cons.1 h with rfl | h
      · exact absurd rfl hne
      · exact h
    · rw [dropE_other hy]; exact h
/-- Rising texts, none of them ahead of one. -/
def FromE (e : List UInt8) (l : List (List UInt8)) : Prop := riseB l = true ∧ ∀ x ∈ l, ltB x e = false
theorem FromE.drop {e : List UInt8} {l : List (List UInt8)} (h : FromE e l) : risingB e (dropE e l) = true := by
  obtain ⟨h1, h2⟩ := h
  cases l with
  | nil => rfl
  | cons x l =>
    by_cases hx : x = e
    · subst hx; rw [dropE_same]; exact h1
    · rw [dropE_other hx]
      refine risingB_of ?_ h1
      have h3 := h2 x (List.mem_cons_self ..)
      cases hc : ltB e x with
      | true => rfl
      | false => exact absurd (ltB_total h3 hc) hx
theorem riseB_of {c : List UInt8} {l : List (List UInt8)} (h : risingB c l = true) : riseB l = true := by
  cases l with
  | nil => rfl
  | cons x l => exact (rising_head h).2
theorem FromE.pass {e : List UInt8} {l : List (List UInt8)} {v : Bool} (_h : FromE e l) {s : List UInt8} (hs : ltB s e = false) : togV (passB e v l) (dropE e l) s = togV v l s := by
  cases l with
  | nil => rfl
  | cons x l =>
    by_cases hx : x = e
    · subst hx; rw [dropE_same, passB_same, togV_high hs]
    · rw [dropE_other hx, passB_other hx]
theorem FromE.at {e : List UInt8} {l : List (List UInt8)} {v : Bool} (h : FromE e l) : togV v l e = passB e v l := by
  rw [← h.pass (ltB_irrefl e)]
  exact togV_all (rising_all h.drop)
/-- The next edge of both. -/
def nearE : List (List UInt8) → List (List UInt8) → Option (List UInt8)
  | [], [] => none
  | [], y :: _ => some y
  | x :: _, [] => some x
  | x :: _, y :: _ => match ltB x y with | true => some x | false => some y
theorem nearE_lt {x y : List UInt8} {a b : List (List UInt8)} (h : ltB x y = true) : nearE (x :: a) (y :: b) = some x := by rw [nearE, h]
theorem nearE_ge {x y : List UInt8} {a b : List (List UInt8)} (h : ltB x y = false) : nearE (x :: a) (y :: b) = some y := by rw [nearE, h]
/-- What is known of the next edge of two rising lists. -/
theorem nearE_some {c e : List UInt8} {a b : List (List UInt8)} (ha : risingB c a = true) (hb : risingB c b = true) (h : nearE a b = some e) :
    ltB c e = true ∧ FromE e a ∧ FromE e b ∧ (dropE e a).length + (dropE e b).length < a.length + b.length ∧ (e ∈ a ∨ e ∈ b) := by
  have up : ∀ {x : List UInt8} {l : List (List UInt8)}, risingB x l = true → ∀ y ∈ x :: l, ltB y x = false := fun hl y hy => by
    rcases List.mem_cons.1 hy with rfl | hy
    · exact ltB_irrefl _
    · exact ltB_asymm (rising_all hl y hy)
  cases a with
  | nil =>
    cases b with
    | nil => cases h
    | cons y b =>
      obtain rfl : y = e := by rw [nearE] at h; injection h
      obtain ⟨h1, h2⟩ := rising_head hb
      refine ⟨h1, ⟨rfl, by simp⟩, ⟨h2, up h2⟩, ?_, .inr (List.mem_cons_self ..)⟩
      rw [dropE_same]; simp [dropE]
  | cons x a =>
    obtain ⟨h1, h2⟩ := rising_head ha
    cases b with
    | nil =>
      obtain rfl : x = e := by rw [nearE] at h; injection h
      refine ⟨h1, ⟨h2, up h2⟩, ⟨rfl, by simp⟩, ?_, .inl (List.mem_cons_self ..)⟩
      rw [dropE_same]; simp [dropE]
    | cons y b =>
      obtain ⟨h3, h4⟩ := rising_head hb
      cases hxy : ltB x y with
      | true =>
        rw [nearE_lt hxy] at h
        obtain rfl : x = e := by injection h
        refine ⟨h1, ⟨h2, up h2⟩, ⟨h4, fun z hz => leB_trans (ltB_asymm hxy) (up h4 z hz)⟩, ?_, .inl (List.mem_cons_self ..)⟩
        have := dropE_len x (y :: b)
        rw [dropE_same]; simp only [List.length_cons] at this ⊢; omega
      | false =>
        rw [nearE_ge hxy] at h
        obtain rfl : y = e := by injection h
        refine ⟨h3, ⟨h2, fun z hz => leB_trans hxy (up h2 z hz)⟩, ⟨h4, up h4⟩, ?_, .inr (List.mem_cons_self ..)⟩
        have := dropE_len y (x :: a)
        rw [dropE_same]; simp only [List.length_cons] at this ⊢; omega
theorem nearE_none {a b : List (List UInt8)} (h : nearE a b = none) : a = [] ∧ b = [] := by
  cases a with
  | nil => cases b with
    | nil => exact ⟨rfl, rfl⟩
    | cons y b => cases h
  | cons x a => cases b with
    | nil => cases h
    | cons y b => rw [nearE] at h; cases hxy : ltB x y <;> rw [hxy] at h <;> cases h
/-- All edges of both, rising. -/
def mrgE : Nat → List (List UInt8) → List (List UInt8) → List (List UInt8)
  | 0, _, _ => []
  | n + 1, a, b => match nearE a b with
    | none => []
    | some e => e :: mrgE n (dropE e a) (dropE e b)
theorem mrgE_some {n : Nat} {a b : List (List UInt8)} {e : List UInt8} (h : nearE a b = some e) : mrgE (n + 1) a b = e :: mrgE n (dropE e a) (dropE e b) := by rw [mrgE, h]
theorem mrgE_none {n : Nat} {a b : List (List UInt8)} (h : nearE a b = none) : mrgE n a b = [] := by
  cases n with
  | zero => rfl
  | succ n => rw [mrgE, h]
theorem mrgE_rise : ∀ (n : Nat) {c : List UInt8} {a b : List (List UInt8)}, risingB c a = true → risingB c b = true → risingB c (mrgE n a b) = true
  | 0, _, _, _, _, _ => rfl
  | n + 1, c, a, b, ha, hb => by
    cases h : nearE a b with
    | none => rw [mrgE_none h]; rfl
    | some e =>
      obtain ⟨h1, h2, h3, _⟩ := nearE_some ha hb h
      rw [mrgE_some h]
      exact risingB_of h1 (mrgE_rise n h2.drop h3.drop)
theorem mrgE_mem : ∀ (n : Nat) {c : List UInt8} {a b : List (List UInt8)}, risingB c a = true → risingB c b = true → a.length + b.length ≤ n → ∀ x, (x ∈ a ∨ x ∈ b) → x ∈ mrgE n a b
  | 0, _, a, b, _, _, hn, x, hx => by
    have h1 : a = [] := List.length_eq_zero_iff.1 (by omega)
    have h2 : b = [] := List.length_eq_zero_iff.1 (by omega)
    rw [h1, h2] at hx; rcases hx with hx | hx <;> cases hx
  | n + 1, c, a, b, ha, hb, hn, x, hx => by
    cases h : nearE a b with
    | none =>
      obtain ⟨h1, h2⟩ := nearE_none h
      rw [h1, h2] at hx; rcases hx with hx | hx <;> cases hx
    | some e =>
      obtain ⟨_, h2, h3, h4, _⟩ := nearE_some ha hb h
      rw [mrgE_some h]
      by_cases he : x = e
      · subst he; exact List.mem_cons_self ..
      · refine List.mem_cons_of_mem _ (mrgE_mem n h2.drop h3.drop (by omega) x ?_)
        rcases hx with hx | hx
        · exact .inl (mem_dropE hx he)
        · exact .inr (mem_dropE hx he)
theorem mrgE_of : ∀ (n : Nat) {a b : List (List UInt8)} {x : List UInt8}, x ∈ mrgE n a b → x ∈ a ∨ x ∈ b
  | 0, _, _, _, h => by cases h
  | n + 1, a, b, x, h => by
    cases hn : nearE a b with
    | none => rw [mrgE_none hn] at h; cases h
    | some e =>
      rw [mrgE_some hn] at h
      rcases List.mem_cons.1 h with rfl | h
      · cases a with
        | nil => cases b with
          | nil => cases hn
          | cons y b => injection hn with hn; subst hn; exact .inr (List.mem_cons_self ..)
        | cons u a => cases b with
          | nil => injection hn with hn; subst hn; exact .inl (List.mem_cons_self ..)
          | cons y b =>
            cases hu : ltB u y with
            | true => rw [nearE_lt hu] at hn; injection hn with hn; subst hn; exact .inl (List.mem_cons_self ..)
            | false => rw [nearE_ge hu] at hn; injection hn with hn; subst hn; exact .inr (List.mem_cons_self ..)
      · rcases mrgE_of n h with h | h
        · exact .inl (dropE_mem h)
        · exact .inr (dropE_mem h)
/-- What is swept, edge by edge: what is still to come. -/
def restE (n : Nat) (a b : List (List UInt8)) : Option (List UInt8) → List (List UInt8)
  | none => []
  | some e => e :: mrgE n (dropE e a) (dropE e b)
theorem restE_next (n : Nat) (a b : List (List UInt8)) : mrgE (n + 1) a b = restE n a b (nearE a b) := by
  cases hn : nearE a b with
  | none => rw [mrgE_none hn]; rfl
  | some e => rw [mrgE_some hn]; rfl
/-- The swept list is what is meant. -/
theorem sweep_make (op : Int) (a b : List Rng) (f : List UInt8 → Bool) (hf : ∀ s, f s = inV op a b s) (n : Nat) (hn : (edgesR (normV a)).length + (edgesR (normV b)).length ≤ n) :
    mkR f (restE n (edgesR (normV a)) (edgesR (normV b)) (some [])) none = makeV op a b := by
  have ra : rightL (normV a) = true := makeV_right _ _ _
  have rb : rightL (normV b) = true := makeV_right _ _ _
  have fa : FromE [] (edgesR (normV a)) := ⟨edgesR_riseB ra, fun x _ => ltB_nil x⟩
  have fb : FromE [] (edgesR (normV b)) := ⟨edgesR_riseB rb, fun x _ => ltB_nil x⟩
  have hlen : ∀ x ∈ mrgE n (dropE [] (edgesR (normV a))) (dropE [] (edgesR (normV b))), x.length ≤ 17 := fun x hx => by
    rcases mrgE_of n hx with h | h
    · exact edgesR_len17 (rightL_all ra) x (dropE_mem h)
    · exact edgesR_len17 (rightL_all rb) x (dropE_mem h)
  have hmem : ∀ x, (x ∈ edgesR (normV a) ∨ x ∈ edgesR (normV b)) → x ∈ [] :: mrgE n (dropE [] (edgesR (normV a))) (dropE [] (edgesR (normV b))) := fun x hx => by
    by_cases he : x = []
    · rw [he]; exact List.mem_cons_self ..
    · refine List.mem_cons_of_mem _ (mrgE_mem n fa.drop fb.drop ?_ x ?_)
      · have := dropE_len [] (edgesR (normV a)); have := dropE_len [] (edgesR (normV b)); omega
      · rcases hx with hx | hx
        · exact .inl (mem_dropE hx he)
        · exact .inr (mem_dropE hx he)
  have hdet : Det f ([] :: mrgE n (dropE [] (edgesR (normV a))) (dropE [] (edgesR (normV b)))) := fun s c h => by
    rw [hf, hf]
    unfold inV
    rw [← normV_has a s, ← normV_has b s, ← normV_has a c, ← normV_has b c, ← togV_edges ra, ← togV_edges rb, ← togV_edges ra, ← togV_edges rb,
      togV_det (edgesR (normV a)) false fun x hx => h x (hmem x (.inl hx)), togV_det (edgesR (normV b)) false fun x hx => h x (hmem x (.inr hx))]
  obtain ⟨h1, h2⟩ := mkR_all (mrgE_rise n fa.drop fb.drop) hlen hdet
  exact makeV_unique h1 fun s => by
    rw [show restE n (edgesR (normV a)) (edgesR (normV b)) (some []) = [] :: mrgE n (dropE [] (edgesR (normV a))) (dropE [] (edgesR (normV b))) from rfl, h2, hf]; rfl
end Go.Proofs.Ytfklochgciijkaa

/-
  Plain facts on how the program makes knowledge (layer 15): pieces put one behind the other; two lists swept together, edge by edge; a list made right piece by piece; restricted, side by side. No program in this text.
-/
namespace Go.Proofs.Ytfklochgciijkaa

theorem last_cases {α : Type} (l : List α) : l = [] ∨ ∃ a b, l = a ++ [b] := by
  cases h : l.reverse with
  | nil => left; simpa using h
  | cons b a => right; exact ⟨a.reverse, b, by have := congrArg List.reverse h; simpa using this⟩
theorem catK_none : ∀ {k : List Pc} {s : List UInt8}, (∀ p ∈ k, hasR p.rng s = false) → catK k s = []
  | [], _, _ => rfl
  | p :: k, s, h => by rw [catK, setP_no (h p (List.mem_cons_self ..)), catK_none fun q hq => h q (List.mem_cons_of_mem _ hq)]; rfl
theorem catK_some : ∀ {k : List Pc} {p : Pc} {s : List UInt8}, p ∈ k → hasR p.rng s = true → p.set ≠ [] → catK k s ≠ []
  | q :: k, p, s, h, hr, hs => by
    rw [catK]
    rcases List.mem_cons.1 h with rfl | h
    · rw [setP_yes hr]; intro e; exact hs (List.append_eq_nil_iff.1 e).1
    · intro e; exact catK_some h hr hs (List.append_eq_nil_iff.1 e).2
/-- A range that ends at a text, or ahead of it, has none from there on. -/
theorem hasR_past {r : Rng} {c s : List UInt8} (ho : r.op = false) (hc : ltB c r.hi = false) (hs : ltB s c = false) : hasR r s = false := by
  unfold hasR aheadR
  rw [ho, leB_trans hc hs, Bool.false_or, Bool.and_false]
theorem rightP_snoc : ∀ {k : List Pc} {q p : Pc}, rightP (k ++ [q]) = true → onePc p = true → gapP q p = true → rightP (k ++ [q] ++ [p]) = true
  | [], q, p, h, hp, hg => by
    have h1 : onePc q = true := h
    show (onePc q && gapP q p && onePc p) = true
    rw [h1, hg, hp]; rfl
  | [a], q, p, h, hp, hg => by
    have h1 := rightP_snoc (k := []) (q := q) (p := p) (rightP_tail h) hp hg
    have h2 : (onePc a && gapP a q && onePc q) = true := h
    show (onePc a && gapP a q && rightP [q, p]) = true
    simp only [Bool.and_eq_true] at h2 ⊢
    exact ⟨h2.1, h1⟩
  | a :: b :: k, q, p, h, hp, hg => by
    have h1 := rightP_snoc (k := b :: k) (q := q) (p := p) (rightP_tail h) hp hg
    have h2 : (onePc a && gapP a b && rightP (b :: k ++ [q])) = true := h
    show (onePc a && gapP a b && rightP (b :: k ++ [q] ++ [p])) = true
    simp only [Bool.and_eq_true] at h2 ⊢
    exact ⟨h2.1, h1⟩
theorem gapP_like {a p q : Pc} (h1 : p.rng.lo = q.rng.lo) (h2 : p.set = q.set) : gapP a p = gapP a q := by unfold gapP; rw [h1, h2]
theorem rightP_last : ∀ {k : List Pc} {q p : Pc}, rightP (k ++ [q]) = true → onePc p = true → p.rng.lo = q.rng.lo → p.set = q.set → rightP (k ++ [p]) = true
  | [], q, p, _, hp, _, _ => hp
  | [a], q, p, h, hp, h1, h2 => by
    have h3 : (onePc a && gapP a q && onePc q) = true := h
    show (onePc a && gapP a p && onePc p) = true
    rw [gapP_like h1 h2, hp]
    simp only [Bool.and_eq_true] at h3 ⊢
    exact ⟨h3.1, trivial⟩
  | a :: b :: k, q, p, h, hp, h1, h2 => by
    have h4 := rightP_last (k := b :: k) (q := q) (p := p) (rightP_tail h) hp h1 h2
    have h3 : (onePc a && gapP a b && rightP (b :: k ++ [q])) = true := h
    show (onePc a && gapP a b && rightP (b :: k ++ [p])) = true
    simp only [Bool.and_eq_true] at h3 ⊢
    exact ⟨h3.1, h4⟩
theorem rightP_front : ∀ {k : List Pc} {q : Pc}, rightP (k ++ [q]) = true → onePc q = true := fun {k q} h => rightP_all h q (by simp)

/-! Pieces, put one behind the other. -/
/-- A list with a set of a range more, that stands behind all that the list has. -/
def putP (k : List Pc) (r : Rng) (S : List Kn) : List Pc := match S with
  | [] => k
  | x :: y => match k.getLast? with
    | none => [⟨r, x :: y⟩]
    | some q => match gapP q ⟨r, x :: y⟩ with
      | true => k ++ [⟨r, x :: y⟩]
      | false => k.dropLast ++ [⟨⟨q.rng.lo, r.hi, r.op⟩, q.set⟩]
theorem putP_no (k : List Pc) (r : Rng) : putP k r [] = k := rfl
theorem putP_first {r : Rng} {S : List Kn} (h : S ≠ []) : putP [] r S = [⟨r, S⟩] := by
  cases S with
  | nil => exact absurd rfl h
  | cons x y => rfl
theorem putP_gap {k : List Pc} {q : Pc} {r : Rng} {S : List Kn} (h : S ≠ []) (hg : gapP q ⟨r, S⟩ = true) : putP (k ++ [q]) r S = k ++ [q] ++ [⟨r, S⟩] := by
  cases S with
  | nil => exact absurd rfl h
  | cons x y => simp only [putP, List.getLast?_concat, hg]
theorem putP_more {k : List Pc} {q : Pc} {r : Rng} {S : List Kn} (h : S ≠ []) (hg : gapP q ⟨r, S⟩ = false) : putP (k ++ [q]) r S = k ++ [⟨⟨q.rng.lo, r.hi, r.op⟩, q.set⟩] := by
  cases S with
  | nil => exact absurd rfl h
  | cons x y => simp only [putP, List.getLast?_concat, hg, List.dropLast_concat]
theorem putP_len (k : List Pc) (r : Rng) (S : List Kn) : (putP k r S).length ≤ k.length + 1 := by
  by_cases hS : S = []
  · subst hS; rw [putP_no]; omega
  · rcases last_cases k with rfl | ⟨a, q, rfl⟩
    · rw [putP_first hS]; simp
    · cases hg : gapP q ⟨r, S⟩
      · rw [putP_more hS hg]; simp
      · rw [putP_gap hS hg]; simp
/-- .. and what it has. -/
theorem putP_ok {dn : List Pc} {r : Rng} {S : List Kn} (h : rightP dn = true) (hp : ∀ p ∈ dn, p.rng.op = false ∧ ltB r.lo p.rng.hi = false) (hr : rightR r = true) (hS : rightS S = true) :
    rightP (putP dn r S) = true ∧ (∀ s, catK (putP dn r S) s = catK dn s ++ setP ⟨r, S⟩ s) ∧ ∀ p ∈ putP dn r S, (p.rng.op = false ∧ ltB r.lo p.rng.hi = false) ∨ (p.rng.op = r.op ∧ p.rng.hi = r.hi) := by
  have hno : ∀ s, hasR r s = true → catK dn s = [] := fun s hs => catK_none fun p hpm => hasR_past (hp p hpm).1 (hp p hpm).2 (hasR_ge hs)
  by_cases hS0 : S = []
  · subst hS0
    refine ⟨h, fun s => ?_, fun p hpm => .inl (hp p hpm)⟩
    have : setP ⟨r, []⟩ s = [] := by unfold setP; cases hasR r s <;> rfl
    rw [this, putP_no, List.append_nil]
  · have h1 : onePc ⟨r, S⟩ = true := onePc_iff.2 ⟨hr, hS0, hS⟩
    rcases last_cases dn with rfl | ⟨a, q, rfl⟩
    · rw [putP_first hS0]
      refine ⟨h1, fun s => ?_, fun p hpm => ?_⟩
      · show setP ⟨r, S⟩ s ++ [] = [] ++ setP ⟨r, S⟩ s
        rw [List.append_nil]; rfl
      · rw [List.mem_singleton] at hpm; subst hpm; exact .inr ⟨rfl, rfl⟩
    · cases hg : gapP q ⟨r, S⟩ with
      | true =>
        rw [putP_gap hS0 hg]
        refine ⟨rightP_snoc h h1 hg, fun s => ?_, fun p hpm => ?_⟩
        · rw [catK_append (a ++ [q])]
          show _ ++ (setP ⟨r, S⟩ s ++ []) = _
          rw [List.append_nil]
        · rcases List.mem_append.1 hpm with hpm | hpm
          · exact .inl (hp p hpm)
          · rw [List.mem_singleton] at hpm; subst hpm; exact .inr ⟨rfl, rfl⟩
      | false =>
        rw [putP_more hS0 hg]
        obtain ⟨ho, hlt⟩ := hp q (by simp)
        have hq := onePc_iff.1 (rightP_front h)
        have hg2 : q.rng.hi = r.lo ∧ q.set = S := by
          unfold gapP at hg
          rw [ho, show ltB (Pc.mk r S).rng.lo q.rng.hi = false from hlt] at hg
          simpa using hg
        obtain ⟨e1, e2⟩ := hg2
        have hql : ltB q.rng.lo r.lo = true := e1 ▸ rightR_lt hq.1 ho
        have hnr : rightR ⟨q.rng.lo, r.hi, r.op⟩ = true := rightR_iff.2 ⟨rightR_lo (r := q.rng) hq.1, rightR_hi (r := r) hr, fun h => rightR_op (r := r) hr h, fun h => ltB_trans hql (rightR_lt (r := r) hr h)⟩
        have hhas : ∀ s, hasR ⟨q.rng.lo, r.hi, r.op⟩ s = (hasR q.rng s || hasR r s) := fun s => by
          rw [hasR_eq hnr, hasR_eq hq.1, hasR_eq hr, ho, e1]
          show (!ltB s q.rng.lo && (r.op || ltB s r.hi)) = _
          cases hy : ltB s r.lo with
          | true =>
            have hz : (r.op || ltB s r.hi) = true := by
              cases hop : r.op with
              | true => rfl
              | false => rw [ltB_trans hy (rightR_lt hr hop)]; rfl
            rw [hz]; cases ltB s q.rng.lo <;> rfl
          | false =>
            have hx : ltB s q.rng.lo = false := by
              cases hx : ltB s q.rng.lo with
              | false => rfl
              | true => rw [ltB_trans hx hql] at hy; cases hy
            rw [hx]; rfl
        refine ⟨rightP_last h (onePc_iff.2 ⟨hnr, hq.2.1, hq.2.2⟩) rfl rfl, fun s => ?_, fun p hpm => ?_⟩
        · rw [catK_append, catK_append]
          show catK a s ++ (setP ⟨⟨q.rng.lo, r.hi, r.op⟩, q.set⟩ s ++ []) = catK a s ++ (setP q s ++ []) ++ setP ⟨r, S⟩ s
          rw [List.append_nil, List.append_nil, List.append_assoc]
          congr 1
          have hh := hhas s
          cases hr2 : hasR r s with
          | true =>
            have hq0 : hasR q.rng s = false := hasR_past ho hlt (hasR_ge hr2)
            rw [hr2, hq0] at hh
            rw [setP_yes hh, setP_no hq0, setP_yes (p := ⟨r, S⟩) hr2]
            exact e2
          | false =>
            rw [hr2, Bool.or_false] at hh
            rw [setP_no (p := ⟨r, S⟩) hr2, List.append_nil]
            cases hq0 : hasR q.rng s with
            | true => rw [hq0] at hh; rw [setP_yes hh, setP_yes hq0]
            | false => rw [hq0] at hh; rw [setP_no hh, setP_no hq0]
        · rcases List.mem_append.1 hpm with hpm | hpm
          · exact .inl (hp p (List.mem_append.2 (.inl hpm)))
          · rw [List.mem_singleton] at hpm; subst hpm; exact .inr ⟨rfl, rfl⟩

/-! Edge by edge. -/
def nextR (e : List UInt8) : List (List UInt8) → Rng
  | [] => ⟨e, [], true⟩
  | x :: _ => ⟨e, x, false⟩
def UpE (l : List (List UInt8)) : Prop := l.Pairwise fun a b => ltB a b = true
/-- What is put, edge by edge. -/
def swP (f : List UInt8 → List Kn) : List Pc → List (List UInt8) → List Pc
  | dn, [] => dn
  | dn, e :: es => swP f (putP dn (nextR e es) (f e)) es
theorem nextR_right {e : List UInt8} {es : List (List UInt8)} (hu : UpE (e :: es)) (hl : ∀ x ∈ e :: es, x.length ≤ 17) : rightR (nextR e es) = true := by
  have h1 := hl e (List.mem_cons_self ..)
  cases es with
  | nil => exact rightR_iff.2 ⟨h1, Nat.zero_le _, fun _ => rfl, fun h => by cases h⟩
  | cons x es => exact rightR_iff.2 ⟨h1, hl x (by simp), (fun h => by cases h), fun _ => (List.pairwise_cons.1 hu).1 x (by simp)⟩
theorem nextR_lo (e : List UInt8) (es : List (List UInt8)) : (nextR e es).lo = e := by cases es <;> rfl
theorem swP_ok (f : List UInt8 → List Kn) (hf : ∀ s, rightS (f s) = true) : ∀ (rest pre : List (List UInt8)) (dn : List Pc), UpE (pre ++ rest) → (∀ x ∈ rest, x.length ≤ 17) → DetP f (pre ++ rest) → rightP dn = true →
    (∀ e es, rest = e :: es → ∀ p ∈ dn, p.rng.op = false ∧ ltB e p.rng.hi = false) → (∀ s, (∀ e es, rest = e :: es → ltB s e = true) → catK dn s = f s) → (∀ s e es, rest = e :: es → ltB s e = false → catK dn s = []) → rightP (swP f dn rest) = true ∧ ∀ s, catK (swP f dn rest) s = f s
  | [], pre, dn, _, _, _, h1, _, h2, _ => ⟨h1, fun s => h2 s fun e es h => by cases h⟩
  | e :: es, pre, dn, hu, hl, hd, h1, hp, h2, h3 => by
    obtain ⟨-, hue, hpe⟩ := List.pairwise_append.1 hu
    have hee := (List.pairwise_cons.1 hue).1
    have hrr := nextR_right hue hl
    obtain ⟨g1, g2, g3⟩ := putP_ok h1 (by rw [nextR_lo]; exact hp e es rfl) hrr (hf e)
    rw [swP]
    refine swP_ok f hf es (pre ++ [e]) _ (by rw [List.append_assoc]; exact hu) (fun x hx => hl x (List.mem_cons_of_mem _ hx)) (by rw [List.append_assoc]; exact hd) g1 ?_ ?_ ?_
    · rintro e2 es2 rfl p hp2
      rcases g3 p hp2 with ⟨a, b⟩ | ⟨a, b⟩
      · exact ⟨a, leB_trans b (ltB_asymm (hee e2 (by simp)))⟩
      · exact ⟨a, by rw [b]; exact ltB_irrefl _⟩
    · intro s hs
      rw [g2]
      cases hh : hasR (nextR e es) s with
      | true =>
        have hge : ltB s e = false := by have := hasR_ge hh; rwa [nextR_lo] at this
        rw [setP_yes (p := ⟨nextR e es, f e⟩) hh, h3 s e es rfl hge]
        show f e = f s
        refine hd e s fun x hx => ?_
        rcases List.mem_append.1 hx with hx | hx
        · have hxe := ltB_asymm (hpe x hx e (List.mem_cons_self ..))
          rw [hxe]; exact (leB_trans hxe hge).symm
        · rcases List.mem_cons.1 hx with rfl | hx
          · rw [ltB_irrefl, hge]
          · rw [hee x hx]
            cases es with
            | nil => cases hx
            | cons e2 es2 =>
              have h5 := hs e2 es2 rfl
              rcases List.mem_cons.1 hx with rfl | hx
              · exact h5.symm
              · exact (ltB_trans h5 ((List.pairwise_cons.1 (List.pairwise_cons.1 hue).2).1 x hx)).symm
      | false =>
        rw [setP_no (p := ⟨nextR e es, f e⟩) hh, List.append_nil]
        refine h2 s fun e' es' h => ?_
        injection h with h4 h5
        subst h4
        rw [hasR_eq hrr, nextR_lo] at hh
        cases hse : ltB s e with
        | true => rfl
        | false =>
          exfalso
          rw [hse] at hh
          cases es with
          | nil => cases hh
          | cons e2 es2 =>
            have h5 := hs e2 es2 rfl
            have : (!false && (false || ltB s e2)) = false := hh
            rw [h5] at this; cases this
    · rintro s e2 es2 rfl hs
      rw [g2]
      have h4 : ltB s e = false := leB_trans (ltB_asymm (hee e2 (by simp))) hs
      rw [h3 s e _ rfl h4, setP_no (p := ⟨nextR e (e2 :: es2), f e⟩) (hasR_past (r := ⟨e, e2, false⟩) (c := e2) rfl (ltB_irrefl _) hs)]; rfl
/-- Two right lists, swept. -/
def edgesP (k : List Pc) : List (List UInt8) := edgesR (spansP k)
theorem edgesR_mem : ∀ {l : List Rng} {r : Rng}, r ∈ l → r.lo ∈ edgesR l ∧ (r.op = false → r.hi ∈ edgesR l)
  | t :: l, r, h => by
    rcases List.mem_cons.1 h with rfl | h
    · cases ho : r.op with
      | true => rw [edgesR_open ho]; exact ⟨by simp, fun h => by cases h⟩
      | false => rw [edgesR_shut ho]; exact ⟨by simp, fun _ => by simp⟩
    · obtain ⟨h1, h2⟩ := edgesR_mem h
      cases ho : t.op with
      | true => rw [edgesR_open ho]; exact ⟨List.mem_cons_of_mem _ h1, fun h => List.mem_cons_of_mem _ (h2 h)⟩
      | false => rw [edgesR_shut ho]; exact ⟨List.mem_cons_of_mem _ (List.mem_cons_of_mem _ h1), fun h => List.mem_cons_of_mem _ (List.mem_cons_of_mem _ (h2 h))⟩
theorem edgesP_mem {k : List Pc} {p : Pc} (h : p ∈ k) : p.rng.lo ∈ edgesP k ∧ (p.rng.op = false → p.rng.hi ∈ edgesP k) := edgesR_mem (spansP_mem h)
theorem edgesP_append (a b : List Pc) : edgesP (a ++ b) = edgesP a ++ edgesP b := by unfold edgesP spansP; rw [List.map_append, edgesR_append]
theorem edgesP_len17 {k : List Pc} (h : ∀ p ∈ k, rightR p.rng = true) : ∀ x ∈ edgesP k, x.length ≤ 17 := edgesR_len17 fun r hr => by
  obtain ⟨p, hp, rfl⟩ := List.mem_map.1 hr; exact h p hp
theorem edgesP_len (k : List Pc) : (edgesP k).length ≤ 2 * k.length := by have := edgesR_len (spansP k); rw [spansP, List.length_map] at this; exact this
theorem edgesP_one (p : Pc) : edgesP [p] = match p.rng.op with | true => [p.rng.lo] | false => [p.rng.lo, p.rng.hi] := by
  unfold edgesP spansP
  cases ho : p.rng.op with
  | true => rw [List.map_cons, edgesR_open ho]; rfl
  | false => rw [List.map_cons, edgesR_shut ho]; rfl
theorem edgesP_take {k : List Pc} {j : Nat} {p : Pc} (h : k[j]? = some p) : edgesP (k.take (j + 1)) = edgesP (k.take j) ++ edgesP [p] := by
  rw [List.take_add_one, h, edgesP_append]; rfl
/-- The edges of two lists, in order, each once. -/
def EdgesOf (a b : List Pc) (es : List (List UInt8)) : Prop := UpE es ∧ ∀ x, x ∈ es ↔ x ∈ edgesP (a ++ b)
theorem catK_low {a : List Pc} {es : List (List UInt8)} (ha : rightP a = true) (he : ∀ p ∈ a, p.rng.lo ∈ es) {s : List UInt8} (hs : ∀ x ∈ es, ltB s x = true) : catK a s = [] := by
  cases a with
  | nil => rfl
  | cons p k =>
    cases h : catK (p :: k) s with
    | nil => rfl
    | cons x y =>
      have h1 := catK_ge ha (by rw [h]; exact List.cons_ne_nil _ _)
      rw [hs _ (he p (by simp))] at h1; cases h1
theorem sweep_ok {op : Int} (hk0 : makeS op [] [] = []) {a b : List Pc} (ha : rightP a = true) (hb : rightP b = true) {es : List (List UInt8)} (he : EdgesOf a b es) :
    rightP (swP (fun s => makeS op (catK a s) (catK b s)) [] es) = true ∧ ∀ s, catK (swP (fun s => makeS op (catK a s) (catK b s)) [] es) s = makeS op (catK a s) (catK b s) := by
  obtain ⟨hu, hm⟩ := he
  have hR : ∀ p ∈ a ++ b, rightR p.rng = true := fun p hp => by
    rcases List.mem_append.1 hp with hp | hp
    · exact (onePc_iff.1 (rightP_all ha p hp)).1
    · exact (onePc_iff.1 (rightP_all hb p hp)).1
  have hmem : ∀ p ∈ a ++ b, p.rng.lo ∈ es ∧ (p.rng.op = false → p.rng.hi ∈ es) := fun p hp => ⟨(hm _).2 (edgesP_mem hp).1, fun h => (hm _).2 ((edgesP_mem hp).2 h)⟩
  have hd : DetP (fun s => makeS op (catK a s) (catK b s)) es := fun s c hs => by
    show makeS op (catK a s) (catK b s) = makeS op (catK a c) (catK b c)
    rw [catK_det (fun p hp _ => hmem p (List.mem_append.2 (.inl hp))) s c hs, catK_det (fun p hp _ => hmem p (List.mem_append.2 (.inr hp))) s c hs]
  refine swP_ok _ (fun s => makeS_right ..) es [] [] hu (fun x hx => edgesP_len17 hR x ((hm x).1 hx)) hd rfl (fun e es _ p hp => by cases hp) (fun s hs => ?_) (fun s e es _ _ => rfl)
  have hall : ∀ x ∈ es, ltB s x = true := fun x hx => by
    cases es with
    | nil => cases hx
    | cons e es =>
      have h5 := hs e es rfl
      rcases List.mem_cons.1 hx with rfl | hx
      · exact h5
      · exact ltB_trans h5 ((List.pairwise_cons.1 hu).1 x hx)
  show [] = makeS op (catK a s) (catK b s)
  rw [catK_low ha (fun p hp => (hmem p (List.mem_append.2 (.inl hp))).1) hall, catK_low hb (fun p hp => (hmem p (List.mem_append.2 (.inr hp))).1) hall, hk0]

/-! What is left of a right list from an edge on. -/
def passP (x : List UInt8) : List Pc → List Pc
  | [] => []
  | p :: k => match !p.rng.op && !ltB x p.rng.hi with
    | true => k
    | false => p :: k
theorem passP_yes {x : List UInt8} {p : Pc} {k : List Pc} (h : (!p.rng.op && !ltB x p.rng.hi) = true) : passP x (p :: k) = k := by rw [passP, h]
theorem passP_no {x : List UInt8} {p : Pc} {k : List Pc} (h : (!p.rng.op && !ltB x p.rng.hi) = false) : passP x (p :: k) = p :: k := by rw [passP, h]
def firstP (s : List UInt8) : List Pc → List Kn
  | [] => []
  | p :: _ => setP p s
structure LeftP (a k : List Pc) (pre es : List (List UInt8)) : Prop where
  right : rightP k = true
  same : ∀ s, (∀ x ∈ pre, ltB s x = false) → catK k s = catK a s
  his : ∀ p ∈ k, p.rng.op = false → p.rng.hi ∈ es
theorem LeftP.start {a : List Pc} {es : List (List UInt8)} (ha : rightP a = true) (he : ∀ p ∈ a, p.rng.op = false → p.rng.hi ∈ es) : LeftP a a [] es := ⟨ha, fun _ _ => rfl, he⟩
theorem rightP_behind {q p : Pc} {k : List Pc} (h : rightP (q :: k) = true) (hp : p ∈ k) : q.rng.op = false ∧ ltB p.rng.lo q.rng.hi = false := by
  have h1 := onePc_iff.1 (rightP_all (rightP_tail h) p hp)
  exact (catK_apart h (catK_some hp (hasR_lo h1.1) h1.2.1)).2
theorem LeftP.ends {a k : List Pc} {pre es : List (List UInt8)} {e : List UInt8} (h : LeftP a k pre (e :: es)) (hu : UpE (e :: es)) : ∀ p ∈ passP e k, p.rng.op = false → ltB e p.rng.hi = true := by
  have hue := (List.pairwise_cons.1 hu).1
  have hge : ∀ x ∈ e :: es, ltB x e = false := fun x hx => by
    rcases List.mem_cons.1 hx with rfl | hx
    · exact ltB_irrefl _
    · exact ltB_asymm (hue x hx)
  cases k with
  | nil => intro p hp; cases hp
  | cons q k =>
    have hfar : ltB q.rng.hi e = false → ∀ p ∈ k, p.rng.op = false → ltB e p.rng.hi = true := fun hq p hp ho => by
      obtain ⟨h1, h2⟩ := rightP_behind h.right hp
      have h3 := onePc_iff.1 (rightP_all (rightP_tail h.right) p hp)
      exact ltB_of_le_of_lt (leB_trans hq h2) (rightR_lt h3.1 ho)
    intro p hp ho
    cases hd : (!q.rng.op && !ltB e q.rng.hi) with
    | true =>
      rw [passP_yes hd] at hp
      rw [Bool.and_eq_true, Bool.not_eq_true'] at hd
      exact hfar (hge _ (h.his q (by simp) hd.1)) p hp ho
    | false =>
      rw [passP_no hd] at hp
      rcases List.mem_cons.1 hp with rfl | hp
      · rw [ho] at hd
        cases hl : ltB e p.rng.hi with
        | true => rfl
        | false => rw [hl] at hd; cases hd
      · have h1 := (rightP_behind h.right hp).1
        exact hfar (hge _ (h.his q (by simp) h1)) p hp ho
theorem LeftP.step {a k : List Pc} {pre es : List (List UInt8)} {e : List UInt8} (h : LeftP a k pre (e :: es)) (hu : UpE (pre ++ e :: es)) : LeftP a (passP e k) (pre ++ [e]) es ∧ firstP e (passP e k) = catK a e := by
  obtain ⟨-, hue, hpe⟩ := List.pairwise_append.1 hu
  have hends := h.ends hue
  have hsub : ∀ p ∈ passP e k, p ∈ k := fun p hp => by
    cases k with
    | nil => exact hp
    | cons q k =>
      cases hd : (!q.rng.op && !ltB e q.rng.hi) with
      | true => rw [passP_yes hd] at hp; exact List.mem_cons_of_mem _ hp
      | false => rw [passP_no hd] at hp; exact hp
  have hR : rightP (passP e k) = true := by
    have h1 := h.right
    cases k with
    | nil => rfl
    | cons q k =>
      cases hd : (!q.rng.op && !ltB e q.rng.hi) with
      | true => rw [passP_yes hd]; exact rightP_tail h1
      | false => rw [passP_no hd]; exact h1
  have hsame : ∀ s, (∀ x ∈ pre ++ [e], ltB s x = false) → catK (passP e k) s = catK a s := fun s hs => by
    rw [← h.same s fun x hx => hs x (List.mem_append.2 (.inl hx))]
    have hse := hs e (by simp)
    cases k with
    | nil => rfl
    | cons q k =>
      cases hd : (!q.rng.op && !ltB e q.rng.hi) with
      | true =>
        rw [passP_yes hd]
        rw [Bool.and_eq_true, Bool.not_eq_true', Bool.not_eq_true'] at hd
        rw [catK_rest (hasR_past hd.1 hd.2 hse)]
      | false => rw [passP_no hd]
  refine ⟨⟨hR, hsame, fun p hp ho => ?_⟩, ?_⟩
  · rcases List.mem_cons.1 (h.his p (hsub p hp) ho) with e1 | h2
    · have := hends p hp ho
      rw [e1, ltB_irrefl] at this; cases this
    · exact h2
  · rw [← hsame e fun x hx => by
      rcases List.mem_append.1 hx with hx | hx
      · exact ltB_asymm (hpe x hx e (List.mem_cons_self ..))
      · rw [List.mem_singleton] at hx; subst hx; exact ltB_irrefl _]
    generalize passP e k = m at hR hends
    cases m with
    | nil => rfl
    | cons q m =>
      show setP q e = setP q e ++ catK m e
      have : catK m e = [] := by
        cases hc : catK m e with
        | nil => rfl
        | cons x y =>
          obtain ⟨-, h2, h3⟩ := catK_apart hR (by rw [hc]; exact List.cons_ne_nil _ _)
          rw [hends q (by simp) h2] at h3; cases h3
      rw [this, List.append_nil]

/-! Lists made right, and joined. -/
theorem joinP_of (x y : List Pc) : joinP (ofP x) (ofP y) = ofP (x ++ y) := atP_unique (makeP_right ..) (makeP_right ..) fun s => by rw [joinP_at, ofP_at, ofP_at, ofP_at, atK_append]
theorem joinP_unique {a b u : List Pc} (ha : rightP a = true) (hb : rightP b = true) (h : rightP u = true) (hs : ∀ s, catK u s = makeS 1 (catK a s) (catK b s)) : u = joinP a b :=
  makeP_unique h fun s => by rw [atK_right h, hs, whatP1, atK_right ha, atK_right hb]
theorem lessP_unique {a b u : List Pc} (ha : rightP a = true) (hb : rightP b = true) (h : rightP u = true) (hs : ∀ s, catK u s = makeS 3 (catK a s) (catK b s)) : u = lessP a b :=
  makeP_unique h fun s => by rw [atK_right h, hs, whatP2, atK_right ha, atK_right hb]
theorem joinP_cat {a b : List Pc} (ha : rightP a = true) (hb : rightP b = true) (s : List UInt8) : catK (joinP a b) s = makeS 1 (catK a s) (catK b s) := by
  rw [joinP, makeP_cat, whatP1, atK_right ha, atK_right hb]
theorem lessP_cat {a b : List Pc} (ha : rightP a = true) (hb : rightP b = true) (s : List UInt8) : catK (lessP a b) s = makeS 3 (catK a s) (catK b s) := by
  rw [lessP, makeP_cat, whatP2, atK_right ha, atK_right hb]
theorem lessP_of (a b : List Pc) : lessP (ofP a) (ofP b) = lessP a b := atP_unique (makeP_right ..) (makeP_right ..) fun s => by rw [lessP_at, lessP_at, ofP_at, ofP_at]
theorem ofP_right (k : List Pc) : rightP (ofP k) = true := makeP_right ..
theorem makeS_nils (op : Int) (h : op = 1 ∨ op = 3) : makeS op [] [] = [] := by
  rcases h with rfl | rfl
  · exact ofS_nil
  · exact makeS_less.2 fun r n h => h
theorem makeS_no1 {a : List Kn} (h : rightS a = true) : makeS 1 [] a = a := by rw [makeS_nil1, ofS_self h]
theorem makeS_no2 {a : List Kn} (h : rightS a = true) : makeS 1 a [] = a := by rw [makeS_nil2, ofS_self h]
theorem makeS_less0 {a : List Kn} (h : rightS a = true) : makeS 3 a [] = a := (makeS_unique h fun r n => by rw [gC3, hasK_nil, Bool.not_false, Bool.and_true]).symm
theorem makeS_less1 (a : List Kn) : makeS 3 [] a = [] := makeS_less.2 fun r n h => by rw [hasK_nil] at h; cases h
/-- A piece with its set made right. -/
def normPc (p : Pc) : Pc := ⟨p.rng, ofS p.set⟩
def tidyP (k : List Pc) : List Pc := (k.map normPc).filter onePc
theorem tidyP_take {k : List Pc} {j : Nat} {p : Pc} (h : k[j]? = some p) : tidyP (k.take (j + 1)) = tidyP (k.take j) ++ (match onePc (normPc p) with | true => [normPc p] | false => []) := by
  unfold tidyP
  rw [List.take_add_one, h, List.map_append, List.filter_append]
  cases hp : onePc (normPc p) <;> simp [hp]
theorem normPc_rng (p : Pc) : (normPc p).rng = p.rng := by simp only [normPc]
theorem normPc_set (p : Pc) : (normPc p).set = ofS p.set := by simp only [normPc]
theorem hasK_norm (p : Pc) (s : List UInt8) (r n : Int) : hasK (match onePc (normPc p) with | true => setP (normPc p) s | false => []) r n = hasK (setP p s) r n := by
  cases hr : hasR p.rng s with
  | false =>
    have h2 : setP (normPc p) s = [] := setP_no (by rw [normPc_rng]; exact hr)
    rw [h2, setP_no hr]
    cases onePc (normPc p) <;> rfl
  | true =>
    have h2 : setP (normPc p) s = ofS p.set := by rw [← normPc_set]; exact setP_yes (by rw [normPc_rng]; exact hr)
    rw [h2, setP_yes hr]
    cases hp : onePc (normPc p) with
    | true => exact ofS_has p.set r n
    | false =>
      have h0 : ofS p.set = [] := by
        cases hs : ofS p.set with
        | nil => rfl
        | cons x y =>
          have h1 : (normPc p).set ≠ [] := by rw [normPc_set, hs]; exact List.cons_ne_nil _ _
          have : onePc (normPc p) = true := onePc_iff.2 ⟨by rw [normPc_rng]; exact hasR_right (r := p.rng) hr, h1, by rw [normPc_set]; exact ofS_right p.set⟩
          rw [hp] at this; cases this
      show hasK [] r n = hasK p.set r n
      rw [← ofS_has p.set, h0]
theorem tidyP_cons (p : Pc) (k : List Pc) (s : List UInt8) : catK (tidyP (p :: k)) s = (match onePc (normPc p) with | true => setP (normPc p) s | false => []) ++ catK (tidyP k) s := by
  unfold tidyP
  rw [List.map_cons]
  cases hp : onePc (normPc p) with
  | true => rw [List.filter_cons_of_pos hp, catK]
  | false => rw [List.filter_cons_of_neg (by rw [hp]; simp)]; rfl
theorem tidyP_has : ∀ (k : List Pc) (s : List UInt8) (r n : Int), hasK (catK (tidyP k) s) r n = hasK (catK k s) r n
  | [], _, _, _ => rfl
  | p :: k, s, r, n => by
    rw [tidyP_cons, catK, hasK_append, hasK_append, hasK_norm, tidyP_has k s r n]
theorem tidyP_of (k : List Pc) : ofP (tidyP k) = ofP k := ofP_iff.2 fun s => ofS_iff.2 fun r n => tidyP_has k s r n
theorem one_of {p : Pc} (h : onePc p = true) : rightP [p] = true := h

/-! Restricted, side by side. -/
def valP (k : List Pc) (l : List Rng) (s : List UInt8) : List Kn := match hasL l s with
  | true => catK k s
  | false => []
def meetD (dn : List Pc) (p : Pc) (r : Rng) : List Pc := match meetR p.rng r with
  | some m => putP dn m p.set
  | none => dn
def rstP : Nat → List Pc → List Pc → List Rng → List Pc
  | 0, dn, _, _ => dn
  | _ + 1, dn, [], _ => dn
  | _ + 1, dn, _ :: _, [] => dn
  | n + 1, dn, p :: k, r :: l => match decide (endsR p.rng r < 0) with
    | true => rstP n (meetD dn p r) k (r :: l)
    | false => rstP n (meetD dn p r) (p :: k) l
theorem rstP_end1 (n : Nat) (dn : List Pc) (l : List Rng) : rstP n dn [] l = dn := by cases n <;> rfl
theorem rstP_end2 (n : Nat) (dn k : List Pc) : rstP n dn k [] = dn := by cases n <;> cases k <;> rfl
theorem rstP_left {n : Nat} {dn k : List Pc} {p : Pc} {r : Rng} {l : List Rng} (h : decide (endsR p.rng r < 0) = true) : rstP (n + 1) dn (p :: k) (r :: l) = rstP n (meetD dn p r) k (r :: l) := by rw [rstP, h]
theorem rstP_right {n : Nat} {dn k : List Pc} {p : Pc} {r : Rng} {l : List Rng} (h : decide (endsR p.rng r < 0) = false) : rstP (n + 1) dn (p :: k) (r :: l) = rstP n (meetD dn p r) (p :: k) l := by rw [rstP, h]
theorem meetD_len (dn : List Pc) (p : Pc) (r : Rng) : (meetD dn p r).length ≤ dn.length + 1 := by
  unfold meetD
  cases meetR p.rng r with
  | none => exact Nat.le_succ _
  | some m => exact putP_len ..
end Go.Proofs.Ytfklochgciijkaa

/-
  Layer 15 (know), the program: rows of pieces, and of sets, as the library makes them: copied, one behind the other, made empty with room.
-/
namespace Go.Proofs.Ytfklochgciijkaa
open Go.RowKit

/-- make([]T, 0, n). -/
theorem run_make_k {P : Program} {α : Type} (k : Kind P α) (w : World) (base c : Nat) (hc : c ≤ 1000000) (hby : k.bytes ≤ 1000) (hb : base ≤ w.heap.size) :
    ∃ w', (Instr.makeSlice k.ty (.int .i64 0) (.int .i64 (c : Int))).run P w = .ok (.slice (some ⟨w.heap.size, 0, none⟩) 0 c) w' ∧ k.Own w' base (.slice (some ⟨w.heap.size, 0, none⟩) 0 c) [] ∧ Below w.heap.size w w' := by
  obtain ⟨i0, hi0, hz0, hz1, hz2⟩ := info_parts k.info
  obtain ⟨w', h1, h2, h3⟩ := run_make_own (P := P) w base k.ty k.el i0 k.zero k.size k.under hi0 hz0 hz1 .i64 .i64 c (by rw [hz2]; have := Nat.mul_le_mul hby hc; omega) (by unfold maxLen; omega) hb
  exact ⟨w', h1, Kind.Own.of_row (n := 0) h2, (Below.refl _ _).grown h3 (Nat.le_refl _) (fun g hg => by cases hg)⟩
theorem own_fresh {P : Program} {α : Type} {k : Kind P α} (w : World) : k.Own (w.alloc (.cells #[] k.el)) w.heap.size (.slice (some ⟨w.heap.size, 0, none⟩) 0 0) [] :=
  Kind.Own.of_row (n := 0) ⟨by simp [Kind.row], .inr ⟨w.heap.size, 0, #[], rfl, Nat.le_refl _, heap_new w _ _ rfl, Nat.le_refl _, Nat.zero_le _, by simp, by simp [Kind.row]⟩⟩
theorem row_nil {P : Program} {α : Type} {k : Kind P α} {l : List α} (h : k.row l = []) : l = [] := by
  have h1 := congrArg List.length h
  rw [k.row_len, List.length_nil] at h1
  have := k.pos
  cases l with
  | nil => rfl
  | cons x l => rw [List.length_cons] at h1; have := Nat.mul_pos (show 0 < l.length + 1 by omega) k.pos; omega
theorem rd_none {P : Program} {α : Type} {k : Kind P α} {w : World} {B c : Nat} {l : List α} (h : k.Rd w B none c l) : l = [] := by
  rcases h.row with h | ⟨b, o, h, _⟩
  · exact row_nil h
  · cases h
theorem kw_flat_len {ls : List (List Pc)} (h : ∀ l ∈ ls, l.length ≤ 40000) (k : Nat) : (ls.take k).flatten.length ≤ k * 40000 := by
  induction k generalizing ls with
  | zero => simp
  | succ k ih =>
    cases ls with
    | nil => simp
    | cons l ls =>
      have h1 := ih (ls := ls) fun m hm => h m (List.mem_cons_of_mem _ hm)
      have h2 := h l (List.mem_cons_self ..)
      rw [List.take_succ_cons, List.flatten_cons, List.length_append]
      omega
theorem take_flatP {ls : List (List Pc)} {k : Nat} {l : List Pc} (h : ls[k]? = some l) : (ls.take (k + 1)).flatten = (ls.take k).flatten ++ l := by
  rw [List.take_add_one, h, List.flatten_append]; simp
end Go.Proofs.Ytfklochgciijkaa

/-
  Layer 16 (kcode), the program: a set's bytes.
-/
namespace Go.Proofs.Ytfklochgciijkaa
open Go.RowKit

/-- The numbers of runs. -/
def stepsL : Int → List Rn → List Int
  | _, [] => []
  | was, r :: l => (r.fr - was) :: (r.to - r.fr) :: stepsL r.to l
theorem stepsL_put : ∀ (l : List Rn) (was : Int), putsV (stepsL was l) = runsB was l
  | [], _ => rfl
  | r :: l, was => by rw [stepsL, putsV_cons, putsV_cons, stepsL_put l, runsB]
theorem stepsL_append : ∀ (a b : List Rn) (was : Int), stepsL was (a ++ b) = stepsL was a ++ stepsL (wasR was a) b
  | [], _, _ => rfl
  | r :: a, b, was => by rw [List.cons_append, stepsL, stepsL, stepsL_append a b, wasR]; rfl
theorem stepsL_len : ∀ (l : List Rn) (was : Int), (stepsL was l).length = 2 * l.length
  | [], _ => rfl
  | r :: l, was => by rw [stepsL, List.length_cons, List.length_cons, stepsL_len l, List.length_cons]; omega
theorem stepsL_next {l : List Rn} {j : Nat} {r : Rn} (h : l[j]? = some r) : stepsL 0 (l.take (j + 1)) = stepsL 0 (l.take j) ++ [r.fr - wasR 0 (l.take j), r.to - r.fr] := by
  rw [List.take_add_one, h, stepsL_append]; rfl
theorem stepsL_ok : ∀ (l : List Rn) (was : Int), 0 ≤ was → rightC l = true → (∀ t m, l = t :: m → was ≤ t.fr) → okL (stepsL was l) = true
  | [], _, _, _, _ => rfl
  | r :: l, was, h0, h, h1 => by
    have h2 := oneC_iff.1 (rightC_head h)
    have h3 := h1 r l rfl
    have ih := stepsL_ok l r.to (by omega) (rightC_tail h) fun t m e => by subst e; have := rightC_gap h; omega
    unfold okL at ih ⊢
    rw [stepsL, List.all_cons, List.all_cons, ih]
    simp [okN]; omega
/-- The numbers of a Known, of a set. -/
def knL (k : Kn) : List Int := [k.rep, (k.runs.length : Int)] ++ stepsL 0 k.runs
theorem knL_put (k : Kn) : putsV (knL k) = knB k := by
  unfold knL knB
  rw [List.cons_append, List.cons_append, List.nil_append, putsV_cons, putsV_cons, stepsL_put, Int.toNat_natCast]
theorem putsV_flat (s : List Kn) : putsV (s.flatMap knL) = s.flatMap knB := by
  induction s with
  | nil => rfl
  | cons k s ih =>
    rw [List.flatMap_cons, List.flatMap_cons, ← ih, ← knL_put]
    simp [putsV]
theorem knL_set (s : List Kn) : putsV ((s.length : Int) :: s.flatMap knL) = setB s := by
  rw [putsV_cons, putsV_flat, Int.toNat_natCast]; rfl
theorem knL_ok {k : Kn} (h : smallKn k) : okL (knL k) = true := by
  obtain ⟨h1, h2, h3, h4⟩ := h
  have h5 := stepsL_ok k.runs 0 (Int.le_refl _) h3 fun r m e => by rw [e] at h3; have := oneC_iff.1 (rightC_head h3); omega
  unfold okL at h5 ⊢
  unfold knL
  rw [List.cons_append, List.cons_append, List.nil_append, List.all_cons, List.all_cons, h5]
  simp [okN]; omega
theorem knL_len {k : Kn} (h : k.runs.length ≤ 4096) : (knL k).length ≤ 8194 := by
  unfold knL
  rw [List.length_append, stepsL_len, List.length_cons, List.length_cons, List.length_nil]; omega
theorem setL_ok {s : List Kn} (h : ∀ k ∈ s, smallKn k) (hl : s.length ≤ 16) : okL ((s.length : Int) :: s.flatMap knL) = true := by
  have h2 : s.all (fun k => (knL k).all okN) = true := List.all_eq_true.2 fun k hk => knL_ok (h k hk)
  unfold okL
  rw [List.all_cons, List.all_flatMap, h2]
  simp [okN]; omega
theorem okL_all {l : List Int} (h : okL l = true) : AllI64 l := fun x hx => by
  have := List.all_eq_true.1 h x hx
  simp [okN] at this
  omega
theorem it_own (w : World) (n : Int) : kIt.Own (w.alloc (.cells #[.int .i64 n] 3)) w.heap.size (.slice (some ⟨w.heap.size, 0, none⟩) 1 1) [n] :=
  ⟨rfl, .inr ⟨w.heap.size, 1, _, rfl, Nat.le_refl _, heap_alloc_new w _, Nat.le_refl _, by unfold maxLen; omega, rfl, rfl⟩⟩
theorem it_two (w : World) (x y : Int) : RowAt (w.alloc (.cells #[.int .i64 x, .int .i64 y] 3)) (w.heap.size + 1) (some ⟨w.heap.size, 0, none⟩) (kIt.row [x, y]) := RowAt.of_block (heap_new w (.cells #[.int .i64 x, .int .i64 y] 3) _ rfl)
set_option maxRecDepth 100000 in
set_option maxHeartbeats 4000000 in
theorem kc_steps (A : Option Addr) (c n : Nat) (l : List Rn) (hn : n = l.length) (hn9 : n ≤ 4096) (hrc : rightC l = true) (N : Nat) (hN : N = 2 * n) (w : World) (hr : kRn.Rd w w.heap.size A c l) :
    Calls Try.prog 23 #[.slice A n c] w fun e w' => ∃ A' c', e = .returned (.slice A' N c') ∧ kIt.Own w' w.heap.size (.slice A' N c') (stepsL 0 l) ∧ Below w.heap.size w w' := by
  obtain ⟨w1, hm1, ho1, hb1⟩ := run_make_k kIt w w.heap.size (2 * n) (by omega) (by decide) (Nat.le_refl _)
  have hmk : (Instr.makeSlice 53 (.int .i64 0) (.int .i64 (2 * (n : Int)))).run Try.prog w = .ok (.slice (some ⟨w.heap.size, 0, none⟩) 0 (2 * n)) w1 := by
    have h := hm1
    rw [show (((2 * n : Nat)) : Int) = 2 * (n : Int) by omega] at h
    exact h
  have hwm : IntKind.i64.wrap (2 * (n : Int)) = 2 * (n : Int) := IntWalk.i64_in _ (by omega)
  have HR := Lib.hid hr
  have HN := Lib.hid hn
  have HC := Lib.hid hrc
  have HN2 := Lib.hid hN
  have HO1 := Lib.hid ho1
  have HB1 := Lib.hid hb1
  have hcx : n ≤ c := by rw [hn]; exact hr.room
  clear hr hn hrc ho1 hb1 hN hm1
  go_enter Try.func23, Try.ntmps23
  go_wp2_with fail
  clear hmk hwm
  go_loopw [3, 4, 13] (fun v wv i wr => ∃ k : Nat, k ≤ n ∧ wv = .int .i64 (wasR 0 (l.take k)) ∧ i = .int .i64 k ∧ Hid (kIt.Own wr w.heap.size v (stepsL 0 (l.take k))) ∧ Hid (Below w.heap.size w wr)) (fun _ _ i _ => n - (intOf i).toNat)
  case atStart => exact ⟨0, by omega, rfl, rfl, HO1, HB1⟩
  case round =>
    clear HO1 HB1
    obtain ⟨k, hk, rfl, rfl, HO, HB⟩ := hrel
    by_cases hlt : k < n
    · obtain ⟨t, hg, -, hmt⟩ := cnt_get (l := l) (k := k) (by have := HN.out; omega)
      obtain ⟨b, o, rfl, hb1, hcell⟩ := rns_at (HR.out.below HB.out) (by have := HN.out; omega)
      obtain ⟨e0, e1⟩ := hcell k t hg
      have ht3 := oneC_iff.1 (rightC_all HC.out t hmt)
      have hw3 := wasR_ok HC.out (Int.le_refl 0) (fun u m e => by have h := HC.out; rw [e] at h; have := oneC_iff.1 (rightC_head h); omega) hg
      have HX := Lib.hid (stepsL_next hg)
      have HW2 := Lib.hid (show wasR 0 (l.take (k + 1)) = t.to by rw [List.take_add_one, hg]; exact wasR_snoc _ _ _)
      have hm2 : (stepsL 0 (l.take k)).length ≤ 8192 := by rw [stepsL_len, List.length_take]; omega
      obtain ⟨X, hX⟩ : ∃ X, t.fr = X := ⟨_, rfl⟩
      obtain ⟨Z, hZ⟩ : ∃ Z, t.to = Z := ⟨_, rfl⟩
      obtain ⟨W, hW⟩ : ∃ W, wasR 0 (l.take k) = W := ⟨_, rfl⟩
      rw [hX, hZ] at ht3
      rw [hX, hW] at hw3
      rw [hX, hZ, hW] at HX
      rw [hZ] at HW2
      rw [hX] at e0
      rw [hZ] at e1
      rw [hW]
      have w1' : IntKind.i64.wrap (X - W) = X - W := IntWalk.i64_in _ (by omega)
      have w2' : IntKind.i64.wrap (Z - X) = Z - X := IntWalk.i64_in _ (by omega)
      obtain ⟨Q, hQ⟩ : ∃ Q, stepsL 0 (l.take k) = Q := ⟨_, rfl⟩
      rw [hQ] at HO HX hm2
      have HL := Lib.hid (show Q.length + [X - W, Z - X].length ≤ 1000000 by rw [List.length_cons, List.length_cons, List.length_nil]; omega)
      have HG := Lib.hid (rnAt_new wr X Z 49)
      have HB2 := Lib.hid (HB.out.alloc HB.out.size (.cells #[.int .i64 X, .int .i64 Z] 49))
      have HO2 := Lib.hid (HO.out.alloc (.cells #[.int .i64 X, .int .i64 Z] 49))
      have HB3 := Lib.hid (HB2.out.alloc HB2.out.size (.cells #[.int .i64 (X - W), .int .i64 (Z - X)] 3))
      have HO3 := Lib.hid (HO2.out.alloc (.cells #[.int .i64 (X - W), .int .i64 (Z - X)] 3))
      have HG3 := Lib.hid (HG.out.below (below_new _ (.cells #[.int .i64 (X - W), .int .i64 (Z - X)] 3)))
      have HRW := Lib.hid (it_two (wr.alloc (.cells #[.int .i64 X, .int .i64 Z] 49)) (X - W) (Z - X))
      rw [size1] at HRW
      have HVO := Lib.hid (fun g hg => (HO.out.lt g hg).2)
      clear hcell hg hmt hX hZ hW hQ ht3 hw3 hm2 HO HB HG HB2 HO2
      go_wp2_with (at_builtin; refine wpList_app_k kIt rfl (.tmp 17) (.tmp 27) rfl w.heap.size _ Q rfl HO3.out _ (some ⟨wr.heap.size + 1, 0, none⟩) 2 2 [X - W, Z - X] rfl rfl HRW.out HL.out (by decide) HB3.out.size ?_; intro v5 w5 hown5 hg5 hb5 _; have HO5 := Lib.hid hown5; have HB5 := Lib.hid (HB3.out.trans hb5); have HG5 := Lib.hid (HG3.out.grown hg5 (fun h => Nat.lt_irrefl _ (HVO.out _ h.symm))); obtain ⟨g0, g1, g2⟩ := HG5.out; clear hown5 hg5 hb5)
      go_roundw
      case rel => exact ⟨k + 1, by omega, by rw [HW2.out], by go_num, by rw [HX.out]; exact HO5, HB5⟩
      case measure => simp [intOf]; omega
    · have hkn : l.take k = l := List.take_of_length_le (by have := HN.out; omega)
      rw [hkn] at HO
      obtain ⟨A5, c5, rfl, -⟩ := HO.out.read_n (n := N) (by rw [stepsL_len, HN2.out, HN.out])
      go_wp2_with fail
      go_ret
      exact ⟨A5, c5, rfl, HO.out, HB.out⟩
end Go.Proofs.Ytfklochgciijkaa

/-
  Layer 10 (fcode), the program: the bytes of a number, of a range, of a node.
-/
namespace Go.Proofs.Ytfklochgciijkaa
open Go.RowKit

/-- Bytes of the call's own. -/
def RetO1 (w : World) (N : Nat) (l : List UInt8) (e : Ending) (w' : World) : Prop := ∃ A c, e = .returned (.slice A N c) ∧ OwnB w' w.heap.size (.slice A N c) l ∧ RdB w' w'.heap.size A c l ∧ Below w.heap.size w w'
theorem retO1_of {w w' : World} {N : Nat} {l : List UInt8} {v : Value} (hN : N = l.length) (ho : OwnB w' w.heap.size v l) (hb : Below w.heap.size w w') : RetO1 w N l (.returned v) w' := by
  obtain ⟨A, c, rfl, hr⟩ := ho.read_n hN
  exact ⟨A, c, rfl, ho, hr, hb⟩
theorem RdB.drew {w : World} {A : Option Addr} {c : Nat} {l : List UInt8} (h : RdB w w.heap.size A c l) : RdB w.drew w.drew.heap.size A c l := ⟨h.row, h.room, h.cap⟩
theorem rdB_call {w w' : World} {A : Option Addr} {c : Nat} {l : List UInt8} (h : RdB w w.heap.size A c l) (hb : Below w.heap.size w w') : RdB w' w'.heap.size A c l := ⟨(h.row.below hb).more hb.size, h.room, h.cap⟩
theorem okL_one {n : Nat} (h : n ≤ 281474976710656) : okL [(n : Int)] = true := by simp [okL, okN]; omega
theorem fcd_put1 (A A2 : Option Addr) (c N : Nat) (b : List UInt8) (hN : N = b.length) (hl : N ≤ 1000000) (n : Nat) (hn : n ≤ 281474976710656) (w : World) (hr : RdB w w.heap.size A c b) (h2 : RowAt w w.heap.size A2 (ints [(n : Int)])) :
    Calls Try.prog 24 #[.slice A N c, .slice A2 1 1] w (RetB2 w.heap.size w (b ++ putV n)) := by
  subst hN
  refine (varint_put A c w.heap.size b A2 1 1 [(n : Int)] w rfl hr h2 (fun x hx => ?_) (Nat.le_refl _) (by simp only [List.length_singleton]; omega)).mono fun e w' h => ?_
  · rw [List.mem_singleton] at hx
    subst hx
    omega
  · rcases h with ⟨-, h⟩ | ⟨h, -⟩
    · simpa [putsV] using h
    · rw [okL_one hn] at h; cases h
theorem int_row (w : World) (n : Nat) : RowAt (w.alloc (.cells #[.int .i64 n] 3)) (w.heap.size + 1) (some ⟨w.heap.size, 0, none⟩) (ints [(n : Int)]) := RowAt.of_block (heap_new w _ _ rfl)
theorem str_row (w : World) (s : List UInt8) (S : ByteArray) (h : str s = S) : RowAt (w.alloc (.cells #[.string S] 9)) (w.heap.size + 1) (some ⟨w.heap.size, 0, none⟩) (strs [s]) := by
  subst h
  exact RowAt.of_block (heap_new w _ _ rfl)
theorem str_row2 (w : World) (s t : List UInt8) (S T : ByteArray) (h : str s = S) (g : str t = T) : RowAt (w.alloc (.cells #[.string S, .string T] 9)) (w.heap.size + 1) (some ⟨w.heap.size, 0, none⟩) (strs [s, t]) := by
  subst h g
  exact RowAt.of_block (heap_new w _ _ rfl)
theorem textsV_one (s : List UInt8) : textsV [s] = txtB s := by simp [textsV, txtB]
theorem txtB_len9 (s : List UInt8) (h : s.length ≤ 100000) : (txtB s).length ≤ s.length + 9 := by
  have := putV_len10 s.length (by omega)
  unfold txtB
  rw [List.length_append]
  omega
theorem textsV_two (s t : List UInt8) : textsV [s, t] = txtB s ++ txtB t := by simp [textsV, txtB]
/-- Texts behind bytes. -/
theorem fcd_texts (A A2 : Option Addr) (c N n2 : Nat) (b : List UInt8) (hN : N = b.length) (l : List (List UInt8)) (hn2 : n2 = l.length) (h9 : n2 ≤ 9) (M : Nat) (R : List UInt8) (hR : b ++ textsV l = R) (hM : M = R.length) (hl : M ≤ 1000000) (w : World) (hr : RdB w w.heap.size A c b) (h2 : RowAt w w.heap.size A2 (strs l)) :
    Calls Try.prog 53 #[.slice A N c, .slice A2 n2 n2] w (RetO1 w M R) := by
  subst hN hR
  rw [List.length_append] at hM
  exact (varint_text A c w.heap.size b A2 n2 n2 l w hn2 (by omega) hr h2 (Nat.le_refl _) (by omega)).mono fun e w' ⟨v, he, h, hb⟩ => he ▸ retO1_of (by rw [List.length_append]; exact hM) h hb
end Go.Proofs.Ytfklochgciijkaa

/-
  The laws of layer 13: what they ask of the program's functions; the chapter's example.
-/
namespace Go.Proofs.Ytfklochgciijkaa
open Go.RowKit

def CRightC (F : FuncId) : Prop := ∀ (A : Option Addr) (c n : Nat) (l : List Rn), n = l.length → n ≤ 100000 → ∀ v, rightC l = v → ∀ w, kRn.Rd w w.heap.size A c l → Calls Try.prog F #[.slice A n c] w fun e w' => e = .returned (.bool v) ∧ Below w.heap.size w w'
def CHasC (F : FuncId) : Prop := ∀ (A : Option Addr) (c n : Nat) (l : List Rn) (x : Int), n = l.length → n ≤ 100000 → ∀ v, hasC l x = v → ∀ w, kRn.Rd w w.heap.size A c l → Calls Try.prog F #[.slice A n c, .int .i64 x] w fun e w' => e = .returned (.bool v) ∧ Below w.heap.size w w'
def COfC (F : FuncId) : Prop := ∀ (A : Option Addr) (c n : Nat) (l : List Rn), n = l.length → n ≤ 100000 → ∀ U, ofC l = U → ∀ N, U.length = N → ∀ w, kRn.Rd w w.heap.size A c l → Calls Try.prog F #[.slice A n c] w (RetC w N U)
def CAddC (F : FuncId) : Prop := ∀ (A B : Option Addr) (c d n m : Nat) (l : List Rn) (cs : List Int), n = l.length → m = cs.length → n ≤ 100000 → m ≤ 100000 → ∀ U, ofC (l ++ cs.map runC) = U → ∀ N, U.length = N → ∀ w, kRn.Rd w w.heap.size A c l → kIt.Rd w w.heap.size B d cs →
  Calls Try.prog F #[.slice A n c, .slice B m d] w (RetC w N U)
def CSetC (F : FuncId) (op : Int) : Prop := ∀ (A B : Option Addr) (c d n m : Nat) (a b : List Rn), n = a.length → m = b.length → n ≤ 100000 → m ≤ 100000 → ∀ U, makeC op a b = U → ∀ N, U.length = N → ∀ w, kRn.Rd w w.heap.size A c a → kRn.Rd w w.heap.size B d b →
  Calls Try.prog F #[.slice A n c, .slice B m d] w (RetC w N U)
def CNumC (F : FuncId) (f : List Rn → Int) : Prop := ∀ (A : Option Addr) (c n : Nat) (l : List Rn), n = l.length → n ≤ 100000 → ∀ z, f l = z → ∀ w, kRn.Rd w w.heap.size A c l → Calls Try.prog F #[.slice A n c] w fun e w' => e = .returned (.int .i64 z) ∧ Below w.heap.size w w'
theorem csame_is (A B : Option Addr) (c d n m : Nat) (a : List Rn) (hn : n = a.length) (hm : m = a.length) (w : World) (ha : kRn.Rd w w.heap.size A c a) (hb : kRn.Rd w w.heap.size B d a) :
    Calls Try.prog 31 #[.slice A n c, .slice B m d] w fun e w' => e = .returned (.bool true) ∧ Below w.heap.size w w' := by
  have hnm : n = m := hn.trans hm.symm
  subst hnm
  exact (ref_csame A B c d n a hn w ha hb).mono fun _ _ h => h
theorem size13 (w : World) (o : Obj) : (w.alloc o).heap.size = w.heap.size + 1 := by simp
noncomputable def awk13 (w : World) : World := (w.alloc (.cells #[.int .i64 8, .int .i64 9, .int .i64 1, .int .i64 4] 49)).alloc (.cells #[.int .i64 5] 3)
theorem awk13_rows (w : World) : kRn.Rd (awk13 w) (awk13 w).heap.size (some ⟨w.heap.size, 0, none⟩) 2 [⟨8, 9⟩, ⟨1, 4⟩] ∧ kIt.Rd (awk13 w) (awk13 w).heap.size (some ⟨w.heap.size + 1, 0, none⟩) 1 [5] ∧ Below w.heap.size w (awk13 w) := by
  have h1 := Kind.rd_new (k := kRn) (w := w) (cs := #[.int .i64 8, .int .i64 9, .int .i64 1, .int .i64 4]) (t := 49) (l := [⟨8, 9⟩, ⟨1, 4⟩]) (n := 2) rfl rfl (by simp)
  have h2 := Kind.rd_new (k := kIt) (w := w.alloc (.cells #[.int .i64 8, .int .i64 9, .int .i64 1, .int .i64 4] 49)) (cs := #[.int .i64 5]) (t := 3) (l := [5]) (n := 1) rfl rfl (by simp)
  rw [← size13 w (.cells #[.int .i64 8, .int .i64 9, .int .i64 1, .int .i64 4] 49)] at h1
  rw [← size13 _ (.cells #[.int .i64 5] 3), size13 w] at h2
  exact ⟨h1.call (below_new _ _), h2, (below_new _ _).trans ((below_new _ _).mono (by simp))⟩
end Go.Proofs.Ytfklochgciijkaa
