/-
  Several texts in one: Law08G, RgsH, ShelfSort, RgsI, RgsJ, RgsK, RgsL, RgsSwp, RgsM, Law08H, KnwU, KcpA.
-/
import Derived.Shelf.SlSortCmp.WholeK
import Derived.Shelf.SlSortCmp.NoneTotal
import Derived.Test.YtopjhebhdopjpaaGreatProg
import Derived.Deep.CutRange
import Derived.Deep.RegionHeld3
import Derived.Test.YtopjhebhdopjpaaGreatMg15
namespace Go.Proofs.YtopjhebhdopjpaaGreat
open Go.RowKit

end Go.Proofs.YtopjhebhdopjpaaGreat

namespace Go.Proofs.YtopjhebhdopjpaaGreat
open Go.RowKit

end Go.Proofs.YtopjhebhdopjpaaGreat

namespace Go.Proofs
open Go.Shelf
end Go.Proofs

namespace Go.Proofs.YtopjhebhdopjpaaGreat
open Go.RowKit Go.Sort

instance : Inhabited Rng := ⟨zeroR⟩
end Go.Proofs.YtopjhebhdopjpaaGreat

namespace Go.Proofs.YtopjhebhdopjpaaGreat
open Go.RowKit

def LastOk (o : Option Rng) (l : List Rng) : Prop := ∀ p, o = some p → rightR p = true ∧ ∀ t ∈ l, ltB t.lo p.lo = false
theorem LastOk.none (l : List Rng) : LastOk .none l := fun p h => by cases h
theorem LastOk.new {r : Rng} {l : List Rng} (hr : rightR r = true) (hs : SortedL (r :: l)) : LastOk (some r) l := fun p h => by
  injection h with h; subst h
  exact ⟨hr, (List.pairwise_cons.1 hs).1⟩
theorem LastOk.stay {p r : Rng} {l : List Rng} (h : LastOk (some p) (r :: l)) : LastOk (some p) l := fun p' h' => by
  obtain ⟨h1, h2⟩ := h p' h'
  exact ⟨h1, fun t ht => h2 t (List.mem_cons_of_mem _ ht)⟩
theorem LastOk.more {p r : Rng} {l : List Rng} (h : LastOk (some p) (r :: l)) (hr : rightR r = true) : LastOk (some ⟨p.lo, r.hi, r.op⟩) l := fun p' h' => by
  injection h' with h'; subst h'
  obtain ⟨h1, h2⟩ := h p rfl
  exact ⟨more_right h1 hr (h2 r (List.mem_cons_self ..)), fun t ht => h2 t (List.mem_cons_of_mem _ ht)⟩
theorem SortedL.from {l : List Rng} (h : SortedL l) (k : Nat) : SortedL (l.drop k) := List.Pairwise.sublist (List.drop_sublist k l) h
end Go.Proofs.YtopjhebhdopjpaaGreat

namespace Go.Proofs.YtopjhebhdopjpaaGreat
open Go.RowKit

structure BegAt (w w1 : World) (g1 : Nat) (W : World) (v : Value) (L : List (List UInt8)) : Prop where
  s0 : W.cell? ⟨w.heap.size + 1, 0, none⟩ = some (.bool false)
  s1 : W.cell? ⟨w.heap.size + 1, 1, none⟩ = some v
  sf : ∀ j, W.frozen? ⟨w.heap.size + 1, j, none⟩ = false
  r0 : W.cell? ⟨w.heap.size, 0, none⟩ = some (.bool false)
  r1 : W.cell? ⟨w.heap.size, 1, none⟩ = some (.slice none 0 0)
  rf : ∀ j, W.frozen? ⟨w.heap.size, j, none⟩ = false
  own : kStr.Own W w1.heap.size v L
  same : ∀ j, W.cell? ⟨g1, j, none⟩ = w1.cell? ⟨g1, j, none⟩
  below : Below w.heap.size w W
  size : w1.heap.size ≤ W.heap.size
theorem BegAt.alloc {w w1 W : World} {g1 : Nat} {v : Value} {L : List (List UInt8)} (h : BegAt w w1 g1 W v L) (h2 : w.heap.size + 2 ≤ w1.heap.size) (h3 : g1 < w1.heap.size) (x : Obj) : BegAt w w1 g1 (W.alloc x) v L := by
  have hz := h.size
  obtain ⟨kc, kf⟩ := bcell (below_new W x)
  exact ⟨(kc _ _ (by omega)).trans h.s0, (kc _ _ (by omega)).trans h.s1, fun j => (kf _ _ (by omega)).trans (h.sf j), (kc _ _ (by omega)).trans h.r0, (kc _ _ (by omega)).trans h.r1, fun j => (kf _ _ (by omega)).trans (h.rf j), h.own.alloc x, fun j => (kc _ _ (by omega)).trans (h.same j), h.below.alloc h.below.size x, le_alloc hz x⟩
theorem BegAt.app {w w1 W W' : World} {g1 : Nat} {v v' : Value} {L L' : List (List UInt8)} (h : BegAt w w1 g1 W v L) (h2 : w.heap.size + 2 ≤ w1.heap.size) (h3 : g1 < w1.heap.size) (h4 : g1 ≠ w.heap.size + 1) (ho : kStr.Own W' w1.heap.size v' L') (hb : Below w1.heap.size W W') :
    BegAt w w1 g1 (W'.setCell ⟨w.heap.size + 1, 1, none⟩ v') v' L' := by
  obtain ⟨kc, kf⟩ := bcell hb
  have fr : ∀ p, (W'.setCell ⟨w.heap.size + 1, 1, none⟩ v').frozen? p = W'.frozen? p := fun p => by rw [World.frozen?_setCell]
  refine ⟨set_other ((kc _ _ (by omega)).trans h.s0) (addr_off (by decide)) _, set_same ((kc _ _ (by omega)).trans h.s1) _, fun j => (fr _).trans ((kf _ _ (by omega)).trans (h.sf j)), set_other ((kc _ _ (by omega)).trans h.r0) (addr_block (by omega)) _, set_other ((kc _ _ (by omega)).trans h.r1) (addr_block (by omega)) _,
    fun j => (fr _).trans ((kf _ _ (by omega)).trans (h.rf j)), ho.other (grownBy_set _ _ _ _) (by omega), fun j => (World.cell?_setCell_other _ _ _ _ (addr_block (Ne.symm h4))).trans ((kc _ _ h3).trans (h.same j)), ?_, ?_⟩
  · exact (h.below.trans (hb.mono (by omega))).setCell (p := ⟨w.heap.size + 1, 1, none⟩) (Nat.le_succ _) _
  · have h5 := hb.size
    have h6 := h.size
    have : (W'.setCell ⟨w.heap.size + 1, 1, none⟩ v').heap.size = W'.heap.size := by simp
    omega
end Go.Proofs.YtopjhebhdopjpaaGreat

namespace Go.Proofs.YtopjhebhdopjpaaGreat
open Go.RowKit

def SliceS (w : World) (v : Value) (l : List (List UInt8)) : Prop := ∃ A c, v = .slice A l.length c ∧ kStr.Rd w w.heap.size A c l
theorem SliceS.call {w w' : World} {v : Value} {l : List (List UInt8)} (h : SliceS w v l) (hb : Below w.heap.size w w') : SliceS w' v l := by
  obtain ⟨A, c, rfl, hr⟩ := h
  exact ⟨A, c, rfl, hr.call hb⟩
end Go.Proofs.YtopjhebhdopjpaaGreat

namespace Go.Proofs.YtopjhebhdopjpaaGreat

def SwOk (a b : List Rng) (n : Nat) (cur : Option (List UInt8)) (x : Bool) (ea : List (List UInt8)) (y : Bool) (eb : List (List UInt8)) : Prop :=
  ∀ e, cur = some e → FromE e ea ∧ FromE e eb ∧ (∀ s, ltB s e = false → togV x ea s = hasL a s) ∧ (∀ s, ltB s e = false → togV y eb s = hasL b s) ∧ (dropE e ea).length + (dropE e eb).length ≤ n
def wtE (n : Nat) : Option (List UInt8) → Nat
  | none => 0
  | some _ => n + 1
theorem SwOk.start (a b : List Rng) (n : Nat) (hn : (edgesR (normV a)).length + (edgesR (normV b)).length ≤ n) : SwOk a b n (some []) false (edgesR (normV a)) false (edgesR (normV b)) := fun e he => by
  injection he with he
  subst he
  have ra : rightL (normV a) = true := makeV_right _ _ _
  have rb : rightL (normV b) = true := makeV_right _ _ _
  refine ⟨⟨edgesR_riseB ra, fun x _ => ltB_nil x⟩, ⟨edgesR_riseB rb, fun x _ => ltB_nil x⟩, fun s _ => by rw [togV_edges ra, normV_has], fun s _ => by rw [togV_edges rb, normV_has], ?_⟩
  have := dropE_len [] (edgesR (normV a))
  have := dropE_len [] (edgesR (normV b))
  omega
theorem SwOk.next {a b : List Rng} {n : Nat} {e : List UInt8} {x y : Bool} {ea eb : List (List UInt8)} (h : SwOk a b n (some e) x ea y eb) :
    SwOk a b (n - 1) (nearE (dropE e ea) (dropE e eb)) (passB e x ea) (dropE e ea) (passB e y eb) (dropE e eb) ∧ wtE (n - 1) (nearE (dropE e ea) (dropE e eb)) ≤ n ∧ restE n ea eb (some e) = e :: restE (n - 1) (dropE e ea) (dropE e eb) (nearE (dropE e ea) (dropE e eb)) := by
  obtain ⟨h1, h2, h3, h4, h5⟩ := h e rfl
  refine ⟨fun e' he' => ?_, ?_, ?_⟩
  · obtain ⟨k1, k2, k3, k4, _⟩ := nearE_some h1.drop h2.drop he'
    refine ⟨k2, k3, fun s hs => ?_, fun s hs => ?_, by omega⟩
    · have : ltB s e = false := leB_trans (ltB_asymm k1) hs
      rw [h1.pass this, h3 s this]
    · have : ltB s e = false := leB_trans (ltB_asymm k1) hs
      rw [h2.pass this, h4 s this]
  · cases hn : nearE (dropE e ea) (dropE e eb) with
    | none => exact Nat.zero_le _
    | some e' =>
      obtain ⟨_, _, _, k4, _⟩ := nearE_some h1.drop h2.drop hn
      show n - 1 + 1 ≤ n
      omega
  · show e :: mrgE n (dropE e ea) (dropE e eb) = _
    congr 1
    cases n with
    | zero =>
      have e1 : dropE e ea = [] := List.length_eq_zero_iff.1 (by omega)
      have e2 : dropE e eb = [] := List.length_eq_zero_iff.1 (by omega)
      rw [e1, e2]; rfl
    | succ n => exact restE_next n _ _
end Go.Proofs.YtopjhebhdopjpaaGreat

namespace Go.Proofs.YtopjhebhdopjpaaGreat
open Go.RowKit

end Go.Proofs.YtopjhebhdopjpaaGreat

namespace Go.Proofs.YtopjhebhdopjpaaGreat
open Go.RowKit

end Go.Proofs.YtopjhebhdopjpaaGreat

namespace Go.Proofs.YtopjhebhdopjpaaGreat
open Go.RowKit

theorem own_is {L B : Nat} (A : Option Addr) (c n : Nat) (k : List Pc) (hn : n = k.length) (h : CapN L B k) (hL : L ≤ 500000) (hB : B ≤ 100000) (w : World) (hr : RdPc w A c k) : Calls Tryz.prog 38 #[.slice A n c] w (RetP w n k) :=
  kw_own A c n k hn (by have := h.len; omega) (fun p hp => by have := (h.each p hp).2.2; omega) (fun p hp r => by have := h.own p hp r; omega) w hr
theorem kw_of (A : Option Addr) (c n : Nat) (k : List Pc) (hn : n = k.length) (hc : CapN 8000 20000 k) (U : List Pc) (hU : ofP k = U) (N : Nat) (hN : N = U.length) (w : World) (hr : RdPc w A c k) : Calls Tryz.prog 30 #[.slice A n c] w (RetP w N U) := by
  have hcU : CapN 16001 20000 U := hU ▸ hc.of.mono (by omega) (by omega)
  have C1 := Lib.hid (kw_tidy (fun _ => True) A c n k hn hc U hU N hN w hr)
  have C2 := fun A c w h => Lib.hid (own_is A c N U hN hcU (by omega) (by omega) w h)
  clear hn hc hU hN hr hcU
  go_enter Tryz.func30, Tryz.ntmps30
  go_wp2_with (first
    | ((with_reducible refine C1.out.mono ?_); rintro e w1 ⟨A1, c1, rfl, hrd, hq⟩; have HR := Lib.hid (show RdPc w1 A1 c1 U from Deep.Rd.all hrd); have HQ := Lib.hid hq; clear hrd hq)
    | ((with_reducible refine (C2 _ _ _ HR.out).out.mono ?_); rintro e w2 ⟨A2, c2, rfl, hrd, hq⟩; have H2 := Lib.hid hrd; have HQ2 := Lib.hid (HQ.out.trans (hq.mono HQ.out.size)); clear hrd hq))
  go_ret
  exact ⟨A2, c2, rfl, H2.out, HQ2.out⟩
theorem kw_less_c {LA LB BA BB : Nat} (A B : Option Addr) (c d n m : Nat) (a b : List Pc) (ha : CapN LA BA a) (hb : CapN LB BB b) (hLA : LA ≤ 16001) (hLB : LB ≤ 16001) (hBA : BA ≤ 20000) (hBB : BB ≤ 20000) (hn : n = (ofP a).length) (hm : m = (ofP b).length) (U : List Pc) (hU : lessP a b = U) (N : Nat) (hN : N = U.length) (w : World) (hra : RdPc w A c (ofP a)) (hrb : RdPc w B d (ofP b)) :
    Calls Tryz.prog 39 #[.slice A n c, .slice B m d, .func (.func 41) #[] #[]] w (RetP w N U) :=
  (kw_sweep (fun _ => True) 41 3 (.inr rfl) kw_less (enters_of Tryz.func41 (by kernel_rfl) rfl) A B c d n m (ofP a) (ofP b) hn hm (by have h1 := ofP_len a; have h2 := ha.len; omega) (by have h1 := ofP_len b; have h2 := hb.len; omega) (ofP_right a) (ofP_right b)
    (fun s r => by have h1 := ofP_runs a s r; have h2 := ha.runs s r; omega) (fun s r => by have h1 := ofP_runs b s r; have h2 := hb.runs s r; omega) U (by rw [← hU]; exact makeP_right ..) (fun s => by rw [← hU, ← lessP_of]; exact lessP_cat (ofP_right a) (ofP_right b) s) N hN w hra hrb).mono fun _ _ h => h.to
set_option maxRecDepth 100000 in
set_option maxHeartbeats 2000000 in
theorem kw_lessP (A B : Option Addr) (c d n m : Nat) (a b : List Pc) (hn : n = a.length) (hm : m = b.length) (ha : CapN 8000 20000 a) (hb : CapN 8000 20000 b) (U : List Pc) (hU : lessP a b = U) (N : Nat) (hN : N = U.length) (w : World) (hra : RdPc w A c a) (hrb : RdPc w B d b) :
    Calls Tryz.prog 21 #[.slice A n c, .slice B m d] w (RetP w N U) := by
  have hcU : CapN 33000 81000 U := hU ▸ (ha.less hb).mono (by omega) (by omega)
  obtain ⟨n1, hn1⟩ : ∃ n, n = (ofP a).length := ⟨_, rfl⟩
  obtain ⟨m1, hm1⟩ : ∃ n, n = (ofP b).length := ⟨_, rfl⟩
  have C1 := Lib.hid (kw_tidy (fun _ => True) A c n a hn ha (ofP a) rfl n1 hn1 w hra)
  have C2 := fun w h => Lib.hid (kw_tidy (fun _ => True) B d m b hm hb (ofP b) rfl m1 hm1 w h)
  have C3 := fun A B c d w h1 h2 => Lib.hid (kw_less_c A B c d n1 m1 a b ha hb (by omega) (by omega) (by omega) (by omega) hn1 hm1 U hU N hN w h1 h2)
  have C4 := fun A c w h => Lib.hid (own_is A c N U hN hcU (by omega) (by omega) w h)
  have HB := Lib.hid (show dPc.Rd w (fun _ => True) B d b from hrb)
  clear hn hm ha hb hU hN hra hrb hcU hn1 hm1
  go_enter Tryz.func21, Tryz.ntmps21
  go_wp2_with (first
    | ((with_reducible refine C1.out.mono ?_); rintro e w1 ⟨A1, c1, rfl, hrd, hq⟩; have H1 := Lib.hid (show RdPc w1 A1 c1 (ofP a) from Deep.Rd.all hrd); replace HB := Lib.hid (Deep.Rd.call HB.out hq); have HQ := Lib.hid hq; clear hrd hq)
    | ((with_reducible refine (C2 _ HB.out).out.mono ?_); rintro e w2 ⟨A2, c2, rfl, hrd, hq⟩; have H2 := Lib.hid (show RdPc w2 A2 c2 (ofP b) from Deep.Rd.all hrd); replace H1 := Lib.hid (H1.out.call hq); replace HQ := Lib.hid (HQ.out.trans (hq.mono HQ.out.size)); clear hrd hq)
    | ((with_reducible refine (C3 _ _ _ _ _ H1.out H2.out).out.mono ?_); rintro e w3 ⟨A3, c3, rfl, hrd, hq⟩; have H3 := Lib.hid hrd; replace HQ := Lib.hid (HQ.out.trans (hq.mono HQ.out.size)); clear hrd hq)
    | ((with_reducible refine (C4 _ _ _ H3.out).out.mono ?_); rintro e w4 ⟨A4, c4, rfl, hrd, hq⟩; have H4 := Lib.hid hrd; replace HQ := Lib.hid (HQ.out.trans (hq.mono HQ.out.size)); clear hrd hq))
  go_ret
  exact ⟨A4, c4, rfl, H4.out, HQ.out⟩
theorem take_map_ofP {ks : List (List Pc)} {j : Nat} {l : List Pc} (h : ks[j]? = some l) : (ks.take (j + 1)).map ofP = (ks.take j).map ofP ++ [ofP l] := by rw [List.take_add_one, h, List.map_append]; rfl
set_option maxRecDepth 100000 in
set_option maxHeartbeats 8000000 in
theorem kw_joins (A : Option Addr) (c n : Nat) (ks : List (List Pc)) (hn : n = ks.length) (h4 : n ≤ 1000) (hc : CapN 8000 20000 ks.flatten) (U : List Pc) (hU : ofP ks.flatten = U) (N : Nat) (hN : N = U.length) (w : World) (hr : RdPP w A c ks) :
    Calls Tryz.prog 32 #[.slice A n c] w (RetP w N U) := by
  have HN := Lib.hid hn
  have HC := Lib.hid hc
  have HU := Lib.hid hU
  have HNN := Lib.hid hN
  have HR := Lib.hid (Deep.Rd.lives hr)
  have hcx : n ≤ c := by rw [hn]; exact hr.room
  have hcU : CapN 16001 20000 U := hU ▸ hc.of.mono (by omega) (by omega)
  have C2 := fun A c w h => Lib.hid (own_is A c N U hN hcU (by omega) (by omega) w h)
  clear hn hc hU hN hr hcU
  go_enter Tryz.func32, Tryz.ntmps32
  go_wp2_with fail
  go_loopw [3, 8] (fun vs i wr => ∃ j : Nat, j ≤ n ∧ Hid (dSlP.Own wr w.heap.size (fun _ => True) vs ((ks.take j).map ofP)) ∧ i = .int .i64 j ∧ Hid (Below w.heap.size w wr)) (fun _ i _ => n - (intOf i).toNat)
  case atStart => exact ⟨0, by omega, Deep.Own.nil _ _ _, rfl, Below.refl _ _⟩
  case round =>
    obtain ⟨j, hj, HO, rfl, HW⟩ := hrel
    by_cases hlt : j < n
    · obtain ⟨l, hg, -, hlm⟩ := get_some (l := ks) (k := j) (by have := HN.out; omega)
      obtain ⟨b, o, A1, n1, c1, rfl, hb1, c0, hn1, hrd⟩ := rows_atS (HR.out.keep (keptS_under HW.out fun g h => h.2)) hg
      obtain ⟨Y, hY⟩ : ∃ Y, ofP l = Y := ⟨_, rfl⟩
      obtain ⟨NY, hNY⟩ : ∃ N, N = Y.length := ⟨_, rfl⟩
      have C1 := Lib.hid (kw_tidy (fun g => True ∧ g < w.heap.size) A1 c1 n1 l hn1 (HC.out.mem hlm) Y hY NY hNY wr hrd)
      have HT := Lib.hid (take_map_ofP hg)
      rw [hY] at HT
      have HNY := Lib.hid hNY
      obtain ⟨VS, hVS⟩ : ∃ VS, VS = u3 := ⟨_, rfl⟩
      subst hVS
      have HLT := Lib.hid (fun g (h : VS.ownBlock = some g) => HO.out.lt g h)
      have HWS := Lib.hid HW.out.size
      have hj0 : (0 : Int) ≤ (j : Int) := by omega
      have hjn : (j : Int) < (n : Int) := by omega
      clear hg hlm hn1 hrd hY hNY
      go_upto_region 5 with fail
      obtain ⟨bs, hown, hall⟩ := HO.out
      have hlj : bs.length ≤ 1000 := by rw [hall.1, List.length_map, List.length_take]; omega
      have HKO := Lib.hid hown
      have HKA := Lib.hid hall
      clear hown hall
      go_wp2_with (first
        | ((with_reducible refine C1.out.mono ?_); rintro e w3 ⟨A3, c3, rfl, hrd, hq⟩; replace HKO := Lib.hid (Kind.Own.alloc (Kind.Own.below HKO.out hq) (.cells #[.slice A3 NY c3] 22)); replace HKA := Lib.hid ((HKA.out.keep (keptS_below hq _)).keep (keptS_below (below_new w3 (.cells #[.slice A3 NY c3] 22)) _)); have HREL := Lib.hid (show dSlP.rel (w3.alloc (.cells #[.slice A3 NY c3] 22)) (fun g => True ∧ VS.ownBlock ≠ some g) ⟨A3, NY, c3⟩ Y from ⟨HNY.out, (Deep.Rd.call hrd (below_new w3 _)).mono fun g hg => ⟨trivial, fun e => by have := HLT.out g e; rcases hg with hg | hg; (have := hg.2; omega); omega⟩⟩); have HW3 := Lib.hid ((HW.out.trans (hq.mono HW.out.size)).alloc (Nat.le_trans HW.out.size hq.size) (.cells #[.slice A3 NY c3] 22)); have HRW := Lib.hid (show RowAt (w3.alloc (.cells #[.slice A3 NY c3] 22)) (w3.heap.size + 1) (some ⟨w3.heap.size, 0, none⟩) (kSlP.row [⟨A3, NY, c3⟩]) from (Kind.rd_new (k := kSlP) (l := [⟨A3, NY, c3⟩]) rfl rfl (by simp)).row); have HLE := Lib.hid (show bs.length + [(⟨A3, NY, c3⟩ : SlP)].length ≤ 1000000 by rw [List.length_singleton]; omega); have HSZ := Lib.hid HW3.out.size; clear hrd hq)
        | (at_builtin; refine wpList_app_k kSlP rfl (.tmp 12) (.tmp 15) rfl w.heap.size _ bs rfl HKO.out _ (some ⟨w3.heap.size, 0, none⟩) 1 1 [⟨A3, NY, c3⟩] rfl rfl HRW.out HLE.out (by decide) HSZ.out ?_; intro v7 w7 hown7 hg7 hb7 hv7; have HO7 := Lib.hid (Deep.Own.app HKA.out (.one HREL.out) hown7 hg7 hv7); have HW7 := Lib.hid (HW3.out.trans hb7); clear hown7 hg7 hb7 hv7))
      go_roundw
      case measure => simp [intOf]; omega
      case rel => exact ⟨j + 1, by omega, by rw [HT.out]; exact HO7.out, by go_num, HW7⟩
    · have HTK := Lib.hid (show ks.take j = ks from List.take_of_length_le (by have := HN.out; omega))
      rw [HTK.out] at HO
      obtain ⟨NL, hNL⟩ : ∃ NL, NL = (ks.map ofP).length := ⟨_, rfl⟩
      obtain ⟨A7, c7, rfl, hrd⟩ := HO.out.rd hNL (fun _ _ => trivial)
      have C := Lib.hid (kw_join NL (fun _ => True) A7 c7 NL _ hNL (Nat.le_refl _) (by rw [hNL, List.length_map]; have := HN.out; omega) (fun l hl => by
        obtain ⟨p, hp, rfl⟩ := List.mem_map.1 hl
        exact ofP_right p) (HC.out.ofPs.mono (by have := HN.out; omega) (Nat.le_refl _)) U (by rw [ofPs_of]; exact HU.out) N HNN.out wr hrd)
      clear hNL hrd HO
      go_wp2_with (first
        | ((with_reducible refine C.out.mono ?_); rintro e w2 ⟨A8, c8, rfl, hrd, hq⟩; have HD := Lib.hid (show RdPc w2 A8 c8 U from Deep.Rd.all hrd); have HQ := Lib.hid (HW.out.trans (hq.mono HW.out.size)); clear hrd hq)
        | ((with_reducible refine (C2 _ _ _ HD.out).out.mono ?_); rintro e w4 ⟨A4, c4, rfl, hrd, hq⟩; have H4 := Lib.hid hrd; have HQ4 := Lib.hid (HQ.out.trans (hq.mono HQ.out.size)); clear hrd hq))
      go_ret
      exact ⟨A4, c4, rfl, H4.out, HQ4.out⟩
end Go.Proofs.YtopjhebhdopjpaaGreat

namespace Go.Proofs.YtopjhebhdopjpaaGreat
open Go.RowKit

def stepsL : Int → List Rn → List Int
  | _, [] => []
  | was, r :: l => (r.fr - was) :: (r.to - r.fr) :: stepsL r.to l
theorem stepsL_put : ∀ (l : List Rn) (was : Int), putsV (stepsL was l) = runsB was l
  | [], _ => rfl
  | r :: l, was => by rw [stepsL, putsV_cons, putsV_cons, stepsL_put l, runsB]
theorem stepsL_append : ∀ (a b : List Rn) (was : Int), stepsL was (a ++ b) = stepsL was a ++ stepsL (wasR was a) b
  | [], _, _ => rfl
  | r :: a, b, was => by rw [List.cons_append, stepsL, stepsL, stepsL_append a b, wasR]; rfl
theorem stepsL_len : ∀ (l : List Rn) (was : Int), (stepsL was l).length = 2 * l.length
  | [], _ => rfl
  | r :: l, was => by rw [stepsL, List.length_cons, List.length_cons, stepsL_len l, List.length_cons]; omega
theorem stepsL_next {l : List Rn} {j : Nat} {r : Rn} (h : l[j]? = some r) : stepsL 0 (l.take (j + 1)) = stepsL 0 (l.take j) ++ [r.fr - wasR 0 (l.take j), r.to - r.fr] := by
  rw [List.take_add_one, h, stepsL_append]; rfl
theorem stepsL_ok : ∀ (l : List Rn) (was : Int), 0 ≤ was → rightC l = true → (∀ t m, l = t :: m → was ≤ t.fr) → okL (stepsL was l) = true
  | [], _, _, _, _ => rfl
  | r :: l, was, h0, h, h1 => by
    have h2 := oneC_iff.1 (rightC_head h)
    have h3 := h1 r l rfl
    have ih := stepsL_ok l r.to (by omega) (rightC_tail h) fun t m e => by subst e; have := rightC_gap h; omega
    unfold okL at ih ⊢
    rw [stepsL, List.all_cons, List.all_cons, ih]
    simp [okN]; omega
def knL (k : Kn) : List Int := [k.rep, (k.runs.length : Int)] ++ stepsL 0 k.runs
theorem knL_put (k : Kn) : putsV (knL k) = knB k := by
  unfold knL knB
  rw [List.cons_append, List.cons_append, List.nil_append, putsV_cons, putsV_cons, stepsL_put, Int.toNat_natCast]
theorem putsV_flat (s : List Kn) : putsV (s.flatMap knL) = s.flatMap knB := by
  induction s with
  | nil => rfl
  | cons k s ih =>
    rw [List.flatMap_cons, List.flatMap_cons, ← ih, ← knL_put]
    simp [putsV]
theorem knL_set (s : List Kn) : putsV ((s.length : Int) :: s.flatMap knL) = setB s := by
  rw [putsV_cons, putsV_flat, Int.toNat_natCast]; rfl
theorem knL_ok {k : Kn} (h : smallKn k) : okL (knL k) = true := by
  obtain ⟨h1, h2, h3, h4⟩ := h
  have h5 := stepsL_ok k.runs 0 (Int.le_refl _) h3 fun r m e => by rw [e] at h3; have := oneC_iff.1 (rightC_head h3); omega
  unfold okL at h5 ⊢
  unfold knL
  rw [List.cons_append, List.cons_append, List.nil_append, List.all_cons, List.all_cons, h5]
  simp [okN]; omega
theorem knL_len {k : Kn} (h : k.runs.length ≤ 4096) : (knL k).length ≤ 8194 := by
  unfold knL
  rw [List.length_append, stepsL_len, List.length_cons, List.length_cons, List.length_nil]; omega
theorem setL_ok {s : List Kn} (h : ∀ k ∈ s, smallKn k) (hl : s.length ≤ 16) : okL ((s.length : Int) :: s.flatMap knL) = true := by
  have h2 : s.all (fun k => (knL k).all okN) = true := List.all_eq_true.2 fun k hk => knL_ok (h k hk)
  unfold okL
  rw [List.all_cons, List.all_flatMap, h2]
  simp [okN]; omega
theorem okL_all {l : List Int} (h : okL l = true) : AllI64 l := fun x hx => by
  have := List.all_eq_true.1 h x hx
  simp [okN] at this
  omega
theorem it_own (w : World) (n : Int) : kIt.Own (w.alloc (.cells #[.int .i64 n] 3)) w.heap.size (.slice (some ⟨w.heap.size, 0, none⟩) 1 1) [n] :=
  ⟨rfl, .inr ⟨w.heap.size, 1, _, rfl, Nat.le_refl _, heap_alloc_new w _, Nat.le_refl _, by unfold maxLen; omega, rfl, rfl⟩⟩
theorem it_two (w : World) (x y : Int) : RowAt (w.alloc (.cells #[.int .i64 x, .int .i64 y] 3)) (w.heap.size + 1) (some ⟨w.heap.size, 0, none⟩) (kIt.row [x, y]) := RowAt.of_block (heap_new w (.cells #[.int .i64 x, .int .i64 y] 3) _ rfl)
set_option maxRecDepth 100000 in
set_option maxHeartbeats 4000000 in
theorem kc_steps (A : Option Addr) (c n : Nat) (l : List Rn) (hn : n = l.length) (hn9 : n ≤ 4096) (hrc : rightC l = true) (N : Nat) (hN : N = 2 * n) (w : World) (hr : kRn.Rd w w.heap.size A c l) :
    Calls Tryz.prog 63 #[.slice A n c] w fun e w' => ∃ A' c', e = .returned (.slice A' N c') ∧ kIt.Own w' w.heap.size (.slice A' N c') (stepsL 0 l) ∧ Below w.heap.size w w' := by
  obtain ⟨w1, hm1, ho1, hb1⟩ := run_make_k kIt w w.heap.size (2 * n) (by omega) (by decide) (Nat.le_refl _)
  have hmk : (Instr.makeSlice 99 (.int .i64 0) (.int .i64 (2 * (n : Int)))).run Tryz.prog w = .ok (.slice (some ⟨w.heap.size, 0, none⟩) 0 (2 * n)) w1 := by
    have h := hm1
    rw [show (((2 * n : Nat)) : Int) = 2 * (n : Int) by omega] at h
    exact h
  have hwm : IntKind.i64.wrap (2 * (n : Int)) = 2 * (n : Int) := IntWalk.i64_in _ (by omega)
  have HR := Lib.hid hr
  have HN := Lib.hid hn
  have HC := Lib.hid hrc
  have HN2 := Lib.hid hN
  have HO1 := Lib.hid ho1
  have HB1 := Lib.hid hb1
  have hcx : n ≤ c := by rw [hn]; exact hr.room
  clear hr hn hrc ho1 hb1 hN hm1
  go_enter Tryz.func63, Tryz.ntmps63
  go_wp2_with fail
  clear hmk hwm
  go_loopw [3, 4, 13] (fun v wv i wr => ∃ k : Nat, k ≤ n ∧ wv = .int .i64 (wasR 0 (l.take k)) ∧ i = .int .i64 k ∧ Hid (kIt.Own wr w.heap.size v (stepsL 0 (l.take k))) ∧ Hid (Below w.heap.size w wr)) (fun _ _ i _ => n - (intOf i).toNat)
  case atStart => exact ⟨0, by omega, rfl, rfl, HO1, HB1⟩
  case round =>
    clear HO1 HB1
    obtain ⟨k, hk, rfl, rfl, HO, HB⟩ := hrel
    by_cases hlt : k < n
    · obtain ⟨t, hg, -, hmt⟩ := cnt_get (l := l) (k := k) (by have := HN.out; omega)
      obtain ⟨b, o, rfl, hb1, hcell⟩ := rns_at (HR.out.below HB.out) (by have := HN.out; omega)
      obtain ⟨e0, e1⟩ := hcell k t hg
      have ht3 := oneC_iff.1 (rightC_all HC.out t hmt)
      have hw3 := wasR_ok HC.out (Int.le_refl 0) (fun u m e => by have h := HC.out; rw [e] at h; have := oneC_iff.1 (rightC_head h); omega) hg
      have HX := Lib.hid (stepsL_next hg)
      have HW2 := Lib.hid (show wasR 0 (l.take (k + 1)) = t.to by rw [List.take_add_one, hg]; exact wasR_snoc _ _ _)
      have hm2 : (stepsL 0 (l.take k)).length ≤ 8192 := by rw [stepsL_len, List.length_take]; omega
      obtain ⟨X, hX⟩ : ∃ X, t.fr = X := ⟨_, rfl⟩
      obtain ⟨Z, hZ⟩ : ∃ Z, t.to = Z := ⟨_, rfl⟩
      obtain ⟨W, hW⟩ : ∃ W, wasR 0 (l.take k) = W := ⟨_, rfl⟩
      rw [hX, hZ] at ht3
      rw [hX, hW] at hw3
      rw [hX, hZ, hW] at HX
      rw [hZ] at HW2
      rw [hX] at e0
      rw [hZ] at e1
      rw [hW]
      have w1' : IntKind.i64.wrap (X - W) = X - W := IntWalk.i64_in _ (by omega)
      have w2' : IntKind.i64.wrap (Z - X) = Z - X := IntWalk.i64_in _ (by omega)
      obtain ⟨Q, hQ⟩ : ∃ Q, stepsL 0 (l.take k) = Q := ⟨_, rfl⟩
      rw [hQ] at HO HX hm2
      have HL := Lib.hid (show Q.length + [X - W, Z - X].length ≤ 1000000 by rw [List.length_cons, List.length_cons, List.length_nil]; omega)
      have HG := Lib.hid (rnAt_new wr X Z 105)
      have HB2 := Lib.hid (HB.out.alloc HB.out.size (.cells #[.int .i64 X, .int .i64 Z] 105))
      have HO2 := Lib.hid (HO.out.alloc (.cells #[.int .i64 X, .int .i64 Z] 105))
      have HB3 := Lib.hid (HB2.out.alloc HB2.out.size (.cells #[.int .i64 (X - W), .int .i64 (Z - X)] 3))
      have HO3 := Lib.hid (HO2.out.alloc (.cells #[.int .i64 (X - W), .int .i64 (Z - X)] 3))
      have HG3 := Lib.hid (HG.out.below (below_new _ (.cells #[.int .i64 (X - W), .int .i64 (Z - X)] 3)))
      have HRW := Lib.hid (it_two (wr.alloc (.cells #[.int .i64 X, .int .i64 Z] 105)) (X - W) (Z - X))
      rw [size1] at HRW
      have HVO := Lib.hid (fun g hg => (HO.out.lt g hg).2)
      clear hcell hg hmt hX hZ hW hQ ht3 hw3 hm2 HO HB HG HB2 HO2
      go_wp2_with (at_builtin; refine wpList_app_k kIt rfl (.tmp 17) (.tmp 27) rfl w.heap.size _ Q rfl HO3.out _ (some ⟨wr.heap.size + 1, 0, none⟩) 2 2 [X - W, Z - X] rfl rfl HRW.out HL.out (by decide) HB3.out.size ?_; intro v5 w5 hown5 hg5 hb5 _; have HO5 := Lib.hid hown5; have HB5 := Lib.hid (HB3.out.trans hb5); have HG5 := Lib.hid (HG3.out.grown hg5 (fun h => Nat.lt_irrefl _ (HVO.out _ h.symm))); obtain ⟨g0, g1, g2⟩ := HG5.out; clear hown5 hg5 hb5)
      go_roundw
      case rel => exact ⟨k + 1, by omega, by rw [HW2.out], by go_num, by rw [HX.out]; exact HO5, HB5⟩
      case measure => simp [intOf]; omega
    · have hkn : l.take k = l := List.take_of_length_le (by have := HN.out; omega)
      rw [hkn] at HO
      obtain ⟨A5, c5, rfl, -⟩ := HO.out.read_n (n := N) (by rw [stepsL_len, HN2.out, HN.out])
      go_wp2_with fail
      go_ret
      exact ⟨A5, c5, rfl, HO.out, HB.out⟩
end Go.Proofs.YtopjhebhdopjpaaGreat
