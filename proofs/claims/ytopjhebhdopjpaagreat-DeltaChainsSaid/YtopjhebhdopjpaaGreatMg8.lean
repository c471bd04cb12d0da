/-
  Several texts in one: KnwH, KnwI, KnwCap, KdlPure, FcdFlt, VarA, VarB, VarC, VarD, Eq, VarE, VarF.
-/
import Derived.Lib.SliceRun
import Derived.Outline
import Derived.Deep.QuietTactic
import Derived.BigQuiet
import Derived.Test.YtopjhebhdopjpaaGreatMg7
namespace Go.Proofs.YtopjhebhdopjpaaGreat
open Go.RowKit

theorem RdPc.empty (w : World) (A : Option Addr) (c : Nat) (hc : c ≤ maxLen) : RdPc w A c [] := Deep.Rd.nil w _ A c hc
set_option maxRecDepth 100000 in
theorem ref_pof (A : Option Addr) (c n : Nat) (a : List Pc) (hn : n = a.length) (hca : CapP a) (U : List Pc) (hU : ofP a = U) (NU : Nat) (hNU : NU = U.length) (w : World) (ha : RdPc w A c a) :
    Calls Tryz.prog 17 #[.slice A n c] w (RetP w NU U) := by
  have HB := Lib.hid ((below_new w (.cells #[] 48)).alloc (by simp) (.cells #[] 45))
  have C := fun W h1 h2 h3 => Lib.hid (ref_pmake 1 1 rfl (.inl rfl) A (some ⟨w.heap.size, 0, none⟩) (some ⟨w.heap.size + 1, 0, none⟩) c 0 0 n 0 0 a [] [] hn rfl rfl (by omega) hca CapP.nil U hU NU hNU W h1 h2 h3)
  have H1 := Lib.hid (ha.call HB.out)
  have H2 := Lib.hid (RdPc.empty ((w.alloc (.cells #[] 48)).alloc (.cells #[] 45)) (some ⟨w.heap.size, 0, none⟩) 0 (Nat.zero_le _))
  have H3 := Lib.hid (Kind.Rd.empty (k := kRng) ((w.alloc (.cells #[] 48)).alloc (.cells #[] 45)) ((w.alloc (.cells #[] 48)).alloc (.cells #[] 45)).heap.size (some ⟨w.heap.size + 1, 0, none⟩) 0 (Nat.zero_le _))
  clear hn hca hU hNU ha
  go_enter Tryz.func17, Tryz.ntmps17
  go_wp2_with ((with_reducible refine (C _ H1.out H2.out H3.out).out.mono ?_); rintro e w1 ⟨A1, c1, rfl, hrd, hq⟩; have HR := Lib.hid hrd; have HQ := Lib.hid (HB.out.trans (hq.mono HB.out.size)); clear hrd hq)
  go_ret
  exact ⟨A1, c1, rfl, HR.out, HQ.out⟩
set_option maxRecDepth 100000 in
theorem ref_pjoin_new (A B : Option Addr) (c d n m : Nat) (a b : List Pc) (hn : n = a.length) (hm : m = b.length) (hca : CapP a) (hcb : CapP b) (U : List Pc) (hU : joinP a b = U) (NU : Nat) (hNU : NU = U.length) (w : World) (ha : RdPc w A c a) (hb : RdPc w B d b) :
    Calls Tryz.prog 14 #[.slice A n c, .slice B m d] w (RetPF w NU U) := by
  have HB := Lib.hid (below_new w (.cells #[] 45))
  have C := fun W h1 h2 h3 => Lib.hid (ref_pmake_new 1 1 rfl (.inl rfl) A B (some ⟨w.heap.size, 0, none⟩) c d 0 n m 0 a b [] hn hm rfl (by have := hcb.len; omega) hca hcb U hU NU hNU W h1 h2 h3)
  have H1 := Lib.hid (ha.call HB.out)
  have H2 := Lib.hid (hb.call HB.out)
  have H3 := Lib.hid (Kind.Rd.empty (k := kRng) (w.alloc (.cells #[] 45)) (w.alloc (.cells #[] 45)).heap.size (some ⟨w.heap.size, 0, none⟩) 0 (Nat.zero_le _))
  clear hn hm hca hcb hU hNU ha hb
  go_enter Tryz.func14, Tryz.ntmps14
  go_wp2_with ((with_reducible refine (C _ H1.out H2.out H3.out).out.mono ?_); rintro e w1 ⟨A1, c1, rfl, hrd, hq⟩; have HR := Lib.hid hrd; have HQ := Lib.hid (HB.out.trans (hq.mono HB.out.size)); clear hrd hq)
  go_ret
  exact ⟨A1, c1, rfl, HR.out.mono fun g hg => Nat.le_trans HB.out.size hg, HQ.out⟩
theorem ref_pjoin (A B : Option Addr) (c d n m : Nat) (a b : List Pc) (hn : n = a.length) (hm : m = b.length) (hca : CapP a) (hcb : CapP b) (U : List Pc) (hU : joinP a b = U) (NU : Nat) (hNU : NU = U.length) (w : World) (ha : RdPc w A c a) (hb : RdPc w B d b) :
    Calls Tryz.prog 14 #[.slice A n c, .slice B m d] w (RetP w NU U) :=
  (ref_pjoin_new A B c d n m a b hn hm hca hcb U hU NU hNU w ha hb).mono fun _ _ h => h.to
set_option maxRecDepth 100000 in
theorem ref_pless (A B : Option Addr) (c d n m : Nat) (a b : List Pc) (hn : n = a.length) (hm : m = b.length) (hca : CapP a) (hcb : CapP b) (U : List Pc) (hU : lessP a b = U) (NU : Nat) (hNU : NU = U.length) (w : World) (ha : RdPc w A c a) (hb : RdPc w B d b) :
    Calls Tryz.prog 27 #[.slice A n c, .slice B m d] w (RetP w NU U) := by
  have HB := Lib.hid (below_new w (.cells #[] 45))
  have C := fun W h1 h2 h3 => Lib.hid (ref_pmake 2 2 rfl (.inr (.inl rfl)) A B (some ⟨w.heap.size, 0, none⟩) c d 0 n m 0 a b [] hn hm rfl (by have := hcb.len; omega) hca hcb U hU NU hNU W h1 h2 h3)
  have H1 := Lib.hid (ha.call HB.out)
  have H2 := Lib.hid (hb.call HB.out)
  have H3 := Lib.hid (Kind.Rd.empty (k := kRng) (w.alloc (.cells #[] 45)) (w.alloc (.cells #[] 45)).heap.size (some ⟨w.heap.size, 0, none⟩) 0 (Nat.zero_le _))
  clear hn hm hca hcb hU hNU ha hb
  go_enter Tryz.func27, Tryz.ntmps27
  go_wp2_with ((with_reducible refine (C _ H1.out H2.out H3.out).out.mono ?_); rintro e w1 ⟨A1, c1, rfl, hrd, hq⟩; have HR := Lib.hid hrd; have HQ := Lib.hid (HB.out.trans (hq.mono HB.out.size)); clear hrd hq)
  go_ret
  exact ⟨A1, c1, rfl, HR.out, HQ.out⟩
end Go.Proofs.YtopjhebhdopjpaaGreat

namespace Go.Proofs.YtopjhebhdopjpaaGreat
open Go.RowKit

end Go.Proofs.YtopjhebhdopjpaaGreat

namespace Go.Proofs.YtopjhebhdopjpaaGreat

structure CapN (L B : Nat) (k : List Pc) : Prop where
  len : k.length ≤ L
  each : ∀ p ∈ k, p.rng.lo.length ≤ 1000 ∧ p.rng.hi.length ≤ 1000 ∧ p.set.length ≤ 16
  own : ∀ p ∈ k, ∀ r, (runsV p.set r).length ≤ B
  runs : ∀ s r, (runsV (catK k s) r).length ≤ B
theorem CapN.nil (L B : Nat) : CapN L B [] := ⟨Nat.zero_le _, fun p h => (by cases h), fun p h => (by cases h), fun _ _ => Nat.zero_le _⟩
theorem CapN.mono {L B L' B' : Nat} {k : List Pc} (h : CapN L B k) (hL : L ≤ L') (hB : B ≤ B') : CapN L' B' k :=
  ⟨Nat.le_trans h.len hL, h.each, fun p hp r => Nat.le_trans (h.own p hp r) hB, fun s r => Nat.le_trans (h.runs s r) hB⟩
theorem catK_len {m : Nat} : ∀ {k : List Pc} (s : List UInt8), (∀ p ∈ k, p.set.length ≤ m) → (catK k s).length ≤ m * k.length
  | [], s, _ => Nat.zero_le _
  | p :: k, s, h => by
    have h1 := catK_len (k := k) s fun q hq => h q (List.mem_cons_of_mem _ hq)
    have h2 : (setP p s).length ≤ m := by
      cases hr : hasR p.rng s
      · rw [setP_no hr]; exact Nat.zero_le _
      · rw [setP_yes hr]; exact h p (List.mem_cons_self ..)
    rw [catK, List.length_append, List.length_cons, Nat.mul_add, Nat.mul_one]
    omega
theorem CapN.cap {L B : Nat} {k : List Pc} (h : CapN L B k) (hL : L ≤ 8000) (hB : B ≤ 20000) : CapP k :=
  ⟨Nat.le_trans h.len hL, fun s => by
    have h1 := catK_len (k := k) s fun p hp => (h.each p hp).2.2
    have h2 : 16 * k.length ≤ 16 * 8000 := Nat.mul_le_mul_left 16 (Nat.le_trans h.len hL)
    omega, fun s r => Nat.le_trans (h.runs s r) hB⟩
theorem runsV_cat {B : Nat} : ∀ {k : List Pc} (s : List UInt8) (r : Int), (∀ p ∈ k, (runsV p.set r).length ≤ B) → (runsV (catK k s) r).length ≤ B * k.length
  | [], s, r, _ => Nat.zero_le _
  | p :: k, s, r, h => by
    have h1 := runsV_cat (k := k) s r fun q hq => h q (List.mem_cons_of_mem _ hq)
    have h2 : (runsV (setP p s) r).length ≤ B := by
      cases hr : hasR p.rng s
      · rw [setP_no hr]; exact Nat.zero_le _
      · rw [setP_yes hr]; exact h p (List.mem_cons_self ..)
    rw [catK, runsV_append, List.length_append, List.length_cons, Nat.mul_add, Nat.mul_one]
    omega
theorem longP_cap {m : Nat} {k : List Pc} (h : longP m k = false) : CapN m (256 * m) k := by
  unfold longP at h
  simp only [Bool.or_eq_false_iff, decide_eq_false_iff_not, List.any_eq_false] at h
  obtain ⟨h1, h2⟩ := h
  have hp : ∀ p ∈ k, p.rng.lo.length ≤ 40 ∧ p.rng.hi.length ≤ 40 ∧ sizeV 16 p.set := fun p hp => by
    have := h2 p hp
    unfold longPc at this
    simp only [Bool.not_eq_true, Bool.or_eq_false_iff, decide_eq_false_iff_not] at this
    exact ⟨by omega, by omega, longV_size this.2⟩
  have ho : ∀ p ∈ k, ∀ r, (runsV p.set r).length ≤ 256 := fun p hp' r => by
    have h3 := (hp p hp').2.2
    have h4 := runsV_len r h3.2
    have h5 : 16 * p.set.length ≤ 16 * 16 := Nat.mul_le_mul_left 16 h3.1
    omega
  refine ⟨by omega, fun p hp' => ⟨by have := (hp p hp').1; omega, by have := (hp p hp').2.1; omega, (hp p hp').2.2.1⟩, fun p hp' r => ?_, fun s r => ?_⟩
  · have h3 := ho p hp' r
    have h4 : 0 < k.length := List.length_pos_of_mem hp'
    have h5 : 256 * 1 ≤ 256 * m := Nat.mul_le_mul_left 256 (by omega)
    omega
  · exact Nat.le_trans (runsV_cat s r fun p hp' => ho p hp' r) (Nat.mul_le_mul_left 256 (by omega))
theorem CapN.append {L B L' B' : Nat} {a b : List Pc} (h : CapN L B a) (h' : CapN L' B' b) : CapN (L + L') (B + B') (a ++ b) := by
  refine ⟨by rw [List.length_append]; have := h.len; have := h'.len; omega, fun p hp => ?_, fun p hp r => ?_, fun s r => ?_⟩
  · rcases List.mem_append.1 hp with hp | hp
    · exact h.each p hp
    · exact h'.each p hp
  · rcases List.mem_append.1 hp with hp | hp
    · have := h.own p hp r; omega
    · have := h'.own p hp r; omega
  · rw [catK_append, runsV_append, List.length_append]
    have := h.runs s r
    have := h'.runs s r
    omega
theorem rightR_short {r : Rng} (h : rightR r = true) : r.lo.length ≤ 17 ∧ r.hi.length ≤ 17 := ⟨(rightR_iff.1 h).1, (rightR_iff.1 h).2.1⟩
theorem upS_length {s : List Kn} (h : rightS s = true) : s.length ≤ 16 := by
  rw [← ofS_self h]; exact colS_len _ 16
theorem CapN.right {L B : Nat} {k : List Pc} (h : rightP k = true) (hL : k.length ≤ L) (hB : ∀ s r, (runsV (catK k s) r).length ≤ B) : CapN L B k := by
  refine ⟨hL, fun p hp => ?_, fun p hp r => ?_, hB⟩
  · obtain ⟨h1, -, h3⟩ := onePc_iff.1 (rightP_all h p hp)
    have := rightR_short h1
    exact ⟨by omega, by omega, upS_length h3⟩
  · obtain ⟨h1, -, h3⟩ := onePc_iff.1 (rightP_all h p hp)
    refine Nat.le_trans ?_ (hB p.rng.lo r)
    obtain ⟨a, b, rfl⟩ := List.append_of_mem hp
    rw [catK_append, runsV_append, catK, setP_yes (hasR_lo h1), runsV_append, List.length_append, List.length_append]
    omega
theorem makeS_runs_any {op : Int} {a b : List Kn} {x y : Nat} (ha : ∀ r, (runsV a r).length ≤ x) (hb : ∀ r, (runsV b r).length ≤ y) (r : Int) : (runsV (makeS op a b) r).length ≤ 2 * (x + y) + 1 := by
  by_cases hr : 1 ≤ r ∧ r ≤ 16
  · rw [makeS_runs hr.1 hr.2]
    have := makeC_len op (runsV a r) (runsV b r)
    have := ha r
    have := hb r
    omega
  · rw [rightS_out (makeS_right op a b) hr]; exact Nat.zero_le _
theorem CapN.at_ {L B : Nat} {k : List Pc} (h : CapN L B k) (s : List UInt8) (r : Int) : (runsV (atK k s) r).length ≤ B := Nat.le_trans (ofS_short _ r) (h.runs s r)
theorem CapN.join {L B L' B' : Nat} {a b : List Pc} (h : CapN L B a) (h' : CapN L' B' b) : CapN (1 + 2 * (L + L')) (B + B') (joinP a b) := by
  refine .right (makeP_right ..) (Nat.le_trans (makeP_len 1 a b []) (by have := h.len; have := h'.len; simp; omega)) fun s r => ?_
  rw [← atK_right (show rightP (joinP a b) = true from makeP_right ..), joinP_at]
  have := makeS1_runs (atK a s) (atK b s) r
  have := h.at_ s r
  have := h'.at_ s r
  omega
theorem CapN.of {L B : Nat} {a : List Pc} (h : CapN L B a) : CapN (1 + 2 * L) B (ofP a) := (h.join (.nil 0 0)).mono (by omega) (by omega)
theorem CapN.less {L B L' B' : Nat} {a b : List Pc} (h : CapN L B a) (h' : CapN L' B' b) : CapN (1 + 2 * (L + L')) (2 * (B + B') + 1) (lessP a b) := by
  refine .right (makeP_right ..) (Nat.le_trans (makeP_len 2 a b []) (by have := h.len; have := h'.len; simp; omega)) fun s r => ?_
  rw [← atK_right (show rightP (lessP a b) = true from makeP_right ..), lessP_at]
  exact makeS_runs_any (h.at_ s) (h'.at_ s) r
theorem CapN.rest {L B q : Nat} {a : List Pc} (h : CapN L B a) {l : List Rng} (hq : l.length ≤ q) : CapN (1 + 2 * (L + q)) B (restP a l) := by
  refine .right (makeP_right ..) (Nat.le_trans (makeP_len 3 a [] l) (by have := h.len; simp; omega)) fun s r => ?_
  rw [← atK_right (show rightP (restP a l) = true from makeP_right ..)]
  cases hl : hasL l s
  · rw [restP_out hl]; exact Nat.zero_le _
  · rw [restP_in hl]; exact h.at_ s r
end Go.Proofs.YtopjhebhdopjpaaGreat

namespace Go.Proofs.YtopjhebhdopjpaaGreat

def deltaB (a b : List Pc) : List UInt8 := knowB (lessP b a)
def applyP (a : List Pc) (d : List UInt8) : List Pc × Int := match rightP a with
  | false => ([], 2)
  | true => match readK d with
    | (k, e) => match decide (e = 0) with
      | true => (joinP a k, 0)
      | false => ([], e)
theorem applyP_wrong {a : List Pc} (h : rightP a = false) (d : List UInt8) : applyP a d = ([], 2) := by unfold applyP; rw [h]
theorem applyP_read {a : List Pc} (h : rightP a = true) {d : List UInt8} {k : List Pc} (hr : readK d = (k, 0)) : applyP a d = (joinP a k, 0) := by unfold applyP; rw [h, hr]; rfl
theorem applyP_bad {a : List Pc} (h : rightP a = true) {d : List UInt8} {k : List Pc} {e : Int} (hr : readK d = (k, e)) (he : e ≠ 0) : applyP a d = ([], e) := by
  unfold applyP; rw [h, hr]
  show (match decide (e = 0) with | true => (joinP a k, 0) | false => ([], e)) = ([], e)
  rw [decide_eq_false he]
theorem applyP_ok {a : List Pc} {d : List UInt8} {k : List Pc} (h : applyP a d = (k, 0)) : rightP a = true ∧ rightP k = true := by
  unfold applyP at h
  cases ha : rightP a with
  | false => rw [ha] at h; injection h with _ h; cases h
  | true =>
    refine ⟨rfl, ?_⟩
    rw [ha] at h
    cases hr : readK d with
    | mk y e =>
      rw [hr] at h
      replace h : (match decide (e = 0) with | true => (joinP a y, (0 : Int)) | false => ([], e)) = (k, 0) := h
      by_cases he : e = 0
      · rw [decide_eq_true he] at h
        injection h with h _
        rw [← h]; exact makeP_right ..
      · rw [decide_eq_false he] at h
        injection h with _ h
        exact absurd h he
def stepP (x : List Pc × Int) (d : List UInt8) : List Pc × Int := match decide (x.2 = 0) with
  | true => applyP x.1 d
  | false => x
theorem stepP_ok (k : List Pc) (d : List UInt8) : stepP (k, 0) d = applyP k d := rfl
theorem stepP_bad {k : List Pc} {e : Int} (h : e ≠ 0) (d : List UInt8) : stepP (k, e) d = (k, e) := by
  unfold stepP
  show (match decide (e = 0) with | true => applyP k d | false => (k, e)) = (k, e)
  rw [decide_eq_false h]
def chainP (a : List Pc) (l : List (List UInt8)) : List Pc × Int := l.foldl stepP (a, 0)
theorem chain_bad {e : Int} (h : e ≠ 0) : ∀ (l : List (List UInt8)) (k : List Pc), l.foldl stepP (k, e) = (k, e)
  | [], _ => rfl
  | d :: l, k => by rw [List.foldl_cons, stepP_bad h, chain_bad h l]
def chainA (a : List Pc) (l : List (List UInt8)) : List Pc × Int := match decide ((chainP a l).2 = 0) with
  | true => (ofP (chainP a l).1, 0)
  | false => ([], (chainP a l).2)
theorem chainA_ok {a k : List Pc} {l : List (List UInt8)} (h : chainP a l = (k, 0)) : chainA a l = (ofP k, 0) := by unfold chainA; rw [h]; rfl
theorem chainA_bad {a k : List Pc} {l : List (List UInt8)} {e : Int} (h : chainP a l = (k, e)) (he : e ≠ 0) : chainA a l = ([], e) := by
  unfold chainA; rw [h]
  show (match decide (e = 0) with | true => (ofP k, 0) | false => ([], e)) = ([], e)
  rw [decide_eq_false he]
theorem lessP_self (a : List Pc) : lessP a a = [] := lessP_iff.2 fun _ => makeS_less.2 fun _ _ h => h
theorem join_over {l all : List Pc} (h : lessP l all = []) (x : List Pc) : joinP all (lessP x l) = joinP all x := atP_unique (makeP_right ..) (makeP_right ..) fun s => by
  rw [joinP_at, joinP_at, lessP_at]
  have hs := makeS_less.1 (lessP_iff.1 h s)
  refine makeS_unique (makeS_right 1 _ _) fun r n => ?_
  rw [makeS_has, makeS_has, gC1, gC3, gC1]
  have := hs r n
  revert this
  cases hasK (atK l s) r n <;> cases hasK (atK all s) r n <;> cases hasK (atK x s) r n <;> simp
def PutP (k : List Pc) : Prop := k.length ≤ 4096 ∧ ∀ p ∈ k, ∀ x ∈ p.set, x.runs.length ≤ 4096
theorem apply_less {a x all : List Pc} (ha : rightP all = true) (h : lessP a all = []) (hp : PutP (lessP x a)) : applyP all (deltaB a x) = (joinP all x, 0) := by
  have hr : readK (knowB (lessP x a)) = (lessP x a, 0) := readK_put (makeP_right ..) hp.1 hp.2
  unfold deltaB
  rw [applyP_read ha hr, join_over h]
theorem apply_delta {a b : List Pc} (ha : rightP a = true) (hp : PutP (lessP b a)) : applyP a (deltaB a b) = (joinP a b, 0) := apply_less ha (lessP_self a) hp
def deltasP : List Pc → List (List Pc) → List (List UInt8)
  | _, [] => []
  | a, x :: l => deltaB a x :: deltasP x l
def PutsP : List Pc → List (List Pc) → Prop
  | _, [] => True
  | a, x :: l => PutP (lessP x a) ∧ PutsP x l
theorem putsP_cons {a x : List Pc} {l : List (List Pc)} (h : PutsP a (x :: l)) : PutP (lessP x a) ∧ PutsP x l := by rwa [PutsP] at h
theorem join_right (a b : List Pc) : rightP (joinP a b) = true := makeP_right 1 a b []
theorem chain_deltas (l : List (List Pc)) : ∀ (a all : List Pc), rightP all = true → lessP a all = [] → PutsP a l → (deltasP a l).foldl stepP (all, 0) = (l.foldl joinP all, 0) := by
  induction l with
  | nil => intro a all _ _ _; simp only [deltasP, List.foldl_nil]
  | cons x l ih =>
    intro a all hr h hp
    obtain ⟨h1, h2⟩ := putsP_cons hp
    rw [deltasP, List.foldl_cons, stepP_ok, apply_less hr h h1, List.foldl_cons]
    exact ih x (joinP all x) (join_right all x) (lessP_on' all x) h2
theorem chain_all {a : List Pc} (l : List (List Pc)) (ha : rightP a = true) (hp : PutsP a l) : chainA a (deltasP a l) = (ofP (l.foldl joinP a), 0) := chainA_ok (chain_deltas l a a ha (lessP_self a) hp)
theorem runs_of_set {s : List Kn} {x : Kn} (h : x ∈ s) : x.runs.length ≤ (runsV s x.rep).length := by
  induction s with
  | nil => cases h
  | cons k s ih =>
    rw [runsV, List.length_append]
    rcases List.mem_cons.1 h with rfl | h
    · rw [partV_yes rfl]; omega
    · have := ih h; omega
theorem CapN.put {L B : Nat} {k : List Pc} (h : CapN L B k) (hL : L ≤ 4096) (hB : B ≤ 4096) : PutP k :=
  ⟨Nat.le_trans h.len hL, fun p hp x hx => by have h1 := runs_of_set hx; have h2 := h.own p hp x.rep; omega⟩
end Go.Proofs.YtopjhebhdopjpaaGreat

namespace Go.Proofs.YtopjhebhdopjpaaGreat

end Go.Proofs.YtopjhebhdopjpaaGreat

namespace Go.Proofs.YtopjhebhdopjpaaGreat
open Go.RowKit

set_option maxHeartbeats 400000 in
theorem clone_bytes (A : Option Addr) (c B : Nat) (l : List UInt8) (w : World) (h : RdB w B A c l) (hB : B ≤ w.heap.size) (hl : l.length ≤ 140737488355328) :
    Calls Tryz.prog 92 #[.slice A l.length c] w (RetB w.heap.size w l) := by
  have K1 := fun w : World => Lib.run_eql_slice_nil (P := Tryz.prog) w 25 5 A l.length c 0 0 Tryz.underlying25
  cases A with
  | none =>
    have hnil : l = [] := by
      rcases h.row with h | ⟨b, o, h, _⟩
      · simpa [bytes] using h
      · cases h
    have fin : RetB w.heap.size w l (.returned (.slice none 0 0)) w := ⟨_, rfl, by subst hnil; exact World.ownsRow_nil w _ _ _, Below.refl _ _⟩
    have FIN := Lib.hid fin
    clear fin hnil
    go_enter Tryz.func92, Tryz.ntmps92
    go_wp2
    go_ret
    exact FIN.out
  | some a =>
    have hz : OwnB (w.alloc (.cells #[] 5)) w.heap.size (.slice (some ⟨w.heap.size, 0, none⟩) 0 0) [] := own_none w 5 1
    have hle : w.heap.size ≤ (w.alloc (.cells #[] 5)).heap.size := by simp
    have hrow := h.row.keep (w' := w.alloc (.cells #[] 5)) (fun p hp => World.cell?_alloc_lt w _ p (by omega))
    have hm : ([] : List UInt8).length + l.length ≤ 140737488355328 := by simpa using hl
    have hbz : Below w.heap.size w (w.alloc (.cells #[] 5)) := (Below.refl _ _).alloc (Nat.le_refl _) _
    clear hl
    go_enter Tryz.func92, Tryz.ntmps92
    go_wp2_with (at_builtin; refine wpList_app_row rfl (.tmp 5) (.tmp 6) rfl w.heap.size (.slice (some ⟨w.heap.size, 0, none⟩) 0 0) [] rfl hz B (some a) c l.length l rfl rfl hrow hm hle ?_; intro v2 w2 hown2 _ hb2 _)
    go_ret
    exact ⟨v2, rfl, hown2, hbz.trans hb2⟩

set_option maxHeartbeats 400000 in
set_option maxRecDepth 100000 in
theorem put_own (base : Nat) (v : Value) (xs : List UInt8) (n : Nat) (w : World) (hn : n ≤ 9223372036854775807) (ho : OwnB w base v xs) (hb : base ≤ w.heap.size) (hl : xs.length + (putV n).length ≤ 140737488355328) :
    Calls Tryz.prog 93 #[v, .int .i64 (n : Int)] w (RetB base w (xs ++ putV n)) := by
  go_enter Tryz.func93, Tryz.ntmps93
  go_wp2
  go_loopw [0, 1] (fun a b wr => ∃ (ys : List UInt8) (m : Nat), m ≤ n ∧ OwnB wr base a ys ∧ ys ++ putV m = xs ++ putV n ∧ b = .int .i64 (m : Int) ∧ Below base w wr) (fun _ b _ => (intOf b).toNat)
  case atStart => exact ⟨xs, n, Nat.le_refl _, ho, rfl, rfl, Below.refl _ _⟩
  case round =>
    obtain ⟨ys, m, hmn, hown, heq, rfl, hbw⟩ := hrel
    have hbs : base ≤ wr.heap.size := Nat.le_trans hb hbw.size
    have hlen : ys.length + (putV m).length ≤ 140737488355328 := by rw [← List.length_append, heq, List.length_append]; exact hl
    have hm0 := putV_pos m
    have hle (o : Obj) : base ≤ (wr.alloc o).heap.size := by simp; omega
    by_cases hlt : m < 128
    · have hrow := byte_row wr (m : Int) (UInt8.ofNat m) (by simp; omega)
      have hl1 : ys.length + [UInt8.ofNat m].length ≤ 140737488355328 := by rw [putV_small hlt] at hlen; exact hlen
      rw [putV_small hlt] at heq
      have HEQ := Lib.hid heq
      have HA := fun o => Lib.hid (hown.alloc o)
      have HB := fun o => Lib.hid (hbw.alloc hbs o)
      clear heq hn hl ho hlen
      go_wp2_with (at_builtin; refine wpList_app_row rfl (.tmp 16) (.tmp 19) rfl base _ ys rfl (HA _).out _ _ 1 1 [UInt8.ofNat m] rfl rfl hrow hl1 (hle _) ?_; intro v2 w2 hown2 _ hb2 _)
      go_ret
      exact ⟨v2, rfl, by rw [← HEQ.out]; exact hown2, (HB _).out.trans hb2⟩
    · have hrow := byte_row wr ((m : Int) % 128 + 128) (UInt8.ofNat (m % 128 + 128)) (by simp; omega)
      have hl1 : ys.length + [UInt8.ofNat (m % 128 + 128)].length ≤ 140737488355328 := by simp; omega
      rw [putV_big hlt] at heq
      have HEQ := Lib.hid heq
      have HA := fun o => Lib.hid (hown.alloc o)
      have HB := fun o => Lib.hid (hbw.alloc hbs o)
      clear heq hl ho hlen
      go_wp2_with (at_builtin; refine wpList_app_row rfl (.tmp 7) (.tmp 12) rfl base _ ys rfl (HA _).out _ _ 1 1 [UInt8.ofNat (m % 128 + 128)] rfl rfl hrow hl1 (hle _) ?_; intro v2 w2 hown2 _ hb2 _)
      go_roundw
      case rel => exact ⟨ys ++ [UInt8.ofNat (m % 128 + 128)], m / 128, by omega, hown2, by rw [← HEQ.out]; simp, by go_num, (HB _).out.trans hb2⟩
      case measure => simp [intOf]; omega

def okN (n : Int) : Bool := decide (0 ≤ n ∧ n ≤ 281474976710656)
def okL (l : List Int) : Bool := l.all okN
theorem okL_bad {l : List Int} {k : Nat} (hk : k < l.length) (h : okN (l.getD k 0) = false) : okL l = false := by
  rw [okL, List.all_eq_false]
  refine ⟨l[k], List.getElem_mem hk, ?_⟩
  simpa [List.getD, List.getElem?_eq_getElem hk] using h
theorem okL_good {l : List Int} (h : ∀ j, j < l.length → okN (l.getD j 0) = true) : okL l = true := by
  rw [okL, List.all_eq_true]
  intro x hx
  obtain ⟨j, hj, rfl⟩ := List.getElem_of_mem hx
  simpa [List.getD, List.getElem?_eq_getElem hj] using h j hj
theorem okL_at {l : List Int} (h : okL l = true) {k : Nat} (hk : k < l.length) : 0 ≤ l.getD k 0 ∧ l.getD k 0 ≤ 281474976710656 := by
  rw [okL, List.all_eq_true] at h
  have := h l[k] (List.getElem_mem hk)
  simpa [okN, List.getD, List.getElem?_eq_getElem hk] using this
theorem take_snoc_int (l : List Int) (k : Nat) (h : k < l.length) : l.take (k + 1) = l.take k ++ [l.getD k 0] := by
  rw [List.take_succ_eq_append_getElem h]; simp [List.getD, List.getElem?_eq_getElem h]
theorem take_snoc_list (l : List (List UInt8)) (k : Nat) (h : k < l.length) : l.take (k + 1) = l.take k ++ [l.getD k []] := by
  rw [List.take_succ_eq_append_getElem h]; simp [List.getD, List.getElem?_eq_getElem h]
def RetB2 (base : Nat) (w : World) (l : List UInt8) (e : Ending) (w' : World) : Prop := ∃ v, e = .returned (.tuple #[v, .int .i64 0]) ∧ OwnB w' base v l ∧ Below base w w'
def PutPost (w : World) (b : List UInt8) (l : List Int) (e : Ending) (w' : World) : Prop :=
  (okL l = true ∧ RetB2 w.heap.size w (b ++ putsV l) e w') ∨ (okL l = false ∧ e = .returned (.tuple #[.slice none 0 0, .int .i64 2]) ∧ w = w')

set_option maxHeartbeats 1000000 in
set_option maxRecDepth 100000 in
theorem varint_put (A : Option Addr) (c B : Nat) (b : List UInt8) (A2 : Option Addr) (n2 c2 : Nat) (l : List Int) (w : World) (hn2 : n2 = l.length) (hb : RdB w B A c b) (hr : RowAt w B A2 (ints l)) (hall : AllI64 l) (hB : B ≤ w.heap.size)
    (hlen : b.length + 9 * l.length ≤ 140737488355328) :
    Calls Tryz.prog 62 #[.slice A b.length c, .slice A2 n2 c2] w (PutPost w b l) := by
  subst hn2
  have hb9 := putsV_len
  go_enter Tryz.func62, Tryz.ntmps62
  go_wp2
  go_loop [13] (fun i => ∃ k : Nat, k ≤ l.length ∧ (∀ j, j < k → okN (l.getD j 0) = true) ∧ i = .int .i64 k) (fun i => l.length - (intOf i).toNat)
  case atStart => exact ⟨0, by omega, fun j hj => by omega, rfl⟩
  case round =>
    obtain ⟨k, hk, hok, rfl⟩ := hrel
    have HOK := Lib.hid hok
    clear hok
    by_cases hlt : k < l.length
    · obtain ⟨b0, o0, rfl, _, hc⟩ := hr.ints_at (by omega)
      have hcell := hc k hlt
      have hbd := hall.at_ hlt
      have HBAD := fun h => Lib.hid (okL_bad hlt h)
      have HK : Hid (okN (l.getD k 0) = true → ∀ j, j < k + 1 → okN (l.getD j 0) = true) := fun h j hj => by
        rcases Nat.lt_or_ge j k with h' | h'
        · exact HOK.out j h'
        · obtain rfl : j = k := by omega
          exact h
      clear hc hall hb9
      obtain ⟨x, hx⟩ : ∃ x, l.getD k 0 = x := ⟨_, rfl⟩
      rw [hx] at hcell hbd HBAD HK
      clear hx
      by_cases h1 : x < 0
      · have fin := HBAD (by simp [okN]; omega)
        go_wp2
        go_ret2
        exact .inr ⟨fin.out, rfl, rfl⟩
      · by_cases h2 : 281474976710656 < x
        · have fin := HBAD (by simp [okN]; omega)
          go_wp2
          go_ret2
          exact .inr ⟨fin.out, rfl, rfl⟩
        · have nx := Lib.hid (HK.out (by simp [okN]; omega))
          clear HBAD HK HOK
          go_wp2
          go_round
          case rel => exact ⟨k + 1, by omega, nx.out, by go_num⟩
          case measure => simp [intOf]; omega
    · obtain rfl : k = l.length := by omega
      have HG := Lib.hid (okL_good HOK.out)
      have hcl := clone_bytes A c B b w hb hB (by omega)
      clear HOK hlt hk
      go_wp2_with fail
      refine hcl.mono ?_; rintro e w1 ⟨v1, rfl, hown1, hb1⟩
      clear hcl
      go_wp2_with fail
      go_loopw [8, 28] (fun v i wr => ∃ k : Nat, k ≤ l.length ∧ i = .int .i64 k ∧ OwnB wr w.heap.size v (b ++ putsV (l.take k)) ∧ Below w.heap.size w wr) (fun _ i _ => l.length - (intOf i).toNat)
      case atStart => exact ⟨0, by omega, rfl, by simpa [putsV] using hown1, hb1⟩
      case round =>
        obtain ⟨k, hk, rfl, hown, hbw⟩ := hrel
        by_cases hlt : k < l.length
        · obtain ⟨b0, o0, rfl, hb0, hc⟩ := hr.ints_at (by omega)
          have hcell := hc k hlt
          rw [← hbw.cell (p := ⟨b0, o0 + k, none⟩) (by show b0 < w.heap.size; omega)] at hcell
          have hx0 := okL_at HG.out hlt
          obtain ⟨m, hm⟩ := Int.eq_ofNat_of_zero_le hx0.1
          have hts := take_snoc_int l k hlt
          have hpl : (b ++ putsV (l.take k)).length + (putV m).length ≤ 140737488355328 := by
            have h1 := hb9 (l.take (k + 1)) (fun n hn => by have := hall n (List.mem_of_mem_take hn); omega)
            rw [hts, putsV_snoc, hm, Int.toNat_natCast, List.length_append, List.length_append, List.length_singleton, List.length_take] at h1
            rw [List.length_append]
            omega
          have hput := put_own w.heap.size _ (b ++ putsV (l.take k)) m wr (by omega) hown hbw.size hpl
          have HN : Hid (b ++ putsV (l.take (k + 1)) = b ++ putsV (l.take k) ++ putV m) := by
            rw [hts, putsV_snoc, hm, Int.toNat_natCast, List.append_assoc]; exact rfl
          rw [hm] at hcell
          clear hc hall hb9 hm hts hown1 hpl hx0 hown
          go_wp2_with fail
          refine hput.mono ?_; rintro e w2 ⟨v2, rfl, hown2, hb2⟩
          clear hput
          go_wp2_with fail
          go_roundw
          case rel => exact ⟨k + 1, by omega, by go_num, by rw [HN.out]; exact hown2, hbw.trans hb2⟩
          case measure => simp [intOf]; omega
        · obtain rfl : k = l.length := by omega
          rw [List.take_length] at hown
          clear hall hb9 hown1
          go_wp2
          go_ret2
          exact .inl ⟨HG.out, _, rfl, hown, hbw⟩

def textsV (l : List (List UInt8)) : List UInt8 := l.flatMap fun s => putV s.length ++ s
theorem textsV_snoc (l : List (List UInt8)) (s : List UInt8) : textsV (l ++ [s]) = textsV l ++ (putV s.length ++ s) := by simp [textsV]
theorem textsV_append (a b : List (List UInt8)) : textsV (a ++ b) = textsV a ++ textsV b := by simp [textsV]
theorem textsV_take (l : List (List UInt8)) (k : Nat) : (textsV (l.take k)).length ≤ (textsV l).length := by
  have := congrArg (fun t => (textsV t).length) (List.take_append_drop k l)
  simp only [textsV_append, List.length_append] at this
  omega

set_option maxHeartbeats 1000000 in
set_option maxRecDepth 100000 in
theorem varint_text (A : Option Addr) (c B : Nat) (b : List UInt8) (A2 : Option Addr) (n2 c2 : Nat) (l : List (List UInt8)) (w : World) (hn2 : n2 = l.length) (hl2 : l.length ≤ 9223372036854775807) (hb : RdB w B A c b) (hr : RowAt w B A2 (strs l)) (hB : B ≤ w.heap.size)
    (hlen : b.length + (textsV l).length ≤ 140737488355328) :
    Calls Tryz.prog 64 #[.slice A b.length c, .slice A2 n2 c2] w (RetB w.heap.size w (b ++ textsV l)) := by
  subst hn2
  have hcl := clone_bytes A c B b w hb hB (by omega)
  have HLEN := Lib.hid hlen
  clear hlen
  go_enter Tryz.func64, Tryz.ntmps64
  go_wp2_with fail
  refine hcl.mono ?_; rintro e w1 ⟨v1, rfl, hown1, hb1⟩
  clear hcl
  go_wp2_with fail
  go_loopw [5, 12] (fun v i wr => ∃ k : Nat, k ≤ l.length ∧ i = .int .i64 k ∧ OwnB wr w.heap.size v (b ++ textsV (l.take k)) ∧ Below w.heap.size w wr) (fun _ i _ => l.length - (intOf i).toNat)
  case atStart => exact ⟨0, by omega, rfl, by simpa [textsV] using hown1, hb1⟩
  case round =>
    obtain ⟨k, hk, rfl, hown, hbw⟩ := hrel
    by_cases hlt : k < l.length
    · obtain ⟨b0, o0, rfl, hb0, hc⟩ := hr.strs_at (by omega)
      have hcell := hc k hlt
      rw [← hbw.cell (p := ⟨b0, o0 + k, none⟩) (by show b0 < w.heap.size; omega)] at hcell
      have hts := take_snoc_list l k hlt
      have hpl : (b ++ textsV (l.take k)).length + ((putV (l.getD k []).length).length + (l.getD k []).length) ≤ 140737488355328 := by
        have h1 := textsV_take l (k + 1)
        have h2 := HLEN.out
        rw [hts, textsV_snoc, List.length_append, List.length_append] at h1
        rw [List.length_append]
        omega
      have HN : Hid (b ++ textsV (l.take (k + 1)) = (b ++ textsV (l.take k) ++ putV (l.getD k []).length) ++ l.getD k []) := by
        rw [hts, textsV_snoc]; simp [Hid]
      obtain ⟨x, hx⟩ : ∃ x, l.getD k [] = x := ⟨_, rfl⟩
      rw [hx] at hcell hpl HN
      have hput := put_own w.heap.size _ (b ++ textsV (l.take k)) x.length wr (by omega) hown hbw.size (by omega)
      have hl3 : (b ++ textsV (l.take k) ++ putV x.length).length + (str x).data.toList.length ≤ 140737488355328 := by rw [str_data, List.length_append]; omega
      have hsz := str_size x
      rw [← hsz] at hput
      have HSZ := Lib.hid hsz
      have hx63 : (str x).size ≤ 9223372036854775807 := by rw [hsz]; omega
      clear hc hx hts hown1 hpl hown hsz
      go_wp2_with fail
      refine hput.mono ?_; rintro e w2 ⟨v2, rfl, hown2, hb2⟩
      clear hput
      rw [HSZ.out] at hown2
      have hs2 : w.heap.size ≤ w2.heap.size := Nat.le_trans hbw.size hb2.size
      go_wp2_with (at_builtin; refine wpList_app_str rfl (.tmp 19) (.tmp 20) rfl w.heap.size v2 _ rfl hown2 (str x) rfl hl3 hs2 ?_; intro v3 w3 hown3 _ hb3)
      go_roundw
      case rel => exact ⟨k + 1, by omega, by go_num, by rw [HN.out]; rw [str_data] at hown3; exact hown3, (hbw.trans hb2).trans hb3⟩
      case measure => simp [intOf]; omega
    · obtain rfl : k = l.length := by omega
      rw [List.take_length] at hown
      clear hown1
      go_wp2
      go_ret
      exact ⟨_, rfl, hown, hbw⟩
end Go.Proofs.YtopjhebhdopjpaaGreat

namespace Go.Proofs.YtopjhebhdopjpaaGreat
open Go.RowKit

theorem get_str (l : List UInt8) (k : Nat) (h : k < (str l).size) : (str l)[k] = l.getD k 0 := str_get l k (by rw [← str_size]; exact h)

theorem pow_seven (k : Nat) : (2 : Int) ^ (7 * k) = ((128 ^ k : Nat) : Int) := by
  have e : (128 : Nat) ^ k = 2 ^ (7 * k) := by rw [Nat.pow_mul]
  rw [e]; simp

set_option maxHeartbeats 1000000 in
set_option maxRecDepth 100000 in
theorem varint_cut (l : List UInt8) (w : World) (hl : l.length ≤ 9223372036854775807) :
    Calls Tryz.prog 151 #[.string (str l)] w fun e w' => e = .returned (.tuple #[.int .i64 (cutV l).1, .int .i64 (cutV l).2.1, .int .i64 (cutV l).2.2]) ∧ w = w' := by
  have hsz := str_size l
  have hl2 : (str l).size ≤ 9223372036854775807 := by omega
  obtain ⟨s, hs⟩ : ∃ s, str l = s := ⟨_, rfl⟩
  have HG := Lib.hid (get_str l)
  rw [hs] at hsz hl2 HG
  rw [hs]
  have HSZ := Lib.hid hsz
  clear hsz hs
  by_cases h8 : s.size < 8
  all_goals
    go_enter Tryz.func151, Tryz.ntmps151
    go_wp2
  all_goals
    go_loop [5, 10] (fun n i => ∃ k : Nat, k ≤ s.size ∧ k ≤ 8 ∧ Lead l k ∧ i = .int .i64 k ∧ n = .int .i64 (valV (l.take k) : Nat)) (fun _ i => 8 - (intOf i).toNat)
    case atStart => exact ⟨0, by omega, by omega, Lead.zero l, rfl, rfl⟩
    case round =>
      obtain ⟨k, hk, hk8, hlead, rfl, rfl⟩ := hrel
      by_cases hlt : k < s.size ∧ k < 8
      · obtain ⟨hlt1, hlt2⟩ := hlt
        have hltl : k < l.length := by rw [← HSZ.out]; exact hlt1
        have hg := HG.out k hlt1
        have hv := valV_take_lt l k hk8
        have hvn := valV_take l k hltl
        have hv2 := valV_take_lt l (k + 1) (by omega)
        have NX := fun h => Lib.hid (hlead.next hltl h)
        have FB := fun h1 h2 => Lib.hid (cut_bad hlead hltl hlt2 h1 h2)
        have FG := fun h1 h2 => Lib.hid (cut_good hlead hltl hlt2 h1 h2)
        obtain ⟨c, hc⟩ : ∃ c, l.getD k 0 = c := ⟨_, rfl⟩
        have hsh : ((c.toNat : Int) % 128) * 2 ^ (7 * k) = ((c.toNat % 128 * 128 ^ k : Nat) : Int) := by rw [pow_seven]; simp
        obtain ⟨m, hm⟩ : ∃ m : Nat, c.toNat % 128 * 128 ^ k = m := ⟨_, rfl⟩
        rw [hc] at hg hvn NX FB FG
        rw [hm] at hvn hsh
        obtain ⟨n', hn'⟩ : ∃ n' : Nat, valV (l.take (k + 1)) = n' := ⟨_, rfl⟩
        rw [hn'] at hv2 hvn FB FG
        have HN' := Lib.hid hn'
        clear hc hm hlead hn'
        generalize valV (l.take k) = n at *
        have e2 : (n : Int) + m = (n' : Int) := by omega
        clear hvn
        by_cases h1 : 128 ≤ c.toNat
        · have nx := NX h1
          go_wp2
          go_round
          case rel => exact ⟨k + 1, by omega, by omega, nx.out, by go_num, by rw [HN'.out]⟩
          case measure => simp [intOf]; omega
        · by_cases h2 : 0 < k
          · by_cases h3 : c.toNat = 0
            · have fin := FB (by omega) (.inl ⟨h2, h3⟩)
              obtain rfl : c = 0 := UInt8.toNat_inj.1 h3
              clear hsh FB FG NX h3
              go_wp2
              go_ret3
              exact ⟨by rw [fin.out]; rfl, rfl⟩
            · have h3' : ((c.toNat : Int) == 0) = false := by simpa using h3
              by_cases h4 : 281474976710656 < n'
              · have fin := FB (by omega) (.inr h4)
                clear FB FG NX
                go_wp2
                go_ret3
                exact ⟨by rw [fin.out]; rfl, rfl⟩
              · have fin := FG (by omega) (by omega)
                clear FB FG NX
                go_wp2
                go_ret3
                exact ⟨by rw [fin.out]; rfl, rfl⟩
          · by_cases h4 : 281474976710656 < n'
            · have fin := FB (by omega) (.inr h4)
              clear FB FG NX
              go_wp2
              go_ret3
              exact ⟨by rw [fin.out]; rfl, rfl⟩
            · have fin := FG (by omega) (by omega)
              clear FB FG NX
              go_wp2
              go_ret3
              exact ⟨by rw [fin.out]; rfl, rfl⟩
      · by_cases h9 : s.size < 8
        · first
            | exact absurd h9 h8
            | (have fin := Lib.hid (cut_short (l := l) (by rw [← HSZ.out]; rwa [show k = s.size by omega] at hlead) (by rw [← HSZ.out]; exact h9))
               go_wp2
               go_ret3
               exact ⟨by rw [fin.out]; rfl, rfl⟩)
        · first
            | exact absurd h8 h9
            | (have fin := Lib.hid (cut_eight (l := l) (by rwa [show k = 8 by omega] at hlead))
               go_wp2
               go_ret3
               exact ⟨by rw [fin.out]; rfl, rfl⟩)

end Go.Proofs.YtopjhebhdopjpaaGreat

namespace Go.Proofs.YtopjhebhdopjpaaGreat
open Go.RowKit

def RdAt (w : World) (b : Nat) (l : List UInt8) (e : Int) : Prop := w.heap[b]? = some (.cells #[.string (str l), .int .i64 e] 121 (0, 0))
theorem RdAt.lt {w : World} {b : Nat} {l : List UInt8} {e : Int} (h : RdAt w b l e) : b < w.heap.size := lt_of_block h
theorem RdAt.cells {w : World} {b : Nat} {l : List UInt8} {e : Int} (h : RdAt w b l e) :
    w.cell? ⟨b, 0, none⟩ = some (.string (str l)) ∧ w.cell? ⟨b, 1, none⟩ = some (.int .i64 e) ∧ w.frozen? ⟨b, 0, none⟩ = false ∧ w.frozen? ⟨b, 1, none⟩ = false := by
  have h : w.heap[b]? = _ := h
  refine ⟨?_, ?_, ?_, ?_⟩ <;> simp [World.cell?, World.frozen?, h]
theorem RdAt.kept {w w' : World} {b : Nat} {l : List UInt8} {e : Int} {row : Option Nat} (h : RdAt w b l e) (hg : w.grownBy w' row) (hne : some b ≠ row) : RdAt w' b l e := (hg.block b h.lt hne).trans h
theorem RdAt.below {w w' : World} {b B : Nat} {l : List UInt8} {e : Int} (h : RdAt w b l e) (hb : Below B w w') (hB : b < B) : RdAt w' b l e := (hb.block b hB).trans h
theorem RdAt.setText {w : World} {b : Nat} {l : List UInt8} {e : Int} (h : RdAt w b l e) (l' : List UInt8) : RdAt (w.setCell ⟨b, 0, none⟩ (.string (str l'))) b l' e := heap_setCell_self h _
theorem RdAt.setErr {w : World} {b : Nat} {l : List UInt8} {e : Int} (h : RdAt w b l e) (e' : Int) : RdAt (w.setCell ⟨b, 1, none⟩ (.int .i64 e')) b l e' := heap_setCell_self h _

def RdPost (w : World) (b : Nat) (v : Value) (l : List UInt8) (e : Int) (x : Ending) (w' : World) : Prop := x = .returned v ∧ RdAt w' b l e ∧ w.grownBy w' (some b)
theorem RdPost.mk {w w' : World} {b : Nat} {v v' : Value} {l l' : List UInt8} {e e' : Int} (h : RdAt w' b l' e') (hg : w.grownBy w' (some b)) (hv : v' = v) (hl : l' = l) (he : e' = e) : RdPost w b v l e (.returned v') w' := by
  subst hv hl he; exact ⟨rfl, h, hg⟩

set_option maxHeartbeats 400000 in
theorem varint_new (A : Option Addr) (c B : Nat) (l : List UInt8) (w : World) (h : RdB w B A c l) :
    Calls Tryz.prog 54 #[.slice A l.length c] w fun e w' => e = .returned (.pointer (some ⟨w.heap.size, 0, none⟩)) ∧ RdAt w' w.heap.size l 0 ∧ Below w.heap.size w w' := by
  have K1 := conv_str (P := Tryz.prog) c 25 5 9 Tryz.underlying25 Tryz.underlying5 Tryz.underlying9 h.row
  go_enter Tryz.func54, Tryz.ntmps54
  go_wp2
  go_ret
  exact ⟨rfl, heap_new _ _ _ rfl, (Below.refl _ _).alloc (Nat.le_refl _) _⟩

set_option maxHeartbeats 400000 in
theorem given_some (a : Addr) (w : World) :
    Calls Tryz.prog 106 #[.pointer (some a)] w fun e w' => e = .returned (.pointer (some a)) ∧ w = w' := by
  go_enter Tryz.func106, Tryz.ntmps106
  go_wp2
  go_ret
  exact ⟨rfl, rfl⟩
set_option maxHeartbeats 400000 in
theorem numbers_fail (b : Nat) (l : List UInt8) (e x e2 : Int) (w : World) (h : RdAt w b l e) (h2 : e2 = if e = 0 then x else e) :
    Calls Tryz.prog 152 #[.pointer (some ⟨b, 0, none⟩), .int .i64 x] w (RdPost w b (.tuple #[]) l e2) := by
  obtain ⟨c0, c1, z0, z1⟩ := h.cells
  have H := Lib.hid h
  clear h
  by_cases he : e = 0
  · subst he
    rw [if_pos rfl] at h2
    subst h2
    go_enter Tryz.func152, Tryz.ntmps152
    go_wp2
    go_end0
    exact ⟨rfl, H.out.setErr _, grownBy_set _ _ _ _⟩
  · rw [if_neg he] at h2
    subst h2
    go_enter Tryz.func152, Tryz.ntmps152
    go_wp2
    go_end0
    exact ⟨rfl, H.out, World.grownBy.refl _ _⟩

set_option maxHeartbeats 400000 in
theorem numbers_undo (b : Nat) (l l' : List UInt8) (e x e2 : Int) (w : World) (h : RdAt w b l e) (h2 : e2 = if e = 0 then x else e) :
    Calls Tryz.prog 127 #[.pointer (some ⟨b, 0, none⟩), .string (str l'), .int .i64 x] w (RdPost w b (.tuple #[]) l' e2) := by
  obtain ⟨c0, c1, z0, z1⟩ := h.cells
  have hf := numbers_fail b l' e x e2 _ (h.setText l') h2
  clear h h2
  go_enter Tryz.func127, Tryz.ntmps127
  go_wp2_with fail
  refine hf.mono ?_; rintro y w1 ⟨rfl, hr, hg⟩
  clear hf
  go_wp2
  go_end0
  exact ⟨rfl, hr, (grownBy_set _ _ _ _).trans hg⟩

set_option maxHeartbeats 400000 in
theorem numbers_number (b : Nat) (l : List UInt8) (e : Int) (w : World) (h : RdAt w b l e) (hl : l.length ≤ 9223372036854775807) :
    Calls Tryz.prog 126 #[.pointer (some ⟨b, 0, none⟩)] w (RdPost w b (.int .i64 (numR l e).1) (numR l e).2.1 (numR l e).2.2) := by
  obtain ⟨c0, c1, z0, z1⟩ := h.cells
  by_cases he : e = 0
  · subst he
    have hcut := varint_cut l w hl
    have hle := cutV_le l
    have hnum : numR l 0 = ((cutV l).1, l.drop (cutV l).2.1, ((cutV l).2.2 : Int)) := by
      unfold numR
      by_cases hx : (cutV l).2.2 = 0
      · rw [if_pos rfl, if_pos hx, hx]; rfl
      · have := cutV_err hx
        rw [if_pos rfl, if_neg hx, this.1, this.2]; simp
    obtain ⟨n, hn⟩ : ∃ n, (cutV l).1 = n := ⟨_, rfl⟩
    obtain ⟨k, hk⟩ : ∃ k, (cutV l).2.1 = k := ⟨_, rfl⟩
    obtain ⟨x, hx⟩ : ∃ x, (cutV l).2.2 = x := ⟨_, rfl⟩
    rw [hn, hk, hx] at hcut hnum
    rw [hk] at hle
    rw [hnum]
    have hsz := str_size l
    have hdrop := str_drop l k
    rw [← hsz] at hle hdrop
    have hf := numbers_fail b l 0 x x w h (by rw [if_pos rfl])
    have HD := Lib.hid hdrop
    have hs63 : (str l).size ≤ 9223372036854775807 := by omega
    clear h hn hk hx hnum hdrop hsz
    go_enter Tryz.func126, Tryz.ntmps126
    go_wp2_with fail
    refine hcut.mono ?_; rintro y w1 ⟨rfl, rfl⟩
    clear hcut
    go_wp2_with fail
    refine hf.mono ?_; rintro y w1 ⟨rfl, hr, hg⟩
    clear hf c0 c1 z0 z1
    obtain ⟨c0, c1, z0, z1⟩ := hr.cells
    have H := Lib.hid hr
    clear hr
    go_wp2
    go_ret
    exact ⟨rfl, by rw [HD.out]; exact H.out.setText _, hg.trans (grownBy_set _ _ _ _)⟩
  · rw [numR_err he]
    have H := Lib.hid h
    clear h
    go_enter Tryz.func126, Tryz.ntmps126
    go_wp2
    go_ret
    exact ⟨rfl, H.out, World.grownBy.refl _ _⟩
end Go.Proofs.YtopjhebhdopjpaaGreat

namespace Go.Proofs.YtopjhebhdopjpaaGreat
open Go.RowKit

def GivenAt (pv : Value) (w : World) (b : Nat) (l : List UInt8) (e : Int) : Prop := Calls Tryz.prog 106 #[pv] w (RdPost w b (.pointer (some ⟨b, 0, none⟩)) l e)
theorem givenAt_some {w : World} {b : Nat} {l : List UInt8} {e : Int} (h : RdAt w b l e) : GivenAt (.pointer (some ⟨b, 0, none⟩)) w b l e :=
  (given_some _ w).mono fun _ _ ⟨hy, hw⟩ => by subst hw; exact ⟨hy, h, World.grownBy.refl _ _⟩
set_option maxHeartbeats 400000 in
theorem rd_number {pv : Value} {w : World} {b : Nat} {l : List UInt8} {e : Int} (hv : GivenAt pv w b l e) (hl : l.length ≤ 9223372036854775807) :
    Calls Tryz.prog 165 #[pv] w (RdPost w b (.int .i64 (numR l e).1) (numR l e).2.1 (numR l e).2.2) := by
  go_enter Tryz.func165, Tryz.ntmps165
  go_wp2_with fail
  refine Calls.mono hv ?_; rintro y w1 ⟨rfl, hr, hg⟩
  clear hv
  go_wp2_with fail
  refine (numbers_number b l e w1 hr hl).mono ?_; rintro y w2 ⟨rfl, hr2, hg2⟩
  go_wp2
  go_ret
  exact ⟨rfl, hr2, hg.trans hg2⟩

set_option maxHeartbeats 400000 in
theorem rd_err {pv : Value} {w : World} {b : Nat} {l : List UInt8} {e : Int} (hv : GivenAt pv w b l e) :
    Calls Tryz.prog 108 #[pv] w (RdPost w b (.int .i64 e) l e) := by
  go_enter Tryz.func108, Tryz.ntmps108
  go_wp2_with fail
  refine Calls.mono hv ?_; rintro y w1 ⟨rfl, hr, hg⟩
  clear hv
  obtain ⟨c0, c1, z0, z1⟩ := hr.cells
  have H := Lib.hid hr
  clear hr
  go_wp2
  go_ret
  exact ⟨rfl, H.out, hg⟩

set_option maxHeartbeats 400000 in
theorem rd_end {pv : Value} {w : World} {b : Nat} {l : List UInt8} {e : Int} (hv : GivenAt pv w b l e) :
    Calls Tryz.prog 82 #[pv] w (RdPost w b (.int .i64 (endR l e)) l e) := by
  have hsz := str_toList l
  by_cases he : e = 0
  · by_cases hl : l = []
    · have fin : endR l e = 0 := by unfold endR; rw [if_neg (by simp [hl])]; exact he
      subst he
      rw [fin]
      have h1 : (str l).toList = [] := by rw [hsz]; exact hl
      have h2 : (str l).toList.isEmpty = true := by rw [h1]; rfl
      clear hl fin hsz
      go_enter Tryz.func82, Tryz.ntmps82
      go_wp2_with fail
      refine Calls.mono hv ?_; rintro y w1 ⟨rfl, hr, hg⟩
      clear hv
      obtain ⟨c0, c1, z0, z1⟩ := hr.cells
      have H := Lib.hid hr
      clear hr
      go_wp2
      go_ret
      exact ⟨rfl, H.out, hg⟩
    · have fin : endR l e = 14 := by unfold endR; rw [if_pos ⟨he, hl⟩]
      subst he
      rw [fin]
      have h1 : ((str l).toList == []) = false := by rw [hsz]; simp [hl]
      have h2 : (str l).toList.isEmpty = false := by rw [hsz]; simp [hl]
      clear hl fin hsz
      go_enter Tryz.func82, Tryz.ntmps82
      go_wp2_with fail
      refine Calls.mono hv ?_; rintro y w1 ⟨rfl, hr, hg⟩
      clear hv
      obtain ⟨c0, c1, z0, z1⟩ := hr.cells
      have H := Lib.hid hr
      clear hr
      go_wp2
      go_ret
      exact ⟨rfl, H.out, hg⟩
  · have fin : endR l e = e := by unfold endR; rw [if_neg (by simp [he])]
    rw [fin]
    have h1 : (e == 0) = false := by simpa using he
    clear fin hsz
    go_enter Tryz.func82, Tryz.ntmps82
    go_wp2_with fail
    refine Calls.mono hv ?_; rintro y w1 ⟨rfl, hr, hg⟩
    clear hv
    obtain ⟨c0, c1, z0, z1⟩ := hr.cells
    have H := Lib.hid hr
    clear hr
    go_wp2
    go_ret
    exact ⟨rfl, H.out, hg⟩

set_option maxHeartbeats 1000000 in
theorem rd_within {pv : Value} {w : World} {b : Nat} {l : List UInt8} {e : Int} (hv : GivenAt pv w b l e) (lo hi : Int) (hl : l.length ≤ 9223372036854775807) :
    Calls Tryz.prog 107 #[pv, .int .i64 lo, .int .i64 hi] w (RdPost w b (.int .i64 (withinR lo hi l e).1) (withinR lo hi l e).2.1 (withinR lo hi l e).2.2) := by
  obtain ⟨n, hn⟩ : ∃ n, (numR l e).1 = n := ⟨_, rfl⟩
  obtain ⟨l1, hl1⟩ : ∃ l1, (numR l e).2.1 = l1 := ⟨_, rfl⟩
  obtain ⟨e1, he1⟩ : ∃ e1, (numR l e).2.2 = e1 := ⟨_, rfl⟩
  have hnum := fun w1 hr => numbers_number b l e w1 hr hl
  rw [hn, hl1, he1] at hnum
  by_cases hin : (n : Int) < lo ∨ hi < (n : Int)
  · have fin : withinR lo hi l e = (0, l, if e1 = 0 then 11 else e1) := by unfold withinR; rw [hn, he1, if_pos hin]
    obtain ⟨e2, he2⟩ : ∃ e2, e2 = if e1 = 0 then 11 else e1 := ⟨_, rfl⟩
    rw [fin, ← he2]
    have HE2 := Lib.hid he2
    clear hn hl1 he1 fin he2
    by_cases h1 : (n : Int) < lo
    all_goals
      go_enter Tryz.func107, Tryz.ntmps107
      go_wp2_with fail
      refine Calls.mono hv ?_; rintro y w1 ⟨rfl, hr, hg⟩
      clear hv
      obtain ⟨c0, c1, z0, z1⟩ := hr.cells
      have H := Lib.hid hr
      clear hr
      go_wp2_with fail
      refine (hnum w1 H.out).mono ?_; rintro y w2 ⟨rfl, hr2, hg2⟩
      clear hnum c0 c1 z0 z1
      have HU := Lib.hid (numbers_undo b l1 l e1 11 e2 w2 hr2 HE2.out)
      clear hr2
      have h2 : ¬ (n : Int) < lo → hi < (n : Int) := fun h => by omega
      go_wp2_with fail
      refine HU.out.mono ?_; rintro y w3 ⟨rfl, hr3, hg3⟩
      go_wp2
      go_ret
      exact ⟨rfl, hr3, (hg.trans hg2).trans hg3⟩
  · have fin : withinR lo hi l e = (n, l1, e1) := by unfold withinR; rw [hn, if_neg hin, ← hn, ← hl1, ← he1]
    rw [fin]
    clear hn hl1 he1 fin
    have h1 : ¬ (n : Int) < lo := by omega
    have h2 : ¬ hi < (n : Int) := by omega
    clear hin
    go_enter Tryz.func107, Tryz.ntmps107
    go_wp2_with fail
    refine Calls.mono hv ?_; rintro y w1 ⟨rfl, hr, hg⟩
    clear hv
    obtain ⟨c0, c1, z0, z1⟩ := hr.cells
    have H := Lib.hid hr
    clear hr
    go_wp2_with fail
    refine (hnum w1 H.out).mono ?_; rintro y w2 ⟨rfl, hr2, hg2⟩
    clear hnum c0 c1 z0 z1
    have H2 := Lib.hid hr2
    clear hr2
    go_wp2
    go_ret
    exact ⟨rfl, H2.out, hg.trans hg2⟩

def boolR (l : List UInt8) (e : Int) : Bool := decide ((withinR 0 1 l e).1 = 1)
set_option maxHeartbeats 400000 in
theorem rd_bool {pv : Value} {w : World} {b : Nat} {l : List UInt8} {e : Int} (hv : GivenAt pv w b l e) (hl : l.length ≤ 9223372036854775807) :
    Calls Tryz.prog 129 #[pv] w (RdPost w b (.bool (boolR l e)) (withinR 0 1 l e).2.1 (withinR 0 1 l e).2.2) := by
  have hw := rd_within hv 0 1 hl
  have hb : boolR l e = decide ((withinR 0 1 l e).1 = 1) := rfl
  generalize boolR l e = r at *
  obtain ⟨n, hn⟩ : ∃ n, (withinR 0 1 l e).1 = n := ⟨_, rfl⟩
  rw [hn] at hw hb
  generalize (withinR 0 1 l e).2.1 = l1 at *
  generalize (withinR 0 1 l e).2.2 = e1 at *
  clear hn hv
  by_cases h1 : n = 1
  · subst h1
    obtain rfl : r = true := by rw [hb]; rfl
    clear hb
    go_enter Tryz.func129, Tryz.ntmps129
    go_wp2_with fail
    refine hw.mono ?_; rintro y w1 ⟨rfl, hr, hg⟩
    clear hw
    go_wp2
    go_ret
    exact ⟨rfl, hr, hg⟩
  · obtain rfl : r = false := by rw [hb]; simpa using h1
    clear hb
    have h2 : ((n : Int) == 1) = false := by simp; omega
    go_enter Tryz.func129, Tryz.ntmps129
    go_wp2_with fail
    refine hw.mono ?_; rintro y w1 ⟨rfl, hr, hg⟩
    clear hw
    go_wp2
    go_ret
    exact ⟨rfl, hr, hg⟩

set_option maxHeartbeats 1000000 in
theorem rd_text {pv : Value} {w : World} {b : Nat} {l : List UInt8} {e : Int} (hv : GivenAt pv w b l e) (most : Int) (hl : l.length ≤ 9223372036854775807) :
    Calls Tryz.prog 128 #[pv, .int .i64 most] w (RdPost w b (.string (str (textR most l e).1)) (textR most l e).2.1 (textR most l e).2.2) := by
  have hlen1 := withinR_len 0 most l e
  obtain ⟨n, hn⟩ : ∃ n, (withinR 0 most l e).1 = n := ⟨_, rfl⟩
  obtain ⟨l1, hl1⟩ : ∃ l1, (withinR 0 most l e).2.1 = l1 := ⟨_, rfl⟩
  obtain ⟨e1, he1⟩ : ∃ e1, (withinR 0 most l e).2.2 = e1 := ⟨_, rfl⟩
  have hwi := fun w1 (hr : RdAt w1 b l e) => rd_within (givenAt_some hr) 0 most hl
  have hdef : textR most l e = if l1.length < n then ([], l, if e1 = 0 then 10 else e1) else (l1.take n, l1.drop n, e1) := by unfold textR; rw [hn, hl1, he1]
  rw [hn, hl1, he1] at hwi
  rw [hl1] at hlen1
  rw [hdef]
  clear hdef hn hl1 he1
  have hsz := str_size l1
  have hs63 : (str l1).size ≤ 9223372036854775807 := by omega
  by_cases hin : l1.length < n
  · rw [if_pos hin]
    obtain ⟨e2, he2⟩ : ∃ e2, e2 = if e1 = 0 then 10 else e1 := ⟨_, rfl⟩
    rw [← he2]
    have HE2 := Lib.hid he2
    have h1 : (str l1).size < n := by omega
    clear he2 hin hsz
    go_enter Tryz.func128, Tryz.ntmps128
    go_wp2_with fail
    refine Calls.mono hv ?_; rintro y w1 ⟨rfl, hr, hg⟩
    clear hv
    obtain ⟨c0, c1, z0, z1⟩ := hr.cells
    have H := Lib.hid hr
    clear hr
    go_wp2_with fail
    refine (hwi w1 H.out).mono ?_; rintro y w2 ⟨rfl, hr2, hg2⟩
    clear hwi c0 c1 z0 z1
    obtain ⟨c0, c1, z0, z1⟩ := hr2.cells
    have HU := Lib.hid (numbers_undo b l1 l e1 10 e2 w2 hr2 HE2.out)
    clear hr2
    go_wp2_with fail
    refine HU.out.mono ?_; rintro y w3 ⟨rfl, hr3, hg3⟩
    clear c0 c1 z0 z1
    go_wp2
    go_ret
    exact ⟨rfl, hr3, (hg.trans hg2).trans hg3⟩
  · rw [if_neg hin]
    have h1 : n ≤ (str l1).size := by omega
    have HT := Lib.hid (str_take l1 n)
    have hd := str_drop l1 n
    rw [← hsz] at hd
    have HD := Lib.hid hd
    clear hd hin hsz
    go_enter Tryz.func128, Tryz.ntmps128
    go_wp2_with fail
    refine Calls.mono hv ?_; rintro y w1 ⟨rfl, hr, hg⟩
    clear hv
    obtain ⟨c0, c1, z0, z1⟩ := hr.cells
    have H := Lib.hid hr
    clear hr
    go_wp2_with fail
    refine (hwi w1 H.out).mono ?_; rintro y w2 ⟨rfl, hr2, hg2⟩
    clear hwi c0 c1 z0 z1
    obtain ⟨c0, c1, z0, z1⟩ := hr2.cells
    have H2 := Lib.hid hr2
    clear hr2
    go_wp2
    go_ret
    refine ⟨?_, ?_, (hg.trans hg2).trans (grownBy_set _ _ _ _)⟩
    · rw [← HT.out]; rfl
    · rw [HD.out]; exact H2.out.setText _
end Go.Proofs.YtopjhebhdopjpaaGreat

namespace Go.Proofs.YtopjhebhdopjpaaGreat
open Go.RowKit

def EqPost (a b : List UInt8) (w : World) (e : Ending) (w' : World) : Prop := e = .returned (.bool (decide (a = b))) ∧ ∃ n, w' = w.drewN n
theorem EqPost.no {a b : List UInt8} {w : World} {n : Nat} (h : a ≠ b) : EqPost a b w (.returned (.bool false)) (w.drewN n) := ⟨by simp [h], n, rfl⟩
theorem EqPost.yes {a b : List UInt8} {w : World} {n : Nat} (h : a = b) : EqPost a b w (.returned (.bool true)) (w.drewN n) := ⟨by simp [h], n, rfl⟩
set_option maxHeartbeats 400000 in
theorem ref_eq (A A2 : Option Addr) (c c2 n1 n2 B B2 : Nat) (a b : List UInt8) (w : World) (hn1 : n1 = a.length) (hn2 : n2 = b.length) (ha : RowAt w B A (bytes a)) (hb : RowAt w B2 A2 (bytes b)) (hl : a.length ≤ 9223372036854775807) :
    Calls Tryz.prog 11 #[.slice A n1 c, .slice A2 n2 c2] w (EqPost a b w) := by
  subst hn1 hn2
  by_cases hne : a.length = b.length
  · have HNE := Lib.hid hne
    have hne2 : b.length = a.length := by omega
    obtain ⟨n, hn⟩ : ∃ n, a.length = n := ⟨_, rfl⟩
    have hbn : b.length = n := by omega
    rw [hbn, hn]
    have HA := Lib.hid hn
    have HB := Lib.hid hbn
    rw [hn] at hl
    clear hne hne2 hn hbn
    go_enter Tryz.func11, Tryz.ntmps11
    go_wp2
    go_loopw [5] (fun i wr => ∃ k m : Nat, k ≤ n ∧ a.take k = b.take k ∧ i = .int .i64 k ∧ wr = w.drewN m) (fun i _ => n - (intOf i).toNat)
    case atStart => exact ⟨0, 0, by omega, rfl, rfl, rfl⟩
    case round =>
      obtain ⟨k, m, hk, heq, rfl, rfl⟩ := hrel
      have HEQ := Lib.hid heq
      clear heq
      by_cases hlt : k < n
      · obtain ⟨b1, o1, rfl, _, hc1⟩ := ha.bytes_at (by rw [HA.out]; omega)
        obtain ⟨b2, o2, rfl, _, hc2⟩ := hb.bytes_at (by rw [HB.out]; omega)
        have c1 := hc1 k (by rw [HA.out]; omega)
        have c2 := hc2 k (by rw [HB.out]; omega)
        have HT1 := Lib.hid (take_snoc_getD a k (by rw [HA.out]; omega))
        have HT2 := Lib.hid (take_snoc_getD b k (by rw [HB.out]; omega))
        have HN : Hid (a.getD k 0 ≠ b.getD k 0 → a ≠ b) := take_ne
        clear hc1 hc2
        obtain ⟨x, hx⟩ : ∃ x, a.getD k 0 = x := ⟨_, rfl⟩
        obtain ⟨y, hy⟩ : ∃ y, b.getD k 0 = y := ⟨_, rfl⟩
        rw [hx] at c1 HT1 HN
        rw [hy] at c2 HT2 HN
        clear hx hy
        by_cases hxy : x = y
        · subst hxy
          have nx : Hid (a.take (k + 1) = b.take (k + 1)) := by rw [HT1.out, HT2.out, HEQ.out]; exact rfl
          clear HN
          go_wp2
          go_quiet (fail)
          go_wp2
          go_roundw
          case rel => exact ⟨k + 1, _, by omega, nx.out, by go_num, rfl⟩
          case measure => simp [intOf]; omega
        · have fin := Lib.hid (HN.out hxy)
          have hxy' : ((x.toNat : Int) == y.toNat) = false := by
            simp only [beq_eq_false_iff_ne, ne_eq]
            intro h
            exact hxy (UInt8.toNat_inj.1 (by omega))
          clear HN hxy
          go_wp2
          go_quiet (fail)
          go_wp2
          go_ret
          exact ⟨by rw [decide_eq_false fin.out]; rfl, _, World.drewN_drewN ..⟩
      · obtain rfl : k = n := by omega
        have fin : Hid (a = b) := by
          have h := HEQ.out
          rw [List.take_of_length_le (by rw [HA.out]; omega), List.take_of_length_le (by rw [HB.out]; omega)] at h
          exact h
        go_wp2
        go_ret
        exact .yes fin.out
  · have fin : a ≠ b := fun e => hne (by rw [e])
    have FIN := Lib.hid fin
    have hne' : ((a.length : Int) == b.length) = false := by simp; omega
    clear fin hne
    go_enter Tryz.func11, Tryz.ntmps11
    go_wp2
    go_ret
    exact EqPost.no (n := 0) FIN.out
theorem ref_eq_same (A A2 : Option Addr) (c c2 m1 m2 B B2 : Nat) (a : List UInt8) (w : World) (hn1 : m1 = a.length) (hn2 : m2 = a.length) (ha : RowAt w B A (bytes a)) (hb : RowAt w B2 A2 (bytes a)) (hl : a.length ≤ 9223372036854775807) :
    Calls Tryz.prog 11 #[.slice A m1 c, .slice A2 m2 c2] w fun e w' => e = .returned (.bool true) ∧ w.grownBy w' none :=
  (ref_eq A A2 c c2 m1 m2 B B2 a a w hn1 hn2 ha hb hl).mono fun _ _ ⟨h1, _, h2⟩ => ⟨by rw [h1]; simp, grown_quiet h2⟩
end Go.Proofs.YtopjhebhdopjpaaGreat

namespace Go.Proofs.YtopjhebhdopjpaaGreat
open Go.RowKit

theorem ref_vright (n : Int) (w : World) : Calls Tryz.prog 105 #[.int .i64 n] w fun e w' => e = .returned (.bool (okN n)) ∧ w = w' := by
  have hd : okN n = decide (0 ≤ n ∧ n ≤ 281474976710656) := rfl
  generalize okN n = r at *
  by_cases h1 : 0 ≤ n
  · by_cases h2 : n ≤ 281474976710656
    · obtain rfl : r = true := by rw [hd]; simp [h1, h2]
      clear hd
      go_enter Tryz.func105, Tryz.ntmps105
      go_wp2
      go_ret
      exact ⟨rfl, rfl⟩
    · obtain rfl : r = false := by rw [hd]; simp [h2]
      clear hd
      go_enter Tryz.func105, Tryz.ntmps105
      go_wp2
      go_ret
      exact ⟨rfl, rfl⟩
  · obtain rfl : r = false := by rw [hd]; simp [h1]
    clear hd
    go_enter Tryz.func105, Tryz.ntmps105
    go_wp2
    go_ret
    exact ⟨rfl, rfl⟩

set_option maxHeartbeats 400000 in
set_option maxRecDepth 100000 in
theorem ref_bytes (k : Nat) : ∀ (n : Nat) (w : World), n ≤ k → n ≤ 9223372036854775807 → Calls Tryz.prog 44 #[.int .i64 (n : Int)] w (RetB w.heap.size w (putV n)) := by
  induction k with
  | zero =>
    intro n w hk hn
    obtain rfl : n = 0 := by omega
    have ho := own_one w 0 0 rfl
    have HO := Lib.hid ho
    have HP := Lib.hid (putV_small (n := 0) (by omega))
    clear ho
    go_enter Tryz.func44, Tryz.ntmps44
    go_wp2_with fail
    go_ret
    exact ⟨_, rfl, by rw [HP.out]; exact HO.out, (Below.refl _ _).alloc (Nat.le_refl _) _⟩
  | succ k ih =>
    intro n w hk hn
    by_cases hlt : n < 128
    · have HO := Lib.hid (own_one w (n : Int) (UInt8.ofNat n) (by simp; omega))
      have HP := Lib.hid (putV_small hlt)
      go_enter Tryz.func44, Tryz.ntmps44
      go_wp2_with fail
      go_ret
      exact ⟨_, rfl, by rw [HP.out]; exact HO.out, (Below.refl _ _).alloc (Nat.le_refl _) _⟩
    · have HO := Lib.hid (own_one w (128 + (n : Int) % 128) (UInt8.ofNat (n % 128 + 128)) (by simp; omega))
      have HP := Lib.hid (putV_big hlt)
      have hlen := putV_len10 (n / 128) (by omega)
      have hih := fun w1 => ih (n / 128) w1 (by omega) (by omega)
      have e1 : ((n / 128 : Nat) : Int) = (n : Int) / 128 := by omega
      rw [e1] at hih
      clear e1 hk
      go_enter Tryz.func44, Tryz.ntmps44
      go_wp2_with fail
      refine (hih _).mono ?_; rintro e w1 ⟨v1, rfl, hown1, hb1⟩
      clear hih
      have ho1 := HO.out.below hb1
      obtain ⟨A1, c1, rfl, hr1⟩ := hown1.read
      have hl1 : [UInt8.ofNat (n % 128 + 128)].length + (putV (n / 128)).length ≤ 140737488355328 := by simp; omega
      have hbb := ((Below.refl w.heap.size w).alloc (Nat.le_refl _) (.cells #[.int .u8 (128 + (n : Int) % 128)] 5)).trans (hb1.mono (by simp))
      have hs1 := hbb.size
      have HB := Lib.hid hbb
      clear hown1 hbb hb1 HO
      go_wp2_with (at_builtin; refine wpList_app_row rfl (.tmp 12) (.tmp 15) rfl w.heap.size _ [UInt8.ofNat (n % 128 + 128)] rfl ho1 _ A1 c1 _ (putV (n / 128)) rfl rfl hr1.row hl1 hs1 ?_; intro v2 w2 hown2 _ hb2 _)
      go_ret
      exact ⟨v2, rfl, by rw [HP.out]; exact hown2, HB.out.trans hb2⟩

set_option maxHeartbeats 1000000 in
set_option maxRecDepth 100000 in
theorem ref_vput (A : Option Addr) (n c : Nat) (l : List Int) (w : World) (hn : n = l.length) (hr : RowAt w w.heap.size A (ints l)) (hok : okL l = true) (hlen : l.length ≤ 1000000) :
    Calls Tryz.prog 75 #[.slice A n c] w (RetB w.heap.size w (putsV l)) := by
  subst hn
  have HK := Lib.hid hok
  have hown0 : OwnB w w.heap.size (.slice none 0 0) [] := World.ownsRow_nil _ _ _ _
  clear hok
  go_enter Tryz.func75, Tryz.ntmps75
  go_wp2
  go_loopw [3, 4] (fun v i wr => ∃ k : Nat, k ≤ l.length ∧ i = .int .i64 k ∧ OwnB wr w.heap.size v (putsV (l.take k)) ∧ Below w.heap.size w wr) (fun _ i _ => l.length - (intOf i).toNat)
  case atStart => exact ⟨0, by omega, rfl, hown0, Below.refl _ _⟩
  case round =>
    obtain ⟨k, hk, rfl, hown, hbw⟩ := hrel
    by_cases hlt : k < l.length
    · obtain ⟨b0, o0, rfl, hb0, hc⟩ := hr.ints_at (by omega)
      have hcell := hc k hlt
      rw [← hbw.cell (p := ⟨b0, o0 + k, none⟩) hb0] at hcell
      have hx0 := okL_at HK.out hlt
      obtain ⟨m, hm⟩ := Int.eq_ofNat_of_zero_le hx0.1
      have hts := take_snoc_int l k hlt
      have HN : Hid (putsV (l.take (k + 1)) = putsV (l.take k) ++ putV m) := by
        rw [hts, putsV_snoc, hm]; exact rfl
      have hmax : m ≤ 9223372036854775807 := by omega
      have h9 := putV_len10 m hmax
      have hp := putsV_len (l.take k) (fun x hx => by
        obtain ⟨j, hj, rfl⟩ := List.getElem_of_mem (List.mem_of_mem_take hx)
        have := (okL_at HK.out hj).2
        rw [List.getD, List.getElem?_eq_getElem hj] at this
        simp at this
        omega)
      have hpl : (putsV (l.take k)).length + (putV m).length ≤ 140737488355328 := by
        rw [List.length_take] at hp
        omega
      rw [hm] at hcell
      have hb := fun w1 => ref_bytes m m w1 (Nat.le_refl _) hmax
      clear hc hm hts hx0 hp h9 hown0
      go_wp2_with fail
      refine (hb _).mono ?_; rintro e w2 ⟨v2, rfl, hown2, hb2⟩
      clear hb
      have ho2 := hown.below hb2
      have hbw2 := hbw.trans (hb2.mono hbw.size)
      have hs2 := hbw2.size
      have HB := Lib.hid hbw2
      obtain ⟨A2, c2, rfl, hr2⟩ := hown2.read
      clear hown2 hown hb2 hbw2
      go_wp2_with (at_builtin; refine wpList_app_row rfl (.tmp 11) (.tmp 16) rfl w.heap.size _ _ rfl ho2 _ A2 c2 _ (putV m) rfl rfl hr2.row hpl hs2 ?_; intro v3 w3 hown3 _ hb3 _)
      go_roundw
      case rel => exact ⟨k + 1, by omega, by go_num, by rw [HN.out]; exact hown3, HB.out.trans hb3⟩
      case measure => simp [intOf]; omega
    · obtain rfl : k = l.length := by omega
      rw [List.take_length] at hown
      go_wp2
      go_ret
      exact ⟨_, rfl, hown, hbw⟩
end Go.Proofs.YtopjhebhdopjpaaGreat

namespace Go.Proofs.YtopjhebhdopjpaaGreat
open Go.RowKit

theorem right_no (n : Int) (w : World) (h : okN n = false) : Calls Tryz.prog 105 #[.int .i64 n] w fun e w' => e = .returned (.bool false) ∧ w = w' := by rw [← h]; exact ref_vright n w
theorem right_yes (n : Int) (w : World) (h : okN n = true) : Calls Tryz.prog 105 #[.int .i64 n] w fun e w' => e = .returned (.bool true) ∧ w = w' := by rw [← h]; exact ref_vright n w

def CutPost (l : List UInt8) (w : World) (e : Ending) (w' : World) : Prop := e = .returned (.tuple #[.int .i64 (cutV l).1, .int .i64 (cutV l).2.1, .int .i64 (cutV l).2.2]) ∧ w = w'
theorem CutPost.mk {l : List UInt8} {w : World} {a b c : Nat} (h : cutV l = (a, b, c)) : CutPost l w (.returned (.tuple #[.int .i64 a, .int .i64 b, .int .i64 c])) w := by unfold CutPost; rw [h]; exact ⟨rfl, rfl⟩

set_option maxHeartbeats 1000000 in
set_option maxRecDepth 100000 in
theorem ref_number (A : Option Addr) (n c B : Nat) (l : List UInt8) (w : World) (hn : n = l.length) (hr : RowAt w B A (bytes l)) (hl : l.length ≤ 9223372036854775807) :
    Calls Tryz.prog 80 #[.slice A n c] w (CutPost l w) := by
  subst hn
  go_enter Tryz.func80, Tryz.ntmps80
  go_wp2
  go_loop [5] (fun i => ∃ k : Nat, k ≤ l.length ∧ k ≤ 8 ∧ Lead l k ∧ i = .int .i64 k) (fun i => 8 - (intOf i).toNat)
  case atStart => exact ⟨0, by omega, by omega, Lead.zero l, rfl⟩
  case round =>
    obtain ⟨k, hk, hk8, hlead, rfl⟩ := hrel
    have HL := Lib.hid hlead
    clear hlead
    by_cases h8 : k = 8
    · subst h8
      have fin := Lib.hid (cut_eight HL.out)
      by_cases h9 : l.length = 8
      · have h9' : l.length ≤ 8 := by omega
        clear h9
        go_wp2
        go_ret3
        exact CutPost.mk (a := 0) (b := 0) (c := 11) fin.out
      · have h9' : 8 < l.length := by omega
        clear h9
        go_wp2
        go_ret3
        exact CutPost.mk (a := 0) (b := 0) (c := 11) fin.out
    · by_cases hlt : k < l.length
      · have hk7 : k < 8 := by omega
        obtain ⟨b0, o0, rfl, _, hc⟩ := hr.bytes_at (by omega)
        have hcell := hc k hlt
        have NX := fun h => Lib.hid (HL.out.next hlt h)
        have FB := fun h1 h2 => Lib.hid (cut_bad HL.out hlt hk7 h1 h2)
        have FG := fun h1 h2 => Lib.hid (cut_good HL.out hlt hk7 h1 h2)
        have HC := Lib.hid hc
        obtain ⟨x, hx⟩ : ∃ x, l.getD k 0 = x := ⟨_, rfl⟩
        rw [hx] at hcell NX FB FG
        clear hc hx h8
        by_cases h1 : 128 ≤ x.toNat
        · have nx := NX h1
          clear NX FB FG
          go_wp2
          go_round
          case rel => exact ⟨k + 1, by omega, by omega, nx.out, by go_num⟩
          case measure => simp [intOf]; omega
        · have HLEN : (l.take (k + 1)).length = k + 1 := by rw [List.length_take]; omega
          have HLEN := Lib.hid HLEN
          have hkl : ((k : Int) == l.length) = false := by simp; omega
          have hk8' : ((k : Int) == 8) = false := by simp; omega
          clear NX
          go_wp2
          go_loop [6, 7] (fun n i => ∃ j : Nat, j ≤ k + 1 ∧ i = .int .i64 ((j : Int) - 1) ∧ n = .int .i64 (valV ((l.take (k + 1)).drop j) : Nat)) (fun _ i => (intOf i + 1).toNat)
          case atStart =>
            refine ⟨k + 1, by omega, by go_num, ?_⟩
            rw [List.drop_of_length_le (by rw [HLEN.out]; omega)]
            rfl
          case round =>
            obtain ⟨j, hj, rfl, rfl⟩ := hrel
            cases j with
            | zero =>
              have hv0 := valV_take_lt l (k + 1) (by omega)
              rw [List.drop_zero]
              generalize valV (l.take (k + 1)) = v at *
              by_cases h2 : 0 < k
              · by_cases h3 : x.toNat = 0
                · have fin := FB (by omega) (.inl ⟨h2, h3⟩)
                  obtain rfl : x = 0 := UInt8.toNat_inj.1 h3
                  clear FB FG h3
                  by_cases h4 : okN (v : Int) = true
                  · go_wp2_with (go_at_call 105; refine (right_yes _ _ h4).mono ?_; rintro e w' ⟨rfl, rfl⟩)
                    go_ret3
                    exact CutPost.mk (a := 0) (b := 0) (c := 11) fin.out
                  · have h4 : okN (v : Int) = false := by simpa using h4
                    go_wp2_with (go_at_call 105; refine (right_no _ _ h4).mono ?_; rintro e w' ⟨rfl, rfl⟩)
                    go_ret3
                    exact CutPost.mk (a := 0) (b := 0) (c := 11) fin.out
                · have h3' : ((x.toNat : Int) == 0) = false := by simpa using h3
                  by_cases h4 : v ≤ 281474976710656
                  · have fin := FG (by omega) (by omega)
                    have h5 : okN (v : Int) = true := by simp [okN]; omega
                    clear FB FG h3
                    go_wp2_with (go_at_call 105; refine (right_yes _ _ h5).mono ?_; rintro e w' ⟨rfl, rfl⟩)
                    go_ret3
                    exact CutPost.mk (a := v) (b := k + 1) (c := 0) fin.out
                  · have fin := FB (by omega) (.inr (by omega))
                    have h5 : okN (v : Int) = false := by simp [okN]; omega
                    clear FB FG h3
                    go_wp2_with (go_at_call 105; refine (right_no _ _ h5).mono ?_; rintro e w' ⟨rfl, rfl⟩)
                    go_ret3
                    exact CutPost.mk (a := 0) (b := 0) (c := 11) fin.out
              · by_cases h4 : v ≤ 281474976710656
                · have fin := FG (by omega) (by omega)
                  have h5 : okN (v : Int) = true := by simp [okN]; omega
                  clear FB FG
                  go_wp2_with (go_at_call 105; refine (right_yes _ _ h5).mono ?_; rintro e w' ⟨rfl, rfl⟩)
                  go_ret3
                  exact CutPost.mk (a := v) (b := k + 1) (c := 0) fin.out
                · have fin := FB (by omega) (.inr (by omega))
                  have h5 : okN (v : Int) = false := by simp [okN]; omega
                  clear FB FG
                  go_wp2_with (go_at_call 105; refine (right_no _ _ h5).mono ?_; rintro e w' ⟨rfl, rfl⟩)
                  go_ret3
                  exact CutPost.mk (a := 0) (b := 0) (c := 11) fin.out
            | succ j =>
              have hcj := HC.out j (by omega)
              have hvd := valV_drop (l.take (k + 1)) j (by rw [HLEN.out]; omega)
              have hg : (l.take (k + 1)).getD j 0 = l.getD j 0 := by
                rw [List.getD, List.getD, List.getElem?_take, if_pos (by omega)]
              have hlt2 : valV ((l.take (k + 1)).drop j) < 72057594037927936 := by
                have h1 := valV_lt ((l.take (k + 1)).drop j)
                have h2 : 128 ^ ((l.take (k + 1)).drop j).length ≤ 128 ^ 8 := Nat.pow_le_pow_right (by decide) (by rw [List.length_drop, HLEN.out]; omega)
                have h3 : 128 ^ 8 = 72057594037927936 := by decide
                omega
              rw [hg] at hvd
              have ej : (((j + 1 : Nat) : Int) - 1) = (j : Int) := by omega
              rw [ej]
              obtain ⟨y, hy⟩ : ∃ y, l.getD j 0 = y := ⟨_, rfl⟩
              obtain ⟨u, hu⟩ : ∃ u, valV ((l.take (k + 1)).drop (j + 1)) = u := ⟨_, rfl⟩
              obtain ⟨v, hv⟩ : ∃ v, valV ((l.take (k + 1)).drop j) = v := ⟨_, rfl⟩
              rw [hu]
              rw [hy] at hcj hvd
              rw [hu, hv] at hvd
              rw [hv] at hlt2
              have HV := Lib.hid hv
              have e2 : 128 * (u : Int) + (y.toNat : Int) % 128 = (v : Int) := by omega
              have hb1 : 128 * (u : Int) ≤ 72057594037927936 := by omega
              have hy0 : (0 : Int) ≤ y.toNat := by omega
              have hy1 : (y.toNat : Int) < 256 := by have := y.toNat_lt; omega
              clear hu hv hy hg hvd FB FG ej
              go_wp2
              go_round
              case rel => exact ⟨j, by omega, by go_num, by rw [HV.out]⟩
              case measure => simp [intOf]
      · obtain rfl : k = l.length := by omega
        have fin := Lib.hid (cut_short HL.out (by omega))
        have h8' : ((l.length : Int) == 8) = false := by simp; omega
        clear h8
        go_wp2
        go_ret3
        exact CutPost.mk (a := 0) (b := 0) (c := 10) fin.out
end Go.Proofs.YtopjhebhdopjpaaGreat
