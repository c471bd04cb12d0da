/-
  Several texts in one: KdlB, Law17A, Law15B, Law15C, Law17B, BytRows, Law17C, RgsMrg, KnwMrg.
-/
import Derived.Test.YtopjhebhdopjpaaGreatMg10
namespace Go.Proofs.YtopjhebhdopjpaaGreat

theorem knowB_len2 {k : List Pc} {m L : Nat} (h : rightP k = true) (hl : k.length ≤ L) (hL : L ≤ 4096) (hm : ∀ p ∈ k, ∀ x ∈ p.set, x.runs.length ≤ m) (h9 : m ≤ 4096) : (knowB k).length ≤ 10 + L * (80 + 16 * (18 + 18 * m)) := by
  have h2 := fcd_flat_len pieceB (80 + 16 * (18 + 18 * m)) k fun p hp => by
    obtain ⟨g1, -, g3⟩ := onePc_iff.1 (rightP_all h p hp)
    have g4 := setB_len1 g3 (hm p hp) h9
    have g5 := rightR_lo g1
    have g6 := rightR_hi g1
    have t1 : (txtB p.rng.lo).length ≤ 26 := by have := putV_len10 p.rng.lo.length (by omega); unfold txtB; rw [List.length_append]; omega
    have t2 : (txtB p.rng.hi).length ≤ 26 := by have := putV_len10 p.rng.hi.length (by omega); unfold txtB; rw [List.length_append]; omega
    have t3 : (rngB p.rng).length ≤ 60 := by unfold rngB; rw [List.length_append]; cases p.rng.op <;> simp <;> omega
    unfold pieceB
    rw [List.length_append]; omega
  have h3 := Nat.mul_le_mul_right (80 + 16 * (18 + 18 * m)) hl
  have h4 := putV_len10 k.length (by omega)
  unfold knowB
  rw [List.length_append]; omega
theorem runsB_long : ∀ (l : List Rn) (was : Int), 2 * l.length ≤ (runsB was l).length
  | [], _ => Nat.zero_le _
  | r :: l, was => by
    have h1 := runsB_long l r.to
    have h2 := putV_pos (r.fr - was).toNat
    have h3 := putV_pos (r.to - r.fr).toNat
    rw [runsB, List.length_append, List.length_append, List.length_cons]; omega
theorem knB_long (k : Kn) : 2 + 2 * k.runs.length ≤ (knB k).length := by
  have h1 := runsB_long k.runs 0
  have h2 := putV_pos k.rep.toNat
  have h3 := putV_pos k.runs.length
  unfold knB
  rw [List.length_append, List.length_append]; omega
theorem runsV_knB : ∀ (s : List Kn) (r : Int), (runsV s r).length ≤ (s.flatMap knB).length
  | [], _ => Nat.zero_le _
  | k :: s, r => by
    have h1 := runsV_knB s r
    have h2 := knB_long k
    have h3 : (partV k r).length ≤ k.runs.length := by
      by_cases h : k.rep = r
      · rw [partV_yes h]; exact Nat.le_refl _
      · rw [partV_no h]; exact Nat.zero_le _
    rw [runsV, List.flatMap_cons, List.length_append, List.length_append]; omega
theorem catK_pieceB : ∀ (k : List Pc) (s : List UInt8) (r : Int), (runsV (catK k s) r).length ≤ (k.flatMap pieceB).length
  | [], _, _ => Nat.zero_le _
  | p :: k, s, r => by
    have h1 := catK_pieceB k s r
    have h2 := runsV_knB p.set r
    have h3 : (p.set.flatMap knB).length ≤ (pieceB p).length := by unfold pieceB setB; rw [List.length_append, List.length_append]; omega
    have h4 : (runsV (setP p s) r).length ≤ (runsV p.set r).length := by
      cases hr : hasR p.rng s
      · rw [setP_no hr]; exact Nat.zero_le _
      · rw [setP_yes hr]; exact Nat.le_refl _
    rw [catK, runsV_append, List.flatMap_cons, List.length_append, List.length_append]; omega
theorem pieceB_long {p : Pc} (h : onePc p = true) : 7 ≤ (pieceB p).length := by
  obtain ⟨-, h2, h3⟩ := onePc_iff.1 h
  have h5 := putV_pos p.rng.lo.length
  have h6 : 2 ≤ (rngB p.rng).length := by unfold rngB txtB; rw [List.length_append, List.length_append]; cases p.rng.op <;> simp <;> omega
  cases hs : p.set with
  | nil => exact absurd hs h2
  | cons x s =>
    rw [hs] at h3
    have h7 := (oneK_iff.1 (upS_all h3 x (List.mem_cons_self ..)).2.2).1
    have h8 : 0 < x.runs.length := List.length_pos_iff.2 h7
    have h9 := knB_long x
    have h10 := putV_pos (x :: s).length
    unfold pieceB setB
    rw [hs, List.flatMap_cons, List.length_append, List.length_append, List.length_append]; omega
theorem pieces_long : ∀ {k : List Pc}, (∀ p ∈ k, onePc p = true) → 7 * k.length ≤ (k.flatMap pieceB).length
  | [], _ => Nat.zero_le _
  | p :: k, h => by
    have h1 := pieces_long (k := k) fun q hq => h q (List.mem_cons_of_mem _ hq)
    have h2 := pieceB_long (h p (List.mem_cons_self ..))
    rw [List.flatMap_cons, List.length_append, List.length_cons]; omega
theorem read_cap {b : List UInt8} {k : List Pc} (h : readK b = (k, 0)) {L X : Nat} (hb : b.length ≤ X) (hL : X ≤ 7 * L + 6) : CapN L X k := by
  obtain ⟨h1, h2⟩ := readK_back h
  have h3 := pieces_long (rightP_all h2)
  have h4 : (k.flatMap pieceB).length ≤ b.length := by rw [← h1]; unfold knowB; rw [List.length_append]; omega
  exact .right h2 (by omega) fun s r => Nat.le_trans (catK_pieceB k s r) (by omega)
theorem apply_cap {a : List Pc} {b : List UInt8} {L B M X : Nat} (ha : CapN L B a) (hb : ∀ k, readK b = (k, 0) → CapN M X k) : CapN (1 + 2 * (L + M)) (B + X) (applyP a b).1 := by
  cases hr : rightP a with
  | false => rw [applyP_wrong hr]; exact .nil _ _
  | true =>
    cases hk : readK b with
    | mk k e =>
      by_cases he : e = 0
      · subst he
        rw [applyP_read hr hk]
        exact ha.join (hb k hk)
      · rw [applyP_bad hr hk he]; exact .nil _ _
theorem runsV_one {m : Nat} : ∀ {s : List Kn} {c : Int}, upS c s = true → (∀ x ∈ s, x.runs.length ≤ m) → ∀ r, (runsV s r).length ≤ m
  | [], _, _, _, _ => Nat.zero_le _
  | x :: s, c, h, hm, r => by
    obtain ⟨h1, h2, h3, h4⟩ := upS_cons.1 h
    by_cases e : x.rep = r
    · have h5 : runsV s r = [] := runsV_none fun k hk => by have := upS_all h4 k hk; omega
      rw [runsV, partV_yes e, h5, List.append_nil]
      exact hm x (List.mem_cons_self ..)
    · rw [runsV, partV_no e, List.nil_append]
      exact runsV_one h4 (fun y hy => hm y (List.mem_cons_of_mem _ hy)) r
theorem catK_one {m : Nat} : ∀ {k : List Pc}, rightP k = true → (∀ p ∈ k, ∀ r, (runsV p.set r).length ≤ m) → ∀ s r, (runsV (catK k s) r).length ≤ m
  | [], _, _, _, _ => Nat.zero_le _
  | p :: k, h, hm, s, r => by
    cases hr : hasR p.rng s
    · rw [catK_rest hr]
      exact catK_one (rightP_tail h) (fun q hq => hm q (List.mem_cons_of_mem _ hq)) s r
    · rw [catK_head h hr]
      exact hm p (List.mem_cons_self ..) r
theorem right_long {k : List Pc} {m : Nat} (hr : rightP k = true) (h : longP m k = false) : CapN m 16 k := by
  obtain ⟨h1, h2⟩ := longP_set h
  exact .right hr h1 (catK_one hr fun p hp => runsV_one (onePc_iff.1 (rightP_all hr p hp)).2.2 (longV_size (longPc_set (h2 p hp))).2)
theorem delta_put {a b : List Pc} {m : Nat} (hm : m ≤ 10) (ha : rightP a = true) (hb : rightP b = true) (hla : longP m a = false) (hlb : longP m b = false) : CapN 41 65 (lessP b a) ∧ PutP (lessP b a) ∧ (deltaB a b).length ≤ 1000000 := by
  have h1 := ((right_long hb hlb).less (right_long ha hla)).mono (L' := 41) (B' := 65) (by omega) (by omega)
  have h2 := h1.put (by omega) (by omega)
  have h3 := knowB_len2 (k := lessP b a) (m := 65) (L := 41) (makeP_right ..) h1.len (by omega) (fun p hp x hx => by have g1 := runs_of_set hx; have g2 := h1.own p hp x.rep; omega) (by omega)
  exact ⟨h1, h2, by unfold deltaB; omega⟩
def lim (m q : Nat) : Nat → Nat
  | 0 => m
  | k + 1 => 1 + 2 * (lim m q k + q)
theorem lim_few {m q k : Nat} (hk : k ≤ 5) (hm : m ≤ 8) (hq : q ≤ 57) : lim m q k ≤ 4000 := by
  have h : k = 0 ∨ k = 1 ∨ k = 2 ∨ k = 3 ∨ k = 4 ∨ k = 5 := by omega
  rcases h with rfl | rfl | rfl | rfl | rfl | rfl <;> simp only [lim] <;> omega
theorem chain_snoc (a : List Pc) (l : List (List UInt8)) (d : List UInt8) : chainP a (l ++ [d]) = stepP (chainP a l) d := by
  unfold chainP; rw [List.foldl_append]; rfl
theorem chain_take {a : List Pc} {l : List (List UInt8)} {k : Nat} {d : List UInt8} (h : l[k]? = some d) : chainP a (l.take (k + 1)) = stepP (chainP a (l.take k)) d := by
  rw [List.take_add_one, h, Option.toList_some, chain_snoc]
theorem chain_cap {a : List Pc} {l : List (List UInt8)} {B : Nat} (ha : CapN 8 B a) (hl : ∀ x ∈ l, x.length ≤ 400) : ∀ i, i ≤ l.length → CapN (lim 8 57 i) (B + 400 * i) (chainP a (l.take i)).1
  | 0, _ => by rw [List.take_zero]; exact ha
  | i + 1, h => by
    have hd : l[i]? = some l[i] := List.getElem?_eq_getElem (by omega)
    have h1 := chain_cap ha hl i (by omega)
    rw [chain_take hd]
    obtain ⟨c, e, hc⟩ : ∃ c e, chainP a (l.take i) = (c, e) := ⟨_, _, rfl⟩
    rw [hc] at h1 ⊢
    by_cases he : e = 0
    · subst he
      rw [stepP_ok]
      have hx := hl _ (List.getElem_mem (l := l) (n := i) (by omega))
      exact (apply_cap h1 fun k hk => read_cap (L := 57) (X := 400) hk hx (by omega)).mono (by simp only [lim]; omega) (by omega)
    · rw [stepP_bad he]
      exact h1.mono (by simp only [lim]; omega) (by omega)
theorem joins_cap {a : List Pc} {l : List (List Pc)} (ha : CapN 8 16 a) (hl : ∀ x ∈ l, CapN 8 16 x) : ∀ i, i ≤ l.length → CapN (lim 8 8 i) (16 + 16 * i) ((l.take i).foldl joinP a)
  | 0, _ => by rw [List.take_zero]; exact ha
  | i + 1, h => by
    have hd : l[i]? = some l[i] := List.getElem?_eq_getElem (by omega)
    have h1 := joins_cap ha hl i (by omega)
    rw [List.take_add_one, hd, Option.toList_some, List.foldl_append]
    exact (h1.join (hl _ (List.getElem_mem (l := l) (n := i) (by omega)))).mono (by simp only [lim]; omega) (by omega)
theorem deltas_len : ∀ (a : List Pc) (l : List (List Pc)), (deltasP a l).length = l.length
  | _, [] => rfl
  | _, x :: l => by rw [deltasP, List.length_cons, List.length_cons, deltas_len x l]
theorem deltas_take : ∀ (j : Nat) (a : List Pc) (l : List (List Pc)), (deltasP a l).take j = deltasP a (l.take j)
  | 0, _, _ => by simp [deltasP]
  | j + 1, _, [] => by simp [deltasP]
  | j + 1, a, x :: l => by rw [deltasP, List.take_succ_cons, List.take_succ_cons, deltasP, deltas_take j x l]
theorem deltas_next : ∀ (j : Nat) (a : List Pc) (l : List (List Pc)) (p x : List Pc), (a :: l)[j]? = some p → l[j]? = some x → deltasP a (l.take (j + 1)) = deltasP a (l.take j) ++ [deltaB p x]
  | _, _, [], _, _, _, h => by simp at h
  | 0, a, y :: l, p, x, hp, hx => by
    simp at hp hx
    subst hp hx
    simp [deltasP]
  | j + 1, a, y :: l, p, x, hp, hx => by
    rw [List.getElem?_cons_succ] at hp hx
    rw [List.take_succ_cons, List.take_succ_cons, deltasP, deltasP, deltas_next j y l p x hp hx]; rfl
theorem deltas_puts {m : Nat} (hm : m ≤ 10) : ∀ (a : List Pc) (l : List (List Pc)), (∀ x ∈ a :: l, rightP x = true ∧ longP m x = false) → PutsP a l ∧ ∀ d ∈ deltasP a l, d.length ≤ 1000000 ∧ ∀ k, readK d = (k, 0) → CapN 41 65 k
  | _, [], _ => ⟨trivial, fun d h => by cases h⟩
  | a, x :: l, h => by
    obtain ⟨h1, h2⟩ := deltas_puts hm x l fun y hy => h y (List.mem_cons_of_mem _ hy)
    have ha := h a (List.mem_cons_self ..)
    have hx := h x (List.mem_cons_of_mem _ (List.mem_cons_self ..))
    obtain ⟨q1, q2, q3⟩ := delta_put hm ha.1 hx.1 ha.2 hx.2
    refine ⟨⟨q2, h1⟩, fun d hd => ?_⟩
    rw [deltasP] at hd
    rcases List.mem_cons.1 hd with rfl | hd
    · refine ⟨q3, fun k hk => ?_⟩
      have hr : readK (knowB (lessP x a)) = (lessP x a, 0) := readK_put (makeP_right ..) q2.1 q2.2
      rw [deltaB, hr] at hk
      injection hk with hk _
      rw [← hk]; exact q1
    · exact h2 d hd
end Go.Proofs.YtopjhebhdopjpaaGreat

namespace Go.Proofs.YtopjhebhdopjpaaGreat
open Go.RowKit

def CapL (k : List Pc) : Prop := CapN 4000 10000 k
theorem CapL.p {k : List Pc} (h : CapL k) : CapP k := CapN.cap h (by omega) (by omega)
def OkD (k : List Pc) : Prop := CapN 10 2560 k ∧ (rightP k = true → CapN 10 16 k)
theorem okD_of {k : List Pc} (h : longP 10 k = false) : OkD k := ⟨(longP_cap h).mono (by omega) (by omega), fun hr => right_long hr h⟩
theorem OkD.l {k : List Pc} (h : OkD k) : CapL k := h.1.mono (by omega) (by omega)
theorem okD_nil : OkD [] := ⟨.nil _ _, fun _ => .nil _ _⟩
def deltaA (a b : List Pc) : List UInt8 × Int := match rightP a && rightP b with
  | true => (deltaB a b, 0)
  | false => ([], 2)
theorem deltaA_right {a b : List Pc} (ha : rightP a = true) (hb : rightP b = true) : deltaA a b = (deltaB a b, 0) := by unfold deltaA; rw [ha, hb]; rfl
theorem deltaA_wrong {a b : List Pc} (h : (rightP a && rightP b) = false) : deltaA a b = ([], 2) := by unfold deltaA; rw [h]
def DDeltaC (F : FuncId) : Prop := ∀ (A B : Option Addr) (c d n m : Nat) (a b : List Pc), n = a.length → m = b.length → OkD a → OkD b → ∀ (N : Nat) (L : List UInt8) (x : Int), deltaA a b = (L, x) → L.length = N → ∀ w, RdPc w A c a → RdPc w B d b → Calls Tryz.prog F #[.slice A n c, .slice B m d] w (RetBX w N x L)
def DApplyC (F : FuncId) : Prop := ∀ (A B : Option Addr) (c d n m : Nat) (a : List Pc) (b : List UInt8), n = a.length → m = b.length → m ≤ 1000000 → CapL a → (∀ k, readK b = (k, 0) → CapL k) → ∀ (N : Nat) (y : List Pc) (x : Int), applyP a b = (y, x) → y.length = N → ∀ w, RdPc w A c a → RdB w w.heap.size B d b → Calls Tryz.prog F #[.slice A n c, .slice B m d] w (RetPX w N x y)
theorem delta_nil : deltaA [] [] = ([0], 0) := by rw [deltaA_right rfl rfl, deltaB, lessP_self, ex16k]
theorem read_nil : readK [0] = ([], 0) := by rw [← ex16k]; exact readK_put rfl (by simp) (fun p h => by cases h)
theorem apply_nil : applyP [] [0] = ([], 0) := by rw [applyP_read rfl read_nil, show joinP [] [] = [] from rightP_empty (makeP_right ..) fun s => by rw [joinP_at, atK_nil]; exact ofS_nil]
theorem read_is {b : List UInt8} {u : List Pc} (h : readK b = (u, 0)) (hc : CapL u) : ∀ k, readK b = (k, 0) → CapL k := fun k hk => by
  rw [h] at hk
  injection hk with hk _
  rw [← hk]; exact hc
set_option maxRecDepth 100000 in
set_option maxHeartbeats 4000000 in
theorem awake17 (HD : DDeltaC 8) (HA : DApplyC 10) (w : World) :
    Calls Tryz.prog 6 #[] w fun e w' => e = .returned (.bool true) ∧ Below w.heap.size w w' := by
  have D1 := Lib.hid (HD none none 0 0 0 0 [] [] rfl rfl okD_nil okD_nil 1 _ _ delta_nil rfl w (rdPc_none w) (rdPc_none w))
  have A1 := fun B d w h => Lib.hid (HA none B 0 d 0 1 [] [0] rfl rfl (by omega) (CapN.nil _ _) (read_is read_nil (CapN.nil _ _)) 0 _ _ apply_nil rfl w (rdPc_none w) h)
  clear HD HA
  go_enter Tryz.func6, Tryz.ntmps6
  go_upto_region 3 with (first
    | ((with_reducible refine D1.out.mono ?_); rintro e w1 ⟨P1, c1, rfl, hr, hq⟩; have H1 := Lib.hid hr; have HW := Lib.hid hq; clear hr hq)
    | ((with_reducible refine (A1 _ _ _ H1.out).out.mono ?_); rintro e w2 ⟨P2, c2, rfl, hr, hq⟩; have H2 := Lib.hid hr; replace H1 := Lib.hid (rdB_on H1.out hq); replace HW := Lib.hid (HW.out.trans (hq.mono HW.out.size)); clear hr hq))
  clear D1 A1
  have E1 := fun (w : World) hb hc => Lib.hid (bytes_eq P1 (some ⟨w.heap.size, 0, none⟩) c1 1 1 [0] rfl (by simp) (w.alloc (.cells #[.int .u8 0] 5)) hb hc)
  go_wp2_with ((with_reducible refine (E1 _ (rdB_on H1.out (below_new _ _)) (rdB_fresh _ _ _ _ rfl rfl (by simp))).out.mono ?_); rintro e w7 ⟨rfl, hq⟩; replace HW := Lib.hid (HW.out.trans (((below_new w2 _).trans (hq.mono (by rw [size1]; omega))).mono HW.out.size)); clear hq)
  go_ret
  exact ⟨rfl, HW.out⟩
end Go.Proofs.YtopjhebhdopjpaaGreat

namespace Go.Proofs.YtopjhebhdopjpaaGreat
open Go.RowKit

theorem RetP.under {w : World} {o : Obj} {N : Nat} {U : List Pc} {e : Ending} {w' : World} (h : RetP (w.alloc o) N U e w') : RetP w N U e w' := by
  obtain ⟨A, c, h1, h2, h3⟩ := h
  exact ⟨A, c, h1, h2, (below_new w o).trans (h3.mono (by simp))⟩
theorem rdPP_row {w : World} {cs : Array Value} {sl : List SlP} {ks : List (List Pc)} {n : Nat} (hcs : cs.toList = kSlP.row sl) (hn : n = sl.length) (hm : sl.length ≤ 1000) (hl : sl.length = ks.length) (h : ∀ (i : Nat) (s : SlP) (k : List Pc), sl[i]? = some s → ks[i]? = some k → s.n = k.length ∧ RdPc w s.A s.c k) :
    RdPP (w.alloc (.cells cs 22)) (some ⟨w.heap.size, 0, none⟩) n ks :=
  ⟨sl, (Kind.rd_new (k := kSlP) (t := 22) hcs hn (by omega)).inS.mono (fun _ _ => trivial), hl, fun i s k h1 h2 => ⟨(h i s k h1 h2).1, (h i s k h1 h2).2.call (below_new w _)⟩⟩
theorem rdPP_two {w : World} {A B : Option Addr} {c d n m : Nat} {a b : List Pc} (hn : n = a.length) (hm : m = b.length) (ha : RdPc w A c a) (hb : RdPc w B d b) : RdPP (w.alloc (.cells #[.slice A n c, .slice B m d] 22)) (some ⟨w.heap.size, 0, none⟩) 2 [a, b] :=
  rdPP_row (sl := [⟨A, n, c⟩, ⟨B, m, d⟩]) rfl rfl (by simp) rfl fun i s k h1 h2 => by
    match i with
    | 0 => injection h1 with h1; injection h2 with h2; subst h1 h2; exact ⟨hn, ha⟩
    | 1 => injection h1 with h1; injection h2 with h2; subst h1 h2; exact ⟨hm, hb⟩
    | i + 2 => cases h1
end Go.Proofs.YtopjhebhdopjpaaGreat

namespace Go.Proofs.YtopjhebhdopjpaaGreat
open Go.RowKit

end Go.Proofs.YtopjhebhdopjpaaGreat

namespace Go.Proofs.YtopjhebhdopjpaaGreat
open Go.RowKit

set_option maxRecDepth 100000 in
set_option maxHeartbeats 8000000 in
theorem deltaTells_walk (HD : DDeltaC 8) (HP : DApplyC 10)
    (A B : Option Addr) (c d n m : Nat) (a b : List Pc) (hn : n = a.length) (hm : m = b.length) (w : World) (ha : RdPc w A c a) (hb : RdPc w B d b) :
    Calls Tryz.prog 3 #[.slice A n c, .slice B m d] w fun e w' => e = .returned (.bool true) ∧ Below w.heap.size w w' := by
  have A0 := fun w => Lib.hid (awake17 HD HP w)
  obtain ⟨va, hva⟩ : ∃ v, longP 10 a = v := ⟨_, rfl⟩
  obtain ⟨vb, hvb⟩ : ∃ v, longP 10 b = v := ⟨_, rfl⟩
  have La := fun w hr => Lib.hid (ref_plong 10 10 rfl (by omega) A c n a hn va hva w hr)
  have Lb := fun w hr => Lib.hid (ref_plong 10 10 rfl (by omega) B d m b hm vb hvb w hr)
  have HA := Lib.hid ha
  have HB := Lib.hid hb
  have HW := Lib.hid (Below.refl w.heap.size w)
  cases va
  case true =>
    clear HD HP hva hvb hn hm ha hb
    go_enter Tryz.func3, Tryz.ntmps3
    go_wp2_with (first
      | ((with_reducible refine (A0 _).out.mono ?_); rintro e w9 ⟨rfl, hq⟩; replace HW := Lib.hid (HW.out.trans (hq.mono HW.out.size)); (try replace HA := Lib.hid (HA.out.call hq)); (try replace HB := Lib.hid (HB.out.call hq)); (try replace H1 := Lib.hid (rdB_on H1.out hq)); (try replace H2 := Lib.hid (H2.out.call hq)); (try replace H3 := Lib.hid (rdB_on H3.out hq)); (try replace H4 := Lib.hid (rdB_on H4.out hq)); (try replace H5 := Lib.hid (H5.out.call hq)); clear hq)
      | ((with_reducible refine (La _ HA.out).out.mono ?_); rintro e w9 ⟨rfl, hq⟩; replace HW := Lib.hid (HW.out.trans (hq.mono HW.out.size)); (try replace HA := Lib.hid (HA.out.call hq)); (try replace HB := Lib.hid (HB.out.call hq)); (try replace H1 := Lib.hid (rdB_on H1.out hq)); (try replace H2 := Lib.hid (H2.out.call hq)); (try replace H3 := Lib.hid (rdB_on H3.out hq)); (try replace H4 := Lib.hid (rdB_on H4.out hq)); (try replace H5 := Lib.hid (H5.out.call hq)); clear hq))
    go_ret
    exact ⟨rfl, HW.out⟩
  case false =>
    cases vb
    case true =>
      clear HD HP hva hvb hn hm ha hb
      go_enter Tryz.func3, Tryz.ntmps3
      go_wp2_with (first
        | ((with_reducible refine (A0 _).out.mono ?_); rintro e w9 ⟨rfl, hq⟩; replace HW := Lib.hid (HW.out.trans (hq.mono HW.out.size)); (try replace HA := Lib.hid (HA.out.call hq)); (try replace HB := Lib.hid (HB.out.call hq)); (try replace H1 := Lib.hid (rdB_on H1.out hq)); (try replace H2 := Lib.hid (H2.out.call hq)); (try replace H3 := Lib.hid (rdB_on H3.out hq)); (try replace H4 := Lib.hid (rdB_on H4.out hq)); (try replace H5 := Lib.hid (H5.out.call hq)); clear hq)
        | ((with_reducible refine (La _ HA.out).out.mono ?_); rintro e w9 ⟨rfl, hq⟩; replace HW := Lib.hid (HW.out.trans (hq.mono HW.out.size)); (try replace HA := Lib.hid (HA.out.call hq)); (try replace HB := Lib.hid (HB.out.call hq)); (try replace H1 := Lib.hid (rdB_on H1.out hq)); (try replace H2 := Lib.hid (H2.out.call hq)); (try replace H3 := Lib.hid (rdB_on H3.out hq)); (try replace H4 := Lib.hid (rdB_on H4.out hq)); (try replace H5 := Lib.hid (H5.out.call hq)); clear hq)
        | ((with_reducible refine (Lb _ HB.out).out.mono ?_); rintro e w9 ⟨rfl, hq⟩; replace HW := Lib.hid (HW.out.trans (hq.mono HW.out.size)); (try replace HA := Lib.hid (HA.out.call hq)); (try replace HB := Lib.hid (HB.out.call hq)); (try replace H1 := Lib.hid (rdB_on H1.out hq)); (try replace H2 := Lib.hid (H2.out.call hq)); (try replace H3 := Lib.hid (rdB_on H3.out hq)); (try replace H4 := Lib.hid (rdB_on H4.out hq)); (try replace H5 := Lib.hid (H5.out.call hq)); clear hq))
      go_ret
      exact ⟨rfl, HW.out⟩
    case false =>
      have oa := okD_of hva
      have ob := okD_of hvb
      obtain ⟨v1, hv1⟩ : ∃ v, rightP a = v := ⟨_, rfl⟩
      obtain ⟨v2, hv2⟩ : ∃ v, rightP b = v := ⟨_, rfl⟩
      have Ra := fun w hr => Lib.hid (ref_pright A c n a hn (pcs_texts oa.1) v1 hv1 w hr)
      have Rb := fun w hr => Lib.hid (ref_pright B d m b hm (pcs_texts ob.1) v2 hv2 w hr)
      by_cases hz : (v1 && v2) = true
      · obtain ⟨rfl, rfl⟩ : v1 = true ∧ v2 = true := by simpa using hz
        obtain ⟨q1, q2, q3⟩ := delta_put (m := 10) (by omega) hv1 hv2 hva hvb
        obtain ⟨L, hL⟩ : ∃ L, deltaB a b = L := ⟨_, rfl⟩
        obtain ⟨N, hN⟩ : ∃ N, L.length = N := ⟨_, rfl⟩
        obtain ⟨J, hJ⟩ : ∃ J, joinP a b = J := ⟨_, rfl⟩
        obtain ⟨NJ, hNJ⟩ : ∃ N, J.length = N := ⟨_, rfl⟩
        have hN9 : N ≤ 1000000 := by rw [← hN, ← hL]; exact q3
        have D1 := fun w h1 h2 => Lib.hid (HD A B c d n m a b hn hm oa ob N L 0 (by rw [deltaA_right hv1 hv2, hL]) hN w h1 h2)
        have D2 := fun w h1 h2 => Lib.hid (HD B B d d m m b b hm hm ob ob 1 [0] 0 (by rw [deltaA_right hv2 hv2, deltaB, lessP_self, ex16k]) rfl w h1 h2)
        have P1 := fun A1 c1 w h1 h2 => Lib.hid (HP A A1 c c1 n N a L hn hN.symm hN9 oa.l (read_is (u := lessP b a) (by rw [← hL]; exact readK_put (makeP_right ..) q2.1 q2.2) (q1.mono (by omega) (by omega))) NJ J 0 (by rw [← hL, apply_delta hv1 q2, hJ]) hNJ w h1 h2)
        have RD := fun w h1 h2 => Lib.hid (ref_ddelta A B c d n m a b hn hm oa.l.p ob.l.p q2 N L hL hN w h1 h2)
        have RJ := fun w h1 h2 => Lib.hid (ref_pjoin A B c d n m a b hn hm oa.l.p ob.l.p J hJ NJ hNJ.symm w h1 h2)
        have EQ := fun A1 A2 c1 c2 w h1 h2 => Lib.hid (bytes_eq A1 A2 c1 c2 N L hN.symm (by omega) w h1 h2)
        have SM := fun A1 A2 c1 c2 w h1 h2 => Lib.hid (psame_is A1 A2 c1 c2 NJ NJ J hNJ.symm hNJ.symm w h1 h2)
        have E0 := fun (A1 : Option Addr) (c1 : Nat) (w : World) hb hc => Lib.hid (bytes_eq A1 (some ⟨w.heap.size, 0, none⟩) c1 1 1 [0] rfl (by simp) (w.alloc (.cells #[.int .u8 0] 5)) hb hc)
        clear HD HP hva hvb hn hm ha hb oa ob hv1 hv2 hz q1 q2 q3 hL hN hN9 hJ hNJ
        go_enter Tryz.func3, Tryz.ntmps3
        go_wp2_with (first
          | ((with_reducible refine (A0 _).out.mono ?_); rintro e w9 ⟨rfl, hq⟩; replace HW := Lib.hid (HW.out.trans (hq.mono HW.out.size)); (try replace HA := Lib.hid (HA.out.call hq)); (try replace HB := Lib.hid (HB.out.call hq)); (try replace H1 := Lib.hid (rdB_on H1.out hq)); (try replace H2 := Lib.hid (H2.out.call hq)); (try replace H3 := Lib.hid (rdB_on H3.out hq)); (try replace H4 := Lib.hid (rdB_on H4.out hq)); (try replace H5 := Lib.hid (H5.out.call hq)); clear hq)
          | ((with_reducible refine (La _ HA.out).out.mono ?_); rintro e w9 ⟨rfl, hq⟩; replace HW := Lib.hid (HW.out.trans (hq.mono HW.out.size)); (try replace HA := Lib.hid (HA.out.call hq)); (try replace HB := Lib.hid (HB.out.call hq)); (try replace H1 := Lib.hid (rdB_on H1.out hq)); (try replace H2 := Lib.hid (H2.out.call hq)); (try replace H3 := Lib.hid (rdB_on H3.out hq)); (try replace H4 := Lib.hid (rdB_on H4.out hq)); (try replace H5 := Lib.hid (H5.out.call hq)); clear hq)
          | ((with_reducible refine (Lb _ HB.out).out.mono ?_); rintro e w9 ⟨rfl, hq⟩; replace HW := Lib.hid (HW.out.trans (hq.mono HW.out.size)); (try replace HA := Lib.hid (HA.out.call hq)); (try replace HB := Lib.hid (HB.out.call hq)); (try replace H1 := Lib.hid (rdB_on H1.out hq)); (try replace H2 := Lib.hid (H2.out.call hq)); (try replace H3 := Lib.hid (rdB_on H3.out hq)); (try replace H4 := Lib.hid (rdB_on H4.out hq)); (try replace H5 := Lib.hid (H5.out.call hq)); clear hq)
          | ((with_reducible refine (D1 _ HA.out HB.out).out.mono ?_); rintro e w9 ⟨A1, c1, rfl, hr, hq⟩; replace HW := Lib.hid (HW.out.trans (hq.mono HW.out.size)); (try replace HA := Lib.hid (HA.out.call hq)); (try replace HB := Lib.hid (HB.out.call hq)); (try replace H2 := Lib.hid (H2.out.call hq)); (try replace H3 := Lib.hid (rdB_on H3.out hq)); (try replace H4 := Lib.hid (rdB_on H4.out hq)); (try replace H5 := Lib.hid (H5.out.call hq)); have H1 := Lib.hid hr; clear hr; clear hq)
          | ((with_reducible refine (Ra _ HA.out).out.mono ?_); rintro e w9 ⟨rfl, hq⟩; replace HW := Lib.hid (HW.out.trans (hq.mono HW.out.size)); (try replace HA := Lib.hid (HA.out.call hq)); (try replace HB := Lib.hid (HB.out.call hq)); (try replace H1 := Lib.hid (rdB_on H1.out hq)); (try replace H2 := Lib.hid (H2.out.call hq)); (try replace H3 := Lib.hid (rdB_on H3.out hq)); (try replace H4 := Lib.hid (rdB_on H4.out hq)); (try replace H5 := Lib.hid (H5.out.call hq)); clear hq)
          | ((with_reducible refine (Rb _ HB.out).out.mono ?_); rintro e w9 ⟨rfl, hq⟩; replace HW := Lib.hid (HW.out.trans (hq.mono HW.out.size)); (try replace HA := Lib.hid (HA.out.call hq)); (try replace HB := Lib.hid (HB.out.call hq)); (try replace H1 := Lib.hid (rdB_on H1.out hq)); (try replace H2 := Lib.hid (H2.out.call hq)); (try replace H3 := Lib.hid (rdB_on H3.out hq)); (try replace H4 := Lib.hid (rdB_on H4.out hq)); (try replace H5 := Lib.hid (H5.out.call hq)); clear hq)
          | ((with_reducible refine (P1 _ _ _ HA.out H1.out).out.mono ?_); rintro e w9 ⟨A2, c2, rfl, hr, hq⟩; replace HW := Lib.hid (HW.out.trans (hq.mono HW.out.size)); (try replace HA := Lib.hid (HA.out.call hq)); (try replace HB := Lib.hid (HB.out.call hq)); (try replace H1 := Lib.hid (rdB_on H1.out hq)); (try replace H3 := Lib.hid (rdB_on H3.out hq)); (try replace H4 := Lib.hid (rdB_on H4.out hq)); (try replace H5 := Lib.hid (H5.out.call hq)); have H2 := Lib.hid hr; clear hr; clear hq)
          | ((with_reducible refine (D2 _ HB.out HB.out).out.mono ?_); rintro e w9 ⟨A4, c4, rfl, hr, hq⟩; replace HW := Lib.hid (HW.out.trans (hq.mono HW.out.size)); (try replace HA := Lib.hid (HA.out.call hq)); (try replace HB := Lib.hid (HB.out.call hq)); (try replace H1 := Lib.hid (rdB_on H1.out hq)); (try replace H2 := Lib.hid (H2.out.call hq)); (try replace H3 := Lib.hid (rdB_on H3.out hq)); (try replace H5 := Lib.hid (H5.out.call hq)); have H4 := Lib.hid hr; clear hr; clear hq)
          | ((with_reducible refine (RD _ HA.out HB.out).out.mono ?_); rintro e w9 ⟨A3, c3, rfl, hr, hq⟩; replace HW := Lib.hid (HW.out.trans (hq.mono HW.out.size)); (try replace HA := Lib.hid (HA.out.call hq)); (try replace HB := Lib.hid (HB.out.call hq)); (try replace H1 := Lib.hid (rdB_on H1.out hq)); (try replace H2 := Lib.hid (H2.out.call hq)); (try replace H4 := Lib.hid (rdB_on H4.out hq)); (try replace H5 := Lib.hid (H5.out.call hq)); have H3 := Lib.hid hr; clear hr; clear hq)
          | ((with_reducible refine (EQ _ _ _ _ _ H1.out H3.out).out.mono ?_); rintro e w9 ⟨rfl, hq⟩; replace HW := Lib.hid (HW.out.trans (hq.mono HW.out.size)); (try replace HA := Lib.hid (HA.out.call hq)); (try replace HB := Lib.hid (HB.out.call hq)); (try replace H1 := Lib.hid (rdB_on H1.out hq)); (try replace H2 := Lib.hid (H2.out.call hq)); (try replace H3 := Lib.hid (rdB_on H3.out hq)); (try replace H4 := Lib.hid (rdB_on H4.out hq)); (try replace H5 := Lib.hid (H5.out.call hq)); clear hq)
          | ((with_reducible refine (RJ _ HA.out HB.out).out.mono ?_); rintro e w9 ⟨A5, c5, rfl, hr, hq⟩; replace HW := Lib.hid (HW.out.trans (hq.mono HW.out.size)); (try replace HA := Lib.hid (HA.out.call hq)); (try replace HB := Lib.hid (HB.out.call hq)); (try replace H1 := Lib.hid (rdB_on H1.out hq)); (try replace H2 := Lib.hid (H2.out.call hq)); (try replace H3 := Lib.hid (rdB_on H3.out hq)); (try replace H4 := Lib.hid (rdB_on H4.out hq)); have H5 := Lib.hid hr; clear hr; clear hq)
          | ((with_reducible refine (SM _ _ _ _ _ H2.out H5.out).out.mono ?_); rintro e w8 ⟨rfl, hq⟩; replace HW := Lib.hid (HW.out.trans (hq.mono HW.out.size)); (try replace HA := Lib.hid (HA.out.call hq)); (try replace HB := Lib.hid (HB.out.call hq)); (try replace H1 := Lib.hid (rdB_on H1.out hq)); (try replace H2 := Lib.hid (H2.out.call hq)); (try replace H3 := Lib.hid (rdB_on H3.out hq)); (try replace H4 := Lib.hid (rdB_on H4.out hq)); (try replace H5 := Lib.hid (H5.out.call hq)); clear hq)
          | ((with_reducible refine (E0 _ _ _ (rdB_on H4.out (below_new _ _)) (rdB_fresh _ _ _ _ rfl rfl (by simp))).out.mono ?_); rintro e w7 ⟨rfl, hq⟩; replace HW := Lib.hid (HW.out.trans (((below_new w8 _).trans (hq.mono (by rw [size1]; omega))).mono HW.out.size)); (try replace HA := Lib.hid ((HA.out.call (below_new w8 _)).call hq)); (try replace HB := Lib.hid ((HB.out.call (below_new w8 _)).call hq)); (try replace H1 := Lib.hid (rdB_on (rdB_on H1.out (below_new w8 _)) hq)); (try replace H2 := Lib.hid ((H2.out.call (below_new w8 _)).call hq)); (try replace H3 := Lib.hid (rdB_on (rdB_on H3.out (below_new w8 _)) hq)); (try replace H4 := Lib.hid (rdB_on (rdB_on H4.out (below_new w8 _)) hq)); (try replace H5 := Lib.hid ((H5.out.call (below_new w8 _)).call hq)); clear hq))
        go_ret
        exact ⟨rfl, HW.out⟩
      · have D1 := fun w h1 h2 => Lib.hid (HD A B c d n m a b hn hm oa ob 0 [] 2 (deltaA_wrong (by rw [hv1, hv2]; simpa using hz)) rfl w h1 h2)
        clear HD HP hva hvb hn hm ha hb oa ob hv1 hv2
        cases v1 <;> cases v2
        all_goals first
          | exact absurd rfl hz
          | skip
        all_goals
          clear hz
          go_enter Tryz.func3, Tryz.ntmps3
          go_wp2_with (first
            | ((with_reducible refine (A0 _).out.mono ?_); rintro e w9 ⟨rfl, hq⟩; replace HW := Lib.hid (HW.out.trans (hq.mono HW.out.size)); (try replace HA := Lib.hid (HA.out.call hq)); (try replace HB := Lib.hid (HB.out.call hq)); (try replace H1 := Lib.hid (rdB_on H1.out hq)); (try replace H2 := Lib.hid (H2.out.call hq)); (try replace H3 := Lib.hid (rdB_on H3.out hq)); (try replace H4 := Lib.hid (rdB_on H4.out hq)); (try replace H5 := Lib.hid (H5.out.call hq)); clear hq)
            | ((with_reducible refine (La _ HA.out).out.mono ?_); rintro e w9 ⟨rfl, hq⟩; replace HW := Lib.hid (HW.out.trans (hq.mono HW.out.size)); (try replace HA := Lib.hid (HA.out.call hq)); (try replace HB := Lib.hid (HB.out.call hq)); (try replace H1 := Lib.hid (rdB_on H1.out hq)); (try replace H2 := Lib.hid (H2.out.call hq)); (try replace H3 := Lib.hid (rdB_on H3.out hq)); (try replace H4 := Lib.hid (rdB_on H4.out hq)); (try replace H5 := Lib.hid (H5.out.call hq)); clear hq)
            | ((with_reducible refine (Lb _ HB.out).out.mono ?_); rintro e w9 ⟨rfl, hq⟩; replace HW := Lib.hid (HW.out.trans (hq.mono HW.out.size)); (try replace HA := Lib.hid (HA.out.call hq)); (try replace HB := Lib.hid (HB.out.call hq)); (try replace H1 := Lib.hid (rdB_on H1.out hq)); (try replace H2 := Lib.hid (H2.out.call hq)); (try replace H3 := Lib.hid (rdB_on H3.out hq)); (try replace H4 := Lib.hid (rdB_on H4.out hq)); (try replace H5 := Lib.hid (H5.out.call hq)); clear hq)
            | ((with_reducible refine (D1 _ HA.out HB.out).out.mono ?_); rintro e w9 ⟨A1, c1, rfl, hr, hq⟩; replace HW := Lib.hid (HW.out.trans (hq.mono HW.out.size)); (try replace HA := Lib.hid (HA.out.call hq)); (try replace HB := Lib.hid (HB.out.call hq)); (try replace H2 := Lib.hid (H2.out.call hq)); (try replace H3 := Lib.hid (rdB_on H3.out hq)); (try replace H4 := Lib.hid (rdB_on H4.out hq)); (try replace H5 := Lib.hid (H5.out.call hq)); have H1 := Lib.hid hr; clear hr; clear hq)
            | ((with_reducible refine (Ra _ HA.out).out.mono ?_); rintro e w9 ⟨rfl, hq⟩; replace HW := Lib.hid (HW.out.trans (hq.mono HW.out.size)); (try replace HA := Lib.hid (HA.out.call hq)); (try replace HB := Lib.hid (HB.out.call hq)); (try replace H1 := Lib.hid (rdB_on H1.out hq)); (try replace H2 := Lib.hid (H2.out.call hq)); (try replace H3 := Lib.hid (rdB_on H3.out hq)); (try replace H4 := Lib.hid (rdB_on H4.out hq)); (try replace H5 := Lib.hid (H5.out.call hq)); clear hq)
            | ((with_reducible refine (Rb _ HB.out).out.mono ?_); rintro e w9 ⟨rfl, hq⟩; replace HW := Lib.hid (HW.out.trans (hq.mono HW.out.size)); (try replace HA := Lib.hid (HA.out.call hq)); (try replace HB := Lib.hid (HB.out.call hq)); (try replace H1 := Lib.hid (rdB_on H1.out hq)); (try replace H2 := Lib.hid (H2.out.call hq)); (try replace H3 := Lib.hid (rdB_on H3.out hq)); (try replace H4 := Lib.hid (rdB_on H4.out hq)); (try replace H5 := Lib.hid (H5.out.call hq)); clear hq))
          go_ret
          exact ⟨rfl, HW.out⟩
set_option maxRecDepth 100000 in
set_option maxHeartbeats 8000000 in
theorem deltaApplies_walk (HD : DDeltaC 8) (HP : DApplyC 10)
    (A B : Option Addr) (c d n m : Nat) (a : List Pc) (b : List UInt8) (hn : n = a.length) (hm : m = b.length) (w : World) (ha : RdPc w A c a) (hb : RdB w w.heap.size B d b) :
    Calls Tryz.prog 4 #[.slice A n c, .slice B m d] w fun e w' => e = .returned (.bool true) ∧ Below w.heap.size w w' := by
  have A0 := fun w => Lib.hid (awake17 HD HP w)
  obtain ⟨va, hva⟩ : ∃ v, longP 10 a = v := ⟨_, rfl⟩
  have La := fun w hr => Lib.hid (ref_plong 10 10 rfl (by omega) A c n a hn va hva w hr)
  have HA := Lib.hid ha
  have H1 := Lib.hid hb
  have HW := Lib.hid (Below.refl w.heap.size w)
  have hmx : m ≤ 9223372036854775807 := by
    have h1 := hb.room
    have h2 := hb.cap
    unfold maxLen at h2
    omega
  cases va
  case true =>
    clear HD HP hva hn hm ha hb
    go_enter Tryz.func4, Tryz.ntmps4
    go_wp2_with (first
      | ((with_reducible refine (A0 _).out.mono ?_); rintro e w9 ⟨rfl, hq⟩; replace HW := Lib.hid (HW.out.trans (hq.mono HW.out.size)); (try replace HA := Lib.hid (HA.out.call hq)); (try replace HB := Lib.hid (HB.out.call hq)); (try replace H1 := Lib.hid (rdB_on H1.out hq)); (try replace H2 := Lib.hid (H2.out.call hq)); (try replace H3 := Lib.hid (rdB_on H3.out hq)); (try replace H4 := Lib.hid (rdB_on H4.out hq)); (try replace H5 := Lib.hid (H5.out.call hq)); clear hq)
      | ((with_reducible refine (La _ HA.out).out.mono ?_); rintro e w9 ⟨rfl, hq⟩; replace HW := Lib.hid (HW.out.trans (hq.mono HW.out.size)); (try replace HA := Lib.hid (HA.out.call hq)); (try replace HB := Lib.hid (HB.out.call hq)); (try replace H1 := Lib.hid (rdB_on H1.out hq)); (try replace H2 := Lib.hid (H2.out.call hq)); (try replace H3 := Lib.hid (rdB_on H3.out hq)); (try replace H4 := Lib.hid (rdB_on H4.out hq)); (try replace H5 := Lib.hid (H5.out.call hq)); clear hq))
    go_ret
    exact ⟨rfl, HW.out⟩
  case false =>
    by_cases h6 : m > 600
    · have h6d : decide ((m : Int) > 600) = true := decide_eq_true (by omega)
      have h6e : decide ((600 : Int) < (m : Int)) = true := h6d
      clear HD HP hva hn hm ha hb h6
      go_enter Tryz.func4, Tryz.ntmps4
      go_wp2_with (first
        | ((with_reducible refine (A0 _).out.mono ?_); rintro e w9 ⟨rfl, hq⟩; replace HW := Lib.hid (HW.out.trans (hq.mono HW.out.size)); (try replace HA := Lib.hid (HA.out.call hq)); (try replace HB := Lib.hid (HB.out.call hq)); (try replace H1 := Lib.hid (rdB_on H1.out hq)); (try replace H2 := Lib.hid (H2.out.call hq)); (try replace H3 := Lib.hid (rdB_on H3.out hq)); (try replace H4 := Lib.hid (rdB_on H4.out hq)); (try replace H5 := Lib.hid (H5.out.call hq)); clear hq)
        | ((with_reducible refine (La _ HA.out).out.mono ?_); rintro e w9 ⟨rfl, hq⟩; replace HW := Lib.hid (HW.out.trans (hq.mono HW.out.size)); (try replace HA := Lib.hid (HA.out.call hq)); (try replace HB := Lib.hid (HB.out.call hq)); (try replace H1 := Lib.hid (rdB_on H1.out hq)); (try replace H2 := Lib.hid (H2.out.call hq)); (try replace H3 := Lib.hid (rdB_on H3.out hq)); (try replace H4 := Lib.hid (rdB_on H4.out hq)); (try replace H5 := Lib.hid (H5.out.call hq)); clear hq))
      go_ret
      exact ⟨rfl, HW.out⟩
    · have h6d : decide ((m : Int) > 600) = false := decide_eq_false (by omega)
      have h6e : decide ((600 : Int) < (m : Int)) = false := h6d
      have oa := okD_of hva
      obtain ⟨y, x, hy⟩ : ∃ y x, applyP a b = (y, x) := ⟨_, _, rfl⟩
      obtain ⟨N, hN⟩ : ∃ N, y.length = N := ⟨_, rfl⟩
      have hc : ∀ k, readK b = (k, 0) → CapL k := fun k hk => (read_cap (L := 600) (X := 600) hk (by omega) (by omega)).mono (by omega) (by omega)
      have P1 := fun w h1 h2 => Lib.hid (HP A B c d n m a b hn hm (by omega) oa.l hc N y x hy hN w h1 h2)
      have RP := fun w h1 h2 => Lib.hid (ref_dapply A B c d n m a b hn hm (by omega) oa.l.p (pcs_texts oa.1) (fun k hk => (hc k hk).p) N y x hy hN w h1 h2)
      have SM := fun A1 A2 c1 c2 w h1 h2 => Lib.hid (psame_is A1 A2 c1 c2 N N y hN.symm hN.symm w h1 h2)
      clear HD HP hva hn hm ha hb h6 oa hy hN hc
      go_enter Tryz.func4, Tryz.ntmps4
      go_wp2_with (first
        | ((with_reducible refine (A0 _).out.mono ?_); rintro e w9 ⟨rfl, hq⟩; replace HW := Lib.hid (HW.out.trans (hq.mono HW.out.size)); (try replace HA := Lib.hid (HA.out.call hq)); (try replace HB := Lib.hid (HB.out.call hq)); (try replace H1 := Lib.hid (rdB_on H1.out hq)); (try replace H2 := Lib.hid (H2.out.call hq)); (try replace H3 := Lib.hid (rdB_on H3.out hq)); (try replace H4 := Lib.hid (rdB_on H4.out hq)); (try replace H5 := Lib.hid (H5.out.call hq)); clear hq)
        | ((with_reducible refine (La _ HA.out).out.mono ?_); rintro e w9 ⟨rfl, hq⟩; replace HW := Lib.hid (HW.out.trans (hq.mono HW.out.size)); (try replace HA := Lib.hid (HA.out.call hq)); (try replace HB := Lib.hid (HB.out.call hq)); (try replace H1 := Lib.hid (rdB_on H1.out hq)); (try replace H2 := Lib.hid (H2.out.call hq)); (try replace H3 := Lib.hid (rdB_on H3.out hq)); (try replace H4 := Lib.hid (rdB_on H4.out hq)); (try replace H5 := Lib.hid (H5.out.call hq)); clear hq)
        | ((with_reducible refine (P1 _ HA.out H1.out).out.mono ?_); rintro e w9 ⟨A2, c2, rfl, hr, hq⟩; replace HW := Lib.hid (HW.out.trans (hq.mono HW.out.size)); (try replace HA := Lib.hid (HA.out.call hq)); (try replace HB := Lib.hid (HB.out.call hq)); (try replace H1 := Lib.hid (rdB_on H1.out hq)); (try replace H3 := Lib.hid (rdB_on H3.out hq)); (try replace H4 := Lib.hid (rdB_on H4.out hq)); (try replace H5 := Lib.hid (H5.out.call hq)); have H2 := Lib.hid hr; clear hr; clear hq)
        | ((with_reducible refine (RP _ HA.out H1.out).out.mono ?_); rintro e w9 ⟨A5, c5, rfl, hr, hq⟩; replace HW := Lib.hid (HW.out.trans (hq.mono HW.out.size)); (try replace HA := Lib.hid (HA.out.call hq)); (try replace HB := Lib.hid (HB.out.call hq)); (try replace H1 := Lib.hid (rdB_on H1.out hq)); (try replace H2 := Lib.hid (H2.out.call hq)); (try replace H3 := Lib.hid (rdB_on H3.out hq)); (try replace H4 := Lib.hid (rdB_on H4.out hq)); have H5 := Lib.hid hr; clear hr; clear hq)
        | ((with_reducible refine (SM _ _ _ _ _ H2.out H5.out).out.mono ?_); rintro e w9 ⟨rfl, hq⟩; replace HW := Lib.hid (HW.out.trans (hq.mono HW.out.size)); (try replace HA := Lib.hid (HA.out.call hq)); (try replace HB := Lib.hid (HB.out.call hq)); (try replace H1 := Lib.hid (rdB_on H1.out hq)); (try replace H2 := Lib.hid (H2.out.call hq)); (try replace H3 := Lib.hid (rdB_on H3.out hq)); (try replace H4 := Lib.hid (rdB_on H4.out hq)); (try replace H5 := Lib.hid (H5.out.call hq)); clear hq))
      go_ret
      exact ⟨rfl, HW.out⟩
end Go.Proofs.YtopjhebhdopjpaaGreat

namespace Go.Proofs.YtopjhebhdopjpaaGreat
open Go.RowKit

structure BsS (w : World) (S : Nat → Prop) (A : Option Addr) (c : Nat) (l : List UInt8) : Prop where
  row : RowS w S A (bytes l)
  room : l.length ≤ c
  cap : c ≤ maxLen
theorem BsS.rd {w : World} {S : Nat → Prop} {A : Option Addr} {c : Nat} {l : List UInt8} (h : BsS w S A c l) : RdB w w.heap.size A c l := ⟨h.row.at_, h.room, h.cap⟩
theorem RdB.inS {w : World} {A : Option Addr} {c : Nat} {l : List UInt8} (h : RdB w w.heap.size A c l) : BsS w (fun _ => True) A c l := ⟨(RowAt.inS h.row).mono fun _ _ => trivial, h.room, h.cap⟩
theorem OwnB.inS {w : World} {base n c : Nat} {A : Option Addr} {l : List UInt8} (h : OwnB w base (.slice A n c) l) (hn : n = l.length) : BsS w (fun g => base ≤ g) A c l := by
  obtain ⟨A', c', hv, hr⟩ := h.read
  injection hv with h1 h2 h3
  subst h1 h3
  refine ⟨?_, hr.room, hr.cap⟩
  by_cases h0 : 0 < n
  · obtain ⟨g, c', hv, -, hb⟩ := own_some h hn h0
    injection hv with hA
    subst hA
    rcases hr.row with h2 | ⟨b, o, h2, h3, h4⟩
    · exact .inl h2
    · refine .inr ⟨b, o, h2, ?_, h4⟩
      injection h2 with h2
      injection h2 with h2
      rw [← h2]; exact hb
  · exact .inl (by rw [List.eq_nil_of_length_eq_zero (by omega : l.length = 0)]; rfl)
noncomputable def kSlB : Kind Tryz.prog SlP where
  ty := 40
  el := 25
  size := 1
  bytes := 24
  zero := .slice none 0 0
  cells := fun s => [.slice s.A s.n s.c]
  len := fun _ => rfl
  one := fun s u hu => by simp at hu; subst hu; rfl
  pos := by decide
  under := Tryz.underlying40
  info := by kernel_rfl
  zsize := rfl
noncomputable def dSlB : Deep Tryz.prog SlP (List UInt8) where
  k := kSlB
  rel := fun w S b a => b.n = a.length ∧ BsS w S b.A b.c a
  mono := fun h hs => ⟨h.1, h.2.row.mono hs, h.2.room, h.2.cap⟩
  lives := fun h => ⟨h.1, h.2.row.lives, h.2.room, h.2.cap⟩
  keep := fun h hk => ⟨h.1, h.2.row.keep hk, h.2.room, h.2.cap⟩
def RdBB (w : World) (A : Option Addr) (c : Nat) (ls : List (List UInt8)) : Prop := dSlB.Rd w (fun _ => True) A c ls
theorem RdBB.call {w w' : World} {A : Option Addr} {c : Nat} {ls : List (List UInt8)} (h : RdBB w A c ls) (hb : Below w.heap.size w w') : RdBB w' A c ls := Deep.Rd.call h hb
theorem RdBB.room {w : World} {A : Option Addr} {c : Nat} {ls : List (List UInt8)} (h : RdBB w A c ls) : ls.length ≤ c := Deep.Rd.room h
theorem bbs_at {w : World} {A : Option Addr} {c : Nat} {ls : List (List UInt8)} (h : RdBB w A c ls) (hp : 0 < ls.length) :
    ∃ b o, A = some ⟨b, o, none⟩ ∧ b < w.heap.size ∧ ∀ k x, ls[k]? = some x → ∃ (A' : Option Addr) (n' c' : Nat), n' = x.length ∧ RdB w w.heap.size A' c' x ∧ w.cell? ⟨b, o + k, none⟩ = some (.slice A' n' c') := by
  obtain ⟨b, o, h1, -, h2, h3⟩ := Deep.Rd.at_ h hp
  refine ⟨b, o, h1, h2, fun k x hx => ?_⟩
  obtain ⟨y, hy, hc⟩ := h3 k x hx
  refine ⟨y.A, y.n, y.c, hy.1, hy.2.rd, ?_⟩
  have := hc 0 _ rfl
  rwa [show k * dSlB.k.size + 0 = k from by show k * 1 + 0 = k; omega] at this
theorem rdPc_of {w : World} {S : Nat → Prop} {A : Option Addr} {c : Nat} {k : List Pc} (h : dPc.Rd w S A c k) : RdPc w A c k := Deep.Rd.all h
theorem pps_atS {w : World} {S : Nat → Prop} {A : Option Addr} {c : Nat} {ls : List (List Pc)} (h : dSlP.Rd w S A c ls) (hp : 0 < ls.length) :
    ∃ b o, A = some ⟨b, o, none⟩ ∧ b < w.heap.size ∧ ∀ k x, ls[k]? = some x → ∃ (A' : Option Addr) (n' c' : Nat), n' = x.length ∧ dPc.Rd w S A' c' x ∧ w.cell? ⟨b, o + k, none⟩ = some (.slice A' n' c') := by
  obtain ⟨b, o, h1, -, h2, h3⟩ := Deep.Rd.at_ h hp
  refine ⟨b, o, h1, h2, fun k x hx => ?_⟩
  obtain ⟨y, hy, hc⟩ := h3 k x hx
  refine ⟨y.A, y.n, y.c, hy.1, hy.2, ?_⟩
  have := hc 0 _ rfl
  rwa [show k * dSlP.k.size + 0 = k from by show k * 1 + 0 = k; omega] at this
theorem pps_at {w : World} {A : Option Addr} {c : Nat} {ls : List (List Pc)} (h : RdPP w A c ls) (hp : 0 < ls.length) :
    ∃ b o, A = some ⟨b, o, none⟩ ∧ b < w.heap.size ∧ ∀ k x, ls[k]? = some x → ∃ (A' : Option Addr) (n' c' : Nat), n' = x.length ∧ RdPc w A' c' x ∧ w.cell? ⟨b, o + k, none⟩ = some (.slice A' n' c') := pps_atS h hp
theorem bs_row (w : World) (A : Option Addr) (n c : Nat) : RowAt (w.alloc (.cells #[.slice A n c] 25)) (w.heap.size + 1) (some ⟨w.heap.size, 0, none⟩) (kSlB.row [⟨A, n, c⟩]) := (Kind.rd_new (k := kSlB) (l := [⟨A, n, c⟩]) (n := 1) (by rw [kSlB.row_one]; rfl) rfl (by simp)).row
theorem holds_bytes {w2 w3 : World} {base n c : Nat} {A : Option Addr} {l : List UInt8} {v : Value} {ks : List SlP} (ho : kSlB.Own w2 base v ks) (hr : OwnB w3 w2.heap.size (.slice A n c) l) (hn : n = l.length) : dSlB.rel w3 (fun g => True ∧ v.ownBlock ≠ some g) ⟨A, n, c⟩ l :=
  ⟨hn, (hr.inS hn).row.mono fun g hg => ⟨trivial, fun e => by have := (ho.lt g e).2; omega⟩, (hr.inS hn).room, (hr.inS hn).cap⟩
end Go.Proofs.YtopjhebhdopjpaaGreat

namespace Go.Proofs.YtopjhebhdopjpaaGreat
open Go.RowKit

def Reads : List (List UInt8) → List (List Pc) → Prop
  | [], [] => True
  | d :: l, k :: ks => readK d = (k, 0) ∧ Reads l ks
  | _, _ => False
theorem reads_cap {L B : Nat} : ∀ {l : List (List UInt8)} {ks : List (List Pc)}, Reads l ks → (∀ d ∈ l, ∀ k, readK d = (k, 0) → CapN L B k) → CapN (L * l.length) (B * l.length) ks.flatten
  | [], [], _, _ => .nil _ _
  | d :: l, k :: ks, h, hc => by
    rw [Reads] at h
    rw [List.flatten_cons]
    exact ((hc d (List.mem_cons_self ..) k h.1).append (reads_cap h.2 fun x hx => hc x (List.mem_cons_of_mem _ hx))).mono (by rw [List.length_cons, Nat.mul_succ]; omega) (by rw [List.length_cons, Nat.mul_succ]; omega)
  | [], _ :: _, h, _ => False.elim h
  | _ :: _, [], h, _ => False.elim h
structure ChOk (a : List Pc) (l : List (List UInt8)) : Prop where
  each : ∀ x ∈ l, x.length ≤ 1000000 ∧ ∀ k, readK x = (k, 0) → CapL k
  at_ : ∀ i, i ≤ l.length → CapL (chainP a (l.take i)).1
  all : ∀ ks, Reads l ks → CapN 8000 20000 (a ++ ks.flatten)
def DChainC (F : FuncId) : Prop := ∀ (A B : Option Addr) (c d n m : Nat) (a : List Pc) (l : List (List UInt8)), n = a.length → m = l.length → m ≤ 900 → ChOk a l → ∀ (N : Nat) (y : List Pc) (x : Int), chainA a l = (y, x) → y.length = N → ∀ w, RdPc w A c a → RdBB w B d l → Calls Tryz.prog F #[.slice A n c, .slice B m d] w (RetPX w N x y)
theorem capL_lim {m q k B : Nat} {a : List Pc} (hk : k ≤ 5) (hm : m ≤ 8) (hq : q ≤ 57) (hB : B ≤ 10000) (h : CapN (lim m q k) B a) : CapL a := h.mono (by have := lim_few hk hm hq; omega) hB
theorem chOk_short {a : List Pc} {l : List (List UInt8)} (ha : CapN 8 2048 a) (h5 : l.length ≤ 5) (hl : ∀ x ∈ l, x.length ≤ 400) : ChOk a l :=
  ⟨fun x hx => ⟨by have := hl x hx; omega, fun k hk => (read_cap (L := 57) (X := 400) hk (hl x hx) (by omega)).mono (by omega) (by omega)⟩,
   fun i hi => capL_lim (by omega) (by omega) (by omega) (by omega) (chain_cap ha hl i hi),
   fun ks hk => (ha.append (reads_cap hk fun d hd k hr => read_cap (L := 57) (X := 400) hr (hl d hd) (by omega))).mono (by omega) (by omega)⟩
theorem chOk_deltas {a : List Pc} {t : List (List Pc)} (h : ∀ x ∈ a :: t, rightP x = true ∧ longP 8 x = false) (h5 : t.length ≤ 5) : ChOk a (deltasP a t) := by
  obtain ⟨h1, h2⟩ := deltas_puts (m := 8) (by omega) a t h
  have hr := fun x hx => right_long (h x hx).1 (h x hx).2
  refine ⟨fun d hd => ⟨(h2 d hd).1, fun k hk => ((h2 d hd).2 k hk).mono (by omega) (by omega)⟩, fun i hi => ?_, fun ks hk => ((hr a (List.mem_cons_self ..)).append (reads_cap hk fun d hd k he => (h2 d hd).2 k he)).mono (by rw [deltas_len]; omega) (by rw [deltas_len]; omega)⟩
  rw [deltas_len] at hi
  rw [deltas_take]
  have h3 := deltas_puts (m := 8) (by omega) a (t.take i) fun x hx => by
    rcases List.mem_cons.1 hx with rfl | hx
    · exact h _ (List.mem_cons_self ..)
    · exact h x (List.mem_cons_of_mem _ (List.mem_of_mem_take hx))
  have h4 := chain_deltas (t.take i) a a (h a (List.mem_cons_self ..)).1 (lessP_self a) h3.1
  show CapL (List.foldl stepP (a, 0) (deltasP a (t.take i))).1
  rw [h4]
  exact capL_lim (by omega) (by omega) (by omega) (by omega) (joins_cap (hr a (List.mem_cons_self ..)) (fun x hx => hr x (List.mem_cons_of_mem _ hx)) i hi)
set_option maxRecDepth 100000 in
set_option maxHeartbeats 8000000 in
theorem deltaChains_walk (HD : DDeltaC 8) (HP : DApplyC 10) (HC : DChainC 16)
    (A B : Option Addr) (c d n m : Nat) (l : List (List Pc)) (ds : List (List UInt8)) (hn : n = l.length) (hm : m = ds.length) (w : World) (ha : RdPP w A c l) (hb : RdBB w B d ds) :
    Calls Tryz.prog 5 #[.slice A n c, .slice B m d] w fun e w' => e = .returned (.bool true) ∧ Below w.heap.size w w' := by
  have A0 := fun w => Lib.hid (awake17 HD HP w)
  have HA := Lib.hid ha
  have HAS := Lib.hid (show dSlP.Rd w (fun g => g < w.heap.size) A c l from (Deep.Rd.lives ha).mono fun g h => h.2)
  have HB := Lib.hid hb
  have HN := Lib.hid hn
  have HM := Lib.hid hm
  have hnx : n ≤ 9223372036854775807 := Deep.Rd.max ha hn
  have hmx : m ≤ 9223372036854775807 := Deep.Rd.max hb hm
  have hcx : n ≤ c := by rw [hn]; exact Deep.Rd.room ha
  have hdx : m ≤ d := by rw [hm]; exact hb.room
  by_cases hok : n ≤ 5 ∧ m ≤ 5 ∧ 0 < n
  case neg =>
    obtain ⟨p, hp⟩ : ∃ p, decide ((n : Int) > 5) = p := ⟨_, rfl⟩
    obtain ⟨q, hq⟩ : ∃ q, decide ((m : Int) > 5) = q := ⟨_, rfl⟩
    obtain ⟨r, hr⟩ : ∃ r, ((n : Int) == 0) = r := ⟨_, rfl⟩
    have hp2 : decide ((5 : Int) < (n : Int)) = p := hp
    have hq2 : decide ((5 : Int) < (m : Int)) = q := hq
    have HZ := Lib.hid (show (p || (q || r)) = true by
      rw [Bool.or_eq_true, Bool.or_eq_true, ← hp, ← hq, ← hr, decide_eq_true_eq, decide_eq_true_eq, beq_iff_eq]
      omega)
    clear HD HP HC hn hm ha hb hok HN HM HA HB HAS
    cases p <;> cases q <;> cases r
    all_goals first
      | exact absurd HZ.out (by decide)
      | skip
    all_goals
      go_enter Tryz.func5, Tryz.ntmps5
      go_wp2_with ((with_reducible refine (A0 _).out.mono ?_); rintro e w9 ⟨rfl, hq⟩; have HW := Lib.hid hq; clear hq)
      go_ret
      exact ⟨rfl, HW.out⟩
  case pos =>
    obtain ⟨hn5, hm5, hn0⟩ := hok
    have hp1 : decide ((n : Int) > 5) = false := decide_eq_false (by omega)
    have hp2 : decide ((5 : Int) < (n : Int)) = false := hp1
    have hq1 : decide ((m : Int) > 5) = false := decide_eq_false (by omega)
    have hq2 : decide ((5 : Int) < (m : Int)) = false := hq1
    have hr1 : ((n : Int) == 0) = false := beq_eq_false_iff_ne.2 (by omega)
    have hn0i : (0 : Int) < (n : Int) := by omega
    obtain ⟨a, t, hat⟩ : ∃ a t, l = a :: t := by
      cases l with
      | nil => simp at hn; omega
      | cons a t => exact ⟨a, t, rfl⟩
    have HAT := Lib.hid hat
    have LG := fun (x : List Pc) (A : Option Addr) (c n : Nat) (hn : n = x.length) (v : Bool) (hv : longP 8 x = v) w hr => Lib.hid (ref_plong 8 8 rfl (by omega) A c n x hn v hv w hr)
    clear HD HP hn hm ha hb hat
    have hn5h := Lib.hid hn5
    have hm5h := Lib.hid hm5
    clear hn5 hm5
    go_enter Tryz.func5, Tryz.ntmps5
    go_wp2_with ((with_reducible refine (A0 _).out.mono ?_); rintro e w9 ⟨rfl, hq⟩; have HW0 := Lib.hid hq; clear hq)
    clear A0
    go_loopw [36] (fun i wr => ∃ k : Nat, k ≤ n ∧ i = .int .i64 k ∧ Hid (∀ x ∈ l.take k, longP 8 x = false) ∧ Hid (Below w.heap.size w wr)) (fun i _ => n - (intOf i).toNat)
    case atStart => exact ⟨0, by omega, rfl, fun x hx => (by simp at hx), HW0⟩
    case round =>
      obtain ⟨k, hk, rfl, HLG, HW⟩ := hrel
      by_cases hlt : k < n
      · obtain ⟨x, hg, -, -⟩ := cnt_get (l := l) (k := k) (by have := HN.out; omega)
        obtain ⟨b, o, rfl, hb1, hcell⟩ := pps_at (HA.out.call HW.out) (by have := HN.out; omega)
        obtain ⟨A1, n1, c1, hn1, hr1, q0⟩ := hcell k x hg
        obtain ⟨z, hz⟩ : ∃ z, longP 8 x = z := ⟨_, rfl⟩
        have C1 := Lib.hid (LG x A1 c1 n1 hn1 z hz wr hr1).out
        have HNX := Lib.hid (show z = false → ∀ y ∈ l.take (k + 1), longP 8 y = false from fun hf y hy => by
          rw [List.take_add_one, hg, Option.toList_some, List.mem_append, List.mem_singleton] at hy
          rcases hy with hy | rfl
          · exact HLG.out y hy
          · rw [hz, hf])
        clear hcell hg hr1 hn1 hz
        cases z
        · go_wp2_with ((with_reducible refine C1.out.mono ?_); rintro e w1 ⟨rfl, hq⟩; have HW1 := Lib.hid (HW.out.trans (hq.mono HW.out.size)); clear hq)
          go_roundw
          case rel => exact ⟨k + 1, by omega, by go_num, HNX.out (by first | rfl | trivial), HW1⟩
          case measure => simp [intOf]; omega
        · go_wp2_with ((with_reducible refine C1.out.mono ?_); rintro e w1 ⟨rfl, hq⟩; have HW1 := Lib.hid (HW.out.trans (hq.mono HW.out.size)); clear hq)
          go_ret
          exact ⟨rfl, HW1.out⟩
      · have HLL := Lib.hid (show ∀ x ∈ l, longP 8 x = false by
          have := HLG.out
          rwa [List.take_of_length_le (by have := HN.out; omega)] at this)
        clear HLG LG
        have HCA := Lib.hid (show CapN 8 2048 a from (longP_cap (HLL.out a (by rw [HAT.out]; exact List.mem_cons_self ..))).mono (by omega) (by omega))
        obtain ⟨b, o, rfl, hb1, hcell⟩ := pps_at (HA.out.call HW.out) (by have := HN.out; omega)
        obtain ⟨A1, n1, c1, hn1, hr1, q0⟩ := hcell 0 a (by rw [HAT.out]; rfl)
        rw [Nat.add_zero] at q0
        have HR1 := Lib.hid hr1
        have HN1 := Lib.hid hn1
        clear hcell hr1 hn1
        go_wp2_with fail
        clear q0
        go_loopw [7, 8, 48] (fun v f i wr => ∃ (k N9 c9 : Nat) (A9 : Option Addr) (cur : List Pc) (e : Int), k ≤ m ∧ v = .slice A9 N9 c9 ∧ f = .int .i64 e ∧ i = .int .i64 k ∧ Hid (chainP a (ds.take k) = (cur, e)) ∧ Hid (N9 = cur.length) ∧ Hid (RdPc wr A9 c9 cur) ∧ Hid (∀ x ∈ ds.take k, x.length ≤ 400) ∧ Hid (Below w.heap.size w wr)) (fun _ _ i _ => m - (intOf i).toNat)
        case atStart => exact ⟨0, n1, c1, A1, a, 0, by omega, rfl, rfl, rfl, rfl, HN1, HR1, fun x hx => (by simp at hx), HW⟩
        case round =>
          clear HW
          obtain ⟨k, N9, c9, A9, cur, e, hk, rfl, rfl, rfl, HCH, HN9, HR9, HS, HW⟩ := hrel
          by_cases hlt : k < m
          · obtain ⟨x, hg, -, -⟩ := cnt_get (l := ds) (k := k) (by have := HM.out; omega)
            obtain ⟨b2, o2, rfl, hb2, hcell⟩ := bbs_at (HB.out.call HW.out) (by have := HM.out; omega)
            obtain ⟨A2, n2, c2, hn2, hr2, q0⟩ := hcell k x hg
            have HCN := Lib.hid ((chain_take hg).trans (by rw [HCH.out]))
            by_cases h4 : n2 > 400
            · have h4d : decide ((n2 : Int) > 400) = true := decide_eq_true (by omega)
              have h4e : decide ((400 : Int) < (n2 : Int)) = true := h4d
              clear hcell hg hr2 hn2 h4
              go_wp2_with fail
              go_ret
              exact ⟨rfl, HW.out⟩
            · have h4d : decide ((n2 : Int) > 400) = false := decide_eq_false (by omega)
              have h4e : decide ((400 : Int) < (n2 : Int)) = false := h4d
              have HS2 := Lib.hid (show ∀ y ∈ ds.take (k + 1), y.length ≤ 400 from fun y hy => by
                rw [List.take_add_one, hg, Option.toList_some, List.mem_append, List.mem_singleton] at hy
                rcases hy with hy | rfl
                · exact HS.out y hy
                · omega)
              by_cases he : e = 0
              · subst he
                obtain ⟨y, e2, hy⟩ : ∃ y e2, applyP cur x = (y, e2) := ⟨_, _, rfl⟩
                obtain ⟨N2, hN2⟩ : ∃ N, y.length = N := ⟨_, rfl⟩
                have hcap := chain_cap (l := ds.take k) HCA.out HS.out k (by rw [List.length_take]; have := HM.out; omega)
                rw [List.take_take, Nat.min_self, HCH.out] at hcap
                have hcl : CapL cur := capL_lim (k := k) (by have := hm5h.out; omega) (by omega) (by omega) (by have := hm5h.out; omega) hcap
                have C2 := Lib.hid (ref_dapply A9 A2 c9 c2 N9 n2 cur x HN9.out hn2 (by omega) hcl.p (pcs_texts hcl) (fun k hk => (CapL.p ((read_cap (L := 57) (X := 400) hk (by omega) (by omega)).mono (by omega) (by omega)))) N2 y e2 hy hN2 wr HR9.out hr2)
                have HCX := Lib.hid (show chainP a (ds.take (k + 1)) = (y, e2) by rw [HCN.out, stepP_ok, hy])
                have HN2 := Lib.hid hN2
                clear hcell hg hr2 hn2 h4 hy hN2 hcap hcl
                go_wp2_with ((with_reducible refine C2.out.mono ?_); rintro e w1 ⟨A4, c4, rfl, hrd, hq⟩; have HR4 := Lib.hid hrd; have HW1 := Lib.hid (HW.out.trans (hq.mono HW.out.size)); clear hrd hq)
                go_roundw
                case rel => exact ⟨k + 1, N2, c4, A4, y, e2, by omega, rfl, rfl, by go_num, HCX, HN2.out.symm, HR4, HS2, HW1⟩
                case measure => simp [intOf]; omega
              · have hed : (e == 0) = false := beq_eq_false_iff_ne.2 he
                have HCX := Lib.hid (show chainP a (ds.take (k + 1)) = (cur, e) by rw [HCN.out, stepP_bad he])
                clear hcell hg hr2 hn2 h4 he
                go_wp2_with fail
                go_roundw
                case rel => exact ⟨k + 1, N9, c9, A9, cur, e, by omega, rfl, rfl, by go_num, HCX, HN9, HR9, HS2, HW⟩
                case measure => simp [intOf]; omega
          · have hkm : ds.take k = ds := List.take_of_length_le (by have := HM.out; omega)
            rw [hkm] at HCH HS
            clear hkm
            have HOK := Lib.hid (chOk_short HCA.out (by have := HM.out; have := hm5h.out; omega) HS.out)
            have HCL := Lib.hid (show CapL cur from by
              have h1 := chain_cap HCA.out HS.out ds.length (Nat.le_refl _)
              rw [List.take_length, HCH.out] at h1
              exact capL_lim (k := ds.length) (by have := HM.out; have := hm5h.out; omega) (by omega) (by omega) (by have := HM.out; have := hm5h.out; omega) h1)
            have HBW := Lib.hid (HB.out.call HW.out)
            obtain ⟨b2, o2, hA2, hb2, hcell⟩ := pps_at (HA.out.call HW.out) (by have := HN.out; omega)
            obtain ⟨A1x, n1x, c1x, hn1x, hr1x, q0⟩ := hcell 0 a (by rw [HAT.out]; rfl)
            injection hA2 with hA2
            injection hA2 with hA2b hA2o
            subst hA2b hA2o
            rw [Nat.add_zero] at q0
            obtain ⟨yy, N3, hyy, hN3⟩ : ∃ yy N, chainA a ds = (yy, e) ∧ yy.length = N := by
              by_cases he : e = 0
              · subst he; exact ⟨_, _, chainA_ok HCH.out, rfl⟩
              · exact ⟨_, _, chainA_bad HCH.out he, rfl⟩
            have C3 := Lib.hid (HC A1x B c1x d n1x m a ds hn1x HM.out (by have := hm5h.out; omega) HOK.out N3 yy e hyy hN3 wr hr1x HBW.out)
            have hee : (e != e) = false := by simp
            have HST := Lib.hid (HW.out)
            clear hcell hr1x hn1x HOK hb2
            by_cases he : e = 0
            case' pos =>
              subst he
              have hU : ofP cur = yy := by
                have := (chainA_ok HCH.out).symm.trans hyy
                injection this
              have C4 := fun w h => Lib.hid (ref_pof A9 c9 N9 cur HN9.out HCL.out.p yy hU N3 hN3.symm w h)
              have SM := fun A1 A2 c1 c2 w h1 h2 => Lib.hid (psame_is A1 A2 c1 c2 N3 N3 yy hN3.symm hN3.symm w h1 h2)
              clear hyy hN3 hU
              go_upto_region 23 with (first
                | ((with_reducible refine C3.out.mono ?_); rintro e w1 ⟨A5, c5, rfl, hrd, hq⟩; have HR5 := Lib.hid hrd; replace HR9 := Lib.hid (HR9.out.call hq); replace HW := Lib.hid (HW.out.trans (hq.mono HW.out.size)); clear hrd hq)
                | ((with_reducible refine (C4 _ HR9.out).out.mono ?_); rintro e w2 ⟨A6, c6, rfl, hrd, hq⟩; have HR6 := Lib.hid hrd; replace HR5 := Lib.hid (HR5.out.call hq); replace HW := Lib.hid (HW.out.trans (hq.mono HW.out.size)); clear hrd hq)
                | ((with_reducible refine (SM _ _ _ _ _ HR5.out HR6.out).out.mono ?_); rintro e w3 ⟨rfl, hq⟩; replace HW := Lib.hid (HW.out.trans (hq.mono HW.out.size)); clear hq))
              clear C4 SM HR5 HR6
            case' neg =>
              have hed : (e == 0) = false := beq_eq_false_iff_ne.2 he
              have hed2 : (e != 0) = true := by rw [bne, hed]; rfl
              obtain rfl : yy = [] := by
                have := (chainA_bad HCH.out he).symm.trans hyy
                injection this with h _
                exact h.symm
              obtain rfl : 0 = N3 := hN3
              clear hyy he
              go_upto_region 23 with ((with_reducible refine C3.out.mono ?_); rintro e w3 ⟨A5, c5, rfl, hrd, hq⟩; replace HW := Lib.hid (HW.out.trans (hq.mono HW.out.size)); clear hrd hq)
            all_goals
              obtain ⟨b2, o2, hA2, hb2, hcell⟩ := pps_at (HA.out.call HW.out) (by have := HN.out; omega)
              obtain ⟨A1y, n1y, c1y, hn1y, hr1y, q1⟩ := hcell 0 a (by rw [HAT.out]; rfl)
              injection hA2 with hA2
              injection hA2 with hA2b hA2o
              subst hA2b hA2o
              rw [Nat.add_zero] at q1
              have HR1y := Lib.hid hr1y
              have HN1y := Lib.hid hn1y
              clear hcell hr1y hn1y hb2 q0 HST HR9 HN9 HCL HBW HCH
              go_wp2_with fail
              clear q1
              go_loopw [13, 14, 100] (fun v13 v14 i wr => ∃ (k N9 c9 : Nat) (A9 : Option Addr) (al : List Pc), k ≤ n ∧ v14 = .slice A9 N9 c9 ∧ i = .int .i64 k ∧ Hid (dSlB.Own wr w.heap.size (fun _ => True) v13 (deltasP a (t.take (k - 1)))) ∧ Hid ((t.take (k - 1)).foldl joinP a = al) ∧ Hid (N9 = al.length) ∧ Hid (dPc.Rd wr (fun g => v13.ownBlock ≠ some g) A9 c9 al) ∧ Hid (∀ x ∈ l.take k, rightP x = true) ∧ Hid (Below w.heap.size w wr)) (fun _ _ i _ => n - (intOf i).toNat)
              case atStart => exact ⟨0, n1y, c1y, A1y, a, by omega, rfl, rfl, (by show dSlB.Own _ _ _ _ (deltasP a (t.take 0)); rw [List.take_zero, deltasP]; exact Deep.Own.nil _ _ _), rfl, HN1y, HR1y.out.mono (fun g _ e => by cases e), fun x hx => (by simp at hx), HW⟩
              case round =>
                clear HW
                obtain ⟨k, N9, c9, A9, al, hk, rfl, rfl, HO, HAL, HN9, HR9, HRT, HW⟩ := hrel
                by_cases hlt : k < n
                · obtain ⟨x, hg, -, -⟩ := cnt_get (l := l) (k := k) (by have := HN.out; omega)
                  obtain ⟨b2, o2, hA2, hb2, hcell⟩ := pps_atS (HAS.out.call HW.out) (by have := HN.out; omega)
                  injection hA2 with hA2
                  injection hA2 with hA2b hA2o
                  subst hA2b hA2o
                  obtain ⟨A2, n2, c2, hn2, hr2, q0⟩ := hcell k x hg
                  obtain ⟨z, hz⟩ : ∃ z, rightP x = z := ⟨_, rfl⟩
                  have hxl := HLL.out x (List.mem_of_getElem? hg)
                  have hxc : CapN 8 2048 x := (longP_cap hxl).mono (by omega) (by omega)
                  have CR := Lib.hid (ref_pright A2 c2 n2 x hn2 (pcs_texts hxc) z hz wr hr2.all)
                  cases z with
                  | false =>
                    clear hcell hg hr2 hn2 hz hxl hxc HO
                    go_wp2_with ((with_reducible refine CR.out.mono ?_); rintro e w4 ⟨rfl, hq⟩; replace HW := Lib.hid (HW.out.trans (hq.mono HW.out.size)); clear hq)
                    go_ret
                    exact ⟨rfl, HW.out⟩
                  | true =>
                    have HRT2 := Lib.hid (show ∀ y ∈ l.take (k + 1), rightP y = true from fun y hy => by
                      rw [List.take_add_one, hg, Option.toList_some, List.mem_append, List.mem_singleton] at hy
                      rcases hy with hy | rfl
                      · exact HRT.out y hy
                      · exact hz)
                    cases k with
                    | zero =>
                      have hk0 : decide (((0 : Nat) : Int) > 0) = false := rfl
                      clear hcell hg hr2 hn2 hz hxl hxc
                      rw [Nat.add_zero] at q0
                      go_wp2_with ((with_reducible refine CR.out.mono ?_); rintro e w4 ⟨rfl, hq⟩; replace HO := Lib.hid (HO.out.below hq); replace HR9 := Lib.hid (Deep.Rd.call HR9.out hq); replace HW := Lib.hid (HW.out.trans (hq.mono HW.out.size)); clear hq)
                      go_roundw
                      case rel => exact ⟨0 + 1, N9, c9, A9, al, by omega, rfl, by go_num, HO, HAL, HN9, HR9, HRT2, HW⟩
                      case measure => simp [intOf]; omega
                    | succ j =>
                      obtain ⟨p, hgp, -, -⟩ := cnt_get (l := l) (k := j) (by have := HN.out; omega)
                      obtain ⟨A3, n3, c3, hn3, hr3, q2⟩ := hcell j p hgp
                      have hpr : rightP p = true := HRT.out p (List.mem_of_getElem? (l := l.take (j + 1)) (i := j) (by rw [List.getElem?_take, if_pos (by omega)]; exact hgp))
                      have hpl := HLL.out p (List.mem_of_getElem? hgp)
                      have hpc : CapL p := (longP_cap hpl).mono (by omega) (by omega)
                      have hxL : CapL x := hxc.mono (by omega) (by omega)
                      obtain ⟨d1, d2, d3⟩ := delta_put (m := 8) (by omega) hpr hz hpl hxl
                      have htx : t[j]? = some x := by have := hg; rw [HAT.out, List.getElem?_cons_succ] at this; exact this
                      have htp : (a :: t)[j]? = some p := by rw [← HAT.out]; exact hgp
                      obtain ⟨L, hL⟩ : ∃ L, deltaB p x = L := ⟨_, rfl⟩
                      obtain ⟨NL, hNL⟩ : ∃ N, N = L.length := ⟨_, rfl⟩
                      have HDN := Lib.hid ((deltas_next j a t p x htp htx).trans (by rw [hL]))
                      have e9 : a :: t.take j = l.take (j + 1) := by rw [HAT.out, List.take_succ_cons]
                      have hall9 : ∀ y ∈ a :: t.take j, rightP y = true ∧ longP 8 y = false := fun y hy => by rw [e9] at hy; exact ⟨HRT.out y hy, HLL.out y (List.mem_of_mem_take hy)⟩
                      have hcal := joins_cap (l := t.take j) (right_long (hall9 a (List.mem_cons_self ..)).1 (hall9 a (List.mem_cons_self ..)).2) (fun y hy => right_long (hall9 y (List.mem_cons_of_mem _ hy)).1 (hall9 y (List.mem_cons_of_mem _ hy)).2) (t.take j).length (Nat.le_refl _)
                      have HAL' : (t.take j).foldl joinP a = al := HAL.out
                      rw [List.take_length, HAL'] at hcal
                      have htj : (t.take j).length ≤ 5 := by rw [List.length_take]; have := hn5h.out; omega
                      have hal : CapL al := capL_lim (k := (t.take j).length) htj (by omega) (by omega) (by omega) hcal
                      obtain ⟨J, hJ⟩ : ∃ J, joinP al x = J := ⟨_, rfl⟩
                      obtain ⟨NJ, hNJ⟩ : ∃ N, N = J.length := ⟨_, rfl⟩
                      have HJN := Lib.hid (show (t.take (j + 1)).foldl joinP a = J by rw [List.take_add_one, htx, Option.toList_some, List.foldl_append, HAL']; exact hJ)
                      have CD := fun w h1 h2 => Lib.hid (ref_ddelta_own A3 A2 c3 c2 n3 n2 p x hn3 hn2 hpc.p hxL.p d2 w h1 h2)
                      rw [hL] at CD
                      have CJ := fun w h1 h2 => Lib.hid (ref_pjoin_new A9 A2 c9 c2 N9 n2 al x HN9.out hn2 hal.p hxL.p J hJ NJ hNJ w h1 h2)
                      obtain ⟨ks, ho, hall⟩ := HO.out
                      have hlen : ks.length = (deltasP a (t.take j)).length := hall.1
                      have HKO := Lib.hid ho
                      have HKA := Lib.hid (show dSlB.All wr _ ks (deltasP a (t.take j)) from hall)
                      have HLE := Lib.hid (show ks.length + [(⟨none, 0, 0⟩ : SlP)].length ≤ 1000000 by rw [hlen, deltas_len, List.length_singleton]; omega)
                      have H2 := Lib.hid hr2
                      have H3 := Lib.hid hr3
                      have HNL := Lib.hid hNL
                      have HNJ := Lib.hid hNJ
                      have hk1 : (0 : Int) ≤ (j : Int) + 1 := by omega
                      have hkn1 : (j : Int) + 1 < (n : Int) := by omega
                      have hj0 : (0 : Int) ≤ (j : Int) := by omega
                      have hjn : (j : Int) < (n : Int) := by omega
                      have hjd : decide ((j : Int) < 0) = false := decide_eq_false (by omega)
                      have hjg : decide ((0 : Int) < (j : Int) + 1) = true := decide_eq_true (by omega)
                      have hjg2 : decide ((j : Int) + 1 > 0) = true := hjg
                      have hjw : IntKind.i64.wrap ((j : Int) + 1 - 1) = (j : Int) := by rw [Int.add_sub_cancel]; exact IntWalk.i64_in _ (by omega)
                      have hjw2 : IntKind.i64.wrap (j : Int) = (j : Int) := IntWalk.i64_in _ (by omega)
                      have q2b := fun (w' : World) (hb : Below w.heap.size w w') => Lib.hid (pps_atS (HAS.out.call hb) (by have := HN.out; omega))
                      clear hcell hg hgp hr2 hr3 hn2 hn3 hz hxl hxc hpr hpl hpc hxL d1 d2 d3 htx htp hL hNL e9 hall9 hcal HAL' htj hal hJ hNJ ho hall hlen HO HAL q2b
                      go_wp2_with (first
                        | ((with_reducible refine CR.out.mono ?_); rintro e w4 ⟨rfl, hq⟩; have q2' := ((bcell hq).1 _ _ (World.block_lt_of_cell? _ _ q2)).trans q2; replace HKO := Lib.hid (Kind.Own.below HKO.out hq); replace HKA := Lib.hid (HKA.out.keep (keptS_below hq _)); replace HR9 := Lib.hid (Deep.Rd.call HR9.out hq); replace H2 := Lib.hid (Deep.Rd.call H2.out hq); replace H3 := Lib.hid (Deep.Rd.call H3.out hq); replace HW := Lib.hid (HW.out.trans (hq.mono HW.out.size)); clear hq)
                        | ((with_reducible refine (CD _ (rdPc_of H3.out) (rdPc_of H2.out)).out.mono ?_); rintro e w5 ⟨v2, rfl, ho2, hq⟩; obtain ⟨A5, c5, rfl, -⟩ := ho2.read_n HNL.out; have HH := Lib.hid (holds_bytes HKO.out ho2 HNL.out); replace HKO := Lib.hid (Kind.Own.below HKO.out hq); replace HKA := Lib.hid (HKA.out.keep (keptS_below hq _)); replace HR9 := Lib.hid (Deep.Rd.call HR9.out hq); replace H2 := Lib.hid (Deep.Rd.call H2.out hq); replace HW := Lib.hid (HW.out.trans (hq.mono HW.out.size)); clear hq ho2)
                        | (at_builtin; refine wpList_app_k kSlB rfl (.tmp 110) (.tmp 118) rfl w.heap.size _ ks rfl (Kind.Own.alloc HKO.out _) _ (some ⟨w5.heap.size, 0, none⟩) 1 1 [⟨A5, NL, c5⟩] rfl rfl (bs_row w5 _ _ _) HLE.out (by decide) (cle_alloc HW.out.size _) ?_; intro v6 w6 hown6 hg6 hb6 hv6; have HO6 := Lib.hid (Deep.Own.app (HKA.out.keep (keptS_below (below_new w5 _) _)) (.one (dSlB.keep HH.out (keptS_below (below_new w5 _) _))) hown6 hg6 hv6); replace HR9 := Lib.hid (Deep.Rd.keep (Deep.Rd.call HR9.out (below_new w5 _)) (keptS_grown hg6 fun g h => h)); replace H2 := Lib.hid (Deep.Rd.keep (Deep.Rd.call H2.out (below_new w5 _)) (keptS_under hb6 fun g h => h)); replace HW := Lib.hid ((HW.out.alloc HW.out.size _).trans hb6); clear hown6 hg6 hb6 hv6)
                        | ((with_reducible refine (CJ _ (rdPc_of HR9.out) (rdPc_of H2.out)).out.mono ?_); rintro e w7 ⟨A7, c7, rfl, hrd, hq⟩; have HR7 := Lib.hid (Deep.Rd.mono hrd (T := fun g => v6.ownBlock ≠ some g) fun g hg e9 => by have := (Deep.Own.lt HO6.out g e9).2; omega); replace HO6 := Lib.hid (Deep.Own.below HO6.out hq); replace HW := Lib.hid (HW.out.trans (hq.mono HW.out.size)); clear hrd hq))
                      go_roundw
                      case rel => exact ⟨j + 1 + 1, NJ, c7, A7, J, by omega, rfl, by go_num, (by show dSlB.Own _ _ _ _ (deltasP a (t.take (j + 1))); rw [HDN.out]; exact HO6.out), HJN, HNJ, HR7, HRT2, HW⟩
                      case measure => simp [intOf]; omega
                · have htk : t.take (k - 1) = t := List.take_of_length_le (by have := HN.out; rw [HAT.out, List.length_cons] at this; omega)
                  rw [htk] at HO HAL
                  have HRA : ∀ x ∈ a :: t, rightP x = true ∧ longP 8 x = false := fun x hx => by
                    rw [← HAT.out] at hx
                    exact ⟨HRT.out x (by rw [List.take_of_length_le (by have := HN.out; omega)]; exact hx), HLL.out x hx⟩
                  have ht5 : t.length ≤ 5 := by have := HN.out; have := hn5h.out; rw [HAT.out, List.length_cons] at *; omega
                  obtain ⟨NS, hNS⟩ : ∃ N, N = (deltasP a t).length := ⟨_, rfl⟩
                  obtain ⟨AS, cS, rfl, hrdS⟩ := HO.out.rd (n := NS) hNS (fun _ _ => trivial)
                  have hch := chain_all t (HRA a (List.mem_cons_self ..)).1 (deltas_puts (m := 8) (by omega) a t HRA).1
                  rw [HAL.out] at hch
                  obtain ⟨U, hU⟩ : ∃ U, ofP al = U := ⟨_, rfl⟩
                  obtain ⟨NU, hNU⟩ : ∃ N, U.length = N := ⟨_, rfl⟩
                  obtain ⟨b2, o2, hA2, hb2, hcell⟩ := pps_atS (HAS.out.call HW.out) (by have := HN.out; omega)
                  injection hA2 with hA2
                  injection hA2 with hA2b hA2o
                  subst hA2b hA2o
                  obtain ⟨A1z, n1z, c1z, hn1z, hr1z, q0⟩ := hcell 0 a (by rw [HAT.out]; rfl)
                  rw [Nat.add_zero] at q0
                  have hcal := joins_cap (l := t) (right_long (HRA a (List.mem_cons_self ..)).1 (HRA a (List.mem_cons_self ..)).2) (fun y hy => right_long (HRA y (List.mem_cons_of_mem _ hy)).1 (HRA y (List.mem_cons_of_mem _ hy)).2) t.length (Nat.le_refl _)
                  rw [List.take_length, HAL.out] at hcal
                  have hal : CapL al := capL_lim (k := t.length) ht5 (by omega) (by omega) (by omega) hcal
                  have C7 := Lib.hid (HC A1z AS c1z cS n1z NS a (deltasP a t) hn1z hNS (by rw [hNS, deltas_len]; omega) (chOk_deltas HRA ht5) NU U 0 (by rw [hch, hU]) hNU wr hr1z.all hrdS)
                  have C8 := fun w h => Lib.hid (ref_pof A9 c9 N9 al HN9.out hal.p U hU NU hNU.symm w h)
                  have SM := fun A1 A2 c1 c2 w h1 h2 => Lib.hid (psame_is A1 A2 c1 c2 NU NU U hNU.symm hNU.symm w h1 h2)
                  have H9 := Lib.hid (rdPc_of HR9.out)
                  clear HO HAL HRA ht5 hNS hrdS hch hU hNU hcell hr1z hn1z hcal hal HR9
                  go_wp2_with (first
                    | ((with_reducible refine C7.out.mono ?_); rintro e w4 ⟨A7, c7, rfl, hrd, hq⟩; have H7 := Lib.hid hrd; replace H9 := Lib.hid (H9.out.call hq); replace HW := Lib.hid (HW.out.trans (hq.mono HW.out.size)); clear hrd hq)
                    | ((with_reducible refine (C8 _ H9.out).out.mono ?_); rintro e w5 ⟨A8, c8, rfl, hrd, hq⟩; have H8 := Lib.hid hrd; replace H7 := Lib.hid (H7.out.call hq); replace HW := Lib.hid (HW.out.trans (hq.mono HW.out.size)); clear hrd hq)
                    | ((with_reducible refine (SM _ _ _ _ _ H7.out H8.out).out.mono ?_); rintro e w6 ⟨rfl, hq⟩; replace HW := Lib.hid (HW.out.trans (hq.mono HW.out.size)); clear hq))
                  go_ret
                  exact ⟨rfl, HW.out⟩
end Go.Proofs.YtopjhebhdopjpaaGreat

namespace Go.Proofs.YtopjhebhdopjpaaGreat

def SortedL (l : List Rng) : Prop := l.Pairwise fun a b => ltB b.lo a.lo = false
theorem hasR_eq {r : Rng} (h : rightR r = true) (s : List UInt8) : hasR r s = (!ltB s r.lo && (r.op || ltB s r.hi)) := by unfold hasR aheadR; rw [h, Bool.true_and]
theorem more_right {p r : Rng} (hp : rightR p = true) (hr : rightR r = true) (h : ltB r.lo p.lo = false) : rightR ⟨p.lo, r.hi, r.op⟩ = true :=
  rightR_iff.2 ⟨(show p.lo.length ≤ 17 from rightR_lo hp), (show r.hi.length ≤ 17 from rightR_hi hr), (show r.op = true → r.hi = [] from rightR_op hr), (show r.op = false → ltB p.lo r.hi = true from fun ho => ltB_of_le_of_lt h (rightR_lt hr ho))⟩
def edgesR : List Rng → List (List UInt8)
  | [] => []
  | r :: l => match r.op with
    | true => r.lo :: edgesR l
    | false => r.lo :: r.hi :: edgesR l
theorem edgesR_open {r : Rng} {l : List Rng} (h : r.op = true) : edgesR (r :: l) = r.lo :: edgesR l := by rw [edgesR, h]
theorem edgesR_shut {r : Rng} {l : List Rng} (h : r.op = false) : edgesR (r :: l) = r.lo :: r.hi :: edgesR l := by rw [edgesR, h]
theorem edgesR_append : ∀ (a b : List Rng), edgesR (a ++ b) = edgesR a ++ edgesR b
  | [], _ => rfl
  | r :: a, b => by
    rw [List.cons_append]
    cases ho : r.op with
    | true => rw [edgesR_open ho, edgesR_open ho, edgesR_append a b, List.cons_append]
    | false => rw [edgesR_shut ho, edgesR_shut ho, edgesR_append a b, List.cons_append, List.cons_append]
def riseB : List (List UInt8) → Bool
  | [] => true
  | x :: l => risingB x l
theorem risingB_of {c x : List UInt8} {l : List (List UInt8)} (h : ltB c x = true) (h' : risingB x l = true) : risingB c (x :: l) = true := by unfold risingB; rw [h, h']; rfl
theorem edgesR_rise : ∀ {l : List Rng}, rightL l = true → (∀ c, (∀ r m, l = r :: m → ltB c r.lo = true) → risingB c (edgesR l) = true)
  | [], _, _, _ => rfl
  | r :: l, h, c, hc => by
    have h1 := hc r l rfl
    cases ho : r.op with
    | true =>
      have hl : l = [] := by
        cases l with
        | nil => rfl
        | cons t m => have := (rightL_gap h).1; rw [ho] at this; cases this
      rw [edgesR_open ho, hl]
      exact risingB_of h1 rfl
    | false =>
      rw [edgesR_shut ho]
      refine risingB_of h1 (risingB_of (rightR_lt (rightL_head h) ho) (edgesR_rise (rightL_tail h) _ fun t m e => ?_))
      subst e
      exact (rightL_gap h).2
theorem edgesR_riseB {l : List Rng} (h : rightL l = true) : riseB (edgesR l) = true := by
  cases l with
  | nil => rfl
  | cons r l =>
    cases ho : r.op with
    | true =>
      have hl : l = [] := by
        cases l with
        | nil => rfl
        | cons t m => have := (rightL_gap h).1; rw [ho] at this; cases this
      rw [edgesR_open ho, hl]; rfl
    | false =>
      rw [edgesR_shut ho]
      refine risingB_of (rightR_lt (rightL_head h) ho) (edgesR_rise (rightL_tail h) _ fun t m e => ?_)
      subst e
      exact (rightL_gap h).2
theorem edgesR_len17 : ∀ {l : List Rng}, (∀ r ∈ l, rightR r = true) → ∀ x ∈ edgesR l, x.length ≤ 17
  | [], _, x, hx => by cases hx
  | r :: l, h, x, hx => by
    have h1 := h r (List.mem_cons_self ..)
    have h2 := edgesR_len17 fun t ht => h t (List.mem_cons_of_mem _ ht)
    cases ho : r.op with
    | true =>
      rw [edgesR_open ho] at hx
      rcases List.mem_cons.1 hx with rfl | hx
      · exact rightR_lo h1
      · exact h2 x hx
    | false =>
      rw [edgesR_shut ho] at hx
      rcases List.mem_cons.1 hx with rfl | hx
      · exact rightR_lo h1
      · rcases List.mem_cons.1 hx with rfl | hx
        · exact rightR_hi h1
        · exact h2 x hx
theorem edgesR_len : ∀ l : List Rng, (edgesR l).length ≤ 2 * l.length
  | [] => by simp [edgesR]
  | r :: l => by
    have := edgesR_len l
    cases ho : r.op with
    | true => rw [edgesR_open ho]; simp only [List.length_cons]; omega
    | false => rw [edgesR_shut ho]; simp only [List.length_cons]; omega
def togV : Bool → List (List UInt8) → List UInt8 → Bool
  | v, [], _ => v
  | v, x :: l, s => match ltB s x with | true => v | false => togV (!v) l s
theorem togV_low {v : Bool} {x s : List UInt8} {l : List (List UInt8)} (h : ltB s x = true) : togV v (x :: l) s = v := by rw [togV, h]
theorem togV_high {v : Bool} {x s : List UInt8} {l : List (List UInt8)} (h : ltB s x = false) : togV v (x :: l) s = togV (!v) l s := by rw [togV, h]
theorem togV_all {v : Bool} {s : List UInt8} {l : List (List UInt8)} (h : ∀ x ∈ l, ltB s x = true) : togV v l s = v := by
  cases l with
  | nil => rfl
  | cons x l => exact togV_low (h x (List.mem_cons_self ..))
theorem togV_edges : ∀ {l : List Rng}, rightL l = true → ∀ s, togV false (edgesR l) s = hasL l s
  | [], _, _ => rfl
  | r :: l, h, s => by
    have hr := rightL_head h
    cases h1 : ltB s r.lo with
    | true =>
      have h2 : hasL (r :: l) s = false := by
        cases hc : hasL (r :: l) s with
        | false => rfl
        | true => rw [hasL_ge h hc] at h1; cases h1
      rw [h2]
      cases ho : r.op with
      | true => rw [edgesR_open ho, togV_low h1]
      | false => rw [edgesR_shut ho, togV_low h1]
    | false =>
      cases ho : r.op with
      | true =>
        have hl : l = [] := by
          cases l with
          | nil => rfl
          | cons t m => have := (rightL_gap h).1; rw [ho] at this; cases this
        rw [edgesR_open ho, togV_high h1, hl, hasL_cons, hasR_eq hr, h1, ho]; rfl
      | false =>
        rw [edgesR_shut ho, togV_high h1, hasL_cons, hasR_eq hr, h1, ho]
        cases h3 : ltB s r.hi with
        | true => rw [togV_low h3]; rfl
        | false => rw [togV_high h3, show (!!false) = false from rfl, togV_edges (rightL_tail h)]; rfl
def dropE (e : List UInt8) : List (List UInt8) → List (List UInt8)
  | [] => []
  | x :: l => match decide (x = e) with | true => l | false => x :: l
def passB (e : List UInt8) (v : Bool) : List (List UInt8) → Bool
  | [] => v
  | x :: _ => match decide (x = e) with | true => !v | false => v
theorem dropE_same {e : List UInt8} {l : List (List UInt8)} : dropE e (e :: l) = l := by rw [dropE, decide_eq_true rfl]
theorem dropE_other {e x : List UInt8} {l : List (List UInt8)} (h : x ≠ e) : dropE e (x :: l) = x :: l := by rw [dropE, decide_eq_false h]
theorem passB_same {e : List UInt8} {v : Bool} {l : List (List UInt8)} : passB e v (e :: l) = !v := by rw [passB, decide_eq_true rfl]
theorem passB_other {e x : List UInt8} {v : Bool} {l : List (List UInt8)} (h : x ≠ e) : passB e v (x :: l) = v := by rw [passB, decide_eq_false h]
theorem dropE_len (e : List UInt8) (l : List (List UInt8)) : (dropE e l).length ≤ l.length := by
  cases l with
  | nil => exact Nat.le_refl _
  | cons x l =>
    by_cases h : x = e
    · subst h; rw [dropE_same]; simp
    · rw [dropE_other h]; exact Nat.le_refl _
def FromE (e : List UInt8) (l : List (List UInt8)) : Prop := riseB l = true ∧ ∀ x ∈ l, ltB x e = false
theorem FromE.drop {e : List UInt8} {l : List (List UInt8)} (h : FromE e l) : risingB e (dropE e l) = true := by
  obtain ⟨h1, h2⟩ := h
  cases l with
  | nil => rfl
  | cons x l =>
    by_cases hx : x = e
    · subst hx; rw [dropE_same]; exact h1
    · rw [dropE_other hx]
      refine risingB_of ?_ h1
      have h3 := h2 x (List.mem_cons_self ..)
      cases hc : ltB e x with
      | true => rfl
      | false => exact absurd (ltB_total h3 hc) hx
theorem FromE.pass {e : List UInt8} {l : List (List UInt8)} {v : Bool} (_h : FromE e l) {s : List UInt8} (hs : ltB s e = false) : togV (passB e v l) (dropE e l) s = togV v l s := by
  cases l with
  | nil => rfl
  | cons x l =>
    by_cases hx : x = e
    · subst hx; rw [dropE_same, passB_same, togV_high hs]
    · rw [dropE_other hx, passB_other hx]
theorem FromE.at {e : List UInt8} {l : List (List UInt8)} {v : Bool} (h : FromE e l) : togV v l e = passB e v l := by
  rw [← h.pass (ltB_irrefl e)]
  exact togV_all (rising_all h.drop)
def nearE : List (List UInt8) → List (List UInt8) → Option (List UInt8)
  | [], [] => none
  | [], y :: _ => some y
  | x :: _, [] => some x
  | x :: _, y :: _ => match ltB x y with | true => some x | false => some y
theorem nearE_lt {x y : List UInt8} {a b : List (List UInt8)} (h : ltB x y = true) : nearE (x :: a) (y :: b) = some x := by rw [nearE, h]
theorem nearE_ge {x y : List UInt8} {a b : List (List UInt8)} (h : ltB x y = false) : nearE (x :: a) (y :: b) = some y := by rw [nearE, h]
theorem nearE_some {c e : List UInt8} {a b : List (List UInt8)} (ha : risingB c a = true) (hb : risingB c b = true) (h : nearE a b = some e) :
    ltB c e = true ∧ FromE e a ∧ FromE e b ∧ (dropE e a).length + (dropE e b).length < a.length + b.length ∧ (e ∈ a ∨ e ∈ b) := by
  have up : ∀ {x : List UInt8} {l : List (List UInt8)}, risingB x l = true → ∀ y ∈ x :: l, ltB y x = false := fun hl y hy => by
    rcases List.mem_cons.1 hy with rfl | hy
    · exact ltB_irrefl _
    · exact ltB_asymm (rising_all hl y hy)
  cases a with
  | nil =>
    cases b with
    | nil => cases h
    | cons y b =>
      obtain rfl : y = e := by rw [nearE] at h; injection h
      obtain ⟨h1, h2⟩ := rising_head hb
      refine ⟨h1, ⟨rfl, by simp⟩, ⟨h2, up h2⟩, ?_, .inr (List.mem_cons_self ..)⟩
      rw [dropE_same]; simp [dropE]
  | cons x a =>
    obtain ⟨h1, h2⟩ := rising_head ha
    cases b with
    | nil =>
      obtain rfl : x = e := by rw [nearE] at h; injection h
      refine ⟨h1, ⟨h2, up h2⟩, ⟨rfl, by simp⟩, ?_, .inl (List.mem_cons_self ..)⟩
      rw [dropE_same]; simp [dropE]
    | cons y b =>
      obtain ⟨h3, h4⟩ := rising_head hb
      cases hxy : ltB x y with
      | true =>
        rw [nearE_lt hxy] at h
        obtain rfl : x = e := by injection h
        refine ⟨h1, ⟨h2, up h2⟩, ⟨h4, fun z hz => leB_trans (ltB_asymm hxy) (up h4 z hz)⟩, ?_, .inl (List.mem_cons_self ..)⟩
        have := dropE_len x (y :: b)
        rw [dropE_same]; simp only [List.length_cons] at this ⊢; omega
      | false =>
        rw [nearE_ge hxy] at h
        obtain rfl : y = e := by injection h
        refine ⟨h3, ⟨h2, fun z hz => leB_trans hxy (up h2 z hz)⟩, ⟨h4, up h4⟩, ?_, .inr (List.mem_cons_self ..)⟩
        have := dropE_len y (x :: a)
        rw [dropE_same]; simp only [List.length_cons] at this ⊢; omega
def mrgE : Nat → List (List UInt8) → List (List UInt8) → List (List UInt8)
  | 0, _, _ => []
  | n + 1, a, b => match nearE a b with
    | none => []
    | some e => e :: mrgE n (dropE e a) (dropE e b)
theorem mrgE_some {n : Nat} {a b : List (List UInt8)} {e : List UInt8} (h : nearE a b = some e) : mrgE (n + 1) a b = e :: mrgE n (dropE e a) (dropE e b) := by rw [mrgE, h]
theorem mrgE_none {n : Nat} {a b : List (List UInt8)} (h : nearE a b = none) : mrgE n a b = [] := by
  cases n with
  | zero => rfl
  | succ n => rw [mrgE, h]
def restE (n : Nat) (a b : List (List UInt8)) : Option (List UInt8) → List (List UInt8)
  | none => []
  | some e => e :: mrgE n (dropE e a) (dropE e b)
theorem restE_next (n : Nat) (a b : List (List UInt8)) : mrgE (n + 1) a b = restE n a b (nearE a b) := by
  cases hn : nearE a b with
  | none => rw [mrgE_none hn]; rfl
  | some e => rw [mrgE_some hn]; rfl
end Go.Proofs.YtopjhebhdopjpaaGreat

namespace Go.Proofs.YtopjhebhdopjpaaGreat

theorem last_cases {α : Type} (l : List α) : l = [] ∨ ∃ a b, l = a ++ [b] := by
  cases h : l.reverse with
  | nil => left; simpa using h
  | cons b a => right; exact ⟨a.reverse, b, by have := congrArg List.reverse h; simpa using this⟩
theorem catK_none : ∀ {k : List Pc} {s : List UInt8}, (∀ p ∈ k, hasR p.rng s = false) → catK k s = []
  | [], _, _ => rfl
  | p :: k, s, h => by rw [catK, setP_no (h p (List.mem_cons_self ..)), catK_none fun q hq => h q (List.mem_cons_of_mem _ hq)]; rfl
theorem catK_some : ∀ {k : List Pc} {p : Pc} {s : List UInt8}, p ∈ k → hasR p.rng s = true → p.set ≠ [] → catK k s ≠ []
  | q :: k, p, s, h, hr, hs => by
    rw [catK]
    rcases List.mem_cons.1 h with rfl | h
    · rw [setP_yes hr]; intro e; exact hs (List.append_eq_nil_iff.1 e).1
    · intro e; exact catK_some h hr hs (List.append_eq_nil_iff.1 e).2
theorem hasR_past {r : Rng} {c s : List UInt8} (ho : r.op = false) (hc : ltB c r.hi = false) (hs : ltB s c = false) : hasR r s = false := by
  unfold hasR aheadR
  rw [ho, leB_trans hc hs, Bool.false_or, Bool.and_false]
theorem rightP_snoc : ∀ {k : List Pc} {q p : Pc}, rightP (k ++ [q]) = true → onePc p = true → gapP q p = true → rightP (k ++ [q] ++ [p]) = true
  | [], q, p, h, hp, hg => by
    have h1 : onePc q = true := h
    show (onePc q && gapP q p && onePc p) = true
    rw [h1, hg, hp]; rfl
  | [a], q, p, h, hp, hg => by
    have h1 := rightP_snoc (k := []) (q := q) (p := p) (rightP_tail h) hp hg
    have h2 : (onePc a && gapP a q && onePc q) = true := h
    show (onePc a && gapP a q && rightP [q, p]) = true
    simp only [Bool.and_eq_true] at h2 ⊢
    exact ⟨h2.1, h1⟩
  | a :: b :: k, q, p, h, hp, hg => by
    have h1 := rightP_snoc (k := b :: k) (q := q) (p := p) (rightP_tail h) hp hg
    have h2 : (onePc a && gapP a b && rightP (b :: k ++ [q])) = true := h
    show (onePc a && gapP a b && rightP (b :: k ++ [q] ++ [p])) = true
    simp only [Bool.and_eq_true] at h2 ⊢
    exact ⟨h2.1, h1⟩
theorem gapP_like {a p q : Pc} (h1 : p.rng.lo = q.rng.lo) (h2 : p.set = q.set) : gapP a p = gapP a q := by unfold gapP; rw [h1, h2]
theorem rightP_last : ∀ {k : List Pc} {q p : Pc}, rightP (k ++ [q]) = true → onePc p = true → p.rng.lo = q.rng.lo → p.set = q.set → rightP (k ++ [p]) = true
  | [], q, p, _, hp, _, _ => hp
  | [a], q, p, h, hp, h1, h2 => by
    have h3 : (onePc a && gapP a q && onePc q) = true := h
    show (onePc a && gapP a p && onePc p) = true
    rw [gapP_like h1 h2, hp]
    simp only [Bool.and_eq_true] at h3 ⊢
    exact ⟨h3.1, trivial⟩
  | a :: b :: k, q, p, h, hp, h1, h2 => by
    have h4 := rightP_last (k := b :: k) (q := q) (p := p) (rightP_tail h) hp h1 h2
    have h3 : (onePc a && gapP a b && rightP (b :: k ++ [q])) = true := h
    show (onePc a && gapP a b && rightP (b :: k ++ [p])) = true
    simp only [Bool.and_eq_true] at h3 ⊢
    exact ⟨h3.1, h4⟩
theorem rightP_front : ∀ {k : List Pc} {q : Pc}, rightP (k ++ [q]) = true → onePc q = true := fun {k q} h => rightP_all h q (by simp)

def putP (k : List Pc) (r : Rng) (S : List Kn) : List Pc := match S with
  | [] => k
  | x :: y => match k.getLast? with
    | none => [⟨r, x :: y⟩]
    | some q => match gapP q ⟨r, x :: y⟩ with
      | true => k ++ [⟨r, x :: y⟩]
      | false => k.dropLast ++ [⟨⟨q.rng.lo, r.hi, r.op⟩, q.set⟩]
theorem putP_no (k : List Pc) (r : Rng) : putP k r [] = k := rfl
theorem putP_first {r : Rng} {S : List Kn} (h : S ≠ []) : putP [] r S = [⟨r, S⟩] := by
  cases S with
  | nil => exact absurd rfl h
  | cons x y => rfl
theorem putP_gap {k : List Pc} {q : Pc} {r : Rng} {S : List Kn} (h : S ≠ []) (hg : gapP q ⟨r, S⟩ = true) : putP (k ++ [q]) r S = k ++ [q] ++ [⟨r, S⟩] := by
  cases S with
  | nil => exact absurd rfl h
  | cons x y => simp only [putP, List.getLast?_concat, hg]
theorem putP_more {k : List Pc} {q : Pc} {r : Rng} {S : List Kn} (h : S ≠ []) (hg : gapP q ⟨r, S⟩ = false) : putP (k ++ [q]) r S = k ++ [⟨⟨q.rng.lo, r.hi, r.op⟩, q.set⟩] := by
  cases S with
  | nil => exact absurd rfl h
  | cons x y => simp only [putP, List.getLast?_concat, hg, List.dropLast_concat]
theorem putP_len (k : List Pc) (r : Rng) (S : List Kn) : (putP k r S).length ≤ k.length + 1 := by
  by_cases hS : S = []
  · subst hS; rw [putP_no]; omega
  · rcases last_cases k with rfl | ⟨a, q, rfl⟩
    · rw [putP_first hS]; simp
    · cases hg : gapP q ⟨r, S⟩
      · rw [putP_more hS hg]; simp
      · rw [putP_gap hS hg]; simp
theorem putP_ok {dn : List Pc} {r : Rng} {S : List Kn} (h : rightP dn = true) (hp : ∀ p ∈ dn, p.rng.op = false ∧ ltB r.lo p.rng.hi = false) (hr : rightR r = true) (hS : rightS S = true) :
    rightP (putP dn r S) = true ∧ (∀ s, catK (putP dn r S) s = catK dn s ++ setP ⟨r, S⟩ s) ∧ ∀ p ∈ putP dn r S, (p.rng.op = false ∧ ltB r.lo p.rng.hi = false) ∨ (p.rng.op = r.op ∧ p.rng.hi = r.hi) := by
  have hno : ∀ s, hasR r s = true → catK dn s = [] := fun s hs => catK_none fun p hpm => hasR_past (hp p hpm).1 (hp p hpm).2 (hasR_ge hs)
  by_cases hS0 : S = []
  · subst hS0
    refine ⟨h, fun s => ?_, fun p hpm => .inl (hp p hpm)⟩
    have : setP ⟨r, []⟩ s = [] := by unfold setP; cases hasR r s <;> rfl
    rw [this, putP_no, List.append_nil]
  · have h1 : onePc ⟨r, S⟩ = true := onePc_iff.2 ⟨hr, hS0, hS⟩
    rcases last_cases dn with rfl | ⟨a, q, rfl⟩
    · rw [putP_first hS0]
      refine ⟨h1, fun s => ?_, fun p hpm => ?_⟩
      · show setP ⟨r, S⟩ s ++ [] = [] ++ setP ⟨r, S⟩ s
        rw [List.append_nil]; rfl
      · rw [List.mem_singleton] at hpm; subst hpm; exact .inr ⟨rfl, rfl⟩
    · cases hg : gapP q ⟨r, S⟩ with
      | true =>
        rw [putP_gap hS0 hg]
        refine ⟨rightP_snoc h h1 hg, fun s => ?_, fun p hpm => ?_⟩
        · rw [catK_append (a ++ [q])]
          show _ ++ (setP ⟨r, S⟩ s ++ []) = _
          rw [List.append_nil]
        · rcases List.mem_append.1 hpm with hpm | hpm
          · exact .inl (hp p hpm)
          · rw [List.mem_singleton] at hpm; subst hpm; exact .inr ⟨rfl, rfl⟩
      | false =>
        rw [putP_more hS0 hg]
        obtain ⟨ho, hlt⟩ := hp q (by simp)
        have hq := onePc_iff.1 (rightP_front h)
        have hg2 : q.rng.hi = r.lo ∧ q.set = S := by
          unfold gapP at hg
          rw [ho, show ltB (Pc.mk r S).rng.lo q.rng.hi = false from hlt] at hg
          simpa using hg
        obtain ⟨e1, e2⟩ := hg2
        have hql : ltB q.rng.lo r.lo = true := e1 ▸ rightR_lt hq.1 ho
        have hnr : rightR ⟨q.rng.lo, r.hi, r.op⟩ = true := rightR_iff.2 ⟨rightR_lo (r := q.rng) hq.1, rightR_hi (r := r) hr, fun h => rightR_op (r := r) hr h, fun h => ltB_trans hql (rightR_lt (r := r) hr h)⟩
        have hhas : ∀ s, hasR ⟨q.rng.lo, r.hi, r.op⟩ s = (hasR q.rng s || hasR r s) := fun s => by
          rw [hasR_eq hnr, hasR_eq hq.1, hasR_eq hr, ho, e1]
          show (!ltB s q.rng.lo && (r.op || ltB s r.hi)) = _
          cases hy : ltB s r.lo with
          | true =>
            have hz : (r.op || ltB s r.hi) = true := by
              cases hop : r.op with
              | true => rfl
              | false => rw [ltB_trans hy (rightR_lt hr hop)]; rfl
            rw [hz]; cases ltB s q.rng.lo <;> rfl
          | false =>
            have hx : ltB s q.rng.lo = false := by
              cases hx : ltB s q.rng.lo with
              | false => rfl
              | true => rw [ltB_trans hx hql] at hy; cases hy
            rw [hx]; rfl
        refine ⟨rightP_last h (onePc_iff.2 ⟨hnr, hq.2.1, hq.2.2⟩) rfl rfl, fun s => ?_, fun p hpm => ?_⟩
        · rw [catK_append, catK_append]
          show catK a s ++ (setP ⟨⟨q.rng.lo, r.hi, r.op⟩, q.set⟩ s ++ []) = catK a s ++ (setP q s ++ []) ++ setP ⟨r, S⟩ s
          rw [List.append_nil, List.append_nil, List.append_assoc]
          congr 1
          have hh := hhas s
          cases hr2 : hasR r s with
          | true =>
            have hq0 : hasR q.rng s = false := hasR_past ho hlt (hasR_ge hr2)
            rw [hr2, hq0] at hh
            rw [setP_yes hh, setP_no hq0, setP_yes (p := ⟨r, S⟩) hr2]
            exact e2
          | false =>
            rw [hr2, Bool.or_false] at hh
            rw [setP_no (p := ⟨r, S⟩) hr2, List.append_nil]
            cases hq0 : hasR q.rng s with
            | true => rw [hq0] at hh; rw [setP_yes hh, setP_yes hq0]
            | false => rw [hq0] at hh; rw [setP_no hh, setP_no hq0]
        · rcases List.mem_append.1 hpm with hpm | hpm
          · exact .inl (hp p (List.mem_append.2 (.inl hpm)))
          · rw [List.mem_singleton] at hpm; subst hpm; exact .inr ⟨rfl, rfl⟩

def nextR (e : List UInt8) : List (List UInt8) → Rng
  | [] => ⟨e, [], true⟩
  | x :: _ => ⟨e, x, false⟩
def UpE (l : List (List UInt8)) : Prop := l.Pairwise fun a b => ltB a b = true
def swP (f : List UInt8 → List Kn) : List Pc → List (List UInt8) → List Pc
  | dn, [] => dn
  | dn, e :: es => swP f (putP dn (nextR e es) (f e)) es
theorem nextR_right {e : List UInt8} {es : List (List UInt8)} (hu : UpE (e :: es)) (hl : ∀ x ∈ e :: es, x.length ≤ 17) : rightR (nextR e es) = true := by
  have h1 := hl e (List.mem_cons_self ..)
  cases es with
  | nil => exact rightR_iff.2 ⟨h1, Nat.zero_le _, fun _ => rfl, fun h => by cases h⟩
  | cons x es => exact rightR_iff.2 ⟨h1, hl x (by simp), (fun h => by cases h), fun _ => (List.pairwise_cons.1 hu).1 x (by simp)⟩
theorem nextR_lo (e : List UInt8) (es : List (List UInt8)) : (nextR e es).lo = e := by cases es <;> rfl
theorem swP_ok (f : List UInt8 → List Kn) (hf : ∀ s, rightS (f s) = true) : ∀ (rest pre : List (List UInt8)) (dn : List Pc), UpE (pre ++ rest) → (∀ x ∈ rest, x.length ≤ 17) → DetP f (pre ++ rest) → rightP dn = true →
    (∀ e es, rest = e :: es → ∀ p ∈ dn, p.rng.op = false ∧ ltB e p.rng.hi = false) → (∀ s, (∀ e es, rest = e :: es → ltB s e = true) → catK dn s = f s) → (∀ s e es, rest = e :: es → ltB s e = false → catK dn s = []) → rightP (swP f dn rest) = true ∧ ∀ s, catK (swP f dn rest) s = f s
  | [], pre, dn, _, _, _, h1, _, h2, _ => ⟨h1, fun s => h2 s fun e es h => by cases h⟩
  | e :: es, pre, dn, hu, hl, hd, h1, hp, h2, h3 => by
    obtain ⟨-, hue, hpe⟩ := List.pairwise_append.1 hu
    have hee := (List.pairwise_cons.1 hue).1
    have hrr := nextR_right hue hl
    obtain ⟨g1, g2, g3⟩ := putP_ok h1 (by rw [nextR_lo]; exact hp e es rfl) hrr (hf e)
    rw [swP]
    refine swP_ok f hf es (pre ++ [e]) _ (by rw [List.append_assoc]; exact hu) (fun x hx => hl x (List.mem_cons_of_mem _ hx)) (by rw [List.append_assoc]; exact hd) g1 ?_ ?_ ?_
    · rintro e2 es2 rfl p hp2
      rcases g3 p hp2 with ⟨a, b⟩ | ⟨a, b⟩
      · exact ⟨a, leB_trans b (ltB_asymm (hee e2 (by simp)))⟩
      · exact ⟨a, by rw [b]; exact ltB_irrefl _⟩
    · intro s hs
      rw [g2]
      cases hh : hasR (nextR e es) s with
      | true =>
        have hge : ltB s e = false := by have := hasR_ge hh; rwa [nextR_lo] at this
        rw [setP_yes (p := ⟨nextR e es, f e⟩) hh, h3 s e es rfl hge]
        show f e = f s
        refine hd e s fun x hx => ?_
        rcases List.mem_append.1 hx with hx | hx
        · have hxe := ltB_asymm (hpe x hx e (List.mem_cons_self ..))
          rw [hxe]; exact (leB_trans hxe hge).symm
        · rcases List.mem_cons.1 hx with rfl | hx
          · rw [ltB_irrefl, hge]
          · rw [hee x hx]
            cases es with
            | nil => cases hx
            | cons e2 es2 =>
              have h5 := hs e2 es2 rfl
              rcases List.mem_cons.1 hx with rfl | hx
              · exact h5.symm
              · exact (ltB_trans h5 ((List.pairwise_cons.1 (List.pairwise_cons.1 hue).2).1 x hx)).symm
      | false =>
        rw [setP_no (p := ⟨nextR e es, f e⟩) hh, List.append_nil]
        refine h2 s fun e' es' h => ?_
        injection h with h4 h5
        subst h4
        rw [hasR_eq hrr, nextR_lo] at hh
        cases hse : ltB s e with
        | true => rfl
        | false =>
          exfalso
          rw [hse] at hh
          cases es with
          | nil => cases hh
          | cons e2 es2 =>
            have h5 := hs e2 es2 rfl
            have : (!false && (false || ltB s e2)) = false := hh
            rw [h5] at this; cases this
    · rintro s e2 es2 rfl hs
      rw [g2]
      have h4 : ltB s e = false := leB_trans (ltB_asymm (hee e2 (by simp))) hs
      rw [h3 s e _ rfl h4, setP_no (p := ⟨nextR e (e2 :: es2), f e⟩) (hasR_past (r := ⟨e, e2, false⟩) (c := e2) rfl (ltB_irrefl _) hs)]; rfl
def edgesP (k : List Pc) : List (List UInt8) := edgesR (spansP k)
theorem edgesR_mem : ∀ {l : List Rng} {r : Rng}, r ∈ l → r.lo ∈ edgesR l ∧ (r.op = false → r.hi ∈ edgesR l)
  | t :: l, r, h => by
    rcases List.mem_cons.1 h with rfl | h
    · cases ho : r.op with
      | true => rw [edgesR_open ho]; exact ⟨by simp, fun h => by cases h⟩
      | false => rw [edgesR_shut ho]; exact ⟨by simp, fun _ => by simp⟩
    · obtain ⟨h1, h2⟩ := edgesR_mem h
      cases ho : t.op with
      | true => rw [edgesR_open ho]; exact ⟨List.mem_cons_of_mem _ h1, fun h => List.mem_cons_of_mem _ (h2 h)⟩
      | false => rw [edgesR_shut ho]; exact ⟨List.mem_cons_of_mem _ (List.mem_cons_of_mem _ h1), fun h => List.mem_cons_of_mem _ (List.mem_cons_of_mem _ (h2 h))⟩
theorem edgesP_mem {k : List Pc} {p : Pc} (h : p ∈ k) : p.rng.lo ∈ edgesP k ∧ (p.rng.op = false → p.rng.hi ∈ edgesP k) := edgesR_mem (spansP_mem h)
theorem edgesP_append (a b : List Pc) : edgesP (a ++ b) = edgesP a ++ edgesP b := by unfold edgesP spansP; rw [List.map_append, edgesR_append]
theorem edgesP_len17 {k : List Pc} (h : ∀ p ∈ k, rightR p.rng = true) : ∀ x ∈ edgesP k, x.length ≤ 17 := edgesR_len17 fun r hr => by
  obtain ⟨p, hp, rfl⟩ := List.mem_map.1 hr; exact h p hp
theorem edgesP_len (k : List Pc) : (edgesP k).length ≤ 2 * k.length := by have := edgesR_len (spansP k); rw [spansP, List.length_map] at this; exact this
theorem edgesP_one (p : Pc) : edgesP [p] = match p.rng.op with | true => [p.rng.lo] | false => [p.rng.lo, p.rng.hi] := by
  unfold edgesP spansP
  cases ho : p.rng.op with
  | true => rw [List.map_cons, edgesR_open ho]; rfl
  | false => rw [List.map_cons, edgesR_shut ho]; rfl
theorem edgesP_take {k : List Pc} {j : Nat} {p : Pc} (h : k[j]? = some p) : edgesP (k.take (j + 1)) = edgesP (k.take j) ++ edgesP [p] := by
  rw [List.take_add_one, h, edgesP_append]; rfl
def EdgesOf (a b : List Pc) (es : List (List UInt8)) : Prop := UpE es ∧ ∀ x, x ∈ es ↔ x ∈ edgesP (a ++ b)
theorem catK_low {a : List Pc} {es : List (List UInt8)} (ha : rightP a = true) (he : ∀ p ∈ a, p.rng.lo ∈ es) {s : List UInt8} (hs : ∀ x ∈ es, ltB s x = true) : catK a s = [] := by
  cases a with
  | nil => rfl
  | cons p k =>
    cases h : catK (p :: k) s with
    | nil => rfl
    | cons x y =>
      have h1 := catK_ge ha (by rw [h]; exact List.cons_ne_nil _ _)
      rw [hs _ (he p (by simp))] at h1; cases h1
theorem sweep_ok {op : Int} (hk0 : makeS op [] [] = []) {a b : List Pc} (ha : rightP a = true) (hb : rightP b = true) {es : List (List UInt8)} (he : EdgesOf a b es) :
    rightP (swP (fun s => makeS op (catK a s) (catK b s)) [] es) = true ∧ ∀ s, catK (swP (fun s => makeS op (catK a s) (catK b s)) [] es) s = makeS op (catK a s) (catK b s) := by
  obtain ⟨hu, hm⟩ := he
  have hR : ∀ p ∈ a ++ b, rightR p.rng = true := fun p hp => by
    rcases List.mem_append.1 hp with hp | hp
    · exact (onePc_iff.1 (rightP_all ha p hp)).1
    · exact (onePc_iff.1 (rightP_all hb p hp)).1
  have hmem : ∀ p ∈ a ++ b, p.rng.lo ∈ es ∧ (p.rng.op = false → p.rng.hi ∈ es) := fun p hp => ⟨(hm _).2 (edgesP_mem hp).1, fun h => (hm _).2 ((edgesP_mem hp).2 h)⟩
  have hd : DetP (fun s => makeS op (catK a s) (catK b s)) es := fun s c hs => by
    show makeS op (catK a s) (catK b s) = makeS op (catK a c) (catK b c)
    rw [catK_det (fun p hp _ => hmem p (List.mem_append.2 (.inl hp))) s c hs, catK_det (fun p hp _ => hmem p (List.mem_append.2 (.inr hp))) s c hs]
  refine swP_ok _ (fun s => makeS_right ..) es [] [] hu (fun x hx => edgesP_len17 hR x ((hm x).1 hx)) hd rfl (fun e es _ p hp => by cases hp) (fun s hs => ?_) (fun s e es _ _ => rfl)
  have hall : ∀ x ∈ es, ltB s x = true := fun x hx => by
    cases es with
    | nil => cases hx
    | cons e es =>
      have h5 := hs e es rfl
      rcases List.mem_cons.1 hx with rfl | hx
      · exact h5
      · exact ltB_trans h5 ((List.pairwise_cons.1 hu).1 x hx)
  show [] = makeS op (catK a s) (catK b s)
  rw [catK_low ha (fun p hp => (hmem p (List.mem_append.2 (.inl hp))).1) hall, catK_low hb (fun p hp => (hmem p (List.mem_append.2 (.inr hp))).1) hall, hk0]

def passP (x : List UInt8) : List Pc → List Pc
  | [] => []
  | p :: k => match !p.rng.op && !ltB x p.rng.hi with
    | true => k
    | false => p :: k
theorem passP_yes {x : List UInt8} {p : Pc} {k : List Pc} (h : (!p.rng.op && !ltB x p.rng.hi) = true) : passP x (p :: k) = k := by rw [passP, h]
theorem passP_no {x : List UInt8} {p : Pc} {k : List Pc} (h : (!p.rng.op && !ltB x p.rng.hi) = false) : passP x (p :: k) = p :: k := by rw [passP, h]
def firstP (s : List UInt8) : List Pc → List Kn
  | [] => []
  | p :: _ => setP p s
structure LeftP (a k : List Pc) (pre es : List (List UInt8)) : Prop where
  right : rightP k = true
  same : ∀ s, (∀ x ∈ pre, ltB s x = false) → catK k s = catK a s
  his : ∀ p ∈ k, p.rng.op = false → p.rng.hi ∈ es
theorem LeftP.start {a : List Pc} {es : List (List UInt8)} (ha : rightP a = true) (he : ∀ p ∈ a, p.rng.op = false → p.rng.hi ∈ es) : LeftP a a [] es := ⟨ha, fun _ _ => rfl, he⟩
theorem rightP_behind {q p : Pc} {k : List Pc} (h : rightP (q :: k) = true) (hp : p ∈ k) : q.rng.op = false ∧ ltB p.rng.lo q.rng.hi = false := by
  have h1 := onePc_iff.1 (rightP_all (rightP_tail h) p hp)
  exact (catK_apart h (catK_some hp (hasR_lo h1.1) h1.2.1)).2
theorem LeftP.ends {a k : List Pc} {pre es : List (List UInt8)} {e : List UInt8} (h : LeftP a k pre (e :: es)) (hu : UpE (e :: es)) : ∀ p ∈ passP e k, p.rng.op = false → ltB e p.rng.hi = true := by
  have hue := (List.pairwise_cons.1 hu).1
  have hge : ∀ x ∈ e :: es, ltB x e = false := fun x hx => by
    rcases List.mem_cons.1 hx with rfl | hx
    · exact ltB_irrefl _
    · exact ltB_asymm (hue x hx)
  cases k with
  | nil => intro p hp; cases hp
  | cons q k =>
    have hfar : ltB q.rng.hi e = false → ∀ p ∈ k, p.rng.op = false → ltB e p.rng.hi = true := fun hq p hp ho => by
      obtain ⟨h1, h2⟩ := rightP_behind h.right hp
      have h3 := onePc_iff.1 (rightP_all (rightP_tail h.right) p hp)
      exact ltB_of_le_of_lt (leB_trans hq h2) (rightR_lt h3.1 ho)
    intro p hp ho
    cases hd : (!q.rng.op && !ltB e q.rng.hi) with
    | true =>
      rw [passP_yes hd] at hp
      rw [Bool.and_eq_true, Bool.not_eq_true'] at hd
      exact hfar (hge _ (h.his q (by simp) hd.1)) p hp ho
    | false =>
      rw [passP_no hd] at hp
      rcases List.mem_cons.1 hp with rfl | hp
      · rw [ho] at hd
        cases hl : ltB e p.rng.hi with
        | true => rfl
        | false => rw [hl] at hd; cases hd
      · have h1 := (rightP_behind h.right hp).1
        exact hfar (hge _ (h.his q (by simp) h1)) p hp ho
theorem LeftP.step {a k : List Pc} {pre es : List (List UInt8)} {e : List UInt8} (h : LeftP a k pre (e :: es)) (hu : UpE (pre ++ e :: es)) : LeftP a (passP e k) (pre ++ [e]) es ∧ firstP e (passP e k) = catK a e := by
  obtain ⟨-, hue, hpe⟩ := List.pairwise_append.1 hu
  have hends := h.ends hue
  have hsub : ∀ p ∈ passP e k, p ∈ k := fun p hp => by
    cases k with
    | nil => exact hp
    | cons q k =>
      cases hd : (!q.rng.op && !ltB e q.rng.hi) with
      | true => rw [passP_yes hd] at hp; exact List.mem_cons_of_mem _ hp
      | false => rw [passP_no hd] at hp; exact hp
  have hR : rightP (passP e k) = true := by
    have h1 := h.right
    cases k with
    | nil => rfl
    | cons q k =>
      cases hd : (!q.rng.op && !ltB e q.rng.hi) with
      | true => rw [passP_yes hd]; exact rightP_tail h1
      | false => rw [passP_no hd]; exact h1
  have hsame : ∀ s, (∀ x ∈ pre ++ [e], ltB s x = false) → catK (passP e k) s = catK a s := fun s hs => by
    rw [← h.same s fun x hx => hs x (List.mem_append.2 (.inl hx))]
    have hse := hs e (by simp)
    cases k with
    | nil => rfl
    | cons q k =>
      cases hd : (!q.rng.op && !ltB e q.rng.hi) with
      | true =>
        rw [passP_yes hd]
        rw [Bool.and_eq_true, Bool.not_eq_true', Bool.not_eq_true'] at hd
        rw [catK_rest (hasR_past hd.1 hd.2 hse)]
      | false => rw [passP_no hd]
  refine ⟨⟨hR, hsame, fun p hp ho => ?_⟩, ?_⟩
  · rcases List.mem_cons.1 (h.his p (hsub p hp) ho) with e1 | h2
    · have := hends p hp ho
      rw [e1, ltB_irrefl] at this; cases this
    · exact h2
  · rw [← hsame e fun x hx => by
      rcases List.mem_append.1 hx with hx | hx
      · exact ltB_asymm (hpe x hx e (List.mem_cons_self ..))
      · rw [List.mem_singleton] at hx; subst hx; exact ltB_irrefl _]
    generalize passP e k = m at hR hends
    cases m with
    | nil => rfl
    | cons q m =>
      show setP q e = setP q e ++ catK m e
      have : catK m e = [] := by
        cases hc : catK m e with
        | nil => rfl
        | cons x y =>
          obtain ⟨-, h2, h3⟩ := catK_apart hR (by rw [hc]; exact List.cons_ne_nil _ _)
          rw [hends q (by simp) h2] at h3; cases h3
      rw [this, List.append_nil]

theorem joinP_of (x y : List Pc) : joinP (ofP x) (ofP y) = ofP (x ++ y) := atP_unique (makeP_right ..) (makeP_right ..) fun s => by rw [joinP_at, ofP_at, ofP_at, ofP_at, atK_append]
theorem joinP_cat {a b : List Pc} (ha : rightP a = true) (hb : rightP b = true) (s : List UInt8) : catK (joinP a b) s = makeS 1 (catK a s) (catK b s) := by
  rw [joinP, makeP_cat, whatP1, atK_right ha, atK_right hb]
theorem lessP_cat {a b : List Pc} (ha : rightP a = true) (hb : rightP b = true) (s : List UInt8) : catK (lessP a b) s = makeS 3 (catK a s) (catK b s) := by
  rw [lessP, makeP_cat, whatP2, atK_right ha, atK_right hb]
theorem lessP_of (a b : List Pc) : lessP (ofP a) (ofP b) = lessP a b := atP_unique (makeP_right ..) (makeP_right ..) fun s => by rw [lessP_at, lessP_at, ofP_at, ofP_at]
theorem ofP_right (k : List Pc) : rightP (ofP k) = true := makeP_right ..
theorem makeS_nils (op : Int) (h : op = 1 ∨ op = 3) : makeS op [] [] = [] := by
  rcases h with rfl | rfl
  · exact ofS_nil
  · exact makeS_less.2 fun r n h => h
theorem makeS_no1 {a : List Kn} (h : rightS a = true) : makeS 1 [] a = a := by rw [makeS_nil1, ofS_self h]
theorem makeS_no2 {a : List Kn} (h : rightS a = true) : makeS 1 a [] = a := by rw [makeS_nil2, ofS_self h]
theorem makeS_less0 {a : List Kn} (h : rightS a = true) : makeS 3 a [] = a := (makeS_unique h fun r n => by rw [gC3, hasK_nil, Bool.not_false, Bool.and_true]).symm
theorem makeS_less1 (a : List Kn) : makeS 3 [] a = [] := makeS_less.2 fun r n h => by rw [hasK_nil] at h; cases h
def normPc (p : Pc) : Pc := ⟨p.rng, ofS p.set⟩
def tidyP (k : List Pc) : List Pc := (k.map normPc).filter onePc
theorem tidyP_take {k : List Pc} {j : Nat} {p : Pc} (h : k[j]? = some p) : tidyP (k.take (j + 1)) = tidyP (k.take j) ++ (match onePc (normPc p) with | true => [normPc p] | false => []) := by
  unfold tidyP
  rw [List.take_add_one, h, List.map_append, List.filter_append]
  cases hp : onePc (normPc p) <;> simp [hp]
theorem normPc_rng (p : Pc) : (normPc p).rng = p.rng := by simp only [normPc]
theorem normPc_set (p : Pc) : (normPc p).set = ofS p.set := by simp only [normPc]
theorem hasK_norm (p : Pc) (s : List UInt8) (r n : Int) : hasK (match onePc (normPc p) with | true => setP (normPc p) s | false => []) r n = hasK (setP p s) r n := by
  cases hr : hasR p.rng s with
  | false =>
    have h2 : setP (normPc p) s = [] := setP_no (by rw [normPc_rng]; exact hr)
    rw [h2, setP_no hr]
    cases onePc (normPc p) <;> rfl
  | true =>
    have h2 : setP (normPc p) s = ofS p.set := by rw [← normPc_set]; exact setP_yes (by rw [normPc_rng]; exact hr)
    rw [h2, setP_yes hr]
    cases hp : onePc (normPc p) with
    | true => exact ofS_has p.set r n
    | false =>
      have h0 : ofS p.set = [] := by
        cases hs : ofS p.set with
        | nil => rfl
        | cons x y =>
          have h1 : (normPc p).set ≠ [] := by rw [normPc_set, hs]; exact List.cons_ne_nil _ _
          have : onePc (normPc p) = true := onePc_iff.2 ⟨by rw [normPc_rng]; exact hasR_right (r := p.rng) hr, h1, by rw [normPc_set]; exact ofS_right p.set⟩
          rw [hp] at this; cases this
      show hasK [] r n = hasK p.set r n
      rw [← ofS_has p.set, h0]
theorem tidyP_cons (p : Pc) (k : List Pc) (s : List UInt8) : catK (tidyP (p :: k)) s = (match onePc (normPc p) with | true => setP (normPc p) s | false => []) ++ catK (tidyP k) s := by
  unfold tidyP
  rw [List.map_cons]
  cases hp : onePc (normPc p) with
  | true => rw [List.filter_cons_of_pos hp, catK]
  | false => rw [List.filter_cons_of_neg (by rw [hp]; simp)]; rfl
theorem tidyP_has : ∀ (k : List Pc) (s : List UInt8) (r n : Int), hasK (catK (tidyP k) s) r n = hasK (catK k s) r n
  | [], _, _, _ => rfl
  | p :: k, s, r, n => by
    rw [tidyP_cons, catK, hasK_append, hasK_append, hasK_norm, tidyP_has k s r n]
theorem tidyP_of (k : List Pc) : ofP (tidyP k) = ofP k := ofP_iff.2 fun s => ofS_iff.2 fun r n => tidyP_has k s r n
end Go.Proofs.YtopjhebhdopjpaaGreat
