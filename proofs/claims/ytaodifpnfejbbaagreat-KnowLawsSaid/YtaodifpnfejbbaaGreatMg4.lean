/-
  Several texts in one: KnwSets, VstB, VstC, VstD, Deep, VstE, VstF, VstG, VstH, ShelfCmp, KeyA, KeyB.
-/
import Derived.Deep.RegionHeld3
import Derived.Deep.DeepCutAuto
import Derived.Shelf.Small.Strs
import Derived.Test.YtaodifpnfejbbaaGreatProg
import Derived.Outline
import Derived.Test.YtaodifpnfejbbaaGreatMg3
/-
  Plain facts on knowledge as sets (layer 15): joined, the one without the other, restricted. No program in this text.
-/
namespace Go.Proofs.YtaodifpnfejbbaaGreat

/-- What is meant of a text: 1 what a and b together, 2 what a and not b has, else what a has, if the ranges have the text. -/
def whatP (op : Int) (a b : List Pc) (l : List Rng) (s : List UInt8) : List Kn :=
  match decide (op = 1) with
  | true => makeS 1 (atK a s) (atK b s)
  | false => match decide (op = 2) with
    | true => makeS 3 (atK a s) (atK b s)
    | false => match hasL l s with
      | true => atK a s
      | false => []
theorem whatP1 (a b : List Pc) (l : List Rng) (s : List UInt8) : whatP 1 a b l s = makeS 1 (atK a s) (atK b s) := rfl
theorem whatP2 (a b : List Pc) (l : List Rng) (s : List UInt8) : whatP 2 a b l s = makeS 3 (atK a s) (atK b s) := rfl
theorem whatP3_in {a b : List Pc} {l : List Rng} {s : List UInt8} (h : hasL l s = true) : whatP 3 a b l s = atK a s := by
  show (match hasL l s with | true => atK a s | false => []) = _
  rw [h]
theorem whatP3_out {a b : List Pc} {l : List Rng} {s : List UInt8} (h : hasL l s = false) : whatP 3 a b l s = [] := by
  show (match hasL l s with | true => atK a s | false => []) = _
  rw [h]
def spansP (k : List Pc) : List Rng := k.map Pc.rng
theorem spansP_mem {k : List Pc} {p : Pc} (h : p ∈ k) : p.rng ∈ spansP k := List.mem_map.2 ⟨p, h, rfl⟩
/-- The right list of what is meant. -/
def makeP (op : Int) (a b : List Pc) (l : List Rng) : List Pc := mkP (whatP op a b l) (edgesL (spansP a ++ (spansP b ++ l))) none
theorem setP_det {p : Pc} {E : List (List UInt8)} (h : rightR p.rng = true → p.rng.lo ∈ E ∧ (p.rng.op = false → p.rng.hi ∈ E)) : DetP (setP p) E := fun s c hs => by
  unfold setP; rw [hasR_det h s c hs]
theorem catK_det : ∀ {k : List Pc} {E : List (List UInt8)}, (∀ p ∈ k, rightR p.rng = true → p.rng.lo ∈ E ∧ (p.rng.op = false → p.rng.hi ∈ E)) → DetP (catK k) E
  | [], _, _ => fun _ _ _ => rfl
  | p :: k, E, h => fun s c hs => by
    rw [catK, catK, setP_det (h p (List.mem_cons_self ..)) s c hs, catK_det (fun q hq => h q (List.mem_cons_of_mem _ hq)) s c hs]
theorem atK_det {k : List Pc} {E : List (List UInt8)} (h : ∀ p ∈ k, rightR p.rng = true → p.rng.lo ∈ E ∧ (p.rng.op = false → p.rng.hi ∈ E)) : DetP (atK k) E := fun s c hs => by
  unfold atK; rw [catK_det h s c hs]
theorem atK_is_right (k : List Pc) (s : List UInt8) : rightS (atK k s) = true := ofS_right _
theorem whatP_right (op : Int) (a b : List Pc) (l : List Rng) (s : List UInt8) : rightS (whatP op a b l s) = true := by
  unfold whatP
  cases decide (op = 1)
  · cases decide (op = 2)
    · cases hasL l s
      · rfl
      · exact atK_is_right a s
    · exact makeS_right _ _ _
  · exact makeS_right _ _ _
theorem whatP_det (op : Int) (a b : List Pc) (l : List Rng) : DetP (whatP op a b l) (edgesL (spansP a ++ (spansP b ++ l))) := fun s c hs => by
  have ha : DetP (atK a) (edgesL (spansP a ++ (spansP b ++ l))) := atK_det fun p hp hR => edges_mem (spansP a ++ (spansP b ++ l)) [[]] (List.mem_append.2 (.inl (spansP_mem hp))) hR
  have hb : DetP (atK b) (edgesL (spansP a ++ (spansP b ++ l))) := atK_det fun p hp hR => edges_mem (spansP a ++ (spansP b ++ l)) [[]] (List.mem_append.2 (.inr (List.mem_append.2 (.inl (spansP_mem hp))))) hR
  have hl : Det (hasL l) (edgesL (spansP a ++ (spansP b ++ l))) := hasL_det fun r hr hR => edges_mem (spansP a ++ (spansP b ++ l)) [[]] (List.mem_append.2 (.inr (List.mem_append.2 (.inr hr)))) hR
  unfold whatP
  rw [ha s c hs, hb s c hs, hl s c hs]
theorem makeP_ok (op : Int) (a b : List Pc) (l : List Rng) : rightP (makeP op a b l) = true ∧ ∀ s, catK (makeP op a b l) s = whatP op a b l s :=
  mkP_all (whatP_right op a b l) (edgesL_ok _) (whatP_det op a b l)
theorem makeP_right (op : Int) (a b : List Pc) (l : List Rng) : rightP (makeP op a b l) = true := (makeP_ok op a b l).1
theorem makeP_cat (op : Int) (a b : List Pc) (l : List Rng) (s : List UInt8) : catK (makeP op a b l) s = whatP op a b l s := (makeP_ok op a b l).2 s
theorem makeP_at (op : Int) (a b : List Pc) (l : List Rng) (s : List UInt8) : atK (makeP op a b l) s = whatP op a b l s := by rw [atK_right (makeP_right op a b l), makeP_cat]
theorem makeP_unique {op : Int} {a b u : List Pc} {l : List Rng} (h : rightP u = true) (hs : ∀ s, atK u s = whatP op a b l s) : u = makeP op a b l :=
  rightP_unique h (makeP_right op a b l) fun s => by rw [makeP_cat, ← hs, atK_right h]
def ofP (k : List Pc) : List Pc := makeP 1 k [] []
def joinP (a b : List Pc) : List Pc := makeP 1 a b []
def lessP (a b : List Pc) : List Pc := makeP 2 a b []
def restP (k : List Pc) (l : List Rng) : List Pc := makeP 3 k [] l
theorem atK_nil (s : List UInt8) : atK [] s = [] := ofS_nil
theorem atK_of (k : List Pc) (s : List UInt8) : ofS (atK k s) = atK k s := ofS_self (atK_is_right k s)
theorem ofP_at (k : List Pc) (s : List UInt8) : atK (ofP k) s = atK k s := by
  rw [ofP, makeP_at, whatP1, atK_nil]; exact atK_of k s
theorem joinP_at (a b : List Pc) (s : List UInt8) : atK (joinP a b) s = makeS 1 (atK a s) (atK b s) := by rw [joinP, makeP_at, whatP1]
theorem lessP_at (a b : List Pc) (s : List UInt8) : atK (lessP a b) s = makeS 3 (atK a s) (atK b s) := by rw [lessP, makeP_at, whatP2]
theorem restP_in {k : List Pc} {l : List Rng} {s : List UInt8} (h : hasL l s = true) : atK (restP k l) s = atK k s := by rw [restP, makeP_at, whatP3_in h]
theorem restP_out {k : List Pc} {l : List Rng} {s : List UInt8} (h : hasL l s = false) : atK (restP k l) s = [] := by rw [restP, makeP_at, whatP3_out h]
theorem atP_unique {u v : List Pc} (hu : rightP u = true) (hv : rightP v = true) (h : ∀ s, atK u s = atK v s) : u = v :=
  rightP_unique hu hv fun s => by rw [← atK_right hu, ← atK_right hv, h]
theorem ofP_iff {a b : List Pc} : ofP a = ofP b ↔ ∀ s, atK a s = atK b s :=
  ⟨fun h s => by rw [← ofP_at a, ← ofP_at b, h], fun h => atP_unique (makeP_right ..) (makeP_right ..) fun s => by rw [ofP_at, ofP_at, h]⟩
theorem ofP_self {k : List Pc} (h : rightP k = true) : ofP k = k := atP_unique (makeP_right ..) h (ofP_at k)
theorem rightP_empty {u : List Pc} (h : rightP u = true) (hs : ∀ s, atK u s = []) : u = [] := atP_unique h rfl fun s => by rw [hs, atK_nil]
theorem lessP_iff {a b : List Pc} : lessP a b = [] ↔ ∀ s, makeS 3 (atK a s) (atK b s) = [] :=
  ⟨fun h s => by rw [← lessP_at, h, atK_nil], fun h => rightP_empty (makeP_right ..) fun s => by rw [lessP_at, h]⟩
theorem atK_same {a b : List Pc} {s : List UInt8} : atK a s = atK b s ↔ makeS 3 (atK a s) (atK b s) = [] ∧ makeS 3 (atK b s) (atK a s) = [] := by
  rw [← same_within, atK_of, atK_of]
theorem same_withinP {a b : List Pc} : ofP a = ofP b ↔ lessP a b = [] ∧ lessP b a = [] := by
  rw [ofP_iff, lessP_iff, lessP_iff]
  exact ⟨fun h => ⟨fun s => (atK_same.1 (h s)).1, fun s => (atK_same.1 (h s)).2⟩, fun h s => atK_same.2 ⟨h.1 s, h.2 s⟩⟩
theorem joinP_comm (a b : List Pc) : joinP a b = joinP b a := atP_unique (makeP_right ..) (makeP_right ..) fun s => by rw [joinP_at, joinP_at, makeS_back1]
theorem lessP_joined (a b : List Pc) : joinP (lessP a b) b = joinP a b := atP_unique (makeP_right ..) (makeP_right ..) fun s => by rw [joinP_at, joinP_at, lessP_at, makeS_joined]
theorem lessP_on (a b : List Pc) : lessP a (joinP a b) = [] := lessP_iff.2 fun s => by rw [joinP_at, makeS_on]
theorem lessP_on' (a b : List Pc) : lessP b (joinP a b) = [] := by rw [joinP_comm]; exact lessP_on b a
theorem makeS_less_join (a b : List Kn) : makeS 3 (makeS 1 a b) b = makeS 3 a b := makeS_unique (makeS_right 3 _ b) fun r n => by
  rw [makeS_has, makeS_has, gC1, gC3, gC3]
  cases hasK a r n <;> cases hasK b r n <;> rfl
theorem lessP_join (a b : List Pc) : lessP (joinP a b) b = lessP a b := atP_unique (makeP_right ..) (makeP_right ..) fun s => by rw [lessP_at, lessP_at, joinP_at, makeS_less_join]
theorem joinP_nil (a : List Pc) : joinP a [] = ofP a := rfl
theorem makeS_nil2 (a : List Kn) : makeS 1 a [] = ofS a := rfl
theorem makeS_nil1 (a : List Kn) : makeS 1 [] a = ofS a := makeS_back1 a []
theorem restP_join (a b : List Pc) (l : List Rng) : restP (joinP a b) l = joinP (restP a l) (restP b l) := atP_unique (makeP_right ..) (makeP_right ..) fun s => by
  rw [joinP_at]
  cases h : hasL l s with
  | true => rw [restP_in h, restP_in h, restP_in h, joinP_at]
  | false => rw [restP_out h, restP_out h, restP_out h, makeS_nil2, ofS_nil]
theorem restP_rest (a : List Pc) (l m : List Rng) : restP (restP a l) m = restP a (makeV 2 l m) := atP_unique (makeP_right ..) (makeP_right ..) fun s => by
  have hm := makeV_has 2 l m s
  rw [gV2] at hm
  cases h1 : hasL m s with
  | true =>
    rw [h1, Bool.and_true] at hm
    rw [restP_in h1]
    cases h2 : hasL l s with
    | true => rw [h2] at hm; rw [restP_in h2, restP_in hm]
    | false => rw [h2] at hm; rw [restP_out h2, restP_out hm]
  | false =>
    rw [h1, Bool.and_false] at hm
    rw [restP_out h1, restP_out hm]
theorem restP_parts (a : List Pc) (l : List Rng) : joinP (restP a l) (restP a (notV l)) = ofP a := atP_unique (makeP_right ..) (makeP_right ..) fun s => by
  rw [joinP_at, ofP_at]
  have hm := notV_has l s
  cases h : hasL l s with
  | true => rw [h] at hm; rw [restP_in h, restP_out hm, makeS_nil2, atK_of]
  | false => rw [h] at hm; rw [restP_out h, restP_in hm, makeS_nil1, atK_of]
/-- Some lists together. -/
theorem atK_append (a b : List Pc) (s : List UInt8) : atK (a ++ b) s = makeS 1 (atK a s) (atK b s) := by
  unfold atK
  rw [catK_append]
  exact makeS_unique (ofS_right _) fun r n => by rw [ofS_has, ofS_has, ofS_has, hasK_append, gC1]
theorem joinP_append (a b : List Pc) : joinP a b = ofP (a ++ b) := atP_unique (makeP_right ..) (makeP_right ..) fun s => by rw [joinP_at, ofP_at, atK_append]
/-- The knowledge of some versions of a key. -/
def oneP (s : List UInt8) (l : List Vr) : List Pc := match decide (1 ≤ s.length) && decide (s.length ≤ 16) with
  | false => []
  | true => match addsS [] l with
    | [] => []
    | x :: y => [⟨ofR s, x :: y⟩]
theorem ofP_has (k : List Pc) (s : List UInt8) (v : Vr) : hasP (ofP k) s v = hasP k s v := by rw [hasP_at, hasP_at, ofP_at]
/-- How many pieces, and what they have, at most. -/
theorem mkP_len (f : List UInt8 → List Kn) : ∀ (es : List (List UInt8)) (o : Option (List UInt8 × List Kn)), (mkP f es o).length ≤ es.length + (match o with | none => 0 | some _ => 1)
  | [], none => Nat.le_refl _
  | [], some (lo, S) => Nat.le_refl _
  | e :: es, none => by
    by_cases h : f e = []
    · rw [mkP_none_no h]; have := mkP_len f es none; simp only [List.length_cons] at *; omega
    · rw [mkP_none_yes h]; have := mkP_len f es (some (e, f e)); simp only [List.length_cons] at *; omega
  | e :: es, some (lo, S) => by
    by_cases h : f e = S
    · rw [mkP_on h]; have := mkP_len f es (some (lo, S)); simp only [List.length_cons] at *; omega
    · rw [mkP_end h, List.length_cons]
      by_cases h' : f e = []
      · rw [mkP_none_no h']; have := mkP_len f es none; simp only [List.length_cons] at *; omega
      · rw [mkP_none_yes h']; have := mkP_len f es (some (e, f e)); simp only [List.length_cons] at *; omega
theorem makeP_len (op : Int) (a b : List Pc) (l : List Rng) : (makeP op a b l).length ≤ 1 + 2 * (a.length + (b.length + l.length)) := by
  have h1 := mkP_len (whatP op a b l) (edgesL (spansP a ++ (spansP b ++ l))) none
  have h2 := edgesL_len (spansP a ++ (spansP b ++ l))
  simp only [List.length_append, spansP, List.length_map] at h2
  unfold makeP
  unfold spansP at h1 ⊢
  simp only at h1
  omega
end Go.Proofs.YtaodifpnfejbbaaGreat

/-
  Layer 14 (vset), the document's words: all runs of a replica; is a set too long to be looked at.
-/
namespace Go.Proofs.YtaodifpnfejbbaaGreat
open Go.RowKit

theorem runsV_part (s : List Kn) (k : Nat) (r : Int) : (runsV (s.take k) r).length ≤ (runsV s r).length := by
  conv => rhs; rw [← List.take_append_drop k s, runsV_append, List.length_append]
  omega
set_option maxRecDepth 100000 in
set_option maxHeartbeats 4000000 in
theorem ref_vruns (A : Option Addr) (c n : Nat) (s : List Kn) (r : Int) (hn : n = s.length) (N : Nat) (hN : (runsV s r).length = N) (hNl : N ≤ 100000) (w : World) (hr : RdK w w.heap.size A c s) :
    Calls Tryz.prog 85 #[.slice A n c, .int .i64 r] w (RetC w N (runsV s r)) := by
  have HN := Lib.hid hn
  have HR := Lib.hid hr
  have HNN := Lib.hid hN
  have hmx := rdk_max hr hn
  have hcx : n ≤ c := by rw [hn]; exact hr.room
  clear hn hr hN
  go_enter Tryz.func85, Tryz.ntmps85
  go_wp2_with fail
  go_loopw [5, 6] (fun v i wr => ∃ k : Nat, k ≤ n ∧ Hid (kRn.Own wr w.heap.size v (runsV (s.take k) r)) ∧ i = .int .i64 k ∧ Hid (Below w.heap.size w wr)) (fun _ i _ => n - (intOf i).toNat)
  case atStart => exact ⟨0, by omega, Kind.Own.nil _ _, rfl, Below.refl _ _⟩
  case round =>
    obtain ⟨k, hk, HO, rfl, HB⟩ := hrel
    by_cases hlt : k < n
    · obtain ⟨x, hg, -, -⟩ := cnt_get (l := s) (k := k) (by have := HN.out; omega)
      obtain ⟨b, o, rfl, hb1, hcell⟩ := knowns_at (HR.out.below HB.out) (by have := HN.out; omega)
      obtain ⟨A', n', c', hn', hrd, c0, c1⟩ := hcell k x hg
      have HT := Lib.hid (runsV_take r hg)
      have HLE := Lib.hid (show (runsV (s.take k) r).length + (partV x r).length ≤ 1000000 by
        have h1 := runsV_part s (k + 1) r
        rw [HT.out, List.length_append, HNN.out] at h1
        omega)
      have HX := Lib.hid hrd.row
      have HN' := Lib.hid hn'
      obtain ⟨R, hR⟩ : ∃ R, x.rep = R := ⟨_, rfl⟩
      rw [hR] at c0
      have hk0 : (0 : Int) ≤ (k : Int) := by omega
      have hkn : (k : Int) < (n : Int) := by omega
      by_cases he : R = r
      · have HP := Lib.hid (partV_yes (hR.trans he))
        have hd : (R == r) = true := beq_iff_eq.2 he
        rw [HP.out] at HLE HT
        clear hcell hg hrd hn' hR he
        go_wp2_with (at_builtin; refine wpList_app_k kRn rfl (.tmp 20) (.tmp 25) rfl w.heap.size _ _ rfl HO.out _ A' c' n' x.runs HN'.out rfl HX.out HLE.out (by decide) HB.out.size ?_; intro v3 w3 hown3 _ hb3 _; have HB3 := Lib.hid (HB.out.trans hb3); have HO3 := Lib.hid hown3; clear hb3 hown3)
        go_roundw
        case rel => exact ⟨k + 1, by omega, show kRn.Own _ _ _ _ from by rw [HT.out]; exact HO3.out, by go_num, HB3⟩
        case measure => simp [intOf]; omega
      · have HP := Lib.hid (partV_no (k := x) (r := r) (by rw [hR]; exact he))
        have hd : (R == r) = false := beq_eq_false_iff_ne.2 he
        rw [HP.out, List.append_nil] at HT
        clear hcell hg hrd hn' hR he
        go_wp2_with fail
        go_roundw
        case rel => exact ⟨k + 1, by omega, show kRn.Own _ _ _ _ from by rw [HT.out]; exact HO.out, by go_num, HB⟩
        case measure => simp [intOf]; omega
    · have HT := Lib.hid (show runsV (s.take k) r = runsV s r by rw [List.take_of_length_le (by have := HN.out; omega)])
      obtain ⟨A9, c9, rfl, hrd⟩ := HO.out.read_n (show N = (runsV (s.take k) r).length by rw [HT.out]; exact HNN.out.symm)
      have HF := Lib.hid (show kRn.Rd wr wr.heap.size A9 c9 (runsV s r) from HT.out ▸ hrd)
      clear hrd HO HT
      go_wp2_with fail
      go_ret
      exact ⟨A9, c9, rfl, HF.out, HB.out⟩
/-- Has a set too many numbers? -/
def longV (m : Nat) (s : List Kn) : Bool := decide (m < s.length) || s.any fun k => decide (m < k.runs.length)
theorem longV_size {m : Nat} {s : List Kn} (h : longV m s = false) : sizeV m s := by
  unfold longV at h
  simp only [Bool.or_eq_false_iff, decide_eq_false_iff_not, List.any_eq_false, decide_eq_true_eq] at h
  exact ⟨by omega, fun k hk => by have := h.2 k hk; omega⟩
set_option maxRecDepth 100000 in
set_option maxHeartbeats 4000000 in
theorem ref_vlong (m : Nat) (y : Int) (hy : (m : Int) = y) (hml : m ≤ 1000) (A : Option Addr) (c n : Nat) (s : List Kn) (hn : n = s.length) (v : Bool) (hv : longV m s = v) (w : World) (hr : RdK w w.heap.size A c s) :
    Calls Tryz.prog 21 #[.slice A n c, .int .i64 y] w fun e w' => e = .returned (.bool v) ∧ Below w.heap.size w w' := by
  subst hy
  have HN := Lib.hid hn
  have HR := Lib.hid hr
  have HV := Lib.hid hv
  have hmx := rdk_max hr hn
  have hcx : n ≤ c := by rw [hn]; exact hr.room
  by_cases h1 : m < n
  · have HV := Lib.hid (show true = v by rw [← hv]; unfold longV; rw [← hn, decide_eq_true h1]; rfl)
    have hd : decide (m < n) = true := decide_eq_true h1
    have HB := Lib.hid (Below.refl w.heap.size w)
    clear hn hr hv h1
    go_enter Tryz.func21, Tryz.ntmps21
    go_wp2_with fail
    go_ret
    exact ⟨ret_bool HV.out, HB.out⟩
  · have HV := Lib.hid (show (s.any fun k => decide (m < k.runs.length)) = v by rw [← hv]; unfold longV; rw [← hn, decide_eq_false h1]; rfl)
    have hd : decide (m < n) = false := decide_eq_false h1
    clear hn hr hv
    go_enter Tryz.func21, Tryz.ntmps21
    go_wp2_with fail
    go_loopw [5] (fun i wr => ∃ k : Nat, k ≤ n ∧ Hid (((s.drop k).any fun k => decide (m < k.runs.length)) = v) ∧ i = .int .i64 k ∧ Hid (Below w.heap.size w wr)) (fun i _ => n - (intOf i).toNat)
    case atStart => exact ⟨0, by omega, HV.out, rfl, Below.refl _ _⟩
    case round =>
      obtain ⟨k, hk, HL, rfl, HB⟩ := hrel
      by_cases hlt : k < n
      · obtain ⟨x, hg, hd2, -⟩ := cnt_get (l := s) (k := k) (by have := HN.out; omega)
        obtain ⟨b, o, rfl, hb1, hcell⟩ := knowns_at (HR.out.below HB.out) (by have := HN.out; omega)
        obtain ⟨A', n', c', hn', hrd, c0, c1⟩ := hcell k x hg
        have hmx' := rd_maxC hrd hn'
        have hL := HL.out
        rw [hd2, List.any_cons, ← hn'] at hL
        have hk0 : (0 : Int) ≤ (k : Int) := by omega
        have hkn : (k : Int) < (n : Int) := by omega
        by_cases he : m < n'
        · have HF := Lib.hid (show true = v by rw [← hL, decide_eq_true he]; rfl)
          have hdm : decide (m < n') = true := decide_eq_true he
          clear hcell hg hd2 hrd hn' hL he HL
          go_wp2_with fail
          go_ret
          exact ⟨ret_bool HF.out, HB.out⟩
        · have HF := Lib.hid (show ((s.drop (k + 1)).any fun k => decide (m < k.runs.length)) = v by rw [← hL, decide_eq_false he]; rfl)
          have hdm : decide (m < n') = false := decide_eq_false he
          clear hcell hg hd2 hrd hn' hL he HL
          go_wp2_with fail
          go_roundw
          case rel => exact ⟨k + 1, by omega, HF, by go_num, HB⟩
          case measure => simp [intOf]; omega
      · have HF := Lib.hid (show false = v by rw [← HL.out, List.drop_eq_nil_of_le (by have := HN.out; omega)]; rfl)
        go_wp2_with fail
        go_ret
        exact ⟨ret_bool HF.out, HB.out⟩
end Go.Proofs.YtaodifpnfejbbaaGreat

/-
  Layer 14 (vset), the document's words: are two lists of runs the same, and are two sets.
-/
namespace Go.Proofs.YtaodifpnfejbbaaGreat
open Go.RowKit

theorem sameC_iff : ∀ {a b : List Rn}, sameC a b = true ↔ a = b
  | [], [] => by simp [sameC]
  | [], _ :: _ => by simp [sameC]
  | _ :: _, [] => by simp [sameC]
  | r :: a, t :: b => by
    rw [sameC, Bool.and_eq_true, Bool.and_eq_true, beq_iff_eq, beq_iff_eq, sameC_iff (a := a), List.cons.injEq]
    constructor
    · exact fun h => ⟨rn_ext h.1.1 h.1.2, h.2⟩
    · exact fun h => ⟨by rw [h.1]; exact ⟨rfl, rfl⟩, h.2⟩
theorem sameC_len {a b : List Rn} (h : a.length ≠ b.length) : sameC a b = false := by
  cases h1 : sameC a b
  · rfl
  · exact absurd (congrArg List.length (sameC_iff.1 h1)) h
set_option maxHeartbeats 2000000 in
theorem ref_csame_any (A B : Option Addr) (c d n m : Nat) (a b : List Rn) (hn : n = a.length) (hm : m = b.length) (v : Bool) (hv : sameC a b = v) (w : World) (ha : kRn.Rd w w.heap.size A c a) (hb : kRn.Rd w w.heap.size B d b) :
    Calls Tryz.prog 48 #[.slice A n c, .slice B m d] w fun e w' => e = .returned (.bool v) ∧ Below w.heap.size w w' := by
  by_cases hnm : n = m
  · subst hnm
    have HN := Lib.hid hn
    have HM := Lib.hid hm
    have HA := Lib.hid ha
    have HB := Lib.hid hb
    have HV := Lib.hid hv
    have hmx := rd_maxC ha hn
    have hcx : n ≤ c := by rw [hn]; exact ha.room
    have hcy : n ≤ d := by rw [hm]; exact hb.room
    clear hn hm ha hb hv
    go_enter Tryz.func48, Tryz.ntmps48
    go_wp2_with fail
    go_loopw [5] (fun i wr => ∃ k q : Nat, k ≤ n ∧ i = .int .i64 k ∧ Hid (sameC (a.drop k) (b.drop k) = v) ∧ wr = w.drewN q) (fun i _ => n - (intOf i).toNat)
    case atStart => exact ⟨0, 0, by omega, rfl, HV, rfl⟩
    case round =>
      obtain ⟨k, q, hk, rfl, HL, rfl⟩ := hrel
      by_cases hlt : k < n
      · obtain ⟨r, hg, hd, -⟩ := cnt_get (l := a) (k := k) (by have := HN.out; omega)
        obtain ⟨t, hgt, hdt, -⟩ := cnt_get (l := b) (k := k) (by have := HM.out; omega)
        obtain ⟨b1, o1, rfl, hb1, hcell1⟩ := rns_at HA.out (by have := HN.out; omega)
        obtain ⟨b2, o2, rfl, hb2, hcell2⟩ := rns_at HB.out (by have := HM.out; omega)
        obtain ⟨a0, a1⟩ := hcell1 k r hg
        obtain ⟨c0, c1⟩ := hcell2 k t hgt
        obtain ⟨e, he⟩ : ∃ e, (r.fr == t.fr && r.to == t.to) = e := ⟨_, rfl⟩
        have EQ := fun w => eq_rn r.fr r.to t.fr t.to e he w
        have hL := HL.out
        rw [hd, hdt, sameC, he] at hL
        have hk0 : (0 : Int) ≤ (k : Int) := by omega
        have hkn : (k : Int) < (n : Int) := by omega
        obtain ⟨X, hX⟩ : ∃ X, r.fr = X := ⟨_, rfl⟩
        obtain ⟨Y, hY⟩ : ∃ Y, r.to = Y := ⟨_, rfl⟩
        obtain ⟨Z, hZ⟩ : ∃ Z, t.fr = Z := ⟨_, rfl⟩
        obtain ⟨V, hV⟩ : ∃ V, t.to = V := ⟨_, rfl⟩
        rw [hX, hY, hZ, hV] at EQ
        rw [hX] at a0
        rw [hY] at a1
        rw [hZ] at c0
        rw [hV] at c1
        cases e
        · have HF := Lib.hid (show false = v from hL)
          clear hcell1 hcell2 hg hgt hd hdt hX hY hZ hV he hL HL
          go_wp2_with fail
          go_quiet (fail)
          go_wp2_with fail
          go_ret
          exact ⟨ret_bool HF.out, below_drewN (below_drewN (Below.refl _ _) _) _⟩
        · have HF := Lib.hid (show sameC (a.drop (k + 1)) (b.drop (k + 1)) = v from hL)
          clear hcell1 hcell2 hg hgt hd hdt hX hY hZ hV he hL HL
          go_wp2_with fail
          go_quiet (fail)
          go_wp2_with fail
          go_roundw
          case rel => exact ⟨k + 1, _, by omega, by go_num, HF, rfl⟩
          case measure => simp [intOf]; omega
      · have HF := Lib.hid (show true = v by rw [← HL.out, List.drop_eq_nil_of_le (by have := HN.out; omega), List.drop_eq_nil_of_le (by have := HM.out; omega)]; rfl)
        go_wp2_with fail
        go_ret
        exact ⟨ret_bool HF.out, below_drewN (Below.refl _ _) _⟩
  · have HF := Lib.hid (show false = v by rw [← hv, sameC_len (by omega)])
    have hd : (n == m) = false := beq_eq_false_iff_ne.2 hnm
    have HW := Lib.hid (Below.refl w.heap.size w)
    clear hn hm ha hb hv
    go_enter Tryz.func48, Tryz.ntmps48
    go_wp2_with fail
    go_ret
    exact ⟨ret_bool HF.out, HW.out⟩
/-- Are two sets the same, in all their numbers? -/
def sameS : List Kn → List Kn → Bool
  | [], [] => true
  | x :: a, y :: b => ((x.rep == y.rep) && sameC x.runs y.runs) && sameS a b
  | _, _ => false
theorem sameS_iff : ∀ {a b : List Kn}, sameS a b = true ↔ a = b
  | [], [] => by simp [sameS]
  | [], _ :: _ => by simp [sameS]
  | _ :: _, [] => by simp [sameS]
  | r :: a, t :: b => by
    rw [sameS, Bool.and_eq_true, Bool.and_eq_true, beq_iff_eq, sameC_iff, sameS_iff (a := a), List.cons.injEq]
    constructor
    · exact fun h => ⟨kn_ext h.1.1 h.1.2, h.2⟩
    · exact fun h => ⟨by rw [h.1]; exact ⟨rfl, rfl⟩, h.2⟩
theorem sameS_len {a b : List Kn} (h : a.length ≠ b.length) : sameS a b = false := by
  cases h1 : sameS a b
  · rfl
  · exact absurd (congrArg List.length (sameS_iff.1 h1)) h
set_option maxRecDepth 100000 in
set_option maxHeartbeats 4000000 in
theorem ref_vsame (A B : Option Addr) (c d n m : Nat) (a b : List Kn) (hn : n = a.length) (hm : m = b.length) (v : Bool) (hv : sameS a b = v) (w : World) (ha : RdK w w.heap.size A c a) (hb : RdK w w.heap.size B d b) :
    Calls Tryz.prog 15 #[.slice A n c, .slice B m d] w fun e w' => e = .returned (.bool v) ∧ Below w.heap.size w w' := by
  by_cases hnm : n = m
  · subst hnm
    have HN := Lib.hid hn
    have HM := Lib.hid hm
    have HA := Lib.hid ha
    have HB := Lib.hid hb
    have HV := Lib.hid hv
    have hmx := rdk_max ha hn
    have hcx : n ≤ c := by rw [hn]; exact ha.room
    have hcy : n ≤ d := by rw [hm]; exact hb.room
    clear hn hm ha hb hv
    go_enter Tryz.func15, Tryz.ntmps15
    go_wp2_with fail
    go_loopw [5] (fun i wr => ∃ k : Nat, k ≤ n ∧ i = .int .i64 k ∧ Hid (sameS (a.drop k) (b.drop k) = v) ∧ Hid (Below w.heap.size w wr)) (fun i _ => n - (intOf i).toNat)
    case atStart => exact ⟨0, by omega, rfl, HV, Below.refl _ _⟩
    case round =>
      obtain ⟨k, hk, rfl, HL, HW⟩ := hrel
      by_cases hlt : k < n
      · obtain ⟨r, hg, hd, -⟩ := cnt_get (l := a) (k := k) (by have := HN.out; omega)
        obtain ⟨t, hgt, hdt, -⟩ := cnt_get (l := b) (k := k) (by have := HM.out; omega)
        obtain ⟨b1, o1, rfl, hb1, hcell1⟩ := knowns_at (HA.out.below HW.out) (by have := HN.out; omega)
        obtain ⟨b2, o2, rfl, hb2, hcell2⟩ := knowns_at (HB.out.below HW.out) (by have := HM.out; omega)
        obtain ⟨A1, n1, c1, hn1, hr1, p0, p1⟩ := hcell1 k r hg
        obtain ⟨A2, n2, c2, hn2, hr2, q0, q1⟩ := hcell2 k t hgt
        obtain ⟨e, he⟩ : ∃ e, sameC r.runs t.runs = e := ⟨_, rfl⟩
        have hL := HL.out
        rw [hd, hdt, sameS, he] at hL
        have hk0 : (0 : Int) ≤ (k : Int) := by omega
        have hkn : (k : Int) < (n : Int) := by omega
        have CS := Lib.hid (fun (L : List (Addr × Value)) => fun (W : World) (hC : CellL wr L W) => (ref_csame_any A1 A2 c1 c2 n1 n2 r.runs t.runs hn1 hn2 e he W ((hr1.more HW.out.size).call (cellL_size hC)) ((hr2.more HW.out.size).call (cellL_size hC))).mono fun (e' : Ending) (W' : World) ⟨h1, h2⟩ => (⟨h1, cellL_call h2 hC⟩ : e' = Ending.returned (.bool e) ∧ CellL wr L W'))
        obtain ⟨X, hX⟩ : ∃ X, r.rep = X := ⟨_, rfl⟩
        obtain ⟨Z, hZ⟩ : ∃ Z, t.rep = Z := ⟨_, rfl⟩
        rw [hX] at p0 hL
        rw [hZ] at q0 hL
        obtain ⟨f, hf⟩ : ∃ f, (X == Z) = f := ⟨_, rfl⟩
        rw [hf] at hL
        have hf2 : (X != Z) = !f := by rw [← hf]; rfl
        have HC := Lib.hid (show CellL wr [(⟨b1, o1 + k * 2, none⟩, .int .i64 X), (⟨b1, o1 + k * 2 + 1, none⟩, .slice A1 n1 c1), (⟨b2, o2 + k * 2, none⟩, .int .i64 Z), (⟨b2, o2 + k * 2 + 1, none⟩, .slice A2 n2 c2)] wr from ⟨p0, p1, q0, q1, Below.refl _ _⟩)
        have HF := Lib.hid hL
        clear hcell1 hcell2 hg hgt hd hdt hX hZ he hL HL hr1 hr2 hn1 hn2 p0 p1 q0 q1
        cases f <;> cases e
        all_goals simp only [Bool.not_true, Bool.not_false] at hf2
        all_goals
          go_wp2_with fail
          refine q_region (CellL wr [(⟨b1, o1 + k * 2, none⟩, .int .i64 X), (⟨b1, o1 + k * 2 + 1, none⟩, .slice A1 n1 c1), (⟨b2, o2 + k * 2, none⟩, .int .i64 Z), (⟨b2, o2 + k * 2 + 1, none⟩, .slice A2 n2 c2)]) (by kernel_rfl) (by kernel_rfl) (cellL_drew HC.out) ?_
          repeat (first
            | go_big_quiet_skip
            | (go_big_quiet_want; (first
              | (refine q_take (v := ?_) ?_ ?_; rotate_left; (focus (intro w hSw; (try simp only [CellL] at hSw); go_split_ands; go_simp; (try (rw [if_neg (by omega)])); (try with_reducible rfl); done)))
              | (refine q_call (CS.out _) ?_ ?_; (focus (intro w hSw; (try simp only [CellL] at hSw); go_split_ands; go_simp; (try (rw [if_neg (by omega)])); done)))); (try simp only [Act.put, List.setIfInBounds_toArray, List.set_cons_zero, List.set_cons_succ]); go_big_quiet_on))
          refine wpQuiet_nil ?_
          intro w2 hw2
          have HB2 := Lib.hid (HW.out.trans ((cellL_size hw2).mono HW.out.size))
          clear hw2
          go_wp2_with fail
          first
            | (go_ret; exact ⟨ret_bool HF.out, HB2.out⟩)
            | (go_roundw
               case rel => exact ⟨k + 1, by omega, by go_num, HF, HB2⟩
               case measure => simp [intOf]; omega)
      · have HF := Lib.hid (show true = v by rw [← HL.out, List.drop_eq_nil_of_le (by have := HN.out; omega), List.drop_eq_nil_of_le (by have := HM.out; omega)]; rfl)
        go_wp2_with fail
        go_ret
        exact ⟨ret_bool HF.out, HW.out⟩
  · have HF := Lib.hid (show false = v by rw [← hv, sameS_len (by omega)])
    have hd : (n == m) = false := beq_eq_false_iff_ne.2 hnm
    have HW := Lib.hid (Below.refl w.heap.size w)
    clear hn hm ha hb hv
    go_enter Tryz.func15, Tryz.ntmps15
    go_wp2_with fail
    go_ret
    exact ⟨ret_bool HF.out, HW.out⟩
end Go.Proofs.YtaodifpnfejbbaaGreat

/-
  Layer 14 (vset), the document's words: has a set a version. (Written by a program.)
-/
namespace Go.Proofs.YtaodifpnfejbbaaGreat
open Go.RowKit

theorem vbox_new (w : World) (x y : Int) : (w.alloc (.cells #[.int .i64 x, .int .i64 y] 24)).cell? ⟨w.heap.size, 0, none⟩ = some (.int .i64 x) ∧ (w.alloc (.cells #[.int .i64 x, .int .i64 y] 24)).cell? ⟨w.heap.size, 1, none⟩ = some (.int .i64 y) := by
  have hg := heap_new w (.cells #[.int .i64 x, .int .i64 y] 24) _ rfl
  exact ⟨by rw [cell_of_row _ _ _ _ _ _ hg]; rfl, by rw [cell_of_row _ _ _ _ _ _ hg]; rfl⟩
set_option maxRecDepth 100000 in
set_option maxHeartbeats 4000000 in
theorem ref_vhas (A : Option Addr) (c n : Nat) (s : List Kn) (v : Vr) (x y : Int) (hx : v.rep = x) (hy : v.cnt = y) (hn : n = s.length) (hl : (runsV s x).length ≤ 100000) (f : Bool) (hf : hasS s v = f) (w : World) (hr : RdK w w.heap.size A c s) :
    Calls Tryz.prog 47 #[.slice A n c, .agg #[.int .i64 x, .int .i64 y]] w fun e w' => e = .returned (.bool f) ∧ Below w.heap.size w w' := by
  obtain ⟨z, hz⟩ : ∃ z, rightVr v = z := ⟨_, rfl⟩
  have C1 := fun w => Lib.hid (ref_vrright v x y hx hy z hz w)
  obtain ⟨N, hN⟩ : ∃ N, (runsV s x).length = N := ⟨_, rfl⟩
  have C2 := fun w h => Lib.hid (ref_vruns A c n s x hn N hN (by omega) w h)
  obtain ⟨g, hg⟩ : ∃ g, hasC (runsV s x) y = g := ⟨_, rfl⟩
  have C3 := fun A c w h => Lib.hid (ref_chas A c N (runsV s x) y hN.symm g hg w h)
  have hV := hf
  unfold hasS at hV
  rw [hx, hy, hz, hg] at hV
  have HB := Lib.hid (below_new w (.cells #[.int .i64 x, .int .i64 y] 24))
  have HC := Lib.hid (show CellL (w.alloc (.cells #[.int .i64 x, .int .i64 y] 24)) [(⟨w.heap.size, 0, none⟩, .int .i64 x), (⟨w.heap.size, 1, none⟩, .int .i64 y)] (w.alloc (.cells #[.int .i64 x, .int .i64 y] 24)) from ⟨(vbox_new w x y).1, (vbox_new w x y).2, Below.refl _ _⟩)
  have HR := Lib.hid (hr.call HB.out)
  replace HB := Lib.hid HB.out.drew
  replace HR := Lib.hid (HR.out.call (Below.refl _ _).drew)
  clear hx hy hn hl hf hr hN hg
  cases z
  · have hV : false = f := hV
    subst hV
    clear hz
    go_enter Tryz.func47, Tryz.ntmps47
    go_upto_region 1 with fail
    refine wp_region_noPanic ?_
    refine wp_region_held_drew (S := CellL (w.alloc (.cells #[.int .i64 x, .int .i64 y] 24)) [(⟨w.heap.size, 0, none⟩, .int .i64 x), (⟨w.heap.size, 1, none⟩, .int .i64 y)]) (by kernel_rfl) (cellL_drew HC.out) (fun hHeld => ?_)
    refine take_yes (i := 0) (v := ?_) rfl (by kernel_rfl) (by kernel_rfl) (by kernel_rfl) (fun _ _ _ h => h) (by rfl) (by assumption) ?_ ?_; rotate_left; (focus ((intro w hSw); (try simp only [CellL] at hSw); go_split_ands; go_simp; (try with_reducible rfl); done))
    (try simp only [Act.put, List.setIfInBounds_toArray, List.set_cons_zero, List.set_cons_succ])
    refine call_one (i := 1) rfl (by kernel_rfl) (by rfl) (fun K hK => ?_)
    go_simp
    with_reducible refine (C1 _).out.mono ?_
    rintro e w9 ⟨rfl, hq⟩
    replace HB := Lib.hid (HB.out.trans (hq.mono HB.out.size))
    replace HR := Lib.hid (HR.out.call hq)
    refine hK.out _ _ (cellL_call hq (by assumption)) (fun hHeld => ?_)
    clear hK K hq
    (try simp only [Act.put, List.setIfInBounds_toArray, List.set_cons_zero, List.set_cons_succ])
    refine take_yes (i := 2) (v := ?_) rfl (by kernel_rfl) (by kernel_rfl) (by kernel_rfl) (fun _ _ _ h => h) (by rfl) (by assumption) ?_ ?_; rotate_left; (focus ((intro w hSw); (try simp only [CellL] at hSw); go_split_ands; go_simp; (try with_reducible rfl); done))
    (try simp only [Act.put, List.setIfInBounds_toArray, List.set_cons_zero, List.set_cons_succ])
    refine take_no (i := 3) rfl (by kernel_rfl) (by kernel_rfl) (by kernel_rfl) (fun _ _ _ h => h) (by rfl) (by assumption) ?_
    (try simp only [Act.put, List.setIfInBounds_toArray, List.set_cons_zero, List.set_cons_succ])
    refine take_no (i := 4) rfl (by kernel_rfl) (by kernel_rfl) (by kernel_rfl) (fun _ _ _ h => h) (by rfl) (by assumption) ?_
    (try simp only [Act.put, List.setIfInBounds_toArray, List.set_cons_zero, List.set_cons_succ])
    refine take_no (i := 5) rfl (by kernel_rfl) (by kernel_rfl) (by kernel_rfl) (fun _ _ _ h => h) (by rfl) (by assumption) ?_
    (try simp only [Act.put, List.setIfInBounds_toArray, List.set_cons_zero, List.set_cons_succ])
    refine take_no (i := 7) rfl (by kernel_rfl) (by kernel_rfl) (by kernel_rfl) (fun _ _ _ h => h) (by rfl) (by assumption) ?_
    (try simp only [Act.put, List.setIfInBounds_toArray, List.set_cons_zero, List.set_cons_succ])
    refine take_no (i := 8) rfl (by kernel_rfl) (by kernel_rfl) (by kernel_rfl) (fun _ _ _ h => h) (by rfl) (by assumption) ?_
    (try simp only [Act.put, List.setIfInBounds_toArray, List.set_cons_zero, List.set_cons_succ])
    refine take_no (i := 6) rfl (by kernel_rfl) (by kernel_rfl) (by kernel_rfl) (fun _ _ _ h => h) (by rfl) (by assumption) ?_
    (try simp only [Act.put, List.setIfInBounds_toArray, List.set_cons_zero, List.set_cons_succ])
    refine take_no (i := 9) rfl (by kernel_rfl) (by kernel_rfl) (by kernel_rfl) (fun _ _ _ h => h) (by rfl) (by assumption) ?_
    (try simp only [Act.put, List.setIfInBounds_toArray, List.set_cons_zero, List.set_cons_succ])
    refine take_yes (i := 10) (v := ?_) rfl (by kernel_rfl) (by kernel_rfl) (by kernel_rfl) (fun _ _ _ h => h) (by rfl) (by assumption) ?_ ?_; rotate_left; (focus ((intro w hSw); (try simp only [CellL] at hSw); go_split_ands; go_simp; (try with_reducible rfl); done))
    (try simp only [Act.put, List.setIfInBounds_toArray, List.set_cons_zero, List.set_cons_succ])
    refine take_yes (i := 11) (v := ?_) rfl (by kernel_rfl) (by kernel_rfl) (by kernel_rfl) (fun _ _ _ h => h) (by rfl) (by assumption) ?_ ?_; rotate_left; (focus ((intro w hSw); (try simp only [CellL] at hSw); go_split_ands; go_simp; (try with_reducible rfl); done))
    (try simp only [Act.put, List.setIfInBounds_toArray, List.set_cons_zero, List.set_cons_succ])
    refine wpAnyH_done (by kernel_rfl) ?_ _
    refine NoPanic.normal ?_
    clear hHeld
    go_wp2_with fail
    go_ret
    exact ⟨rfl, HB.out⟩
  · have hV : g = f := hV
    subst hV
    clear hz
    go_enter Tryz.func47, Tryz.ntmps47
    go_upto_region 1 with fail
    refine wp_region_noPanic ?_
    refine wp_region_held_drew (S := CellL (w.alloc (.cells #[.int .i64 x, .int .i64 y] 24)) [(⟨w.heap.size, 0, none⟩, .int .i64 x), (⟨w.heap.size, 1, none⟩, .int .i64 y)]) (by kernel_rfl) (cellL_drew HC.out) (fun hHeld => ?_)
    refine take_yes (i := 0) (v := ?_) rfl (by kernel_rfl) (by kernel_rfl) (by kernel_rfl) (fun _ _ _ h => h) (by rfl) (by assumption) ?_ ?_; rotate_left; (focus ((intro w hSw); (try simp only [CellL] at hSw); go_split_ands; go_simp; (try with_reducible rfl); done))
    (try simp only [Act.put, List.setIfInBounds_toArray, List.set_cons_zero, List.set_cons_succ])
    refine call_one (i := 1) rfl (by kernel_rfl) (by rfl) (fun K hK => ?_)
    go_simp
    with_reducible refine (C1 _).out.mono ?_
    rintro e w9 ⟨rfl, hq⟩
    replace HB := Lib.hid (HB.out.trans (hq.mono HB.out.size))
    replace HR := Lib.hid (HR.out.call hq)
    refine hK.out _ _ (cellL_call hq (by assumption)) (fun hHeld => ?_)
    clear hK K hq
    (try simp only [Act.put, List.setIfInBounds_toArray, List.set_cons_zero, List.set_cons_succ])
    refine take_yes (i := 2) (v := ?_) rfl (by kernel_rfl) (by kernel_rfl) (by kernel_rfl) (fun _ _ _ h => h) (by rfl) (by assumption) ?_ ?_; rotate_left; (focus ((intro w hSw); (try simp only [CellL] at hSw); go_split_ands; go_simp; (try with_reducible rfl); done))
    (try simp only [Act.put, List.setIfInBounds_toArray, List.set_cons_zero, List.set_cons_succ])
    refine take_yes (i := 3) (v := ?_) rfl (by kernel_rfl) (by kernel_rfl) (by kernel_rfl) (fun _ _ _ h => h) (by rfl) (by assumption) ?_ ?_; rotate_left; (focus ((intro w hSw); (try simp only [CellL] at hSw); go_split_ands; go_simp; (try with_reducible rfl); done))
    (try simp only [Act.put, List.setIfInBounds_toArray, List.set_cons_zero, List.set_cons_succ])
    refine take_yes (i := 4) (v := ?_) rfl (by kernel_rfl) (by kernel_rfl) (by kernel_rfl) (fun _ _ _ h => h) (by rfl) (by assumption) ?_ ?_; rotate_left; (focus ((intro w hSw); (try simp only [CellL] at hSw); go_split_ands; go_simp; (try with_reducible rfl); done))
    (try simp only [Act.put, List.setIfInBounds_toArray, List.set_cons_zero, List.set_cons_succ])
    refine take_yes (i := 5) (v := ?_) rfl (by kernel_rfl) (by kernel_rfl) (by kernel_rfl) (fun _ _ _ h => h) (by rfl) (by assumption) ?_ ?_; rotate_left; (focus ((intro w hSw); (try simp only [CellL] at hSw); go_split_ands; go_simp; (try with_reducible rfl); done))
    (try simp only [Act.put, List.setIfInBounds_toArray, List.set_cons_zero, List.set_cons_succ])
    refine take_yes (i := 7) (v := ?_) rfl (by kernel_rfl) (by kernel_rfl) (by kernel_rfl) (fun _ _ _ h => h) (by rfl) (by assumption) ?_ ?_; rotate_left; (focus ((intro w hSw); (try simp only [CellL] at hSw); go_split_ands; go_simp; (try with_reducible rfl); done))
    (try simp only [Act.put, List.setIfInBounds_toArray, List.set_cons_zero, List.set_cons_succ])
    refine take_yes (i := 8) (v := ?_) rfl (by kernel_rfl) (by kernel_rfl) (by kernel_rfl) (fun _ _ _ h => h) (by rfl) (by assumption) ?_ ?_; rotate_left; (focus ((intro w hSw); (try simp only [CellL] at hSw); go_split_ands; go_simp; (try with_reducible rfl); done))
    (try simp only [Act.put, List.setIfInBounds_toArray, List.set_cons_zero, List.set_cons_succ])
    refine call_one (i := 6) rfl (by kernel_rfl) (by rfl) (fun K hK => ?_)
    go_simp
    with_reducible refine (C2 _ HR.out).out.mono ?_
    rintro e w9 ⟨A9, c9, rfl, hrd, hq⟩
    replace HB := Lib.hid (HB.out.trans (hq.mono HB.out.size))
    replace HR := Lib.hid (HR.out.call hq)
    have HP := Lib.hid hrd
    clear hrd
    refine hK.out _ _ (cellL_call hq (by assumption)) (fun hHeld => ?_)
    clear hK K hq
    (try simp only [Act.put, List.setIfInBounds_toArray, List.set_cons_zero, List.set_cons_succ])
    refine call_one (i := 9) rfl (by kernel_rfl) (by rfl) (fun K hK => ?_)
    go_simp
    with_reducible refine (C3 _ _ _ HP.out).out.mono ?_
    rintro e w9 ⟨rfl, hq⟩
    replace HB := Lib.hid (HB.out.trans (hq.mono HB.out.size))
    replace HR := Lib.hid (HR.out.call hq)
    refine hK.out _ _ (cellL_call hq (by assumption)) (fun hHeld => ?_)
    clear hK K hq
    (try simp only [Act.put, List.setIfInBounds_toArray, List.set_cons_zero, List.set_cons_succ])
    refine take_yes (i := 10) (v := ?_) rfl (by kernel_rfl) (by kernel_rfl) (by kernel_rfl) (fun _ _ _ h => h) (by rfl) (by assumption) ?_ ?_; rotate_left; (focus ((intro w hSw); (try simp only [CellL] at hSw); go_split_ands; go_simp; (try with_reducible rfl); done))
    (try simp only [Act.put, List.setIfInBounds_toArray, List.set_cons_zero, List.set_cons_succ])
    refine take_yes (i := 11) (v := ?_) rfl (by kernel_rfl) (by kernel_rfl) (by kernel_rfl) (fun _ _ _ h => h) (by rfl) (by assumption) ?_ ?_; rotate_left; (focus ((intro w hSw); (try simp only [CellL] at hSw); go_split_ands; go_simp; (try with_reducible rfl); done))
    (try simp only [Act.put, List.setIfInBounds_toArray, List.set_cons_zero, List.set_cons_succ])
    refine wpAnyH_done (by kernel_rfl) ?_ _
    refine NoPanic.normal ?_
    clear hHeld
    go_wp2_with fail
    go_ret
    exact ⟨rfl, HB.out⟩
end Go.Proofs.YtaodifpnfejbbaaGreat

/-
  Lists of things that hold slices of others: read, owned, appended to; with the blocks that all of it lies in.
-/
namespace Go.Proofs.YtaodifpnfejbbaaGreat
open Go.RowKit

/-- A row that lies in a block that S lets in. -/
def RowS (w : World) (S : Nat → Prop) (A : Option Addr) (xs : List Value) : Prop :=
  xs = [] ∨ ∃ b o, A = some ⟨b, o, none⟩ ∧ S b ∧ ∀ k u, xs[k]? = some u → w.cell? ⟨b, o + k, none⟩ = some u
/-- What lies in these blocks is as it was. -/
def KeptS (S : Nat → Prop) (w w' : World) : Prop := ∀ p : Addr, S p.block → p.block < w.heap.size → w'.cell? p = w.cell? p
theorem keptS_below {w w' : World} (hb : Below w.heap.size w w') (S : Nat → Prop) : KeptS S w w' := fun _ _ h => hb.cell h
theorem keptS_under {w w' : World} {B : Nat} {S : Nat → Prop} (hb : Below B w w') (h : ∀ g, S g → g < B) : KeptS S w w' := fun _ hs _ => hb.cell (h _ hs)
theorem keptS_grown {w w' : World} {row : Option Nat} {S : Nat → Prop} (hg : w.grownBy w' row) (h : ∀ g, S g → row ≠ some g) : KeptS S w w' := fun p hs hp => hg.cell_far p hp fun e => h _ hs e.symm
theorem KeptS.mono {S T : Nat → Prop} {w w' : World} (h : KeptS T w w') (hs : ∀ g, S g → T g) : KeptS S w w' := fun p hp hl => h p (hs _ hp) hl
theorem row_lt {w : World} {b o : Nat} {xs : List Value} (hne : xs ≠ []) (h : ∀ k u, xs[k]? = some u → w.cell? ⟨b, o + k, none⟩ = some u) : b < w.heap.size := by
  cases xs with
  | nil => exact absurd rfl hne
  | cons x l => exact World.block_lt_of_cell? w _ (h 0 x rfl)
theorem RowS.lives {w : World} {S : Nat → Prop} {A : Option Addr} {xs : List Value} (h : RowS w S A xs) : RowS w (fun g => S g ∧ g < w.heap.size) A xs := by
  by_cases h0 : xs = []
  · exact .inl h0
  · rcases h with h | ⟨b, o, h1, h2, h3⟩
    · exact absurd h h0
    · exact .inr ⟨b, o, h1, ⟨h2, row_lt h0 h3⟩, h3⟩
theorem RowS.mono {w : World} {S T : Nat → Prop} {A : Option Addr} {xs : List Value} (h : RowS w S A xs) (hs : ∀ g, S g → T g) : RowS w T A xs := by
  rcases h with h | ⟨b, o, h1, h2, h3⟩
  · exact .inl h
  · exact .inr ⟨b, o, h1, hs _ h2, h3⟩
theorem RowS.keep {w w' : World} {S : Nat → Prop} {A : Option Addr} {xs : List Value} (h : RowS w S A xs) (hk : KeptS S w w') : RowS w' S A xs := by
  by_cases h0 : xs = []
  · exact .inl h0
  · rcases h with h | ⟨b, o, h1, h2, h3⟩
    · exact absurd h h0
    · exact .inr ⟨b, o, h1, h2, fun k u hu => (hk _ h2 (row_lt h0 h3)).trans (h3 k u hu)⟩
theorem RowS.at_ {w : World} {S : Nat → Prop} {A : Option Addr} {xs : List Value} (h : RowS w S A xs) : RowAt w w.heap.size A xs := by
  rcases h.lives with h | ⟨b, o, h1, h2, h3⟩
  · exact .inl h
  · exact .inr ⟨b, o, h1, h2.2, h3⟩
theorem RowAt.inS {w : World} {B : Nat} {A : Option Addr} {xs : List Value} (h : RowAt w B A xs) : RowS w (fun g => g < B) A xs := h

namespace Kind
variable {P : Program} {α : Type}
/-- A row that reads as these things, in a block that S lets in. -/
structure RdS (k : Kind P α) (w : World) (S : Nat → Prop) (A : Option Addr) (c : Nat) (l : List α) : Prop where
  row : RowS w S A (k.row l)
  room : l.length ≤ c
  cap : c ≤ maxLen
variable {k : Kind P α}
theorem RdS.mono {w : World} {S T : Nat → Prop} {A : Option Addr} {c : Nat} {l : List α} (h : k.RdS w S A c l) (hs : ∀ g, S g → T g) : k.RdS w T A c l := ⟨h.row.mono hs, h.room, h.cap⟩
theorem RdS.lives {w : World} {S : Nat → Prop} {A : Option Addr} {c : Nat} {l : List α} (h : k.RdS w S A c l) : k.RdS w (fun g => S g ∧ g < w.heap.size) A c l := ⟨h.row.lives, h.room, h.cap⟩
theorem RdS.keep {w w' : World} {S : Nat → Prop} {A : Option Addr} {c : Nat} {l : List α} (h : k.RdS w S A c l) (hk : KeptS S w w') : k.RdS w' S A c l := ⟨h.row.keep hk, h.room, h.cap⟩
theorem RdS.call {w w' : World} {S : Nat → Prop} {A : Option Addr} {c : Nat} {l : List α} (h : k.RdS w S A c l) (hb : Below w.heap.size w w') : k.RdS w' S A c l := h.keep (keptS_below hb S)
theorem RdS.rd {w : World} {S : Nat → Prop} {A : Option Addr} {c : Nat} {l : List α} (h : k.RdS w S A c l) : k.Rd w w.heap.size A c l := ⟨h.row.at_, h.room, h.cap⟩
theorem Rd.inS {w : World} {B : Nat} {A : Option Addr} {c : Nat} {l : List α} (h : k.Rd w B A c l) : k.RdS w (fun g => g < B) A c l := ⟨h.row.inS, h.room, h.cap⟩
theorem RdS.nil (w : World) (S : Nat → Prop) (A : Option Addr) (c : Nat) (hc : c ≤ maxLen) : k.RdS w S A c [] := ⟨.inl rfl, Nat.zero_le _, hc⟩
theorem Own.rdS {w : World} {base n c : Nat} {A : Option Addr} {l : List α} (h : k.Own w base (.slice A n c) l) (hn : n = l.length) : k.RdS w (fun g => base ≤ g) A c l := by
  have hr := h.rd
  refine ⟨?_, hr.room, hr.cap⟩
  by_cases h0 : 0 < n
  · obtain ⟨g, c', hv, -, h1, -, -, -⟩ := h.some_ hn h0
    injection hv with hA
    subst hA
    rcases hr.row with h2 | ⟨b, o, h2, h3, h4⟩
    · exact .inl h2
    · refine .inr ⟨b, o, h2, ?_, h4⟩
      injection h2 with h2
      injection h2 with h2
      rw [← h2]; exact h1
  · exact .inl (by rw [List.eq_nil_of_length_eq_zero (by omega : l.length = 0)]; rfl)
end Kind

/-- Things that lie as β (with addresses of what they hold) and mean α. -/
structure Deep (P : Program) (β α : Type) where
  k : Kind P β
  rel : World → (Nat → Prop) → β → α → Prop
  mono : ∀ {w : World} {S T : Nat → Prop} {b : β} {a : α}, rel w S b a → (∀ g, S g → T g) → rel w T b a
  lives : ∀ {w : World} {S : Nat → Prop} {b : β} {a : α}, rel w S b a → rel w (fun g => S g ∧ g < w.heap.size) b a
  keep : ∀ {w w' : World} {S : Nat → Prop} {b : β} {a : α}, rel w S b a → KeptS S w w' → rel w' S b a
namespace Deep
variable {P : Program} {β α : Type} (d : Deep P β α)
/-- Each of these things means that. -/
def All (w : World) (S : Nat → Prop) (bs : List β) (s : List α) : Prop := bs.length = s.length ∧ ∀ (i : Nat) (b : β) (a : α), bs[i]? = some b → s[i]? = some a → d.rel w S b a
/-- A row that reads as these things, all of it in blocks that S lets in. -/
def Rd (w : World) (S : Nat → Prop) (A : Option Addr) (c : Nat) (s : List α) : Prop := ∃ bs : List β, d.k.RdS w S A c bs ∧ d.All w S bs s
variable {d}
theorem All.mono {w : World} {S T : Nat → Prop} {bs : List β} {s : List α} (h : d.All w S bs s) (hs : ∀ g, S g → T g) : d.All w T bs s := ⟨h.1, fun i b a h1 h2 => d.mono (h.2 i b a h1 h2) hs⟩
theorem All.lives {w : World} {S : Nat → Prop} {bs : List β} {s : List α} (h : d.All w S bs s) : d.All w (fun g => S g ∧ g < w.heap.size) bs s := ⟨h.1, fun i b a h1 h2 => d.lives (h.2 i b a h1 h2)⟩
theorem All.keep {w w' : World} {S : Nat → Prop} {bs : List β} {s : List α} (h : d.All w S bs s) (hk : KeptS S w w') : d.All w' S bs s := ⟨h.1, fun i b a h1 h2 => d.keep (h.2 i b a h1 h2) hk⟩
theorem All.append {w : World} {S : Nat → Prop} {bs cs : List β} {s t : List α} (h : d.All w S bs s) (h' : d.All w S cs t) : d.All w S (bs ++ cs) (s ++ t) := by
  refine ⟨by rw [List.length_append, List.length_append, h.1, h'.1], fun i b a h1 h2 => ?_⟩
  by_cases hi : i < bs.length
  · rw [List.getElem?_append_left hi] at h1
    rw [List.getElem?_append_left (by rw [← h.1]; exact hi)] at h2
    exact h.2 i b a h1 h2
  · rw [List.getElem?_append_right (by omega)] at h1
    rw [List.getElem?_append_right (by rw [← h.1]; omega), ← h.1] at h2
    exact h'.2 _ b a h1 h2
theorem All.one {w : World} {S : Nat → Prop} {b : β} {a : α} (h : d.rel w S b a) : d.All w S [b] [a] := ⟨rfl, fun i b' a' h1 h2 => by
  cases i with
  | zero => injection h1 with h1; injection h2 with h2; subst h1 h2; exact h
  | succ i => cases h1⟩
theorem All.nil (w : World) (S : Nat → Prop) : d.All w S [] [] := ⟨rfl, fun i b a h => by cases h⟩
theorem Rd.mono {w : World} {S T : Nat → Prop} {A : Option Addr} {c : Nat} {s : List α} (h : d.Rd w S A c s) (hs : ∀ g, S g → T g) : d.Rd w T A c s := by
  obtain ⟨bs, h1, h2⟩ := h; exact ⟨bs, h1.mono hs, h2.mono hs⟩
theorem Rd.lives {w : World} {S : Nat → Prop} {A : Option Addr} {c : Nat} {s : List α} (h : d.Rd w S A c s) : d.Rd w (fun g => S g ∧ g < w.heap.size) A c s := by
  obtain ⟨bs, h1, h2⟩ := h; exact ⟨bs, h1.lives, h2.lives⟩
theorem Rd.keep {w w' : World} {S : Nat → Prop} {A : Option Addr} {c : Nat} {s : List α} (h : d.Rd w S A c s) (hk : KeptS S w w') : d.Rd w' S A c s := by
  obtain ⟨bs, h1, h2⟩ := h; exact ⟨bs, h1.keep hk, h2.keep hk⟩
theorem Rd.call {w w' : World} {S : Nat → Prop} {A : Option Addr} {c : Nat} {s : List α} (h : d.Rd w S A c s) (hb : Below w.heap.size w w') : d.Rd w' S A c s := h.keep (keptS_below hb S)
theorem Rd.all {w : World} {S : Nat → Prop} {A : Option Addr} {c : Nat} {s : List α} (h : d.Rd w S A c s) : d.Rd w (fun _ => True) A c s := h.mono fun _ _ => trivial
theorem Rd.room {w : World} {S : Nat → Prop} {A : Option Addr} {c : Nat} {s : List α} (h : d.Rd w S A c s) : s.length ≤ c := by
  obtain ⟨bs, h1, h2⟩ := h; rw [← h2.1]; exact h1.room
theorem Rd.max {w : World} {S : Nat → Prop} {A : Option Addr} {c n : Nat} {s : List α} (h : d.Rd w S A c s) (hn : n = s.length) : n ≤ 9223372036854775807 := by
  obtain ⟨bs, h1, h2⟩ := h
  have h3 := h1.room
  have h4 := h1.cap
  have h5 := h2.1
  unfold maxLen at h4
  omega
theorem Rd.nil (w : World) (S : Nat → Prop) (A : Option Addr) (c : Nat) (hc : c ≤ maxLen) : d.Rd w S A c [] := ⟨[], .nil _ _ _ _ hc, .nil _ _⟩
/-- Where the things lie, and what they mean. -/
theorem Rd.at_ {w : World} {S : Nat → Prop} {A : Option Addr} {c : Nat} {s : List α} (h : d.Rd w S A c s) (hp : 0 < s.length) :
    ∃ b o, A = some ⟨b, o, none⟩ ∧ S b ∧ b < w.heap.size ∧ ∀ i x, s[i]? = some x → ∃ y, d.rel w S y x ∧ ∀ j u, (d.k.cells y)[j]? = some u → w.cell? ⟨b, o + (i * d.k.size + j), none⟩ = some u := by
  obtain ⟨bs, h1, h2, h3⟩ := h
  rcases h1.lives.row with h0 | ⟨b, o, e1, ⟨e2, e3⟩, e4⟩
  · exfalso
    have := congrArg List.length h0
    rw [d.k.row_len, List.length_nil] at this
    have := Nat.mul_pos (show 0 < bs.length by omega) d.k.pos
    omega
  · refine ⟨b, o, e1, e2, e3, fun i x hx => ?_⟩
    obtain ⟨y, hy⟩ : ∃ y, bs[i]? = some y := ⟨_, List.getElem?_eq_getElem (by have := (List.getElem?_eq_some_iff.1 hx).1; omega)⟩
    refine ⟨y, h3 i y x hy hx, fun j u hu => e4 _ _ ?_⟩
    have hj : j < d.k.size := by
      rw [← d.k.len y]
      exact (List.getElem?_eq_some_iff.1 hu).1
    rw [d.k.row_get hy hj]; exact hu
variable (d)
/-- A row of the call's own; what its things hold lies off it, in blocks that S lets in. -/
def Own (w : World) (base : Nat) (S : Nat → Prop) (v : Value) (s : List α) : Prop := ∃ bs : List β, d.k.Own w base v bs ∧ d.All w (fun g => S g ∧ v.ownBlock ≠ some g) bs s
variable {d}
theorem Own.nil (w : World) (base : Nat) (S : Nat → Prop) : d.Own w base S (.slice none 0 0) [] := ⟨[], Kind.Own.nil _ _, .nil _ _⟩
theorem Own.below {w w' : World} {base : Nat} {S : Nat → Prop} {v : Value} {s : List α} (h : d.Own w base S v s) (hb : Below w.heap.size w w') : d.Own w' base S v s := by
  obtain ⟨bs, h1, h2⟩ := h
  exact ⟨bs, h1.below hb, h2.keep (keptS_below hb _)⟩
theorem Own.alloc {w : World} {base : Nat} {S : Nat → Prop} {v : Value} {s : List α} (h : d.Own w base S v s) (o : Obj) : d.Own (w.alloc o) base S v s := h.below (below_new w o)
theorem Own.lt {w : World} {base : Nat} {S : Nat → Prop} {v : Value} {s : List α} (h : d.Own w base S v s) : ∀ g, v.ownBlock = some g → base ≤ g ∧ g < w.heap.size := by
  obtain ⟨bs, h1, -⟩ := h; exact h1.lt
/-- Behind an append: what was there, and what has come. -/
theorem Own.app {w w' : World} {base : Nat} {S : Nat → Prop} {v v' : Value} {bs cs : List β} {s t : List α} (hs : d.All w (fun g => S g ∧ v.ownBlock ≠ some g) bs s) (ht : d.All w (fun g => S g ∧ v.ownBlock ≠ some g) cs t)
    (ho : d.k.Own w' base v' (bs ++ cs)) (hg : w.grownBy w' v.ownBlock) (hv : v'.ownBlock = v.ownBlock ∨ v'.ownBlock = some w.heap.size) : d.Own w' base S v' (s ++ t) := by
  refine ⟨bs ++ cs, ho, ((hs.append ht).lives.keep (keptS_grown hg fun g h => h.1.2)).mono fun g h => ⟨h.1.1, ?_⟩⟩
  rcases hv with e | e
  · rw [e]; exact h.1.2
  · rw [e]; intro h1; injection h1 with h1; have := h.2; omega
theorem Own.rd {w : World} {base n : Nat} {S : Nat → Prop} {v : Value} {s : List α} (h : d.Own w base S v s) (hn : n = s.length) (hS : ∀ g, base ≤ g → S g) : ∃ A c, v = .slice A n c ∧ d.Rd w S A c s := by
  obtain ⟨bs, h1, h2⟩ := h
  obtain ⟨A, c, rfl, -⟩ := h1.read_n (hn.trans h2.1.symm)
  exact ⟨A, c, rfl, bs, (h1.rdS (hn.trans h2.1.symm)).mono hS, h2.mono fun g h => h.1⟩
variable (d)
/-- What a call answers that may hand on what was handed in (in blocks that S lets in), or what it made. -/
def Ret (w : World) (S : Nat → Prop) (N : Nat) (s : List α) (e : Ending) (w' : World) : Prop := ∃ A c, e = .returned (.slice A N c) ∧ d.Rd w' (fun g => S g ∨ w.heap.size ≤ g) A c s ∧ Below w.heap.size w w'
variable {d}
/-- What a call has made since, or hands on, lies off a row that was there. -/
theorem All.off {w : World} {S T : Nat → Prop} {B : Nat} {v : Value} {cs : List β} {t : List α} (h : d.All w (fun g => S g ∨ B ≤ g) cs t) (hS : ∀ g, S g → T g ∧ v.ownBlock ≠ some g) (hB : ∀ g, B ≤ g → T g) (hv : ∀ g, v.ownBlock = some g → g < B) : d.All w (fun g => T g ∧ v.ownBlock ≠ some g) cs t :=
  h.mono fun g hg => by
    rcases hg with hg | hg
    · exact hS g hg
    · exact ⟨hB g hg, fun e => by have := hv g e; omega⟩
end Deep
/-- A flat kind as a deep one. -/
def Kind.deep {P : Program} {α : Type} (k : Kind P α) : Deep P α α where
  k := k
  rel := fun _ _ b a => b = a
  mono := fun h _ => h
  lives := fun h => h
  keep := fun h _ => h
end Go.Proofs.YtaodifpnfejbbaaGreat

/-
  Layer 14 (vset), the document's words: a set that a call makes, Known by Known; what is made of two sets.
-/
namespace Go.Proofs.YtaodifpnfejbbaaGreat
open Go.RowKit

/-- A Known as it lies, and what it means. -/
noncomputable def dKn : Deep Tryz.prog Ks Kn where
  k := kKs
  rel := fun w S b a => b.rep = a.rep ∧ b.n = a.runs.length ∧ kRn.RdS w S b.A b.c a.runs
  mono := fun h hs => ⟨h.1, h.2.1, h.2.2.mono hs⟩
  lives := fun h => ⟨h.1, h.2.1, h.2.2.lives⟩
  keep := fun h hk => ⟨h.1, h.2.1, h.2.2.keep hk⟩
theorem rdk_in {w : World} {B : Nat} {A : Option Addr} {c : Nat} {s : List Kn} (h : RdK w B A c s) : dKn.Rd w (fun g => g < B) A c s := by
  obtain ⟨ks, h1, h2, h3⟩ := h
  exact ⟨ks, h1.inS, h2, fun i k x hk hx => ⟨(h3 i k x hk hx).1, (h3 i k x hk hx).2.1, (h3 i k x hk hx).2.2.inS⟩⟩
theorem rdk_of {w : World} {S : Nat → Prop} {A : Option Addr} {c : Nat} {s : List Kn} (h : dKn.Rd w S A c s) : RdK w w.heap.size A c s := by
  obtain ⟨ks, h1, h2, h3⟩ := h
  exact ⟨ks, h1.rd, h2, fun i k x hk hx => ⟨(h3 i k x hk hx).1, (h3 i k x hk hx).2.1, (h3 i k x hk hx).2.2.rd⟩⟩
/-- A row of runs that a call has made since then holds as a new Known. -/
theorem holds_new {w2 w3 : World} {base n c : Nat} {A : Option Addr} {l : List Rn} {v : Value} {ks : List Ks} (ho : kKs.Own w2 base v ks) (hr : kRn.Own w3 w2.heap.size (.slice A n c) l) (hn : n = l.length) (hb : base ≤ w2.heap.size) (r : Int) : dKn.rel w3 (fun g => base ≤ g ∧ v.ownBlock ≠ some g) ⟨r, A, n, c⟩ ⟨r, l⟩ :=
  ⟨rfl, hn, (hr.rdS hn).mono fun g hg => ⟨by omega, fun e => by have := (ho.lt g e).2; omega⟩⟩
def RetK (w : World) (N : Nat) (s : List Kn) (e : Ending) (w' : World) : Prop := ∃ A c, e = .returned (.slice A N c) ∧ RdK w' w'.heap.size A c s ∧ Below w.heap.size w w'
/-- A set that a call made, all of it new. -/
def RetKF (w : World) (N : Nat) (s : List Kn) (e : Ending) (w' : World) : Prop := ∃ A c, e = .returned (.slice A N c) ∧ dKn.Rd w' (fun g => w.heap.size ≤ g) A c s ∧ Below w.heap.size w w'
theorem RetKF.to {w : World} {N : Nat} {s : List Kn} {e : Ending} {w' : World} (h : RetKF w N s e w') : RetK w N s e w' := by
  obtain ⟨A, c, h1, h2, h3⟩ := h
  exact ⟨A, c, h1, rdk_of h2, h3⟩
theorem ks_row (w : World) (r : Int) (A : Option Addr) (n c : Nat) : RowAt (w.alloc (.cells #[.int .i64 r, .slice A n c] 61)) (w.heap.size + 1) (some ⟨w.heap.size, 0, none⟩) (kKs.row [⟨r, A, n, c⟩]) := (Kind.rd_new (k := kKs) (l := [⟨r, A, n, c⟩]) (n := 1) (by rw [kKs.row_one]; rfl) rfl (by simp)).row
set_option maxRecDepth 100000 in
set_option maxHeartbeats 4000000 in
theorem ref_vmake_new (op : Int) (A B : Option Addr) (c d n m : Nat) (a b : List Kn) (hn : n = a.length) (hm : m = b.length) (hnl : ∀ r, (runsV a r).length ≤ 20000) (hml : ∀ r, (runsV b r).length ≤ 20000) (U : List Kn) (hU : makeS op a b = U) (N : Nat) (hN : U.length = N) (w : World) (ha : RdK w w.heap.size A c a) (hb : RdK w w.heap.size B d b) :
    Calls Tryz.prog 86 #[.int .i64 op, .slice A n c, .slice B m d] w (RetKF w N U) := by
  have HA := Lib.hid ha
  have HB := Lib.hid hb
  have HNA := Lib.hid hn
  have HNB := Lib.hid hm
  have HLA := Lib.hid hnl
  have HLB := Lib.hid hml
  have HN := Lib.hid hN
  obtain ⟨f, hf⟩ : ∃ f, (fun r => makeC op (runsV a r) (runsV b r)) = f := ⟨_, rfl⟩
  have HF := Lib.hid (fun r => (congrFun hf r : makeC op (runsV a r) (runsV b r) = f r))
  have HU := Lib.hid (show colS f 16 = U by rw [← hU, ← hf]; rfl)
  clear ha hb hn hm hnl hml hU hN hf
  go_enter Tryz.func86, Tryz.ntmps86
  go_wp2_with fail
  go_loopw [7, 8, 9] (fun v i _ wr => ∃ k : Nat, k ≤ 16 ∧ Hid (dKn.Own wr w.heap.size (fun g => w.heap.size ≤ g) v (colS f k)) ∧ i = .int .i64 ((k : Int) + 1) ∧ Hid (Below w.heap.size w wr)) (fun _ i _ _ => 17 - (intOf i).toNat)
  case atStart => exact ⟨0, by omega, Deep.Own.nil _ _ _, rfl, Below.refl _ _⟩
  case round =>
    obtain ⟨k, hk, HO, rfl, HW⟩ := hrel
    by_cases hlt : k < 16
    · have hd : decide ((k : Int) + 1 ≤ 16) = true := decide_eq_true (by omega)
      have HS := Lib.hid (show colS f (k + 1) = colS f k ++ putK ((k : Int) + 1) (f ((k : Int) + 1)) from rfl)
      obtain ⟨N1, hN1⟩ : ∃ N, (runsV a ((k : Int) + 1)).length = N := ⟨_, rfl⟩
      obtain ⟨N2, hN2⟩ : ∃ N, (runsV b ((k : Int) + 1)).length = N := ⟨_, rfl⟩
      obtain ⟨N3, hN3⟩ : ∃ N, (f ((k : Int) + 1)).length = N := ⟨_, rfl⟩
      have hl1 := HLA.out ((k : Int) + 1)
      have hl2 := HLB.out ((k : Int) + 1)
      rw [hN1] at hl1
      rw [hN2] at hl2
      have C1 := fun w h => Lib.hid (ref_vruns A c n a ((k : Int) + 1) HNA.out N1 hN1 (by omega) w h)
      have C2 := fun w h => Lib.hid (ref_vruns B d m b ((k : Int) + 1) HNB.out N2 hN2 (by omega) w h)
      have C3 := fun A B c d w h1 h2 => Lib.hid (ref_cmake_own op A B c d N1 N2 (runsV a ((k : Int) + 1)) (runsV b ((k : Int) + 1)) hN1.symm hN2.symm (by omega) (by omega) (f ((k : Int) + 1)) (HF.out ((k : Int) + 1)) N3 hN3 w h1 h2)
      have HN3 := Lib.hid hN3
      have HAr := Lib.hid (HA.out.call HW.out)
      have HBr := Lib.hid (HB.out.call HW.out)
      have hlk := colS_len f k
      obtain ⟨ks, ho, hall⟩ := HO.out
      have hlen := hall.1
      have HKO := Lib.hid ho
      have HKA := Lib.hid hall
      have HLE := Lib.hid (show ks.length + [(⟨(k : Int) + 1, none, 0, 0⟩ : Ks)].length ≤ 1000000 by rw [hlen, List.length_singleton]; omega)
      by_cases h0 : N3 = 0
      · have HP := Lib.hid (show putK ((k : Int) + 1) (f ((k : Int) + 1)) = [] by rw [List.eq_nil_of_length_eq_zero (hN3.trans h0)]; rfl)
        subst h0
        clear hN1 hN2 hN3 hl1 hl2 ho hall hlen hlk HLE HKO HKA
        go_wp2_with (first
          | ((with_reducible refine (C1 _ HAr.out).out.mono ?_); rintro e w1 ⟨A1, c1, rfl, hrd, hq⟩; replace HBr := Lib.hid (HBr.out.call hq); replace HO := Lib.hid (HO.out.below hq); replace HW := Lib.hid (HW.out.trans (hq.mono HW.out.size)); have HX := Lib.hid hrd; clear hrd hq)
          | ((with_reducible refine (C2 _ HBr.out).out.mono ?_); rintro e w2 ⟨A2, c2, rfl, hrd, hq⟩; replace HX := Lib.hid (HX.out.call hq); replace HO := Lib.hid (HO.out.below hq); replace HW := Lib.hid (HW.out.trans (hq.mono HW.out.size)); have HY := Lib.hid hrd; clear hrd hq)
          | ((with_reducible refine (C3 _ _ _ _ _ HX.out HY.out).out.mono ?_); rintro e w3 ⟨A3, c3, rfl, hrd, hq⟩; replace HO := Lib.hid (HO.out.below hq); replace HW := Lib.hid (HW.out.trans (hq.mono HW.out.size)); clear hrd hq))
        go_roundw
        case rel => exact ⟨k + 1, by omega, show dKn.Own _ _ _ _ _ from by rw [HS.out, HP.out, List.append_nil]; exact HO.out, by go_num, HW⟩
        case measure => simp [intOf]; omega
      · have HP := Lib.hid (show f ((k : Int) + 1) ≠ [] from fun h => h0 (by rw [← hN3, h]; rfl))
        have hp1 : decide ((0 : Int) < (N3 : Int)) = true := decide_eq_true (by omega)
        have hp2 : decide (0 < N3) = true := decide_eq_true (by omega)
        have hmxN : N3 ≤ 9223372036854775807 ∨ True := .inr trivial
        clear hN1 hN2 hN3 hl1 hl2 ho hall hlen hlk HO hmxN
        go_wp2_with (first
          | ((with_reducible refine (C1 _ HAr.out).out.mono ?_); rintro e w1 ⟨A1, c1, rfl, hrd, hq⟩; replace HBr := Lib.hid (HBr.out.call hq); replace HKO := Lib.hid (Kind.Own.below HKO.out hq); replace HKA := Lib.hid (HKA.out.keep (keptS_below hq _)); replace HW := Lib.hid (HW.out.trans (hq.mono HW.out.size)); have HX := Lib.hid hrd; clear hrd hq)
          | ((with_reducible refine (C2 _ HBr.out).out.mono ?_); rintro e w2 ⟨A2, c2, rfl, hrd, hq⟩; replace HX := Lib.hid (HX.out.call hq); replace HKO := Lib.hid (Kind.Own.below HKO.out hq); replace HKA := Lib.hid (HKA.out.keep (keptS_below hq _)); replace HW := Lib.hid (HW.out.trans (hq.mono HW.out.size)); have HY := Lib.hid hrd; clear hrd hq)
          | ((with_reducible refine (C3 _ _ _ _ _ HX.out HY.out).out.mono ?_); rintro e w3 ⟨A3, c3, rfl, hrd, hq⟩; have HH := Lib.hid (holds_new HKO.out hrd HN3.out.symm HW.out.size ((k : Int) + 1)); replace HKO := Lib.hid (Kind.Own.below HKO.out hq); replace HKA := Lib.hid (HKA.out.keep (keptS_below hq _)); replace HW := Lib.hid (HW.out.trans (hq.mono HW.out.size)); have hm3 := rd_maxC hrd.rd HN3.out.symm; clear hrd hq)
          | (at_builtin; refine wpList_app_k kKs rfl (.tmp 25) (.tmp 29) rfl w.heap.size _ ks rfl (Kind.Own.alloc HKO.out _) _ (some ⟨w3.heap.size, 0, none⟩) 1 1 [⟨(k : Int) + 1, A3, N3, c3⟩] rfl rfl (ks_row w3 _ _ _ _) HLE.out (by decide) (cle_alloc HW.out.size _) ?_; intro v5 w5 hown5 hg5 hb5 hv5; have HO5 := Lib.hid (Deep.Own.app (HKA.out.keep (keptS_below (below_new w3 _) _)) (.one (dKn.keep HH.out (keptS_below (below_new w3 _) _))) hown5 hg5 hv5); have HW5 := Lib.hid ((HW.out.alloc HW.out.size _).trans hb5); clear hown5 hg5 hb5 hv5))
        go_roundw
        case rel => exact ⟨k + 1, by omega, show dKn.Own _ _ _ _ _ from by rw [HS.out, putK_some HP.out]; exact HO5.out, by go_num, HW5⟩
        case measure => simp [intOf]; omega
    · have hd : decide ((k : Int) + 1 ≤ 16) = false := decide_eq_false (by omega)
      obtain rfl : k = 16 := by omega
      obtain ⟨A9, c9, rfl, hrd⟩ := HO.out.rd (n := N) (by rw [HU.out]; exact HN.out.symm) fun _ h => h
      rw [HU.out] at hrd
      have HD := Lib.hid hrd
      clear hrd HO
      go_wp2_with fail
      go_ret
      exact ⟨A9, c9, rfl, HD.out, HW.out⟩
theorem ref_vmake (op : Int) (A B : Option Addr) (c d n m : Nat) (a b : List Kn) (hn : n = a.length) (hm : m = b.length) (hnl : ∀ r, (runsV a r).length ≤ 20000) (hml : ∀ r, (runsV b r).length ≤ 20000) (U : List Kn) (hU : makeS op a b = U) (N : Nat) (hN : U.length = N) (w : World) (ha : RdK w w.heap.size A c a) (hb : RdK w w.heap.size B d b) :
    Calls Tryz.prog 86 #[.int .i64 op, .slice A n c, .slice B m d] w (RetK w N U) :=
  (ref_vmake_new op A B c d n m a b hn hm hnl hml U hU N hN w ha hb).mono fun _ _ h => h.to
end Go.Proofs.YtaodifpnfejbbaaGreat

/-
  Layer 14 (vset), the document's words: the right set; the set of a version.
-/
namespace Go.Proofs.YtaodifpnfejbbaaGreat
open Go.RowKit

theorem rdk_nil (w : World) (B : Nat) (A : Option Addr) : RdK w B A 0 [] := ⟨[], Kind.Rd.empty _ _ _ _ (Nat.zero_le _), rfl, fun i k x h => by cases h⟩
theorem ref_vof_new (A : Option Addr) (c n : Nat) (a : List Kn) (hn : n = a.length) (hnl : ∀ r, (runsV a r).length ≤ 20000) (U : List Kn) (hU : ofS a = U) (N : Nat) (hN : U.length = N) (w : World) (ha : RdK w w.heap.size A c a) :
    Calls Tryz.prog 50 #[.slice A n c] w (RetKF w N U) := by
  have C := fun (W : World) (h1 : RdK W W.heap.size A c a) (h2 : RdK W W.heap.size (some ⟨w.heap.size, 0, none⟩) 0 []) => Lib.hid (ref_vmake_new 1 A (some ⟨w.heap.size, 0, none⟩) c 0 n 0 a [] hn rfl hnl (fun _ => Nat.zero_le _) U hU N hN W h1 h2)
  have HB := Lib.hid (below_new w (.cells #[] 61))
  have H1 := Lib.hid (ha.call HB.out)
  have H2 := Lib.hid (rdk_nil (w.alloc (.cells #[] 61)) (w.alloc (.cells #[] 61)).heap.size (some ⟨w.heap.size, 0, none⟩))
  clear hn ha hU hN hnl
  go_enter Tryz.func50, Tryz.ntmps50
  go_wp2_with ((with_reducible refine (C _ H1.out H2.out).out.mono ?_); rintro e w1 ⟨A1, c1, rfl, hrd, hq⟩; have HF := Lib.hid (show RetKF w N U (.returned (.slice A1 N c1)) w1 from ⟨A1, c1, rfl, hrd.mono fun g hg => Nat.le_trans HB.out.size hg, HB.out.trans (hq.mono HB.out.size)⟩); clear hrd hq)
  go_ret
  exact HF.out
theorem ref_vof (A : Option Addr) (c n : Nat) (a : List Kn) (hn : n = a.length) (hnl : ∀ r, (runsV a r).length ≤ 20000) (U : List Kn) (hU : ofS a = U) (N : Nat) (hN : U.length = N) (w : World) (ha : RdK w w.heap.size A c a) :
    Calls Tryz.prog 50 #[.slice A n c] w (RetK w N U) :=
  (ref_vof_new A c n a hn hnl U hU N hN w ha).mono fun _ _ h => h.to
/-- One Known, newly made. -/
theorem rdk_one {w : World} {A : Option Addr} {n c : Nat} {l : List Rn} (r : Int) (hn : n = l.length) (h : kRn.Rd w w.heap.size A c l) : RdK (w.alloc (.cells #[.int .i64 r, .slice A n c] 61)) (w.alloc (.cells #[.int .i64 r, .slice A n c] 61)).heap.size (some ⟨w.heap.size, 0, none⟩) 1 [⟨r, l⟩] := by
  refine ⟨[⟨r, A, n, c⟩], ?_, rfl, fun i k x hk hx => ?_⟩
  · rw [show (w.alloc (.cells #[.int .i64 r, .slice A n c] 61)).heap.size = w.heap.size + 1 from by simp]
    exact Kind.rd_new (k := kKs) (l := [⟨r, A, n, c⟩]) rfl rfl (by simp)
  · match i with
    | 0 => injection hk with hk; injection hx with hx; subst hk hx; exact ⟨rfl, hn, h.call (below_new _ _)⟩
    | i + 1 => cases hk
noncomputable def oneW (w : World) (x y : Int) : World := (w.alloc (.cells #[.int .i64 x, .int .i64 y] 24)).alloc (.cells #[.int .i64 y, .int .i64 y] 58)
theorem oneW_rd (w : World) (x y : Int) : kRn.Rd (oneW w x y) (oneW w x y).heap.size (some ⟨w.heap.size + 1, 0, none⟩) 1 [⟨y, y⟩] := by
  have h := Kind.rd_new (k := kRn) (w := w.alloc (.cells #[.int .i64 x, .int .i64 y] 24)) (cs := #[.int .i64 y, .int .i64 y]) (t := 58) (l := [⟨y, y⟩]) (n := 1) rfl rfl (by simp)
  unfold oneW
  rw [show ((w.alloc (.cells #[.int .i64 x, .int .i64 y] 24)).alloc (.cells #[.int .i64 y, .int .i64 y] 58)).heap.size = (w.alloc (.cells #[.int .i64 x, .int .i64 y] 24)).heap.size + 1 from by simp]
  rw [show (w.alloc (.cells #[.int .i64 x, .int .i64 y] 24)).heap.size = w.heap.size + 1 from by simp] at h ⊢
  exact h
theorem oneW_below (w : World) (x y : Int) : Below w.heap.size w (oneW w x y) := (below_new _ _).trans ((below_new _ _).mono (by simp))
theorem oneW_size (w : World) (x y : Int) : (oneW w x y).heap.size = w.heap.size + 2 := by unfold oneW; simp
theorem ref_vone (v : Vr) (x y : Int) (hx : v.rep = x) (hy : v.cnt = y) (w : World) : Calls Tryz.prog 94 #[.agg #[.int .i64 x, .int .i64 y]] w (RetK w 1 (oneS v)) := by
  have HR := Lib.hid (rdk_one x rfl (oneW_rd w x y))
  rw [oneW_size] at HR
  have HB := Lib.hid ((oneW_below w x y).trans ((below_new (oneW w x y) (.cells #[.int .i64 x, .slice (some ⟨w.heap.size + 1, 0, none⟩) 1 1] 61)).mono (oneW_below w x y).size))
  have HV := Lib.hid (show oneS v = [⟨x, [⟨y, y⟩]⟩] by unfold oneS; rw [hx, hy])
  have HF := Lib.hid (show RetK w 1 (oneS v) (.returned (.slice (some ⟨w.heap.size + 2, 0, none⟩) 1 1)) _ from ⟨_, _, rfl, by rw [HV.out]; exact HR.out, HB.out⟩)
  unfold oneW at HF
  clear HR HB HV hx hy
  go_enter Tryz.func94, Tryz.ntmps94
  go_wp2_with fail
  go_ret
  exact HF.out
end Go.Proofs.YtaodifpnfejbbaaGreat

/-
  Layer 14 (vset): how many runs a right list has; the document's words: some versions more.
-/
namespace Go.Proofs.YtaodifpnfejbbaaGreat
open Go.RowKit

/-- A right list has no more runs than any list of the same counts. -/
theorem right_len : ∀ {l s : List Rn}, rightC l = true → (∀ n, hasC l n = hasC s n) → l.length ≤ s.length
  | [], _, _, _ => Nat.zero_le _
  | r :: l, s, hr, h => by
    have h0 := oneC_iff.1 (rightC_head hr)
    have hb := hasC_behind hr
    rw [h] at hb
    have hall : ∀ t ∈ s, ∀ n, inC t n = true → hasC s n = true := fun t ht n hn => List.any_eq_true.2 ⟨t, ht, hn⟩
    have e : ∀ n, hasC l n = hasC (s.filter fun t => decide (r.to < t.fr)) n := fun n => by
      rw [hasC_tail hr, h, Bool.eq_iff_iff, Bool.and_eq_true, decide_eq_true_eq]
      constructor
      · rintro ⟨h1, h2⟩
        obtain ⟨t, ht, hn⟩ := List.any_eq_true.1 h1
        refine List.any_eq_true.2 ⟨t, List.mem_filter.2 ⟨ht, decide_eq_true ?_⟩, hn⟩
        have h3 := inC_iff.1 hn
        rcases Int.lt_or_le r.to t.fr with h4 | h4
        · exact h4
        · rw [hall t ht (r.to + 1) (inC_iff.2 ⟨h3.1, by omega, by omega⟩)] at hb; cases hb
      · intro h1
        obtain ⟨t, ht, hn⟩ := List.any_eq_true.1 h1
        obtain ⟨ht, h2⟩ := List.mem_filter.1 ht
        have h3 := inC_iff.1 hn
        have h4 := of_decide_eq_true h2
        exact ⟨hall t ht n hn, by omega⟩
    have h1 := right_len (rightC_tail hr) e
    have h2 : hasC s r.fr = true := by rw [← h]; exact hasC_first hr (Int.le_refl _) h0.2.1
    obtain ⟨t, ht, hn⟩ := List.any_eq_true.1 h2
    have h3 : (s.filter fun t => decide (r.to < t.fr)).length < s.length := by
      rw [List.length_filter_lt_length_iff_exists]
      exact ⟨t, ht, by have := inC_iff.1 hn; simp only [decide_eq_true_eq]; omega⟩
    rw [List.length_cons]
    omega
theorem makeC1_len (a b : List Rn) : (makeC 1 a b).length ≤ a.length + b.length := by
  rw [← List.length_append]
  exact right_len (makeC_right 1 a b) fun n => by rw [makeC_has, gC1, hasC_append]
theorem rightS_out {s : List Kn} (h : rightS s = true) {r : Int} (hr : ¬ (1 ≤ r ∧ r ≤ 16)) : runsV s r = [] := runsV_none fun k hk => by have := upS_all h k hk; omega
theorem makeS1_runs (a b : List Kn) (r : Int) : (runsV (makeS 1 a b) r).length ≤ (runsV a r).length + (runsV b r).length := by
  by_cases hr : 1 ≤ r ∧ r ≤ 16
  · rw [makeS_runs hr.1 hr.2]; exact makeC1_len _ _
  · rw [rightS_out (makeS_right 1 a b) hr]; exact Nat.zero_le _
theorem oneS_runs (v : Vr) (r : Int) : (runsV (oneS v) r).length ≤ 1 := by
  unfold oneS
  rw [runsV, runsV, List.append_nil]
  by_cases h : v.rep = r
  · rw [partV_yes (k := ⟨v.rep, [⟨v.cnt, v.cnt⟩]⟩) h]; exact Nat.le_refl _
  · rw [partV_no (k := ⟨v.rep, [⟨v.cnt, v.cnt⟩]⟩) h]; exact Nat.zero_le _
theorem addS_runs (s : List Kn) (v : Vr) (r : Int) : (runsV (addS s v) r).length ≤ (runsV s r).length + 1 := by
  unfold addS
  cases rightVr v
  · exact Nat.le_succ _
  · have h1 := makeS1_runs s (oneS v) r
    have h2 := oneS_runs v r
    show (runsV (makeS 1 s (oneS v)) r).length ≤ _
    omega
theorem adds_runs : ∀ (l : List Vr) (s : List Kn) (r : Int), (runsV (l.foldl addS s) r).length ≤ (runsV s r).length + l.length
  | [], _, _ => Nat.le_refl _
  | v :: l, s, r => by
    have h1 := adds_runs l (addS s v) r
    have h2 := addS_runs s v r
    rw [List.foldl_cons, List.length_cons]
    omega
set_option maxRecDepth 100000 in
set_option maxHeartbeats 4000000 in
theorem ref_vadd (A B : Option Addr) (c d n m : Nat) (s : List Kn) (l : List Vr) (hn : n = s.length) (hm : m = l.length) (hml : m ≤ 1000) (hnl : ∀ r, (runsV s r).length ≤ 15000) (U : List Kn) (hU : addsS s l = U) (N : Nat) (hN : U.length = N) (w : World) (ha : RdK w w.heap.size A c s) (hb : kVr.Rd w w.heap.size B d l) :
    Calls Tryz.prog 55 #[.slice A n c, .slice B m d] w (RetK w N U) := by
  have HA := Lib.hid ha
  have HB := Lib.hid hb
  have HM := Lib.hid hm
  have HNN := Lib.hid hN
  have hdx : m ≤ d := by rw [hm]; exact hb.room
  obtain ⟨S0, hS⟩ : ∃ S0, ofS s = S0 := ⟨_, rfl⟩
  obtain ⟨N0, hN0⟩ : ∃ N0, S0.length = N0 := ⟨_, rfl⟩
  have C0 := fun w h => Lib.hid (ref_vof A c n s hn (fun r => by have := hnl r; omega) S0 hS N0 hN0 w h)
  have HR0 := Lib.hid (fun (k : Nat) (r : Int) => show (runsV ((l.take k).foldl addS S0) r).length ≤ 16000 by
    have h1 := adds_runs (l.take k) S0 r
    have h2 := makeS1_runs s [] r
    have h3 := hnl r
    rw [show makeS 1 s [] = S0 from hS] at h2
    rw [List.length_take] at h1
    simp only [runsV, List.length_nil] at h2
    omega)
  have HU := Lib.hid (show l.foldl addS S0 = U by rw [← hU, ← hS]; rfl)
  have HN0 := Lib.hid hN0
  clear ha hb hn hm hN hnl hU hS hN0
  go_enter Tryz.func55, Tryz.ntmps55
  go_wp2_with ((with_reducible refine (C0 _ HA.out).out.mono ?_); rintro e w1 ⟨A1, c1, rfl, hrd, hq⟩; have HD := Lib.hid hrd; have HW1 := Lib.hid hq; clear hrd hq)
  clear C0
  go_loopw [5, 6] (fun v i wr => ∃ (k N9 c9 : Nat) (A9 : Option Addr) (out : List Kn), k ≤ m ∧ Hid ((l.take k).foldl addS S0 = out) ∧ v = .slice A9 N9 c9 ∧ Hid (out.length = N9) ∧ Hid (RdK wr wr.heap.size A9 c9 out) ∧ i = .int .i64 k ∧ Hid (Below w.heap.size w wr)) (fun _ i _ => m - (intOf i).toNat)
  case atStart => exact ⟨0, N0, c1, A1, S0, by omega, rfl, rfl, HN0, HD, rfl, HW1⟩
  case round =>
    obtain ⟨k, N9, c9, A9, out, hk, HE, rfl, HL9, HO, rfl, HW⟩ := hrel
    by_cases hlt : k < m
    · obtain ⟨v, hg, -, -⟩ := cnt_get (l := l) (k := k) (by have := HM.out; omega)
      obtain ⟨b, o, rfl, hb1, hcell⟩ := vrs_at (HB.out.below HW.out) (by have := HM.out; omega)
      obtain ⟨c0, c1'⟩ := hcell k v hg
      have hbk := Nat.lt_of_lt_of_le hb1 HW.out.size
      have HX := Lib.hid (show (l.take (k + 1)).foldl addS S0 = addS out v by rw [List.take_add_one, hg, Option.toList_some, List.foldl_append, HE.out]; rfl)
      have hr9 : ∀ r, (runsV out r).length ≤ 20000 := fun r => by have := HR0.out k r; rw [HE.out] at this; omega
      obtain ⟨z, hz⟩ : ∃ z, rightVr v = z := ⟨_, rfl⟩
      obtain ⟨x, hx⟩ : ∃ x, v.rep = x := ⟨_, rfl⟩
      obtain ⟨y, hy⟩ : ∃ y, v.cnt = y := ⟨_, rfl⟩
      have C1 := fun w => Lib.hid (ref_vrright v x y hx hy z hz w)
      have C2 := fun w => Lib.hid (ref_vone v x y hx hy w)
      obtain ⟨N8, hN8⟩ : ∃ N, (makeS 1 out (oneS v)).length = N := ⟨_, rfl⟩
      have C3 := fun (A' : Option Addr) (c' : Nat) w h1 h2 => Lib.hid (ref_vmake 1 A9 A' c9 c' N9 1 out (oneS v) HL9.out.symm rfl hr9 (fun r => Nat.le_trans (oneS_runs v r) (by omega)) (makeS 1 out (oneS v)) rfl N8 hN8 w h1 h2)
      have HN8 := Lib.hid hN8
      have hk0 : (0 : Int) ≤ (k : Int) := by omega
      have hkn : (k : Int) < (m : Int) := by omega
      rw [hx] at c0
      rw [hy] at c1'
      cases z
      · have HY := Lib.hid (show addS out v = out by unfold addS; rw [hz])
        clear hcell hg hz hx hy hr9 hN8
        go_wp2_with ((with_reducible refine (C1 _).out.mono ?_); rintro e w2 ⟨rfl, hq⟩; replace HO := Lib.hid (HO.out.call hq); replace HW := Lib.hid (HW.out.trans (hq.mono HW.out.size)); clear hq)
        go_roundw
        case rel => exact ⟨k + 1, N9, c9, A9, out, by omega, show _ = _ from HX.out.trans HY.out, rfl, HL9, HO, by go_num, HW⟩
        case measure => simp [intOf]; omega
      · have HY := Lib.hid (show addS out v = makeS 1 out (oneS v) by unfold addS; rw [hz])
        clear hcell hg hz hx hy hr9 hN8
        go_wp2_with (first
          | ((with_reducible refine (C1 _).out.mono ?_); rintro e w2 ⟨rfl, hq⟩; replace HO := Lib.hid (HO.out.call hq); replace HW := Lib.hid (HW.out.trans (hq.mono HW.out.size)); replace c0 := ((bcell hq).1 _ _ hbk).trans c0; replace c1' := ((bcell hq).1 _ _ hbk).trans c1'; clear hq)
          | ((with_reducible refine (C2 _).out.mono ?_); rintro e w3 ⟨A3, c3, rfl, hrd, hq⟩; replace HO := Lib.hid (HO.out.call hq); replace HW := Lib.hid (HW.out.trans (hq.mono HW.out.size)); have HP := Lib.hid hrd; clear hrd hq)
          | ((with_reducible refine (C3 _ _ _ HO.out HP.out).out.mono ?_); rintro e w4 ⟨A4, c4, rfl, hrd, hq⟩; have HO4 := Lib.hid hrd; have HW4 := Lib.hid (HW.out.trans (hq.mono HW.out.size)); clear hrd hq))
        go_roundw
        case rel => exact ⟨k + 1, N8, c4, A4, makeS 1 out (oneS v), by omega, show _ = _ from HX.out.trans HY.out, rfl, HN8, HO4, by go_num, HW4⟩
        case measure => simp [intOf]; omega
    · have HX := Lib.hid (show out = U by rw [← HE.out, ← HU.out, List.take_of_length_le (by have := HM.out; omega)])
      obtain rfl : N9 = N := by rw [← HL9.out, HX.out]; exact HNN.out
      have HF := Lib.hid (show RdK wr wr.heap.size A9 c9 U from HX.out ▸ HO.out)
      go_wp2_with fail
      go_ret
      exact ⟨A9, c9, rfl, HF.out, HW.out⟩
end Go.Proofs.YtaodifpnfejbbaaGreat

/-
  Layer 14 (vset), the document's words: is a set right.
-/
namespace Go.Proofs.YtaodifpnfejbbaaGreat
open Go.RowKit

theorem upS_bool (c : Int) (k : Kn) (s : List Kn) : upS c (k :: s) = (decide (c < k.rep) && (decide (k.rep ≤ 16) && ((!(k.runs.length == 0)) && (rightC k.runs && upS k.rep s)))) := by
  rw [upS, oneK, Bool.and_assoc]
  cases k.runs <;> rfl
theorem upS_first {X : Int} {n : Nat} {z u : Bool} : (decide (0 < X) && (decide (X ≤ 16) && ((!(n == 0)) && (z && u)))) = ((!decide (X < 1)) && ((!decide (16 < X)) && ((!(n == 0)) && (z && u)))) := by
  rw [show decide (0 < X) = !decide (X < 1) from by rw [Bool.eq_iff_iff]; simp; omega, show decide (X ≤ 16) = !decide (16 < X) from by rw [Bool.eq_iff_iff]; simp]
theorem upS_later {X Z : Int} {n : Nat} {z u : Bool} (hZ : 1 ≤ Z) : (decide (Z < X) && (decide (X ≤ 16) && ((!(n == 0)) && (z && u)))) = ((!decide (X < 1)) && ((!decide (16 < X)) && ((!decide (X ≤ Z)) && ((!(n == 0)) && (z && u))))) := by
  rw [show decide (Z < X) = ((!decide (X < 1)) && !decide (X ≤ Z)) from by rw [Bool.eq_iff_iff]; simp; omega, show decide (X ≤ 16) = !decide (16 < X) from by rw [Bool.eq_iff_iff]; simp]
  cases decide (X < 1) <;> cases decide (16 < X) <;> cases decide (X ≤ Z) <;> rfl
set_option maxRecDepth 100000 in
set_option maxHeartbeats 8000000 in
theorem ref_vsright (A : Option Addr) (c n : Nat) (s : List Kn) (hn : n = s.length) (v : Bool) (hv : rightS s = v) (w : World) (hr : RdK w w.heap.size A c s) :
    Calls Tryz.prog 40 #[.slice A n c] w fun e w' => e = .returned (.bool v) ∧ Below w.heap.size w w' := by
  have HN := Lib.hid hn
  have HR := Lib.hid hr
  have HV := Lib.hid hv
  have hmx := rdk_max hr hn
  have hcx : n ≤ c := by rw [hn]; exact hr.room
  clear hn hr hv
  go_enter Tryz.func40, Tryz.ntmps40
  go_wp2_with fail
  go_loopw [3] (fun i wr => ∃ k : Nat, k ≤ n ∧ i = .int .i64 k ∧ Hid ((k = 0 ∧ upS 0 s = v) ∨ ∃ j p, k = j + 1 ∧ s[j]? = some p ∧ 1 ≤ p.rep ∧ upS p.rep (s.drop k) = v) ∧ Hid (Below w.heap.size w wr)) (fun i _ => n - (intOf i).toNat)
  case atStart => exact ⟨0, by omega, rfl, .inl ⟨rfl, HV.out⟩, Below.refl _ _⟩
  case round =>
    obtain ⟨k, hk, rfl, HL, HW⟩ := hrel
    by_cases hlt : k < n
    · obtain ⟨r, hg, hd, -⟩ := cnt_get (l := s) (k := k) (by have := HN.out; omega)
      obtain ⟨b, o, rfl, hb1, hcell⟩ := knowns_at (HR.out.below HW.out) (by have := HN.out; omega)
      obtain ⟨A1, n1, c1, hn1, hr1, q0, q1⟩ := hcell k r hg
      obtain ⟨z, hz⟩ : ∃ z, rightC r.runs = z := ⟨_, rfl⟩
      obtain ⟨X, hX⟩ : ∃ X, r.rep = X := ⟨_, rfl⟩
      obtain ⟨p1, P1⟩ : ∃ p, decide (X < 1) = p := ⟨_, rfl⟩
      obtain ⟨p2, P2⟩ : ∃ p, decide (16 < X) = p := ⟨_, rfl⟩
      obtain ⟨p5, P5⟩ : ∃ p, (n1 == 0) = p := ⟨_, rfl⟩
      have P6 : ((n1 : Int) == 0) = p5 := by rw [← P5, Bool.eq_iff_iff]; simp
      have P7 : decide (n1 = 0) = p5 := by rw [← P5, Bool.eq_iff_iff]; simp
      have hmx1 := rd_maxC hr1 hn1
      have CS := Lib.hid (fun (L : List (Addr × Value)) => fun (W : World) (hC : CellL wr L W) => (ref_cright A1 c1 n1 r.runs hn1 z hz W ((hr1.more HW.out.size).call (cellL_size hC))).mono fun (e' : Ending) (W' : World) ⟨h1, h2⟩ => (⟨h1, cellL_call h2 hC⟩ : e' = Ending.returned (.bool z) ∧ CellL wr L W'))
      rw [hX] at q0
      have hk0 : (0 : Int) ≤ (k : Int) := by omega
      have hkn : (k : Int) < (n : Int) := by omega
      rcases HL.out with ⟨h0, hL⟩ | ⟨j, p, hj, hgj, hp1, hL⟩
      · subst h0
        rw [List.drop_zero] at hd
        have hL2 : ((!p1) && ((!p2) && ((!p5) && (z && upS X (s.drop 1))))) = v := by
          rw [hd, upS_bool, hX, hz, ← hn1, upS_first, P1, P2, P5] at hL
          exact hL
        have HNX := Lib.hid (fun (h1 : p1 = false) (h : upS X (s.drop 1) = v) => show (0 + 1 = 0 ∧ upS 0 s = v) ∨ ∃ j p, 0 + 1 = j + 1 ∧ s[j]? = some p ∧ 1 ≤ p.rep ∧ upS p.rep (s.drop (0 + 1)) = v from .inr ⟨0, r, rfl, hg, by rw [h1] at P1; have := of_decide_eq_false P1; omega, by rw [hX]; exact h⟩)
        have HF := Lib.hid hL2
        rw [Nat.zero_mul, Nat.add_zero] at q0 q1
        have HC := Lib.hid (show CellL wr [(⟨b, o, none⟩, .int .i64 X), (⟨b, o + 1, none⟩, .slice A1 n1 c1)] wr from ⟨q0, q1, Below.refl _ _⟩)
        clear hcell hg hd hX hz hL hL2 HL hr1 hn1 q0 q1
        cases p1 <;> cases p2 <;> cases p5 <;> cases z
        all_goals
          go_wp2_with fail
          refine q_region (CellL wr [(⟨b, o, none⟩, .int .i64 X), (⟨b, o + 1, none⟩, .slice A1 n1 c1)]) (by kernel_rfl) (by kernel_rfl) (cellL_drew HC.out) ?_
          repeat (first
            | go_big_quiet_skip
            | (go_big_quiet_want; (first
              | (refine q_take (v := ?_) ?_ ?_; rotate_left; (focus (intro w hSw; (try simp only [CellL] at hSw); go_split_ands; go_simp; (try (rw [if_neg (by omega)])); (try with_reducible rfl); done)))
              | (refine q_call (CS.out _) ?_ ?_; (focus (intro w hSw; (try simp only [CellL] at hSw); go_split_ands; go_simp; (try (rw [if_neg (by omega)])); done)))); (try simp only [Act.put, List.setIfInBounds_toArray, List.set_cons_zero, List.set_cons_succ]); go_big_quiet_on))
          refine wpQuiet_nil ?_
          intro w2 hw2
          have HB2 := Lib.hid (HW.out.trans ((cellL_size hw2).mono HW.out.size))
          clear hw2
          go_wp2_with fail
          first
            | (go_ret; exact ⟨ret_bool (show false = v from HF.out), HB2.out⟩)
            | (go_roundw
               case rel => exact ⟨0 + 1, by omega, by go_num, HNX.out (by first | rfl | trivial) HF.out, HB2⟩
               case measure => simp [intOf]; omega)
      · subst hj
        obtain ⟨A2, n2, c2, hn2, hr2, t0, t1⟩ := hcell j p hgj
        obtain ⟨Z, hZ⟩ : ∃ Z, p.rep = Z := ⟨_, rfl⟩
        rw [hZ] at t0 hp1 hL
        obtain ⟨p4, P4⟩ : ∃ p, decide (X ≤ Z) = p := ⟨_, rfl⟩
        have hL2 : ((!p1) && ((!p2) && ((!p4) && ((!p5) && (z && upS X (s.drop (j + 1 + 1))))))) = v := by
          rw [hd, upS_bool, hX, hz, ← hn1, upS_later hp1, P1, P2, P4, P5] at hL
          exact hL
        have HNX := Lib.hid (fun (h1 : p1 = false) (h : upS X (s.drop (j + 1 + 1)) = v) => show (j + 1 + 1 = 0 ∧ upS 0 s = v) ∨ ∃ j' p, j + 1 + 1 = j' + 1 ∧ s[j']? = some p ∧ 1 ≤ p.rep ∧ upS p.rep (s.drop (j + 1 + 1)) = v from .inr ⟨j + 1, r, rfl, hg, by rw [h1] at P1; have := of_decide_eq_false P1; omega, by rw [hX]; exact h⟩)
        have HF := Lib.hid hL2
        have hk1 : (0 : Int) ≤ (j : Int) + 1 := by omega
        have hkn1 : (j : Int) + 1 < (n : Int) := by omega
        have hj0 : (0 : Int) ≤ (j : Int) := by omega
        have hjn : (j : Int) < (n : Int) := by omega
        have hjd : decide ((j : Int) < 0) = false := decide_eq_false (by omega)
        have hjg : decide ((0 : Int) < (j : Int) + 1) = true := decide_eq_true (by omega)
        have hjw : IntKind.i64.wrap ((j : Int) + 1 - 1) = (j : Int) := by rw [Int.add_sub_cancel]; exact IntWalk.i64_in _ (by omega)
        have hjw2 : IntKind.i64.wrap (j : Int) = (j : Int) := IntWalk.i64_in _ (by omega)
        have HC := Lib.hid (show CellL wr [(⟨b, o + (j + 1) * 2, none⟩, .int .i64 X), (⟨b, o + (j + 1) * 2 + 1, none⟩, .slice A1 n1 c1), (⟨b, o + j * 2, none⟩, .int .i64 Z)] wr from ⟨q0, q1, t0, Below.refl _ _⟩)
        clear hcell hg hgj hd hX hZ hz hL hL2 HL hr1 hn1 hr2 hn2 q0 q1 t0 t1
        cases p1 <;> cases p2 <;> cases p4 <;> cases p5 <;> cases z
        all_goals
          go_wp2_with fail
          refine q_region (CellL wr [(⟨b, o + (j + 1) * 2, none⟩, .int .i64 X), (⟨b, o + (j + 1) * 2 + 1, none⟩, .slice A1 n1 c1), (⟨b, o + j * 2, none⟩, .int .i64 Z)]) (by kernel_rfl) (by kernel_rfl) (cellL_drew HC.out) ?_
          repeat (first
            | go_big_quiet_skip
            | (go_big_quiet_want; (first
              | (refine q_take (v := ?_) ?_ ?_; rotate_left; (focus (intro w hSw; (try simp only [CellL] at hSw); go_split_ands; go_simp; (try (rw [if_neg (by omega)])); (try with_reducible rfl); done)))
              | (refine q_call (CS.out _) ?_ ?_; (focus (intro w hSw; (try simp only [CellL] at hSw); go_split_ands; go_simp; (try (rw [if_neg (by omega)])); done)))); (try simp only [Act.put, List.setIfInBounds_toArray, List.set_cons_zero, List.set_cons_succ]); go_big_quiet_on))
          refine wpQuiet_nil ?_
          intro w2 hw2
          have HB2 := Lib.hid (HW.out.trans ((cellL_size hw2).mono HW.out.size))
          clear hw2
          go_wp2_with fail
          first
            | (go_ret; exact ⟨ret_bool (show false = v from HF.out), HB2.out⟩)
            | (go_roundw
               case rel => exact ⟨j + 1 + 1, by omega, by go_num, HNX.out (by first | rfl | trivial) HF.out, HB2⟩
               case measure => simp [intOf]; omega)
    · have HF := Lib.hid (show true = v by
        rcases HL.out with ⟨h0, hL⟩ | ⟨j, p, hj, hgj, hp1, hL⟩
        · have : s = [] := List.eq_nil_of_length_eq_zero (by have := HN.out; omega)
          rw [← hL, this]; rfl
        · rw [← hL, List.drop_eq_nil_of_le (by have := HN.out; omega)]; rfl)
      go_wp2_with fail
      go_ret
      exact ⟨ret_bool HF.out, HW.out⟩
end Go.Proofs.YtaodifpnfejbbaaGreat

/-
  The shelf's contracts at this program, in plain words (made by wip/tools/shelf.py).
-/
namespace Go.Proofs
open Go.Shelf
def Tryz.lays106_ren : Go.Shelf.Ren := ⟨fun | 106 => 112 | 213 => 132 | 265 => 144 | n => n, fun | 9 => 9 | 3 => 3 | n => n, fun | n => n⟩
theorem Tryz.lays106 : Go.Proofs.Lays.n106 Tryz.prog Tryz.lays106_ren := {
  mixed := by kernel_rfl
  f106 := Tryz.func112.trans (congrArg some (by kernel_rfl))
  f213 := Tryz.func132.trans (congrArg some (by kernel_rfl))
  f265 := Tryz.func144.trans (congrArg some (by kernel_rfl))
  t3 := Tryz.underlying3
  a3 := Tryz.isAgg3
  z3 := Tryz.sizeOf3
  v3 := Tryz.zeroValue3
  t9 := Tryz.underlying9
  a9 := Tryz.isAgg9
  z9 := Tryz.sizeOf9
  v9 := Tryz.zeroValue9 }
open Go.RowKit in
theorem Tryz.strings_Compare (a b : ByteArray) (w : World) :
    Calls Tryz.prog 112 #[.string a, .string b] w fun e w' => e = .returned (.int .i64 (Lib.compareBytes a.data.toList b.data.toList)) ∧ w' = w := Any.strings_Compare Tryz.lays106 a b w
end Go.Proofs

/-
  Layer 6 (key): which are keys, and edges; which of two stands ahead; what stands behind.
-/
namespace Go.Proofs.YtaodifpnfejbbaaGreat
open Go.RowKit

theorem ret_txt {a b : ByteArray} (h : a = b) : Ending.returned (.string a) = .returned (.string b) := by rw [h]
theorem txt_app (a b : List UInt8) : str a ++ str b = str (a ++ b) := by
  apply ByteArray.ext
  rw [ByteArray.data_append]
  simp [str]
theorem txt_at (l : List UInt8) (k : Nat) (h : k < (str l).size) : (str l)[k] = l.getD k 0 := str_get l k (by rwa [str_size] at h)

theorem key_cmp (a b : List UInt8) (w : World) : Calls Tryz.prog 76 #[.string (str a), .string (str b)] w fun e w' => e = .returned (.int .i64 (Lib.compareBytes a b)) ∧ w = w' := by
  have K := Tryz.strings_Compare (str a) (str b) w
  rw [str_data, str_data] at K
  have K := Lib.hid K
  go_enter Tryz.func76, Tryz.ntmps76
  go_wp2_with ((with_reducible refine K.out.mono ?_); rintro e w' ⟨rfl, rfl⟩)
  go_ret
  exact ⟨rfl, rfl⟩

/-- Is a text a key? -/
def rightB (k : List UInt8) : Bool := decide (1 ≤ k.length) && decide (k.length ≤ 16)
/-- Is a text an edge? -/
def edgeB (k : List UInt8) : Bool := decide (k.length ≤ 17)
theorem key_right (k : List UInt8) (w : World) : Calls Tryz.prog 52 #[.string (str k)] w fun e w' => e = .returned (.bool (rightB k)) ∧ w = w' := by
  have hz : (str k).size = k.length := str_size k
  have hE : (str k).toList = k := str_toList k
  generalize str k = S at hz hE ⊢
  by_cases h : k = []
  · have h1 : S.toList = [] := by rw [hE, h]
    have HB : Hid (rightB k = false) := by subst h; exact rfl
    clear hE hz h
    go_enter Tryz.func52, Tryz.ntmps52
    go_wp2_with fail
    go_ret
    exact ⟨ret_bool HB.out.symm, rfl⟩
  · have h1 : (S.toList == []) = false := by rw [hE]; simpa using h
    have h2 : 0 < k.length := List.length_pos_iff.2 h
    have HB : Hid (decide ((S.size : Int) ≤ 16) = rightB k) := by
      unfold rightB
      rw [decide_eq_true (show 1 ≤ k.length by omega), Bool.true_and, hz]
      exact decide_eq_decide.2 (by omega)
    clear hE h hz
    go_enter Tryz.func52, Tryz.ntmps52
    go_wp2_with fail
    go_ret
    exact ⟨ret_bool HB.out, rfl⟩
theorem ref_right (k : List UInt8) (w : World) : Calls Tryz.prog 56 #[.string (str k)] w fun e w' => e = .returned (.bool (rightB k)) ∧ w = w' := by
  have hz : (str k).size = k.length := str_size k
  generalize str k = S at hz ⊢
  by_cases h : 1 ≤ S.size
  · have HB : Hid (decide ((S.size : Int) ≤ 16) = rightB k) := by
      unfold rightB
      rw [decide_eq_true (show 1 ≤ k.length by omega), Bool.true_and, hz]
      exact decide_eq_decide.2 (by omega)
    clear hz
    go_enter Tryz.func56, Tryz.ntmps56
    go_wp2_with fail
    go_ret
    exact ⟨ret_bool HB.out, rfl⟩
  · have HB : Hid (false = rightB k) := by
      unfold rightB
      rw [decide_eq_false (show ¬ 1 ≤ k.length by omega), Bool.false_and]
      exact rfl
    clear hz
    go_enter Tryz.func56, Tryz.ntmps56
    go_wp2_with fail
    go_ret
    exact ⟨ret_bool HB.out, rfl⟩
theorem key_edge (k : List UInt8) (w : World) : Calls Tryz.prog 110 #[.string (str k)] w fun e w' => e = .returned (.bool (edgeB k)) ∧ w = w' := by
  have hz : (str k).size = k.length := str_size k
  generalize str k = S at hz ⊢
  go_enter Tryz.func110, Tryz.ntmps110
  go_wp2_with fail
  all_goals
    go_ret
    exact ⟨ret_bool (by unfold edgeB; rw [← hz]; simp; try omega), rfl⟩

set_option maxRecDepth 100000 in
theorem key_with (s : List UInt8) (b : UInt8) (hs : s.length ≤ 1000000) (w : World) : Calls Tryz.prog 119 #[.string (str s), .int .u8 (b.toNat : Int)] w fun e w' => e = .returned (.string (str (s ++ [b]))) ∧ Below w.heap.size w w' := by
  have hrow := byte_row w _ b rfl
  have K1 : (convert 112 9 (.slice (some ⟨w.heap.size, 0, none⟩) 1 1)).run Tryz.prog (w.alloc (.cells #[.int .u8 (b.toNat : Int)] 5)) = .ok (.string (str [b])) _ :=
    conv_str (P := Tryz.prog) 1 112 5 9 Tryz.underlying112 Tryz.underlying5 Tryz.underlying9 hrow
  have HB := Lib.hid ((Below.refl w.heap.size w).alloc (Nat.le_refl _) (.cells #[.int .u8 (b.toNat : Int)] 5))
  have hz : (str s).size ≤ 1000000 := by rw [str_size]; exact hs
  have hz1 : (str [b]).size ≤ 1 := by rw [str_size]; simp
  have HV := Lib.hid (txt_app s [b])
  go_enter Tryz.func119, Tryz.ntmps119
  go_wp2_with fail
  go_ret
  exact ⟨ret_txt HV.out, HB.out⟩
theorem key_next (s : List UInt8) (hs : s.length ≤ 1000000) (w : World) : Calls Tryz.prog 90 #[.string (str s)] w fun e w' => e = .returned (.string (str (s ++ [0]))) ∧ Below w.heap.size w w' := by
  have K := Lib.hid (key_with s 0 hs w)
  change Hid (Calls _ _ #[_, .int .u8 0] _ _) at K
  go_enter Tryz.func90, Tryz.ntmps90
  go_wp2_with ((with_reducible refine K.out.mono ?_); rintro e w' ⟨rfl, hb⟩)
  go_ret
  exact ⟨rfl, hb⟩
end Go.Proofs.YtaodifpnfejbbaaGreat

/-
  Layer 6 (key): the document's order, with what texts begin, ends.
-/
namespace Go.Proofs.YtaodifpnfejbbaaGreat
open Go.RowKit

theorem int_eq_false {x y : UInt8} (h : x ≠ y) : ((x.toNat : Int) == (y.toNat : Int)) = false := by
  rw [beq_eq_false_iff_ne]
  intro e
  exact h (UInt8.toNat_inj.1 (by omega))
/-- Below w with some draws. -/
theorem ref_less (a b : List UInt8) (ha : a.length ≤ 9223372036854775807) (w : World) : Calls Tryz.prog 41 #[.string (str a), .string (str b)] w fun e w' => e = .returned (.bool (ltB a b)) ∧ ∃ n, w' = w.drewN n := by
  have hza : (str a).size = a.length := str_size a
  have hzb : (str b).size = b.length := str_size b
  have hA : ∀ k, (h : k < (str a).size) → (str a)[k] = a.getD k 0 := fun k h => txt_at a k h
  have hB : ∀ k, (h : k < (str b).size) → (str b)[k] = b.getD k 0 := fun k h => txt_at b k h
  generalize str a = S at hza hA ⊢
  generalize str b = T at hzb hB ⊢
  have HA := Lib.hid hA
  have HB := Lib.hid hB
  have HZA := Lib.hid hza
  have HZB := Lib.hid hzb
  have hmx : S.size ≤ 9223372036854775807 := by omega
  clear hA hB hza hzb
  go_enter Tryz.func41, Tryz.ntmps41
  go_wp2_with fail
  go_loopw [5] (fun i wr => ∃ k m : Nat, k ≤ S.size ∧ k ≤ T.size ∧ Hid (ltB a b = ltB (a.drop k) (b.drop k)) ∧ i = .int .i64 k ∧ wr = w.drewN m) (fun i _ => S.size - (intOf i).toNat)
  case atStart => exact ⟨0, 0, by omega, by omega, rfl, rfl, rfl⟩
  case round =>
    obtain ⟨k, m, hk, hk2, HL, rfl, rfl⟩ := hrel
    by_cases hlt : k < S.size
    · by_cases hlt2 : k < T.size
      · have c1 := HA.out k hlt
        have c2 := HB.out k hlt2
        have HS := fun h => Lib.hid (ltB_step (a := a) (b := b) (k := k) (by have := HZA.out; omega) (by have := HZB.out; omega) h)
        have HT := fun h => Lib.hid (ltB_stop (a := a) (b := b) (k := k) (by have := HZA.out; omega) (by have := HZB.out; omega) h)
        obtain ⟨x, hx⟩ : ∃ x, a.getD k 0 = x := ⟨_, rfl⟩
        obtain ⟨y, hy⟩ : ∃ y, b.getD k 0 = y := ⟨_, rfl⟩
        rw [hx] at c1 HS HT
        rw [hy] at c2 HS HT
        clear hx hy
        by_cases hxy : x = y
        · subst hxy
          have HN := Lib.hid (HL.out.trans (HS rfl).out)
          clear HT HS
          go_wp2_with fail
          go_quiet (fail)
          go_wp2_with fail
          go_roundw
          case rel => exact ⟨k + 1, _, by omega, by omega, HN, by go_num, rfl⟩
          case measure => simp [intOf]; omega
        · have hxy' := int_eq_false hxy
          have hxy2 : ((x.toNat : Int) != (y.toNat : Int)) = true := by simp [bne, hxy']
          have HN := Lib.hid (HL.out.trans (HT hxy).out)
          clear HT HS hxy
          go_wp2_with fail
          go_quiet (fail)
          go_wp2_with fail
          go_quiet (fail)
          go_wp2_with fail
          go_ret
          refine ⟨ret_bool (by rw [HN.out]), ?_⟩
          rw [World.drewN_drewN, World.drewN_drewN]
          exact ⟨_, rfl⟩
      · have hge : T.size ≤ k := by omega
        have HN := Lib.hid (HL.out.trans (ltB_out (by have := HZB.out; omega)))
        go_wp2_with fail
        go_ret
        exact ⟨ret_bool HN.out.symm, _, rfl⟩
    · have hke : S.size = k := by omega
      have HN := Lib.hid (HL.out.trans (ltB_end (by have := HZA.out; omega) (by have := HZB.out; omega)))
      have HE : Hid (decide (S.size < T.size) = decide (k < b.length)) := decide_eq_decide.2 (by have := HZB.out; omega)
      clear hke
      go_wp2_with fail
      go_ret
      exact ⟨ret_bool (HE.out.trans HN.out.symm), _, rfl⟩
end Go.Proofs.YtaodifpnfejbbaaGreat
