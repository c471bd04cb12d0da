/-
  Layer 13 (counts), the document's words: runs as values; is one right, has a list a count, are two lists the same; a number put among rising ones.
-/
import Derived.Test.YtnfhkmlggajhaaaKind
import Derived.Test.YtnfhkmlggajhaaaQuiet
import Derived.Test.YtnfhkmlggajhaaaRegion
import Derived.Test.YtnfhkmlggajhaaaCut
import Derived.Test.YtnfhkmlggajhaaaCntSets
import Derived.Laws.StructEq
import Derived.BigQuiet
namespace Go.Proofs.Ytnfhkmlggajhaaa
open Go.RowKit

def rnCells (r : Rn) : List Value := [.int .i64 r.fr, .int .i64 r.to]
noncomputable def kRn : Kind Try.prog Rn where
  ty := 22
  el := 26
  size := 2
  bytes := 16
  zero := .agg #[.int .i64 0, .int .i64 0]
  cells := rnCells
  len := fun _ => rfl
  one := fun r u hu => by simp [rnCells] at hu; rcases hu with rfl | rfl <;> rfl
  pos := by decide
  under := Try.underlying22
  info := by kernel_rfl
  zsize := rfl
noncomputable def kIt : Kind Try.prog Int where
  ty := 23
  el := 3
  size := 1
  bytes := 8
  zero := .int .i64 0
  cells := fun x => [.int .i64 x]
  len := fun _ => rfl
  one := fun r u hu => by simp at hu; subst hu; rfl
  pos := by decide
  under := Try.underlying23
  info := by kernel_rfl
  zsize := rfl
theorem rns_at {w : World} {B : Nat} {A : Option Addr} {c : Nat} {l : List Rn} (h : kRn.Rd w B A c l) (hp : 0 < l.length) :
    ∃ b o, A = some ⟨b, o, none⟩ ∧ b < B ∧ ∀ k v, l[k]? = some v → w.cell? ⟨b, o + k * 2, none⟩ = some (.int .i64 v.fr) ∧ w.cell? ⟨b, o + k * 2 + 1, none⟩ = some (.int .i64 v.to) := by
  obtain ⟨b, o, h1, h2, h3⟩ := h.at_ hp
  exact ⟨b, o, h1, h2, fun k n hn => ⟨h3 k n hn 0 _ rfl, h3 k n hn 1 _ rfl⟩⟩
theorem its_at {w : World} {B : Nat} {A : Option Addr} {c : Nat} {l : List Int} (h : kIt.Rd w B A c l) (hp : 0 < l.length) :
    ∃ b o, A = some ⟨b, o, none⟩ ∧ b < B ∧ ∀ k x, l[k]? = some x → w.cell? ⟨b, o + k, none⟩ = some (.int .i64 x) := by
  obtain ⟨b, o, h1, h2, h3⟩ := h.at_ hp
  exact ⟨b, o, h1, h2, fun k x hx => by have := h3 k x hx 0 _ rfl; rwa [show kIt.size = 1 from rfl, Nat.mul_one, Nat.add_zero] at this⟩
theorem int_sizeOf (w : World) : (sizeOf 3).run Try.prog w = .ok 1 w := by kernel_rfl
theorem cnt_get {α : Type} {l : List α} {k : Nat} (h : k < l.length) : ∃ x, l[k]? = some x ∧ l.drop k = x :: l.drop (k + 1) ∧ x ∈ l := ⟨l[k], List.getElem?_eq_getElem h, List.drop_eq_getElem_cons h, List.getElem_mem h⟩
theorem rd_maxC {P : Program} {α : Type} {k : Kind P α} {w : World} {B : Nat} {A : Option Addr} {c n : Nat} {l : List α} (h : k.Rd w B A c l) (hn : n = l.length) : n ≤ 9223372036854775807 := by
  have h1 := h.room; have h2 := h.cap; unfold maxLen at h2; omega
theorem eq_rn (i j k m : Int) (q : Bool) (hq : (i == k && j == m) = q) (w : World) :
    (Op.equalIn 10000 26 (.agg #[.int .i64 i, .int .i64 j]) (.agg #[.int .i64 k, .int .i64 m])).run Try.prog w = .ok q w := by
  subst hq
  have u2 := Try.underlying3
  have a2 := Try.isAgg3
  have z2 := Try.sizeOf3
  have hS : Try.prog.underlying 26 = some (.struct (Try.prog.fieldsOf 26)) := by kernel_rfl
  have hp : Try.prog.stoodInHeld 26 = false := by kernel_rfl
  rw [show (10000 : Nat) = 9999 + 1 from rfl, run_equalIn_agg w 9999 26 _ _ hS hp]
  simp only [Program.fieldsOf, Try.underlying26]
  go_simp
  by_cases h1 : i = k <;> by_cases h2 : j = m <;> simp [h1, h2]
theorem ref_one (r : Rn) (x y : Int) (hx : r.fr = x) (hy : r.to = y) (z : Bool) (hz : oneC r = z) (w : World) :
    Calls Try.prog 25 #[.agg #[.int .i64 x, .int .i64 y]] w fun e w' => e = .returned (.bool z) ∧ Below w.heap.size w w' := by
  unfold oneC at hz
  rw [hx, hy] at hz
  have HB := Lib.hid (below_new w (.cells #[.int .i64 x, .int .i64 y] 26))
  obtain ⟨b1, h1⟩ : ∃ b, decide (1 ≤ x) = b := ⟨_, rfl⟩
  obtain ⟨b2, h2⟩ : ∃ b, decide (x ≤ y) = b := ⟨_, rfl⟩
  obtain ⟨b3, h3⟩ : ∃ b, decide (y ≤ 1099511627776) = b := ⟨_, rfl⟩
  rw [h1, h2, h3] at hz
  subst hz
  clear hx hy
  cases b1
  case' true =>
    cases b2
    case' true =>
      cases b3
  all_goals
    go_enter Try.func25, Try.ntmps25
    go_wp2_with fail
    go_ret
    exact ⟨rfl, HB.out⟩
set_option maxHeartbeats 2000000 in
theorem ref_chas (A : Option Addr) (c n : Nat) (l : List Rn) (x : Int) (hn : n = l.length) (v : Bool) (hv : hasC l x = v) (w : World) (hr : kRn.Rd w w.heap.size A c l) :
    Calls Try.prog 11 #[.slice A n c, .int .i64 x] w fun e w' => e = .returned (.bool v) ∧ Below w.heap.size w w' := by
  have HN := Lib.hid hn
  have HR := Lib.hid hr
  have HV := Lib.hid hv
  have hmx := rd_maxC hr hn
  have hcx : n ≤ c := by rw [hn]; exact hr.room
  clear hn hr hv
  go_enter Try.func11, Try.ntmps11
  go_wp2_with fail
  go_loopw [5] (fun i wr => ∃ k : Nat, k ≤ n ∧ Hid (hasC l x = hasC (l.drop k) x) ∧ i = .int .i64 k ∧ Below w.heap.size w wr) (fun i _ => n - (intOf i).toNat)
  case atStart => exact ⟨0, by omega, rfl, rfl, Below.refl _ _⟩
  case round =>
    obtain ⟨k, hk, HL, rfl, hb⟩ := hrel
    by_cases hlt : k < n
    · obtain ⟨r, hg, hd, -⟩ := cnt_get (l := l) (k := k) (by have := HN.out; omega)
      obtain ⟨b, o, rfl, hb1, hcell⟩ := rns_at (HR.out.below hb) (by have := HN.out; omega)
      obtain ⟨c0, c1⟩ := hcell k r hg
      have hb2 := Nat.lt_of_lt_of_le hb1 hb.size
      obtain ⟨z, hz⟩ : ∃ z, oneC r = z := ⟨_, rfl⟩
      have C := fun w => Lib.hid (ref_one r _ _ rfl rfl z hz w)
      have HL2 := Lib.hid (HL.out.trans (show hasC (l.drop k) x = ((z && (decide (r.fr ≤ x) && decide (x ≤ r.to))) || hasC (l.drop (k + 1)) x) by rw [hd, hasC_cons, inC, hz]))
      obtain ⟨X, hX⟩ : ∃ X, r.fr = X := ⟨_, rfl⟩
      obtain ⟨Y, hY⟩ : ∃ Y, r.to = Y := ⟨_, rfl⟩
      rw [hX, hY] at C HL2
      rw [hX] at c0
      rw [hY] at c1
      obtain ⟨b1, h1⟩ : ∃ b, decide (X ≤ x) = b := ⟨_, rfl⟩
      obtain ⟨b2, h2⟩ : ∃ b, decide (x ≤ Y) = b := ⟨_, rfl⟩
      rw [h1, h2] at HL2
      clear hcell hg hd hX hY hz HL
      cases z
      · go_wp2_with ((with_reducible refine (C _).out.mono ?_); rintro e w2 ⟨rfl, hq⟩; have HB2 := Lib.hid (hb.trans (hq.mono hb.size)); obtain ⟨hc, hf⟩ := bcell hq; clear hq)
        go_roundw
        case rel => exact ⟨k + 1, by omega, HL2, by go_num, HB2.out⟩
        case measure => simp [intOf]; omega
      · cases b1
        · go_wp2_with ((with_reducible refine (C _).out.mono ?_); rintro e w2 ⟨rfl, hq⟩; have HB2 := Lib.hid (hb.trans (hq.mono hb.size)); obtain ⟨hc, hf⟩ := bcell hq; clear hq)
          go_roundw
          case rel => exact ⟨k + 1, by omega, HL2, by go_num, HB2.out⟩
          case measure => simp [intOf]; omega
        · cases b2
          · go_wp2_with ((with_reducible refine (C _).out.mono ?_); rintro e w2 ⟨rfl, hq⟩; have HB2 := Lib.hid (hb.trans (hq.mono hb.size)); obtain ⟨hc, hf⟩ := bcell hq; clear hq)
            go_roundw
            case rel => exact ⟨k + 1, by omega, HL2, by go_num, HB2.out⟩
            case measure => simp [intOf]; omega
          · go_wp2_with ((with_reducible refine (C _).out.mono ?_); rintro e w2 ⟨rfl, hq⟩; have HB2 := Lib.hid (hb.trans (hq.mono hb.size)); obtain ⟨hc, hf⟩ := bcell hq; clear hq)
            go_ret
            exact ⟨ret_bool (HL2.out.symm.trans HV.out), HB2.out⟩
    · have HL2 := Lib.hid (HL.out.trans (show hasC (l.drop k) x = false by rw [List.drop_eq_nil_of_le (by have := HN.out; omega)]; rfl))
      go_wp2_with fail
      go_ret
      exact ⟨ret_bool (HL2.out.symm.trans HV.out), hb⟩
/-- Are two lists the same, run by run? -/
def sameC : List Rn → List Rn → Bool
  | [], [] => true
  | r :: a, t :: b => (r.fr == t.fr && r.to == t.to) && sameC a b
  | _, _ => false
theorem sameC_refl : ∀ a : List Rn, sameC a a = true
  | [] => rfl
  | r :: a => by unfold sameC; rw [sameC_refl a, beq_self_eq_true, beq_self_eq_true]; rfl
set_option maxHeartbeats 1000000 in
theorem ref_csame (A B : Option Addr) (c d n : Nat) (a : List Rn) (hn : n = a.length) (w : World) (ha : kRn.Rd w w.heap.size A c a) (hb : kRn.Rd w w.heap.size B d a) :
    Calls Try.prog 12 #[.slice A n c, .slice B n d] w fun e w' => e = .returned (.bool true) ∧ Below w.heap.size w w' := by
  have HN := Lib.hid hn
  have HA := Lib.hid ha
  have HB := Lib.hid hb
  have hmx := rd_maxC ha hn
  have hcx : n ≤ c := by rw [hn]; exact ha.room
  have hcy : n ≤ d := by rw [hn]; exact hb.room
  clear hn ha hb
  go_enter Try.func12, Try.ntmps12
  go_wp2_with fail
  go_loopw [5] (fun i wr => ∃ k q : Nat, k ≤ n ∧ i = .int .i64 k ∧ wr = w.drewN q) (fun i _ => n - (intOf i).toNat)
  case atStart => exact ⟨0, 0, by omega, rfl, rfl⟩
  case round =>
    obtain ⟨k, q, hk, rfl, rfl⟩ := hrel
    by_cases hlt : k < n
    · obtain ⟨r, hg, -, -⟩ := cnt_get (l := a) (k := k) (by have := HN.out; omega)
      obtain ⟨b1, o1, rfl, hb1, hcell1⟩ := rns_at HA.out (by have := HN.out; omega)
      obtain ⟨b2, o2, rfl, hb2, hcell2⟩ := rns_at HB.out (by have := HN.out; omega)
      obtain ⟨a0, a1⟩ := hcell1 k r hg
      obtain ⟨c0, c1⟩ := hcell2 k r hg
      have EQ := fun w => eq_rn r.fr r.to r.fr r.to true (by simp) w
      have hk0 : (0 : Int) ≤ (k : Int) := by omega
      have hkn : (k : Int) < (n : Int) := by omega
      obtain ⟨X, hX⟩ : ∃ X, r.fr = X := ⟨_, rfl⟩
      obtain ⟨Y, hY⟩ : ∃ Y, r.to = Y := ⟨_, rfl⟩
      rw [hX, hY] at EQ
      rw [hX] at a0 c0
      rw [hY] at a1 c1
      clear hcell1 hcell2 hg hX hY
      go_wp2_with fail
      go_quiet (fail)
      go_wp2_with fail
      go_roundw
      case rel => exact ⟨k + 1, _, by omega, by go_num, rfl⟩
      case measure => simp [intOf]; omega
    · go_wp2_with fail
      go_ret
      exact ⟨rfl, below_drewN (Below.refl _ _) _⟩
theorem its_take (l : List Int) (k : Nat) : kIt.row (l.take k) = (kIt.row l).take k := by
  have := kIt.row_take l k
  rwa [show k * kIt.size = k by show k * 1 = k; omega] at this
theorem its_drop (l : List Int) (k : Nat) : kIt.row (l.drop k) = (kIt.row l).drop k := by
  have := kIt.row_drop l k
  rwa [show k * kIt.size = k by show k * 1 = k; omega] at this
theorem its_len (l : List Int) : (kIt.row l).length = l.length := by
  have := kIt.row_len l
  rwa [show l.length * kIt.size = l.length by show l.length * 1 = l.length; omega] at this
theorem cle_alloc {n : Nat} {w : World} (h : n ≤ w.heap.size) (o : Obj) : n ≤ (w.alloc o).heap.size := by simp; omega
theorem cret_slice {A : Option Addr} {n m c : Nat} (h : n = m) : Ending.returned (.slice A n c) = .returned (.slice A m c) := by rw [h]
def RetI (w : World) (N : Nat) (l : List Int) (e : Ending) (w' : World) : Prop := ∃ A c, e = .returned (.slice A N c) ∧ kIt.Rd w' w'.heap.size A c l ∧ Below w.heap.size w w'
set_option maxHeartbeats 2000000 in
theorem ref_cput (A : Option Addr) (c n : Nat) (l : List Int) (s : Int) (hn : n = l.length) (hnl : n ≤ 900000) (m : List Int) (hm : putI l s = m) (N : Nat) (hN : m.length = N) (w : World) (hr : kIt.Rd w w.heap.size A c l) :
    Calls Try.prog 39 #[.slice A n c, .int .i64 s] w (RetI w N m) := by
  have HN := Lib.hid hn
  have HR := Lib.hid hr
  have HM := Lib.hid hm
  have HNN := Lib.hid hN
  have hcx : n ≤ c := by rw [hn]; exact hr.room
  clear hn hr hm hN
  go_enter Try.func39, Try.ntmps39
  go_wp2_with fail
  go_loop [5] (fun i => ∃ k : Nat, k ≤ n ∧ Hid (putI l s = l.take k ++ putI (l.drop k) s) ∧ i = .int .i64 k) (fun i => n - (intOf i).toNat)
  case atStart => exact ⟨0, by omega, rfl, rfl⟩
  case round =>
    obtain ⟨k, hk, HL, rfl⟩ := hrel
    have HTK := Lib.hid (show k = (l.take k).length by rw [List.length_take]; have := HN.out; omega)
    have HL1 := Lib.hid (show ([] : List Int).length + (l.take k).length ≤ 1000000 by rw [List.length_take, List.length_nil]; omega)
    have HL2 := Lib.hid (show (l.take k).length + [s].length ≤ 1000000 by rw [List.length_take, List.length_singleton]; omega)
    have HDK := Lib.hid (show n - k = (l.drop k).length by rw [List.length_drop, ← HN.out])
    have HL3 := Lib.hid (show (l.take k ++ [s]).length + (l.drop k).length ≤ 1000000 by rw [List.length_append, List.length_take, List.length_drop, List.length_singleton]; have := HN.out; omega)
    have HRT : Hid (RowAt w w.heap.size A (kIt.row (l.take k))) := by rw [its_take]; exact HR.out.row.take k
    have HRD : Hid (RowAt w w.heap.size (cutA A k c) (kIt.row (l.drop k))) := by rw [its_drop]; exact HR.out.row.cut (by rw [its_len]; have := HN.out; omega) (by rw [its_len]; exact HR.out.room)
    have K1 := fun w : World => run_take (T := 23) (E := 3) Try.underlying23 int_sizeOf w A n c k (by omega)
    have K2 := fun w : World => run_cut (T := 23) (E := 3) Try.underlying23 int_sizeOf w A n c k (by omega)
    obtain ⟨A3, hA3⟩ : ∃ A3, cutA A k c = A3 := ⟨_, rfl⟩
    obtain ⟨c3, hc3⟩ : ∃ c3, c - k = c3 := ⟨_, rfl⟩
    obtain ⟨n3, hn3⟩ : ∃ n3, n - k = n3 := ⟨_, rfl⟩
    rw [hA3, hc3, hn3] at K2
    rw [hA3] at HRD
    rw [hn3] at HDK
    clear hA3 hc3 hn3
    by_cases hlt : k < n
    · obtain ⟨x, hg, hd, -⟩ := cnt_get (l := l) (k := k) (by have := HN.out; omega)
      obtain ⟨b, o, rfl, hb1, hcell⟩ := its_at HR.out (by have := HN.out; omega)
      have c0 := hcell k x hg
      have hkd : decide ((k : Int) < (n : Int)) = true := decide_eq_true (by omega)
      rcases Int.lt_trichotomy x s with h3 | h3 | h3
      · have HX := Lib.hid (HL.out.trans (show l.take k ++ putI (l.drop k) s = l.take (k + 1) ++ putI (l.drop (k + 1)) s by
          rw [hd, putI_less h3, List.take_add_one, hg]; simp))
        have hxd : decide (x < s) = true := decide_eq_true h3
        clear hcell hg hd HL HTK HL1 HL2 HL3 HDK HRT HRD K1 K2
        go_wp2_with fail
        go_round
        case rel => exact ⟨k + 1, by omega, HX, by go_num⟩
        case measure => simp [intOf]; omega
      · have HX := Lib.hid (show m = l by rw [← HM.out, HL.out, hd, putI_same h3, ← hd, List.take_append_drop])
        have hxd : decide (x < s) = false := decide_eq_false (by omega)
        have hxe : (x == s) = true := by rw [h3]; simp
        clear hcell hg hd HL HTK HL1 HL2 HL3 HDK HRT HRD K1 K2
        go_wp2_with fail
        go_ret
        exact ⟨_, c, cret_slice (by rw [← HNN.out, HX.out, HN.out]), by rw [HX.out]; exact HR.out, Below.refl _ _⟩
      · have HX := Lib.hid (show m = (l.take k ++ [s]) ++ l.drop k by rw [← HM.out, HL.out, hd, putI_more h3, List.append_assoc]; rfl)
        have hxd : decide (x < s) = false := decide_eq_false (by omega)
        have hxe : (x == s) = false := beq_eq_false_iff_ne.2 (by omega)
        clear hcell hg hd HL
        go_wp2_with (first
          | (at_builtin; refine wpList_app_k kIt rfl (.tmp 34) (.tmp 37) rfl w.heap.size (.slice none 0 0) [] rfl (Kind.Own.nil _ _) w.heap.size (some ⟨b, o, none⟩) c k (l.take k) HTK.out rfl HRT.out HL1.out (by decide) (Nat.le_refl _) ?_; intro v3 w3 hown3 hg3 hb3 _; replace hown3 := Lib.hid hown3; have hz3 := Lib.hid hb3.size)
          | (at_builtin; refine wpList_app_k kIt rfl (.tmp 39) (.tmp 41) rfl w.heap.size v3 (l.take k) rfl (Kind.Own.alloc hown3.out _) _ (some ⟨w3.heap.size, 0, none⟩) 1 1 [s] rfl rfl (Kind.rd_new (k := kIt) rfl rfl (by simp)).row HL2.out (by decide) (cle_alloc hz3.out _) ?_; intro v4 w4 hown4 hg4 hb4 _; replace hb4 := (hb3.alloc hb3.size _).trans hb4; have hz4 := Lib.hid hb4.size; replace hown4 := Lib.hid hown4; clear hb3)
          | (at_builtin; refine wpList_app_k kIt rfl (.tmp 43) (.tmp 46) rfl w.heap.size v4 (l.take k ++ [s]) rfl hown4.out _ A3 c3 n3 (l.drop k) HDK.out rfl (RowAt.below HRD.out hb4) HL3.out (by decide) hz4.out ?_; intro v5 w5 hown5 hg5 hb5 _; replace hb5 := hb4.trans hb5; have HO5 := Lib.hid hown5; clear hown5))
        go_ret
        obtain ⟨A5, c5, rfl, hrd⟩ := HO5.out.form
        exact ⟨A5, c5, cret_slice (by rw [← HX.out]; exact HNN.out), by rw [HX.out]; exact hrd, hb5⟩
    · have HX := Lib.hid (show m = (l.take k ++ [s]) ++ l.drop k by
        rw [← HM.out, HL.out, List.drop_eq_nil_of_le (by have := HN.out; omega), List.append_nil]; rfl)
      have hkd : decide ((k : Int) < (n : Int)) = false := decide_eq_false (by omega)
      clear HL
      go_wp2_with (first
        | (at_builtin; refine wpList_app_k kIt rfl (.tmp 34) (.tmp 37) rfl w.heap.size (.slice none 0 0) [] rfl (Kind.Own.nil _ _) w.heap.size A c k (l.take k) HTK.out rfl HRT.out HL1.out (by decide) (Nat.le_refl _) ?_; intro v3 w3 hown3 hg3 hb3 _; replace hown3 := Lib.hid hown3; have hz3 := Lib.hid hb3.size)
        | (at_builtin; refine wpList_app_k kIt rfl (.tmp 39) (.tmp 41) rfl w.heap.size v3 (l.take k) rfl (Kind.Own.alloc hown3.out _) _ (some ⟨w3.heap.size, 0, none⟩) 1 1 [s] rfl rfl (Kind.rd_new (k := kIt) rfl rfl (by simp)).row HL2.out (by decide) (cle_alloc hz3.out _) ?_; intro v4 w4 hown4 hg4 hb4 _; replace hb4 := (hb3.alloc hb3.size _).trans hb4; have hz4 := Lib.hid hb4.size; replace hown4 := Lib.hid hown4; clear hb3)
        | (at_builtin; refine wpList_app_k kIt rfl (.tmp 43) (.tmp 46) rfl w.heap.size v4 (l.take k ++ [s]) rfl hown4.out _ A3 c3 n3 (l.drop k) HDK.out rfl (RowAt.below HRD.out hb4) HL3.out (by decide) hz4.out ?_; intro v5 w5 hown5 hg5 hb5 _; replace hb5 := hb4.trans hb5; have HO5 := Lib.hid hown5; clear hown5))
      go_ret
      obtain ⟨A5, c5, rfl, hrd⟩ := HO5.out.form
      exact ⟨A5, c5, cret_slice (by rw [← HX.out]; exact HNN.out), by rw [HX.out]; exact hrd, hb5⟩
end Go.Proofs.Ytnfhkmlggajhaaa
