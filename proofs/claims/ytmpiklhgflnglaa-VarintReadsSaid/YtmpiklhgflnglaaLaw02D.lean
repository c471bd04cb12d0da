/-
  The second layer's law on readers: a reader that is none, and calls that leave a reader as it is.
-/
import Derived.Test.YtmpiklhgflnglaaLaw02C
import Derived.Deep.RegionHeld3
namespace Go.Proofs.Ytmpiklhgflnglaa
open Go.RowKit

theorem below_own {w w' : World} (hg : w.grownBy w' (some w.heap.size)) : Below w.heap.size w w' := (Below.refl _ _).grown hg (Nat.le_refl _) (fun k hk => by injection hk; omega)
/-- What a call of a reader that is none leaves. -/
def NilPost (w : World) (v : Value) (e : Ending) (w' : World) : Prop := e = .returned v ∧ Below w.heap.size w w'
theorem nil_number (w : World) : Calls Try.prog 13 #[.pointer none] w (NilPost w (.int .i64 0)) := by
  have h := rd_number (givenAt_none w) (by simp)
  rw [numR_err (by decide)] at h
  exact h.mono fun _ _ ⟨h1, _, h3⟩ => ⟨h1, below_own h3⟩
theorem nil_within (w : World) (lo hi : Int) : Calls Try.prog 18 #[.pointer none, .int .i64 lo, .int .i64 hi] w (NilPost w (.int .i64 0)) := by
  have h := rd_within (givenAt_none w) lo hi (by simp)
  rw [withinR_err (by decide)] at h
  exact h.mono fun _ _ ⟨h1, _, h3⟩ => ⟨h1, below_own h3⟩
theorem nil_left (w : World) : Calls Try.prog 16 #[.pointer none] w (NilPost w (.int .i64 0)) :=
  (rd_left (givenAt_none w)).mono fun _ _ ⟨h1, _, h3⟩ => ⟨h1, below_own h3⟩
theorem nil_text (w : World) (most : Int) : Calls Try.prog 14 #[.pointer none, .int .i64 most] w (NilPost w (.string ⟨#[]⟩)) := by
  have h := rd_text (givenAt_none w) most (by simp)
  rw [textR_err (by decide)] at h
  exact h.mono fun _ _ ⟨h1, _, h3⟩ => ⟨h1, below_own h3⟩
theorem nil_bool (w : World) : Calls Try.prog 20 #[.pointer none] w (NilPost w (.bool false)) := by
  have h := rd_bool (givenAt_none w) (by simp)
  rw [show boolR [] 1 = false from by unfold boolR; rw [withinR_err (by decide)]; rfl] at h
  exact h.mono fun _ _ ⟨h1, _, h3⟩ => ⟨h1, below_own h3⟩
theorem nil_err (w : World) : Calls Try.prog 24 #[.pointer none] w (NilPost w (.int .i64 1)) :=
  (rd_err (givenAt_none w)).mono fun _ _ ⟨h1, _, h3⟩ => ⟨h1, below_own h3⟩
theorem nil_end (w : World) : Calls Try.prog 15 #[.pointer none] w (NilPost w (.int .i64 1)) :=
  (rd_end (givenAt_none w)).mono fun _ _ ⟨h1, _, h3⟩ => ⟨h1, below_own h3⟩
theorem nil_fail (w : World) (x : Int) : Calls Try.prog 22 #[.pointer none, .int .i64 x] w (NilPost w (.tuple #[])) :=
  (rd_fail (givenAt_none w) x 1 (by simp)).mono fun _ _ ⟨h1, _, h3⟩ => ⟨h1, below_own h3⟩

/-- Calls that only look. -/
def Same (w : World) (v : Value) (e : Ending) (w' : World) : Prop := e = .returned v ∧ w' = w
set_option maxHeartbeats 400000 in
theorem look_left {w : World} {b : Nat} {l : List UInt8} {e : Int} (h : RdAt w b l e) (n : Int) (hn : n = l.length) :
    Calls Try.prog 16 #[.pointer (some ⟨b, 0, none⟩)] w (Same w (.int .i64 n)) := by
  have hsz := Lib.hid (show ((str l).size : Int) = n by rw [str_size, hn])
  obtain ⟨c0, c1, z0, z1⟩ := h.cells
  clear h hn
  go_enter Try.func16, Try.ntmps16
  go_wp2_with fail
  refine (given_some _ w).mono ?_; rintro y w1 ⟨rfl, rfl⟩
  go_wp2
  go_ret
  exact ⟨by show Ending.returned (.int .i64 ((str l).size : Nat)) = _; rw [hsz.out], rfl⟩
set_option maxHeartbeats 400000 in
theorem look_err {w : World} {b : Nat} {l : List UInt8} {e : Int} (h : RdAt w b l e) :
    Calls Try.prog 24 #[.pointer (some ⟨b, 0, none⟩)] w (Same w (.int .i64 e)) := by
  obtain ⟨c0, c1, z0, z1⟩ := h.cells
  clear h
  go_enter Try.func24, Try.ntmps24
  go_wp2_with fail
  refine (given_some _ w).mono ?_; rintro y w1 ⟨rfl, rfl⟩
  go_wp2
  go_ret
  exact ⟨rfl, rfl⟩
set_option maxHeartbeats 400000 in
theorem look_end {w : World} {b : Nat} {l : List UInt8} {e : Int} (h : RdAt w b l e) :
    Calls Try.prog 15 #[.pointer (some ⟨b, 0, none⟩)] w (Same w (.int .i64 (endR l e))) := by
  have hsz := str_toList l
  obtain ⟨c0, c1, z0, z1⟩ := h.cells
  clear h
  by_cases he : e = 0
  · by_cases hl : l = []
    · have fin : endR l e = 0 := by unfold endR; rw [if_neg (by simp [hl])]; exact he
      subst he
      rw [fin]
      have h1 : (str l).toList = [] := by rw [hsz]; exact hl
      have h2 : (str l).toList.isEmpty = true := by rw [h1]; rfl
      clear hl fin hsz
      go_enter Try.func15, Try.ntmps15
      go_wp2_with fail
      refine (given_some _ w).mono ?_; rintro y w1 ⟨rfl, rfl⟩
      go_wp2
      go_ret
      exact ⟨rfl, rfl⟩
    · have fin : endR l e = 14 := by unfold endR; rw [if_pos ⟨he, hl⟩]
      subst he
      rw [fin]
      have h1 : ((str l).toList == []) = false := by rw [hsz]; simp [hl]
      have h2 : (str l).toList.isEmpty = false := by rw [hsz]; simp [hl]
      clear hl fin hsz
      go_enter Try.func15, Try.ntmps15
      go_wp2_with fail
      refine (given_some _ w).mono ?_; rintro y w1 ⟨rfl, rfl⟩
      go_wp2
      go_ret
      exact ⟨rfl, rfl⟩
  · have fin : endR l e = e := by unfold endR; rw [if_neg (by simp [he])]
    rw [fin]
    have h1 : (e == 0) = false := by simpa using he
    clear fin hsz
    go_enter Try.func15, Try.ntmps15
    go_wp2_with fail
    refine (given_some _ w).mono ?_; rintro y w1 ⟨rfl, rfl⟩
    go_wp2
    go_ret
    exact ⟨rfl, rfl⟩

/-- .. that draw, too. -/
def Quiet (w : World) (v : Value) (e : Ending) (w' : World) : Prop := e = .returned v ∧ ∃ m, w' = w.drewN m
theorem Quiet.of_same {w w' : World} {v : Value} {e : Ending} (h : Same w v e w') : Quiet w v e w' := ⟨h.1, 0, h.2⟩
set_option maxHeartbeats 400000 in
theorem look_rf_end {w : World} {m a c : Nat} {A : Option Addr} {b : List UInt8} {e : Int} (h : RfAt w m A b.length c a e) :
    Calls Try.prog 25 #[.pointer (some ⟨m, 0, none⟩)] w (Quiet w (.int .i64 (endR (b.drop a) e))) := by
  obtain ⟨c0, c1, c2, z0, z1, z2⟩ := h.cells
  clear h
  by_cases he : e = 0
  · subst he
    by_cases hlt : a < b.length
    · have fin : endR (b.drop a) 0 = 14 := by unfold endR; rw [if_pos ⟨rfl, by simp; omega⟩]
      rw [fin]
      clear fin
      go_enter Try.func25, Try.ntmps25
      go_wp2
      go_quiet (fail)
      go_wp2
      go_ret
      exact ⟨rfl, _, rfl⟩
    · have fin : endR (b.drop a) 0 = 0 := by unfold endR; rw [if_neg (by simp; omega)]
      rw [fin]
      have hlt' : decide (a < b.length) = false := by simp; omega
      clear fin hlt
      go_enter Try.func25, Try.ntmps25
      go_wp2
      go_quiet (fail)
      go_wp2
      go_ret
      exact ⟨rfl, _, rfl⟩
  · have fin : endR (b.drop a) e = e := by unfold endR; rw [if_neg (by simp [he])]
    have he' : (e == 0) = false := by simpa using he
    rw [fin]
    clear fin he
    go_enter Try.func25, Try.ntmps25
    go_wp2
    go_quiet (fail)
    go_wp2
    go_ret
    exact ⟨rfl, _, rfl⟩

/-- What is done to a reader, as cells. -/
def doCells (d : Int × Int × Int) : List Value := [.int .i64 d.1, .int .i64 d.2.1, .int .i64 d.2.2]
def dos (l : List (Int × Int × Int)) : List Value := l.flatMap doCells
def DoOk (d : Int × Int × Int) : Prop := (-9223372036854775808 ≤ d.1 ∧ d.1 ≤ 9223372036854775807) ∧ (-9223372036854775808 ≤ d.2.1 ∧ d.2.1 ≤ 9223372036854775807) ∧ (-9223372036854775808 ≤ d.2.2 ∧ d.2.2 ≤ 9223372036854775807)
theorem flat_at {α : Type} (E : α → List Value) (k : Nat) : ∀ (l : List α), (∀ x ∈ l, (E x).length = k) → ∀ (i r : Nat) (x : α), l[i]? = some x → r < k → (l.flatMap E)[i * k + r]? = (E x)[r]?
  | [], _, i, r, x, h, _ => by simp at h
  | y :: l, hk, i, r, x, h, hr => by
    have hy := hk y (by simp)
    rw [List.flatMap_cons]
    cases i with
    | zero =>
      simp at h
      subst h
      rw [Nat.zero_mul, Nat.zero_add, List.getElem?_append_left (by omega)]
    | succ i =>
      rw [List.getElem?_append_right (by rw [hy, Nat.add_mul]; omega), hy, show (i + 1) * k + r - k = i * k + r by rw [Nat.add_mul]; omega]
      exact flat_at E k l (fun x hx => hk x (by simp [hx])) i r x (by simpa using h) hr
theorem RowAt.dos_at {w : World} {B : Nat} {A : Option Addr} {l : List (Int × Int × Int)} (h : RowAt w B A (dos l)) (hp : 0 < l.length) :
    ∃ b o, A = some ⟨b, o, none⟩ ∧ b < B ∧ ∀ k, k < l.length → w.cell? ⟨b, o + k * 3, none⟩ = some (.int .i64 (l.getD k (0, 0, 0)).1) ∧ w.cell? ⟨b, o + k * 3 + 1, none⟩ = some (.int .i64 (l.getD k (0, 0, 0)).2.1) ∧ w.cell? ⟨b, o + k * 3 + 2, none⟩ = some (.int .i64 (l.getD k (0, 0, 0)).2.2) := by
  rcases h with h | ⟨b, o, h1, h2, h3⟩
  · cases l with
    | nil => simp at hp
    | cons x r => simp [dos, doCells] at h
  · refine ⟨b, o, h1, h2, fun k hk => ?_⟩
    have hx : l[k]? = some (l.getD k (0, 0, 0)) := by simp [List.getD, List.getElem?_eq_getElem hk]
    have hf := fun r hr => flat_at doCells 3 l (fun _ _ => rfl) k r _ hx hr
    refine ⟨h3 (k * 3) _ ?_, ?_, ?_⟩
    · exact hf 0 (by omega)
    · have := h3 (k * 3 + 1) _ (hf 1 (by omega))
      rwa [← Nat.add_assoc] at this
    · have := h3 (k * 3 + 2) _ (hf 2 (by omega))
      rwa [← Nat.add_assoc] at this

theorem RdAt.drewN {w : World} {b : Nat} {l : List UInt8} {e : Int} (h : RdAt w b l e) (k : Nat) : RdAt (w.drewN k) b l e := h
set_option maxHeartbeats 2000000 in
set_option maxRecDepth 100000 in
theorem varintReads_in (A A2 : Option Addr) (c c2 : Nat) (b : List UInt8) (l : List (Int × Int × Int)) (w : World) (hr : RdB w w.heap.size A c b) (hl : RowAt w w.heap.size A2 (dos l)) (hall : ∀ d ∈ l, DoOk d) (n1 : b.length ≤ 300) (n2 : l.length ≤ 60) :
    Calls Try.prog 4 #[.slice A b.length c, .slice A2 l.length c2] w fun e w' => e = .returned (.bool true) ∧ Below w.heap.size w w' := by
  go_enter Try.func4, Try.ntmps4
  go_wp2_with fail
  refine (awake02 _).mono ?_; rintro e w1 ⟨rfl, hb1⟩
  have hr1 := hr.below hb1
  have hsz1 := hb1.size
  go_wp2_with fail
  refine (varint_new A c _ b w1 hr1).mono ?_; rintro e w2 ⟨rfl, hrd, hb2⟩
  have HB2 : Hid (Below w.heap.size w w2) := hb1.trans (hb2.mono hsz1)
  have hwr : w.heap.size ≤ w1.heap.size := hsz1
  have hlt0 := hrd.lt
  obtain ⟨rb, hrb⟩ : ∃ rb, w1.heap.size = rb := ⟨_, rfl⟩
  rw [hrb] at hrd hwr hlt0 ⊢
  obtain ⟨mb, hmb⟩ : ∃ mb, w2.heap.size = mb := ⟨_, rfl⟩
  have HMB := Lib.hid hmb
  have hwm : w.heap.size ≤ mb := by omega
  have hne : some mb ≠ some rb := by simp; omega
  have hne' : some rb ≠ some mb := by simp; omega
  have hrm : rb < mb := by omega
  have hr0 := hrd
  clear hrb hb1 hb2 hr1 hsz1 hmb hrd hlt0
  go_wp2_with fail
  rw [HMB.out]
  go_loopw [28] (fun i wr => ∃ (k a : Nat) (e : Int), k ≤ l.length ∧ a ≤ b.length ∧ i = .int .i64 k ∧ RdAt wr rb (b.drop a) e ∧ RfAt wr mb A b.length c a e ∧ Below w.heap.size w wr) (fun i _ => l.length - (intOf i).toNat)
  case atStart => exact ⟨0, 0, 0, by omega, by omega, rfl, by rw [List.drop_zero]; exact hr0.below ((Below.refl _ _).alloc (Nat.le_refl _) _) (by rw [HMB.out]; omega), heap_new _ _ _ HMB.out.symm, HB2.out.alloc HB2.out.size _⟩
  case round =>
    obtain ⟨k, a, e, hk, ha, rfl, hrd, hrf, hbw⟩ := hrel
    clear hr0
    by_cases hlt : k < l.length
    · obtain ⟨b0, o0, rfl, hb0, hc⟩ := (hl.below hbw).dos_at (by omega)
      obtain ⟨hc0, hc1, hc2⟩ := hc k hlt
      have hok : DoOk (l.getD k (0, 0, 0)) := hall _ (by rw [List.getD, List.getElem?_eq_getElem hlt]; simp)
      obtain ⟨⟨K, X, Y⟩, hd⟩ : ∃ d, l.getD k (0, 0, 0) = d := ⟨_, rfl⟩
      rw [hd] at hc0 hc1 hc2 hok
      obtain ⟨hK, hX, hY⟩ := hok
      simp only at hc0 hc1 hc2 hK hX hY
      have hnd : some wr.heap.size ≠ some rb := by have := hrd.lt; simp; omega
      have hnm : some wr.heap.size ≠ some mb := by have := hrf.lt; simp; omega
      have hmw := hrf.lt
      have hsz0 : w.heap.size ≤ (wr.alloc (.cells #[.int .i64 K, .int .i64 X, .int .i64 Y] 44)).heap.size := by have := hbw.size; simp; omega
      have hga := World.grownBy_alloc wr (.cells #[.int .i64 K, .int .i64 X, .int .i64 Y] 44) none
      have hcA : (wr.alloc (.cells #[.int .i64 K, .int .i64 X, .int .i64 Y] 44)).cell? ⟨wr.heap.size, 1, none⟩ = some (.int .i64 X) := by rw [cell_of_row _ _ _ _ _ _ (heap_alloc_new wr _)]; rfl
      have hcB : (wr.alloc (.cells #[.int .i64 K, .int .i64 X, .int .i64 Y] 44)).cell? ⟨wr.heap.size, 2, none⟩ = some (.int .i64 Y) := by rw [cell_of_row _ _ _ _ _ _ (heap_alloc_new wr _)]; rfl
      have hrx := (hr.below hbw).quiet hga hbw.size
      have hrd := hrd.quiet hga
      have hrf := hrf.kept hga (by simp)
      have hbw := hbw.alloc hbw.size (.cells #[.int .i64 K, .int .i64 X, .int .i64 Y] 44)
      have hlb : (b.drop a).length ≤ 9223372036854775807 := by rw [List.length_drop]; omega
      have hb6 : b.length ≤ 1000000 := by omega
      clear hc hd hga hr hl hall
      have HCA := Lib.hid hcA
      have HCB := Lib.hid hcB
      clear hcA hcB
      by_cases h1 : K = 1
      · subst h1
        go_wp2_with fail
        refine (rd_number (givenAt_some hrd) hlb).mono ?_; rintro y w3 ⟨rfl, hrd3, hg3⟩
        have k1 := hg3.cell HCA.out hnd
        have hrf := hrf.kept hg3 hne
        have hbw := below_row hbw hg3 hwr hsz0
        have hrx := hrx.grown hg3 hwr hsz0
        have hsz0 := Nat.le_trans hsz0 hg3.size
        go_wp2_with fail
        refine (rf_number hrf hrx ha hb6).mono ?_; rintro y w4 ⟨rfl, a1, ha1, hla, hrf, hg4⟩
        rw [hla] at hrd3
        have hrd := hrd3.kept hg4 hne'
        have hbw := below_row hbw hg4 hwm hsz0
        clear hrd3 hg3 hg4 hrx hla k1
        obtain ⟨c0, c1, c2, z0, z1, z2⟩ := hrf.cells
        have HRD := Lib.hid hrd
        have HRF := Lib.hid hrf
        have HBW := Lib.hid hbw
        have hn63 : (b.length : Int) ≤ 300 := by omega
        have ha63 : (a1 : Int) ≤ b.length := by omega
        have hlen : (b.length : Int) - a1 = (b.drop a1).length := by rw [List.length_drop]; omega
        have HL := Lib.hid hlen
        clear hrd hrf hbw hlen
        go_wp2_with fail
        go_quiet ((first
          | (go_at_call 24; exact Calls.quiet_of_same (look_err (HRD.out.drewN _)))
          | (go_at_call 16; exact Calls.quiet_of_same (look_left (HRD.out.drewN _) _ HL.out))
          | (go_at_call 15; exact Calls.quiet_of_same (look_end (HRD.out.drewN _)))
          | (go_at_call 25; exact Calls.quiet_of (look_rf_end (HRF.out.drewN _)))))
        clear c0 c1 c2 z0 z1 z2
        go_wp2
        go_roundw
        case rel => exact ⟨k + 1, a1, _, by omega, ha1, by go_num, HRD.out.drewN _, HRF.out.drewN _, below_drewN HBW.out _⟩
        case measure => simp [intOf]; omega
      · have h1' : (K == 1) = false := by simpa using h1
        by_cases h2 : K = 2
        · subst h2
          have hrx := hrx.drewN 1
          have hrd := hrd.drewN 1
          have hrf := hrf.drewN 1
          have hbw := below_drewN hbw 1
          have hcA := HCA.out
          have hcB := HCB.out
          go_wp2_with fail
          go_region_held3 (fun w' => w'.cell? ⟨wr.heap.size, 1, none⟩ = some (.int .i64 X) ∧ w'.cell? ⟨wr.heap.size, 2, none⟩ = some (.int .i64 Y)) (first | (exact ⟨by assumption, by assumption⟩) | go_keep)
            (first
              | (go_at_call 18; refine (rd_within (givenAt_some hrd) X Y hlb).mono ?_; rintro y w3 ⟨rfl, hrd3, hg3⟩; have hrf := hrf.kept hg3 hne; have hbw := below_row hbw hg3 hwr hsz0; have hrx := hrx.grown hg3 hwr hsz0; have hsz0 := Nat.le_trans hsz0 hg3.size; have k1 := hg3.cell HCA.out hnd; have k2 := hg3.cell HCB.out hnd)
              | (go_at_call 19; refine (rf_within hrf hrx ha X Y hb6).mono ?_; rintro y w4 ⟨rfl, a1, ha1, hla, hrf, hg4⟩; rw [hla] at hrd3; have hrd := hrd3.kept hg4 hne'; have hbw := below_row hbw hg4 hwm hsz0; have k3 := hg4.cell k1 hnm; have k4 := hg4.cell k2 hnm))
          clear k1 k2 k3 k4 hrx
          obtain ⟨c0, c1, c2, z0, z1, z2⟩ := hrf.cells
          have HRD := Lib.hid hrd
          have HRF := Lib.hid hrf
          have HBW := Lib.hid hbw
          have hn63 : (b.length : Int) ≤ 300 := by omega
          have ha63 : (a1 : Int) ≤ b.length := by omega
          have hlen : (b.length : Int) - a1 = (b.drop a1).length := by rw [List.length_drop]; omega
          have HL := Lib.hid hlen
          clear hrd hrf hbw hlen
          go_wp2_with fail
          go_quiet ((first
            | (go_at_call 24; exact Calls.quiet_of_same (look_err (HRD.out.drewN _)))
            | (go_at_call 16; exact Calls.quiet_of_same (look_left (HRD.out.drewN _) _ HL.out))
            | (go_at_call 15; exact Calls.quiet_of_same (look_end (HRD.out.drewN _)))
            | (go_at_call 25; exact Calls.quiet_of (look_rf_end (HRF.out.drewN _)))))
          clear c0 c1 c2 z0 z1 z2
          go_wp2
          go_roundw
          case rel => exact ⟨k + 1, a1, _, by omega, ha1, by go_num, HRD.out.drewN _, HRF.out.drewN _, below_drewN HBW.out _⟩
          case measure => simp [intOf]; omega
        · have h2' : (K == 2) = false := by simpa using h2
          by_cases h3 : K = 3
          · subst h3
            by_cases hq : (withinR 0 1 (b.drop a) e).1 = 1
            · have hB := rd_bool (givenAt_some hrd) hlb
              have hW := fun w3 hrf hrx => rf_within (w := w3) (m := mb) (B := w.heap.size) (a := a) (c := c) (A := A) (b := b) (e := e) hrf hrx ha 0 1 hb6
              rw [show boolR (b.drop a) e = true from by unfold boolR; simp [hq]] at hB
              rw [hq] at hW
              clear hq
              go_wp2_with fail
              refine (hB).mono ?_; rintro y w3 ⟨rfl, hrd3, hg3⟩
              have k1 := hg3.cell HCA.out hnd
              have hrf := hrf.kept hg3 hne
              have hbw := below_row hbw hg3 hwr hsz0
              have hrx := hrx.grown hg3 hwr hsz0
              have hsz0 := Nat.le_trans hsz0 hg3.size
              go_wp2_with fail
              refine (hW _ hrf hrx).mono ?_; rintro y w4 ⟨rfl, a1, ha1, hla, hrf, hg4⟩
              rw [hla] at hrd3
              have hrd := hrd3.kept hg4 hne'
              have hbw := below_row hbw hg4 hwm hsz0
              clear hB hW hrd3 hg3 hg4 hrx hla k1
              obtain ⟨c0, c1, c2, z0, z1, z2⟩ := hrf.cells
              have HRD := Lib.hid hrd
              have HRF := Lib.hid hrf
              have HBW := Lib.hid hbw
              have hn63 : (b.length : Int) ≤ 300 := by omega
              have ha63 : (a1 : Int) ≤ b.length := by omega
              have hlen : (b.length : Int) - a1 = (b.drop a1).length := by rw [List.length_drop]; omega
              have HL := Lib.hid hlen
              clear hrd hrf hbw hlen
              go_wp2_with fail
              go_quiet ((first
                | (go_at_call 24; exact Calls.quiet_of_same (look_err (HRD.out.drewN _)))
                | (go_at_call 16; exact Calls.quiet_of_same (look_left (HRD.out.drewN _) _ HL.out))
                | (go_at_call 15; exact Calls.quiet_of_same (look_end (HRD.out.drewN _)))
                | (go_at_call 25; exact Calls.quiet_of (look_rf_end (HRF.out.drewN _)))))
              clear c0 c1 c2 z0 z1 z2
              go_wp2
              go_roundw
              case rel => exact ⟨k + 1, a1, _, by omega, ha1, by go_num, HRD.out.drewN _, HRF.out.drewN _, below_drewN HBW.out _⟩
              case measure => simp [intOf]; omega
            · have hB := rd_bool (givenAt_some hrd) hlb
              have hW := fun w3 hrf hrx => rf_within (w := w3) (m := mb) (B := w.heap.size) (a := a) (c := c) (A := A) (b := b) (e := e) hrf hrx ha 0 1 hb6
              rw [show boolR (b.drop a) e = false from by unfold boolR; simp [hq]] at hB
              obtain ⟨q, hqq⟩ : ∃ q, (withinR 0 1 (b.drop a) e).1 = q := ⟨_, rfl⟩
              rw [hqq] at hq hW
              have hq' : ((q : Int) == 1) = false := by simp; omega
              clear hq hqq
              go_wp2_with fail
              refine (hB).mono ?_; rintro y w3 ⟨rfl, hrd3, hg3⟩
              have k1 := hg3.cell HCA.out hnd
              have hrf := hrf.kept hg3 hne
              have hbw := below_row hbw hg3 hwr hsz0
              have hrx := hrx.grown hg3 hwr hsz0
              have hsz0 := Nat.le_trans hsz0 hg3.size
              go_wp2_with fail
              refine (hW _ hrf hrx).mono ?_; rintro y w4 ⟨rfl, a1, ha1, hla, hrf, hg4⟩
              rw [hla] at hrd3
              have hrd := hrd3.kept hg4 hne'
              have hbw := below_row hbw hg4 hwm hsz0
              clear hB hW hrd3 hg3 hg4 hrx hla k1
              obtain ⟨c0, c1, c2, z0, z1, z2⟩ := hrf.cells
              have HRD := Lib.hid hrd
              have HRF := Lib.hid hrf
              have HBW := Lib.hid hbw
              have hn63 : (b.length : Int) ≤ 300 := by omega
              have ha63 : (a1 : Int) ≤ b.length := by omega
              have hlen : (b.length : Int) - a1 = (b.drop a1).length := by rw [List.length_drop]; omega
              have HL := Lib.hid hlen
              clear hrd hrf hbw hlen
              go_wp2_with fail
              go_quiet ((first
                | (go_at_call 24; exact Calls.quiet_of_same (look_err (HRD.out.drewN _)))
                | (go_at_call 16; exact Calls.quiet_of_same (look_left (HRD.out.drewN _) _ HL.out))
                | (go_at_call 15; exact Calls.quiet_of_same (look_end (HRD.out.drewN _)))
                | (go_at_call 25; exact Calls.quiet_of (look_rf_end (HRF.out.drewN _)))))
              clear c0 c1 c2 z0 z1 z2
              go_wp2
              go_roundw
              case rel => exact ⟨k + 1, a1, _, by omega, ha1, by go_num, HRD.out.drewN _, HRF.out.drewN _, below_drewN HBW.out _⟩
              case measure => simp [intOf]; omega
          · have h3' : (K == 3) = false := by simpa using h3
            by_cases h4 : K = 4
            · subst h4
              have hrx := hrx.drewN 1
              have hrd := hrd.drewN 1
              have hrf := hrf.drewN 1
              have hbw := below_drewN hbw 1
              have hcA := HCA.out
              have hcB := HCB.out
              go_wp2_with fail
              go_region_held3 (fun w' => w'.cell? ⟨wr.heap.size, 1, none⟩ = some (.int .i64 X) ∧ w'.cell? ⟨wr.heap.size, 2, none⟩ = some (.int .i64 Y)) (first | (exact ⟨by assumption, by assumption⟩) | go_keep)
                (first
                  | (go_at_call 14; refine (rd_text (givenAt_some hrd) X hlb).mono ?_; rintro y w3 ⟨rfl, hrd3, hg3⟩; have hrf := hrf.kept hg3 hne; have hbw := below_row hbw hg3 hwr hsz0; have hrx := hrx.grown hg3 hwr hsz0; have hsz0 := Nat.le_trans hsz0 hg3.size; have k1 := hg3.cell HCA.out hnd; have k2 := hg3.cell HCB.out hnd)
                  | (go_at_call 21; refine (rf_text hrf hrx ha hwm X hb6).mono ?_; rintro y w4 ⟨rfl, a1, ha1, hla, hrf, hg4⟩; rw [hla] at hrd3; have hrd := hrd3.kept hg4 hne'; have hbw := below_row hbw hg4 hwm hsz0; have k3 := hg4.cell k1 hnm; have k4 := hg4.cell k2 hnm))
              clear k1 k2 k3 k4 hrx
              obtain ⟨c0, c1, c2, z0, z1, z2⟩ := hrf.cells
              have HRD := Lib.hid hrd
              have HRF := Lib.hid hrf
              have HBW := Lib.hid hbw
              have hn63 : (b.length : Int) ≤ 300 := by omega
              have ha63 : (a1 : Int) ≤ b.length := by omega
              have hlen : (b.length : Int) - a1 = (b.drop a1).length := by rw [List.length_drop]; omega
              have HL := Lib.hid hlen
              clear hrd hrf hbw hlen
              go_wp2_with fail
              go_quiet ((first
                | (go_at_call 24; exact Calls.quiet_of_same (look_err (HRD.out.drewN _)))
                | (go_at_call 16; exact Calls.quiet_of_same (look_left (HRD.out.drewN _) _ HL.out))
                | (go_at_call 15; exact Calls.quiet_of_same (look_end (HRD.out.drewN _)))
                | (go_at_call 25; exact Calls.quiet_of (look_rf_end (HRF.out.drewN _)))))
              clear c0 c1 c2 z0 z1 z2
              go_wp2
              go_roundw
              case rel => exact ⟨k + 1, a1, _, by omega, ha1, by go_num, HRD.out.drewN _, HRF.out.drewN _, below_drewN HBW.out _⟩
              case measure => simp [intOf]; omega
            · have h4' : (K == 4) = false := by simpa using h4
              clear h1 h2 h3 h4
              obtain ⟨e2, he2⟩ : ∃ e2, e2 = if e = 0 then X else e := ⟨_, rfl⟩
              have HE2 := Lib.hid he2
              clear he2
              go_wp2_with fail
              refine (rd_fail (givenAt_some hrd) X e2 HE2.out).mono ?_; rintro y w3 ⟨rfl, hrd3, hg3⟩
              have k1 := hg3.cell HCA.out hnd
              have hrf := hrf.kept hg3 hne
              have hbw := below_row hbw hg3 hwr hsz0
              have hrx := hrx.grown hg3 hwr hsz0
              have hsz0 := Nat.le_trans hsz0 hg3.size
              go_wp2_with fail
              refine (rf_fail hrf ha X e2 HE2.out).mono ?_; rintro y w4 ⟨rfl, a1, ha1, hla, hrf, hg4⟩
              rw [hla] at hrd3
              have hrd := hrd3.kept hg4 hne'
              have hbw := below_row hbw hg4 hwm hsz0
              clear hrd3 hg3 hg4 hrx hla k1
              obtain ⟨c0, c1, c2, z0, z1, z2⟩ := hrf.cells
              have HRD := Lib.hid hrd
              have HRF := Lib.hid hrf
              have HBW := Lib.hid hbw
              have hn63 : (b.length : Int) ≤ 300 := by omega
              have ha63 : (a1 : Int) ≤ b.length := by omega
              have hlen : (b.length : Int) - a1 = (b.drop a1).length := by rw [List.length_drop]; omega
              have HL := Lib.hid hlen
              clear hrd hrf hbw hlen
              go_wp2_with fail
              go_quiet ((first
                | (go_at_call 24; exact Calls.quiet_of_same (look_err (HRD.out.drewN _)))
                | (go_at_call 16; exact Calls.quiet_of_same (look_left (HRD.out.drewN _) _ HL.out))
                | (go_at_call 15; exact Calls.quiet_of_same (look_end (HRD.out.drewN _)))
                | (go_at_call 25; exact Calls.quiet_of (look_rf_end (HRF.out.drewN _)))))
              clear c0 c1 c2 z0 z1 z2
              go_wp2
              go_roundw
              case rel => exact ⟨k + 1, a1, _, by omega, ha1, by go_num, HRD.out.drewN _, HRF.out.drewN _, below_drewN HBW.out _⟩
              case measure => simp [intOf]; omega
    · have hk' : k = l.length := by omega
      subst hk'
      clear hrd hrf hr hl hall
      have hsz0 : (⟨#[]⟩ : ByteArray).size = 0 := rfl
      go_wp2_with fail
      refine (nil_fail _ 2).mono ?_; rintro y w3 ⟨rfl, hg⟩
      have hbw := hbw.trans (hg.mono hbw.size)
      clear hg
      go_wp2_with fail
      refine (nil_number _).mono ?_; rintro y w4 ⟨rfl, hg⟩
      have hbw := hbw.trans (hg.mono hbw.size)
      clear hg
      go_wp2_with fail
      refine (nil_within _ 0 3).mono ?_; rintro y w5 ⟨rfl, hg⟩
      have hbw := hbw.trans (hg.mono hbw.size)
      clear hg
      go_wp2_with fail
      refine (nil_left _).mono ?_; rintro y w6 ⟨rfl, hg⟩
      have hbw := hbw.trans (hg.mono hbw.size)
      clear hg
      go_wp2_with fail
      refine (nil_text _ 4).mono ?_; rintro y w7 ⟨rfl, hg⟩
      have hbw := hbw.trans (hg.mono hbw.size)
      clear hg
      go_wp2_with fail
      refine (nil_bool _).mono ?_; rintro y w8 ⟨rfl, hg⟩
      have hbw := hbw.trans (hg.mono hbw.size)
      clear hg
      go_wp2_with fail
      refine (nil_err _).mono ?_; rintro y w9 ⟨rfl, hg⟩
      have hbw := hbw.trans (hg.mono hbw.size)
      clear hg
      go_wp2_with fail
      refine (nil_end _).mono ?_; rintro y w10 ⟨rfl, hg⟩
      have hbw := hbw.trans (hg.mono hbw.size)
      clear hg
      have HBW := Lib.hid hbw
      clear hbw
      go_wp2
      go_ret
      exact ⟨rfl, HBW.out⟩

set_option maxHeartbeats 1000000 in
theorem varintReads_out (A A2 : Option Addr) (n c n2 c2 : Nat) (w : World) (hn : n ≤ maxLen) (hn2 : n2 ≤ maxLen) (h : 300 < n ∨ 60 < n2) :
    Calls Try.prog 4 #[.slice A n c, .slice A2 n2 c2] w fun e w' => e = .returned (.bool true) ∧ Below w.heap.size w w' := by
  unfold maxLen at hn hn2
  by_cases h1 : 300 < n
  · go_enter Try.func4, Try.ntmps4
    go_wp2_with fail
    refine (awake02 _).mono ?_; rintro e w1 ⟨rfl, hb⟩
    go_wp2
    go_ret
    exact ⟨rfl, hb⟩
  · have h2 : 60 < n2 := by omega
    go_enter Try.func4, Try.ntmps4
    go_wp2_with fail
    refine (awake02 _).mono ?_; rintro e w1 ⟨rfl, hb⟩
    go_wp2
    go_ret
    exact ⟨rfl, hb⟩
theorem varintReads_walk (A A2 : Option Addr) (c c2 : Nat) (b : List UInt8) (l : List (Int × Int × Int)) (w : World) (hr : RdB w w.heap.size A c b) (hl : RowAt w w.heap.size A2 (dos l)) (hall : ∀ d ∈ l, DoOk d) (hlm : l.length ≤ maxLen) :
    Calls Try.prog 4 #[.slice A b.length c, .slice A2 l.length c2] w fun e w' => e = .returned (.bool true) ∧ Below w.heap.size w w' := by
  by_cases h : 300 < b.length ∨ 60 < l.length
  · exact varintReads_out A A2 _ c _ c2 w (Nat.le_trans hr.room hr.cap) hlm h
  · exact varintReads_in A A2 c c2 b l w hr hl hall (by omega) (by omega)
end Go.Proofs.Ytmpiklhgflnglaa
