/-
  Several texts in one: VarD, Eq, VarE, VarF, Cut, VarG, ShelfCmp, KeyA, KeyB, KeyC, KeyD, KeyE.
-/
import Derived.Deep.QuietTactic
import Derived.BigQuiet
import Derived.Lib.SliceRun
import Derived.Shelf.Small.Strs
import Derived.Test.YtohdncmlmpnfbaaProg
import Derived.Outline
import Derived.Deep.RegionHeld3
import Derived.BigRegion
import Derived.Test.YtohdncmlmpnfbaaMg2
/-
  The walks of the layer of numbers as bytes: the reader's calls, of one that is there and of one that is none.
-/
namespace Go.Proofs.Ytohdncmlmpnfbaa
open Go.RowKit

/-- The reader that pv points to (a new one that failed, if it points to none) lies at block b, and has the bytes l left, and the error e. -/
def GivenAt (pv : Value) (w : World) (b : Nat) (l : List UInt8) (e : Int) : Prop := Calls Try.prog 56 #[pv] w (RdPost w b (.pointer (some ⟨b, 0, none⟩)) l e)
theorem givenAt_some {w : World} {b : Nat} {l : List UInt8} {e : Int} (h : RdAt w b l e) : GivenAt (.pointer (some ⟨b, 0, none⟩)) w b l e :=
  (given_some _ w).mono fun _ _ ⟨hy, hw⟩ => by subst hw; exact ⟨hy, h, World.grownBy.refl _ _⟩
theorem givenAt_none (w : World) : GivenAt (.pointer none) w w.heap.size [] 1 :=
  (given_none w).mono fun _ _ ⟨hy, hr, hb⟩ => ⟨hy, hr, grown_of_below hb _⟩

set_option maxHeartbeats 400000 in
theorem rd_err {pv : Value} {w : World} {b : Nat} {l : List UInt8} {e : Int} (hv : GivenAt pv w b l e) :
    Calls Try.prog 86 #[pv] w (RdPost w b (.int .i64 e) l e) := by
  go_enter Try.func86, Try.ntmps86
  go_wp2_with fail
  refine Calls.mono hv ?_; rintro y w1 ⟨rfl, hr, hg⟩
  clear hv
  obtain ⟨c0, c1, z0, z1⟩ := hr.cells
  have H := Lib.hid hr
  clear hr
  go_wp2
  go_ret
  exact ⟨rfl, H.out, hg⟩

set_option maxHeartbeats 400000 in
theorem rd_end {pv : Value} {w : World} {b : Nat} {l : List UInt8} {e : Int} (hv : GivenAt pv w b l e) :
    Calls Try.prog 85 #[pv] w (RdPost w b (.int .i64 (endR l e)) l e) := by
  have hsz := str_toList l
  by_cases he : e = 0
  · by_cases hl : l = []
    · have fin : endR l e = 0 := by unfold endR; rw [if_neg (by simp [hl])]; exact he
      subst he
      rw [fin]
      have h1 : (str l).toList = [] := by rw [hsz]; exact hl
      have h2 : (str l).toList.isEmpty = true := by rw [h1]; rfl
      clear hl fin hsz
      go_enter Try.func85, Try.ntmps85
      go_wp2_with fail
      refine Calls.mono hv ?_; rintro y w1 ⟨rfl, hr, hg⟩
      clear hv
      obtain ⟨c0, c1, z0, z1⟩ := hr.cells
      have H := Lib.hid hr
      clear hr
      go_wp2
      go_ret
      exact ⟨rfl, H.out, hg⟩
    · have fin : endR l e = 14 := by unfold endR; rw [if_pos ⟨he, hl⟩]
      subst he
      rw [fin]
      have h1 : ((str l).toList == []) = false := by rw [hsz]; simp [hl]
      have h2 : (str l).toList.isEmpty = false := by rw [hsz]; simp [hl]
      clear hl fin hsz
      go_enter Try.func85, Try.ntmps85
      go_wp2_with fail
      refine Calls.mono hv ?_; rintro y w1 ⟨rfl, hr, hg⟩
      clear hv
      obtain ⟨c0, c1, z0, z1⟩ := hr.cells
      have H := Lib.hid hr
      clear hr
      go_wp2
      go_ret
      exact ⟨rfl, H.out, hg⟩
  · have fin : endR l e = e := by unfold endR; rw [if_neg (by simp [he])]
    rw [fin]
    have h1 : (e == 0) = false := by simpa using he
    clear fin hsz
    go_enter Try.func85, Try.ntmps85
    go_wp2_with fail
    refine Calls.mono hv ?_; rintro y w1 ⟨rfl, hr, hg⟩
    clear hv
    obtain ⟨c0, c1, z0, z1⟩ := hr.cells
    have H := Lib.hid hr
    clear hr
    go_wp2
    go_ret
    exact ⟨rfl, H.out, hg⟩

set_option maxHeartbeats 1000000 in
theorem rd_within {pv : Value} {w : World} {b : Nat} {l : List UInt8} {e : Int} (hv : GivenAt pv w b l e) (lo hi : Int) (hl : l.length ≤ 9223372036854775807) :
    Calls Try.prog 49 #[pv, .int .i64 lo, .int .i64 hi] w (RdPost w b (.int .i64 (withinR lo hi l e).1) (withinR lo hi l e).2.1 (withinR lo hi l e).2.2) := by
  obtain ⟨n, hn⟩ : ∃ n, (numR l e).1 = n := ⟨_, rfl⟩
  obtain ⟨l1, hl1⟩ : ∃ l1, (numR l e).2.1 = l1 := ⟨_, rfl⟩
  obtain ⟨e1, he1⟩ : ∃ e1, (numR l e).2.2 = e1 := ⟨_, rfl⟩
  have hnum := fun w1 hr => numbers_number b l e w1 hr hl
  rw [hn, hl1, he1] at hnum
  by_cases hin : (n : Int) < lo ∨ hi < (n : Int)
  · have fin : withinR lo hi l e = (0, l, if e1 = 0 then 11 else e1) := by unfold withinR; rw [hn, he1, if_pos hin]
    obtain ⟨e2, he2⟩ : ∃ e2, e2 = if e1 = 0 then 11 else e1 := ⟨_, rfl⟩
    rw [fin, ← he2]
    have HE2 := Lib.hid he2
    clear hn hl1 he1 fin he2
    by_cases h1 : (n : Int) < lo
    all_goals
      go_enter Try.func49, Try.ntmps49
      go_wp2_with fail
      refine Calls.mono hv ?_; rintro y w1 ⟨rfl, hr, hg⟩
      clear hv
      obtain ⟨c0, c1, z0, z1⟩ := hr.cells
      have H := Lib.hid hr
      clear hr
      go_wp2_with fail
      refine (hnum w1 H.out).mono ?_; rintro y w2 ⟨rfl, hr2, hg2⟩
      clear hnum c0 c1 z0 z1
      have HU := Lib.hid (numbers_undo b l1 l e1 11 e2 w2 hr2 HE2.out)
      clear hr2
      have h2 : ¬ (n : Int) < lo → hi < (n : Int) := fun h => by omega
      go_wp2_with fail
      refine HU.out.mono ?_; rintro y w3 ⟨rfl, hr3, hg3⟩
      go_wp2
      go_ret
      exact ⟨rfl, hr3, (hg.trans hg2).trans hg3⟩
  · have fin : withinR lo hi l e = (n, l1, e1) := by unfold withinR; rw [hn, if_neg hin, ← hn, ← hl1, ← he1]
    rw [fin]
    clear hn hl1 he1 fin
    have h1 : ¬ (n : Int) < lo := by omega
    have h2 : ¬ hi < (n : Int) := by omega
    clear hin
    go_enter Try.func49, Try.ntmps49
    go_wp2_with fail
    refine Calls.mono hv ?_; rintro y w1 ⟨rfl, hr, hg⟩
    clear hv
    obtain ⟨c0, c1, z0, z1⟩ := hr.cells
    have H := Lib.hid hr
    clear hr
    go_wp2_with fail
    refine (hnum w1 H.out).mono ?_; rintro y w2 ⟨rfl, hr2, hg2⟩
    clear hnum c0 c1 z0 z1
    have H2 := Lib.hid hr2
    clear hr2
    go_wp2
    go_ret
    exact ⟨rfl, H2.out, hg.trans hg2⟩

def boolR (l : List UInt8) (e : Int) : Bool := decide ((withinR 0 1 l e).1 = 1)
set_option maxHeartbeats 400000 in
theorem rd_bool {pv : Value} {w : World} {b : Nat} {l : List UInt8} {e : Int} (hv : GivenAt pv w b l e) (hl : l.length ≤ 9223372036854775807) :
    Calls Try.prog 46 #[pv] w (RdPost w b (.bool (boolR l e)) (withinR 0 1 l e).2.1 (withinR 0 1 l e).2.2) := by
  have hw := rd_within hv 0 1 hl
  have hb : boolR l e = decide ((withinR 0 1 l e).1 = 1) := rfl
  generalize boolR l e = r at *
  obtain ⟨n, hn⟩ : ∃ n, (withinR 0 1 l e).1 = n := ⟨_, rfl⟩
  rw [hn] at hw hb
  generalize (withinR 0 1 l e).2.1 = l1 at *
  generalize (withinR 0 1 l e).2.2 = e1 at *
  clear hn hv
  by_cases h1 : n = 1
  · subst h1
    obtain rfl : r = true := by rw [hb]; rfl
    clear hb
    go_enter Try.func46, Try.ntmps46
    go_wp2_with fail
    refine hw.mono ?_; rintro y w1 ⟨rfl, hr, hg⟩
    clear hw
    go_wp2
    go_ret
    exact ⟨rfl, hr, hg⟩
  · obtain rfl : r = false := by rw [hb]; simpa using h1
    clear hb
    have h2 : ((n : Int) == 1) = false := by simp; omega
    go_enter Try.func46, Try.ntmps46
    go_wp2_with fail
    refine hw.mono ?_; rintro y w1 ⟨rfl, hr, hg⟩
    clear hw
    go_wp2
    go_ret
    exact ⟨rfl, hr, hg⟩

set_option maxHeartbeats 1000000 in
theorem rd_text {pv : Value} {w : World} {b : Nat} {l : List UInt8} {e : Int} (hv : GivenAt pv w b l e) (most : Int) (hl : l.length ≤ 9223372036854775807) :
    Calls Try.prog 45 #[pv, .int .i64 most] w (RdPost w b (.string (str (textR most l e).1)) (textR most l e).2.1 (textR most l e).2.2) := by
  have hlen1 := withinR_len 0 most l e
  obtain ⟨n, hn⟩ : ∃ n, (withinR 0 most l e).1 = n := ⟨_, rfl⟩
  obtain ⟨l1, hl1⟩ : ∃ l1, (withinR 0 most l e).2.1 = l1 := ⟨_, rfl⟩
  obtain ⟨e1, he1⟩ : ∃ e1, (withinR 0 most l e).2.2 = e1 := ⟨_, rfl⟩
  have hwi := fun w1 (hr : RdAt w1 b l e) => rd_within (givenAt_some hr) 0 most hl
  have hdef : textR most l e = if l1.length < n then ([], l, if e1 = 0 then 10 else e1) else (l1.take n, l1.drop n, e1) := by unfold textR; rw [hn, hl1, he1]
  rw [hn, hl1, he1] at hwi
  rw [hl1] at hlen1
  rw [hdef]
  clear hdef hn hl1 he1
  have hsz := str_size l1
  have hs63 : (str l1).size ≤ 9223372036854775807 := by omega
  by_cases hin : l1.length < n
  · rw [if_pos hin]
    obtain ⟨e2, he2⟩ : ∃ e2, e2 = if e1 = 0 then 10 else e1 := ⟨_, rfl⟩
    rw [← he2]
    have HE2 := Lib.hid he2
    have h1 : (str l1).size < n := by omega
    clear he2 hin hsz
    go_enter Try.func45, Try.ntmps45
    go_wp2_with fail
    refine Calls.mono hv ?_; rintro y w1 ⟨rfl, hr, hg⟩
    clear hv
    obtain ⟨c0, c1, z0, z1⟩ := hr.cells
    have H := Lib.hid hr
    clear hr
    go_wp2_with fail
    refine (hwi w1 H.out).mono ?_; rintro y w2 ⟨rfl, hr2, hg2⟩
    clear hwi c0 c1 z0 z1
    obtain ⟨c0, c1, z0, z1⟩ := hr2.cells
    have HU := Lib.hid (numbers_undo b l1 l e1 10 e2 w2 hr2 HE2.out)
    clear hr2
    go_wp2_with fail
    refine HU.out.mono ?_; rintro y w3 ⟨rfl, hr3, hg3⟩
    clear c0 c1 z0 z1
    go_wp2
    go_ret
    exact ⟨rfl, hr3, (hg.trans hg2).trans hg3⟩
  · rw [if_neg hin]
    have h1 : n ≤ (str l1).size := by omega
    have HT := Lib.hid (str_take l1 n)
    have hd := str_drop l1 n
    rw [← hsz] at hd
    have HD := Lib.hid hd
    clear hd hin hsz
    go_enter Try.func45, Try.ntmps45
    go_wp2_with fail
    refine Calls.mono hv ?_; rintro y w1 ⟨rfl, hr, hg⟩
    clear hv
    obtain ⟨c0, c1, z0, z1⟩ := hr.cells
    have H := Lib.hid hr
    clear hr
    go_wp2_with fail
    refine (hwi w1 H.out).mono ?_; rintro y w2 ⟨rfl, hr2, hg2⟩
    clear hwi c0 c1 z0 z1
    obtain ⟨c0, c1, z0, z1⟩ := hr2.cells
    have H2 := Lib.hid hr2
    clear hr2
    go_wp2
    go_ret
    refine ⟨?_, ?_, (hg.trans hg2).trans (grownBy_set _ _ _ _)⟩
    · rw [← HT.out]; rfl
    · rw [HD.out]; exact H2.out.setText _
end Go.Proofs.Ytohdncmlmpnfbaa

/-
  The document's own answer whether two lists of bytes are the same (winnowerref01.Bytes), walked.
-/
namespace Go.Proofs.Ytohdncmlmpnfbaa
open Go.RowKit

def EqPost (a b : List UInt8) (w : World) (e : Ending) (w' : World) : Prop := e = .returned (.bool (decide (a = b))) ∧ ∃ n, w' = w.drewN n
theorem EqPost.no {a b : List UInt8} {w : World} {n : Nat} (h : a ≠ b) : EqPost a b w (.returned (.bool false)) (w.drewN n) := ⟨by simp [h], n, rfl⟩
theorem EqPost.yes {a b : List UInt8} {w : World} {n : Nat} (h : a = b) : EqPost a b w (.returned (.bool true)) (w.drewN n) := ⟨by simp [h], n, rfl⟩
set_option maxHeartbeats 400000 in
theorem ref_eq (A A2 : Option Addr) (c c2 n1 n2 B B2 : Nat) (a b : List UInt8) (w : World) (hn1 : n1 = a.length) (hn2 : n2 = b.length) (ha : RowAt w B A (bytes a)) (hb : RowAt w B2 A2 (bytes b)) (hl : a.length ≤ 9223372036854775807) :
    Calls Try.prog 11 #[.slice A n1 c, .slice A2 n2 c2] w (EqPost a b w) := by
  subst hn1 hn2
  by_cases hne : a.length = b.length
  · have HNE := Lib.hid hne
    have hne2 : b.length = a.length := by omega
    obtain ⟨n, hn⟩ : ∃ n, a.length = n := ⟨_, rfl⟩
    have hbn : b.length = n := by omega
    rw [hbn, hn]
    have HA := Lib.hid hn
    have HB := Lib.hid hbn
    rw [hn] at hl
    clear hne hne2 hn hbn
    go_enter Try.func11, Try.ntmps11
    go_wp2
    go_loopw [5] (fun i wr => ∃ k m : Nat, k ≤ n ∧ a.take k = b.take k ∧ i = .int .i64 k ∧ wr = w.drewN m) (fun i _ => n - (intOf i).toNat)
    case atStart => exact ⟨0, 0, by omega, rfl, rfl, rfl⟩
    case round =>
      obtain ⟨k, m, hk, heq, rfl, rfl⟩ := hrel
      have HEQ := Lib.hid heq
      clear heq
      by_cases hlt : k < n
      · obtain ⟨b1, o1, rfl, _, hc1⟩ := ha.bytes_at (by rw [HA.out]; omega)
        obtain ⟨b2, o2, rfl, _, hc2⟩ := hb.bytes_at (by rw [HB.out]; omega)
        have c1 := hc1 k (by rw [HA.out]; omega)
        have c2 := hc2 k (by rw [HB.out]; omega)
        have HT1 := Lib.hid (take_snoc_getD a k (by rw [HA.out]; omega))
        have HT2 := Lib.hid (take_snoc_getD b k (by rw [HB.out]; omega))
        have HN : Hid (a.getD k 0 ≠ b.getD k 0 → a ≠ b) := take_ne
        clear hc1 hc2
        obtain ⟨x, hx⟩ : ∃ x, a.getD k 0 = x := ⟨_, rfl⟩
        obtain ⟨y, hy⟩ : ∃ y, b.getD k 0 = y := ⟨_, rfl⟩
        rw [hx] at c1 HT1 HN
        rw [hy] at c2 HT2 HN
        clear hx hy
        by_cases hxy : x = y
        · subst hxy
          have nx : Hid (a.take (k + 1) = b.take (k + 1)) := by rw [HT1.out, HT2.out, HEQ.out]; exact rfl
          clear HN
          go_wp2
          go_quiet (fail)
          go_wp2
          go_roundw
          case rel => exact ⟨k + 1, _, by omega, nx.out, by go_num, rfl⟩
          case measure => simp [intOf]; omega
        · have fin := Lib.hid (HN.out hxy)
          have hxy' : ((x.toNat : Int) == y.toNat) = false := by
            simp only [beq_eq_false_iff_ne, ne_eq]
            intro h
            exact hxy (UInt8.toNat_inj.1 (by omega))
          clear HN hxy
          go_wp2
          go_quiet (fail)
          go_wp2
          go_ret
          exact ⟨by rw [decide_eq_false fin.out]; rfl, _, World.drewN_drewN ..⟩
      · obtain rfl : k = n := by omega
        have fin : Hid (a = b) := by
          have h := HEQ.out
          rw [List.take_of_length_le (by rw [HA.out]; omega), List.take_of_length_le (by rw [HB.out]; omega)] at h
          exact h
        go_wp2
        go_ret
        exact .yes fin.out
  · have fin : a ≠ b := fun e => hne (by rw [e])
    have FIN := Lib.hid fin
    have hne' : ((a.length : Int) == b.length) = false := by simp; omega
    clear fin hne
    go_enter Try.func11, Try.ntmps11
    go_wp2
    go_ret
    exact EqPost.no (n := 0) FIN.out
theorem eq_same (w : World) (A : Option Addr) (c n B g : Nat) (l : List UInt8) (cs : Array Value) (t : TypeId) (h : RdB w B A c l) (hg : w.heap[g]? = some (.cells cs t (0, 0))) (hl : cs.toList = bytes l) (hn : n = l.length) (hm : l.length ≤ 1000000) :
    Calls Try.prog 11 #[.slice A n c, .slice (some ⟨g, 0, none⟩) n n] w fun e w' => e = .returned (.bool true) ∧ w.grownBy w' none := by
  refine (ref_eq A (some ⟨g, 0, none⟩) c n n n B w.heap.size l l w hn hn h.row (rdB_block (n := n) hg hl hn hm).row (by omega)).mono fun e w' hp => ?_
  obtain ⟨h1, k, h2⟩ := hp
  exact ⟨by rw [h1]; simp, grown_quiet h2⟩
theorem ref_eq_same (A A2 : Option Addr) (c c2 m1 m2 B B2 : Nat) (a : List UInt8) (w : World) (hn1 : m1 = a.length) (hn2 : m2 = a.length) (ha : RowAt w B A (bytes a)) (hb : RowAt w B2 A2 (bytes a)) (hl : a.length ≤ 9223372036854775807) :
    Calls Try.prog 11 #[.slice A m1 c, .slice A2 m2 c2] w fun e w' => e = .returned (.bool true) ∧ w.grownBy w' none :=
  (ref_eq A A2 c c2 m1 m2 B B2 a a w hn1 hn2 ha hb hl).mono fun _ _ ⟨h1, _, h2⟩ => ⟨by rw [h1]; simp, grown_quiet h2⟩
end Go.Proofs.Ytohdncmlmpnfbaa

/-
  The walks of the document's own answers for numbers as bytes.
-/
namespace Go.Proofs.Ytohdncmlmpnfbaa
open Go.RowKit

theorem ref_vright (n : Int) (w : World) : Calls Try.prog 60 #[.int .i64 n] w fun e w' => e = .returned (.bool (okN n)) ∧ w = w' := by
  have hd : okN n = decide (0 ≤ n ∧ n ≤ 281474976710656) := rfl
  generalize okN n = r at *
  by_cases h1 : 0 ≤ n
  · by_cases h2 : n ≤ 281474976710656
    · obtain rfl : r = true := by rw [hd]; simp [h1, h2]
      clear hd
      go_enter Try.func60, Try.ntmps60
      go_wp2
      go_ret
      exact ⟨rfl, rfl⟩
    · obtain rfl : r = false := by rw [hd]; simp [h2]
      clear hd
      go_enter Try.func60, Try.ntmps60
      go_wp2
      go_ret
      exact ⟨rfl, rfl⟩
  · obtain rfl : r = false := by rw [hd]; simp [h1]
    clear hd
    go_enter Try.func60, Try.ntmps60
    go_wp2
    go_ret
    exact ⟨rfl, rfl⟩

set_option maxHeartbeats 400000 in
set_option maxRecDepth 100000 in
theorem ref_bytes (k : Nat) : ∀ (n : Nat) (w : World), n ≤ k → n ≤ 9223372036854775807 → Calls Try.prog 30 #[.int .i64 (n : Int)] w (RetB w.heap.size w (putV n)) := by
  induction k with
  | zero =>
    intro n w hk hn
    obtain rfl : n = 0 := by omega
    have ho := own_one w 0 0 rfl
    have HO := Lib.hid ho
    have HP := Lib.hid (putV_small (n := 0) (by omega))
    clear ho
    go_enter Try.func30, Try.ntmps30
    go_wp2_with fail
    go_ret
    exact ⟨_, rfl, by rw [HP.out]; exact HO.out, (Below.refl _ _).alloc (Nat.le_refl _) _⟩
  | succ k ih =>
    intro n w hk hn
    by_cases hlt : n < 128
    · have HO := Lib.hid (own_one w (n : Int) (UInt8.ofNat n) (by simp; omega))
      have HP := Lib.hid (putV_small hlt)
      go_enter Try.func30, Try.ntmps30
      go_wp2_with fail
      go_ret
      exact ⟨_, rfl, by rw [HP.out]; exact HO.out, (Below.refl _ _).alloc (Nat.le_refl _) _⟩
    · have HO := Lib.hid (own_one w (128 + (n : Int) % 128) (UInt8.ofNat (n % 128 + 128)) (by simp; omega))
      have HP := Lib.hid (putV_big hlt)
      have hlen := putV_len10 (n / 128) (by omega)
      have hih := fun w1 => ih (n / 128) w1 (by omega) (by omega)
      have e1 : ((n / 128 : Nat) : Int) = (n : Int) / 128 := by omega
      rw [e1] at hih
      clear e1 hk
      go_enter Try.func30, Try.ntmps30
      go_wp2_with fail
      refine (hih _).mono ?_; rintro e w1 ⟨v1, rfl, hown1, hb1⟩
      clear hih
      have ho1 := HO.out.below hb1
      obtain ⟨A1, c1, rfl, hr1⟩ := hown1.read
      have hl1 : [UInt8.ofNat (n % 128 + 128)].length + (putV (n / 128)).length ≤ 140737488355328 := by simp; omega
      have hbb := ((Below.refl w.heap.size w).alloc (Nat.le_refl _) (.cells #[.int .u8 (128 + (n : Int) % 128)] 5)).trans (hb1.mono (by simp))
      have hs1 := hbb.size
      have HB := Lib.hid hbb
      clear hown1 hbb hb1 HO
      go_wp2_with (at_builtin; refine wpList_app_row rfl (.tmp 12) (.tmp 15) rfl w.heap.size _ [UInt8.ofNat (n % 128 + 128)] rfl ho1 _ A1 c1 _ (putV (n / 128)) rfl rfl hr1.row hl1 hs1 ?_; intro v2 w2 hown2 _ hb2 _)
      go_ret
      exact ⟨v2, rfl, by rw [HP.out]; exact hown2, HB.out.trans hb2⟩

end Go.Proofs.Ytohdncmlmpnfbaa

/-
  The walks of the document's own reader.
-/
namespace Go.Proofs.Ytohdncmlmpnfbaa
open Go.RowKit

theorem right_no (n : Int) (w : World) (h : okN n = false) : Calls Try.prog 60 #[.int .i64 n] w fun e w' => e = .returned (.bool false) ∧ w = w' := by rw [← h]; exact ref_vright n w
theorem right_yes (n : Int) (w : World) (h : okN n = true) : Calls Try.prog 60 #[.int .i64 n] w fun e w' => e = .returned (.bool true) ∧ w = w' := by rw [← h]; exact ref_vright n w

def CutPost (l : List UInt8) (w : World) (e : Ending) (w' : World) : Prop := e = .returned (.tuple #[.int .i64 (cutV l).1, .int .i64 (cutV l).2.1, .int .i64 (cutV l).2.2]) ∧ w = w'
theorem CutPost.mk {l : List UInt8} {w : World} {a b c : Nat} (h : cutV l = (a, b, c)) : CutPost l w (.returned (.tuple #[.int .i64 a, .int .i64 b, .int .i64 c])) w := by unfold CutPost; rw [h]; exact ⟨rfl, rfl⟩

set_option maxHeartbeats 1000000 in
set_option maxRecDepth 100000 in
theorem ref_number (A : Option Addr) (n c B : Nat) (l : List UInt8) (w : World) (hn : n = l.length) (hr : RowAt w B A (bytes l)) (hl : l.length ≤ 9223372036854775807) :
    Calls Try.prog 50 #[.slice A n c] w (CutPost l w) := by
  subst hn
  go_enter Try.func50, Try.ntmps50
  go_wp2
  go_loop [5] (fun i => ∃ k : Nat, k ≤ l.length ∧ k ≤ 8 ∧ Lead l k ∧ i = .int .i64 k) (fun i => 8 - (intOf i).toNat)
  case atStart => exact ⟨0, by omega, by omega, Lead.zero l, rfl⟩
  case round =>
    obtain ⟨k, hk, hk8, hlead, rfl⟩ := hrel
    have HL := Lib.hid hlead
    clear hlead
    by_cases h8 : k = 8
    · subst h8
      have fin := Lib.hid (cut_eight HL.out)
      by_cases h9 : l.length = 8
      · have h9' : l.length ≤ 8 := by omega
        clear h9
        go_wp2
        go_ret3
        exact CutPost.mk (a := 0) (b := 0) (c := 11) fin.out
      · have h9' : 8 < l.length := by omega
        clear h9
        go_wp2
        go_ret3
        exact CutPost.mk (a := 0) (b := 0) (c := 11) fin.out
    · by_cases hlt : k < l.length
      · have hk7 : k < 8 := by omega
        obtain ⟨b0, o0, rfl, _, hc⟩ := hr.bytes_at (by omega)
        have hcell := hc k hlt
        have NX := fun h => Lib.hid (HL.out.next hlt h)
        have FB := fun h1 h2 => Lib.hid (cut_bad HL.out hlt hk7 h1 h2)
        have FG := fun h1 h2 => Lib.hid (cut_good HL.out hlt hk7 h1 h2)
        have HC := Lib.hid hc
        obtain ⟨x, hx⟩ : ∃ x, l.getD k 0 = x := ⟨_, rfl⟩
        rw [hx] at hcell NX FB FG
        clear hc hx h8
        by_cases h1 : 128 ≤ x.toNat
        · have nx := NX h1
          clear NX FB FG
          go_wp2
          go_round
          case rel => exact ⟨k + 1, by omega, by omega, nx.out, by go_num⟩
          case measure => simp [intOf]; omega
        · have HLEN : (l.take (k + 1)).length = k + 1 := by rw [List.length_take]; omega
          have HLEN := Lib.hid HLEN
          have hkl : ((k : Int) == l.length) = false := by simp; omega
          have hk8' : ((k : Int) == 8) = false := by simp; omega
          clear NX
          go_wp2
          go_loop [6, 7] (fun n i => ∃ j : Nat, j ≤ k + 1 ∧ i = .int .i64 ((j : Int) - 1) ∧ n = .int .i64 (valV ((l.take (k + 1)).drop j) : Nat)) (fun _ i => (intOf i + 1).toNat)
          case atStart =>
            refine ⟨k + 1, by omega, by go_num, ?_⟩
            rw [List.drop_of_length_le (by rw [HLEN.out]; omega)]
            rfl
          case round =>
            obtain ⟨j, hj, rfl, rfl⟩ := hrel
            cases j with
            | zero =>
              have hv0 := valV_take_lt l (k + 1) (by omega)
              rw [List.drop_zero]
              generalize valV (l.take (k + 1)) = v at *
              by_cases h2 : 0 < k
              · by_cases h3 : x.toNat = 0
                · have fin := FB (by omega) (.inl ⟨h2, h3⟩)
                  obtain rfl : x = 0 := UInt8.toNat_inj.1 h3
                  clear FB FG h3
                  by_cases h4 : okN (v : Int) = true
                  · go_wp2_with (go_at_call 60; refine (right_yes _ _ h4).mono ?_; rintro e w' ⟨rfl, rfl⟩)
                    go_ret3
                    exact CutPost.mk (a := 0) (b := 0) (c := 11) fin.out
                  · have h4 : okN (v : Int) = false := by simpa using h4
                    go_wp2_with (go_at_call 60; refine (right_no _ _ h4).mono ?_; rintro e w' ⟨rfl, rfl⟩)
                    go_ret3
                    exact CutPost.mk (a := 0) (b := 0) (c := 11) fin.out
                · have h3' : ((x.toNat : Int) == 0) = false := by simpa using h3
                  by_cases h4 : v ≤ 281474976710656
                  · have fin := FG (by omega) (by omega)
                    have h5 : okN (v : Int) = true := by simp [okN]; omega
                    clear FB FG h3
                    go_wp2_with (go_at_call 60; refine (right_yes _ _ h5).mono ?_; rintro e w' ⟨rfl, rfl⟩)
                    go_ret3
                    exact CutPost.mk (a := v) (b := k + 1) (c := 0) fin.out
                  · have fin := FB (by omega) (.inr (by omega))
                    have h5 : okN (v : Int) = false := by simp [okN]; omega
                    clear FB FG h3
                    go_wp2_with (go_at_call 60; refine (right_no _ _ h5).mono ?_; rintro e w' ⟨rfl, rfl⟩)
                    go_ret3
                    exact CutPost.mk (a := 0) (b := 0) (c := 11) fin.out
              · by_cases h4 : v ≤ 281474976710656
                · have fin := FG (by omega) (by omega)
                  have h5 : okN (v : Int) = true := by simp [okN]; omega
                  clear FB FG
                  go_wp2_with (go_at_call 60; refine (right_yes _ _ h5).mono ?_; rintro e w' ⟨rfl, rfl⟩)
                  go_ret3
                  exact CutPost.mk (a := v) (b := k + 1) (c := 0) fin.out
                · have fin := FB (by omega) (.inr (by omega))
                  have h5 : okN (v : Int) = false := by simp [okN]; omega
                  clear FB FG
                  go_wp2_with (go_at_call 60; refine (right_no _ _ h5).mono ?_; rintro e w' ⟨rfl, rfl⟩)
                  go_ret3
                  exact CutPost.mk (a := 0) (b := 0) (c := 11) fin.out
            | succ j =>
              have hcj := HC.out j (by omega)
              have hvd := valV_drop (l.take (k + 1)) j (by rw [HLEN.out]; omega)
              have hg : (l.take (k + 1)).getD j 0 = l.getD j 0 := by
                rw [List.getD, List.getD, List.getElem?_take, if_pos (by omega)]
              have hlt2 : valV ((l.take (k + 1)).drop j) < 72057594037927936 := by
                have h1 := valV_lt ((l.take (k + 1)).drop j)
                have h2 : 128 ^ ((l.take (k + 1)).drop j).length ≤ 128 ^ 8 := Nat.pow_le_pow_right (by decide) (by rw [List.length_drop, HLEN.out]; omega)
                have h3 : 128 ^ 8 = 72057594037927936 := by decide
                omega
              rw [hg] at hvd
              have ej : (((j + 1 : Nat) : Int) - 1) = (j : Int) := by omega
              rw [ej]
              obtain ⟨y, hy⟩ : ∃ y, l.getD j 0 = y := ⟨_, rfl⟩
              obtain ⟨u, hu⟩ : ∃ u, valV ((l.take (k + 1)).drop (j + 1)) = u := ⟨_, rfl⟩
              obtain ⟨v, hv⟩ : ∃ v, valV ((l.take (k + 1)).drop j) = v := ⟨_, rfl⟩
              rw [hu]
              rw [hy] at hcj hvd
              rw [hu, hv] at hvd
              rw [hv] at hlt2
              have HV := Lib.hid hv
              have e2 : 128 * (u : Int) + (y.toNat : Int) % 128 = (v : Int) := by omega
              have hb1 : 128 * (u : Int) ≤ 72057594037927936 := by omega
              have hy0 : (0 : Int) ≤ y.toNat := by omega
              have hy1 : (y.toNat : Int) < 256 := by have := y.toNat_lt; omega
              clear hu hv hy hg hvd FB FG ej
              go_wp2
              go_round
              case rel => exact ⟨j, by omega, by go_num, by rw [HV.out]⟩
              case measure => simp [intOf]
      · obtain rfl : k = l.length := by omega
        have fin := Lib.hid (cut_short HL.out (by omega))
        have h8' : ((l.length : Int) == 8) = false := by simp; omega
        clear h8
        go_wp2
        go_ret3
        exact CutPost.mk (a := 0) (b := 0) (c := 10) fin.out
end Go.Proofs.Ytohdncmlmpnfbaa

/-
  Slices cut out of rows that are read: 'b[k:]', 'b[:k]', 'b[k:h]'.
-/
namespace Go.Proofs.Ytohdncmlmpnfbaa
open Go.RowKit

/-- Where 'b[k:]' begins. -/
def cutA (A : Option Addr) (k c : Nat) : Option Addr := if c = k then A else A.map (·.add k)
theorem run_cut {T E : TypeId} (ht : Try.prog.underlying T = some (.slice E)) (hs : ∀ w, (sizeOf E).run Try.prog w = .ok 1 w) (w : World) (A : Option Addr) (n c k : Nat) (hk : k ≤ n) :
    (Instr.slice T (.slice A n c) (some (.int .i64 (k : Int))) none none).run Try.prog w = .ok (.slice (cutA A k c) (n - k) (c - k)) w := by
  have ht' : Try.prog.underlying T = some (.slice (Try.prog.elem T)) := by simp [Program.elem, ht]
  have he : Try.prog.elem T = E := by simp [Program.elem, ht]
  rw [run_slice_l w T _ _ _ ht' .i64 _ (by omega) (by omega), he, hs]
  simp [Result.andThen, sliced, cutA]
theorem RowAt.cut {w : World} {B : Nat} {A : Option Addr} {l : List Value} {k c : Nat} (h : RowAt w B A l) (hk : k ≤ l.length) (hc : l.length ≤ c) : RowAt w B (cutA A k c) (l.drop k) := by
  unfold cutA
  split
  · left
    exact List.drop_of_length_le (by omega)
  · rcases h with h | ⟨b, o, rfl, h2, h3⟩
    · left; rw [h]; simp
    · refine .inr ⟨b, o + k, by simp [Go.WideShapes.add_plain], h2, fun j u hu => ?_⟩
      rw [Nat.add_assoc]
      exact h3 _ u (by rw [← hu, List.getElem?_drop])
theorem RowAt.drewN {w : World} {B : Nat} {A : Option Addr} {l : List Value} (h : RowAt w B A l) (k : Nat) : RowAt (w.drewN k) B A l := h
theorem RdB.cut {w : World} {B : Nat} {A : Option Addr} {c k : Nat} {l : List UInt8} (h : RdB w B A c l) (hk : k ≤ l.length) : RdB w B (cutA A k c) (c - k) (l.drop k) :=
  ⟨by have := RowAt.cut h.row (k := k) (c := c) (by simpa using hk) (by simpa using h.room)
      simpa [bytes] using this, by have := h.room; simp; omega, by have := h.cap; omega⟩
theorem byte_size (w : World) : (sizeOf 5).run Try.prog w = .ok 1 w := by kernel_rfl
theorem run_cut2 {T E : TypeId} (ht : Try.prog.underlying T = some (.slice E)) (hs : ∀ w, (sizeOf E).run Try.prog w = .ok 1 w) (w : World) (A : Option Addr) (n c k : Nat) (h : Int) (h1 : (k : Int) ≤ h) (h2 : h ≤ c) :
    (Instr.slice T (.slice A n c) (some (.int .i64 (k : Int))) (some (.int .i64 h)) none).run Try.prog w = .ok (.slice (cutA A k c) (h.toNat - k) (c - k)) w := by
  have ht' : Try.prog.underlying T = some (.slice (Try.prog.elem T)) := by simp [Program.elem, ht]
  have he : Try.prog.elem T = E := by simp [Program.elem, ht]
  rw [run_slice_lh w T _ _ _ ht' .i64 .i64 _ _ (by omega) h1 h2, he, hs]
  simp [Result.andThen, sliced, cutA]
theorem run_take {T E : TypeId} (ht : Try.prog.underlying T = some (.slice E)) (hs : ∀ w, (sizeOf E).run Try.prog w = .ok 1 w) (w : World) (A : Option Addr) (n c m : Nat) (h2 : m ≤ c) :
    (Instr.slice T (.slice A n c) none (some (.int .i64 (m : Int))) none).run Try.prog w = .ok (.slice A m c) w := by
  have ht' : Try.prog.underlying T = some (.slice (Try.prog.elem T)) := by simp [Program.elem, ht]
  have he : Try.prog.elem T = E := by simp [Program.elem, ht]
  rw [run_slice_h w T _ _ _ ht' .i64 _ (by omega) (by omega), he, hs]
  cases A <;> simp [Result.andThen, sliced, Addr.add]
theorem RowAt.take {w : World} {B : Nat} {A : Option Addr} {l : List Value} (h : RowAt w B A l) (k : Nat) : RowAt w B A (l.take k) := by
  rcases h with h | ⟨b, o, rfl, h2, h3⟩
  · left; rw [h]; simp
  · refine .inr ⟨b, o, rfl, h2, fun j u hu => h3 j u ?_⟩
    rw [List.getElem?_take] at hu
    split at hu
    · exact hu
    · cases hu
theorem RdB.take {w : World} {B : Nat} {A : Option Addr} {c : Nat} {l : List UInt8} (h : RdB w B A c l) (k : Nat) : RdB w B A c (l.take k) :=
  ⟨by have := RowAt.take h.row k
      simpa [bytes] using this, by have := h.room; simp; omega, h.cap⟩
end Go.Proofs.Ytohdncmlmpnfbaa

/-
  The walks of the document's own reader: its calls.
-/
namespace Go.Proofs.Ytohdncmlmpnfbaa
open Go.RowKit

/-- The document's reader at block m: the bytes, where it stands, and the error. -/
def RfAt (w : World) (m : Nat) (A : Option Addr) (n c at' : Nat) (e : Int) : Prop := w.heap[m]? = some (.cells #[.slice A n c, .int .i64 (at' : Int), .int .i64 e] 74 (0, 0))
theorem RfAt.lt {w : World} {m n c a : Nat} {A : Option Addr} {e : Int} (h : RfAt w m A n c a e) : m < w.heap.size := lt_of_block h
theorem RfAt.cells {w : World} {m n c a : Nat} {A : Option Addr} {e : Int} (h : RfAt w m A n c a e) :
    w.cell? ⟨m, 0, none⟩ = some (.slice A n c) ∧ w.cell? ⟨m, 1, none⟩ = some (.int .i64 (a : Int)) ∧ w.cell? ⟨m, 2, none⟩ = some (.int .i64 e) ∧ w.frozen? ⟨m, 0, none⟩ = false ∧ w.frozen? ⟨m, 1, none⟩ = false ∧ w.frozen? ⟨m, 2, none⟩ = false := by
  have h : w.heap[m]? = _ := h
  refine ⟨?_, ?_, ?_, ?_, ?_, ?_⟩ <;> simp [World.cell?, World.frozen?, h]
theorem RfAt.kept {w w' : World} {m n c a : Nat} {A : Option Addr} {e : Int} {row : Option Nat} (h : RfAt w m A n c a e) (hg : w.grownBy w' row) (hne : some m ≠ row) : RfAt w' m A n c a e := (hg.block m h.lt hne).trans h
theorem RfAt.setPos {w : World} {m n c a : Nat} {A : Option Addr} {e : Int} (h : RfAt w m A n c a e) (a' : Nat) : RfAt (w.setCell ⟨m, 1, none⟩ (.int .i64 (a' : Int))) m A n c a' e := heap_setCell_self h _
theorem RfAt.setErr {w : World} {m n c a : Nat} {A : Option Addr} {e : Int} (h : RfAt w m A n c a e) (e' : Int) : RfAt (w.setCell ⟨m, 2, none⟩ (.int .i64 e')) m A n c a e' := heap_setCell_self h _
theorem RfAt.drewN {w : World} {m n c a : Nat} {A : Option Addr} {e : Int} (h : RfAt w m A n c a e) (k : Nat) : RfAt (w.drewN k) m A n c a e := h

/-- What a call leaves that works on the document's reader alone: its answer, what it has left, and its error. -/
def RfPost (w : World) (m : Nat) (A : Option Addr) (c : Nat) (b : List UInt8) (v : Value) (l : List UInt8) (e : Int) (x : Ending) (w' : World) : Prop :=
  x = .returned v ∧ ∃ a, a ≤ b.length ∧ l = b.drop a ∧ RfAt w' m A b.length c a e ∧ w.grownBy w' (some m)

set_option maxHeartbeats 1000000 in
set_option maxRecDepth 100000 in
theorem rf_within {w : World} {m B a c : Nat} {A : Option Addr} {b : List UInt8} {e : Int} (h : RfAt w m A b.length c a e) (hr : RdB w B A c b) (ha : a ≤ b.length) (lo hi : Int) (hl : b.length ≤ 1000000) :
    Calls Try.prog 38 #[.pointer (some ⟨m, 0, none⟩), .int .i64 lo, .int .i64 hi] w
      (RfPost w m A c b (.int .i64 (withinR lo hi (b.drop a) e).1) (withinR lo hi (b.drop a) e).2.1 (withinR lo hi (b.drop a) e).2.2) := by
  obtain ⟨c0, c1, c2, z0, z1, z2⟩ := h.cells
  have H := Lib.hid h
  clear h
  by_cases he : e = 0
  · subst he
    have K1 := fun w : World => run_cut (T := 25) (E := 5) Try.underlying25 byte_size w A b.length c a ha
    obtain ⟨n, k, x, hcut⟩ : ∃ n k x, cutV (b.drop a) = (n, k, x) := ⟨_, _, _, rfl⟩
    have hn : ∀ w1 : World, RowAt w1 B (cutA A a c) (bytes (b.drop a)) → Calls Try.prog 50 #[.slice (cutA A a c) (b.length - a) (c - a)] w1 fun e w' => e = .returned (.tuple #[.int .i64 n, .int .i64 k, .int .i64 x]) ∧ w' = w1 := fun w1 hrr =>
      (ref_number (cutA A a c) (b.length - a) (c - a) B (b.drop a) w1 (by simp) hrr (by simp; omega)).mono fun _ _ ⟨h1, h2⟩ => ⟨by rw [h1, hcut], h2.symm⟩
    have hrr := (hr.cut ha).row
    obtain ⟨hk1, hk8, hn48, F1, F2, F3⟩ := withinR_cut (lo := lo) (hi := hi) hcut
    have HK := Lib.hid hk1
    clear hcut hk1
    generalize withinR lo hi (b.drop a) 0 = W at *
    generalize cutA A a c = A' at *
    by_cases hx : x = 0
    · subst hx
      by_cases hlo : (n : Int) < lo
      · have fin := F2 rfl (.inl hlo)
        subst fin
        clear F1 F2 F3
        go_enter Try.func38, Try.ntmps38
        go_wp2
        go_quiet ((go_at_call 50; exact Calls.quiet_of_same (hn _ (hrr.drewN _))))
        clear hn hrr K1
        go_wp2
        go_ret
        exact ⟨rfl, a, ha, rfl, (H.out.drewN _).setErr _, (grownBy_drewN' _ _ _).trans (grownBy_set _ _ _ _)⟩
      · by_cases hhi : hi < (n : Int)
        · have fin := F2 rfl (.inr hhi)
          subst fin
          clear F1 F2 F3
          go_enter Try.func38, Try.ntmps38
          go_wp2
          go_quiet ((go_at_call 50; exact Calls.quiet_of_same (hn _ (hrr.drewN _))))
          clear hn hrr K1
          go_wp2
          go_ret
          exact ⟨rfl, a, ha, rfl, (H.out.drewN _).setErr _, (grownBy_drewN' _ _ _).trans (grownBy_set _ _ _ _)⟩
        · have fin := F3 rfl (by omega)
          subst fin
          have FD : Hid (a + k ≤ b.length ∧ List.drop k (b.drop a) = b.drop (a + k)) := ⟨by have := HK.out; simp at this; omega, by rw [List.drop_drop]⟩
          have EK := Lib.hid (show ((a : Int) + (k : Int)) = ((a + k : Nat) : Int) by omega)
          clear F1 F2 F3
          go_enter Try.func38, Try.ntmps38
          go_wp2
          go_quiet ((go_at_call 50; exact Calls.quiet_of_same (hn _ (hrr.drewN _))))
          clear hn hrr K1
          go_wp2
          go_ret
          exact ⟨rfl, a + k, FD.out.1, FD.out.2, by rw [EK.out]; exact (H.out.drewN _).setPos _, (grownBy_drewN' _ _ _).trans (grownBy_set _ _ _ _)⟩
    · have fin := F1 hx
      have hx' : ((x : Int) == 0) = false := by simpa using hx
      subst fin
      clear F1 F2 F3
      go_enter Try.func38, Try.ntmps38
      go_wp2
      go_quiet ((go_at_call 50; exact Calls.quiet_of_same (hn _ (hrr.drewN _))))
      clear hn hrr K1
      go_wp2
      go_ret
      exact ⟨rfl, a, ha, rfl, (H.out.drewN _).setErr _, (grownBy_drewN' _ _ _).trans (grownBy_set _ _ _ _)⟩
  · rw [withinR_err he]
    go_enter Try.func38, Try.ntmps38
    go_wp2
    go_ret
    exact ⟨rfl, a, ha, rfl, H.out, World.grownBy.refl _ _⟩

set_option maxHeartbeats 400000 in
theorem rf_end {w : World} {m a c : Nat} {A : Option Addr} {b : List UInt8} {e : Int} (h : RfAt w m A b.length c a e) (ha : a ≤ b.length) :
    Calls Try.prog 40 #[.pointer (some ⟨m, 0, none⟩)] w (RfPost w m A c b (.int .i64 (endR (b.drop a) e)) (b.drop a) e) := by
  obtain ⟨c0, c1, c2, z0, z1, z2⟩ := h.cells
  have H := Lib.hid h
  clear h
  by_cases he : e = 0
  · subst he
    by_cases hlt : a < b.length
    · have fin : endR (b.drop a) 0 = 14 := by unfold endR; rw [if_pos ⟨rfl, by simp; omega⟩]
      rw [fin]
      clear fin
      go_enter Try.func40, Try.ntmps40
      go_wp2
      go_quiet (fail)
      go_wp2
      go_ret
      exact ⟨rfl, a, ha, rfl, H.out.drewN _, grownBy_drewN' _ _ _⟩
    · have fin : endR (b.drop a) 0 = 0 := by unfold endR; rw [if_neg (by simp; omega)]
      rw [fin]
      have hlt' : decide (a < b.length) = false := by simp; omega
      clear fin hlt
      go_enter Try.func40, Try.ntmps40
      go_wp2
      go_quiet (fail)
      go_wp2
      go_ret
      exact ⟨rfl, a, ha, rfl, H.out.drewN _, grownBy_drewN' _ _ _⟩
  · have fin : endR (b.drop a) e = e := by unfold endR; rw [if_neg (by simp [he])]
    have he' : (e == 0) = false := by simpa using he
    rw [fin]
    clear fin he
    go_enter Try.func40, Try.ntmps40
    go_wp2
    go_quiet (fail)
    go_wp2
    go_ret
    exact ⟨rfl, a, ha, rfl, H.out.drewN _, grownBy_drewN' _ _ _⟩

theorem RdB.drewN {w : World} {B : Nat} {A : Option Addr} {c : Nat} {l : List UInt8} (h : RdB w B A c l) (k : Nat) : RdB (w.drewN k) B A c l := ⟨h.row.drewN k, h.room, h.cap⟩
theorem RdB.grown {w w' : World} {B m c : Nat} {A : Option Addr} {l : List UInt8} (h : RdB w B A c l) (hg : w.grownBy w' (some m)) (hm : B ≤ m) (hB : B ≤ w.heap.size) : RdB w' B A c l :=
  h.keep fun p hp => World.cell?_of_block (hg.block p.block (by omega) (fun e => by injection e with e; omega))

set_option maxHeartbeats 1000000 in
set_option maxRecDepth 100000 in
theorem rf_text {w : World} {m B a c : Nat} {A : Option Addr} {b : List UInt8} {e : Int} (h : RfAt w m A b.length c a e) (hr : RdB w B A c b) (ha : a ≤ b.length) (hm : B ≤ m) (most : Int) (hl : b.length ≤ 1000000) :
    Calls Try.prog 39 #[.pointer (some ⟨m, 0, none⟩), .int .i64 most] w
      (RfPost w m A c b (.string (str (textR most (b.drop a) e).1)) (textR most (b.drop a) e).2.1 (textR most (b.drop a) e).2.2) := by
  obtain ⟨c0, c1, c2, z0, z1, z2⟩ := h.cells
  have hwi := rf_within h hr ha 0 most hl
  have hBw : B ≤ w.heap.size := by have := h.lt; omega
  have hsame := withinR_same 0 most (b.drop a) e
  obtain ⟨n, hn⟩ : ∃ n, (withinR 0 most (b.drop a) e).1 = n := ⟨_, rfl⟩
  obtain ⟨l1, hl1⟩ : ∃ l1, (withinR 0 most (b.drop a) e).2.1 = l1 := ⟨_, rfl⟩
  obtain ⟨e1, he1⟩ : ∃ e1, (withinR 0 most (b.drop a) e).2.2 = e1 := ⟨_, rfl⟩
  have hdef : textR most (b.drop a) e = if l1.length < n then ([], b.drop a, if e1 = 0 then 10 else e1) else (l1.take n, l1.drop n, e1) := by unfold textR; rw [hn, hl1, he1]
  rw [hn, hl1, he1] at hwi hsame
  generalize textR most (b.drop a) e = T at *
  have H := Lib.hid h
  have HS := Lib.hid hsame
  have HDEF := Lib.hid hdef
  clear hn hl1 he1 h hsame hdef
  go_enter Try.func39, Try.ntmps39
  go_wp2_with fail
  refine hwi.mono ?_; rintro y w1 ⟨rfl, a1, ha1, hla, hf1, hg1⟩
  clear hwi c0 c1 c2 z0 z1 z2
  obtain ⟨c0, c1, c2, z0, z1, z2⟩ := hf1.cells
  have HF := Lib.hid hf1
  have HG := Lib.hid hg1
  have hr1 := hr.grown hg1 hm hBw
  clear hf1 hg1 hr
  by_cases he : e1 = 0
  · subst he
    have hll : l1.length = b.length - a1 := by rw [hla]; simp
    by_cases hlt : l1.length < n
    · have fin : T = ([], b.drop a, 10) := by rw [HDEF.out, if_pos hlt, if_pos rfl]
      subst fin
      have hlt2 : (b.length : Int) - a1 < n := by omega
      clear HDEF hla hll hlt
      go_wp2
      go_quiet (fail)
      go_wp2
      go_ret
      exact ⟨rfl, a, ha, rfl, ((HF.out.drewN _).setPos _).setErr _, ((HG.out.trans (grownBy_drewN' _ _ _)).trans (grownBy_set _ _ _ _)).trans (grownBy_set _ _ _ _)⟩
    · have fin : T = (l1.take n, l1.drop n, 0) := by rw [HDEF.out, if_neg hlt]
      subst fin
      have hlt2 : ¬ (b.length : Int) - a1 < n := by omega
      have hroom := hr1.room
      have hcap := hr1.cap
      have K1 := fun w : World => run_cut2 (T := 25) (E := 5) Try.underlying25 byte_size w A b.length c a1 ((a1 : Int) + (n : Int)) (by omega) (by omega)
      have htn : ((a1 : Int) + (n : Int)).toNat - a1 = (l1.take n).length := by rw [List.length_take]; omega
      rw [htn] at K1
      have hrow2 := (hr1.cut ha1).take n
      rw [← hla] at hrow2
      have K2 := fun j : Nat => conv_str (P := Try.prog) (c - a1) 25 5 9 Try.underlying25 Try.underlying5 Try.underlying9 (hrow2.drewN j).row
      have FD : Hid (a1 + n ≤ b.length ∧ List.drop n l1 = b.drop (a1 + n)) := ⟨by omega, by rw [hla, List.drop_drop]⟩
      have EK := Lib.hid (show ((a1 : Int) + (n : Int)) = ((a1 + n : Nat) : Int) by omega)
      have hb63 : (a1 : Int) + n ≤ 1000000 := by omega
      generalize cutA A a1 c = A' at *
      generalize (l1.take n).length = q at *
      clear HDEF hla hll hlt htn hrow2 hroom hcap
      go_wp2
      go_quiet (fail)
      go_wp2
      go_quiet (fail)
      go_wp2
      go_ret
      exact ⟨rfl, a1 + n, FD.out.1, FD.out.2, by rw [EK.out]; exact (HF.out.drewN _).setPos _, (HG.out.trans (grownBy_drewN' _ _ _)).trans (grownBy_set _ _ _ _)⟩
  · have hs := HS.out he
    have fin : T = ([], b.drop a, e1) := by
      rw [HDEF.out, hs.1, if_neg (by omega), hs.2]; simp
    subst fin
    have he' : (e1 == 0) = false := by simpa using he
    have HL := Lib.hid (hs.2.symm.trans hla)
    clear HDEF hs he hla
    go_wp2
    go_ret
    exact ⟨rfl, a1, ha1, HL.out, HF.out, HG.out⟩
end Go.Proofs.Ytohdncmlmpnfbaa

/-
  The shelf's contracts at this program, in plain words (made by wip/tools/shelf.py).
-/
namespace Go.Proofs
open Go.Shelf
def Try.lays106_ren : Go.Shelf.Ren := ⟨fun | 106 => 61 | 213 => 66 | 265 => 68 | n => n, fun | 9 => 9 | 3 => 3 | n => n, fun | n => n⟩
theorem Try.lays106 : Go.Proofs.Lays.n106 Try.prog Try.lays106_ren := {
  mixed := by kernel_rfl
  f106 := Try.func61.trans (congrArg some (by kernel_rfl))
  f213 := Try.func66.trans (congrArg some (by kernel_rfl))
  f265 := Try.func68.trans (congrArg some (by kernel_rfl))
  t3 := Try.underlying3
  a3 := Try.isAgg3
  z3 := Try.sizeOf3
  v3 := Try.zeroValue3
  t9 := Try.underlying9
  a9 := Try.isAgg9
  z9 := Try.sizeOf9
  v9 := Try.zeroValue9 }
open Go.RowKit in
theorem Try.strings_Compare (a b : ByteArray) (w : World) :
    Calls Try.prog 61 #[.string a, .string b] w fun e w' => e = .returned (.int .i64 (Lib.compareBytes a.data.toList b.data.toList)) ∧ w' = w := Any.strings_Compare Try.lays106 a b w
end Go.Proofs

/-
  Layer 6 (key): which are keys, and edges; which of two stands ahead; what stands behind.
-/
namespace Go.Proofs.Ytohdncmlmpnfbaa
open Go.RowKit

theorem ret_txt {a b : ByteArray} (h : a = b) : Ending.returned (.string a) = .returned (.string b) := by rw [h]
theorem txt_app (a b : List UInt8) : str a ++ str b = str (a ++ b) := by
  apply ByteArray.ext
  rw [ByteArray.data_append]
  simp [str]
theorem txt_at (l : List UInt8) (k : Nat) (h : k < (str l).size) : (str l)[k] = l.getD k 0 := str_get l k (by rwa [str_size] at h)

theorem key_cmp (a b : List UInt8) (w : World) : Calls Try.prog 52 #[.string (str a), .string (str b)] w fun e w' => e = .returned (.int .i64 (Lib.compareBytes a b)) ∧ w = w' := by
  have K := Try.strings_Compare (str a) (str b) w
  rw [str_data, str_data] at K
  have K := Lib.hid K
  go_enter Try.func52, Try.ntmps52
  go_wp2_with ((with_reducible refine K.out.mono ?_); rintro e w' ⟨rfl, rfl⟩)
  go_ret
  exact ⟨rfl, rfl⟩

/-- Is a text a key? -/
def rightB (k : List UInt8) : Bool := decide (1 ≤ k.length) && decide (k.length ≤ 16)
/-- Is a text an edge? -/
def edgeB (k : List UInt8) : Bool := decide (k.length ≤ 17)
theorem key_edge (k : List UInt8) (w : World) : Calls Try.prog 51 #[.string (str k)] w fun e w' => e = .returned (.bool (edgeB k)) ∧ w = w' := by
  have hz : (str k).size = k.length := str_size k
  generalize str k = S at hz ⊢
  go_enter Try.func51, Try.ntmps51
  go_wp2_with fail
  all_goals
    go_ret
    exact ⟨ret_bool (by unfold edgeB; rw [← hz]; simp; try omega), rfl⟩

set_option maxRecDepth 100000 in
theorem key_with (s : List UInt8) (b : UInt8) (hs : s.length ≤ 1000000) (w : World) : Calls Try.prog 69 #[.string (str s), .int .u8 (b.toNat : Int)] w fun e w' => e = .returned (.string (str (s ++ [b]))) ∧ Below w.heap.size w w' := by
  have hrow := byte_row w _ b rfl
  have K1 : (convert 25 9 (.slice (some ⟨w.heap.size, 0, none⟩) 1 1)).run Try.prog (w.alloc (.cells #[.int .u8 (b.toNat : Int)] 5)) = .ok (.string (str [b])) _ :=
    conv_str (P := Try.prog) 1 25 5 9 Try.underlying25 Try.underlying5 Try.underlying9 hrow
  have HB := Lib.hid ((Below.refl w.heap.size w).alloc (Nat.le_refl _) (.cells #[.int .u8 (b.toNat : Int)] 5))
  have hz : (str s).size ≤ 1000000 := by rw [str_size]; exact hs
  have hz1 : (str [b]).size ≤ 1 := by rw [str_size]; simp
  have HV := Lib.hid (txt_app s [b])
  go_enter Try.func69, Try.ntmps69
  go_wp2_with fail
  go_ret
  exact ⟨ret_txt HV.out, HB.out⟩
end Go.Proofs.Ytohdncmlmpnfbaa

/-
  Layer 6 (key): the document's order, with what texts begin, ends.
-/
namespace Go.Proofs.Ytohdncmlmpnfbaa
open Go.RowKit

theorem int_eq_false {x y : UInt8} (h : x ≠ y) : ((x.toNat : Int) == (y.toNat : Int)) = false := by
  rw [beq_eq_false_iff_ne]
  intro e
  exact h (UInt8.toNat_inj.1 (by omega))
/-- Below w with some draws. -/
theorem ref_less (a b : List UInt8) (ha : a.length ≤ 9223372036854775807) (w : World) : Calls Try.prog 26 #[.string (str a), .string (str b)] w fun e w' => e = .returned (.bool (ltB a b)) ∧ ∃ n, w' = w.drewN n := by
  have hza : (str a).size = a.length := str_size a
  have hzb : (str b).size = b.length := str_size b
  have hA : ∀ k, (h : k < (str a).size) → (str a)[k] = a.getD k 0 := fun k h => txt_at a k h
  have hB : ∀ k, (h : k < (str b).size) → (str b)[k] = b.getD k 0 := fun k h => txt_at b k h
  generalize str a = S at hza hA ⊢
  generalize str b = T at hzb hB ⊢
  have HA := Lib.hid hA
  have HB := Lib.hid hB
  have HZA := Lib.hid hza
  have HZB := Lib.hid hzb
  have hmx : S.size ≤ 9223372036854775807 := by omega
  clear hA hB hza hzb
  go_enter Try.func26, Try.ntmps26
  go_wp2_with fail
  go_loopw [5] (fun i wr => ∃ k m : Nat, k ≤ S.size ∧ k ≤ T.size ∧ Hid (ltB a b = ltB (a.drop k) (b.drop k)) ∧ i = .int .i64 k ∧ wr = w.drewN m) (fun i _ => S.size - (intOf i).toNat)
  case atStart => exact ⟨0, 0, by omega, by omega, rfl, rfl, rfl⟩
  case round =>
    obtain ⟨k, m, hk, hk2, HL, rfl, rfl⟩ := hrel
    by_cases hlt : k < S.size
    · by_cases hlt2 : k < T.size
      · have c1 := HA.out k hlt
        have c2 := HB.out k hlt2
        have HS := fun h => Lib.hid (ltB_step (a := a) (b := b) (k := k) (by have := HZA.out; omega) (by have := HZB.out; omega) h)
        have HT := fun h => Lib.hid (ltB_stop (a := a) (b := b) (k := k) (by have := HZA.out; omega) (by have := HZB.out; omega) h)
        obtain ⟨x, hx⟩ : ∃ x, a.getD k 0 = x := ⟨_, rfl⟩
        obtain ⟨y, hy⟩ : ∃ y, b.getD k 0 = y := ⟨_, rfl⟩
        rw [hx] at c1 HS HT
        rw [hy] at c2 HS HT
        clear hx hy
        by_cases hxy : x = y
        · subst hxy
          have HN := Lib.hid (HL.out.trans (HS rfl).out)
          clear HT HS
          go_wp2_with fail
          go_quiet (fail)
          go_wp2_with fail
          go_roundw
          case rel => exact ⟨k + 1, _, by omega, by omega, HN, by go_num, rfl⟩
          case measure => simp [intOf]; omega
        · have hxy' := int_eq_false hxy
          have hxy2 : ((x.toNat : Int) != (y.toNat : Int)) = true := by simp [bne, hxy']
          have HN := Lib.hid (HL.out.trans (HT hxy).out)
          clear HT HS hxy
          go_wp2_with fail
          go_quiet (fail)
          go_wp2_with fail
          go_quiet (fail)
          go_wp2_with fail
          go_ret
          refine ⟨ret_bool (by rw [HN.out]), ?_⟩
          rw [World.drewN_drewN, World.drewN_drewN]
          exact ⟨_, rfl⟩
      · have hge : T.size ≤ k := by omega
        have HN := Lib.hid (HL.out.trans (ltB_out (by have := HZB.out; omega)))
        go_wp2_with fail
        go_ret
        exact ⟨ret_bool HN.out.symm, _, rfl⟩
    · have hke : S.size = k := by omega
      have HN := Lib.hid (HL.out.trans (ltB_end (by have := HZA.out; omega) (by have := HZB.out; omega)))
      have HE : Hid (decide (S.size < T.size) = decide (k < b.length)) := decide_eq_decide.2 (by have := HZB.out; omega)
      clear hke
      go_wp2_with fail
      go_ret
      exact ⟨ret_bool (HE.out.trans HN.out.symm), _, rfl⟩
end Go.Proofs.Ytohdncmlmpnfbaa

/-
  Layer 6 (key): with what texts begin; the first of all texts behind all that begin with one.
-/
namespace Go.Proofs.Ytohdncmlmpnfbaa
open Go.RowKit

theorem run_str_to {P : Program} {t : TypeId} (ht : P.underlying t = some .string) (w : World) (S : ByteArray) (k : Nat) (i : Int) (hi : i = (k : Int)) (hk : k ≤ S.size) :
    (Instr.slice t (.string S) none (some (.int .i64 i)) none).run P w = .ok (.string (S.extract 0 k)) w := by
  subst hi
  rw [run_slice_string_to_if w t S .i64 _ ht, if_pos (by omega)]
  rfl
set_option maxHeartbeats 400000 in
theorem key_end (p : List UInt8) (hp : p.length ≤ 1000000) (w : World) : Calls Try.prog 67 #[.string (str p)] w fun e w' =>
    ((∃ x, endV p = some x ∧ e = .returned (.tuple #[.string (str x), .bool true])) ∨ (endV p = none ∧ e = .returned (.tuple #[.string (str []), .bool false]))) ∧ Below w.heap.size w w' := by
  have hz : (str p).size = p.length := str_size p
  have hA : ∀ k, (h : k < (str p).size) → (str p)[k] = p.getD k 0 := fun k h => txt_at p k h
  have hT : ∀ k, (str p).extract 0 k = str (p.take k) := fun k => str_take p k
  generalize str p = S at hz hA hT ⊢
  have HA := Lib.hid hA
  have HT := Lib.hid hT
  have HZ := Lib.hid hz
  have hmx : S.size ≤ 1000000 := by omega
  clear hA hT hz
  go_enter Try.func67, Try.ntmps67
  go_wp2_with fail
  go_loop [4] (fun i => ∃ n : Nat, n ≤ S.size ∧ Hid (endV p = endV (p.take n)) ∧ i = .int .i64 n) (fun i => (intOf i).toNat)
  case atStart => exact ⟨S.size, by omega, by rw [HZ.out, List.take_length]; exact rfl, rfl⟩
  case round =>
    obtain ⟨n, hn, HE, rfl⟩ := hrel
    cases n with
    | zero =>
      have HN := Lib.hid (HE.out.trans (show endV (p.take 0) = none from rfl))
      go_wp2_with fail
      go_ret2
      exact ⟨.inr ⟨HN.out, rfl⟩, Below.refl _ _⟩
    | succ k =>
      have hk : k < S.size := by omega
      have c1 := HA.out k hk
      have HS := Lib.hid (take_succ_getD (t := p) (k := k) (by have := HZ.out; omega))
      obtain ⟨c, hc⟩ : ∃ c, p.getD k 0 = c := ⟨_, rfl⟩
      rw [hc] at c1 HS
      clear hc
      by_cases h : c = 255
      · subst h
        have HN := Lib.hid (HE.out.trans (by rw [HS.out, endV_last]))
        go_wp2_with fail
        go_round
        case rel => exact ⟨k, by omega, HN, by go_num⟩
        case measure => simp [intOf]
      · have HN := Lib.hid (HE.out.trans (by rw [HS.out, endV_some h]))
        have hc255 : ((c.toNat : Int) == 255) = false := int_eq_false h
        have HK : Hid (∀ w, Calls Try.prog 69 #[.string (S.extract 0 k), .int .u8 (IntKind.u8.wrap ((c.toNat : Int) + 1))] w fun e w' => e = .returned (.string (str (p.take k ++ [c + 1]))) ∧ Below w.heap.size w w') := by
          have e1 : IntKind.u8.wrap ((c.toNat : Int) + 1) = ((c + 1).toNat : Int) := by
            have h2 := add_one_nat h
            have h3 := (c + 1).toNat_lt
            rw [IntWalk.u8_in _ (by omega)]; omega
          rw [e1, HT.out]
          exact fun w => key_with (p.take k) (c + 1) (by rw [List.length_take]; omega) w
        go_wp2_with fail
        have hi1 : (k : Int) ≤ (S.size : Int) := by omega
        have hi2 : (k : Int) < (S.size : Int) := by omega
        have hi3 : (0 : Int) ≤ (k : Int) := by omega
        have hw : IntKind.i64.wrap (k : Int) = (k : Int) := IntWalk.i64_in _ (by omega)
        go_region_held3 (fun w' => Below w.heap.size w w') (first | (exact (Below.refl _ _).drew) | assumption | go_keep) (first | (go_at_call 69; refine (HK.out _).mono ?_; rintro e w' ⟨rfl, hb⟩; have hbb := (Below.refl _ _).drew.trans hb))
        go_wp2_with fail
        go_ret2
        exact ⟨.inl ⟨_, HN.out, rfl⟩, by assumption⟩
end Go.Proofs.Ytohdncmlmpnfbaa

/-
  Layer 6 (key): the document's end of a text; with what all texts begin.
-/
namespace Go.Proofs.Ytohdncmlmpnfbaa
open Go.RowKit

theorem run_txt_add {P : Program} (a b : List UInt8) (h : a.length + b.length ≤ 9223372036854775807) (w : World) : (Op.stringOp .add (str a) (str b)).run P w = .ok (.string (str (a ++ b))) w := by
  rw [run_string_add_sum _ _ _ (by rw [str_size, str_size]; exact h), txt_app]
/-- What an end hands back. -/
def EndV (p : List UInt8) (e : Ending) : Prop :=
  (∃ x, endV p = some x ∧ e = .returned (.tuple #[.string (str x), .bool true])) ∨ (endV p = none ∧ e = .returned (.tuple #[.string (str []), .bool false]))
theorem drewN2 (w : World) (a b : Nat) : ∃ n, (w.drewN a).drewN b = w.drewN n := ⟨_, World.drewN_drewN _ _ _⟩
theorem alike_post {a b : List UInt8} {k na nb : Nat} (ha : na = a.length) (hb : nb = b.length) (h1 : k ≤ na) (h2 : k ≤ nb) (h3 : a.take k = b.take k) (h4 : k < na → k < nb → a.getD k 0 ≠ b.getD k 0) : (k : Int) = (alikeN a b : Nat) := by
  rw [alikeN_at (by omega) (by omega) h3 (fun u v => h4 (by omega) (by omega))]
end Go.Proofs.Ytohdncmlmpnfbaa

/-
  Layer 6 (key): the longest text with which all begin.
-/
namespace Go.Proofs.Ytohdncmlmpnfbaa
open Go.RowKit

theorem commonF_len (s : List UInt8) (r : List (List UInt8)) : (commonF s r).length ≤ s.length := ((commonF_pre r s).1).length_le
theorem strs_take_step {r : List (List UInt8)} {k : Nat} (s : List UInt8) (h : k < r.length) : commonF s (r.take (k + 1)) = (commonF s (r.take k)).take (alikeN (commonF s (r.take k)) (r.getD k [])) := by
  have e : r.take (k + 1) = r.take k ++ [r.getD k []] := by
    rw [List.take_succ_eq_append_getElem h]; simp [List.getD, List.getElem?_eq_getElem h]
  rw [e, commonF_snoc]
theorem string_size (w : World) : (sizeOf 9).run Try.prog w = .ok 1 w := by kernel_rfl
end Go.Proofs.Ytohdncmlmpnfbaa
