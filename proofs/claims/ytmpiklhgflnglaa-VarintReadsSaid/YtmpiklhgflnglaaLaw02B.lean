/-
  The walk of the second layer's law on what is read.
-/
import Derived.Test.YtmpiklhgflnglaaLaw02A
import Derived.Test.YtmpiklhgflnglaaInts
namespace Go.Proofs.Ytmpiklhgflnglaa
open Go.RowKit

/-- What the loop keeps. -/
structure OnceInv (b : List UInt8) (acc : List Int) (l : List UInt8) (e : Int) (i : Nat) : Prop where
  all : putsV acc ++ l = b
  ok : okL acc = true
  run : e = 0 → i = acc.length
  stop : e ≠ 0 → l ≠ []
  few : acc.length ≤ i ∧ i ≤ 301
theorem putsV_long (l : List Int) : l.length ≤ (putsV l).length := by
  induction l with
  | nil => simp
  | cons x r ih => rw [putsV_cons, List.length_append, List.length_cons]; have := putV_pos x.toNat; omega
theorem OnceInv.short {b : List UInt8} {acc : List Int} {l : List UInt8} {e : Int} {i : Nat} (h : OnceInv b acc l e i) : acc.length + l.length ≤ b.length := by
  have := congrArg List.length h.all
  rw [List.length_append] at this
  have := putsV_long acc
  omega
theorem okL_snoc {l : List Int} {n : Int} (h : okL l = true) (hn : okN n = true) : okL (l ++ [n]) = true := by
  rw [okL, List.all_append]; simp only [List.all_cons, List.all_nil, hn, Bool.and_true]; exact h
theorem numR_back {l : List UInt8} (h : (numR l 0).2.2 = 0) : putV (numR l 0).1 ++ (numR l 0).2.1 = l := by
  unfold numR at h ⊢
  rw [if_pos rfl] at h ⊢
  by_cases hc : (cutV l).2.2 = 0
  · rw [if_pos hc] at h ⊢
    have := cutV_back (l := l) (n := (cutV l).1) (k := (cutV l).2.1) (by rw [← hc])
    show putV (cutV l).1 ++ l.drop (cutV l).2.1 = l
    rw [← this.2.1, List.take_append_drop]
  · rw [if_neg hc] at h
    simp at h
    omega
theorem OnceInv.next {b : List UInt8} {acc : List Int} {l : List UInt8} {i : Nat} (h : OnceInv b acc l 0 i) (hb : b.length ≤ 300) (h0 : (numR l 0).2.2 = 0) : OnceInv b (acc ++ [((numR l 0).1 : Int)]) (numR l 0).2.1 0 (i + 1) := by
  have hs := h.short
  have hi := h.run rfl
  refine ⟨?_, okL_snoc h.ok (by have := numR_max l 0; simp [okN]; omega), fun _ => by rw [List.length_append, hi]; rfl, fun h => absurd rfl h, by rw [List.length_append]; simp; omega⟩
  rw [putsV_snoc, Int.toNat_natCast, List.append_assoc, numR_back h0, h.all]
theorem OnceInv.bad {b : List UInt8} {acc : List Int} {l : List UInt8} {i : Nat} (h : OnceInv b acc l 0 i) (hb : b.length ≤ 300) (hl : l ≠ []) {e : Int} (_ : e ≠ 0) : OnceInv b acc l e (i + 1) := by
  have hs := h.short
  have hi := h.run rfl
  exact ⟨h.all, h.ok, fun h => by omega, fun _ => hl, by omega⟩

set_option maxHeartbeats 1000000 in
theorem varintOnce_out (A : Option Addr) (n c : Nat) (w : World) (hn : n ≤ maxLen) (h : 300 < n) :
    Calls Try.prog 5 #[.slice A n c] w fun e w' => e = .returned (.bool true) ∧ Below w.heap.size w w' := by
  unfold maxLen at hn
  go_enter Try.func5, Try.ntmps5
  go_wp2_with fail
  refine (awake02 _).mono ?_; rintro e w1 ⟨rfl, hb⟩
  go_wp2
  go_ret
  exact ⟨rfl, hb⟩

theorem OwnB.other {w w' : World} {base r : Nat} {v : Value} {l : List UInt8} (h : OwnB w base v l) (hg : w.grownBy w' (some r)) (hr : r < base) : OwnB w' base v l :=
  h.kept hg (by
    cases hv : v.ownBlock with
    | none => exact .inl rfl
    | some k => exact .inr (fun e => by have := (h.lt k hv).1; injection e with e; omega))
theorem okL_i64 {l : List Int} (h : okL l = true) : AllI64 l := by
  intro x hx
  obtain ⟨j, hj, rfl⟩ := List.getElem_of_mem hx
  have := okL_at h hj
  rw [List.getD, List.getElem?_eq_getElem hj] at this
  simp at this
  omega
theorem below_row {B r : Nat} {a w w' : World} (h : Below B a w) (hg : w.grownBy w' (some r)) (hr : B ≤ r) (hs : B ≤ w.heap.size) : Below B a w' := h.grown hg hs (fun k hk => by injection hk; omega)

set_option maxHeartbeats 2000000 in
set_option maxRecDepth 100000 in
theorem varintOnce_in (A : Option Addr) (c : Nat) (b : List UInt8) (w : World) (hr : RdB w w.heap.size A c b) (hn : b.length ≤ 300) :
    Calls Try.prog 5 #[.slice A b.length c] w fun e w' => e = .returned (.bool true) ∧ Below w.heap.size w w' := by
  go_enter Try.func5, Try.ntmps5
  go_wp2_with fail
  refine (awake02 _).mono ?_; rintro e w1 ⟨rfl, hb1⟩
  have hr1 := hr.below hb1
  have hs1 := hb1.size
  go_wp2_with fail
  refine (varint_new A c _ b w1 hr1).mono ?_; rintro e w2 ⟨rfl, hrd, hb2⟩
  have hr2 := (hr1.more hs1).below hb2
  have HB2 : Hid (Below w.heap.size w w2) := hb1.trans (hb2.mono hs1)
  have hlt := hrd.lt
  have hown : OwnI w2 (w1.heap.size + 1) (.slice none 0 0) [] := World.ownsRow_nil _ _ _ _
  obtain ⟨rb, hrb⟩ : ∃ rb, w1.heap.size = rb := ⟨_, rfl⟩
  rw [hrb] at hrd hlt hown hr2 hs1
  rw [hrb]
  have hcap := hr.cap
  have hroom := hr.room
  have hwr := hs1
  clear hr hr1 hb1 hb2 hrb hs1
  go_wp2_with fail
  go_loopw [4, 5, 6] (fun v i _ wr => ∃ (acc : List Int) (l : List UInt8) (e : Int) (k : Nat), OnceInv b acc l e k ∧ OwnI wr (rb + 1) v acc ∧ RdAt wr rb l e ∧ Below w.heap.size w wr ∧ Below rb w2 wr ∧ i = .int .i64 (k : Int)) (fun _ i _ _ => 301 - (intOf i).toNat)
  case atStart => exact ⟨[], b, 0, 0, ⟨rfl, rfl, fun _ => rfl, fun h => absurd rfl h, by simp⟩, hown, hrd, HB2.out, Below.refl _ _, rfl⟩
  case round =>
    obtain ⟨acc, l, e, k, inv, hown, hrd, hbw, hbr, rfl⟩ := hrel
    have hshort := inv.short
    have hfew := inv.few
    have hrx := hr2.below hbr
    have hsx : rb ≤ wr.heap.size := by have := hbr.size; omega
    have hltx : rb < wr.heap.size := hrd.lt
    have OK := Lib.hid inv.ok
    have hqq : (putsV acc).length + l.length = b.length := by rw [← List.length_append, inv.all]
    have HT : Hid (b.take (putsV acc).length = putsV acc) := by rw [← inv.all]; simp [Hid]
    have INV := Lib.hid inv
    clear inv hlt
    by_cases he : e = 0
    · subst he
      by_cases hl : l = []
      · subst hl
        have hk : k < 301 := by have := INV.out.run rfl; omega
        go_wp2_with fail
        refine (rd_left (givenAt_some hrd)).mono ?_; rintro y w3 ⟨rfl, hrd, hg⟩
        have hown := hown.other hg (by omega)
        have hrx := hrx.grown hg (Nat.le_refl _) hsx
        have hbr := below_row hbr hg (Nat.le_refl _) hsx
        have hbw := below_row hbw hg hwr (Nat.le_trans hwr hsx)
        have hsx := Nat.le_trans hsx hg.size
        have hltx := hrd.lt
        clear hg
        obtain ⟨A2, c2, rfl, hra, _⟩ := hown.read
        have hput := varint_put none 0 _ [] A2 acc.length c2 acc _ rfl (rdB_nil _ _) hra (okL_i64 OK.out) (Nat.le_refl _) (by simp; omega)
        clear hown hra
        go_wp2_with fail
        refine hput.mono ?_; rintro y w3 hpost
        obtain ⟨v3, rfl, hown3, hb3⟩ : RetB2 _ _ _ _ _ := hpost.elim (fun h => h.2) (fun h => by have := OK.out; rw [h.1] at this; cases this)
        rw [List.nil_append] at hown3
        have hrd := hrd.below hb3 hrd.lt
        have hbw := hbw.trans (hb3.mono hbw.size)
        have hrx := hrx.quiet (grown_of_below hb3 none) hsx
        have hsx := Nat.le_trans hsx hb3.size
        clear hput hpost hb3
        go_wp2_with fail
        refine (rd_left (givenAt_some hrd)).mono ?_; rintro y w4 ⟨rfl, hrd, hg⟩
        have hown3 := hown3.other hg hltx
        have hrx := hrx.grown hg (Nat.le_refl _) hsx
        have hbw := below_row hbw hg hwr (Nat.le_trans hwr hsx)
        have hsx := Nat.le_trans hsx hg.size
        clear hg
        go_wp2_with fail
        refine (rd_left (givenAt_some hrd)).mono ?_; rintro y w5 ⟨rfl, hrd, hg⟩
        have hown3 := hown3.other hg hltx
        have hrx := hrx.grown hg (Nat.le_refl _) hsx
        have hbw := below_row hbw hg hwr (Nat.le_trans hwr hsx)
        have hsx := Nat.le_trans hsx hg.size
        obtain ⟨A3, c3, rfl, hr3⟩ := hown3.read
        have heq := fun n2 w1 (hn2 : n2 = (putsV acc).length) h1 h2 => ref_eq A3 A c3 c (putsV acc).length n2 w5.heap.size rb (putsV acc) (putsV acc) w1 rfl hn2 h1 h2 (by omega)
        have hrow := (hrx.take (putsV acc).length).row
        rw [HT.out] at hrow
        clear hg hown3 hrx
        go_wp2_with fail
        refine (heq _ _ (by first | omega | (simp at hqq; omega)) hr3.row hrow).mono ?_; rintro y w6 ⟨rfl, nq, hw6⟩
        have hg := grown_quiet hw6
        have hrd := hrd.quiet hg
        have hbw := hbw.trans (below_quiet (B := w.heap.size) hw6)
        have hsx := Nat.le_trans hsx hg.size
        clear hg hw6 heq hrow hr3
        go_wp2_with fail
        refine (rd_err (givenAt_some hrd)).mono ?_; rintro y w7 ⟨rfl, hrd, hg⟩
        have hbw := below_row hbw hg hwr (Nat.le_trans hwr hsx)
        have hsx := Nat.le_trans hsx hg.size
        clear hg
        go_wp2_with fail
        refine (rd_left (givenAt_some hrd)).mono ?_; rintro y w8 ⟨rfl, hrd, hg⟩
        have hbw := below_row hbw hg hwr (Nat.le_trans hwr hsx)
        have HBW := Lib.hid hbw
        clear hg hbw hrd
        go_wp2
        go_ret
        exact ⟨rfl, HBW.out⟩
      · have hk : k < 301 := by have := INV.out.run rfl; omega
        have hl0 : 0 < l.length := by cases l with
          | nil => exact absurd rfl hl
          | cons x r => simp
        have NXT := fun h => Lib.hid (INV.out.next hn h)
        have BAD := fun (e : Int) (h : e ≠ 0) => Lib.hid (INV.out.bad hn hl h)
        have hsame := numR_same l 0
        have hmax := numR_max l 0
        have hnum := fun (w : World) (hrd : RdAt w rb l 0) => rd_number (givenAt_some hrd) (by omega)
        obtain ⟨n, hn1⟩ : ∃ n, (numR l 0).1 = n := ⟨_, rfl⟩
        obtain ⟨l1, hn2⟩ : ∃ l1, (numR l 0).2.1 = l1 := ⟨_, rfl⟩
        obtain ⟨e1, hn3⟩ : ∃ e1, (numR l 0).2.2 = e1 := ⟨_, rfl⟩
        rw [hn1, hn2, hn3] at hnum
        rw [hn3, hn1, hn2] at hsame
        rw [hn3, hn1, hn2] at NXT
        rw [hn1] at hmax
        have HS := Lib.hid hsame
        clear hn1 hn2 hn3 hl hsame HT
        go_wp2_with fail
        refine (rd_left (givenAt_some hrd)).mono ?_; rintro y w3 ⟨rfl, hrd, hg⟩
        have hown := hown.other hg (by omega)
        have hrx := hrx.grown hg (Nat.le_refl _) hsx
        have hbr := below_row hbr hg (Nat.le_refl _) hsx
        have hbw := below_row hbw hg hwr (Nat.le_trans hwr hsx)
        have hsx := Nat.le_trans hsx hg.size
        have hltx := hrd.lt
        clear hg
        go_wp2_with fail
        refine (rd_err (givenAt_some hrd)).mono ?_; rintro y w4 ⟨rfl, hrd, hg⟩
        have hown := hown.other hg (by omega)
        have hrx := hrx.grown hg (Nat.le_refl _) hsx
        have hbr := below_row hbr hg (Nat.le_refl _) hsx
        have hbw := below_row hbw hg hwr (Nat.le_trans hwr hsx)
        have hsx := Nat.le_trans hsx hg.size
        have hltx := hrd.lt
        clear hg
        go_wp2_with fail
        refine (hnum _ hrd).mono ?_; rintro y w5 ⟨rfl, hrd, hg⟩
        clear hnum
        have hown := hown.other hg (by omega)
        have hrx := hrx.grown hg (Nat.le_refl _) hsx
        have hbr := below_row hbr hg (Nat.le_refl _) hsx
        have hbw := below_row hbw hg hwr (Nat.le_trans hwr hsx)
        have hsx := Nat.le_trans hsx hg.size
        have hltx := hrd.lt
        clear hg
        go_wp2_with fail
        refine (rd_err (givenAt_some hrd)).mono ?_; rintro y w6 ⟨rfl, hrd, hg⟩
        have hown := hown.other hg (by omega)
        have hrx := hrx.grown hg (Nat.le_refl _) hsx
        have hbr := below_row hbr hg (Nat.le_refl _) hsx
        have hbw := below_row hbw hg hwr (Nat.le_trans hwr hsx)
        have hsx := Nat.le_trans hsx hg.size
        have hltx := hrd.lt
        clear hg
        by_cases he : e1 = 0
        · subst he
          have inv2 := NXT rfl
          have hrow := int_row w6 (n : Int)
          have hlen : (acc.length + [(n : Int)].length) * 8 ≤ 140737488355328 := by simp; omega
          have hown := hown.alloc (.cells #[.int .i64 (n : Int)] 3)
          have hga := World.grownBy_alloc w6 (.cells #[.int .i64 (n : Int)] 3) (some rb)
          have hrd := hrd.below (Below.refl (rb + 1) w6 |>.alloc (by omega) (.cells #[.int .i64 (n : Int)] 3)) (by omega)
          have hbr := below_row hbr hga (Nat.le_refl _) hsx
          have hbw := below_row hbw hga hwr (Nat.le_trans hwr hsx)
          have hsy : rb + 1 ≤ (w6.alloc (.cells #[.int .i64 (n : Int)] 3)).heap.size := by simp; omega
          have HBR := Lib.hid hbr
          have HBW := Lib.hid hbw
          have HRD := Lib.hid hrd
          clear hga NXT BAD HS hbr hbw hrd INV OK hrx
          go_wp2_with (at_builtin; refine wpList_app_ints rfl (.tmp 35) (.tmp 37) rfl (rb + 1) _ acc rfl hown _ _ 1 1 [(n : Int)] rfl rfl hrow hlen hsy ?_; intro v7 w7 hown7 hg7 hb7)
          go_roundw
          case rel => exact ⟨acc ++ [(n : Int)], l1, 0, k + 1, inv2.out, hown7, HRD.out.below hb7 (by omega), HBW.out.trans (hb7.mono (by omega)), HBR.out.trans (hb7.mono (by omega)), by go_num⟩
          case measure => simp [intOf]; omega
        · have inv2 := BAD e1 he
          have hs := HS.out he
          rw [hs.2] at hrd
          have he' : (e1 == 0) = false := by simpa using he
          have HBR := Lib.hid hbr
          have HBW := Lib.hid hbw
          have HRD := Lib.hid hrd
          have HOW := Lib.hid hown
          clear NXT BAD HS hbr hbw hrd hown INV OK hrx he hs
          go_wp2
          go_roundw
          case rel => exact ⟨acc, l, e1, k + 1, inv2.out, HOW.out, HRD.out, HBW.out, HBR.out, by go_num⟩
          case measure => simp [intOf]; omega
    · have he' : (e == 0) = false := by simpa using he
      have hl := INV.out.stop he
      have hl0 : 0 < l.length := by cases l with
        | nil => exact absurd rfl hl
        | cons x r => simp
      have hl0' : ((l.length : Int) == 0) = false := by simpa using hl
      clear he hl
      by_cases hk : k < 301
      · have hk' := hk
        go_wp2_with fail
        refine (rd_left (givenAt_some hrd)).mono ?_; rintro y w1a ⟨rfl, hrd, hg⟩
        have hown := hown.other hg (by omega)
        have hrx := hrx.grown hg (Nat.le_refl _) hsx
        have hbr := below_row hbr hg (Nat.le_refl _) hsx
        have hbw := below_row hbw hg hwr (Nat.le_trans hwr hsx)
        have hsx := Nat.le_trans hsx hg.size
        have hltx := hrd.lt
        clear hg
        go_wp2_with fail
        refine (rd_err (givenAt_some hrd)).mono ?_; rintro y w1b ⟨rfl, hrd, hg⟩
        have hown := hown.other hg (by omega)
        have hrx := hrx.grown hg (Nat.le_refl _) hsx
        have hbr := below_row hbr hg (Nat.le_refl _) hsx
        have hbw := below_row hbw hg hwr (Nat.le_trans hwr hsx)
        have hsx := Nat.le_trans hsx hg.size
        have hltx := hrd.lt
        clear hg
        obtain ⟨A2, c2, rfl, hra, _⟩ := hown.read
        have hput := varint_put none 0 _ [] A2 acc.length c2 acc _ rfl (rdB_nil _ _) hra (okL_i64 OK.out) (Nat.le_refl _) (by simp; omega)
        clear hown hra
        go_wp2_with fail
        refine hput.mono ?_; rintro y w3 hpost
        obtain ⟨v3, rfl, hown3, hb3⟩ : RetB2 _ _ _ _ _ := hpost.elim (fun h => h.2) (fun h => by have := OK.out; rw [h.1] at this; cases this)
        rw [List.nil_append] at hown3
        have hrd := hrd.below hb3 hrd.lt
        have hbw := hbw.trans (hb3.mono hbw.size)
        have hrx := hrx.quiet (grown_of_below hb3 none) hsx
        have hsx := Nat.le_trans hsx hb3.size
        clear hput hpost hb3
        go_wp2_with fail
        refine (rd_left (givenAt_some hrd)).mono ?_; rintro y w4 ⟨rfl, hrd, hg⟩
        have hown3 := hown3.other hg hltx
        have hrx := hrx.grown hg (Nat.le_refl _) hsx
        have hbw := below_row hbw hg hwr (Nat.le_trans hwr hsx)
        have hsx := Nat.le_trans hsx hg.size
        clear hg
        go_wp2_with fail
        refine (rd_left (givenAt_some hrd)).mono ?_; rintro y w5 ⟨rfl, hrd, hg⟩
        have hown3 := hown3.other hg hltx
        have hrx := hrx.grown hg (Nat.le_refl _) hsx
        have hbw := below_row hbw hg hwr (Nat.le_trans hwr hsx)
        have hsx := Nat.le_trans hsx hg.size
        obtain ⟨A3, c3, rfl, hr3⟩ := hown3.read
        have heq := fun n2 w1 (hn2 : n2 = (putsV acc).length) h1 h2 => ref_eq A3 A c3 c (putsV acc).length n2 w5.heap.size rb (putsV acc) (putsV acc) w1 rfl hn2 h1 h2 (by omega)
        have hrow := (hrx.take (putsV acc).length).row
        rw [HT.out] at hrow
        clear hg hown3 hrx
        go_wp2_with fail
        refine (heq _ _ (by first | omega | (simp at hqq; omega)) hr3.row hrow).mono ?_; rintro y w6 ⟨rfl, nq, hw6⟩
        have hg := grown_quiet hw6
        have hrd := hrd.quiet hg
        have hbw := hbw.trans (below_quiet (B := w.heap.size) hw6)
        have hsx := Nat.le_trans hsx hg.size
        clear hg hw6 heq hrow hr3
        go_wp2_with fail
        refine (rd_err (givenAt_some hrd)).mono ?_; rintro y w7 ⟨rfl, hrd, hg⟩
        have hbw := below_row hbw hg hwr (Nat.le_trans hwr hsx)
        have hsx := Nat.le_trans hsx hg.size
        clear hg
        go_wp2_with fail
        refine (rd_left (givenAt_some hrd)).mono ?_; rintro y w8 ⟨rfl, hrd, hg⟩
        have hbw := below_row hbw hg hwr (Nat.le_trans hwr hsx)
        have HBW := Lib.hid hbw
        clear hg hbw hrd
        go_wp2
        go_ret
        exact ⟨rfl, HBW.out⟩
      · have hk' : ¬ (k : Int) < 301 := by omega
        obtain ⟨A2, c2, rfl, hra, _⟩ := hown.read
        have hput := varint_put none 0 _ [] A2 acc.length c2 acc _ rfl (rdB_nil _ _) hra (okL_i64 OK.out) (Nat.le_refl _) (by simp; omega)
        clear hown hra
        go_wp2_with fail
        refine hput.mono ?_; rintro y w3 hpost
        obtain ⟨v3, rfl, hown3, hb3⟩ : RetB2 _ _ _ _ _ := hpost.elim (fun h => h.2) (fun h => by have := OK.out; rw [h.1] at this; cases this)
        rw [List.nil_append] at hown3
        have hrd := hrd.below hb3 hrd.lt
        have hbw := hbw.trans (hb3.mono hbw.size)
        have hrx := hrx.quiet (grown_of_below hb3 none) hsx
        have hsx := Nat.le_trans hsx hb3.size
        clear hput hpost hb3
        go_wp2_with fail
        refine (rd_left (givenAt_some hrd)).mono ?_; rintro y w4 ⟨rfl, hrd, hg⟩
        have hown3 := hown3.other hg hltx
        have hrx := hrx.grown hg (Nat.le_refl _) hsx
        have hbw := below_row hbw hg hwr (Nat.le_trans hwr hsx)
        have hsx := Nat.le_trans hsx hg.size
        clear hg
        go_wp2_with fail
        refine (rd_left (givenAt_some hrd)).mono ?_; rintro y w5 ⟨rfl, hrd, hg⟩
        have hown3 := hown3.other hg hltx
        have hrx := hrx.grown hg (Nat.le_refl _) hsx
        have hbw := below_row hbw hg hwr (Nat.le_trans hwr hsx)
        have hsx := Nat.le_trans hsx hg.size
        obtain ⟨A3, c3, rfl, hr3⟩ := hown3.read
        have heq := fun n2 w1 (hn2 : n2 = (putsV acc).length) h1 h2 => ref_eq A3 A c3 c (putsV acc).length n2 w5.heap.size rb (putsV acc) (putsV acc) w1 rfl hn2 h1 h2 (by omega)
        have hrow := (hrx.take (putsV acc).length).row
        rw [HT.out] at hrow
        clear hg hown3 hrx
        go_wp2_with fail
        refine (heq _ _ (by first | omega | (simp at hqq; omega)) hr3.row hrow).mono ?_; rintro y w6 ⟨rfl, nq, hw6⟩
        have hg := grown_quiet hw6
        have hrd := hrd.quiet hg
        have hbw := hbw.trans (below_quiet (B := w.heap.size) hw6)
        have hsx := Nat.le_trans hsx hg.size
        clear hg hw6 heq hrow hr3
        go_wp2_with fail
        refine (rd_err (givenAt_some hrd)).mono ?_; rintro y w7 ⟨rfl, hrd, hg⟩
        have hbw := below_row hbw hg hwr (Nat.le_trans hwr hsx)
        have hsx := Nat.le_trans hsx hg.size
        clear hg
        go_wp2_with fail
        refine (rd_left (givenAt_some hrd)).mono ?_; rintro y w8 ⟨rfl, hrd, hg⟩
        have hbw := below_row hbw hg hwr (Nat.le_trans hwr hsx)
        have HBW := Lib.hid hbw
        clear hg hbw hrd
        go_wp2
        go_ret
        exact ⟨rfl, HBW.out⟩
theorem varintOnce_walk (A : Option Addr) (c : Nat) (b : List UInt8) (w : World) (hr : RdB w w.heap.size A c b) :
    Calls Try.prog 5 #[.slice A b.length c] w fun e w' => e = .returned (.bool true) ∧ Below w.heap.size w w' := by
  by_cases h : 300 < b.length
  · exact varintOnce_out A _ c w (Nat.le_trans hr.room hr.cap) h
  · exact varintOnce_in A c b w hr (by omega)
end Go.Proofs.Ytmpiklhgflnglaa
