/-
  The walks of the layer of numbers as bytes: the reader's calls, of one that is there and of one that is none.
-/
import Derived.Test.YtmpiklhgflnglaaVarC
namespace Go.Proofs.Ytmpiklhgflnglaa
open Go.RowKit

/-- The reader that pv points to (a new one that failed, if it points to none) lies at block b, and has the bytes l left, and the error e. -/
def GivenAt (pv : Value) (w : World) (b : Nat) (l : List UInt8) (e : Int) : Prop := Calls Try.prog 29 #[pv] w (RdPost w b (.pointer (some ⟨b, 0, none⟩)) l e)
theorem givenAt_some {w : World} {b : Nat} {l : List UInt8} {e : Int} (h : RdAt w b l e) : GivenAt (.pointer (some ⟨b, 0, none⟩)) w b l e :=
  (given_some _ w).mono fun _ _ ⟨hy, hw⟩ => by subst hw; exact ⟨hy, h, World.grownBy.refl _ _⟩
theorem givenAt_none (w : World) : GivenAt (.pointer none) w w.heap.size [] 1 :=
  (given_none w).mono fun _ _ ⟨hy, hr, hb⟩ => ⟨hy, hr, grown_of_below hb _⟩

set_option maxHeartbeats 400000 in
theorem rd_number {pv : Value} {w : World} {b : Nat} {l : List UInt8} {e : Int} (hv : GivenAt pv w b l e) (hl : l.length ≤ 9223372036854775807) :
    Calls Try.prog 13 #[pv] w (RdPost w b (.int .i64 (numR l e).1) (numR l e).2.1 (numR l e).2.2) := by
  go_enter Try.func13, Try.ntmps13
  go_wp2_with fail
  refine Calls.mono hv ?_; rintro y w1 ⟨rfl, hr, hg⟩
  clear hv
  go_wp2_with fail
  refine (numbers_number b l e w1 hr hl).mono ?_; rintro y w2 ⟨rfl, hr2, hg2⟩
  go_wp2
  go_ret
  exact ⟨rfl, hr2, hg.trans hg2⟩

set_option maxHeartbeats 400000 in
theorem rd_left {pv : Value} {w : World} {b : Nat} {l : List UInt8} {e : Int} (hv : GivenAt pv w b l e) :
    Calls Try.prog 16 #[pv] w (RdPost w b (.int .i64 l.length) l e) := by
  have hsz := Lib.hid (str_size l)
  go_enter Try.func16, Try.ntmps16
  go_wp2_with fail
  refine Calls.mono hv ?_; rintro y w1 ⟨rfl, hr, hg⟩
  clear hv
  obtain ⟨c0, c1, z0, z1⟩ := hr.cells
  have H := Lib.hid hr
  clear hr
  go_wp2
  go_ret
  exact ⟨by show Ending.returned (.int .i64 ((str l).size : Nat)) = _; rw [hsz.out], H.out, hg⟩

set_option maxHeartbeats 400000 in
theorem rd_err {pv : Value} {w : World} {b : Nat} {l : List UInt8} {e : Int} (hv : GivenAt pv w b l e) :
    Calls Try.prog 24 #[pv] w (RdPost w b (.int .i64 e) l e) := by
  go_enter Try.func24, Try.ntmps24
  go_wp2_with fail
  refine Calls.mono hv ?_; rintro y w1 ⟨rfl, hr, hg⟩
  clear hv
  obtain ⟨c0, c1, z0, z1⟩ := hr.cells
  have H := Lib.hid hr
  clear hr
  go_wp2
  go_ret
  exact ⟨rfl, H.out, hg⟩

set_option maxHeartbeats 400000 in
theorem rd_fail {pv : Value} {w : World} {b : Nat} {l : List UInt8} {e : Int} (hv : GivenAt pv w b l e) (x e2 : Int) (h2 : e2 = if e = 0 then x else e) :
    Calls Try.prog 22 #[pv, .int .i64 x] w (RdPost w b (.tuple #[]) l e2) := by
  have H2 := Lib.hid h2
  clear h2
  go_enter Try.func22, Try.ntmps22
  go_wp2_with fail
  refine Calls.mono hv ?_; rintro y w1 ⟨rfl, hr, hg⟩
  clear hv
  go_wp2_with fail
  refine (numbers_fail b l e x e2 w1 hr H2.out).mono ?_; rintro y w2 ⟨rfl, hr2, hg2⟩
  go_wp2
  go_end0
  exact ⟨rfl, hr2, hg.trans hg2⟩

set_option maxHeartbeats 400000 in
theorem rd_end {pv : Value} {w : World} {b : Nat} {l : List UInt8} {e : Int} (hv : GivenAt pv w b l e) :
    Calls Try.prog 15 #[pv] w (RdPost w b (.int .i64 (endR l e)) l e) := by
  have hsz := str_toList l
  by_cases he : e = 0
  · by_cases hl : l = []
    · have fin : endR l e = 0 := by unfold endR; rw [if_neg (by simp [hl])]; exact he
      subst he
      rw [fin]
      have h1 : (str l).toList = [] := by rw [hsz]; exact hl
      have h2 : (str l).toList.isEmpty = true := by rw [h1]; rfl
      clear hl fin hsz
      go_enter Try.func15, Try.ntmps15
      go_wp2_with fail
      refine Calls.mono hv ?_; rintro y w1 ⟨rfl, hr, hg⟩
      clear hv
      obtain ⟨c0, c1, z0, z1⟩ := hr.cells
      have H := Lib.hid hr
      clear hr
      go_wp2
      go_ret
      exact ⟨rfl, H.out, hg⟩
    · have fin : endR l e = 14 := by unfold endR; rw [if_pos ⟨he, hl⟩]
      subst he
      rw [fin]
      have h1 : ((str l).toList == []) = false := by rw [hsz]; simp [hl]
      have h2 : (str l).toList.isEmpty = false := by rw [hsz]; simp [hl]
      clear hl fin hsz
      go_enter Try.func15, Try.ntmps15
      go_wp2_with fail
      refine Calls.mono hv ?_; rintro y w1 ⟨rfl, hr, hg⟩
      clear hv
      obtain ⟨c0, c1, z0, z1⟩ := hr.cells
      have H := Lib.hid hr
      clear hr
      go_wp2
      go_ret
      exact ⟨rfl, H.out, hg⟩
  · have fin : endR l e = e := by unfold endR; rw [if_neg (by simp [he])]
    rw [fin]
    have h1 : (e == 0) = false := by simpa using he
    clear fin hsz
    go_enter Try.func15, Try.ntmps15
    go_wp2_with fail
    refine Calls.mono hv ?_; rintro y w1 ⟨rfl, hr, hg⟩
    clear hv
    obtain ⟨c0, c1, z0, z1⟩ := hr.cells
    have H := Lib.hid hr
    clear hr
    go_wp2
    go_ret
    exact ⟨rfl, H.out, hg⟩

set_option maxHeartbeats 1000000 in
theorem rd_within {pv : Value} {w : World} {b : Nat} {l : List UInt8} {e : Int} (hv : GivenAt pv w b l e) (lo hi : Int) (hl : l.length ≤ 9223372036854775807) :
    Calls Try.prog 18 #[pv, .int .i64 lo, .int .i64 hi] w (RdPost w b (.int .i64 (withinR lo hi l e).1) (withinR lo hi l e).2.1 (withinR lo hi l e).2.2) := by
  obtain ⟨n, hn⟩ : ∃ n, (numR l e).1 = n := ⟨_, rfl⟩
  obtain ⟨l1, hl1⟩ : ∃ l1, (numR l e).2.1 = l1 := ⟨_, rfl⟩
  obtain ⟨e1, he1⟩ : ∃ e1, (numR l e).2.2 = e1 := ⟨_, rfl⟩
  have hnum := fun w1 hr => numbers_number b l e w1 hr hl
  rw [hn, hl1, he1] at hnum
  by_cases hin : (n : Int) < lo ∨ hi < (n : Int)
  · have fin : withinR lo hi l e = (0, l, if e1 = 0 then 11 else e1) := by unfold withinR; rw [hn, he1, if_pos hin]
    obtain ⟨e2, he2⟩ : ∃ e2, e2 = if e1 = 0 then 11 else e1 := ⟨_, rfl⟩
    rw [fin, ← he2]
    have HE2 := Lib.hid he2
    clear hn hl1 he1 fin he2
    by_cases h1 : (n : Int) < lo
    all_goals
      go_enter Try.func18, Try.ntmps18
      go_wp2_with fail
      refine Calls.mono hv ?_; rintro y w1 ⟨rfl, hr, hg⟩
      clear hv
      obtain ⟨c0, c1, z0, z1⟩ := hr.cells
      have H := Lib.hid hr
      clear hr
      go_wp2_with fail
      refine (hnum w1 H.out).mono ?_; rintro y w2 ⟨rfl, hr2, hg2⟩
      clear hnum c0 c1 z0 z1
      have HU := Lib.hid (numbers_undo b l1 l e1 11 e2 w2 hr2 HE2.out)
      clear hr2
      have h2 : ¬ (n : Int) < lo → hi < (n : Int) := fun h => by omega
      go_wp2_with fail
      refine HU.out.mono ?_; rintro y w3 ⟨rfl, hr3, hg3⟩
      go_wp2
      go_ret
      exact ⟨rfl, hr3, (hg.trans hg2).trans hg3⟩
  · have fin : withinR lo hi l e = (n, l1, e1) := by unfold withinR; rw [hn, if_neg hin, ← hn, ← hl1, ← he1]
    rw [fin]
    clear hn hl1 he1 fin
    have h1 : ¬ (n : Int) < lo := by omega
    have h2 : ¬ hi < (n : Int) := by omega
    clear hin
    go_enter Try.func18, Try.ntmps18
    go_wp2_with fail
    refine Calls.mono hv ?_; rintro y w1 ⟨rfl, hr, hg⟩
    clear hv
    obtain ⟨c0, c1, z0, z1⟩ := hr.cells
    have H := Lib.hid hr
    clear hr
    go_wp2_with fail
    refine (hnum w1 H.out).mono ?_; rintro y w2 ⟨rfl, hr2, hg2⟩
    clear hnum c0 c1 z0 z1
    have H2 := Lib.hid hr2
    clear hr2
    go_wp2
    go_ret
    exact ⟨rfl, H2.out, hg.trans hg2⟩

def boolR (l : List UInt8) (e : Int) : Bool := decide ((withinR 0 1 l e).1 = 1)
set_option maxHeartbeats 400000 in
theorem rd_bool {pv : Value} {w : World} {b : Nat} {l : List UInt8} {e : Int} (hv : GivenAt pv w b l e) (hl : l.length ≤ 9223372036854775807) :
    Calls Try.prog 20 #[pv] w (RdPost w b (.bool (boolR l e)) (withinR 0 1 l e).2.1 (withinR 0 1 l e).2.2) := by
  have hw := rd_within hv 0 1 hl
  have hb : boolR l e = decide ((withinR 0 1 l e).1 = 1) := rfl
  generalize boolR l e = r at *
  obtain ⟨n, hn⟩ : ∃ n, (withinR 0 1 l e).1 = n := ⟨_, rfl⟩
  rw [hn] at hw hb
  generalize (withinR 0 1 l e).2.1 = l1 at *
  generalize (withinR 0 1 l e).2.2 = e1 at *
  clear hn hv
  by_cases h1 : n = 1
  · subst h1
    obtain rfl : r = true := by rw [hb]; rfl
    clear hb
    go_enter Try.func20, Try.ntmps20
    go_wp2_with fail
    refine hw.mono ?_; rintro y w1 ⟨rfl, hr, hg⟩
    clear hw
    go_wp2
    go_ret
    exact ⟨rfl, hr, hg⟩
  · obtain rfl : r = false := by rw [hb]; simpa using h1
    clear hb
    have h2 : ((n : Int) == 1) = false := by simp; omega
    go_enter Try.func20, Try.ntmps20
    go_wp2_with fail
    refine hw.mono ?_; rintro y w1 ⟨rfl, hr, hg⟩
    clear hw
    go_wp2
    go_ret
    exact ⟨rfl, hr, hg⟩

set_option maxHeartbeats 1000000 in
theorem rd_text {pv : Value} {w : World} {b : Nat} {l : List UInt8} {e : Int} (hv : GivenAt pv w b l e) (most : Int) (hl : l.length ≤ 9223372036854775807) :
    Calls Try.prog 14 #[pv, .int .i64 most] w (RdPost w b (.string (str (textR most l e).1)) (textR most l e).2.1 (textR most l e).2.2) := by
  have hlen1 := withinR_len 0 most l e
  obtain ⟨n, hn⟩ : ∃ n, (withinR 0 most l e).1 = n := ⟨_, rfl⟩
  obtain ⟨l1, hl1⟩ : ∃ l1, (withinR 0 most l e).2.1 = l1 := ⟨_, rfl⟩
  obtain ⟨e1, he1⟩ : ∃ e1, (withinR 0 most l e).2.2 = e1 := ⟨_, rfl⟩
  have hwi := fun w1 (hr : RdAt w1 b l e) => rd_within (givenAt_some hr) 0 most hl
  have hdef : textR most l e = if l1.length < n then ([], l, if e1 = 0 then 10 else e1) else (l1.take n, l1.drop n, e1) := by unfold textR; rw [hn, hl1, he1]
  rw [hn, hl1, he1] at hwi
  rw [hl1] at hlen1
  rw [hdef]
  clear hdef hn hl1 he1
  have hsz := str_size l1
  have hs63 : (str l1).size ≤ 9223372036854775807 := by omega
  by_cases hin : l1.length < n
  · rw [if_pos hin]
    obtain ⟨e2, he2⟩ : ∃ e2, e2 = if e1 = 0 then 10 else e1 := ⟨_, rfl⟩
    rw [← he2]
    have HE2 := Lib.hid he2
    have h1 : (str l1).size < n := by omega
    clear he2 hin hsz
    go_enter Try.func14, Try.ntmps14
    go_wp2_with fail
    refine Calls.mono hv ?_; rintro y w1 ⟨rfl, hr, hg⟩
    clear hv
    obtain ⟨c0, c1, z0, z1⟩ := hr.cells
    have H := Lib.hid hr
    clear hr
    go_wp2_with fail
    refine (hwi w1 H.out).mono ?_; rintro y w2 ⟨rfl, hr2, hg2⟩
    clear hwi c0 c1 z0 z1
    obtain ⟨c0, c1, z0, z1⟩ := hr2.cells
    have HU := Lib.hid (numbers_undo b l1 l e1 10 e2 w2 hr2 HE2.out)
    clear hr2
    go_wp2_with fail
    refine HU.out.mono ?_; rintro y w3 ⟨rfl, hr3, hg3⟩
    clear c0 c1 z0 z1
    go_wp2
    go_ret
    exact ⟨rfl, hr3, (hg.trans hg2).trans hg3⟩
  · rw [if_neg hin]
    have h1 : n ≤ (str l1).size := by omega
    have HT := Lib.hid (str_take l1 n)
    have hd := str_drop l1 n
    rw [← hsz] at hd
    have HD := Lib.hid hd
    clear hd hin hsz
    go_enter Try.func14, Try.ntmps14
    go_wp2_with fail
    refine Calls.mono hv ?_; rintro y w1 ⟨rfl, hr, hg⟩
    clear hv
    obtain ⟨c0, c1, z0, z1⟩ := hr.cells
    have H := Lib.hid hr
    clear hr
    go_wp2_with fail
    refine (hwi w1 H.out).mono ?_; rintro y w2 ⟨rfl, hr2, hg2⟩
    clear hwi c0 c1 z0 z1
    obtain ⟨c0, c1, z0, z1⟩ := hr2.cells
    have H2 := Lib.hid hr2
    clear hr2
    go_wp2
    go_ret
    refine ⟨?_, ?_, (hg.trans hg2).trans (grownBy_set _ _ _ _)⟩
    · rw [← HT.out]; rfl
    · rw [HD.out]; exact H2.out.setText _
end Go.Proofs.Ytmpiklhgflnglaa
