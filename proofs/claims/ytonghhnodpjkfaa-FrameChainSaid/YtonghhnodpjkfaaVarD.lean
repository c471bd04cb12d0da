/-
  The walks of the layer of numbers as bytes: the reader's calls, of one that is there and of one that is none.
-/
import Derived.Test.YtonghhnodpjkfaaVarC
namespace Go.Proofs.Ytonghhnodpjkfaa
open Go.RowKit

/-- The reader that pv points to (a new one that failed, if it points to none) lies at block b, and has the bytes l left, and the error e. -/
def GivenAt (pv : Value) (w : World) (b : Nat) (l : List UInt8) (e : Int) : Prop := Calls Try.prog 36 #[pv] w (RdPost w b (.pointer (some ⟨b, 0, none⟩)) l e)
theorem givenAt_some {w : World} {b : Nat} {l : List UInt8} {e : Int} (h : RdAt w b l e) : GivenAt (.pointer (some ⟨b, 0, none⟩)) w b l e :=
  (given_some _ w).mono fun _ _ ⟨hy, hw⟩ => by subst hw; exact ⟨hy, h, World.grownBy.refl _ _⟩
theorem givenAt_none (w : World) : GivenAt (.pointer none) w w.heap.size [] 1 :=
  (given_none w).mono fun _ _ ⟨hy, hr, hb⟩ => ⟨hy, hr, grown_of_below hb _⟩

set_option maxHeartbeats 400000 in
theorem rd_number {pv : Value} {w : World} {b : Nat} {l : List UInt8} {e : Int} (hv : GivenAt pv w b l e) (hl : l.length ≤ 9223372036854775807) :
    Calls Try.prog 30 #[pv] w (RdPost w b (.int .i64 (numR l e).1) (numR l e).2.1 (numR l e).2.2) := by
  go_enter Try.func30, Try.ntmps30
  go_wp2_with fail
  refine Calls.mono hv ?_; rintro y w1 ⟨rfl, hr, hg⟩
  clear hv
  go_wp2_with fail
  refine (numbers_number b l e w1 hr hl).mono ?_; rintro y w2 ⟨rfl, hr2, hg2⟩
  go_wp2
  go_ret
  exact ⟨rfl, hr2, hg.trans hg2⟩

set_option maxHeartbeats 400000 in
theorem rd_left {pv : Value} {w : World} {b : Nat} {l : List UInt8} {e : Int} (hv : GivenAt pv w b l e) :
    Calls Try.prog 32 #[pv] w (RdPost w b (.int .i64 l.length) l e) := by
  have hsz := Lib.hid (str_size l)
  go_enter Try.func32, Try.ntmps32
  go_wp2_with fail
  refine Calls.mono hv ?_; rintro y w1 ⟨rfl, hr, hg⟩
  clear hv
  obtain ⟨c0, c1, z0, z1⟩ := hr.cells
  have H := Lib.hid hr
  clear hr
  go_wp2
  go_ret
  exact ⟨by show Ending.returned (.int .i64 ((str l).size : Nat)) = _; rw [hsz.out], H.out, hg⟩

set_option maxHeartbeats 400000 in
theorem rd_err {pv : Value} {w : World} {b : Nat} {l : List UInt8} {e : Int} (hv : GivenAt pv w b l e) :
    Calls Try.prog 31 #[pv] w (RdPost w b (.int .i64 e) l e) := by
  go_enter Try.func31, Try.ntmps31
  go_wp2_with fail
  refine Calls.mono hv ?_; rintro y w1 ⟨rfl, hr, hg⟩
  clear hv
  obtain ⟨c0, c1, z0, z1⟩ := hr.cells
  have H := Lib.hid hr
  clear hr
  go_wp2
  go_ret
  exact ⟨rfl, H.out, hg⟩

def boolR (l : List UInt8) (e : Int) : Bool := decide ((withinR 0 1 l e).1 = 1)
end Go.Proofs.Ytonghhnodpjkfaa
