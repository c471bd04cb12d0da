/-
  The walks of the layer of numbers as bytes: the reader.
-/
import Derived.Test.YtonghhnodpjkfaaVarB
namespace Go.Proofs.Ytonghhnodpjkfaa
open Go.RowKit

/-- The reader at block b has the bytes l left, and the error e. -/
def RdAt (w : World) (b : Nat) (l : List UInt8) (e : Int) : Prop := w.heap[b]? = some (.cells #[.string (str l), .int .i64 e] 67 (0, 0))
theorem RdAt.lt {w : World} {b : Nat} {l : List UInt8} {e : Int} (h : RdAt w b l e) : b < w.heap.size := lt_of_block h
theorem RdAt.cells {w : World} {b : Nat} {l : List UInt8} {e : Int} (h : RdAt w b l e) :
    w.cell? ⟨b, 0, none⟩ = some (.string (str l)) ∧ w.cell? ⟨b, 1, none⟩ = some (.int .i64 e) ∧ w.frozen? ⟨b, 0, none⟩ = false ∧ w.frozen? ⟨b, 1, none⟩ = false := by
  have h : w.heap[b]? = _ := h
  refine ⟨?_, ?_, ?_, ?_⟩ <;> simp [World.cell?, World.frozen?, h]
theorem RdAt.kept {w w' : World} {b : Nat} {l : List UInt8} {e : Int} {row : Option Nat} (h : RdAt w b l e) (hg : w.grownBy w' row) (hne : some b ≠ row) : RdAt w' b l e := (hg.block b h.lt hne).trans h
theorem RdAt.below {w w' : World} {b B : Nat} {l : List UInt8} {e : Int} (h : RdAt w b l e) (hb : Below B w w') (hB : b < B) : RdAt w' b l e := (hb.block b hB).trans h
theorem RdAt.setText {w : World} {b : Nat} {l : List UInt8} {e : Int} (h : RdAt w b l e) (l' : List UInt8) : RdAt (w.setCell ⟨b, 0, none⟩ (.string (str l'))) b l' e := heap_setCell_self h _
theorem RdAt.setErr {w : World} {b : Nat} {l : List UInt8} {e : Int} (h : RdAt w b l e) (e' : Int) : RdAt (w.setCell ⟨b, 1, none⟩ (.int .i64 e')) b l e' := heap_setCell_self h _

/-- What a call leaves that works on the reader at b alone. -/
def RdPost (w : World) (b : Nat) (v : Value) (l : List UInt8) (e : Int) (x : Ending) (w' : World) : Prop := x = .returned v ∧ RdAt w' b l e ∧ w.grownBy w' (some b)
theorem RdPost.mk {w w' : World} {b : Nat} {v v' : Value} {l l' : List UInt8} {e e' : Int} (h : RdAt w' b l' e') (hg : w.grownBy w' (some b)) (hv : v' = v) (hl : l' = l) (he : e' = e) : RdPost w b v l e (.returned v') w' := by
  subst hv hl he; exact ⟨rfl, h, hg⟩

set_option maxHeartbeats 400000 in
theorem varint_new (A : Option Addr) (c B : Nat) (l : List UInt8) (w : World) (h : RdB w B A c l) :
    Calls Try.prog 29 #[.slice A l.length c] w fun e w' => e = .returned (.pointer (some ⟨w.heap.size, 0, none⟩)) ∧ RdAt w' w.heap.size l 0 ∧ Below w.heap.size w w' := by
  have K1 := conv_str (P := Try.prog) c 25 5 9 Try.underlying25 Try.underlying5 Try.underlying9 h.row
  go_enter Try.func29, Try.ntmps29
  go_wp2
  go_ret
  exact ⟨rfl, heap_new _ _ _ rfl, (Below.refl _ _).alloc (Nat.le_refl _) _⟩

set_option maxHeartbeats 400000 in
theorem given_some (a : Addr) (w : World) :
    Calls Try.prog 36 #[.pointer (some a)] w fun e w' => e = .returned (.pointer (some a)) ∧ w = w' := by
  go_enter Try.func36, Try.ntmps36
  go_wp2
  go_ret
  exact ⟨rfl, rfl⟩
set_option maxHeartbeats 400000 in
theorem given_none (w : World) :
    Calls Try.prog 36 #[.pointer none] w fun e w' => e = .returned (.pointer (some ⟨w.heap.size, 0, none⟩)) ∧ RdAt w' w.heap.size [] 1 ∧ Below w.heap.size w w' := by
  go_enter Try.func36, Try.ntmps36
  go_wp2
  go_ret
  exact ⟨rfl, heap_new _ _ _ rfl, (Below.refl _ _).alloc (Nat.le_refl _) _⟩

set_option maxHeartbeats 400000 in
theorem numbers_fail (b : Nat) (l : List UInt8) (e x e2 : Int) (w : World) (h : RdAt w b l e) (h2 : e2 = if e = 0 then x else e) :
    Calls Try.prog 39 #[.pointer (some ⟨b, 0, none⟩), .int .i64 x] w (RdPost w b (.tuple #[]) l e2) := by
  obtain ⟨c0, c1, z0, z1⟩ := h.cells
  have H := Lib.hid h
  clear h
  by_cases he : e = 0
  · subst he
    rw [if_pos rfl] at h2
    subst h2
    go_enter Try.func39, Try.ntmps39
    go_wp2
    go_end0
    exact ⟨rfl, H.out.setErr _, grownBy_set _ _ _ _⟩
  · rw [if_neg he] at h2
    subst h2
    go_enter Try.func39, Try.ntmps39
    go_wp2
    go_end0
    exact ⟨rfl, H.out, World.grownBy.refl _ _⟩

set_option maxHeartbeats 400000 in
theorem numbers_number (b : Nat) (l : List UInt8) (e : Int) (w : World) (h : RdAt w b l e) (hl : l.length ≤ 9223372036854775807) :
    Calls Try.prog 37 #[.pointer (some ⟨b, 0, none⟩)] w (RdPost w b (.int .i64 (numR l e).1) (numR l e).2.1 (numR l e).2.2) := by
  obtain ⟨c0, c1, z0, z1⟩ := h.cells
  by_cases he : e = 0
  · subst he
    have hcut := varint_cut l w hl
    have hle := cutV_le l
    have hnum : numR l 0 = ((cutV l).1, l.drop (cutV l).2.1, ((cutV l).2.2 : Int)) := by
      unfold numR
      by_cases hx : (cutV l).2.2 = 0
      · rw [if_pos rfl, if_pos hx, hx]; rfl
      · have := cutV_err hx
        rw [if_pos rfl, if_neg hx, this.1, this.2]; simp
    obtain ⟨n, hn⟩ : ∃ n, (cutV l).1 = n := ⟨_, rfl⟩
    obtain ⟨k, hk⟩ : ∃ k, (cutV l).2.1 = k := ⟨_, rfl⟩
    obtain ⟨x, hx⟩ : ∃ x, (cutV l).2.2 = x := ⟨_, rfl⟩
    rw [hn, hk, hx] at hcut hnum
    rw [hk] at hle
    rw [hnum]
    have hsz := str_size l
    have hdrop := str_drop l k
    rw [← hsz] at hle hdrop
    have hf := numbers_fail b l 0 x x w h (by rw [if_pos rfl])
    have HD := Lib.hid hdrop
    have hs63 : (str l).size ≤ 9223372036854775807 := by omega
    clear h hn hk hx hnum hdrop hsz
    go_enter Try.func37, Try.ntmps37
    go_wp2_with fail
    refine hcut.mono ?_; rintro y w1 ⟨rfl, rfl⟩
    clear hcut
    go_wp2_with fail
    refine hf.mono ?_; rintro y w1 ⟨rfl, hr, hg⟩
    clear hf c0 c1 z0 z1
    obtain ⟨c0, c1, z0, z1⟩ := hr.cells
    have H := Lib.hid hr
    clear hr
    go_wp2
    go_ret
    exact ⟨rfl, by rw [HD.out]; exact H.out.setText _, hg.trans (grownBy_set _ _ _ _)⟩
  · rw [numR_err he]
    have H := Lib.hid h
    clear h
    go_enter Try.func37, Try.ntmps37
    go_wp2
    go_ret
    exact ⟨rfl, H.out, World.grownBy.refl _ _⟩
end Go.Proofs.Ytonghhnodpjkfaa
