/-
  The walks of the document's own reader: its calls.
-/
import Derived.Test.YtmpiklhgflnglaaVarF
namespace Go.Proofs.Ytmpiklhgflnglaa
open Go.RowKit

/-- Where 'b[k:]' begins. -/
def cutA (A : Option Addr) (k c : Nat) : Option Addr := if c = k then A else A.map (·.add k)
theorem run_cut {T E : TypeId} (ht : Try.prog.underlying T = some (.slice E)) (hs : ∀ w, (sizeOf E).run Try.prog w = .ok 1 w) (w : World) (A : Option Addr) (n c k : Nat) (hk : k ≤ n) :
    (Instr.slice T (.slice A n c) (some (.int .i64 (k : Int))) none none).run Try.prog w = .ok (.slice (cutA A k c) (n - k) (c - k)) w := by
  have ht' : Try.prog.underlying T = some (.slice (Try.prog.elem T)) := by simp [Program.elem, ht]
  have he : Try.prog.elem T = E := by simp [Program.elem, ht]
  rw [run_slice_l w T _ _ _ ht' .i64 _ (by omega) (by omega), he, hs]
  simp [Result.andThen, sliced, cutA]
theorem RowAt.cut {w : World} {B : Nat} {A : Option Addr} {l : List Value} {k c : Nat} (h : RowAt w B A l) (hk : k ≤ l.length) (hc : l.length ≤ c) : RowAt w B (cutA A k c) (l.drop k) := by
  unfold cutA
  split
  · left
    exact List.drop_of_length_le (by omega)
  · rcases h with h | ⟨b, o, rfl, h2, h3⟩
    · left; rw [h]; simp
    · refine .inr ⟨b, o + k, by simp [Go.WideShapes.add_plain], h2, fun j u hu => ?_⟩
      rw [Nat.add_assoc]
      exact h3 _ u (by rw [← hu, List.getElem?_drop])
theorem RowAt.drewN {w : World} {B : Nat} {A : Option Addr} {l : List Value} (h : RowAt w B A l) (k : Nat) : RowAt (w.drewN k) B A l := h
theorem RdB.cut {w : World} {B : Nat} {A : Option Addr} {c k : Nat} {l : List UInt8} (h : RdB w B A c l) (hk : k ≤ l.length) : RdB w B (cutA A k c) (c - k) (l.drop k) :=
  ⟨by have := RowAt.cut h.row (k := k) (c := c) (by simpa using hk) (by simpa using h.room)
      simpa [bytes] using this, by have := h.room; simp; omega, by have := h.cap; omega⟩

/-- The document's reader at block m: the bytes, where it stands, and the error. -/
def RfAt (w : World) (m : Nat) (A : Option Addr) (n c at' : Nat) (e : Int) : Prop := w.heap[m]? = some (.cells #[.slice A n c, .int .i64 (at' : Int), .int .i64 e] 42 (0, 0))
theorem RfAt.lt {w : World} {m n c a : Nat} {A : Option Addr} {e : Int} (h : RfAt w m A n c a e) : m < w.heap.size := lt_of_block h
theorem RfAt.cells {w : World} {m n c a : Nat} {A : Option Addr} {e : Int} (h : RfAt w m A n c a e) :
    w.cell? ⟨m, 0, none⟩ = some (.slice A n c) ∧ w.cell? ⟨m, 1, none⟩ = some (.int .i64 (a : Int)) ∧ w.cell? ⟨m, 2, none⟩ = some (.int .i64 e) ∧ w.frozen? ⟨m, 0, none⟩ = false ∧ w.frozen? ⟨m, 1, none⟩ = false ∧ w.frozen? ⟨m, 2, none⟩ = false := by
  have h : w.heap[m]? = _ := h
  refine ⟨?_, ?_, ?_, ?_, ?_, ?_⟩ <;> simp [World.cell?, World.frozen?, h]
theorem RfAt.kept {w w' : World} {m n c a : Nat} {A : Option Addr} {e : Int} {row : Option Nat} (h : RfAt w m A n c a e) (hg : w.grownBy w' row) (hne : some m ≠ row) : RfAt w' m A n c a e := (hg.block m h.lt hne).trans h
theorem RfAt.setPos {w : World} {m n c a : Nat} {A : Option Addr} {e : Int} (h : RfAt w m A n c a e) (a' : Nat) : RfAt (w.setCell ⟨m, 1, none⟩ (.int .i64 (a' : Int))) m A n c a' e := heap_setCell_self h _
theorem RfAt.setErr {w : World} {m n c a : Nat} {A : Option Addr} {e : Int} (h : RfAt w m A n c a e) (e' : Int) : RfAt (w.setCell ⟨m, 2, none⟩ (.int .i64 e')) m A n c a e' := heap_setCell_self h _
theorem RfAt.drewN {w : World} {m n c a : Nat} {A : Option Addr} {e : Int} (h : RfAt w m A n c a e) (k : Nat) : RfAt (w.drewN k) m A n c a e := h
theorem grownBy_drewN {w w' : World} {row : Option Nat} (h : w.grownBy w' row) (k : Nat) : w.grownBy (w'.drewN k) row := ⟨h.os, h.tape, h.output, h.size, h.block⟩
theorem grownBy_drewN' (w : World) (row : Option Nat) (k : Nat) : w.grownBy (w.drewN k) row := grownBy_drewN (World.grownBy.refl w row) k

/-- What a call leaves that works on the document's reader alone: its answer, what it has left, and its error. -/
def RfPost (w : World) (m : Nat) (A : Option Addr) (c : Nat) (b : List UInt8) (v : Value) (l : List UInt8) (e : Int) (x : Ending) (w' : World) : Prop :=
  x = .returned v ∧ ∃ a, a ≤ b.length ∧ l = b.drop a ∧ RfAt w' m A b.length c a e ∧ w.grownBy w' (some m)

theorem byte_size (w : World) : (sizeOf 5).run Try.prog w = .ok 1 w := by kernel_rfl

set_option maxHeartbeats 1000000 in
set_option maxRecDepth 100000 in
theorem rf_within {w : World} {m B a c : Nat} {A : Option Addr} {b : List UInt8} {e : Int} (h : RfAt w m A b.length c a e) (hr : RdB w B A c b) (ha : a ≤ b.length) (lo hi : Int) (hl : b.length ≤ 1000000) :
    Calls Try.prog 19 #[.pointer (some ⟨m, 0, none⟩), .int .i64 lo, .int .i64 hi] w
      (RfPost w m A c b (.int .i64 (withinR lo hi (b.drop a) e).1) (withinR lo hi (b.drop a) e).2.1 (withinR lo hi (b.drop a) e).2.2) := by
  obtain ⟨c0, c1, c2, z0, z1, z2⟩ := h.cells
  have H := Lib.hid h
  clear h
  by_cases he : e = 0
  · subst he
    have K1 := fun w : World => run_cut (T := 22) (E := 5) Try.underlying22 byte_size w A b.length c a ha
    obtain ⟨n, k, x, hcut⟩ : ∃ n k x, cutV (b.drop a) = (n, k, x) := ⟨_, _, _, rfl⟩
    have hn : ∀ w1 : World, RowAt w1 B (cutA A a c) (bytes (b.drop a)) → Calls Try.prog 32 #[.slice (cutA A a c) (b.length - a) (c - a)] w1 fun e w' => e = .returned (.tuple #[.int .i64 n, .int .i64 k, .int .i64 x]) ∧ w' = w1 := fun w1 hrr =>
      (ref_number (cutA A a c) (b.length - a) (c - a) B (b.drop a) w1 (by simp) hrr (by simp; omega)).mono fun _ _ ⟨h1, h2⟩ => ⟨by rw [h1, hcut], h2.symm⟩
    have hrr := (hr.cut ha).row
    obtain ⟨hk1, hk8, hn48, F1, F2, F3⟩ := withinR_cut (lo := lo) (hi := hi) hcut
    have HK := Lib.hid hk1
    clear hcut hk1
    generalize withinR lo hi (b.drop a) 0 = W at *
    generalize cutA A a c = A' at *
    by_cases hx : x = 0
    · subst hx
      by_cases hlo : (n : Int) < lo
      · have fin := F2 rfl (.inl hlo)
        subst fin
        clear F1 F2 F3
        go_enter Try.func19, Try.ntmps19
        go_wp2
        go_quiet ((go_at_call 32; exact Calls.quiet_of_same (hn _ (hrr.drewN _))))
        clear hn hrr K1
        go_wp2
        go_ret
        exact ⟨rfl, a, ha, rfl, (H.out.drewN _).setErr _, (grownBy_drewN' _ _ _).trans (grownBy_set _ _ _ _)⟩
      · by_cases hhi : hi < (n : Int)
        · have fin := F2 rfl (.inr hhi)
          subst fin
          clear F1 F2 F3
          go_enter Try.func19, Try.ntmps19
          go_wp2
          go_quiet ((go_at_call 32; exact Calls.quiet_of_same (hn _ (hrr.drewN _))))
          clear hn hrr K1
          go_wp2
          go_ret
          exact ⟨rfl, a, ha, rfl, (H.out.drewN _).setErr _, (grownBy_drewN' _ _ _).trans (grownBy_set _ _ _ _)⟩
        · have fin := F3 rfl (by omega)
          subst fin
          have FD : Hid (a + k ≤ b.length ∧ List.drop k (b.drop a) = b.drop (a + k)) := ⟨by have := HK.out; simp at this; omega, by rw [List.drop_drop]⟩
          have EK := Lib.hid (show ((a : Int) + (k : Int)) = ((a + k : Nat) : Int) by omega)
          clear F1 F2 F3
          go_enter Try.func19, Try.ntmps19
          go_wp2
          go_quiet ((go_at_call 32; exact Calls.quiet_of_same (hn _ (hrr.drewN _))))
          clear hn hrr K1
          go_wp2
          go_ret
          exact ⟨rfl, a + k, FD.out.1, FD.out.2, by rw [EK.out]; exact (H.out.drewN _).setPos _, (grownBy_drewN' _ _ _).trans (grownBy_set _ _ _ _)⟩
    · have fin := F1 hx
      have hx' : ((x : Int) == 0) = false := by simpa using hx
      subst fin
      clear F1 F2 F3
      go_enter Try.func19, Try.ntmps19
      go_wp2
      go_quiet ((go_at_call 32; exact Calls.quiet_of_same (hn _ (hrr.drewN _))))
      clear hn hrr K1
      go_wp2
      go_ret
      exact ⟨rfl, a, ha, rfl, (H.out.drewN _).setErr _, (grownBy_drewN' _ _ _).trans (grownBy_set _ _ _ _)⟩
  · rw [withinR_err he]
    go_enter Try.func19, Try.ntmps19
    go_wp2
    go_ret
    exact ⟨rfl, a, ha, rfl, H.out, World.grownBy.refl _ _⟩

set_option maxHeartbeats 400000 in
theorem rf_number {w : World} {m B a c : Nat} {A : Option Addr} {b : List UInt8} {e : Int} (h : RfAt w m A b.length c a e) (hr : RdB w B A c b) (ha : a ≤ b.length) (hl : b.length ≤ 1000000) :
    Calls Try.prog 17 #[.pointer (some ⟨m, 0, none⟩)] w
      (RfPost w m A c b (.int .i64 (numR (b.drop a) e).1) (numR (b.drop a) e).2.1 (numR (b.drop a) e).2.2) := by
  have hw := rf_within h hr ha 0 281474976710656 hl
  rw [withinR_num] at hw
  clear h
  go_enter Try.func17, Try.ntmps17
  go_wp2_with fail
  refine hw.mono ?_; rintro y w1 ⟨rfl, hy⟩
  clear hw
  have HY := Lib.hid hy
  clear hy
  go_wp2
  go_ret
  exact ⟨rfl, HY.out⟩

set_option maxHeartbeats 400000 in
theorem rf_fail {w : World} {m a c : Nat} {A : Option Addr} {b : List UInt8} {e : Int} (h : RfAt w m A b.length c a e) (ha : a ≤ b.length) (x e2 : Int) (h2 : e2 = if e = 0 then x else e) :
    Calls Try.prog 23 #[.pointer (some ⟨m, 0, none⟩), .int .i64 x] w (RfPost w m A c b (.tuple #[]) (b.drop a) e2) := by
  obtain ⟨c0, c1, c2, z0, z1, z2⟩ := h.cells
  have H := Lib.hid h
  clear h
  by_cases he : e = 0
  · subst he
    rw [if_pos rfl] at h2
    subst h2
    go_enter Try.func23, Try.ntmps23
    go_wp2
    go_end0
    exact ⟨rfl, a, ha, rfl, H.out.setErr _, grownBy_set _ _ _ _⟩
  · rw [if_neg he] at h2
    subst h2
    go_enter Try.func23, Try.ntmps23
    go_wp2
    go_end0
    exact ⟨rfl, a, ha, rfl, H.out, World.grownBy.refl _ _⟩

set_option maxHeartbeats 400000 in
theorem rf_end {w : World} {m a c : Nat} {A : Option Addr} {b : List UInt8} {e : Int} (h : RfAt w m A b.length c a e) (ha : a ≤ b.length) :
    Calls Try.prog 25 #[.pointer (some ⟨m, 0, none⟩)] w (RfPost w m A c b (.int .i64 (endR (b.drop a) e)) (b.drop a) e) := by
  obtain ⟨c0, c1, c2, z0, z1, z2⟩ := h.cells
  have H := Lib.hid h
  clear h
  by_cases he : e = 0
  · subst he
    by_cases hlt : a < b.length
    · have fin : endR (b.drop a) 0 = 14 := by unfold endR; rw [if_pos ⟨rfl, by simp; omega⟩]
      rw [fin]
      clear fin
      go_enter Try.func25, Try.ntmps25
      go_wp2
      go_quiet (fail)
      go_wp2
      go_ret
      exact ⟨rfl, a, ha, rfl, H.out.drewN _, grownBy_drewN' _ _ _⟩
    · have fin : endR (b.drop a) 0 = 0 := by unfold endR; rw [if_neg (by simp; omega)]
      rw [fin]
      have hlt' : decide (a < b.length) = false := by simp; omega
      clear fin hlt
      go_enter Try.func25, Try.ntmps25
      go_wp2
      go_quiet (fail)
      go_wp2
      go_ret
      exact ⟨rfl, a, ha, rfl, H.out.drewN _, grownBy_drewN' _ _ _⟩
  · have fin : endR (b.drop a) e = e := by unfold endR; rw [if_neg (by simp [he])]
    have he' : (e == 0) = false := by simpa using he
    rw [fin]
    clear fin he
    go_enter Try.func25, Try.ntmps25
    go_wp2
    go_quiet (fail)
    go_wp2
    go_ret
    exact ⟨rfl, a, ha, rfl, H.out.drewN _, grownBy_drewN' _ _ _⟩

theorem run_cut2 {T E : TypeId} (ht : Try.prog.underlying T = some (.slice E)) (hs : ∀ w, (sizeOf E).run Try.prog w = .ok 1 w) (w : World) (A : Option Addr) (n c k : Nat) (h : Int) (h1 : (k : Int) ≤ h) (h2 : h ≤ c) :
    (Instr.slice T (.slice A n c) (some (.int .i64 (k : Int))) (some (.int .i64 h)) none).run Try.prog w = .ok (.slice (cutA A k c) (h.toNat - k) (c - k)) w := by
  have ht' : Try.prog.underlying T = some (.slice (Try.prog.elem T)) := by simp [Program.elem, ht]
  have he : Try.prog.elem T = E := by simp [Program.elem, ht]
  rw [run_slice_lh w T _ _ _ ht' .i64 .i64 _ _ (by omega) h1 h2, he, hs]
  simp [Result.andThen, sliced, cutA]
theorem RowAt.take {w : World} {B : Nat} {A : Option Addr} {l : List Value} (h : RowAt w B A l) (k : Nat) : RowAt w B A (l.take k) := by
  rcases h with h | ⟨b, o, rfl, h2, h3⟩
  · left; rw [h]; simp
  · refine .inr ⟨b, o, rfl, h2, fun j u hu => h3 j u ?_⟩
    rw [List.getElem?_take] at hu
    split at hu
    · exact hu
    · cases hu
theorem RdB.take {w : World} {B : Nat} {A : Option Addr} {c : Nat} {l : List UInt8} (h : RdB w B A c l) (k : Nat) : RdB w B A c (l.take k) :=
  ⟨by have := RowAt.take h.row k
      simpa [bytes] using this, by have := h.room; simp; omega, h.cap⟩
theorem RdB.drewN {w : World} {B : Nat} {A : Option Addr} {c : Nat} {l : List UInt8} (h : RdB w B A c l) (k : Nat) : RdB (w.drewN k) B A c l := ⟨h.row.drewN k, h.room, h.cap⟩
theorem RdB.grown {w w' : World} {B m c : Nat} {A : Option Addr} {l : List UInt8} (h : RdB w B A c l) (hg : w.grownBy w' (some m)) (hm : B ≤ m) (hB : B ≤ w.heap.size) : RdB w' B A c l :=
  h.keep fun p hp => World.cell?_of_block (hg.block p.block (by omega) (fun e => by injection e with e; omega))

set_option maxHeartbeats 1000000 in
set_option maxRecDepth 100000 in
theorem rf_text {w : World} {m B a c : Nat} {A : Option Addr} {b : List UInt8} {e : Int} (h : RfAt w m A b.length c a e) (hr : RdB w B A c b) (ha : a ≤ b.length) (hm : B ≤ m) (most : Int) (hl : b.length ≤ 1000000) :
    Calls Try.prog 21 #[.pointer (some ⟨m, 0, none⟩), .int .i64 most] w
      (RfPost w m A c b (.string (str (textR most (b.drop a) e).1)) (textR most (b.drop a) e).2.1 (textR most (b.drop a) e).2.2) := by
  obtain ⟨c0, c1, c2, z0, z1, z2⟩ := h.cells
  have hwi := rf_within h hr ha 0 most hl
  have hBw : B ≤ w.heap.size := by have := h.lt; omega
  have hsame := withinR_same 0 most (b.drop a) e
  obtain ⟨n, hn⟩ : ∃ n, (withinR 0 most (b.drop a) e).1 = n := ⟨_, rfl⟩
  obtain ⟨l1, hl1⟩ : ∃ l1, (withinR 0 most (b.drop a) e).2.1 = l1 := ⟨_, rfl⟩
  obtain ⟨e1, he1⟩ : ∃ e1, (withinR 0 most (b.drop a) e).2.2 = e1 := ⟨_, rfl⟩
  have hdef : textR most (b.drop a) e = if l1.length < n then ([], b.drop a, if e1 = 0 then 10 else e1) else (l1.take n, l1.drop n, e1) := by unfold textR; rw [hn, hl1, he1]
  rw [hn, hl1, he1] at hwi hsame
  generalize textR most (b.drop a) e = T at *
  have H := Lib.hid h
  have HS := Lib.hid hsame
  have HDEF := Lib.hid hdef
  clear hn hl1 he1 h hsame hdef
  go_enter Try.func21, Try.ntmps21
  go_wp2_with fail
  refine hwi.mono ?_; rintro y w1 ⟨rfl, a1, ha1, hla, hf1, hg1⟩
  clear hwi c0 c1 c2 z0 z1 z2
  obtain ⟨c0, c1, c2, z0, z1, z2⟩ := hf1.cells
  have HF := Lib.hid hf1
  have HG := Lib.hid hg1
  have hr1 := hr.grown hg1 hm hBw
  clear hf1 hg1 hr
  by_cases he : e1 = 0
  · subst he
    have hll : l1.length = b.length - a1 := by rw [hla]; simp
    by_cases hlt : l1.length < n
    · have fin : T = ([], b.drop a, 10) := by rw [HDEF.out, if_pos hlt, if_pos rfl]
      subst fin
      have hlt2 : (b.length : Int) - a1 < n := by omega
      clear HDEF hla hll hlt
      go_wp2
      go_quiet (fail)
      go_wp2
      go_ret
      exact ⟨rfl, a, ha, rfl, ((HF.out.drewN _).setPos _).setErr _, ((HG.out.trans (grownBy_drewN' _ _ _)).trans (grownBy_set _ _ _ _)).trans (grownBy_set _ _ _ _)⟩
    · have fin : T = (l1.take n, l1.drop n, 0) := by rw [HDEF.out, if_neg hlt]
      subst fin
      have hlt2 : ¬ (b.length : Int) - a1 < n := by omega
      have hroom := hr1.room
      have hcap := hr1.cap
      have K1 := fun w : World => run_cut2 (T := 22) (E := 5) Try.underlying22 byte_size w A b.length c a1 ((a1 : Int) + (n : Int)) (by omega) (by omega)
      have htn : ((a1 : Int) + (n : Int)).toNat - a1 = (l1.take n).length := by rw [List.length_take]; omega
      rw [htn] at K1
      have hrow2 := (hr1.cut ha1).take n
      rw [← hla] at hrow2
      have K2 := fun j : Nat => conv_str (P := Try.prog) (c - a1) 22 5 9 Try.underlying22 Try.underlying5 Try.underlying9 (hrow2.drewN j).row
      have FD : Hid (a1 + n ≤ b.length ∧ List.drop n l1 = b.drop (a1 + n)) := ⟨by omega, by rw [hla, List.drop_drop]⟩
      have EK := Lib.hid (show ((a1 : Int) + (n : Int)) = ((a1 + n : Nat) : Int) by omega)
      have hb63 : (a1 : Int) + n ≤ 1000000 := by omega
      generalize cutA A a1 c = A' at *
      generalize (l1.take n).length = q at *
      clear HDEF hla hll hlt htn hrow2 hroom hcap
      go_wp2
      go_quiet (fail)
      go_wp2
      go_quiet (fail)
      go_wp2
      go_ret
      exact ⟨rfl, a1 + n, FD.out.1, FD.out.2, by rw [EK.out]; exact (HF.out.drewN _).setPos _, (HG.out.trans (grownBy_drewN' _ _ _)).trans (grownBy_set _ _ _ _)⟩
  · have hs := HS.out he
    have fin : T = ([], b.drop a, e1) := by
      rw [HDEF.out, hs.1, if_neg (by omega), hs.2]; simp
    subst fin
    have he' : (e1 == 0) = false := by simpa using he
    have HL := Lib.hid (hs.2.symm.trans hla)
    clear HDEF hs he hla
    go_wp2
    go_ret
    exact ⟨rfl, a1, ha1, HL.out, HF.out, HG.out⟩
end Go.Proofs.Ytmpiklhgflnglaa
