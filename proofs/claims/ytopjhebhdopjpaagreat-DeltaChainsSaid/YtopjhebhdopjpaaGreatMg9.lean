/-
  Several texts in one: VarG, Flt, FltA, FltB, FcdA, FcdB, RnAt, CntMrg, KcdA, FcdC, FltC, FltD.
-/
import Derived.Deep.RegionLaw
import Derived.Deep.CutRange
import Derived.Test.YtopjhebhdopjpaaGreatMg8
namespace Go.Proofs.YtopjhebhdopjpaaGreat
open Go.RowKit

def RfAt (w : World) (m : Nat) (A : Option Addr) (n c at' : Nat) (e : Int) : Prop := w.heap[m]? = some (.cells #[.slice A n c, .int .i64 (at' : Int), .int .i64 e] 83 (0, 0))
theorem RfAt.lt {w : World} {m n c a : Nat} {A : Option Addr} {e : Int} (h : RfAt w m A n c a e) : m < w.heap.size := lt_of_block h
theorem RfAt.cells {w : World} {m n c a : Nat} {A : Option Addr} {e : Int} (h : RfAt w m A n c a e) :
    w.cell? ⟨m, 0, none⟩ = some (.slice A n c) ∧ w.cell? ⟨m, 1, none⟩ = some (.int .i64 (a : Int)) ∧ w.cell? ⟨m, 2, none⟩ = some (.int .i64 e) ∧ w.frozen? ⟨m, 0, none⟩ = false ∧ w.frozen? ⟨m, 1, none⟩ = false ∧ w.frozen? ⟨m, 2, none⟩ = false := by
  have h : w.heap[m]? = _ := h
  refine ⟨?_, ?_, ?_, ?_, ?_, ?_⟩ <;> simp [World.cell?, World.frozen?, h]
theorem RfAt.kept {w w' : World} {m n c a : Nat} {A : Option Addr} {e : Int} {row : Option Nat} (h : RfAt w m A n c a e) (hg : w.grownBy w' row) (hne : some m ≠ row) : RfAt w' m A n c a e := (hg.block m h.lt hne).trans h
theorem RfAt.setPos {w : World} {m n c a : Nat} {A : Option Addr} {e : Int} (h : RfAt w m A n c a e) (a' : Nat) : RfAt (w.setCell ⟨m, 1, none⟩ (.int .i64 (a' : Int))) m A n c a' e := heap_setCell_self h _
theorem RfAt.setErr {w : World} {m n c a : Nat} {A : Option Addr} {e : Int} (h : RfAt w m A n c a e) (e' : Int) : RfAt (w.setCell ⟨m, 2, none⟩ (.int .i64 e')) m A n c a e' := heap_setCell_self h _
theorem RfAt.drewN {w : World} {m n c a : Nat} {A : Option Addr} {e : Int} (h : RfAt w m A n c a e) (k : Nat) : RfAt (w.drewN k) m A n c a e := h

def RfPost (w : World) (m : Nat) (A : Option Addr) (c : Nat) (b : List UInt8) (v : Value) (l : List UInt8) (e : Int) (x : Ending) (w' : World) : Prop :=
  x = .returned v ∧ ∃ a, a ≤ b.length ∧ l = b.drop a ∧ RfAt w' m A b.length c a e ∧ w.grownBy w' (some m)

set_option maxHeartbeats 1000000 in
set_option maxRecDepth 100000 in
theorem rf_within {w : World} {m B a c : Nat} {A : Option Addr} {b : List UInt8} {e : Int} (h : RfAt w m A b.length c a e) (hr : RdB w B A c b) (ha : a ≤ b.length) (lo hi : Int) (hl : b.length ≤ 1000000) :
    Calls Tryz.prog 50 #[.pointer (some ⟨m, 0, none⟩), .int .i64 lo, .int .i64 hi] w
      (RfPost w m A c b (.int .i64 (withinR lo hi (b.drop a) e).1) (withinR lo hi (b.drop a) e).2.1 (withinR lo hi (b.drop a) e).2.2) := by
  obtain ⟨c0, c1, c2, z0, z1, z2⟩ := h.cells
  have H := Lib.hid h
  clear h
  by_cases he : e = 0
  · subst he
    have K1 := fun w : World => run_cut (T := 25) (E := 5) Tryz.underlying25 byte_size w A b.length c a ha
    obtain ⟨n, k, x, hcut⟩ : ∃ n k x, cutV (b.drop a) = (n, k, x) := ⟨_, _, _, rfl⟩
    have hn : ∀ w1 : World, RowAt w1 B (cutA A a c) (bytes (b.drop a)) → Calls Tryz.prog 80 #[.slice (cutA A a c) (b.length - a) (c - a)] w1 fun e w' => e = .returned (.tuple #[.int .i64 n, .int .i64 k, .int .i64 x]) ∧ w' = w1 := fun w1 hrr =>
      (ref_number (cutA A a c) (b.length - a) (c - a) B (b.drop a) w1 (by simp) hrr (by simp; omega)).mono fun _ _ ⟨h1, h2⟩ => ⟨by rw [h1, hcut], h2.symm⟩
    have hrr := (hr.cut ha).row
    obtain ⟨hk1, hk8, hn48, F1, F2, F3⟩ := withinR_cut (lo := lo) (hi := hi) hcut
    have HK := Lib.hid hk1
    clear hcut hk1
    generalize withinR lo hi (b.drop a) 0 = W at *
    generalize cutA A a c = A' at *
    by_cases hx : x = 0
    · subst hx
      by_cases hlo : (n : Int) < lo
      · have fin := F2 rfl (.inl hlo)
        subst fin
        clear F1 F2 F3
        go_enter Tryz.func50, Tryz.ntmps50
        go_wp2
        go_quiet ((go_at_call 80; exact Calls.quiet_of_same (hn _ (hrr.drewN _))))
        clear hn hrr K1
        go_wp2
        go_ret
        exact ⟨rfl, a, ha, rfl, (H.out.drewN _).setErr _, (grownBy_drewN' _ _ _).trans (grownBy_set _ _ _ _)⟩
      · by_cases hhi : hi < (n : Int)
        · have fin := F2 rfl (.inr hhi)
          subst fin
          clear F1 F2 F3
          go_enter Tryz.func50, Tryz.ntmps50
          go_wp2
          go_quiet ((go_at_call 80; exact Calls.quiet_of_same (hn _ (hrr.drewN _))))
          clear hn hrr K1
          go_wp2
          go_ret
          exact ⟨rfl, a, ha, rfl, (H.out.drewN _).setErr _, (grownBy_drewN' _ _ _).trans (grownBy_set _ _ _ _)⟩
        · have fin := F3 rfl (by omega)
          subst fin
          have FD : Hid (a + k ≤ b.length ∧ List.drop k (b.drop a) = b.drop (a + k)) := ⟨by have := HK.out; simp at this; omega, by rw [List.drop_drop]⟩
          have EK := Lib.hid (show ((a : Int) + (k : Int)) = ((a + k : Nat) : Int) by omega)
          clear F1 F2 F3
          go_enter Tryz.func50, Tryz.ntmps50
          go_wp2
          go_quiet ((go_at_call 80; exact Calls.quiet_of_same (hn _ (hrr.drewN _))))
          clear hn hrr K1
          go_wp2
          go_ret
          exact ⟨rfl, a + k, FD.out.1, FD.out.2, by rw [EK.out]; exact (H.out.drewN _).setPos _, (grownBy_drewN' _ _ _).trans (grownBy_set _ _ _ _)⟩
    · have fin := F1 hx
      have hx' : ((x : Int) == 0) = false := by simpa using hx
      subst fin
      clear F1 F2 F3
      go_enter Tryz.func50, Tryz.ntmps50
      go_wp2
      go_quiet ((go_at_call 80; exact Calls.quiet_of_same (hn _ (hrr.drewN _))))
      clear hn hrr K1
      go_wp2
      go_ret
      exact ⟨rfl, a, ha, rfl, (H.out.drewN _).setErr _, (grownBy_drewN' _ _ _).trans (grownBy_set _ _ _ _)⟩
  · rw [withinR_err he]
    go_enter Tryz.func50, Tryz.ntmps50
    go_wp2
    go_ret
    exact ⟨rfl, a, ha, rfl, H.out, World.grownBy.refl _ _⟩

set_option maxHeartbeats 400000 in
theorem rf_number {w : World} {m B a c : Nat} {A : Option Addr} {b : List UInt8} {e : Int} (h : RfAt w m A b.length c a e) (hr : RdB w B A c b) (ha : a ≤ b.length) (hl : b.length ≤ 1000000) :
    Calls Tryz.prog 81 #[.pointer (some ⟨m, 0, none⟩)] w
      (RfPost w m A c b (.int .i64 (numR (b.drop a) e).1) (numR (b.drop a) e).2.1 (numR (b.drop a) e).2.2) := by
  have hw := rf_within h hr ha 0 281474976710656 hl
  rw [withinR_num] at hw
  clear h
  go_enter Tryz.func81, Tryz.ntmps81
  go_wp2_with fail
  refine hw.mono ?_; rintro y w1 ⟨rfl, hy⟩
  clear hw
  have HY := Lib.hid hy
  clear hy
  go_wp2
  go_ret
  exact ⟨rfl, HY.out⟩

set_option maxHeartbeats 400000 in
theorem rf_end {w : World} {m a c : Nat} {A : Option Addr} {b : List UInt8} {e : Int} (h : RfAt w m A b.length c a e) (ha : a ≤ b.length) :
    Calls Tryz.prog 53 #[.pointer (some ⟨m, 0, none⟩)] w (RfPost w m A c b (.int .i64 (endR (b.drop a) e)) (b.drop a) e) := by
  obtain ⟨c0, c1, c2, z0, z1, z2⟩ := h.cells
  have H := Lib.hid h
  clear h
  by_cases he : e = 0
  · subst he
    by_cases hlt : a < b.length
    · have fin : endR (b.drop a) 0 = 14 := by unfold endR; rw [if_pos ⟨rfl, by simp; omega⟩]
      rw [fin]
      clear fin
      go_enter Tryz.func53, Tryz.ntmps53
      go_wp2
      go_quiet (fail)
      go_wp2
      go_ret
      exact ⟨rfl, a, ha, rfl, H.out.drewN _, grownBy_drewN' _ _ _⟩
    · have fin : endR (b.drop a) 0 = 0 := by unfold endR; rw [if_neg (by simp; omega)]
      rw [fin]
      have hlt' : decide (a < b.length) = false := by simp; omega
      clear fin hlt
      go_enter Tryz.func53, Tryz.ntmps53
      go_wp2
      go_quiet (fail)
      go_wp2
      go_ret
      exact ⟨rfl, a, ha, rfl, H.out.drewN _, grownBy_drewN' _ _ _⟩
  · have fin : endR (b.drop a) e = e := by unfold endR; rw [if_neg (by simp [he])]
    have he' : (e == 0) = false := by simpa using he
    rw [fin]
    clear fin he
    go_enter Tryz.func53, Tryz.ntmps53
    go_wp2
    go_quiet (fail)
    go_wp2
    go_ret
    exact ⟨rfl, a, ha, rfl, H.out.drewN _, grownBy_drewN' _ _ _⟩

theorem RdB.drewN {w : World} {B : Nat} {A : Option Addr} {c : Nat} {l : List UInt8} (h : RdB w B A c l) (k : Nat) : RdB (w.drewN k) B A c l := ⟨h.row.drewN k, h.room, h.cap⟩
theorem RdB.grown {w w' : World} {B m c : Nat} {A : Option Addr} {l : List UInt8} (h : RdB w B A c l) (hg : w.grownBy w' (some m)) (hm : B ≤ m) (hB : B ≤ w.heap.size) : RdB w' B A c l :=
  h.keep fun p hp => World.cell?_of_block (hg.block p.block (by omega) (fun e => by injection e with e; omega))

set_option maxHeartbeats 1000000 in
set_option maxRecDepth 100000 in
theorem rf_text {w : World} {m B a c : Nat} {A : Option Addr} {b : List UInt8} {e : Int} (h : RfAt w m A b.length c a e) (hr : RdB w B A c b) (ha : a ≤ b.length) (hm : B ≤ m) (most : Int) (hl : b.length ≤ 1000000) :
    Calls Tryz.prog 51 #[.pointer (some ⟨m, 0, none⟩), .int .i64 most] w
      (RfPost w m A c b (.string (str (textR most (b.drop a) e).1)) (textR most (b.drop a) e).2.1 (textR most (b.drop a) e).2.2) := by
  obtain ⟨c0, c1, c2, z0, z1, z2⟩ := h.cells
  have hwi := rf_within h hr ha 0 most hl
  have hBw : B ≤ w.heap.size := by have := h.lt; omega
  have hsame := withinR_same 0 most (b.drop a) e
  obtain ⟨n, hn⟩ : ∃ n, (withinR 0 most (b.drop a) e).1 = n := ⟨_, rfl⟩
  obtain ⟨l1, hl1⟩ : ∃ l1, (withinR 0 most (b.drop a) e).2.1 = l1 := ⟨_, rfl⟩
  obtain ⟨e1, he1⟩ : ∃ e1, (withinR 0 most (b.drop a) e).2.2 = e1 := ⟨_, rfl⟩
  have hdef : textR most (b.drop a) e = if l1.length < n then ([], b.drop a, if e1 = 0 then 10 else e1) else (l1.take n, l1.drop n, e1) := by unfold textR; rw [hn, hl1, he1]
  rw [hn, hl1, he1] at hwi hsame
  generalize textR most (b.drop a) e = T at *
  have H := Lib.hid h
  have HS := Lib.hid hsame
  have HDEF := Lib.hid hdef
  clear hn hl1 he1 h hsame hdef
  go_enter Tryz.func51, Tryz.ntmps51
  go_wp2_with fail
  refine hwi.mono ?_; rintro y w1 ⟨rfl, a1, ha1, hla, hf1, hg1⟩
  clear hwi c0 c1 c2 z0 z1 z2
  obtain ⟨c0, c1, c2, z0, z1, z2⟩ := hf1.cells
  have HF := Lib.hid hf1
  have HG := Lib.hid hg1
  have hr1 := hr.grown hg1 hm hBw
  clear hf1 hg1 hr
  by_cases he : e1 = 0
  · subst he
    have hll : l1.length = b.length - a1 := by rw [hla]; simp
    by_cases hlt : l1.length < n
    · have fin : T = ([], b.drop a, 10) := by rw [HDEF.out, if_pos hlt, if_pos rfl]
      subst fin
      have hlt2 : (b.length : Int) - a1 < n := by omega
      clear HDEF hla hll hlt
      go_wp2
      go_quiet (fail)
      go_wp2
      go_ret
      exact ⟨rfl, a, ha, rfl, ((HF.out.drewN _).setPos _).setErr _, ((HG.out.trans (grownBy_drewN' _ _ _)).trans (grownBy_set _ _ _ _)).trans (grownBy_set _ _ _ _)⟩
    · have fin : T = (l1.take n, l1.drop n, 0) := by rw [HDEF.out, if_neg hlt]
      subst fin
      have hlt2 : ¬ (b.length : Int) - a1 < n := by omega
      have hroom := hr1.room
      have hcap := hr1.cap
      have K1 := fun w : World => run_cut2 (T := 25) (E := 5) Tryz.underlying25 byte_size w A b.length c a1 ((a1 : Int) + (n : Int)) (by omega) (by omega)
      have htn : ((a1 : Int) + (n : Int)).toNat - a1 = (l1.take n).length := by rw [List.length_take]; omega
      rw [htn] at K1
      have hrow2 := (hr1.cut ha1).take n
      rw [← hla] at hrow2
      have K2 := fun j : Nat => conv_str (P := Tryz.prog) (c - a1) 25 5 9 Tryz.underlying25 Tryz.underlying5 Tryz.underlying9 (hrow2.drewN j).row
      have FD : Hid (a1 + n ≤ b.length ∧ List.drop n l1 = b.drop (a1 + n)) := ⟨by omega, by rw [hla, List.drop_drop]⟩
      have EK := Lib.hid (show ((a1 : Int) + (n : Int)) = ((a1 + n : Nat) : Int) by omega)
      have hb63 : (a1 : Int) + n ≤ 1000000 := by omega
      generalize cutA A a1 c = A' at *
      generalize (l1.take n).length = q at *
      clear HDEF hla hll hlt htn hrow2 hroom hcap
      go_wp2
      go_quiet (fail)
      go_wp2
      go_quiet (fail)
      go_wp2
      go_ret
      exact ⟨rfl, a1 + n, FD.out.1, FD.out.2, by rw [EK.out]; exact (HF.out.drewN _).setPos _, (HG.out.trans (grownBy_drewN' _ _ _)).trans (grownBy_set _ _ _ _)⟩
  · have hs := HS.out he
    have fin : T = ([], b.drop a, e1) := by
      rw [HDEF.out, hs.1, if_neg (by omega), hs.2]; simp
    subst fin
    have he' : (e1 == 0) = false := by simpa using he
    have HL := Lib.hid (hs.2.symm.trans hla)
    clear HDEF hs he hla
    go_wp2
    go_ret
    exact ⟨rfl, a1, ha1, HL.out, HF.out, HG.out⟩
end Go.Proofs.YtopjhebhdopjpaaGreat

namespace Go.Proofs.YtopjhebhdopjpaaGreat
open Go.RowKit

end Go.Proofs.YtopjhebhdopjpaaGreat

namespace Go.Proofs.YtopjhebhdopjpaaGreat
open Go.RowKit

end Go.Proofs.YtopjhebhdopjpaaGreat

namespace Go.Proofs.YtopjhebhdopjpaaGreat
open Go.RowKit

end Go.Proofs.YtopjhebhdopjpaaGreat

namespace Go.Proofs.YtopjhebhdopjpaaGreat
open Go.RowKit

set_option maxRecDepth 100000 in
set_option maxHeartbeats 1000000 in
theorem ref_vtext (s : List UInt8) (U : ByteArray) (hU : str s = U) (hs : s.length ≤ 1000000) (w : World) : Calls Tryz.prog 45 #[.string U] w (RetB w.heap.size w (txtB s)) := by
  subst hU
  have hsz : (str s).size = s.length := str_size s
  have hA : ∀ k, (h : k < (str s).size) → (str s)[k] = s.getD k 0 := fun k h => txt_at s k h
  obtain ⟨N, hN⟩ : ∃ N, s.length = N := ⟨_, rfl⟩
  rw [hN] at hsz hs
  have hb := fun w1 => Lib.hid (ref_bytes N N w1 (Nat.le_refl _) (by omega))
  have h9 := putV_len10 N (by omega)
  have HN := Lib.hid hN
  show Calls _ _ _ _ (RetB w.heap.size w (putV s.length ++ s))
  rw [hN]
  clear hN
  go_enter Tryz.func45, Tryz.ntmps45
  go_wp2_with ((with_reducible refine (hb _).out.mono ?_); rintro e w1 ⟨v1, rfl, hown1, hb1⟩; have HO1 := Lib.hid hown1; have HB1 := Lib.hid hb1; clear hown1 hb1)
  clear hb
  go_loopw [3, 4] (fun v i wr => ∃ k : Nat, k ≤ N ∧ i = .int .i64 k ∧ Hid (OwnB wr w.heap.size v (putV N ++ s.take k)) ∧ Hid (Below w.heap.size w wr)) (fun _ i _ => N - (intOf i).toNat)
  case atStart => exact ⟨0, by omega, rfl, by rw [List.take_zero, List.append_nil]; exact HO1, HB1⟩
  case round =>
    obtain ⟨k, hk, rfl, HO, HB⟩ := hrel
    by_cases hlt : k < N
    · have HS := Lib.hid (take_snoc_getD s k (by have := HN.out; omega))
      have hln : (s.take k).length ≤ k := by rw [List.length_take]; omega
      obtain ⟨c, hc⟩ : ∃ c, s.getD k 0 = c := ⟨_, rfl⟩
      rw [hc] at HS
      have hck := hA k (by omega)
      rw [hc] at hck
      obtain ⟨M, hM⟩ : ∃ M, putV N ++ s.take k = M := ⟨_, rfl⟩
      have hl1 : M.length + [c].length ≤ 140737488355328 := by rw [← hM, List.length_append, List.length_singleton]; omega
      have HL := Lib.hid hl1
      have HM := Lib.hid hM
      rw [hM] at HO
      have HR := Lib.hid (byte_row wr _ c rfl)
      clear hM hl1 hA hc hln h9
      go_wp2_with (at_builtin; refine wpList_app_row rfl (.tmp 14) (.tmp 18) rfl w.heap.size _ M rfl (HO.out.alloc _) _ _ 1 1 [c] rfl rfl HR.out HL.out (le_alloc HB.out.size _) ?_; intro v2 w2 hown2 _ hb2 _; have HO2 := Lib.hid hown2; have HB2 := Lib.hid ((HB.out.alloc HB.out.size _).trans hb2); clear hown2 hb2)
      go_roundw
      case rel => exact ⟨k + 1, by omega, by go_num, by rw [HS.out, ← List.append_assoc, HM.out]; exact HO2, HB2⟩
      case measure => simp [intOf]; omega
    · obtain rfl : k = N := by omega
      have HT := Lib.hid (show s.take k = s from List.take_of_length_le (by have := HN.out; omega))
      clear hA
      go_wp2_with fail
      go_ret
      exact ⟨_, rfl, by rw [← HT.out]; exact HO.out, HB.out⟩
end Go.Proofs.YtopjhebhdopjpaaGreat

namespace Go.Proofs.YtopjhebhdopjpaaGreat
open Go.RowKit

theorem fcd_flat_len {α β : Type} (f : α → List β) (m : Nat) : ∀ l : List α, (∀ x ∈ l, (f x).length ≤ m) → (l.flatMap f).length ≤ l.length * m
  | [], _ => by simp
  | x :: l, h => by
    have h1 := h x (by simp)
    have h2 := fcd_flat_len f m l (fun y hy => h y (by simp [hy]))
    rw [List.flatMap_cons, List.length_append, List.length_cons, Nat.add_mul]
    omega
theorem fcd_flat_next {α β : Type} (f : α → List β) {l : List α} {k : Nat} {x : α} (h : l[k]? = some x) : (l.take (k + 1)).flatMap f = (l.take k).flatMap f ++ f x := by
  rw [List.take_add_one, h, List.flatMap_append]
  simp
theorem txtB_len {s : List UInt8} (h : s.length ≤ 1000000) : (txtB s).length ≤ 1000010 := by
  have := putV_len10 s.length (by omega)
  unfold txtB
  rw [List.length_append]
  omega
theorem rngB_len {r : Rng} (h : r.lo.length ≤ 1000000 ∧ r.hi.length ≤ 1000000) : (rngB r).length ≤ 2000030 := by
  have h1 := txtB_len h.1
  have h2 := txtB_len h.2
  unfold rngB
  rw [List.length_append]
  cases r.op <;> simp <;> omega
theorem take_mem {α : Type} {l : List α} {k : Nat} {x : α} (h : x ∈ l.take k) : x ∈ l := List.mem_of_mem_take h
end Go.Proofs.YtopjhebhdopjpaaGreat

namespace Go.Proofs.YtopjhebhdopjpaaGreat
open Go.RowKit

def RnAt (w : World) (g : Nat) (X Y : Int) : Prop := w.cell? ⟨g, 0, none⟩ = some (.int .i64 X) ∧ w.cell? ⟨g, 1, none⟩ = some (.int .i64 Y) ∧ ∀ k, w.frozen? ⟨g, k, none⟩ = false
theorem RnAt.lt {w : World} {g : Nat} {X Y : Int} (h : RnAt w g X Y) : g < w.heap.size := World.block_lt_of_cell? w _ h.1
theorem RnAt.below {w w' : World} {g : Nat} {X Y : Int} (h : RnAt w g X Y) (hb : Below w.heap.size w w') : RnAt w' g X Y := by
  obtain ⟨hc, hf⟩ := bcell hb
  have hl := h.lt
  exact ⟨(hc _ _ hl).trans h.1, (hc _ _ hl).trans h.2.1, fun k => (hf _ _ hl).trans (h.2.2 k)⟩
theorem rnAt_new (w : World) (X Y : Int) (t : TypeId) : RnAt (w.alloc (.cells #[.int .i64 X, .int .i64 Y] t)) w.heap.size X Y := by
  have h := heap_new w (.cells #[.int .i64 X, .int .i64 Y] t) _ rfl
  refine ⟨?_, ?_, fun k => ?_⟩
  · rw [cell_of_row _ _ _ _ _ _ h]; rfl
  · rw [cell_of_row _ _ _ _ _ _ h]; rfl
  · unfold World.frozen?; rw [h]; simp
theorem RnAt.grown {w w' : World} {row : Option Nat} {g : Nat} {X Y : Int} (h : RnAt w g X Y) (hg : w.grownBy w' row) (hne : some g ≠ row) : RnAt w' g X Y :=
  ⟨hg.cell h.1 hne, hg.cell h.2.1 hne, fun k => (hg.frozen_far ⟨g, k, none⟩ h.lt hne).trans (h.2.2 k)⟩
end Go.Proofs.YtopjhebhdopjpaaGreat

namespace Go.Proofs.YtopjhebhdopjpaaGreat

def gapC (p r : Rn) : Bool := decide (p.to + 1 < r.fr)
def moreC (p r : Rn) : Rn := ⟨p.fr, max p.to r.to⟩
def mergeC : Option Rn → List Rn → List Rn
  | none, [] => []
  | some p, [] => [p]
  | none, r :: l => mergeC (some r) l
  | some p, r :: l => match gapC p r with
    | true => p :: mergeC (some r) l
    | false => mergeC (some (moreC p r)) l
theorem mergeC_gap {p r : Rn} {l : List Rn} (h : gapC p r = true) : mergeC (some p) (r :: l) = p :: mergeC (some r) l := by rw [mergeC, h]
theorem mergeC_more {p r : Rn} {l : List Rn} (h : gapC p r = false) : mergeC (some p) (r :: l) = mergeC (some (moreC p r)) l := by rw [mergeC, h]
def SortedC (l : List Rn) : Prop := l.Pairwise fun a b => a.fr ≤ b.fr
theorem SortedC.from {l : List Rn} (h : SortedC l) (k : Nat) : SortedC (l.drop k) := List.Pairwise.sublist (List.drop_sublist k l) h
theorem gapC_true {p r : Rn} (h : gapC p r = true) : p.to + 1 < r.fr := of_decide_eq_true h
theorem gapC_false {p r : Rn} (h : gapC p r = false) : r.fr ≤ p.to + 1 := by have := of_decide_eq_false h; omega
theorem moreC_right {p r : Rn} (hp : oneC p = true) (hr : oneC r = true) : oneC (moreC p r) = true := by
  have h1 := oneC_iff.1 hp
  have h2 := oneC_iff.1 hr
  refine oneC_iff.2 ⟨h1.1, ?_, ?_⟩
  · show p.fr ≤ max p.to r.to; omega
  · show max p.to r.to ≤ _; omega
theorem moreC_has {p r : Rn} (hp : oneC p = true) (hr : oneC r = true) (h : p.fr ≤ r.fr) (hg : gapC p r = false) (n : Int) : inC (moreC p r) n = (inC p n || inC r n) := by
  have h1 := gapC_false hg
  have h2 := oneC_iff.1 hp
  have h3 := oneC_iff.1 hr
  rw [Bool.eq_iff_iff, Bool.or_eq_true, inC_iff, inC_iff, inC_iff]
  show (oneC (moreC p r) = true ∧ p.fr ≤ n ∧ n ≤ max p.to r.to) ↔ _
  rw [moreC_right hp hr]
  simp only [hp, hr, true_and]
  omega
theorem mergeC_ok : ∀ (l : List Rn) (p : Rn), oneC p = true → (∀ r ∈ l, oneC r = true ∧ p.fr ≤ r.fr) → SortedC l →
    rightC (mergeC (some p) l) = true ∧ (∀ n, hasC (mergeC (some p) l) n = (inC p n || hasC l n)) ∧ ∃ t m, mergeC (some p) l = t :: m ∧ t.fr = p.fr
  | [], p, hp, _, _ => ⟨hp, fun n => rfl, p, [], rfl, rfl⟩
  | r :: l, p, hp, hl, hs => by
    obtain ⟨hr, hlo⟩ := hl r (List.mem_cons_self ..)
    obtain ⟨hs1, hs2⟩ := List.pairwise_cons.1 hs
    have hl' : ∀ t ∈ l, oneC t = true ∧ r.fr ≤ t.fr := fun t ht => ⟨(hl t (List.mem_cons_of_mem _ ht)).1, hs1 t ht⟩
    cases hg : gapC p r with
    | true =>
      obtain ⟨h1, h2, t, m, h3, h4⟩ := mergeC_ok l r hr hl' hs2
      rw [mergeC_gap hg]
      refine ⟨?_, fun n => by rw [hasC_cons, h2, hasC_cons], p, _, rfl, rfl⟩
      rw [h3] at h1 ⊢
      have := gapC_true hg
      unfold rightC
      rw [hp, h1, decide_eq_true (show p.to + 2 ≤ t.fr by omega)]; rfl
    | false =>
      obtain ⟨h1, h2, t, m, h3, h4⟩ := mergeC_ok l (moreC p r) (moreC_right hp hr) (fun t ht => ⟨(hl' t ht).1, by show p.fr ≤ _; have := (hl' t ht).2; omega⟩) hs2
      rw [mergeC_more hg]
      exact ⟨h1, fun n => by rw [h2, moreC_has hp hr hlo hg, hasC_cons, Bool.or_assoc], t, m, h3, h4⟩
theorem mergeC_all {l : List Rn} (hl : ∀ r ∈ l, oneC r = true) (hs : SortedC l) : rightC (mergeC none l) = true ∧ ∀ n, hasC (mergeC none l) n = hasC l n := by
  cases l with
  | nil => exact ⟨rfl, fun _ => rfl⟩
  | cons r l =>
    obtain ⟨hs1, hs2⟩ := List.pairwise_cons.1 hs
    obtain ⟨h1, h2, _⟩ := mergeC_ok l r (hl r (List.mem_cons_self ..)) (fun t ht => ⟨hl t (List.mem_cons_of_mem _ ht), hs1 t ht⟩) hs2
    exact ⟨h1, fun n => by rw [show mergeC none (r :: l) = mergeC (some r) l from rfl, h2, hasC_cons]⟩
theorem mergeC_norm {l m : List Rn} (hp : m.Perm (l.filter oneC)) (hs : SortedC m) : mergeC none m = ofC l := by
  have hm : ∀ r ∈ m, oneC r = true := fun r hr => by have := hp.mem_iff.1 hr; exact (List.mem_filter.1 this).2
  obtain ⟨h1, h2⟩ := mergeC_all hm hs
  refine ofC_unique h1 fun n => ?_
  rw [h2, Bool.eq_iff_iff]
  unfold hasC
  rw [List.any_eq_true, List.any_eq_true]
  constructor
  · rintro ⟨r, hr, h⟩; exact ⟨r, (List.mem_filter.1 (hp.mem_iff.1 hr)).1, h⟩
  · rintro ⟨r, hr, h⟩; exact ⟨r, hp.mem_iff.2 (List.mem_filter.2 ⟨hr, (inC_iff.1 h).1⟩), h⟩
def LastC (o : Option Rn) (l : List Rn) : Prop := ∀ p, o = some p → oneC p = true ∧ ∀ t ∈ l, p.fr ≤ t.fr
theorem LastC.none (l : List Rn) : LastC .none l := fun p h => by cases h
theorem LastC.new {r : Rn} {l : List Rn} (hr : oneC r = true) (hs : SortedC (r :: l)) : LastC (some r) l := fun p h => by
  injection h with h; subst h
  exact ⟨hr, (List.pairwise_cons.1 hs).1⟩
theorem LastC.more {p r : Rn} {l : List Rn} (h : LastC (some p) (r :: l)) (hr : oneC r = true) : LastC (some (moreC p r)) l := fun p' h' => by
  injection h' with h'; subst h'
  obtain ⟨h1, h2⟩ := h p rfl
  exact ⟨moreC_right h1 hr, fun t ht => h2 t (List.mem_cons_of_mem _ ht)⟩

def edgesI : List Rn → List Int
  | [] => []
  | r :: l => r.fr :: (r.to + 1) :: edgesI l
theorem edgesI_append : ∀ (a b : List Rn), edgesI (a ++ b) = edgesI a ++ edgesI b
  | [], _ => rfl
  | r :: a, b => by rw [List.cons_append, edgesI, edgesI, edgesI_append a b, List.cons_append, List.cons_append]
theorem edgesI_len : ∀ l : List Rn, (edgesI l).length = 2 * l.length
  | [] => rfl
  | r :: l => by rw [edgesI, List.length_cons, List.length_cons, edgesI_len l, List.length_cons]; omega
theorem edgesI_next {m : List Rn} {k : Nat} {r : Rn} (h : m[k]? = some r) : edgesI (m.take (k + 1)) = edgesI (m.take k) ++ [r.fr, r.to + 1] := by
  rw [List.take_add_one, h, edgesI_append]; rfl
theorem edgesI_up : ∀ {l : List Rn} {c : Int}, rightC l = true → (∀ r m, l = r :: m → c < r.fr) → upC c (edgesI l) = true
  | [], _, _, _ => rfl
  | r :: l, c, h, hc => by
    have h1 := hc r l rfl
    have h2 := oneC_iff.1 (rightC_head h)
    rw [edgesI, upC, decide_eq_true h1, Bool.true_and, upC, decide_eq_true (show r.fr < r.to + 1 by omega), Bool.true_and]
    refine edgesI_up (rightC_tail h) fun t m e => ?_
    subst e
    have := rightC_gap h
    omega
theorem edgesI_top : ∀ {l : List Rn}, rightC l = true → ∀ z ∈ edgesI l, z ≤ 1099511627777
  | [], _, z, hz => by cases hz
  | r :: l, h, z, hz => by
    have h2 := oneC_iff.1 (rightC_head h)
    rw [edgesI] at hz
    rcases List.mem_cons.1 hz with rfl | hz
    · omega
    · rcases List.mem_cons.1 hz with rfl | hz
      · omega
      · exact edgesI_top (rightC_tail h) z hz
def togI : Bool → List Int → Int → Bool
  | v, [], _ => v
  | v, x :: l, n => match decide (n < x) with | true => v | false => togI (!v) l n
theorem togI_low {v : Bool} {x n : Int} {l : List Int} (h : n < x) : togI v (x :: l) n = v := by rw [togI, decide_eq_true h]
theorem togI_high {v : Bool} {x n : Int} {l : List Int} (h : ¬ n < x) : togI v (x :: l) n = togI (!v) l n := by rw [togI, decide_eq_false h]
theorem togI_edges : ∀ {l : List Rn}, rightC l = true → ∀ n, togI false (edgesI l) n = hasC l n
  | [], _, n => rfl
  | r :: l, h, n => by
    have h2 := oneC_iff.1 (rightC_head h)
    rw [edgesI]
    by_cases h1 : n < r.fr
    · rw [togI_low h1]
      cases hh : hasC (r :: l) n with
      | false => rfl
      | true => have := hasC_least h hh; omega
    · rw [togI_high h1]
      by_cases h3 : n < r.to + 1
      · rw [togI_low h3, hasC_first h (by omega) (by omega)]; rfl
      · rw [togI_high h3, show (!!false) = false from rfl, togI_edges (rightC_tail h), hasC_tail h n, decide_eq_true (show r.to < n by omega), Bool.and_true]
def dropI (e : Int) : List Int → List Int
  | [] => []
  | x :: l => match decide (x = e) with | true => l | false => x :: l
def passI (e : Int) (v : Bool) : List Int → Bool
  | [] => v
  | x :: _ => match decide (x = e) with | true => !v | false => v
theorem dropI_same {e : Int} {l : List Int} : dropI e (e :: l) = l := by rw [dropI, decide_eq_true rfl]
theorem dropI_other {e x : Int} {l : List Int} (h : x ≠ e) : dropI e (x :: l) = x :: l := by rw [dropI, decide_eq_false h]
theorem passI_same {e : Int} {v : Bool} {l : List Int} : passI e v (e :: l) = !v := by rw [passI, decide_eq_true rfl]
theorem passI_other {e x : Int} {v : Bool} {l : List Int} (h : x ≠ e) : passI e v (x :: l) = v := by rw [passI, decide_eq_false h]
theorem dropI_len (e : Int) (l : List Int) : (dropI e l).length ≤ l.length := by
  cases l with
  | nil => exact Nat.le_refl _
  | cons x l =>
    by_cases h : x = e
    · subst h; rw [dropI_same]; simp
    · rw [dropI_other h]; exact Nat.le_refl _
theorem dropI_mem {e x : Int} {l : List Int} (h : x ∈ dropI e l) : x ∈ l := by
  cases l with
  | nil => cases h
  | cons y l =>
    by_cases hy : y = e
    · subst hy; rw [dropI_same] at h; exact List.mem_cons_of_mem _ h
    · rw [dropI_other hy] at h; exact h
theorem dropI_ok {c e : Int} {l : List Int} {v : Bool} (h : upC c l = true) (hc : c < e) (he : ∀ x m, l = x :: m → e ≤ x) :
    upC e (dropI e l) = true ∧ (∀ n, e ≤ n → togI (passI e v l) (dropI e l) n = togI v l n) ∧ (∀ n, n < e → togI v l n = v) := by
  cases l with
  | nil => exact ⟨rfl, fun _ _ => rfl, fun _ _ => rfl⟩
  | cons x l =>
    obtain ⟨h1, h2⟩ := upC_head h
    have h3 := he x l rfl
    refine ⟨?_, fun n hn => ?_, fun n hn => togI_low (by omega)⟩
    · by_cases hx : x = e
      · subst hx; rw [dropI_same]; exact h2
      · rw [dropI_other hx]; unfold upC; rw [h2, decide_eq_true (show e < x by omega)]; rfl
    · by_cases hx : x = e
      · subst hx; rw [dropI_same, passI_same, togI_high (by omega)]
      · rw [dropI_other hx, passI_other hx]
theorem passI_at {e : Int} {l : List Int} {v : Bool} (h : upC e (dropI e l) = true) (ht : ∀ n, e ≤ n → togI (passI e v l) (dropI e l) n = togI v l n) : passI e v l = togI v l e := by
  rw [← ht e (Int.le_refl _)]
  cases hd : dropI e l with
  | nil => rfl
  | cons x m => rw [hd] at h; rw [togI_low (upC_head h).1]
def nearI : List Int → List Int → Option Int
  | [], [] => none
  | [], y :: _ => some y
  | x :: _, [] => some x
  | x :: _, y :: _ => some (min x y)
theorem nearI_none {a b : List Int} (h : nearI a b = none) : a = [] ∧ b = [] := by
  cases a with
  | nil => cases b with
    | nil => exact ⟨rfl, rfl⟩
    | cons y b => cases h
  | cons x a => cases b with
    | nil => cases h
    | cons y b => cases h
theorem nearI_some {c e : Int} {a b : List Int} (ha : upC c a = true) (hb : upC c b = true) (h : nearI a b = some e) :
    c < e ∧ (∀ x m, a = x :: m → e ≤ x) ∧ (∀ y m, b = y :: m → e ≤ y) ∧ (dropI e a).length + (dropI e b).length < a.length + b.length ∧ (e ∈ a ∨ e ∈ b) := by
  cases a with
  | nil =>
    cases b with
    | nil => cases h
    | cons y b =>
      obtain rfl : y = e := by rw [nearI] at h; injection h
      refine ⟨(upC_head hb).1, (fun x m h => by cases h), (fun y' m h => by injection h with h; omega), ?_, .inr (List.mem_cons_self ..)⟩
      rw [dropI_same]; simp [dropI]
  | cons x a =>
    have h1 := (upC_head ha).1
    cases b with
    | nil =>
      obtain rfl : x = e := by rw [nearI] at h; injection h
      refine ⟨h1, (fun x' m h => by injection h with h; omega), (fun y m h => by cases h), ?_, .inl (List.mem_cons_self ..)⟩
      rw [dropI_same]; simp [dropI]
    | cons y b =>
      have h3 := (upC_head hb).1
      obtain rfl : min x y = e := by rw [nearI] at h; injection h
      refine ⟨by omega, (fun x' m h => by injection h with h; omega), (fun y' m h => by injection h with h; omega), ?_, ?_⟩
      · have d1 := dropI_len (min x y) (x :: a)
        have d2 := dropI_len (min x y) (y :: b)
        by_cases hxy : x ≤ y
        · rw [show min x y = x by omega] at d2 ⊢
          rw [dropI_same]; simp only [List.length_cons] at *; omega
        · rw [show min x y = y by omega] at d1 ⊢
          rw [dropI_same]; simp only [List.length_cons] at *; omega
      · by_cases hxy : x ≤ y
        · rw [show min x y = x by omega]; exact .inl (List.mem_cons_self ..)
        · rw [show min x y = y by omega]; exact .inr (List.mem_cons_self ..)

def inO : Option Int → Int → Bool
  | none, _ => false
  | some lo, n => decide (lo ≤ n)
def LowC (c : Int) (dn : List Rn) : Option Int → Prop
  | none => ∀ r ∈ dn, r.to < c
  | some lo => 1 ≤ lo ∧ lo ≤ c ∧ ∀ r ∈ dn, r.to + 2 ≤ lo
structure SwC (kf : Bool → Bool → Bool) (a b : List Rn) (c : Int) (x : Bool) (ea : List Int) (y : Bool) (eb : List Int) (dn : List Rn) (o : Option Int) : Prop where
  c0 : 0 ≤ c
  ua : upC c ea = true
  ub : upC c eb = true
  la : ∀ z ∈ ea, z ≤ 1099511627777
  lb : ∀ z ∈ eb, z ≤ 1099511627777
  ha : ∀ n, c ≤ n → togI x ea n = hasC a n
  hb : ∀ n, c ≤ n → togI y eb n = hasC b n
  rd : rightC dn = true
  low : LowC c dn o
  has : ∀ n, n ≤ c → kf (hasC a n) (hasC b n) = (hasC dn n || inO o n)
theorem hasC_zero (l : List Rn) {n : Int} (h : n ≤ 0) : hasC l n = false := by
  cases e : hasC l n with
  | false => rfl
  | true => have := hasC_range e; omega
theorem SwC.start {kf : Bool → Bool → Bool} (hk : kf false false = false) (a b : List Rn) : SwC kf a b 0 false (edgesI (ofC a)) false (edgesI (ofC b)) [] none where
  c0 := Int.le_refl _
  ua := edgesI_up (ofC_right a) fun r m e => by have := ofC_right a; rw [e] at this; have := oneC_iff.1 (rightC_head this); omega
  ub := edgesI_up (ofC_right b) fun r m e => by have := ofC_right b; rw [e] at this; have := oneC_iff.1 (rightC_head this); omega
  la := edgesI_top (ofC_right a)
  lb := edgesI_top (ofC_right b)
  ha := fun n _ => by rw [togI_edges (ofC_right a), ofC_has]
  hb := fun n _ => by rw [togI_edges (ofC_right b), ofC_has]
  rd := rfl
  low := fun r hr => by cases hr
  has := fun n hn => by rw [hasC_zero a hn, hasC_zero b hn, hk]; rfl
def stepD (e : Int) (v : Bool) (dn : List Rn) : Option Int → List Rn
  | none => dn
  | some lo => match v with | true => dn | false => dn ++ [⟨lo, e - 1⟩]
def stepO (e : Int) (v : Bool) : Option Int → Option Int
  | none => match v with | true => some e | false => none
  | some lo => match v with | true => some lo | false => none
theorem hasC_none {l : List Rn} {n : Int} (h : ∀ r ∈ l, r.to < n) : hasC l n = false := by
  unfold hasC
  rw [List.any_eq_false]
  intro r hr
  cases hi : inC r n with
  | false => simp
  | true => have := (inC_iff.1 hi).2.2; have := h r hr; omega
theorem rightC_snoc : ∀ {l : List Rn} {r : Rn}, rightC l = true → oneC r = true → (∀ t ∈ l, t.to + 2 ≤ r.fr) → rightC (l ++ [r]) = true
  | [], r, _, hr, _ => hr
  | [t], r, hl, hr, h => by
    show (oneC t && decide (t.to + 2 ≤ r.fr) && rightC [r]) = true
    rw [show oneC t = true from hl, decide_eq_true (h t (List.mem_cons_self ..)), show rightC [r] = true from hr]; rfl
  | t :: u :: l, r, hl, hr, h => by
    show (oneC t && decide (t.to + 2 ≤ u.fr) && rightC ((u :: l) ++ [r])) = true
    rw [rightC_head hl, decide_eq_true (rightC_gap hl), rightC_snoc (rightC_tail hl) hr fun t' ht' => h t' (List.mem_cons_of_mem _ ht')]; rfl
theorem SwC.step {kf : Bool → Bool → Bool} {a b : List Rn} {c : Int} {x : Bool} {ea : List Int} {y : Bool} {eb : List Int} {dn : List Rn} {o : Option Int} (h : SwC kf a b c x ea y eb dn o) {e : Int} (he : nearI ea eb = some e) :
    SwC kf a b e (passI e x ea) (dropI e ea) (passI e y eb) (dropI e eb) (stepD e (kf (passI e x ea) (passI e y eb)) dn o) (stepO e (kf (passI e x ea) (passI e y eb)) o) ∧ (dropI e ea).length + (dropI e eb).length < ea.length + eb.length ∧ 1 ≤ e ∧ e ≤ 1099511627777 := by
  obtain ⟨k1, k2, k3, k4, k5⟩ := nearI_some h.ua h.ub he
  obtain ⟨a1, a2, a3⟩ := dropI_ok (v := x) h.ua k1 k2
  obtain ⟨b1, b2, b3⟩ := dropI_ok (v := y) h.ub k1 k3
  have hc0 := h.c0
  have he1 : e ≤ 1099511627777 := by
    rcases k5 with k5 | k5
    · exact h.la _ k5
    · exact h.lb _ k5
  have pa : passI e x ea = hasC a e := by rw [passI_at a1 a2, h.ha e (by omega)]
  have pb : passI e y eb = hasC b e := by rw [passI_at b1 b2, h.hb e (by omega)]
  have ca : ∀ n, c ≤ n → n < e → hasC a n = hasC a c := fun n h1 h2 => by rw [← h.ha n h1, ← h.ha c (Int.le_refl _), a3 n h2, a3 c k1]
  have cb : ∀ n, c ≤ n → n < e → hasC b n = hasC b c := fun n h1 h2 => by rw [← h.hb n h1, ← h.hb c (Int.le_refl _), b3 n h2, b3 c k1]
  have hfc := h.has c (Int.le_refl _)
  have hlow := h.low
  refine ⟨?_, k4, by omega, he1⟩
  obtain ⟨v, hv⟩ : ∃ v, kf (passI e x ea) (passI e y eb) = v := ⟨_, rfl⟩
  rw [hv]
  have hv' : kf (hasC a e) (hasC b e) = v := by rw [← pa, ← pb, hv]
  have main : rightC (stepD e v dn o) = true ∧ LowC e (stepD e v dn o) (stepO e v o) ∧ ∀ n, n ≤ e → kf (hasC a n) (hasC b n) = (hasC (stepD e v dn o) n || inO (stepO e v o) n) := by
    cases o with
    | none =>
      have hlow : ∀ r ∈ dn, r.to < c := hlow
      have hz : ∀ n, c ≤ n → hasC dn n = false := fun n hn => hasC_none fun r hr => by have := hlow r hr; omega
      have hf : kf (hasC a c) (hasC b c) = false := by rw [hfc, hz c (Int.le_refl _)]; rfl
      cases v with
      | false =>
        refine ⟨h.rd, fun r hr => by have := hlow r hr; omega, fun n hn => ?_⟩
        show _ = (hasC dn n || false)
        by_cases h1 : n ≤ c
        · exact h.has n h1
        · rw [hz n (by omega)]
          by_cases h2 : n = e
          · rw [h2, hv']; rfl
          · rw [ca n (by omega) (by omega), cb n (by omega) (by omega), hf]; rfl
      | true =>
        refine ⟨h.rd, ⟨by omega, Int.le_refl _, fun r hr => by have := hlow r hr; omega⟩, fun n hn => ?_⟩
        show _ = (hasC dn n || decide (e ≤ n))
        by_cases h1 : n ≤ c
        · rw [decide_eq_false (by omega)]; exact h.has n h1
        · rw [hz n (by omega)]
          by_cases h2 : n = e
          · rw [h2, hv', decide_eq_true (Int.le_refl _)]; rfl
          · rw [ca n (by omega) (by omega), cb n (by omega) (by omega), hf, decide_eq_false (by omega)]; rfl
    | some lo =>
      have hlow : 1 ≤ lo ∧ lo ≤ c ∧ ∀ r ∈ dn, r.to + 2 ≤ lo := hlow
      obtain ⟨l1, l2, l3⟩ := hlow
      have hz : ∀ n, lo ≤ n → hasC dn n = false := fun n hn => hasC_none fun r hr => by have := l3 r hr; omega
      have hf : kf (hasC a c) (hasC b c) = true := by rw [hfc]; show (hasC dn c || decide (lo ≤ c)) = true; rw [decide_eq_true l2, Bool.or_true]
      cases v with
      | true =>
        refine ⟨h.rd, ⟨l1, by omega, l3⟩, fun n hn => ?_⟩
        show _ = (hasC dn n || decide (lo ≤ n))
        by_cases h1 : n ≤ c
        · exact h.has n h1
        · rw [decide_eq_true (show lo ≤ n by omega), Bool.or_true]
          by_cases h2 : n = e
          · rw [h2, hv']
          · rw [ca n (by omega) (by omega), cb n (by omega) (by omega), hf]
      | false =>
        have hone : oneC ⟨lo, e - 1⟩ = true := oneC_iff.2 ⟨l1, by show lo ≤ e - 1; omega, by show e - 1 ≤ _; omega⟩
        refine ⟨rightC_snoc h.rd hone l3, fun r hr => ?_, fun n hn => ?_⟩
        · rcases List.mem_append.1 hr with hr | hr
          · have := l3 r hr; omega
          · rw [List.mem_singleton.1 hr]; show e - 1 < e; omega
        · show _ = (hasC (dn ++ [⟨lo, e - 1⟩]) n || false)
          have hi : inC ⟨lo, e - 1⟩ n = (decide (lo ≤ n) && decide (n ≤ e - 1)) := by unfold inC; rw [hone, Bool.true_and]
          rw [hasC_append, hasC_cons, hasC_nil, Bool.or_false, Bool.or_false, hi]
          by_cases h2 : n = e
          · rw [h2, hv', hz e (by omega), decide_eq_false (show ¬ e ≤ e - 1 by omega), Bool.and_false]; rfl
          · rw [decide_eq_true (show n ≤ e - 1 by omega), Bool.and_true]
            by_cases h1 : n ≤ c
            · exact h.has n h1
            · rw [decide_eq_true (show lo ≤ n by omega), Bool.or_true, ca n (by omega) (by omega), cb n (by omega) (by omega), hf]
  exact ⟨by omega, a1, b1, fun z hz => h.la z (dropI_mem hz), fun z hz => h.lb z (dropI_mem hz), fun n hn => by rw [a2 n hn, h.ha n (by omega)], fun n hn => by rw [b2 n hn, h.hb n (by omega)], main.1, main.2.1, main.2.2⟩
theorem SwC.fin {kf : Bool → Bool → Bool} (hk : kf false false = false) {a b : List Rn} {c : Int} {x : Bool} {ea : List Int} {y : Bool} {eb : List Int} {dn : List Rn} {o : Option Int} (h : SwC kf a b c x ea y eb dn o) (he : nearI ea eb = none) (op : Int) (hop : ∀ n, kf (hasC a n) (hasC b n) = isC op a b n) : o = none ∧ dn = makeC op a b := by
  obtain ⟨rfl, rfl⟩ := nearI_none he
  have ha : ∀ n, c ≤ n → hasC a n = false := fun n hn => by
    rw [← h.ha n hn, show togI x [] n = togI x [] (n + 1099511627777) from rfl, h.ha _ (by omega)]
    cases e : hasC a (n + 1099511627777) with
    | false => rfl
    | true => have := hasC_range e; have := h.c0; omega
  have hb : ∀ n, c ≤ n → hasC b n = false := fun n hn => by
    rw [← h.hb n hn, show togI y [] n = togI y [] (n + 1099511627777) from rfl, h.hb _ (by omega)]
    cases e : hasC b (n + 1099511627777) with
    | false => rfl
    | true => have := hasC_range e; have := h.c0; omega
  have hc := h.has c (Int.le_refl _)
  rw [ha c (Int.le_refl _), hb c (Int.le_refl _), hk] at hc
  have hlow := h.low
  cases o with
  | some lo =>
    exfalso
    have hlow : 1 ≤ lo ∧ lo ≤ c ∧ ∀ r ∈ dn, r.to + 2 ≤ lo := hlow
    rw [show inO (some lo) c = decide (lo ≤ c) from rfl, decide_eq_true hlow.2.1, Bool.or_true] at hc
    cases hc
  | none =>
    have hlow : ∀ r ∈ dn, r.to < c := hlow
    refine ⟨rfl, makeC_unique h.rd fun n => ?_⟩
    show _ = isC op a b n
    rw [← hop]
    by_cases h1 : n ≤ c
    · rw [h.has n h1]; show _ = (_ || false); rw [Bool.or_false]
    · rw [ha n (by omega), hb n (by omega), hk]
      exact hasC_none fun r hr => by have := hlow r hr; omega

theorem rightC_take : ∀ {l : List Rn} (k : Nat), rightC l = true → rightC (l.take k) = true
  | [], k, h => by simp [rightC]
  | r :: l, 0, h => rfl
  | [r], k + 1, h => by rw [List.take_succ_cons, List.take_nil]; exact h
  | r :: t :: l, 1, h => by exact rightC_head h
  | r :: t :: l, k + 2, h => by
    have := rightC_take (k + 1) (rightC_tail h)
    rw [List.take_succ_cons] at this
    rw [List.take_succ_cons, List.take_succ_cons]
    unfold rightC
    rw [rightC_head h, decide_eq_true (rightC_gap h), this]; rfl
end Go.Proofs.YtopjhebhdopjpaaGreat

namespace Go.Proofs.YtopjhebhdopjpaaGreat
open Go.RowKit

def wasR : Int → List Rn → Int
  | was, [] => was
  | _, r :: l => wasR r.to l
theorem wasR_snoc : ∀ (l : List Rn) (was : Int) (r : Rn), wasR was (l ++ [r]) = r.to
  | [], _, _ => rfl
  | _ :: l, _, r => wasR_snoc l _ r
theorem runsB_append : ∀ (a b : List Rn) (was : Int), runsB was (a ++ b) = runsB was a ++ runsB (wasR was a) b
  | [], _, _ => rfl
  | r :: a, b, was => by rw [List.cons_append, runsB, runsB, runsB_append a b, wasR, List.append_assoc, List.append_assoc]
theorem runsB_next {l : List Rn} {j : Nat} {r : Rn} (h : l[j]? = some r) : runsB 0 (l.take (j + 1)) = runsB 0 (l.take j) ++ putsV [r.fr - wasR 0 (l.take j), r.to - r.fr] := by
  rw [List.take_add_one, h, runsB_append]
  show _ ++ (putV _ ++ (putV _ ++ [])) = _
  rw [putsV_cons, putsV_cons, putsV_nil]
theorem wasR_ok : ∀ {l : List Rn} {was : Int} {j : Nat} {r : Rn}, rightC l = true → 0 ≤ was → (∀ t m, l = t :: m → was ≤ t.fr) → l[j]? = some r → 0 ≤ wasR was (l.take j) ∧ wasR was (l.take j) ≤ r.fr
  | [], _, _, _, _, _, _, h => by cases h
  | t :: l, was, 0, r, h, h0, h1, hg => by
    simp only [List.getElem?_cons_zero, Option.some.injEq] at hg
    subst hg
    exact ⟨h0, h1 t l rfl⟩
  | t :: l, was, j + 1, r, h, h0, h1, hg => by
    rw [List.getElem?_cons_succ] at hg
    have h2 := oneC_iff.1 (rightC_head h)
    rw [List.take_succ_cons, wasR]
    exact wasR_ok (rightC_tail h) (by omega) (fun u m e => by subst e; have := rightC_gap h; omega) hg
theorem step_app_b {ops : Array Oper} {w : World} {o : Oper} {a : Act} {K : Act → World → Prop} {Q : Exit → Act → World → Prop} {E : Prop} (hgd : o.guard = none) (s x : Operand)
    (ho : o.op = .call { callee := .builtin .append, args := #[s, x], argTypes := #[25, 25] })
    (base : Nat) (v : Value) (xs : List UInt8) (hs : a.eval s = v) (hown : OwnB w base v xs)
    (B : Nat) (A : Option Addr) (c n : Nat) (ys : List UInt8) (hn : n = ys.length) (hx : a.eval x = .slice A n c) (hr : RowAt w B A (bytes ys)) (hlen : xs.length + ys.length ≤ 140737488355328) (hbase : base ≤ w.heap.size)
    (h : ∀ v' w', OwnB w' base v' (xs ++ ys) → w.grownBy w' v.ownBlock → Below base w w' → (v'.ownBlock = v.ownBlock ∨ v'.ownBlock = some w.heap.size) → K (a.put o.dst v') w') :
    if Region.wanted o (yielded ops a.tmps) = true then Oper.wp Tryz.prog o a w K Q else E := by
  rw [if_pos (by simp [Region.wanted, hgd])]
  obtain ⟨i0, hi0, hz0, hz1, hz2⟩ := info_parts byte_info
  subst hn
  refine wp_append_row w s x _ ho base 5 i0 _ 1 1 Tryz.underlying25 hi0 hz0 hz1 hz2 rfl Nat.one_pos v xs.length (bytes xs) hs hown.row B A ys.length c (bytes ys) hx (bytes_len ys) hr (bytes_one ys) (by unfold maxLen; omega) (by omega) hbase fun v' w' h1 h2 h3 => ?_
  refine h v' w' ?_ h2 ((Below.refl _ _).grown h2 hbase (fun g hg => (World.ownsRow.lt hown.row g hg).1)) h3
  rw [bytes_append] at h1
  exact OwnB.of_row h1
theorem two_row (w : World) (x y : Int) : RowAt (w.alloc (.cells #[.int .i64 x, .int .i64 y] 3)) (w.alloc (.cells #[.int .i64 x, .int .i64 y] 3)).heap.size (some ⟨w.heap.size, 0, none⟩) (ints [x, y]) := by
  rw [show (w.alloc (.cells #[.int .i64 x, .int .i64 y] 3)).heap.size = w.heap.size + 1 from by simp]
  exact RowAt.of_block (heap_new w (.cells #[.int .i64 x, .int .i64 y] 3) _ rfl)
theorem put_two (x y : Int) (hx : 0 ≤ x ∧ x ≤ 281474976710656) (hy : 0 ≤ y ∧ y ≤ 281474976710656) (w : World) (g : Nat) (hg : w.heap.size = g) :
    Calls Tryz.prog 75 #[.slice (some ⟨g, 0, none⟩) 2 2] (w.alloc (.cells #[.int .i64 x, .int .i64 y] 3)) (RetB (w.alloc (.cells #[.int .i64 x, .int .i64 y] 3)).heap.size (w.alloc (.cells #[.int .i64 x, .int .i64 y] 3)) (putsV [x, y])) := by
  subst hg
  exact ref_vput (some ⟨w.heap.size, 0, none⟩) 2 2 [x, y] (w.alloc (.cells #[.int .i64 x, .int .i64 y] 3)) rfl (two_row w x y) (by simp [okL, okN, hx, hy]) (by simp)
theorem put_two_drew (x y : Int) (hx : 0 ≤ x ∧ x ≤ 281474976710656) (hy : 0 ≤ y ∧ y ≤ 281474976710656) (w : World) (g : Nat) (hg : w.heap.size = g) :
    Calls Tryz.prog 75 #[.slice (some ⟨g, 0, none⟩) 2 2] (w.alloc (.cells #[.int .i64 x, .int .i64 y] 3)).drew (RetB (w.alloc (.cells #[.int .i64 x, .int .i64 y] 3)).heap.size (w.alloc (.cells #[.int .i64 x, .int .i64 y] 3)).drew (putsV [x, y])) := by
  subst hg
  exact ref_vput (some ⟨w.heap.size, 0, none⟩) 2 2 [x, y] (w.alloc (.cells #[.int .i64 x, .int .i64 y] 3)).drew rfl (two_row w x y) (by simp [okL, okN, hx, hy]) (by simp)
theorem puts2_len (x y : Int) (hx : x ≤ 281474976710656) (hy : y ≤ 281474976710656) : (putsV [x, y]).length ≤ 18 := by
  have := putsV_len [x, y] (by simp; omega)
  simpa using this
theorem runsB_len : ∀ (l : List Rn) (was : Int), 0 ≤ was → rightC l = true → (∀ t m, l = t :: m → was ≤ t.fr) → (runsB was l).length ≤ 18 * l.length
  | [], _, _, _, _ => by simp [runsB]
  | r :: l, was, h0, h, h1 => by
    have h2 := oneC_iff.1 (rightC_head h)
    have h3 := h1 r l rfl
    have ih := runsB_len l r.to (by omega) (rightC_tail h) fun t m e => by subst e; have := rightC_gap h; omega
    have p1 := putV_len10 (r.fr - was).toNat (by omega)
    have p2 := putV_len10 (r.to - r.fr).toNat (by omega)
    rw [runsB, List.length_append, List.length_append, List.length_cons]
    omega
theorem knB_len {k : Kn} (h : smallKn k) : (knB k).length ≤ 80000 := by
  obtain ⟨h1, h2, h3, h4⟩ := h
  have p1 := putV_len10 k.rep.toNat (by omega)
  have p2 := putV_len10 k.runs.length (by omega)
  have p3 := runsB_len k.runs 0 (Int.le_refl _) h3 fun r m e => by rw [e] at h3; have := oneC_iff.1 (rightC_head h3); omega
  unfold knB
  rw [List.length_append, List.length_append]
  omega
set_option maxRecDepth 100000 in
set_option maxHeartbeats 8000000 in
theorem ref_kset (A : Option Addr) (c n : Nat) (s : List Kn) (hn : n = s.length) (hrs : rightS s = true) (hsm : ∀ k ∈ s, k.runs.length ≤ 4096) (w : World) (hr : RdK w w.heap.size A c s) :
    Calls Tryz.prog 46 #[.slice A n c] w (RetB w.heap.size w (setB s)) := by
  have HR := Lib.hid hr
  have HN := Lib.hid hn
  have HSM := Lib.hid (smallKn_of hrs hsm)
  have hn16 : n ≤ 16 := by rw [hn]; exact rightS_len hrs
  have hb := fun w1 => Lib.hid (ref_bytes n n w1 (Nat.le_refl _) (by omega))
  have h9 := putV_len10 n (by omega)
  show Calls _ _ _ _ (RetB w.heap.size w (putV s.length ++ s.flatMap knB))
  rw [← hn]
  have hcx : n ≤ c := by rw [hn]; exact hr.room
  clear hr hsm hn hrs
  go_enter Tryz.func46, Tryz.ntmps46
  go_wp2_with ((with_reducible refine (hb _).out.mono ?_); rintro e w1 ⟨v1, rfl, hown1, hb1⟩; have HO1 := Lib.hid hown1; have HB1 := Lib.hid hb1; clear hown1 hb1)
  clear hb
  go_loopw [3, 4] (fun v i wr => ∃ k : Nat, k ≤ n ∧ i = .int .i64 k ∧ Hid (OwnB wr w.heap.size v (putV n ++ (s.take k).flatMap knB)) ∧ Hid (Below w.heap.size w wr)) (fun _ i _ => n - (intOf i).toNat)
  case atStart => exact ⟨0, by omega, rfl, by rw [List.take_zero, List.flatMap_nil, List.append_nil]; exact HO1, HB1⟩
  case round =>
    obtain ⟨k, hk, rfl, HO, HB⟩ := hrel
    by_cases hlt : k < n
    · obtain ⟨b, o, hA, hb1, hcell⟩ := knowns_at HR.out (by have := HN.out; omega)
      subst hA
      obtain ⟨x, hg, -, hmem⟩ := cnt_get (l := s) (k := k) (by have := HN.out; omega)
      obtain ⟨A', n', c', hn', hrr, d0, d1⟩ := hcell k x hg
      obtain ⟨s1, s2, s3, s4⟩ := HSM.out x hmem
      have HX : Hid (putV n ++ (s.take (k + 1)).flatMap knB = (putV n ++ (s.take k).flatMap knB) ++ putsV [x.rep, (n' : Int)] ++ runsB 0 x.runs) := Lib.hid (by
        rw [fcd_flat_next knB hg, putsV_cons, putsV_cons, putsV_nil, knB, hn', Int.toNat_natCast]; simp)
      have hm0 : (putV n ++ (s.take k).flatMap knB).length ≤ 1300000 := by
        have := fcd_flat_len knB 80000 (s.take k) (fun y hy => knB_len (HSM.out y (take_mem hy)))
        have h2 : (s.take k).length ≤ 16 := by rw [List.length_take]; omega
        have h3 : (s.take k).length * 80000 ≤ 16 * 80000 := Nat.mul_le_mul_right _ h2
        rw [List.length_append]; omega
      obtain ⟨M, hM⟩ : ∃ M, putV n ++ (s.take k).flatMap knB = M := ⟨_, rfl⟩
      rw [hM] at HO HX hm0
      obtain ⟨R, hR⟩ : ∃ R, x.rep = R := ⟨_, rfl⟩
      rw [hR] at d0 HX s1 s2
      have hn9 : n' ≤ 4096 := by omega
      have P1 := fun w g hg => Lib.hid (put_two_drew R (n' : Int) ⟨by omega, by omega⟩ ⟨by omega, by omega⟩ w g hg)
      have hl1 := puts2_len R (n' : Int) (by omega) (by omega)
      obtain ⟨Y, hY⟩ : ∃ Y, putsV [R, (n' : Int)] = Y := ⟨_, rfl⟩
      rw [hY] at P1 HX hl1
      obtain ⟨NY, hNY⟩ : ∃ NY, NY = Y.length := ⟨_, rfl⟩
      have HNY := Lib.hid hNY
      have HL1 := Lib.hid (show M.length + Y.length ≤ 140737488355328 by omega)
      have HRR := Lib.hid hrr
      have HS3 := Lib.hid s3
      have HN' := Lib.hid hn'
      have D0 := Lib.hid d0
      have D1 := Lib.hid d1
      have c0 := ((bcell HB.out).1 _ _ hb1).trans d0
      have c1 := ((bcell HB.out).1 _ _ hb1).trans d1
      clear d0 d1 hcell hg hmem hM hR hY hNY hrr s3 hn' h9 s4
      have hk2 : (0 : Int) ≤ (k : Int) := by omega
      have hkn2 : (k : Int) < (n : Int) := by omega
      obtain ⟨w9, hw9⟩ : ∃ w9, w9 = wr := ⟨_, rfl⟩
      subst hw9
      go_upto_region 5 with fail
      go_cut [3] from 17 to 31 (fun sv wx => ∃ v3, sv = v3 ∧ Hid (OwnB wx w.heap.size v3 (M ++ Y)) ∧ Hid (Below w.heap.size w wx))
      case first =>
        go_region_law (first
          | (refine step_app_b rfl (.tmp 17) (.tmp 30) rfl w.heap.size _ M rfl HO.out _ A8 c8 NY Y HNY.out rfl HR8.out HL1.out HB.out.size ?_; intro v3 w3 hown3 hg3 hb3 _; replace HO := Lib.hid hown3; replace HB := Lib.hid (HB.out.trans hb3); clear hown3 hg3 hb3)
          | (go_simp; (with_reducible refine (P1 _ _ (by rfl)).out.mono ?_); rintro e w8 ⟨v8, rfl, hown, hq⟩; obtain ⟨A8, c8, rfl, hr8⟩ := hown.read_n HNY.out; have HR8 := Lib.hid hr8.row; replace HO := Lib.hid (OwnB.below (show OwnB (w9.alloc _).drew w.heap.size _ M from HO.out.alloc _) hq); replace HB := Lib.hid ((HB.out.alloc HB.out.size _).drew.trans (hq.mono (by have := HB.out.size; simp; omega))); clear hown hq hr8))
        all_goals
          go_wp2_with fail
          go_meet
          exact ⟨_, rfl, HO, HB⟩
      case rest =>
        clear HO HB P1 c0 c1
        obtain ⟨v3, rfl, HO, HB⟩ := hcut
        have c0 := ((bcell HB.out).1 _ _ hb1).trans D0.out
        have c1 := ((bcell HB.out).1 _ _ hb1).trans D1.out
        go_wp2_with fail
        clear D0 c0 c1
        obtain ⟨wz, hwz⟩ : ∃ wz, wz = wc := ⟨_, rfl⟩
        subst hwz
        clear HNY HL1
        have hmy : (M ++ Y).length ≤ 1300018 := by rw [List.length_append]; omega
        go_loopw [3, 5, 6] (fun v wv i wr2 => ∃ j : Nat, j ≤ n' ∧ wv = .int .i64 (wasR 0 (x.runs.take j)) ∧ i = .int .i64 j ∧ Hid (OwnB wr2 w.heap.size v (M ++ Y ++ runsB 0 (x.runs.take j))) ∧ Hid (Below w.heap.size w wr2)) (fun _ _ i _ => n' - (intOf i).toNat)
        case atStart => exact ⟨0, by omega, rfl, rfl, by rw [List.take_zero, runsB, List.append_nil]; exact HO, HB⟩
        case round =>
          clear HO HB
          obtain ⟨j, hj, rfl, rfl, HO, HB⟩ := hrel
          have c1 := ((bcell HB.out).1 _ _ hb1).trans D1.out
          by_cases hjl : j < n'
          · obtain ⟨t, hgt, hdt, hmt⟩ := cnt_get (l := x.runs) (k := j) (by have := HN'.out; omega)
            obtain ⟨b2, o2, rfl, hb2, hcell2⟩ := rns_at (HRR.out.below HB.out) (by have := HN'.out; omega)
            obtain ⟨e0, e1⟩ := hcell2 j t hgt
            have ht3 := oneC_iff.1 (rightC_all HS3.out t hmt)
            have hw3 := wasR_ok HS3.out (Int.le_refl 0) (fun u m e => by have h := HS3.out; rw [e] at h; have := oneC_iff.1 (rightC_head h); omega) hgt
            have HX2 := Lib.hid (runsB_next hgt)
            have HW2 := Lib.hid (show wasR 0 (x.runs.take (j + 1)) = t.to by rw [List.take_add_one, hgt]; exact wasR_snoc _ _ _)
            have hm2 : (runsB 0 (x.runs.take j)).length ≤ 18 * 4096 := by
              have h1 := runsB_len (x.runs.take j) 0 (Int.le_refl _) (rightC_take j HS3.out) (fun u m e => by have h := rightC_take j HS3.out; rw [e] at h; have := oneC_iff.1 (rightC_head h); omega)
              have h2 : (x.runs.take j).length ≤ 4096 := by rw [List.length_take]; omega
              omega
            obtain ⟨X, hX⟩ : ∃ X, t.fr = X := ⟨_, rfl⟩
            obtain ⟨Z, hZ⟩ : ∃ Z, t.to = Z := ⟨_, rfl⟩
            obtain ⟨W, hW⟩ : ∃ W, wasR 0 (x.runs.take j) = W := ⟨_, rfl⟩
            rw [hX, hZ] at ht3
            rw [hX, hW] at hw3
            rw [hX, hZ, hW] at HX2
            rw [hZ] at HW2
            rw [hX] at e0
            rw [hZ] at e1
            rw [hW]
            have w1' : IntKind.i64.wrap (X - W) = X - W := IntWalk.i64_in _ (by omega)
            have w2' : IntKind.i64.wrap (Z - X) = Z - X := IntWalk.i64_in _ (by omega)
            have P2 := fun w g hg => Lib.hid (put_two (X - W) (Z - X) ⟨by omega, by omega⟩ ⟨by omega, by omega⟩ w g hg)
            have hl2 := puts2_len (X - W) (Z - X) (by omega) (by omega)
            obtain ⟨V, hV⟩ : ∃ V, putsV [X - W, Z - X] = V := ⟨_, rfl⟩
            rw [hV] at P2 HX2 hl2
            obtain ⟨NV, hNV⟩ : ∃ NV, NV = V.length := ⟨_, rfl⟩
            have HNV := Lib.hid hNV
            obtain ⟨Q, hQ⟩ : ∃ Q, runsB 0 (x.runs.take j) = Q := ⟨_, rfl⟩
            rw [hQ] at HO HX2 hm2
            have HL2 := Lib.hid (show (M ++ Y ++ Q).length + V.length ≤ 140737488355328 by rw [List.length_append]; omega)
            have HG := Lib.hid (rnAt_new wr X Z 105)
            have HB1 := Lib.hid (HB.out.alloc HB.out.size (.cells #[.int .i64 X, .int .i64 Z] 105))
            have HO1 := Lib.hid (HO.out.alloc (.cells #[.int .i64 X, .int .i64 Z] 105))
            have hb3 := Nat.lt_of_lt_of_le hb2 HB.out.size
            have HB2 := Lib.hid (HB1.out.alloc HB1.out.size (.cells #[.int .i64 (X - W), .int .i64 (Z - X)] 3))
            have HO2 := Lib.hid (HO1.out.alloc (.cells #[.int .i64 (X - W), .int .i64 (Z - X)] 3))
            have HG2 := Lib.hid (HG.out.below (below_new _ (.cells #[.int .i64 (X - W), .int .i64 (Z - X)] 3)))
            have HVO := Lib.hid (fun g hg => (HO.out.lt g hg).2)
            clear hcell2 hgt hdt hmt hX hZ hW hV hNV hQ ht3 hw3 hm2 hl2 HO HB
            go_wp2_with (first
              | ((with_reducible refine (P2 _ _ (by simp)).out.mono ?_); rintro e w8 ⟨v8, rfl, hown, hq⟩; obtain ⟨A8, c8, rfl, hr8⟩ := hown.read_n HNV.out; have HR8 := Lib.hid hr8.row; replace HO2 := Lib.hid (HO2.out.below hq); replace HG2 := Lib.hid (HG2.out.below hq); replace HB2 := Lib.hid (HB2.out.trans (hq.mono (by have := HB2.out.size; simp at this ⊢; omega))); clear hown hq hr8)
              | (at_builtin; refine wpList_app_row rfl (.tmp 50) (.tmp 61) rfl w.heap.size _ (M ++ Y ++ Q) rfl HO2.out _ A8 c8 NV V HNV.out rfl HR8.out HL2.out HB2.out.size ?_; intro v5 w5 hown5 hg5 hb5 _; replace HO2 := Lib.hid hown5; replace HB2 := Lib.hid (HB2.out.trans hb5); replace HG2 := Lib.hid (HG2.out.grown hg5 (fun h => Nat.lt_irrefl _ (HVO.out _ h.symm))); obtain ⟨g0, g1, g2⟩ := HG2.out; clear hown5 hg5 hb5))
            go_roundw
            case rel => exact ⟨j + 1, by omega, by rw [HW2.out], by go_num, by rw [HX2.out, ← List.append_assoc]; exact HO2, HB2⟩
            case measure => simp [intOf]; omega
          · have hkn : x.runs.take j = x.runs := List.take_of_length_le (by have := HN'.out; omega)
            rw [hkn] at HO ⊢
            go_wp2_with fail
            go_roundw
            case rel => exact ⟨k + 1, by omega, by go_num, by rw [HX.out]; exact HO, HB⟩
            case measure => simp [intOf]; omega
    · have hkn : s.take k = s := List.take_of_length_le (by have := HN.out; omega)
      rw [hkn] at HO
      go_wp2_with fail
      go_ret
      exact ⟨_, rfl, HO.out, HB.out⟩
end Go.Proofs.YtopjhebhdopjpaaGreat

namespace Go.Proofs.YtopjhebhdopjpaaGreat
open Go.RowKit

end Go.Proofs.YtopjhebhdopjpaaGreat

namespace Go.Proofs.YtopjhebhdopjpaaGreat
open Go.RowKit

end Go.Proofs.YtopjhebhdopjpaaGreat

namespace Go.Proofs.YtopjhebhdopjpaaGreat
open Go.RowKit

end Go.Proofs.YtopjhebhdopjpaaGreat
