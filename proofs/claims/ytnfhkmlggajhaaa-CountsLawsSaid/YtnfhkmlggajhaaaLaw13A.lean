/-
  The laws of layer 13: what they ask of the program's functions; the chapter's example.
-/
import Derived.Test.YtnfhkmlggajhaaaCntD
namespace Go.Proofs.Ytnfhkmlggajhaaa
open Go.RowKit

def CRightC (F : FuncId) : Prop := ∀ (A : Option Addr) (c n : Nat) (l : List Rn), n = l.length → n ≤ 100000 → ∀ v, rightC l = v → ∀ w, kRn.Rd w w.heap.size A c l → Calls Try.prog F #[.slice A n c] w fun e w' => e = .returned (.bool v) ∧ Below w.heap.size w w'
def CHasC (F : FuncId) : Prop := ∀ (A : Option Addr) (c n : Nat) (l : List Rn) (x : Int), n = l.length → n ≤ 100000 → ∀ v, hasC l x = v → ∀ w, kRn.Rd w w.heap.size A c l → Calls Try.prog F #[.slice A n c, .int .i64 x] w fun e w' => e = .returned (.bool v) ∧ Below w.heap.size w w'
def COfC (F : FuncId) : Prop := ∀ (A : Option Addr) (c n : Nat) (l : List Rn), n = l.length → n ≤ 100000 → ∀ U, ofC l = U → ∀ N, U.length = N → ∀ w, kRn.Rd w w.heap.size A c l → Calls Try.prog F #[.slice A n c] w (RetC w N U)
def CAddC (F : FuncId) : Prop := ∀ (A B : Option Addr) (c d n m : Nat) (l : List Rn) (cs : List Int), n = l.length → m = cs.length → n ≤ 100000 → m ≤ 100000 → ∀ U, ofC (l ++ cs.map runC) = U → ∀ N, U.length = N → ∀ w, kRn.Rd w w.heap.size A c l → kIt.Rd w w.heap.size B d cs →
  Calls Try.prog F #[.slice A n c, .slice B m d] w (RetC w N U)
def CSetC (F : FuncId) (op : Int) : Prop := ∀ (A B : Option Addr) (c d n m : Nat) (a b : List Rn), n = a.length → m = b.length → n ≤ 100000 → m ≤ 100000 → ∀ U, makeC op a b = U → ∀ N, U.length = N → ∀ w, kRn.Rd w w.heap.size A c a → kRn.Rd w w.heap.size B d b →
  Calls Try.prog F #[.slice A n c, .slice B m d] w (RetC w N U)
def CNumC (F : FuncId) (f : List Rn → Int) : Prop := ∀ (A : Option Addr) (c n : Nat) (l : List Rn), n = l.length → n ≤ 100000 → ∀ z, f l = z → ∀ w, kRn.Rd w w.heap.size A c l → Calls Try.prog F #[.slice A n c] w fun e w' => e = .returned (.int .i64 z) ∧ Below w.heap.size w w'
theorem csame_is (A B : Option Addr) (c d n m : Nat) (a : List Rn) (hn : n = a.length) (hm : m = a.length) (w : World) (ha : kRn.Rd w w.heap.size A c a) (hb : kRn.Rd w w.heap.size B d a) :
    Calls Try.prog 12 #[.slice A n c, .slice B m d] w fun e w' => e = .returned (.bool true) ∧ Below w.heap.size w w' := by
  have hnm : n = m := hn.trans hm.symm
  subst hnm
  exact (ref_csame A B c d n a hn w ha hb).mono fun _ _ h => h
theorem size13 (w : World) (o : Obj) : (w.alloc o).heap.size = w.heap.size + 1 := by simp
noncomputable def awk13 (w : World) : World := (w.alloc (.cells #[.int .i64 8, .int .i64 9, .int .i64 1, .int .i64 4] 26)).alloc (.cells #[.int .i64 5] 3)
theorem awk13_rows (w : World) : kRn.Rd (awk13 w) (awk13 w).heap.size (some ⟨w.heap.size, 0, none⟩) 2 [⟨8, 9⟩, ⟨1, 4⟩] ∧ kIt.Rd (awk13 w) (awk13 w).heap.size (some ⟨w.heap.size + 1, 0, none⟩) 1 [5] ∧ Below w.heap.size w (awk13 w) := by
  have h1 := Kind.rd_new (k := kRn) (w := w) (cs := #[.int .i64 8, .int .i64 9, .int .i64 1, .int .i64 4]) (t := 26) (l := [⟨8, 9⟩, ⟨1, 4⟩]) (n := 2) rfl rfl (by simp)
  have h2 := Kind.rd_new (k := kIt) (w := w.alloc (.cells #[.int .i64 8, .int .i64 9, .int .i64 1, .int .i64 4] 26)) (cs := #[.int .i64 5]) (t := 3) (l := [5]) (n := 1) rfl rfl (by simp)
  rw [← size13 w (.cells #[.int .i64 8, .int .i64 9, .int .i64 1, .int .i64 4] 26)] at h1
  rw [← size13 _ (.cells #[.int .i64 5] 3), size13 w] at h2
  exact ⟨h1.call (below_new _ _), h2, (below_new _ _).trans ((below_new _ _).mono (by simp))⟩
set_option maxRecDepth 100000 in
set_option maxHeartbeats 4000000 in
theorem awake13 (HA : CAddC 15) (HB : CNumC 20 baseC) (HM : CNumC 21 mostC) (HK : CNumC 22 manyC) (w : World) :
    Calls Try.prog 7 #[] w fun e w' => e = .returned (.bool true) ∧ Below w.heap.size w w' := by
  have U0 : ofC ([⟨8, 9⟩, ⟨1, 4⟩] ++ [5].map runC) = [⟨1, 5⟩, ⟨8, 9⟩] := by kernel_rfl
  have D1 := fun w => Lib.hid ((HA (some ⟨w.heap.size, 0, none⟩) (some ⟨w.heap.size + 1, 0, none⟩) 2 1 2 1 [⟨8, 9⟩, ⟨1, 4⟩] [5] rfl rfl (by omega) (by omega) _ U0 2 rfl (awk13 w) (awk13_rows w).1 (awk13_rows w).2.1).mono fun e w' ⟨A, c, h1, h2, h3⟩ => (⟨A, c, h1, h2, (awk13_rows w).2.2.trans (h3.mono (awk13_rows w).2.2.size)⟩ : RetC w 2 [⟨1, 5⟩, ⟨8, 9⟩] e w'))
  unfold awk13 at D1
  have B1 := fun A c w hr => Lib.hid (HB A c 2 [⟨1, 5⟩, ⟨8, 9⟩] rfl (by omega) 5 (by decide +kernel) w hr)
  have M1 := fun A c w hr => Lib.hid (HM A c 2 [⟨1, 5⟩, ⟨8, 9⟩] rfl (by omega) 9 (by decide +kernel) w hr)
  have K1 := fun A c w hr => Lib.hid (HK A c 2 [⟨1, 5⟩, ⟨8, 9⟩] rfl (by omega) 7 (by decide +kernel) w hr)
  have EQ := fun w => Lib.hid (eq_rn 1 5 1 5 true (by simp) w)
  have EQ := fun w => (EQ w).out
  have HW := Lib.hid (Below.refl w.heap.size w)
  clear HA HB HM HK U0
  go_enter Try.func7, Try.ntmps7
  go_wp2_with (first
    | ((with_reducible refine (D1 _).out.mono ?_); rintro e w9 ⟨A1, c1, rfl, hrd, hq⟩; have HR := Lib.hid hrd; have HW1 := Lib.hid hq; clear hq; obtain ⟨b, o, rfl, hb1, hcell⟩ := rns_at hrd (by simp); obtain ⟨c0, c1'⟩ := hcell 0 ⟨1, 5⟩ rfl; rw [Nat.zero_mul, Nat.add_zero] at c0 c1'; clear hcell hrd)
    | ((with_reducible refine (B1 _ _ _ HR.out).out.mono ?_); rintro e w8 ⟨rfl, hq⟩; replace HR := Lib.hid (HR.out.call hq); replace HW1 := Lib.hid (HW1.out.trans (hq.mono HW1.out.size)); clear hq)
    | ((with_reducible refine (M1 _ _ _ HR.out).out.mono ?_); rintro e w8 ⟨rfl, hq⟩; replace HR := Lib.hid (HR.out.call hq); replace HW1 := Lib.hid (HW1.out.trans (hq.mono HW1.out.size)); clear hq)
    | ((with_reducible refine (K1 _ _ _ HR.out).out.mono ?_); rintro e w8 ⟨rfl, hq⟩; replace HR := Lib.hid (HR.out.call hq); replace HW1 := Lib.hid (HW1.out.trans (hq.mono HW1.out.size)); clear hq))
  go_ret
  exact ⟨rfl, HW1.out⟩
end Go.Proofs.Ytnfhkmlggajhaaa
