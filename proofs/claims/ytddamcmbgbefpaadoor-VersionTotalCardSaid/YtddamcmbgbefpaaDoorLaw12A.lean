/-
  The laws of layer 12: what they ask of the program's functions; the chapter's example; VersionOrder, VersionTotal.
-/
import Derived.Test.YtddamcmbgbefpaaDoorVrB
import Derived.Test.YtddamcmbgbefpaaDoorSys
namespace Go.Proofs.YtddamcmbgbefpaaDoor
open Go.RowKit

def VRightC (F : FuncId) : Prop := ∀ (v : Vr) (x y : Int), v.rep = x → v.cnt = y → ∀ z, rightVr v = z → ∀ w, Calls Tryd.prog F #[.agg #[.int .i64 x, .int .i64 y]] w fun e w' => e = .returned (.bool z) ∧ Below w.heap.size w w'
def VCmpC (F : FuncId) : Prop := ∀ (a b : Vr) (x y u v : Int), a.rep = x → a.cnt = y → b.rep = u → b.cnt = v → ∀ z, cmpVr a b = z → ∀ w, Calls Tryd.prog F #[.agg #[.int .i64 x, .int .i64 y], .agg #[.int .i64 u, .int .i64 v]] w fun e w' => e = .returned (.int .i64 z) ∧ Below w.heap.size w w'
def VTextC (F : FuncId) : Prop := ∀ (v : Vr) (x y : Int), v.rep = x → v.cnt = y →
  (rightVr v = true → ∀ V, str (textVr v) = V → ∀ w, SysAt w → Calls Tryd.prog F #[.agg #[.int .i64 x, .int .i64 y]] w fun e w' => e = .returned (.tuple #[.string V, .int .i64 0]) ∧ Below w.heap.size w w') ∧
  (rightVr v = false → ∀ w, SysAt w → Calls Tryd.prog F #[.agg #[.int .i64 x, .int .i64 y]] w fun e w' => e = .returned (.tuple #[.string ⟨#[]⟩, .int .i64 2]) ∧ Below w.heap.size w w')
def VParseC (F : FuncId) : Prop := ∀ (s : List UInt8) (U : ByteArray), str s = U → s.length ≤ 20000 →
  (∀ v, readVr s = some v → ∀ x y, v.rep = x → v.cnt = y → ∀ w, SysAt w → Calls Tryd.prog F #[.string U] w fun e w' => e = .returned (.tuple #[.agg #[.int .i64 x, .int .i64 y], .int .i64 0]) ∧ Below w.heap.size w w') ∧
  (readVr s = none → ∀ w, SysAt w → Calls Tryd.prog F #[.string U] w fun e w' => e = .returned (.tuple #[.agg #[.int .i64 0, .int .i64 0], .int .i64 11]) ∧ Below w.heap.size w w')
def VSortC (F : FuncId) : Prop := ∀ (A : Option Addr) (c n : Nat) (l : List Vr), n = l.length → n ≤ 1000 → ∀ w, kVr.Rd w w.heap.size A c l →
  Calls Tryd.prog F #[.slice A n c] w fun e w' => ∃ r A' c' N, N = r.length ∧ SortVr l r ∧ e = .returned (.slice A' N c') ∧ kVr.Rd w' w'.heap.size A' c' r ∧ Below w.heap.size w w'
theorem cmpVr_num (a b : Vr) : (cmpVr a b = -1 ∧ (a.rep < b.rep ∨ a.rep = b.rep ∧ a.cnt < b.cnt)) ∨ (cmpVr a b = 1 ∧ (b.rep < a.rep ∨ b.rep = a.rep ∧ b.cnt < a.cnt)) ∨ (cmpVr a b = 0 ∧ a.rep = b.rep ∧ a.cnt = b.cnt) := by
  rcases cmpVr_three a b with ⟨h1, _, h2, _⟩ | ⟨h1, _, _, h2⟩ | ⟨h1, _, _, _, h2⟩
  · exact .inl ⟨h1, lessVr_iff.1 h2⟩
  · exact .inr (.inl ⟨h1, lessVr_iff.1 h2⟩)
  · exact .inr (.inr ⟨h1, by rw [h2], by rw [h2]⟩)
theorem cmpVr_back (a b : Vr) : cmpVr b a = -cmpVr a b := by
  have h1 := cmpVr_num a b
  have h2 := cmpVr_num b a
  omega
set_option maxRecDepth 100000 in
set_option maxHeartbeats 4000000 in
theorem awake12 (HT : VTextC 12) (HP : VParseC 13) (HS : VSortC 15) (w : World) (hsy : SysAt w) :
    Calls Tryd.prog 7 #[] w fun e w' => e = .returned (.bool true) ∧ Below w.heap.size w w' := by
  have P1 := fun w hsw => Lib.hid ((HP [51, 46, 49, 50] ⟨#[51, 46, 49, 50]⟩ rfl (by simp)).1 ⟨3, 12⟩ (readVr_some (by decide) (by decide +kernel)) 3 12 rfl rfl w hsw)
  have T1 := fun w hsw => Lib.hid ((HT ⟨3, 12⟩ 3 12 rfl rfl).1 (by decide) ⟨#[51, 46, 49, 50]⟩ (by rw [show textVr ⟨3, 12⟩ = [51, 46, 49, 50] by decide +kernel]; rfl) w hsw)
  have S1 := fun (w : World) => Lib.hid ((HS (some ⟨w.heap.size, 0, none⟩) 2 2 [⟨3, 12⟩, ⟨3, 12⟩] rfl (by omega) (w.alloc (.cells #[.int .i64 3, .int .i64 12, .int .i64 3, .int .i64 12] 23)) (by
    rw [size1]; exact Kind.rd_new (k := kVr) (l := [⟨3, 12⟩, ⟨3, 12⟩]) rfl rfl (by simp))).mono fun e w' h => show ∃ A c, e = .returned (.slice A 1 c) ∧ Below (w.alloc (.cells #[.int .i64 3, .int .i64 12, .int .i64 3, .int .i64 12] 23)).heap.size (w.alloc (.cells #[.int .i64 3, .int .i64 12, .int .i64 3, .int .i64 12] 23)) w' from by
      obtain ⟨r, A, c, N, hN, h1, h2, _, h4⟩ := h
      have := h1.one (by decide)
      subst this
      subst hN
      exact ⟨A, c, h2, h4⟩)
  have EQ := fun w => Lib.hid (eq_vr 3 12 3 12 true (by simp) w)
  have EQ := fun w => (EQ w).out
  have HW := Lib.hid (Below.refl w.heap.size w)
  have SY := Lib.hid hsy
  clear HT HP HS hsy
  go_enter Tryd.func7, Tryd.ntmps7
  go_wp2_with (first
    | ((with_reducible refine (P1 _ (SY.out.below HW.out (Nat.le_refl _))).out.mono ?_); rintro e w9 ⟨rfl, hq⟩; replace HW := Lib.hid (HW.out.trans (hq.mono HW.out.size)); clear hq)
    | ((with_reducible refine (T1 _ (SY.out.below (HW.out.alloc HW.out.size _) (Nat.le_refl _))).out.mono ?_); rintro e w8 ⟨rfl, hq⟩; have HB8 := Lib.hid ((HW.out.alloc HW.out.size _).trans (hq.mono (HW.out.alloc HW.out.size _).size)); obtain ⟨hc, hf⟩ := bcell hq; clear hq)
    | ((with_reducible refine (S1 _).out.mono ?_); rintro e w7 ⟨A1, c1, rfl, hq⟩; have HB7 := Lib.hid ((HB8.out.alloc HB8.out.size _).trans (hq.mono (HB8.out.alloc HB8.out.size _).size)); clear hq))
  go_ret
  exact ⟨rfl, HB7.out⟩
end Go.Proofs.YtddamcmbgbefpaaDoor
