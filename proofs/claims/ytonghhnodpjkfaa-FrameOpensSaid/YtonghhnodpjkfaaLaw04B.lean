/-
  The walk of the fourth layer's law on any bytes.
-/
import Derived.Test.YtonghhnodpjkfaaLaw04A
namespace Go.Proofs.Ytonghhnodpjkfaa
open Go.RowKit

set_option maxHeartbeats 1000000 in
set_option maxRecDepth 100000 in
theorem frameOpens_walk (A : Option Addr) (c : Nat) (b : List UInt8) (w : World) (h : RdB w w.heap.size A c b) :
    Calls Try.prog 4 #[.slice A b.length c] w fun e w' => e = .returned (.bool true) ∧ Below w.heap.size w w' := by
  have hcap := h.cap
  have hroom := h.room
  unfold maxLen at hcap
  obtain ⟨n, hn⟩ : ∃ n, b.length = n := ⟨_, rfl⟩
  rw [hn] at hroom ⊢
  have HN := Lib.hid hn.symm
  have hol := openV_le b
  have hnl := (nextV_le b).2
  rw [hn] at hol hnl
  clear hn
  by_cases h2000 : 2000 < n
  · go_enter Try.func4, Try.ntmps4
    go_wp2_with fail
    refine (awake04 _).mono ?_; rintro e w1 ⟨rfl, hb⟩
    go_wp2
    go_ret
    exact ⟨rfl, hb⟩
  · have HO1 := fun w1 h1 h2 => frm_open A c n w.heap.size b w1 HN.out h1 h2 (by omega)
    have HO2 := fun w1 h1 h2 => ref_open A c n w.heap.size b w1 HN.out h1 h2 (by omega)
    have HN1 := fun w1 h1 h2 => frm_next A c n w.heap.size b w1 HN.out h1 h2 (by omega)
    have HN2 := fun w1 h1 h2 => ref_next A c n w.heap.size b w1 HN.out h1 h2 (by omega)
    unfold OpenPost at HO1 HO2
    unfold NextPost at HN1 HN2
    obtain ⟨⟨xo, ro⟩, ho⟩ : ∃ p, openV b = p := ⟨_, rfl⟩
    obtain ⟨⟨xn, kn, rn⟩, hx⟩ : ∃ p, nextV b = p := ⟨_, rfl⟩
    rw [ho] at HO1 HO2 hol
    rw [hx] at HN1 HN2 hnl
    simp only at HO1 HO2 HN1 HN2 hol hnl
    clear ho hx
    go_enter Try.func4, Try.ntmps4
    go_wp2_with fail
    refine (awake04 _).mono ?_; rintro e w1 ⟨rfl, hb1⟩
    have hr := h.below hb1
    have hs := hb1.size
    go_wp2_with fail
    refine (HO1 _ hr hs).mono ?_; rintro e w2 ⟨A2, c2, m2, rfl, hm2, hr2, hb2⟩
    have HM2 := Lib.hid hm2
    replace hb1 := hb1.trans (hb2.mono hs)
    replace hr := h.below hb1
    replace hs := hb1.size
    clear HO1 hm2 hb2
    go_wp2_with fail
    refine (HO2 _ hr hs).mono ?_; rintro e w3 ⟨A3, c3, m3, rfl, hm3, hr3, hb3⟩
    have HM3 := Lib.hid hm3
    replace hr2 := hr2.quiet (grown_of_below hb3 none) (Nat.le_refl _)
    have hs2 := hb3.size
    replace hb1 := hb1.trans (hb3.mono hs)
    replace hr := h.below hb1
    replace hs := hb1.size
    clear HO2 hm3 hb3
    go_wp2_with fail
    refine (HN1 _ hr hs).mono ?_; rintro e w4 ⟨A4, c4, m4, rfl, hm4, hr4, hb4⟩
    have HM4 := Lib.hid hm4
    replace hr2 := hr2.quiet (grown_of_below hb4 none) hs2
    replace hr3 := hr3.quiet (grown_of_below hb4 none) (Nat.le_refl _)
    have hs3 := hb4.size
    replace hb1 := hb1.trans (hb4.mono hs)
    replace hr := h.below hb1
    replace hs := hb1.size
    clear HN1 hm4 hb4
    go_wp2_with fail
    refine (HN2 _ hr hs).mono ?_; rintro e w5 ⟨A5, c5, m5, rfl, hm5, hr5, hb5⟩
    have HM5 := Lib.hid hm5
    replace hr2 := hr2.quiet (grown_of_below hb5 none) (Nat.le_trans hs2 hs3)
    replace hr3 := hr3.quiet (grown_of_below hb5 none) hs3
    replace hr4 := hr4.quiet (grown_of_below hb5 none) (Nat.le_refl _)
    have hs4 := hb5.size
    replace hb1 := hb1.trans (hb5.mono hs)
    replace hs := hb1.size
    clear HN2 hm5 hb5 hr h
    go_wp2_with fail
    refine (ref_eq_same A2 A3 c2 c3 m2 m3 _ _ xo _ HM2.out HM3.out hr2.row hr3.row (by omega)).mono ?_; rintro e w6 ⟨rfl, hg6⟩
    replace hr4 := hr4.quiet hg6 hs4
    replace hr5 := hr5.quiet hg6 (Nat.le_refl _)
    replace hb1 := hb1.trans ((grown_none hg6).mono hs)
    replace hs := hb1.size
    clear hr2 hr3 hg6
    go_wp2_with fail
    refine (ref_eq_same A4 A5 c4 c5 m4 m5 _ _ xn _ HM4.out HM5.out hr4.row hr5.row (by omega)).mono ?_; rintro e w7 ⟨rfl, hg7⟩
    have fin := Lib.hid (hb1.trans ((grown_none hg7).mono hs))
    clear hr4 hr5 hg7 hb1 hs
    go_wp2
    go_ret
    exact ⟨rfl, fin.out⟩
end Go.Proofs.Ytonghhnodpjkfaa
