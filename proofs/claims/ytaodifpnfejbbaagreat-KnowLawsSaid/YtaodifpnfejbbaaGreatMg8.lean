/-
  Several texts in one: Law15D, Law15E, Law08A, Law15F, RgsMrg.
-/
import Derived.Deep.RegionLaw
import Derived.Deep.CutRange
import Derived.Deep.RegionHeld3
import Derived.Test.YtaodifpnfejbbaaGreatMg7
/-
  The laws of layer 15: KnowOf.
-/
namespace Go.Proofs.YtaodifpnfejbbaaGreat
open Go.RowKit

/-- A version lies in block g. -/
def VBoxP (w : World) (g : Nat) (x y : Int) : Prop := w.cell? ⟨g, 0, none⟩ = some (.int .i64 x) ∧ w.cell? ⟨g, 1, none⟩ = some (.int .i64 y)
theorem VBoxP.below {w w' : World} {g : Nat} {x y : Int} (h : VBoxP w g x y) (hb : Below w.heap.size w w') : VBoxP w' g x y := by
  have hl := World.block_lt_of_cell? w _ h.1
  exact ⟨((bcell hb).1 _ _ hl).trans h.1, ((bcell hb).1 _ _ hl).trans h.2⟩
set_option maxRecDepth 100000 in
set_option maxHeartbeats 16000000 in
theorem knowOf_walk (HAL : KAllC 25) (HAD : KAddC 22) (HHA : KHasC 13) (HRI : KRightC 11) (HAT : KAtC 16) (HOF : KOfC 10)
    (A : Option Addr) (c n : Nat) (k : List Pc) (s : List UInt8) (v : Vr) (x y : Int) (hx : v.rep = x) (hy : v.cnt = y) (hn : n = k.length) (w : World) (ha : RdPc w A c k) :
    Calls Tryz.prog 3 #[.slice A n c, .string (str s), .agg #[.int .i64 x, .int .i64 y]] w fun e w' => e = .returned (.bool true) ∧ Below w.heap.size w w' := by
  have hzs : (str s).size = s.length := str_size s
  obtain ⟨U, hU⟩ : ∃ U, str s = U := ⟨_, rfl⟩
  rw [hU] at hzs ⊢
  obtain ⟨WB, hWB⟩ : ∃ WB, w.alloc (.cells #[.int .i64 x, .int .i64 y] 24) = WB := ⟨_, rfl⟩
  have A0 := fun w => Lib.hid (awake15 HAL HAD HHA HRI w)
  have HW := Lib.hid (show Below w.heap.size w WB from hWB ▸ below_new _ _)
  have HA := Lib.hid (ha.call HW.out)
  have HX := Lib.hid (show VBoxP WB w.heap.size x y from hWB ▸ vbox_new w x y)
  obtain ⟨g0, g1⟩ := HX.out
  obtain ⟨la, hla⟩ : ∃ z, longP 12 k = z := ⟨_, rfl⟩
  have LA := fun w hr => Lib.hid (ref_plong 12 12 rfl (by omega) A c n k hn la hla w hr)
  by_cases hlong : la = true ∨ 300 < U.size
  · clear HAL HAD HHA HRI HAT HOF ha hn hla hzs hU hx hy
    cases la
    · have hs : 300 < U.size := by rcases hlong with h | h; cases h; exact h
      clear hlong
      go_enter Tryz.func3, Tryz.ntmps3
      go_wp2_with (first
        | ((with_reducible refine (A0 _).out.mono ?_); rintro e w9 ⟨rfl, hq⟩; (try replace HA := Lib.hid (HA.out.call hq)); replace HX := Lib.hid (HX.out.below hq); clear g0 g1; obtain ⟨g0, g1⟩ := HX.out; replace HW := Lib.hid (HW.out.trans (hq.mono HW.out.size)); clear hq)
        | ((with_reducible refine (LA _ HA.out).out.mono ?_); rintro e w9 ⟨rfl, hq⟩; (try replace HA := Lib.hid (HA.out.call hq)); replace HX := Lib.hid (HX.out.below hq); clear g0 g1; obtain ⟨g0, g1⟩ := HX.out; replace HW := Lib.hid (HW.out.trans (hq.mono HW.out.size)); clear hq))
      go_ret
      exact ⟨rfl, HW.out⟩
    · clear hlong
      go_enter Tryz.func3, Tryz.ntmps3
      go_wp2_with (first
        | ((with_reducible refine (A0 _).out.mono ?_); rintro e w9 ⟨rfl, hq⟩; (try replace HA := Lib.hid (HA.out.call hq)); replace HX := Lib.hid (HX.out.below hq); clear g0 g1; obtain ⟨g0, g1⟩ := HX.out; replace HW := Lib.hid (HW.out.trans (hq.mono HW.out.size)); clear hq)
        | ((with_reducible refine (LA _ HA.out).out.mono ?_); rintro e w9 ⟨rfl, hq⟩; (try replace HA := Lib.hid (HA.out.call hq)); replace HX := Lib.hid (HX.out.below hq); clear g0 g1; obtain ⟨g0, g1⟩ := HX.out; replace HW := Lib.hid (HW.out.trans (hq.mono HW.out.size)); clear hq))
      go_ret
      exact ⟨rfl, HW.out⟩
  · obtain rfl : la = false := by cases la; rfl; exact absurd (.inl rfl) hlong
    have hs : U.size ≤ 300 := by
      rcases Nat.lt_or_ge 300 U.size with h | h
      · exact absurd (.inr h) hlong
      · exact h
    clear hlong
    have ca := longP_cap hla
    have ka : CapK k := capK_long hla (by omega)
    have pa := ca.cap (by omega) (by omega)
    obtain ⟨z, hz⟩ : ∃ z, rightP k = z := ⟨_, rfl⟩
    obtain ⟨p, hp⟩ : ∃ p, hasP k s v = p := ⟨_, rfl⟩
    obtain ⟨KK, hK⟩ : ∃ K, atK k s = K := ⟨_, rfl⟩
    obtain ⟨NK, hNK⟩ : ∃ N, KK.length = N := ⟨_, rfl⟩
    obtain ⟨UO, hO⟩ : ∃ U, ofP k = U := ⟨_, rfl⟩
    obtain ⟨NO, hNO⟩ : ∃ N, N = UO.length := ⟨_, rfl⟩
    have co : CapN 25 3072 UO := hO ▸ ca.of.mono (by omega) (by omega)
    have ko : CapK UO := co.mono (by omega) (by omega)
    have CO := fun w h => Lib.hid (HOF A c n k hn ka UO hO NO hNO w h)
    have R1 := fun w h => Lib.hid (HRI A c n k hn ka z hz w h)
    have R2 := fun w h => Lib.hid (ref_pright A c n k hn (fun p hp => by have := ca.each p hp; omega) z hz w h)
    have F1 := fun w h => Lib.hid (HHA A c n k s U v x y hn hU (by omega) hx hy ka p hp w h)
    have F2 := fun w h => Lib.hid (ref_phas A c n k s U v x y hn hU (by omega) hx hy (fun q hq => by have := ca.own q hq x; omega) p hp w h)
    have T1 := fun w h => Lib.hid (HAT A c n k s U hn hU (by omega) ka KK hK NK hNK w h)
    have T2 := fun w h => Lib.hid ((k_at A c n k s U hn hU (by omega) pa KK hK NK hNK w h).mono fun _ _ h => h.to)
    have S1 := fun A B c d w ha hb => Lib.hid (vsame_is A B c d NK NK KK hNK.symm hNK.symm w ha hb)
    have O2 := fun w h => Lib.hid (ref_pof A c n k hn pa UO hO NO hNO w h)
    have S2 := fun A B c d w ha hb => Lib.hid (psame_is A B c d NO NO UO hNO hNO w ha hb)
    have R3 := fun A c w h => Lib.hid (HRI A c NO UO hNO ko true (hO ▸ makeP_right ..) w h)
    have F3 := fun A c w h => Lib.hid (ref_phas A c NO UO s U v x y hNO hU (by omega) hx hy (fun q hq => by have := co.own q hq x; omega) p (by rw [← hO, ofP_has]; exact hp) w h)
    clear HAL HAD HHA HRI HAT HOF ha hn hla hzs hU hx hy ca ka pa hz hp hK hNK hO hNO co ko
    go_enter Tryz.func3, Tryz.ntmps3
    go_upto_region 6 with (first
      | ((with_reducible refine (A0 _).out.mono ?_); rintro e w9 ⟨rfl, hq⟩; (try replace HA := Lib.hid (HA.out.call hq)); (try replace HO := Lib.hid (HO.out.call hq)); (try replace HP := Lib.hid (HP.out.call hq)); (try replace HQ := Lib.hid (HQ.out.call hq)); (try replace HU := Lib.hid (HU.out.call hq)); replace HX := Lib.hid (HX.out.below hq); clear g0 g1; obtain ⟨g0, g1⟩ := HX.out; replace HW := Lib.hid (HW.out.trans (hq.mono HW.out.size)); clear hq)
      | ((with_reducible refine (LA _ HA.out).out.mono ?_); rintro e w9 ⟨rfl, hq⟩; (try replace HA := Lib.hid (HA.out.call hq)); (try replace HO := Lib.hid (HO.out.call hq)); (try replace HP := Lib.hid (HP.out.call hq)); (try replace HQ := Lib.hid (HQ.out.call hq)); (try replace HU := Lib.hid (HU.out.call hq)); replace HX := Lib.hid (HX.out.below hq); clear g0 g1; obtain ⟨g0, g1⟩ := HX.out; replace HW := Lib.hid (HW.out.trans (hq.mono HW.out.size)); clear hq)
      | ((with_reducible refine (CO _ HA.out).out.mono ?_); rintro e w9 ⟨AO, cO, rfl, hrd, hq⟩; (try clear HO); (try replace HA := Lib.hid (HA.out.call hq)); (try replace HP := Lib.hid (HP.out.call hq)); (try replace HQ := Lib.hid (HQ.out.call hq)); (try replace HU := Lib.hid (HU.out.call hq)); replace HX := Lib.hid (HX.out.below hq); clear g0 g1; obtain ⟨g0, g1⟩ := HX.out; replace HW := Lib.hid (HW.out.trans (hq.mono HW.out.size)); have HO := Lib.hid hrd; clear hrd hq))
    clear A0 LA CO hWB
    have hq : Below w9.heap.size w9 w9.drew := (Below.refl _ _).drew
    (try replace HA := Lib.hid (HA.out.call hq))
    (try replace HO := Lib.hid (HO.out.call hq))
    (try replace HP := Lib.hid (HP.out.call hq))
    (try replace HQ := Lib.hid (HQ.out.call hq))
    (try replace HU := Lib.hid (HU.out.call hq))
    replace HX := Lib.hid (HX.out.below hq)
    clear g0 g1
    obtain ⟨g0, g1⟩ := HX.out
    replace HW := Lib.hid (HW.out.trans (hq.mono HW.out.size))
    clear hq
    go_region_held3 (fun w' => w'.cell? ⟨w.heap.size, 0, none⟩ = some (.int .i64 x) ∧ w'.cell? ⟨w.heap.size, 1, none⟩ = some (.int .i64 y)) (first | (exact ⟨by assumption, by assumption⟩) | go_keep)
      (first
        | (go_at_call 11; (with_reducible refine (R1 _ HA.out).out.mono ?_); rintro e w9 ⟨rfl, hq⟩; (try replace HA := Lib.hid (HA.out.call hq)); (try replace HO := Lib.hid (HO.out.call hq)); (try replace HP := Lib.hid (HP.out.call hq)); (try replace HQ := Lib.hid (HQ.out.call hq)); (try replace HU := Lib.hid (HU.out.call hq)); replace HX := Lib.hid (HX.out.below hq); clear g0 g1; obtain ⟨g0, g1⟩ := HX.out; replace HW := Lib.hid (HW.out.trans (hq.mono HW.out.size)); clear hq)
        | (go_at_call 12; (with_reducible refine (R2 _ HA.out).out.mono ?_); rintro e w9 ⟨rfl, hq⟩; (try replace HA := Lib.hid (HA.out.call hq)); (try replace HO := Lib.hid (HO.out.call hq)); (try replace HP := Lib.hid (HP.out.call hq)); (try replace HQ := Lib.hid (HQ.out.call hq)); (try replace HU := Lib.hid (HU.out.call hq)); replace HX := Lib.hid (HX.out.below hq); clear g0 g1; obtain ⟨g0, g1⟩ := HX.out; replace HW := Lib.hid (HW.out.trans (hq.mono HW.out.size)); clear hq)
        | (go_at_call 13; (with_reducible refine (F1 _ HA.out).out.mono ?_); rintro e w9 ⟨rfl, hq⟩; (try replace HA := Lib.hid (HA.out.call hq)); (try replace HO := Lib.hid (HO.out.call hq)); (try replace HP := Lib.hid (HP.out.call hq)); (try replace HQ := Lib.hid (HQ.out.call hq)); (try replace HU := Lib.hid (HU.out.call hq)); replace HX := Lib.hid (HX.out.below hq); clear g0 g1; obtain ⟨g0, g1⟩ := HX.out; replace HW := Lib.hid (HW.out.trans (hq.mono HW.out.size)); clear hq)
        | (go_at_call 14; (with_reducible refine (F2 _ HA.out).out.mono ?_); rintro e w9 ⟨rfl, hq⟩; (try replace HA := Lib.hid (HA.out.call hq)); (try replace HO := Lib.hid (HO.out.call hq)); (try replace HP := Lib.hid (HP.out.call hq)); (try replace HQ := Lib.hid (HQ.out.call hq)); (try replace HU := Lib.hid (HU.out.call hq)); replace HX := Lib.hid (HX.out.below hq); clear g0 g1; obtain ⟨g0, g1⟩ := HX.out; replace HW := Lib.hid (HW.out.trans (hq.mono HW.out.size)); clear hq)
        | (go_at_call 16; (with_reducible refine (T1 _ HA.out).out.mono ?_); rintro e w9 ⟨AP, cP, rfl, hrd, hq⟩; (try replace HA := Lib.hid (HA.out.call hq)); (try replace HO := Lib.hid (HO.out.call hq)); (try replace HQ := Lib.hid (HQ.out.call hq)); (try replace HU := Lib.hid (HU.out.call hq)); replace HX := Lib.hid (HX.out.below hq); clear g0 g1; obtain ⟨g0, g1⟩ := HX.out; replace HW := Lib.hid (HW.out.trans (hq.mono HW.out.size)); have HP := Lib.hid hrd; clear hrd hq)
        | (go_at_call 17; (with_reducible refine (T2 _ HA.out).out.mono ?_); rintro e w9 ⟨AQ, cQ, rfl, hrd, hq⟩; (try replace HA := Lib.hid (HA.out.call hq)); (try replace HO := Lib.hid (HO.out.call hq)); (try replace HP := Lib.hid (HP.out.call hq)); (try replace HU := Lib.hid (HU.out.call hq)); replace HX := Lib.hid (HX.out.below hq); clear g0 g1; obtain ⟨g0, g1⟩ := HX.out; replace HW := Lib.hid (HW.out.trans (hq.mono HW.out.size)); have HQ := Lib.hid hrd; clear hrd hq)
        | (go_at_call 15; (with_reducible refine (S1 _ _ _ _ _ HP.out HQ.out).out.mono ?_); rintro e w9 ⟨rfl, hq⟩; (try replace HA := Lib.hid (HA.out.call hq)); (try replace HO := Lib.hid (HO.out.call hq)); (try replace HP := Lib.hid (HP.out.call hq)); (try replace HQ := Lib.hid (HQ.out.call hq)); (try replace HU := Lib.hid (HU.out.call hq)); replace HX := Lib.hid (HX.out.below hq); clear g0 g1; obtain ⟨g0, g1⟩ := HX.out; replace HW := Lib.hid (HW.out.trans (hq.mono HW.out.size)); clear hq)
        | (go_at_call 19; (with_reducible refine (O2 _ HA.out).out.mono ?_); rintro e w9 ⟨AU, cU, rfl, hrd, hq⟩; (try replace HA := Lib.hid (HA.out.call hq)); (try replace HO := Lib.hid (HO.out.call hq)); (try replace HP := Lib.hid (HP.out.call hq)); (try replace HQ := Lib.hid (HQ.out.call hq)); replace HX := Lib.hid (HX.out.below hq); clear g0 g1; obtain ⟨g0, g1⟩ := HX.out; replace HW := Lib.hid (HW.out.trans (hq.mono HW.out.size)); have HU := Lib.hid hrd; clear hrd hq)
        | (go_at_call 18; (with_reducible refine (S2 _ _ _ _ _ HO.out HU.out).out.mono ?_); rintro e w9 ⟨rfl, hq⟩; (try replace HA := Lib.hid (HA.out.call hq)); (try replace HO := Lib.hid (HO.out.call hq)); (try replace HP := Lib.hid (HP.out.call hq)); (try replace HQ := Lib.hid (HQ.out.call hq)); (try replace HU := Lib.hid (HU.out.call hq)); replace HX := Lib.hid (HX.out.below hq); clear g0 g1; obtain ⟨g0, g1⟩ := HX.out; replace HW := Lib.hid (HW.out.trans (hq.mono HW.out.size)); clear hq)
        | (go_at_call 11; (with_reducible refine (R3 _ _ _ HO.out).out.mono ?_); rintro e w9 ⟨rfl, hq⟩; (try replace HA := Lib.hid (HA.out.call hq)); (try replace HO := Lib.hid (HO.out.call hq)); (try replace HP := Lib.hid (HP.out.call hq)); (try replace HQ := Lib.hid (HQ.out.call hq)); (try replace HU := Lib.hid (HU.out.call hq)); replace HX := Lib.hid (HX.out.below hq); clear g0 g1; obtain ⟨g0, g1⟩ := HX.out; replace HW := Lib.hid (HW.out.trans (hq.mono HW.out.size)); clear hq)
        | (go_at_call 14; (with_reducible refine (F3 _ _ _ HO.out).out.mono ?_); rintro e w9 ⟨rfl, hq⟩; (try replace HA := Lib.hid (HA.out.call hq)); (try replace HO := Lib.hid (HO.out.call hq)); (try replace HP := Lib.hid (HP.out.call hq)); (try replace HQ := Lib.hid (HQ.out.call hq)); (try replace HU := Lib.hid (HU.out.call hq)); replace HX := Lib.hid (HX.out.below hq); clear g0 g1; obtain ⟨g0, g1⟩ := HX.out; replace HW := Lib.hid (HW.out.trans (hq.mono HW.out.size)); clear hq))
    all_goals
      go_wp2_with fail
      go_ret
      exact ⟨rfl, HW.out⟩
end Go.Proofs.YtaodifpnfejbbaaGreat

/-
  The laws of layer 15: KnowAdds.
-/
namespace Go.Proofs.YtaodifpnfejbbaaGreat
open Go.RowKit

theorem adds_runs0 (l : List Vr) (r : Int) : (runsV (addsS [] l) r).length ≤ l.length := by
  have h := adds_runs l (ofS []) r
  have h2 := ofS_short [] r
  unfold addsS
  have h3 : (runsV [] r).length = 0 := rfl
  omega
theorem foldl_addS_right : ∀ (l : List Vr) {s : List Kn}, rightS s = true → rightS (l.foldl addS s) = true
  | [], _, h => h
  | _ :: l, _, h => foldl_addS_right l (addS_right h)
theorem addsS_right (s : List Kn) (l : List Vr) : rightS (addsS s l) = true := foldl_addS_right l (ofS_right s)
theorem oneP_cap {s : List UInt8} {l : List Vr} : CapN 1 l.length (oneP s l) := by
  by_cases h : rightB s = true ∧ addsS [] l ≠ []
  · rw [oneP_yes h.1 h.2]
    have hs : s.length ≤ 16 := by have := h.1; unfold rightB at this; simp at this; exact this.2
    have hr : (ofR s).lo.length ≤ 17 ∧ (ofR s).hi.length ≤ 17 := by
      unfold ofR
      rw [decide_eq_true hs]
      simp; omega
    have hset : (addsS [] l).length ≤ 16 := upS_length (addsS_right [] l)
    refine ⟨by simp, fun p hp => ?_, fun p hp r => ?_, fun t r => ?_⟩
    · rw [List.mem_singleton] at hp; subst hp; exact ⟨Nat.le_trans hr.1 (by omega), Nat.le_trans hr.2 (by omega), hset⟩
    · rw [List.mem_singleton] at hp; subst hp; exact adds_runs0 l r
    · have h1 := runsV_cat (B := l.length) (k := [⟨ofR s, addsS [] l⟩]) t r (fun p hp => by rw [List.mem_singleton] at hp; subst hp; exact adds_runs0 l r)
      simpa using h1
  · rw [oneP_no (by
      by_cases h1 : rightB s = true
      · by_cases h2 : addsS [] l = []
        · exact .inr h2
        · exact absurd ⟨h1, h2⟩ h
      · exact .inl (by simpa using h1))]
    exact .nil _ _
theorem allPc_cap {l : List Rng} {S : List Kn} (hl : SmallL 8 l) (hs : longV 8 S = false) : CapN 8 512 (allPc l S) := by
  have hz := longV_size hs
  have ho : ∀ r, (runsV S r).length ≤ 64 := fun r => by
    have h4 := runsV_len r hz.2
    have h5 : 8 * S.length ≤ 8 * 8 := Nat.mul_le_mul_left 8 hz.1
    omega
  have hlen : (allPc l S).length ≤ 8 := by unfold allPc; rw [List.length_map]; exact hl.1
  refine ⟨hlen, fun p hp => ?_, fun p hp r => ?_, fun t r => ?_⟩
  · obtain ⟨x, hx, rfl⟩ := List.mem_map.1 hp
    exact ⟨(hl.2 x hx).1, (hl.2 x hx).2, by have := hz.1; show S.length ≤ 16; omega⟩
  · obtain ⟨x, hx, rfl⟩ := List.mem_map.1 hp
    have := ho r
    show (runsV S r).length ≤ 512
    omega
  · refine Nat.le_trans (runsV_cat (B := 64) t r fun p hp => ?_) (by have h5 : 64 * (allPc l S).length ≤ 64 * 8 := Nat.mul_le_mul_left 64 hlen; omega)
    obtain ⟨x, hx, rfl⟩ := List.mem_map.1 hp
    exact ho r
/-- What is added, in its block. -/
def AdBox (w : World) (g : Nat) (X : ByteArray) (V L S : Value) : Prop := w.cell? ⟨g, 0, none⟩ = some (.string X) ∧ w.cell? ⟨g, 1, none⟩ = some V ∧ w.cell? ⟨g, 2, none⟩ = some L ∧ w.cell? ⟨g, 3, none⟩ = some S
theorem AdBox.below {w w' : World} {g : Nat} {X : ByteArray} {V L S : Value} (h : AdBox w g X V L S) (hb : Below w.heap.size w w') : AdBox w' g X V L S := by
  have hl := World.block_lt_of_cell? w _ h.1
  exact ⟨((bcell hb).1 _ _ hl).trans h.1, ((bcell hb).1 _ _ hl).trans h.2.1, ((bcell hb).1 _ _ hl).trans h.2.2.1, ((bcell hb).1 _ _ hl).trans h.2.2.2⟩
theorem adBox_new (w : World) (X : ByteArray) (V L S : Value) : AdBox (w.alloc (.cells #[.string X, V, L, S] 38)) w.heap.size X V L S := by
  have h := heap_new w (.cells #[.string X, V, L, S] 38) _ rfl
  exact ⟨by rw [cell_of_row _ _ _ _ _ _ h]; rfl, by rw [cell_of_row _ _ _ _ _ _ h]; rfl, by rw [cell_of_row _ _ _ _ _ _ h]; rfl, by rw [cell_of_row _ _ _ _ _ _ h]; rfl⟩
theorem allPc_take {l : List Rng} {S : List Kn} {j : Nat} {r : Rng} (h : l[j]? = some r) : allPc (l.take (j + 1)) S = allPc (l.take j) S ++ [⟨r, S⟩] := by
  unfold allPc
  rw [List.take_add_one, h, List.map_append]; rfl
set_option maxRecDepth 100000 in
set_option maxHeartbeats 32000000 in
theorem knowAdds_long (HAL : KAllC 25) (HAD : KAddC 22) (HHA : KHasC 13) (HRI : KRightC 11)
    (A B D F : Option Addr) (c d e f n m q h : Nat) (k : List Pc) (s : List UInt8) (vs : List Vr) (l : List Rng) (S : List Kn) (hn : n = k.length) (hm : m = vs.length) (hq : q = l.length) (hh : h = S.length) (w : World)
    (ha : RdPc w A c k) (hb : kVr.Rd w w.heap.size B d vs) (hl : kRng.Rd w w.heap.size D e l) (hS : RdK w w.heap.size F f S)
    (hlong : longP 8 k = true ∨ 300 < (str s).size ∨ 8 < m ∨ longL 8 l = true ∨ longV 8 S = true) :
    Calls Tryz.prog 4 #[.slice A n c, .agg #[.string (str s), .slice B m d, .slice D q e, .slice F h f]] w fun e w' => e = .returned (.bool true) ∧ Below w.heap.size w w' := by
  have hzs : (str s).size = s.length := str_size s
  obtain ⟨U, hU⟩ : ∃ U, str s = U := ⟨_, rfl⟩
  rw [hU] at hzs ⊢
  obtain ⟨WB, hWB⟩ : ∃ WB, w.alloc (.cells #[.string U, .slice B m d, .slice D q e, .slice F h f] 38) = WB := ⟨_, rfl⟩
  have A0 := fun w => Lib.hid (awake15 HAL HAD HHA HRI w)
  have HW := Lib.hid (show Below w.heap.size w WB from hWB ▸ below_new _ _)
  have HA := Lib.hid (ha.call HW.out)
  have HB := Lib.hid (hb.call HW.out)
  have HL := Lib.hid (hl.call HW.out)
  have HS := Lib.hid (hS.call HW.out)
  have HX := Lib.hid (show AdBox WB w.heap.size U (.slice B m d) (.slice D q e) (.slice F h f) from hWB ▸ adBox_new w _ _ _ _)
  obtain ⟨g0, g1, g2, g3⟩ := HX.out
  have hmd : m ≤ d := by rw [hm]; exact hb.room
  have hqe : q ≤ e := by rw [hq]; exact hl.room
  have hhf : h ≤ f := by rw [hh]; exact hS.room
  have hm9 : m ≤ 9223372036854775807 := rd_max hb hm
  have hq9 : q ≤ 9223372036854775807 := rd_max hl hq
  obtain ⟨la, hla⟩ : ∃ z, longP 8 k = z := ⟨_, rfl⟩
  obtain ⟨ll, hll⟩ : ∃ z, longL 8 l = z := ⟨_, rfl⟩
  obtain ⟨ls, hls⟩ : ∃ z, longV 8 S = z := ⟨_, rfl⟩
  have LA := fun w hr => Lib.hid (ref_plong 8 8 rfl (by omega) A c n k hn la hla w hr)
  have LL := fun w hr => Lib.hid (rl_long D e q 8 8 rfl l hq (by omega) ll hll w hr)
  have LS := fun w hr => Lib.hid (ref_vlong 8 8 rfl (by omega) F f h S hh ls hls w hr)
  rw [hU, hla, hll, hls] at hlong
  · clear HAL HAD HHA HRI ha hb hl hS hn hm hq hh hla hll hls hzs hU
    cases la
    case true =>
      clear hlong
      go_enter Tryz.func4, Tryz.ntmps4
      go_wp2_with (first
        | ((with_reducible refine (A0 _).out.mono ?_); rintro e w9 ⟨rfl, hq⟩; (try replace HA := Lib.hid (HA.out.call hq)); (try replace HB := Lib.hid (HB.out.call hq)); (try replace HL := Lib.hid (HL.out.call hq)); (try replace HS := Lib.hid (HS.out.call hq)); replace HX := Lib.hid (HX.out.below hq); clear g0 g1 g2 g3; obtain ⟨g0, g1, g2, g3⟩ := HX.out; replace HW := Lib.hid (HW.out.trans (hq.mono HW.out.size)); clear hq)
        | ((with_reducible refine (LA _ HA.out).out.mono ?_); rintro e w9 ⟨rfl, hq⟩; (try replace HA := Lib.hid (HA.out.call hq)); (try replace HB := Lib.hid (HB.out.call hq)); (try replace HL := Lib.hid (HL.out.call hq)); (try replace HS := Lib.hid (HS.out.call hq)); replace HX := Lib.hid (HX.out.below hq); clear g0 g1 g2 g3; obtain ⟨g0, g1, g2, g3⟩ := HX.out; replace HW := Lib.hid (HW.out.trans (hq.mono HW.out.size)); clear hq)
        | ((with_reducible refine (LL _ HL.out).out.mono ?_); rintro e w9 ⟨rfl, hq⟩; (try replace HA := Lib.hid (HA.out.call hq)); (try replace HB := Lib.hid (HB.out.call hq)); (try replace HL := Lib.hid (HL.out.call hq)); (try replace HS := Lib.hid (HS.out.call hq)); replace HX := Lib.hid (HX.out.below hq); clear g0 g1 g2 g3; obtain ⟨g0, g1, g2, g3⟩ := HX.out; replace HW := Lib.hid (HW.out.trans (hq.mono HW.out.size)); clear hq)
        | ((with_reducible refine (LS _ HS.out).out.mono ?_); rintro e w9 ⟨rfl, hq⟩; (try replace HA := Lib.hid (HA.out.call hq)); (try replace HB := Lib.hid (HB.out.call hq)); (try replace HL := Lib.hid (HL.out.call hq)); (try replace HS := Lib.hid (HS.out.call hq)); replace HX := Lib.hid (HX.out.below hq); clear g0 g1 g2 g3; obtain ⟨g0, g1, g2, g3⟩ := HX.out; replace HW := Lib.hid (HW.out.trans (hq.mono HW.out.size)); clear hq))
      go_ret
      exact ⟨rfl, HW.out⟩
    case false =>
      by_cases h1 : 300 < U.size
      · clear hlong
        go_enter Tryz.func4, Tryz.ntmps4
        go_wp2_with (first
          | ((with_reducible refine (A0 _).out.mono ?_); rintro e w9 ⟨rfl, hq⟩; (try replace HA := Lib.hid (HA.out.call hq)); (try replace HB := Lib.hid (HB.out.call hq)); (try replace HL := Lib.hid (HL.out.call hq)); (try replace HS := Lib.hid (HS.out.call hq)); replace HX := Lib.hid (HX.out.below hq); clear g0 g1 g2 g3; obtain ⟨g0, g1, g2, g3⟩ := HX.out; replace HW := Lib.hid (HW.out.trans (hq.mono HW.out.size)); clear hq)
          | ((with_reducible refine (LA _ HA.out).out.mono ?_); rintro e w9 ⟨rfl, hq⟩; (try replace HA := Lib.hid (HA.out.call hq)); (try replace HB := Lib.hid (HB.out.call hq)); (try replace HL := Lib.hid (HL.out.call hq)); (try replace HS := Lib.hid (HS.out.call hq)); replace HX := Lib.hid (HX.out.below hq); clear g0 g1 g2 g3; obtain ⟨g0, g1, g2, g3⟩ := HX.out; replace HW := Lib.hid (HW.out.trans (hq.mono HW.out.size)); clear hq)
          | ((with_reducible refine (LL _ HL.out).out.mono ?_); rintro e w9 ⟨rfl, hq⟩; (try replace HA := Lib.hid (HA.out.call hq)); (try replace HB := Lib.hid (HB.out.call hq)); (try replace HL := Lib.hid (HL.out.call hq)); (try replace HS := Lib.hid (HS.out.call hq)); replace HX := Lib.hid (HX.out.below hq); clear g0 g1 g2 g3; obtain ⟨g0, g1, g2, g3⟩ := HX.out; replace HW := Lib.hid (HW.out.trans (hq.mono HW.out.size)); clear hq)
          | ((with_reducible refine (LS _ HS.out).out.mono ?_); rintro e w9 ⟨rfl, hq⟩; (try replace HA := Lib.hid (HA.out.call hq)); (try replace HB := Lib.hid (HB.out.call hq)); (try replace HL := Lib.hid (HL.out.call hq)); (try replace HS := Lib.hid (HS.out.call hq)); replace HX := Lib.hid (HX.out.below hq); clear g0 g1 g2 g3; obtain ⟨g0, g1, g2, g3⟩ := HX.out; replace HW := Lib.hid (HW.out.trans (hq.mono HW.out.size)); clear hq))
        go_ret
        exact ⟨rfl, HW.out⟩
      · by_cases h2 : 8 < m
        · clear hlong
          go_enter Tryz.func4, Tryz.ntmps4
          go_wp2_with (first
            | ((with_reducible refine (A0 _).out.mono ?_); rintro e w9 ⟨rfl, hq⟩; (try replace HA := Lib.hid (HA.out.call hq)); (try replace HB := Lib.hid (HB.out.call hq)); (try replace HL := Lib.hid (HL.out.call hq)); (try replace HS := Lib.hid (HS.out.call hq)); replace HX := Lib.hid (HX.out.below hq); clear g0 g1 g2 g3; obtain ⟨g0, g1, g2, g3⟩ := HX.out; replace HW := Lib.hid (HW.out.trans (hq.mono HW.out.size)); clear hq)
            | ((with_reducible refine (LA _ HA.out).out.mono ?_); rintro e w9 ⟨rfl, hq⟩; (try replace HA := Lib.hid (HA.out.call hq)); (try replace HB := Lib.hid (HB.out.call hq)); (try replace HL := Lib.hid (HL.out.call hq)); (try replace HS := Lib.hid (HS.out.call hq)); replace HX := Lib.hid (HX.out.below hq); clear g0 g1 g2 g3; obtain ⟨g0, g1, g2, g3⟩ := HX.out; replace HW := Lib.hid (HW.out.trans (hq.mono HW.out.size)); clear hq)
            | ((with_reducible refine (LL _ HL.out).out.mono ?_); rintro e w9 ⟨rfl, hq⟩; (try replace HA := Lib.hid (HA.out.call hq)); (try replace HB := Lib.hid (HB.out.call hq)); (try replace HL := Lib.hid (HL.out.call hq)); (try replace HS := Lib.hid (HS.out.call hq)); replace HX := Lib.hid (HX.out.below hq); clear g0 g1 g2 g3; obtain ⟨g0, g1, g2, g3⟩ := HX.out; replace HW := Lib.hid (HW.out.trans (hq.mono HW.out.size)); clear hq)
            | ((with_reducible refine (LS _ HS.out).out.mono ?_); rintro e w9 ⟨rfl, hq⟩; (try replace HA := Lib.hid (HA.out.call hq)); (try replace HB := Lib.hid (HB.out.call hq)); (try replace HL := Lib.hid (HL.out.call hq)); (try replace HS := Lib.hid (HS.out.call hq)); replace HX := Lib.hid (HX.out.below hq); clear g0 g1 g2 g3; obtain ⟨g0, g1, g2, g3⟩ := HX.out; replace HW := Lib.hid (HW.out.trans (hq.mono HW.out.size)); clear hq))
          go_ret
          exact ⟨rfl, HW.out⟩
        · cases ll
          case true =>
            clear hlong
            go_enter Tryz.func4, Tryz.ntmps4
            go_wp2_with (first
              | ((with_reducible refine (A0 _).out.mono ?_); rintro e w9 ⟨rfl, hq⟩; (try replace HA := Lib.hid (HA.out.call hq)); (try replace HB := Lib.hid (HB.out.call hq)); (try replace HL := Lib.hid (HL.out.call hq)); (try replace HS := Lib.hid (HS.out.call hq)); replace HX := Lib.hid (HX.out.below hq); clear g0 g1 g2 g3; obtain ⟨g0, g1, g2, g3⟩ := HX.out; replace HW := Lib.hid (HW.out.trans (hq.mono HW.out.size)); clear hq)
              | ((with_reducible refine (LA _ HA.out).out.mono ?_); rintro e w9 ⟨rfl, hq⟩; (try replace HA := Lib.hid (HA.out.call hq)); (try replace HB := Lib.hid (HB.out.call hq)); (try replace HL := Lib.hid (HL.out.call hq)); (try replace HS := Lib.hid (HS.out.call hq)); replace HX := Lib.hid (HX.out.below hq); clear g0 g1 g2 g3; obtain ⟨g0, g1, g2, g3⟩ := HX.out; replace HW := Lib.hid (HW.out.trans (hq.mono HW.out.size)); clear hq)
              | ((with_reducible refine (LL _ HL.out).out.mono ?_); rintro e w9 ⟨rfl, hq⟩; (try replace HA := Lib.hid (HA.out.call hq)); (try replace HB := Lib.hid (HB.out.call hq)); (try replace HL := Lib.hid (HL.out.call hq)); (try replace HS := Lib.hid (HS.out.call hq)); replace HX := Lib.hid (HX.out.below hq); clear g0 g1 g2 g3; obtain ⟨g0, g1, g2, g3⟩ := HX.out; replace HW := Lib.hid (HW.out.trans (hq.mono HW.out.size)); clear hq)
              | ((with_reducible refine (LS _ HS.out).out.mono ?_); rintro e w9 ⟨rfl, hq⟩; (try replace HA := Lib.hid (HA.out.call hq)); (try replace HB := Lib.hid (HB.out.call hq)); (try replace HL := Lib.hid (HL.out.call hq)); (try replace HS := Lib.hid (HS.out.call hq)); replace HX := Lib.hid (HX.out.below hq); clear g0 g1 g2 g3; obtain ⟨g0, g1, g2, g3⟩ := HX.out; replace HW := Lib.hid (HW.out.trans (hq.mono HW.out.size)); clear hq))
            go_ret
            exact ⟨rfl, HW.out⟩
          case false =>
            obtain rfl : ls = true := by
              rcases hlong with h | h | h | h | h
              · cases h
              · exact absurd h h1
              · exact absurd h h2
              · cases h
              · exact h
            clear hlong
            go_enter Tryz.func4, Tryz.ntmps4
            go_wp2_with (first
              | ((with_reducible refine (A0 _).out.mono ?_); rintro e w9 ⟨rfl, hq⟩; (try replace HA := Lib.hid (HA.out.call hq)); (try replace HB := Lib.hid (HB.out.call hq)); (try replace HL := Lib.hid (HL.out.call hq)); (try replace HS := Lib.hid (HS.out.call hq)); replace HX := Lib.hid (HX.out.below hq); clear g0 g1 g2 g3; obtain ⟨g0, g1, g2, g3⟩ := HX.out; replace HW := Lib.hid (HW.out.trans (hq.mono HW.out.size)); clear hq)
              | ((with_reducible refine (LA _ HA.out).out.mono ?_); rintro e w9 ⟨rfl, hq⟩; (try replace HA := Lib.hid (HA.out.call hq)); (try replace HB := Lib.hid (HB.out.call hq)); (try replace HL := Lib.hid (HL.out.call hq)); (try replace HS := Lib.hid (HS.out.call hq)); replace HX := Lib.hid (HX.out.below hq); clear g0 g1 g2 g3; obtain ⟨g0, g1, g2, g3⟩ := HX.out; replace HW := Lib.hid (HW.out.trans (hq.mono HW.out.size)); clear hq)
              | ((with_reducible refine (LL _ HL.out).out.mono ?_); rintro e w9 ⟨rfl, hq⟩; (try replace HA := Lib.hid (HA.out.call hq)); (try replace HB := Lib.hid (HB.out.call hq)); (try replace HL := Lib.hid (HL.out.call hq)); (try replace HS := Lib.hid (HS.out.call hq)); replace HX := Lib.hid (HX.out.below hq); clear g0 g1 g2 g3; obtain ⟨g0, g1, g2, g3⟩ := HX.out; replace HW := Lib.hid (HW.out.trans (hq.mono HW.out.size)); clear hq)
              | ((with_reducible refine (LS _ HS.out).out.mono ?_); rintro e w9 ⟨rfl, hq⟩; (try replace HA := Lib.hid (HA.out.call hq)); (try replace HB := Lib.hid (HB.out.call hq)); (try replace HL := Lib.hid (HL.out.call hq)); (try replace HS := Lib.hid (HS.out.call hq)); replace HX := Lib.hid (HX.out.below hq); clear g0 g1 g2 g3; obtain ⟨g0, g1, g2, g3⟩ := HX.out; replace HW := Lib.hid (HW.out.trans (hq.mono HW.out.size)); clear hq))
            go_ret
            exact ⟨rfl, HW.out⟩
set_option maxRecDepth 100000 in
set_option maxHeartbeats 32000000 in
theorem knowAdds_walk (HAL : KAllC 25) (HAD : KAddC 22) (HHA : KHasC 13) (HRI : KRightC 11)
    (A B D F : Option Addr) (c d e f n m q h : Nat) (k : List Pc) (s : List UInt8) (vs : List Vr) (l : List Rng) (S : List Kn) (hn : n = k.length) (hm : m = vs.length) (hq : q = l.length) (hh : h = S.length) (w : World)
    (ha : RdPc w A c k) (hb : kVr.Rd w w.heap.size B d vs) (hl : kRng.Rd w w.heap.size D e l) (hS : RdK w w.heap.size F f S) :
    Calls Tryz.prog 4 #[.slice A n c, .agg #[.string (str s), .slice B m d, .slice D q e, .slice F h f]] w fun e w' => e = .returned (.bool true) ∧ Below w.heap.size w w' := by
  have hzs : (str s).size = s.length := str_size s
  obtain ⟨U, hU⟩ : ∃ U, str s = U := ⟨_, rfl⟩
  rw [hU] at hzs ⊢
  obtain ⟨WB, hWB⟩ : ∃ WB, w.alloc (.cells #[.string U, .slice B m d, .slice D q e, .slice F h f] 38) = WB := ⟨_, rfl⟩
  have A0 := fun w => Lib.hid (awake15 HAL HAD HHA HRI w)
  have HW := Lib.hid (show Below w.heap.size w WB from hWB ▸ below_new _ _)
  have HA := Lib.hid (ha.call HW.out)
  have HB := Lib.hid (hb.call HW.out)
  have HL := Lib.hid (hl.call HW.out)
  have HS := Lib.hid (hS.call HW.out)
  have HX := Lib.hid (show AdBox WB w.heap.size U (.slice B m d) (.slice D q e) (.slice F h f) from hWB ▸ adBox_new w _ _ _ _)
  obtain ⟨g0, g1, g2, g3⟩ := HX.out
  have hmd : m ≤ d := by rw [hm]; exact hb.room
  have hqe : q ≤ e := by rw [hq]; exact hl.room
  have hhf : h ≤ f := by rw [hh]; exact hS.room
  have hm9 : m ≤ 9223372036854775807 := rd_max hb hm
  have hq9 : q ≤ 9223372036854775807 := rd_max hl hq
  obtain ⟨la, hla⟩ : ∃ z, longP 8 k = z := ⟨_, rfl⟩
  obtain ⟨ll, hll⟩ : ∃ z, longL 8 l = z := ⟨_, rfl⟩
  obtain ⟨ls, hls⟩ : ∃ z, longV 8 S = z := ⟨_, rfl⟩
  have LA := fun w hr => Lib.hid (ref_plong 8 8 rfl (by omega) A c n k hn la hla w hr)
  have LL := fun w hr => Lib.hid (rl_long D e q 8 8 rfl l hq (by omega) ll hll w hr)
  have LS := fun w hr => Lib.hid (ref_vlong 8 8 rfl (by omega) F f h S hh ls hls w hr)
  by_cases hlong : la = true ∨ 300 < U.size ∨ 8 < m ∨ ll = true ∨ ls = true
  · rw [← hU]
    exact knowAdds_long HAL HAD HHA HRI A B D F c d e f n m q h k s vs l S hn hm hq hh w ha hb hl hS (by rw [hU, hla, hll, hls]; exact hlong)
  · obtain rfl : la = false := by cases la; rfl; exact absurd (.inl rfl) hlong
    obtain rfl : ll = false := by cases ll; rfl; exact absurd (.inr (.inr (.inr (.inl rfl)))) hlong
    obtain rfl : ls = false := by cases ls; rfl; exact absurd (.inr (.inr (.inr (.inr rfl)))) hlong
    have h1 : ¬ 300 < U.size := fun h => hlong (.inr (.inl h))
    have h2 : ¬ 8 < m := fun h => hlong (.inr (.inr (.inl h)))
    clear hlong
    have ca := longP_cap hla
    have ka : CapK k := capK_long hla (by omega)
    have sl := long_small hll
    have cl := allPc_cap sl hls
    have zs := longV_size hls
    obtain ⟨UJ, hJ⟩ : ∃ U, joinP k (oneP s vs) = U := ⟨_, rfl⟩
    obtain ⟨NJ, hNJ⟩ : ∃ N, N = UJ.length := ⟨_, rfl⟩
    obtain ⟨UI, hI⟩ : ∃ U, oneP s vs = U := ⟨_, rfl⟩
    obtain ⟨NI, hNI⟩ : ∃ N, N = UI.length := ⟨_, rfl⟩
    obtain ⟨UL, hL⟩ : ∃ U, ofP (allPc l S) = U := ⟨_, rfl⟩
    obtain ⟨NL, hNL⟩ : ∃ N, N = UL.length := ⟨_, rfl⟩
    have ci : CapN 1 8 UI := hI ▸ oneP_cap.mono (Nat.le_refl _) (by omega)
    have C1 := fun w ha hb => Lib.hid (HAD A B c d n m k s U vs hn hU (by omega) hm (by omega) ka UJ hJ NJ hNJ w ha hb)
    have C2 := fun w hb => Lib.hid (ref_pone s U B d m vs hU (by omega) hm (by omega) UI hI NI hNI w hb)
    have C3 := fun B d w ha hb => Lib.hid (ref_pjoin A B c d n NI k UI hn hNI (ca.cap (by omega) (by omega)) (ci.cap (by omega) (by omega)) UJ (by rw [← hI]; exact hJ) NJ hNJ w ha hb)
    have S1 := fun A B c d w ha hb => Lib.hid (psame_is A B c d NJ NJ UJ hNJ hNJ w ha hb)
    have C4 := fun w hl hs => Lib.hid (HAL D F e f q h l S hq hh ⟨by have := sl.1; omega, sl.2⟩ (cl.mono (by omega) (by omega)) (by have := zs.1; omega) (fun r => by
      have h4 := runsV_len r zs.2
      have h5 : 8 * S.length ≤ 8 * 8 := Nat.mul_le_mul_left 8 zs.1
      omega) UL hL NL hNL w hl hs)
    have hql : q = (allPc l S).length := by unfold allPc; rw [List.length_map]; exact hq
    have C5 := fun A c w ha => Lib.hid (ref_pof A c q (allPc l S) hql (cl.cap (by omega) (by omega)) UL hL NL hNL w ha)
    have S2 := fun A B c d w ha hb => Lib.hid (psame_is A B c d NL NL UL hNL hNL w ha hb)
    have HQ := Lib.hid hq
    have HQL := Lib.hid hql
    have HH := Lib.hid hh
    have hq8 : q ≤ 8 := by have := sl.1; omega
    clear HAL HAD HHA HRI ha hb hl hS hn hm hq hh hla hll hls hzs hU ca ka sl cl zs hJ hNJ hI hNI hL hNL ci hql
    go_enter Tryz.func4, Tryz.ntmps4
    go_wp2_with (first
      | ((with_reducible refine (A0 _).out.mono ?_); rintro e w9 ⟨rfl, hq⟩; (try replace HA := Lib.hid (HA.out.call hq)); (try replace HB := Lib.hid (HB.out.call hq)); (try replace HL := Lib.hid (HL.out.call hq)); (try replace HS := Lib.hid (HS.out.call hq)); replace HX := Lib.hid (HX.out.below hq); clear g0 g1 g2 g3; obtain ⟨g0, g1, g2, g3⟩ := HX.out; replace HW := Lib.hid (HW.out.trans (hq.mono HW.out.size)); clear hq)
      | ((with_reducible refine (LA _ HA.out).out.mono ?_); rintro e w9 ⟨rfl, hq⟩; (try replace HA := Lib.hid (HA.out.call hq)); (try replace HB := Lib.hid (HB.out.call hq)); (try replace HL := Lib.hid (HL.out.call hq)); (try replace HS := Lib.hid (HS.out.call hq)); replace HX := Lib.hid (HX.out.below hq); clear g0 g1 g2 g3; obtain ⟨g0, g1, g2, g3⟩ := HX.out; replace HW := Lib.hid (HW.out.trans (hq.mono HW.out.size)); clear hq)
      | ((with_reducible refine (LL _ HL.out).out.mono ?_); rintro e w9 ⟨rfl, hq⟩; (try replace HA := Lib.hid (HA.out.call hq)); (try replace HB := Lib.hid (HB.out.call hq)); (try replace HL := Lib.hid (HL.out.call hq)); (try replace HS := Lib.hid (HS.out.call hq)); replace HX := Lib.hid (HX.out.below hq); clear g0 g1 g2 g3; obtain ⟨g0, g1, g2, g3⟩ := HX.out; replace HW := Lib.hid (HW.out.trans (hq.mono HW.out.size)); clear hq)
      | ((with_reducible refine (LS _ HS.out).out.mono ?_); rintro e w9 ⟨rfl, hq⟩; (try replace HA := Lib.hid (HA.out.call hq)); (try replace HB := Lib.hid (HB.out.call hq)); (try replace HL := Lib.hid (HL.out.call hq)); (try replace HS := Lib.hid (HS.out.call hq)); replace HX := Lib.hid (HX.out.below hq); clear g0 g1 g2 g3; obtain ⟨g0, g1, g2, g3⟩ := HX.out; replace HW := Lib.hid (HW.out.trans (hq.mono HW.out.size)); clear hq))
    clear A0 LA LL LS hWB
    go_loopw [5, 37] (fun v i wr => ∃ j : Nat, j ≤ q ∧ Hid (OwnP wr w9.heap.size v (allPc (l.take j) S)) ∧ i = .int .i64 j ∧ Hid (Below w9.heap.size w9 wr)) (fun _ i _ => q - (intOf i).toNat)
    case atStart => exact ⟨0, by omega, Deep.Own.nil _ _ _, rfl, Below.refl _ _⟩
    case round =>
      obtain ⟨j, hj, HO, rfl, hbw⟩ := hrel
      replace HX := Lib.hid (HX.out.below hbw.out)
      clear g0 g1 g2 g3
      obtain ⟨g0, g1, g2, g3⟩ := HX.out
      by_cases hlt : j < q
      · obtain ⟨r, hg, hd, -⟩ := get_some (l := l) (k := j) (by have := HQ.out; omega)
        obtain ⟨b, o, rfl, hb1, hcell⟩ := rngs_at (HL.out.call hbw.out) (by have := HQ.out; omega)
        obtain ⟨r0, r1, r2⟩ := hcell j r hg
        obtain ⟨Lr, hLr⟩ : ∃ N, N = (allPc (l.take j) S).length := ⟨_, rfl⟩
        have hLr2 : Lr ≤ 8 := by rw [hLr]; unfold allPc; rw [List.length_map, List.length_take]; omega
        obtain ⟨Av, cv, hv, -⟩ := HO.out.read_n hLr
        subst hv
        have HVB := Lib.hid (show ∀ g, (Value.slice Av Lr cv).ownBlock = some g → w9.heap.size ≤ g from fun g hg => (Deep.Own.lt HO.out g hg).1)
        obtain ⟨bs, ho, hall⟩ := HO.out
        have HKO := Lib.hid ho
        have HKA := Lib.hid hall
        have HLE := Lib.hid (show bs.length + [(⟨r, F, h, f⟩ : Ps)].length ≤ 1000000 by have := hall.1; rw [List.length_singleton]; omega)
        have HT := Lib.hid (allPc_take (S := S) hg)
        have HREL := Lib.hid (show dPc.rel wr (fun g => True ∧ (Value.slice Av Lr cv).ownBlock ≠ some g) ⟨r, F, h, f⟩ ⟨r, S⟩ from ⟨rfl, HH.out, ((rdk_in HS.out).keep (keptS_under hbw.out fun g hg => hg)).mono fun g hg => ⟨trivial, fun e => by have := HVB.out g e; omega⟩⟩)
        obtain ⟨X1, hX1⟩ : ∃ S, str r.lo = S := ⟨_, rfl⟩
        obtain ⟨X2, hX2⟩ : ∃ S, str r.hi = S := ⟨_, rfl⟩
        obtain ⟨q2, hq2⟩ : ∃ q, r.op = q := ⟨_, rfl⟩
        have HRW := fun W : World => Lib.hid (show RowAt (W.alloc (.cells #[.string X1, .string X2, .bool q2, .slice F h f] 44)) (W.heap.size + 1) (some ⟨W.heap.size, 0, none⟩) (kPs.row [⟨r, F, h, f⟩]) from by rw [← hX1, ← hX2, ← hq2]; exact piece_row W ⟨r, F, h, f⟩)
        rw [hX1] at r0
        rw [hX2] at r1
        rw [hq2] at r2
        have HB1 := Lib.hid (hbw.out.alloc hbw.out.size (.cells #[.string X1, .string X2, .bool q2] 42))
        obtain ⟨x0, x1, x2, -⟩ := rgAt_new wr X1 X2 q2 42
        replace g3 := ((bcell (below_new wr (.cells #[.string X1, .string X2, .bool q2] 42))).1 _ _ (World.block_lt_of_cell? wr _ g3)).trans g3
        clear hcell hg hd ho hall hX1 hX2 hq2 hLr g0 g1
        go_wp2_with (at_builtin; refine wpList_app_k kPs rfl (.tmp 41) (.tmp 46) rfl w9.heap.size _ bs rfl (Kind.Own.alloc (Kind.Own.alloc HKO.out _) _) _ (some ⟨wr.heap.size + 1, 0, none⟩) 1 1 [⟨r, F, h, f⟩] rfl rfl (by have := (HRW (wr.alloc (.cells #[.string X1, .string X2, .bool q2] 42))).out; rw [size1] at this; exact this) HLE.out (by decide) (le_alloc HB1.out.size _) ?_; intro v3 w3 hown3 hg3 hb3 hv3; have HO3 := Lib.hid (Deep.Own.app ((HKA.out.keep (keptS_below (below_new wr _) _)).keep (keptS_below (below_new _ _) _)) (.one (dPc.keep (dPc.keep HREL.out (keptS_below (below_new wr _) _)) (keptS_below (below_new _ _) _))) hown3 hg3 hv3); have HB3 := Lib.hid ((HB1.out.alloc HB1.out.size _).trans hb3); clear hown3 hg3 hb3 hv3)
        go_roundw
        case rel => exact ⟨j + 1, by omega, show OwnP _ _ _ _ from by rw [HT.out]; exact HO3.out, by go_num, HB3⟩
        case measure => simp [intOf]; omega
      · have HT := Lib.hid (show allPc (l.take j) S = allPc l S by rw [List.take_of_length_le (by have := HQ.out; omega)])
        obtain ⟨AV, cV, rfl, hrd⟩ := HO.out.read_n (show q = (allPc (l.take j) S).length by rw [HT.out]; exact HQL.out)
        rw [HT.out] at hrd
        obtain ⟨wz, hwz⟩ : ∃ wz, wr = wz := ⟨_, rfl⟩
        subst hwz
        have hq : Below wr.heap.size wr wr.drew := (Below.refl _ _).drew
        have HV := Lib.hid (hrd.call hq)
        replace HA := Lib.hid ((HA.out.call hbw.out).call hq)
        replace HB := Lib.hid ((HB.out.call hbw.out).call hq)
        replace HL := Lib.hid ((HL.out.call hbw.out).call hq)
        replace HS := Lib.hid ((HS.out.call hbw.out).call hq)
        replace HX := Lib.hid (HX.out.below hq)
        replace HW := Lib.hid ((HW.out.trans (hbw.out.mono HW.out.size)).drew)
        clear g0 g1 g2 g3 hrd HO hq
        obtain ⟨g0, g1, g2, g3⟩ := HX.out
        go_upto_region 11 with fail
        go_region_held3 (fun w' => w'.cell? ⟨w.heap.size, 0, none⟩ = some (.string U) ∧ w'.cell? ⟨w.heap.size, 1, none⟩ = some (.slice B m d) ∧ w'.cell? ⟨w.heap.size, 2, none⟩ = some (.slice D q e) ∧ w'.cell? ⟨w.heap.size, 3, none⟩ = some (.slice F h f)) (first | (exact ⟨by assumption, by assumption, by assumption, by assumption⟩) | go_keep)
          (first
            | (go_at_call 22; (with_reducible refine (C1 _ HA.out HB.out).out.mono ?_); rintro e w9 ⟨AP, cP, rfl, hrd, hq⟩; (try replace HA := Lib.hid (HA.out.call hq)); (try replace HB := Lib.hid (HB.out.call hq)); (try replace HL := Lib.hid (HL.out.call hq)); (try replace HS := Lib.hid (HS.out.call hq)); (try replace HV := Lib.hid (HV.out.call hq)); (try replace HQ := Lib.hid (HQ.out.call hq)); (try replace HR := Lib.hid (HR.out.call hq)); replace HX := Lib.hid (HX.out.below hq); clear g0 g1 g2 g3; obtain ⟨g0, g1, g2, g3⟩ := HX.out; replace HW := Lib.hid (HW.out.trans (hq.mono HW.out.size)); have HP := Lib.hid hrd; clear hrd hq)
            | (go_at_call 24; (with_reducible refine (C2 _ HB.out).out.mono ?_); rintro e w9 ⟨AR, cR, rfl, hrd, hq⟩; (try replace HA := Lib.hid (HA.out.call hq)); (try replace HB := Lib.hid (HB.out.call hq)); (try replace HL := Lib.hid (HL.out.call hq)); (try replace HS := Lib.hid (HS.out.call hq)); (try replace HV := Lib.hid (HV.out.call hq)); (try replace HP := Lib.hid (HP.out.call hq)); (try replace HQ := Lib.hid (HQ.out.call hq)); replace HX := Lib.hid (HX.out.below hq); clear g0 g1 g2 g3; obtain ⟨g0, g1, g2, g3⟩ := HX.out; replace HW := Lib.hid (HW.out.trans (hq.mono HW.out.size)); have HR := Lib.hid hrd; clear hrd hq)
            | (go_at_call 23; (with_reducible refine (C3 _ _ _ HA.out HR.out).out.mono ?_); rintro e w9 ⟨AQ, cQ, rfl, hrd, hq⟩; (try replace HA := Lib.hid (HA.out.call hq)); (try replace HB := Lib.hid (HB.out.call hq)); (try replace HL := Lib.hid (HL.out.call hq)); (try replace HS := Lib.hid (HS.out.call hq)); (try replace HV := Lib.hid (HV.out.call hq)); (try replace HP := Lib.hid (HP.out.call hq)); (try replace HR := Lib.hid (HR.out.call hq)); replace HX := Lib.hid (HX.out.below hq); clear g0 g1 g2 g3; obtain ⟨g0, g1, g2, g3⟩ := HX.out; replace HW := Lib.hid (HW.out.trans (hq.mono HW.out.size)); have HQ := Lib.hid hrd; clear hrd hq)
            | (go_at_call 18; (with_reducible refine (S1 _ _ _ _ _ HP.out HQ.out).out.mono ?_); rintro e w9 ⟨rfl, hq⟩; (try replace HA := Lib.hid (HA.out.call hq)); (try replace HB := Lib.hid (HB.out.call hq)); (try replace HL := Lib.hid (HL.out.call hq)); (try replace HS := Lib.hid (HS.out.call hq)); (try replace HV := Lib.hid (HV.out.call hq)); (try replace HP := Lib.hid (HP.out.call hq)); (try replace HQ := Lib.hid (HQ.out.call hq)); (try replace HR := Lib.hid (HR.out.call hq)); replace HX := Lib.hid (HX.out.below hq); clear g0 g1 g2 g3; obtain ⟨g0, g1, g2, g3⟩ := HX.out; replace HW := Lib.hid (HW.out.trans (hq.mono HW.out.size)); clear hq)
            | (go_at_call 25; (with_reducible refine (C4 _ HL.out HS.out).out.mono ?_); rintro e w9 ⟨AP, cP, rfl, hrd, hq⟩; (try clear HP); (try replace HA := Lib.hid (HA.out.call hq)); (try replace HB := Lib.hid (HB.out.call hq)); (try replace HL := Lib.hid (HL.out.call hq)); (try replace HS := Lib.hid (HS.out.call hq)); (try replace HV := Lib.hid (HV.out.call hq)); (try replace HQ := Lib.hid (HQ.out.call hq)); (try replace HR := Lib.hid (HR.out.call hq)); replace HX := Lib.hid (HX.out.below hq); clear g0 g1 g2 g3; obtain ⟨g0, g1, g2, g3⟩ := HX.out; replace HW := Lib.hid (HW.out.trans (hq.mono HW.out.size)); have HP := Lib.hid hrd; clear hrd hq)
            | (go_at_call 19; (with_reducible refine (C5 _ _ _ HV.out).out.mono ?_); rintro e w9 ⟨AQ, cQ, rfl, hrd, hq⟩; (try clear HQ); (try replace HA := Lib.hid (HA.out.call hq)); (try replace HB := Lib.hid (HB.out.call hq)); (try replace HL := Lib.hid (HL.out.call hq)); (try replace HS := Lib.hid (HS.out.call hq)); (try replace HV := Lib.hid (HV.out.call hq)); (try replace HP := Lib.hid (HP.out.call hq)); (try replace HR := Lib.hid (HR.out.call hq)); replace HX := Lib.hid (HX.out.below hq); clear g0 g1 g2 g3; obtain ⟨g0, g1, g2, g3⟩ := HX.out; replace HW := Lib.hid (HW.out.trans (hq.mono HW.out.size)); have HQ := Lib.hid hrd; clear hrd hq)
            | (go_at_call 18; (with_reducible refine (S2 _ _ _ _ _ HP.out HQ.out).out.mono ?_); rintro e w9 ⟨rfl, hq⟩; (try replace HA := Lib.hid (HA.out.call hq)); (try replace HB := Lib.hid (HB.out.call hq)); (try replace HL := Lib.hid (HL.out.call hq)); (try replace HS := Lib.hid (HS.out.call hq)); (try replace HV := Lib.hid (HV.out.call hq)); (try replace HP := Lib.hid (HP.out.call hq)); (try replace HQ := Lib.hid (HQ.out.call hq)); (try replace HR := Lib.hid (HR.out.call hq)); replace HX := Lib.hid (HX.out.below hq); clear g0 g1 g2 g3; obtain ⟨g0, g1, g2, g3⟩ := HX.out; replace HW := Lib.hid (HW.out.trans (hq.mono HW.out.size)); clear hq))
        all_goals
          go_wp2_with fail
          go_ret
          exact ⟨rfl, HW.out⟩
end Go.Proofs.YtaodifpnfejbbaaGreat

/-
  The laws of layer 8: what they ask of the program's functions; the chapter's examples.
-/
namespace Go.Proofs.YtaodifpnfejbbaaGreat
open Go.RowKit

/-- A function that makes the right list of what two lists have. -/
def SetC (F : FuncId) (op : Int) : Prop := ∀ (A B : Option Addr) (c d n m : Nat) (a b : List Rng), n = a.length → m = b.length → SmallL 400 a → SmallL 400 b → ∀ w, kRng.Rd w w.heap.size A c a → kRng.Rd w w.heap.size B d b →
  Calls Tryz.prog F #[.slice A n c, .slice B m d] w (RetR w (makeV op a b))
/-- .. of what one list has. -/
def OneC (F : FuncId) (op : Int) : Prop := ∀ (A : Option Addr) (c n : Nat) (a : List Rng), n = a.length → SmallL 400 a → ∀ w, kRng.Rd w w.heap.size A c a → Calls Tryz.prog F #[.slice A n c] w (RetR w (makeV op a []))
/-- A function that tells something of two lists. -/
def TellC (F : FuncId) (f : List Rng → List Rng → Bool) : Prop := ∀ (A B : Option Addr) (c d n m : Nat) (a b : List Rng), n = a.length → m = b.length → SmallL 400 a → SmallL 400 b → ∀ v, f a b = v → ∀ w, kRng.Rd w w.heap.size A c a → kRng.Rd w w.heap.size B d b →
  Calls Tryz.prog F #[.slice A n c, .slice B m d] w fun e w' => e = .returned (.bool v) ∧ Below w.heap.size w w'
def RightC (F : FuncId) : Prop := ∀ (A : Option Addr) (c n : Nat) (a : List Rng), n = a.length → SmallL 400 a → ∀ v, rightL a = v → ∀ w, kRng.Rd w w.heap.size A c a → Calls Tryz.prog F #[.slice A n c] w fun e w' => e = .returned (.bool v) ∧ Below w.heap.size w w'
def HasC (F : FuncId) : Prop := ∀ (A : Option Addr) (c n : Nat) (a : List Rng) (s : List UInt8), n = a.length → SmallL 400 a → s.length ≤ 1000 → ∀ v, hasL a s = v → ∀ w, kRng.Rd w w.heap.size A c a → Calls Tryz.prog F #[.slice A n c, .string (str s)] w fun e w' => e = .returned (.bool v) ∧ Below w.heap.size w w'

theorem set_is {F : FuncId} {op : Int} (h : SetC F op) (A B : Option Addr) (c d n m : Nat) (a b U : List Rng) (hU : makeV op a b = U) (hn : n = a.length) (hm : m = b.length) (ha' : SmallL 400 a) (hb' : SmallL 400 b) (w : World) (ha : kRng.Rd w w.heap.size A c a) (hb : kRng.Rd w w.heap.size B d b) :
    Calls Tryz.prog F #[.slice A n c, .slice B m d] w (RetR w U) := by
  subst hU
  exact h A B c d n m a b hn hm ha' hb' w ha hb
theorem one_is {F : FuncId} {op : Int} (h : OneC F op) (A : Option Addr) (c n : Nat) (a U : List Rng) (hU : makeV op a [] = U) (hn : n = a.length) (ha' : SmallL 400 a) (w : World) (ha : kRng.Rd w w.heap.size A c a) :
    Calls Tryz.prog F #[.slice A n c] w (RetR w U) := by
  subst hU
  exact h A c n a hn ha' w ha
theorem longL_small {most : Nat} {l : List Rng} (h : longL most l = false) : SmallL most l := by
  unfold longL at h
  simp only [Bool.or_eq_false_iff, decide_eq_false_iff_not, List.any_eq_false, Bool.or_eq_true, decide_eq_true_eq, not_or] at h
  exact ⟨by omega, fun r hr => by have := h.2 r hr; omega⟩
end Go.Proofs.YtaodifpnfejbbaaGreat

/-
  The laws of layer 15: KnowLaws.
-/
namespace Go.Proofs.YtaodifpnfejbbaaGreat
open Go.RowKit

/-- Two slices, in their block. -/
def L2Box (w : World) (g : Nat) (L M : Value) : Prop := w.cell? ⟨g, 0, none⟩ = some L ∧ w.cell? ⟨g, 1, none⟩ = some M
theorem L2Box.below {w w' : World} {g : Nat} {L M : Value} (h : L2Box w g L M) (hb : Below w.heap.size w w') : L2Box w' g L M := by
  have hl := World.block_lt_of_cell? w _ h.1
  exact ⟨((bcell hb).1 _ _ hl).trans h.1, ((bcell hb).1 _ _ hl).trans h.2⟩
theorem l2Box_new (w : World) (L M : Value) : L2Box (w.alloc (.cells #[L, M] 53)) w.heap.size L M := by
  have h := heap_new w (.cells #[L, M] 53) _ rfl
  exact ⟨by rw [cell_of_row _ _ _ _ _ _ h]; rfl, by rw [cell_of_row _ _ _ _ _ _ h]; rfl⟩
/-- What is handed back: a row of so many ranges that reads. -/
def RetRN (w : World) (N : Nat) (l : List Rng) (e : Ending) (w' : World) : Prop := ∃ A c, e = .returned (.slice A N c) ∧ kRng.Rd w' w'.heap.size A c l ∧ Below w.heap.size w w'
theorem RetR.to_n {w : World} {l : List Rng} {N : Nat} (hN : N = l.length) {e : Ending} {w' : World} (h : RetR w l e w') : RetRN w N l e w' := by subst hN; exact h
set_option maxRecDepth 100000 in
set_option maxHeartbeats 32000000 in
theorem knowLaws_walk (HAL : KAllC 25) (HAD : KAddC 22) (HHA : KHasC 13) (HRI : KRightC 11) (HJO : KJoinC 26) (HLE : KLessC 27) (HRE : KRestC 29) (HOF : KOfC 10) (HME : SetC 33 2) (HNO : OneC 34 4)
    (A B D F : Option Addr) (c d e f n m q h : Nat) (a b : List Pc) (l k : List Rng) (hn : n = a.length) (hm : m = b.length) (hq : q = l.length) (hh : h = k.length) (w : World) (ha : RdPc w A c a) (hb : RdPc w B d b) (hl : kRng.Rd w w.heap.size D e l) (hk : kRng.Rd w w.heap.size F f k) :
    Calls Tryz.prog 7 #[.slice A n c, .slice B m d, .agg #[.slice D q e, .slice F h f]] w fun e w' => e = .returned (.bool true) ∧ Below w.heap.size w w' := by
  obtain ⟨WB, hWB⟩ : ∃ WB, w.alloc (.cells #[.slice D q e, .slice F h f] 53) = WB := ⟨_, rfl⟩
  have A0 := fun w => Lib.hid (awake15 HAL HAD HHA HRI w)
  have HW := Lib.hid (show Below w.heap.size w WB from hWB ▸ below_new _ _)
  have HA := Lib.hid (ha.call HW.out)
  have HB := Lib.hid (hb.call HW.out)
  have HL := Lib.hid (hl.call HW.out)
  have HK := Lib.hid (hk.call HW.out)
  have HX := Lib.hid (show L2Box WB w.heap.size (.slice D q e) (.slice F h f) from hWB ▸ l2Box_new w _ _)
  obtain ⟨g0, g1⟩ := HX.out
  have hqe : q ≤ e := by rw [hq]; exact hl.room
  have hhf : h ≤ f := by rw [hh]; exact hk.room
  obtain ⟨la, hla⟩ : ∃ z, longP 6 a = z := ⟨_, rfl⟩
  obtain ⟨lb, hlb⟩ : ∃ z, longP 6 b = z := ⟨_, rfl⟩
  obtain ⟨ll, hll⟩ : ∃ z, longL 6 l = z := ⟨_, rfl⟩
  obtain ⟨lk, hlk⟩ : ∃ z, longL 6 k = z := ⟨_, rfl⟩
  have LA := fun w hr => Lib.hid (ref_plong 6 6 rfl (by omega) A c n a hn la hla w hr)
  have LB := fun w hr => Lib.hid (ref_plong 6 6 rfl (by omega) B d m b hm lb hlb w hr)
  have LL := fun w hr => Lib.hid (rl_long D e q 6 6 rfl l hq (by omega) ll hll w hr)
  have LK := fun w hr => Lib.hid (rl_long F f h 6 6 rfl k hh (by omega) lk hlk w hr)
  by_cases hlong : la = true ∨ lb = true ∨ ll = true ∨ lk = true
  · clear HAL HAD HHA HRI HJO HLE HRE HOF HME HNO ha hb hl hk hn hm hq hh hla hlb hll hlk
    cases la
    case' false =>
      cases lb
      case' false =>
        cases ll
        case' false =>
          obtain rfl : lk = true := by
            rcases hlong with h | h | h | h
            · cases h
            · cases h
            · cases h
            · exact h
    all_goals
      clear hlong
      go_enter Tryz.func7, Tryz.ntmps7
      go_wp2_with (first
        | ((with_reducible refine (A0 _).out.mono ?_); rintro e w9 ⟨rfl, hq⟩; (try replace HA := Lib.hid (HA.out.call hq)); (try replace HB := Lib.hid (HB.out.call hq)); (try replace HL := Lib.hid (HL.out.call hq)); (try replace HK := Lib.hid (HK.out.call hq)); replace HX := Lib.hid (HX.out.below hq); clear g0 g1; obtain ⟨g0, g1⟩ := HX.out; replace HW := Lib.hid (HW.out.trans (hq.mono HW.out.size)); clear hq)
        | ((with_reducible refine (LA _ HA.out).out.mono ?_); rintro e w9 ⟨rfl, hq⟩; (try replace HA := Lib.hid (HA.out.call hq)); (try replace HB := Lib.hid (HB.out.call hq)); (try replace HL := Lib.hid (HL.out.call hq)); (try replace HK := Lib.hid (HK.out.call hq)); replace HX := Lib.hid (HX.out.below hq); clear g0 g1; obtain ⟨g0, g1⟩ := HX.out; replace HW := Lib.hid (HW.out.trans (hq.mono HW.out.size)); clear hq)
        | ((with_reducible refine (LB _ HB.out).out.mono ?_); rintro e w9 ⟨rfl, hq⟩; (try replace HA := Lib.hid (HA.out.call hq)); (try replace HB := Lib.hid (HB.out.call hq)); (try replace HL := Lib.hid (HL.out.call hq)); (try replace HK := Lib.hid (HK.out.call hq)); replace HX := Lib.hid (HX.out.below hq); clear g0 g1; obtain ⟨g0, g1⟩ := HX.out; replace HW := Lib.hid (HW.out.trans (hq.mono HW.out.size)); clear hq)
        | ((with_reducible refine (LL _ HL.out).out.mono ?_); rintro e w9 ⟨rfl, hq⟩; (try replace HA := Lib.hid (HA.out.call hq)); (try replace HB := Lib.hid (HB.out.call hq)); (try replace HL := Lib.hid (HL.out.call hq)); (try replace HK := Lib.hid (HK.out.call hq)); replace HX := Lib.hid (HX.out.below hq); clear g0 g1; obtain ⟨g0, g1⟩ := HX.out; replace HW := Lib.hid (HW.out.trans (hq.mono HW.out.size)); clear hq)
        | ((with_reducible refine (LK _ HK.out).out.mono ?_); rintro e w9 ⟨rfl, hq⟩; (try replace HA := Lib.hid (HA.out.call hq)); (try replace HB := Lib.hid (HB.out.call hq)); (try replace HL := Lib.hid (HL.out.call hq)); (try replace HK := Lib.hid (HK.out.call hq)); replace HX := Lib.hid (HX.out.below hq); clear g0 g1; obtain ⟨g0, g1⟩ := HX.out; replace HW := Lib.hid (HW.out.trans (hq.mono HW.out.size)); clear hq))
      go_ret
      exact ⟨rfl, HW.out⟩
  · obtain rfl : la = false := by cases la; rfl; exact absurd (.inl rfl) hlong
    obtain rfl : lb = false := by cases lb; rfl; exact absurd (.inr (.inl rfl)) hlong
    obtain rfl : ll = false := by cases ll; rfl; exact absurd (.inr (.inr (.inl rfl))) hlong
    obtain rfl : lk = false := by cases lk; rfl; exact absurd (.inr (.inr (.inr rfl))) hlong
    clear hlong
    have ca := longP_cap hla
    have cb := longP_cap hlb
    have ka : CapK a := capK_long hla (by omega)
    have kb : CapK b := capK_long hlb (by omega)
    have sl := long_small hll
    have sk := long_small hlk
    have up : ∀ {n : Nat} {l : List Rng}, SmallL n l → n ≤ 60 → SmallL 60 l := fun h hn => ⟨by have := h.1; omega, h.2⟩
    have up4 : ∀ {n : Nat} {l : List Rng}, SmallL n l → n ≤ 400 → SmallL 400 l := fun h hn => ⟨by have := h.1; omega, h.2⟩
    obtain ⟨M, hM⟩ : ∃ M, makeV 2 l k = M := ⟨_, rfl⟩
    obtain ⟨NM, hNM⟩ : ∃ N, N = M.length := ⟨_, rfl⟩
    obtain ⟨X, hX⟩ : ∃ X, makeV 4 l [] = X := ⟨_, rfl⟩
    obtain ⟨NX, hNX⟩ : ∃ N, N = X.length := ⟨_, rfl⟩
    have sM : SmallL 26 M := hM ▸ makeV_small 2 sl sk
    have sX : SmallL 14 X := hX ▸ makeV_small 4 sl (m := 0) ⟨Nat.le_refl _, fun r hr => (by cases hr)⟩
    obtain ⟨UJ, hJ⟩ : ∃ U, joinP a b = U := ⟨_, rfl⟩
    obtain ⟨NJ, hNJ⟩ : ∃ N, N = UJ.length := ⟨_, rfl⟩
    obtain ⟨UR, hR⟩ : ∃ U, restP UJ l = U := ⟨_, rfl⟩
    obtain ⟨NR, hNR⟩ : ∃ N, N = UR.length := ⟨_, rfl⟩
    obtain ⟨UP, hP⟩ : ∃ U, restP a l = U := ⟨_, rfl⟩
    obtain ⟨NP, hNP⟩ : ∃ N, N = UP.length := ⟨_, rfl⟩
    obtain ⟨UQ, hQ⟩ : ∃ U, restP b l = U := ⟨_, rfl⟩
    obtain ⟨NQ, hNQ⟩ : ∃ N, N = UQ.length := ⟨_, rfl⟩
    obtain ⟨UT, hT⟩ : ∃ U, restP UP k = U := ⟨_, rfl⟩
    obtain ⟨NT, hNT⟩ : ∃ N, N = UT.length := ⟨_, rfl⟩
    obtain ⟨UY, hY⟩ : ∃ U, restP a X = U := ⟨_, rfl⟩
    obtain ⟨NY, hNY⟩ : ∃ N, N = UY.length := ⟨_, rfl⟩
    obtain ⟨UO, hO⟩ : ∃ U, ofP a = U := ⟨_, rfl⟩
    obtain ⟨NO, hNO⟩ : ∃ N, N = UO.length := ⟨_, rfl⟩
    obtain ⟨UZ, hZ⟩ : ∃ U, lessP a b = U := ⟨_, rfl⟩
    obtain ⟨NZ, hNZ⟩ : ∃ N, N = UZ.length := ⟨_, rfl⟩
    have SR := fun A B c d w ha hb => Lib.hid (psame_is A B c d NR NR UR hNR hNR w ha hb)
    have ST := fun A B c d w ha hb => Lib.hid (psame_is A B c d NT NT UT hNT hNT w ha hb)
    have SO := fun A B c d w ha hb => Lib.hid (psame_is A B c d NO NO UO hNO hNO w ha hb)
    have SZ := fun A B c d w ha hb => Lib.hid (psame_is A B c d NZ NZ UZ hNZ hNZ w ha hb)
    have cj : CapN 25 3072 UJ := hJ ▸ (ca.join cb).mono (by omega) (by omega)
    have cp : CapN 25 1536 UP := hP ▸ (ca.rest (q := 6) sl.1).mono (by omega) (by omega)
    have cq : CapN 25 1536 UQ := hQ ▸ (cb.rest (q := 6) sl.1).mono (by omega) (by omega)
    have cy : CapN 41 1536 UY := hY ▸ (ca.rest (q := 14) sX.1).mono (by omega) (by omega)
    have kj : CapK UJ := cj.mono (by omega) (by omega)
    have kp : CapK UP := cp.mono (by omega) (by omega)
    have CJ := fun w ha hb => Lib.hid (join_two HJO A B c d n m a b hn hm ca cb (by omega) (by omega) UJ hJ NJ hNJ w ha hb)
    have R1 := fun A c w h1 h2 => Lib.hid (HRE A D c e NJ q UJ l hNJ hq kj (up sl (by omega)) UR hR NR hNR w h1 h2)
    have R2 := fun w h1 h2 => Lib.hid (HRE A D c e n q a l hn hq ka (up sl (by omega)) UP hP NP hNP w h1 h2)
    have R3 := fun w h1 h2 => Lib.hid (HRE B D d e m q b l hm hq kb (up sl (by omega)) UQ hQ NQ hNQ w h1 h2)
    have J4 := fun A B c d w h1 h2 => Lib.hid (join_two HJO A B c d NP NQ UP UQ hNP hNQ cp cq (by omega) (by omega) UR (by rw [← hP, ← hQ, ← restP_join, hJ]; exact hR) NR hNR w h1 h2)
    have R5 := fun A c w h1 h2 => Lib.hid (HRE A F c f NP h UP k hNP hh kp (up sk (by omega)) UT hT NT hNT w h1 h2)
    have ME := fun w h1 h2 => Lib.hid ((HME D F e f q h l k hq hh (up4 sl (by omega)) (up4 sk (by omega)) w h1 h2).mono fun _ _ h => (hM ▸ h.to_n (by rw [hM]; exact hNM) : RetRN w NM M _ _))
    have R6 := fun D e w h1 h2 => Lib.hid (HRE A D c e n NM a M hn hNM ka (up sM (by omega)) UT (by rw [← hM, ← restP_rest, hP]; exact hT) NT hNT w h1 h2)
    have NT' := fun w h1 => Lib.hid ((HNO D e q l hq (up4 sl (by omega)) w h1).mono fun _ _ h => (hX ▸ h.to_n (by rw [hX]; exact hNX) : RetRN w NX X _ _))
    have R7 := fun D e w h1 h2 => Lib.hid (HRE A D c e n NX a X hn hNX ka (up sX (by omega)) UY hY NY hNY w h1 h2)
    have J8 := fun A B c d w h1 h2 => Lib.hid (join_two HJO A B c d NP NY UP UY hNP hNY cp cy (by omega) (by omega) UO (by rw [← hP, ← hY, ← hX, ← notV, restP_parts]; exact hO) NO hNO w h1 h2)
    have O9 := fun w h1 => Lib.hid (HOF A c n a hn ka UO hO NO hNO w h1)
    have L1 := fun B d w h1 h2 => Lib.hid (HLE A B c d n NJ a UJ hn hNJ ka kj [] (by rw [← hJ]; exact lessP_on a b) 0 rfl w h1 h2)
    have L2 := fun A c w h1 h2 => Lib.hid (HLE A B c d NJ m UJ b hNJ hm kj kb UZ (by rw [← hJ, lessP_join]; exact hZ) NZ hNZ w h1 h2)
    have L3 := fun w h1 h2 => Lib.hid (HLE A B c d n m a b hn hm ka kb UZ hZ NZ hNZ w h1 h2)
    clear HAL HAD HHA HRI HJO HLE HRE HOF HME HNO ha hb hl hk hn hm hq hh hla hlb hll hlk ca cb ka kb sl sk up up4 sM sX cj cp cq cy kj kp hM hNM hX hNX
    clear hJ hR hP hQ hT hY hO hZ hNJ hNR hNP hNQ hNT hNY hNO hNZ
    go_enter Tryz.func7, Tryz.ntmps7
    go_upto_region 6 with (first
      | ((with_reducible refine (A0 _).out.mono ?_); rintro e w9 ⟨rfl, hq⟩; (try replace HA := Lib.hid (HA.out.call hq)); (try replace HB := Lib.hid (HB.out.call hq)); (try replace HL := Lib.hid (HL.out.call hq)); (try replace HK := Lib.hid (HK.out.call hq)); replace HX := Lib.hid (HX.out.below hq); clear g0 g1; obtain ⟨g0, g1⟩ := HX.out; replace HW := Lib.hid (HW.out.trans (hq.mono HW.out.size)); clear hq)
      | ((with_reducible refine (LA _ HA.out).out.mono ?_); rintro e w9 ⟨rfl, hq⟩; (try replace HA := Lib.hid (HA.out.call hq)); (try replace HB := Lib.hid (HB.out.call hq)); (try replace HL := Lib.hid (HL.out.call hq)); (try replace HK := Lib.hid (HK.out.call hq)); replace HX := Lib.hid (HX.out.below hq); clear g0 g1; obtain ⟨g0, g1⟩ := HX.out; replace HW := Lib.hid (HW.out.trans (hq.mono HW.out.size)); clear hq)
      | ((with_reducible refine (LB _ HB.out).out.mono ?_); rintro e w9 ⟨rfl, hq⟩; (try replace HA := Lib.hid (HA.out.call hq)); (try replace HB := Lib.hid (HB.out.call hq)); (try replace HL := Lib.hid (HL.out.call hq)); (try replace HK := Lib.hid (HK.out.call hq)); replace HX := Lib.hid (HX.out.below hq); clear g0 g1; obtain ⟨g0, g1⟩ := HX.out; replace HW := Lib.hid (HW.out.trans (hq.mono HW.out.size)); clear hq)
      | ((with_reducible refine (LL _ HL.out).out.mono ?_); rintro e w9 ⟨rfl, hq⟩; (try replace HA := Lib.hid (HA.out.call hq)); (try replace HB := Lib.hid (HB.out.call hq)); (try replace HL := Lib.hid (HL.out.call hq)); (try replace HK := Lib.hid (HK.out.call hq)); replace HX := Lib.hid (HX.out.below hq); clear g0 g1; obtain ⟨g0, g1⟩ := HX.out; replace HW := Lib.hid (HW.out.trans (hq.mono HW.out.size)); clear hq)
      | ((with_reducible refine (LK _ HK.out).out.mono ?_); rintro e w9 ⟨rfl, hq⟩; (try replace HA := Lib.hid (HA.out.call hq)); (try replace HB := Lib.hid (HB.out.call hq)); (try replace HL := Lib.hid (HL.out.call hq)); (try replace HK := Lib.hid (HK.out.call hq)); replace HX := Lib.hid (HX.out.below hq); clear g0 g1; obtain ⟨g0, g1⟩ := HX.out; replace HW := Lib.hid (HW.out.trans (hq.mono HW.out.size)); clear hq)
      | ((with_reducible refine (CJ _ HA.out HB.out).out.mono ?_); rintro e w9 ⟨AJ, cJ, rfl, hrd, hq⟩; (try replace HA := Lib.hid (HA.out.call hq)); (try replace HB := Lib.hid (HB.out.call hq)); (try replace HL := Lib.hid (HL.out.call hq)); (try replace HK := Lib.hid (HK.out.call hq)); replace HX := Lib.hid (HX.out.below hq); clear g0 g1; obtain ⟨g0, g1⟩ := HX.out; replace HW := Lib.hid (HW.out.trans (hq.mono HW.out.size)); have HJ := Lib.hid hrd; clear hrd hq))
    clear A0 LA LB LL LK CJ hWB
    go_cut [8] from 33 to 47 (fun s wx => s = .bool true ∧ Hid (Below w9.heap.size w9 wx))
    case first =>
      have HV := Lib.hid (Below.refl w9.heap.size w9)
      have hq : Below w9.heap.size w9 w9.drew := (Below.refl _ _).drew
      (try replace HA := Lib.hid (HA.out.call hq))
      (try replace HB := Lib.hid (HB.out.call hq))
      (try replace HL := Lib.hid (HL.out.call hq))
      (try replace HK := Lib.hid (HK.out.call hq))
      (try replace HJ := Lib.hid (HJ.out.call hq))
      (try replace HR := Lib.hid (HR.out.call hq))
      (try replace HP := Lib.hid (HP.out.call hq))
      (try replace HQ := Lib.hid (HQ.out.call hq))
      (try replace HS := Lib.hid (HS.out.call hq))
      replace HX := Lib.hid (HX.out.below hq)
      clear g0 g1
      obtain ⟨g0, g1⟩ := HX.out
      replace HV := Lib.hid (HV.out.trans (hq.mono HV.out.size))
      clear hq
      go_region_held3 (fun w' => w'.cell? ⟨w.heap.size, 0, none⟩ = some (.slice D q e) ∧ w'.cell? ⟨w.heap.size, 1, none⟩ = some (.slice F h f)) (first | (exact ⟨by assumption, by assumption⟩) | go_keep)
        (first
          | (go_at_call 29; (with_reducible refine (R1 _ _ _ HJ.out HL.out).out.mono ?_); rintro e w9 ⟨AR, cR, rfl, hrd, hq⟩; (try replace HA := Lib.hid (HA.out.call hq)); (try replace HB := Lib.hid (HB.out.call hq)); (try replace HL := Lib.hid (HL.out.call hq)); (try replace HK := Lib.hid (HK.out.call hq)); (try replace HJ := Lib.hid (HJ.out.call hq)); (try replace HP := Lib.hid (HP.out.call hq)); (try replace HQ := Lib.hid (HQ.out.call hq)); (try replace HS := Lib.hid (HS.out.call hq)); replace HX := Lib.hid (HX.out.below hq); clear g0 g1; obtain ⟨g0, g1⟩ := HX.out; replace HV := Lib.hid (HV.out.trans (hq.mono HV.out.size)); have HR := Lib.hid hrd; clear hrd hq)
          | (go_at_call 29; (with_reducible refine (R2 _ HA.out HL.out).out.mono ?_); rintro e w9 ⟨AP, cP, rfl, hrd, hq⟩; (try replace HA := Lib.hid (HA.out.call hq)); (try replace HB := Lib.hid (HB.out.call hq)); (try replace HL := Lib.hid (HL.out.call hq)); (try replace HK := Lib.hid (HK.out.call hq)); (try replace HJ := Lib.hid (HJ.out.call hq)); (try replace HR := Lib.hid (HR.out.call hq)); (try replace HQ := Lib.hid (HQ.out.call hq)); (try replace HS := Lib.hid (HS.out.call hq)); replace HX := Lib.hid (HX.out.below hq); clear g0 g1; obtain ⟨g0, g1⟩ := HX.out; replace HV := Lib.hid (HV.out.trans (hq.mono HV.out.size)); have HP := Lib.hid hrd; clear hrd hq)
          | (go_at_call 29; (with_reducible refine (R3 _ HB.out HL.out).out.mono ?_); rintro e w9 ⟨AQ, cQ, rfl, hrd, hq⟩; (try replace HA := Lib.hid (HA.out.call hq)); (try replace HB := Lib.hid (HB.out.call hq)); (try replace HL := Lib.hid (HL.out.call hq)); (try replace HK := Lib.hid (HK.out.call hq)); (try replace HJ := Lib.hid (HJ.out.call hq)); (try replace HR := Lib.hid (HR.out.call hq)); (try replace HP := Lib.hid (HP.out.call hq)); (try replace HS := Lib.hid (HS.out.call hq)); replace HX := Lib.hid (HX.out.below hq); clear g0 g1; obtain ⟨g0, g1⟩ := HX.out; replace HV := Lib.hid (HV.out.trans (hq.mono HV.out.size)); have HQ := Lib.hid hrd; clear hrd hq)
          | (go_at_call 26; (with_reducible refine (J4 _ _ _ _ _ HP.out HQ.out).out.mono ?_); rintro e w9 ⟨AS, cS, rfl, hrd, hq⟩; (try replace HA := Lib.hid (HA.out.call hq)); (try replace HB := Lib.hid (HB.out.call hq)); (try replace HL := Lib.hid (HL.out.call hq)); (try replace HK := Lib.hid (HK.out.call hq)); (try replace HJ := Lib.hid (HJ.out.call hq)); (try replace HR := Lib.hid (HR.out.call hq)); (try replace HP := Lib.hid (HP.out.call hq)); (try replace HQ := Lib.hid (HQ.out.call hq)); replace HX := Lib.hid (HX.out.below hq); clear g0 g1; obtain ⟨g0, g1⟩ := HX.out; replace HV := Lib.hid (HV.out.trans (hq.mono HV.out.size)); have HS := Lib.hid hrd; clear hrd hq)
          | (go_at_call 18; (with_reducible refine (SR _ _ _ _ _ HR.out HS.out).out.mono ?_); rintro e w9 ⟨rfl, hq⟩; (try replace HA := Lib.hid (HA.out.call hq)); (try replace HB := Lib.hid (HB.out.call hq)); (try replace HL := Lib.hid (HL.out.call hq)); (try replace HK := Lib.hid (HK.out.call hq)); (try replace HJ := Lib.hid (HJ.out.call hq)); (try replace HR := Lib.hid (HR.out.call hq)); (try replace HP := Lib.hid (HP.out.call hq)); (try replace HQ := Lib.hid (HQ.out.call hq)); (try replace HS := Lib.hid (HS.out.call hq)); replace HX := Lib.hid (HX.out.below hq); clear g0 g1; obtain ⟨g0, g1⟩ := HX.out; replace HV := Lib.hid (HV.out.trans (hq.mono HV.out.size)); clear hq))
      all_goals
        go_wp2_with fail
        go_meet
        exact ⟨rfl, HV⟩
    case rest =>
    obtain ⟨rfl, hq⟩ := hcut
    replace hq := hq.out
    (try replace HA := Lib.hid (HA.out.call hq))
    (try replace HB := Lib.hid (HB.out.call hq))
    (try replace HL := Lib.hid (HL.out.call hq))
    (try replace HK := Lib.hid (HK.out.call hq))
    (try replace HJ := Lib.hid (HJ.out.call hq))
    replace HX := Lib.hid (HX.out.below hq)
    clear g0 g1
    obtain ⟨g0, g1⟩ := HX.out
    replace HW := Lib.hid (HW.out.trans (hq.mono HW.out.size))
    clear hq
    obtain ⟨w9, hw9⟩ : ∃ w9, w9 = wc := ⟨_, rfl⟩
    subst hw9
    go_upto_region 7 with fail
    go_cut [9] from 48 to 62 (fun s wx => s = .bool true ∧ Hid (Below w9.heap.size w9 wx))
    case first =>
      have HV := Lib.hid (Below.refl w9.heap.size w9)
      have hq : Below w9.heap.size w9 w9.drew := (Below.refl _ _).drew
      (try replace HA := Lib.hid (HA.out.call hq))
      (try replace HB := Lib.hid (HB.out.call hq))
      (try replace HL := Lib.hid (HL.out.call hq))
      (try replace HK := Lib.hid (HK.out.call hq))
      (try replace HJ := Lib.hid (HJ.out.call hq))
      (try replace HP := Lib.hid (HP.out.call hq))
      (try replace HT := Lib.hid (HT.out.call hq))
      (try replace HM := Lib.hid (HM.out.call hq))
      (try replace HV' := Lib.hid (HV'.out.call hq))
      replace HX := Lib.hid (HX.out.below hq)
      clear g0 g1
      obtain ⟨g0, g1⟩ := HX.out
      replace HV := Lib.hid (HV.out.trans (hq.mono HV.out.size))
      clear hq
      go_region_held3 (fun w' => w'.cell? ⟨w.heap.size, 0, none⟩ = some (.slice D q e) ∧ w'.cell? ⟨w.heap.size, 1, none⟩ = some (.slice F h f)) (first | (exact ⟨by assumption, by assumption⟩) | go_keep)
        (first
          | (go_at_call 29; (with_reducible refine (R2 _ HA.out HL.out).out.mono ?_); rintro e w9 ⟨AP, cP, rfl, hrd, hq⟩; (try replace HA := Lib.hid (HA.out.call hq)); (try replace HB := Lib.hid (HB.out.call hq)); (try replace HL := Lib.hid (HL.out.call hq)); (try replace HK := Lib.hid (HK.out.call hq)); (try replace HJ := Lib.hid (HJ.out.call hq)); (try replace HT := Lib.hid (HT.out.call hq)); (try replace HM := Lib.hid (HM.out.call hq)); (try replace HV' := Lib.hid (HV'.out.call hq)); replace HX := Lib.hid (HX.out.below hq); clear g0 g1; obtain ⟨g0, g1⟩ := HX.out; replace HV := Lib.hid (HV.out.trans (hq.mono HV.out.size)); have HP := Lib.hid hrd; clear hrd hq)
          | (go_at_call 29; (with_reducible refine (R5 _ _ _ HP.out HK.out).out.mono ?_); rintro e w9 ⟨AT, cT, rfl, hrd, hq⟩; (try replace HA := Lib.hid (HA.out.call hq)); (try replace HB := Lib.hid (HB.out.call hq)); (try replace HL := Lib.hid (HL.out.call hq)); (try replace HK := Lib.hid (HK.out.call hq)); (try replace HJ := Lib.hid (HJ.out.call hq)); (try replace HP := Lib.hid (HP.out.call hq)); (try replace HM := Lib.hid (HM.out.call hq)); (try replace HV' := Lib.hid (HV'.out.call hq)); replace HX := Lib.hid (HX.out.below hq); clear g0 g1; obtain ⟨g0, g1⟩ := HX.out; replace HV := Lib.hid (HV.out.trans (hq.mono HV.out.size)); have HT := Lib.hid hrd; clear hrd hq)
          | (go_at_call 33; (with_reducible refine (ME _ HL.out HK.out).out.mono ?_); rintro e w9 ⟨AM, cM, rfl, hrd, hq⟩; (try replace HA := Lib.hid (HA.out.call hq)); (try replace HB := Lib.hid (HB.out.call hq)); (try replace HL := Lib.hid (HL.out.call hq)); (try replace HK := Lib.hid (HK.out.call hq)); (try replace HJ := Lib.hid (HJ.out.call hq)); (try replace HP := Lib.hid (HP.out.call hq)); (try replace HT := Lib.hid (HT.out.call hq)); (try replace HV' := Lib.hid (HV'.out.call hq)); replace HX := Lib.hid (HX.out.below hq); clear g0 g1; obtain ⟨g0, g1⟩ := HX.out; replace HV := Lib.hid (HV.out.trans (hq.mono HV.out.size)); have HM := Lib.hid hrd; clear hrd hq)
          | (go_at_call 29; (with_reducible refine (R6 _ _ _ HA.out HM.out).out.mono ?_); rintro e w9 ⟨AV', cV', rfl, hrd, hq⟩; (try replace HA := Lib.hid (HA.out.call hq)); (try replace HB := Lib.hid (HB.out.call hq)); (try replace HL := Lib.hid (HL.out.call hq)); (try replace HK := Lib.hid (HK.out.call hq)); (try replace HJ := Lib.hid (HJ.out.call hq)); (try replace HP := Lib.hid (HP.out.call hq)); (try replace HT := Lib.hid (HT.out.call hq)); (try replace HM := Lib.hid (HM.out.call hq)); replace HX := Lib.hid (HX.out.below hq); clear g0 g1; obtain ⟨g0, g1⟩ := HX.out; replace HV := Lib.hid (HV.out.trans (hq.mono HV.out.size)); have HV' := Lib.hid hrd; clear hrd hq)
          | (go_at_call 18; (with_reducible refine (ST _ _ _ _ _ HT.out HV'.out).out.mono ?_); rintro e w9 ⟨rfl, hq⟩; (try replace HA := Lib.hid (HA.out.call hq)); (try replace HB := Lib.hid (HB.out.call hq)); (try replace HL := Lib.hid (HL.out.call hq)); (try replace HK := Lib.hid (HK.out.call hq)); (try replace HJ := Lib.hid (HJ.out.call hq)); (try replace HP := Lib.hid (HP.out.call hq)); (try replace HT := Lib.hid (HT.out.call hq)); (try replace HM := Lib.hid (HM.out.call hq)); (try replace HV' := Lib.hid (HV'.out.call hq)); replace HX := Lib.hid (HX.out.below hq); clear g0 g1; obtain ⟨g0, g1⟩ := HX.out; replace HV := Lib.hid (HV.out.trans (hq.mono HV.out.size)); clear hq))
      all_goals
        go_wp2_with fail
        go_meet
        exact ⟨rfl, HV⟩
    case rest =>
    obtain ⟨rfl, hq⟩ := hcut
    replace hq := hq.out
    (try replace HA := Lib.hid (HA.out.call hq))
    (try replace HB := Lib.hid (HB.out.call hq))
    (try replace HL := Lib.hid (HL.out.call hq))
    (try replace HK := Lib.hid (HK.out.call hq))
    (try replace HJ := Lib.hid (HJ.out.call hq))
    replace HX := Lib.hid (HX.out.below hq)
    clear g0 g1
    obtain ⟨g0, g1⟩ := HX.out
    replace HW := Lib.hid (HW.out.trans (hq.mono HW.out.size))
    clear hq
    obtain ⟨w9, hw9⟩ : ∃ w9, w9 = wc := ⟨_, rfl⟩
    subst hw9
    go_upto_region 8 with fail
    go_cut [10] from 63 to 76 (fun s wx => s = .bool true ∧ Hid (Below w9.heap.size w9 wx))
    case first =>
      have HV := Lib.hid (Below.refl w9.heap.size w9)
      have hq : Below w9.heap.size w9 w9.drew := (Below.refl _ _).drew
      (try replace HA := Lib.hid (HA.out.call hq))
      (try replace HB := Lib.hid (HB.out.call hq))
      (try replace HL := Lib.hid (HL.out.call hq))
      (try replace HK := Lib.hid (HK.out.call hq))
      (try replace HJ := Lib.hid (HJ.out.call hq))
      (try replace HP := Lib.hid (HP.out.call hq))
      (try replace HM := Lib.hid (HM.out.call hq))
      (try replace HY := Lib.hid (HY.out.call hq))
      (try replace HS := Lib.hid (HS.out.call hq))
      (try replace HO := Lib.hid (HO.out.call hq))
      replace HX := Lib.hid (HX.out.below hq)
      clear g0 g1
      obtain ⟨g0, g1⟩ := HX.out
      replace HV := Lib.hid (HV.out.trans (hq.mono HV.out.size))
      clear hq
      go_region_held3 (fun w' => w'.cell? ⟨w.heap.size, 0, none⟩ = some (.slice D q e) ∧ w'.cell? ⟨w.heap.size, 1, none⟩ = some (.slice F h f)) (first | (exact ⟨by assumption, by assumption⟩) | go_keep)
        (first
          | (go_at_call 29; (with_reducible refine (R2 _ HA.out HL.out).out.mono ?_); rintro e w9 ⟨AP, cP, rfl, hrd, hq⟩; (try replace HA := Lib.hid (HA.out.call hq)); (try replace HB := Lib.hid (HB.out.call hq)); (try replace HL := Lib.hid (HL.out.call hq)); (try replace HK := Lib.hid (HK.out.call hq)); (try replace HJ := Lib.hid (HJ.out.call hq)); (try replace HM := Lib.hid (HM.out.call hq)); (try replace HY := Lib.hid (HY.out.call hq)); (try replace HS := Lib.hid (HS.out.call hq)); (try replace HO := Lib.hid (HO.out.call hq)); replace HX := Lib.hid (HX.out.below hq); clear g0 g1; obtain ⟨g0, g1⟩ := HX.out; replace HV := Lib.hid (HV.out.trans (hq.mono HV.out.size)); have HP := Lib.hid hrd; clear hrd hq)
          | (go_at_call 34; (with_reducible refine (NT' _ HL.out).out.mono ?_); rintro e w9 ⟨AM, cM, rfl, hrd, hq⟩; (try replace HA := Lib.hid (HA.out.call hq)); (try replace HB := Lib.hid (HB.out.call hq)); (try replace HL := Lib.hid (HL.out.call hq)); (try replace HK := Lib.hid (HK.out.call hq)); (try replace HJ := Lib.hid (HJ.out.call hq)); (try replace HP := Lib.hid (HP.out.call hq)); (try replace HY := Lib.hid (HY.out.call hq)); (try replace HS := Lib.hid (HS.out.call hq)); (try replace HO := Lib.hid (HO.out.call hq)); replace HX := Lib.hid (HX.out.below hq); clear g0 g1; obtain ⟨g0, g1⟩ := HX.out; replace HV := Lib.hid (HV.out.trans (hq.mono HV.out.size)); have HM := Lib.hid hrd; clear hrd hq)
          | (go_at_call 29; (with_reducible refine (R7 _ _ _ HA.out HM.out).out.mono ?_); rintro e w9 ⟨AY, cY, rfl, hrd, hq⟩; (try replace HA := Lib.hid (HA.out.call hq)); (try replace HB := Lib.hid (HB.out.call hq)); (try replace HL := Lib.hid (HL.out.call hq)); (try replace HK := Lib.hid (HK.out.call hq)); (try replace HJ := Lib.hid (HJ.out.call hq)); (try replace HP := Lib.hid (HP.out.call hq)); (try replace HM := Lib.hid (HM.out.call hq)); (try replace HS := Lib.hid (HS.out.call hq)); (try replace HO := Lib.hid (HO.out.call hq)); replace HX := Lib.hid (HX.out.below hq); clear g0 g1; obtain ⟨g0, g1⟩ := HX.out; replace HV := Lib.hid (HV.out.trans (hq.mono HV.out.size)); have HY := Lib.hid hrd; clear hrd hq)
          | (go_at_call 26; (with_reducible refine (J8 _ _ _ _ _ HP.out HY.out).out.mono ?_); rintro e w9 ⟨AS, cS, rfl, hrd, hq⟩; (try replace HA := Lib.hid (HA.out.call hq)); (try replace HB := Lib.hid (HB.out.call hq)); (try replace HL := Lib.hid (HL.out.call hq)); (try replace HK := Lib.hid (HK.out.call hq)); (try replace HJ := Lib.hid (HJ.out.call hq)); (try replace HP := Lib.hid (HP.out.call hq)); (try replace HM := Lib.hid (HM.out.call hq)); (try replace HY := Lib.hid (HY.out.call hq)); (try replace HO := Lib.hid (HO.out.call hq)); replace HX := Lib.hid (HX.out.below hq); clear g0 g1; obtain ⟨g0, g1⟩ := HX.out; replace HV := Lib.hid (HV.out.trans (hq.mono HV.out.size)); have HS := Lib.hid hrd; clear hrd hq)
          | (go_at_call 10; (with_reducible refine (O9 _ HA.out).out.mono ?_); rintro e w9 ⟨AO, cO, rfl, hrd, hq⟩; (try replace HA := Lib.hid (HA.out.call hq)); (try replace HB := Lib.hid (HB.out.call hq)); (try replace HL := Lib.hid (HL.out.call hq)); (try replace HK := Lib.hid (HK.out.call hq)); (try replace HJ := Lib.hid (HJ.out.call hq)); (try replace HP := Lib.hid (HP.out.call hq)); (try replace HM := Lib.hid (HM.out.call hq)); (try replace HY := Lib.hid (HY.out.call hq)); (try replace HS := Lib.hid (HS.out.call hq)); replace HX := Lib.hid (HX.out.below hq); clear g0 g1; obtain ⟨g0, g1⟩ := HX.out; replace HV := Lib.hid (HV.out.trans (hq.mono HV.out.size)); have HO := Lib.hid hrd; clear hrd hq)
          | (go_at_call 18; (with_reducible refine (SO _ _ _ _ _ HS.out HO.out).out.mono ?_); rintro e w9 ⟨rfl, hq⟩; (try replace HA := Lib.hid (HA.out.call hq)); (try replace HB := Lib.hid (HB.out.call hq)); (try replace HL := Lib.hid (HL.out.call hq)); (try replace HK := Lib.hid (HK.out.call hq)); (try replace HJ := Lib.hid (HJ.out.call hq)); (try replace HP := Lib.hid (HP.out.call hq)); (try replace HM := Lib.hid (HM.out.call hq)); (try replace HY := Lib.hid (HY.out.call hq)); (try replace HS := Lib.hid (HS.out.call hq)); (try replace HO := Lib.hid (HO.out.call hq)); replace HX := Lib.hid (HX.out.below hq); clear g0 g1; obtain ⟨g0, g1⟩ := HX.out; replace HV := Lib.hid (HV.out.trans (hq.mono HV.out.size)); clear hq))
      all_goals
        go_wp2_with fail
        go_meet
        exact ⟨rfl, HV⟩
    case rest =>
    obtain ⟨rfl, hq⟩ := hcut
    replace hq := hq.out
    (try replace HA := Lib.hid (HA.out.call hq))
    (try replace HB := Lib.hid (HB.out.call hq))
    (try replace HL := Lib.hid (HL.out.call hq))
    (try replace HK := Lib.hid (HK.out.call hq))
    (try replace HJ := Lib.hid (HJ.out.call hq))
    replace HX := Lib.hid (HX.out.below hq)
    clear g0 g1
    obtain ⟨g0, g1⟩ := HX.out
    replace HW := Lib.hid (HW.out.trans (hq.mono HW.out.size))
    clear hq
    obtain ⟨w9, hw9⟩ : ∃ w9, w9 = wc := ⟨_, rfl⟩
    subst hw9
    go_wp2_with (first
      | ((with_reducible refine (L1 _ _ _ HA.out HJ.out).out.mono ?_); rintro e w9 ⟨AP, cP, rfl, hrd, hq⟩; (try clear HP); (try replace HA := Lib.hid (HA.out.call hq)); (try replace HB := Lib.hid (HB.out.call hq)); (try replace HL := Lib.hid (HL.out.call hq)); (try replace HK := Lib.hid (HK.out.call hq)); (try replace HJ := Lib.hid (HJ.out.call hq)); (try replace HQ := Lib.hid (HQ.out.call hq)); replace HX := Lib.hid (HX.out.below hq); clear g0 g1; obtain ⟨g0, g1⟩ := HX.out; replace HW := Lib.hid (HW.out.trans (hq.mono HW.out.size)); have HP := Lib.hid hrd; clear hrd hq)
      | ((with_reducible refine (L2 _ _ _ HJ.out HB.out).out.mono ?_); rintro e w9 ⟨AP, cP, rfl, hrd, hq⟩; (try clear HP); (try replace HA := Lib.hid (HA.out.call hq)); (try replace HB := Lib.hid (HB.out.call hq)); (try replace HL := Lib.hid (HL.out.call hq)); (try replace HK := Lib.hid (HK.out.call hq)); (try replace HJ := Lib.hid (HJ.out.call hq)); (try replace HQ := Lib.hid (HQ.out.call hq)); replace HX := Lib.hid (HX.out.below hq); clear g0 g1; obtain ⟨g0, g1⟩ := HX.out; replace HW := Lib.hid (HW.out.trans (hq.mono HW.out.size)); have HP := Lib.hid hrd; clear hrd hq)
      | ((with_reducible refine (L3 _ HA.out HB.out).out.mono ?_); rintro e w9 ⟨AQ, cQ, rfl, hrd, hq⟩; (try clear HQ); (try replace HA := Lib.hid (HA.out.call hq)); (try replace HB := Lib.hid (HB.out.call hq)); (try replace HL := Lib.hid (HL.out.call hq)); (try replace HK := Lib.hid (HK.out.call hq)); (try replace HJ := Lib.hid (HJ.out.call hq)); (try replace HP := Lib.hid (HP.out.call hq)); replace HX := Lib.hid (HX.out.below hq); clear g0 g1; obtain ⟨g0, g1⟩ := HX.out; replace HW := Lib.hid (HW.out.trans (hq.mono HW.out.size)); have HQ := Lib.hid hrd; clear hrd hq)
      | ((with_reducible refine (SZ _ _ _ _ _ HP.out HQ.out).out.mono ?_); rintro e w9 ⟨rfl, hq⟩; (try replace HA := Lib.hid (HA.out.call hq)); (try replace HB := Lib.hid (HB.out.call hq)); (try replace HL := Lib.hid (HL.out.call hq)); (try replace HK := Lib.hid (HK.out.call hq)); (try replace HJ := Lib.hid (HJ.out.call hq)); (try replace HP := Lib.hid (HP.out.call hq)); (try replace HQ := Lib.hid (HQ.out.call hq)); replace HX := Lib.hid (HX.out.below hq); clear g0 g1; obtain ⟨g0, g1⟩ := HX.out; replace HW := Lib.hid (HW.out.trans (hq.mono HW.out.size)); clear hq))
    go_ret
    exact ⟨rfl, HW.out⟩
end Go.Proofs.YtaodifpnfejbbaaGreat

/-
  Plain facts on how right lists are made (layer 8): ranges in the order of their beginnings, merged; the edges of two lists, swept together. No program in this text.
-/
namespace Go.Proofs.YtaodifpnfejbbaaGreat

/-! Ranges in the order of their beginnings, merged. -/
def mergeL : Option Rng → List Rng → List Rng
  | none, [] => []
  | some p, [] => [p]
  | none, r :: l => mergeL (some r) l
  | some p, r :: l => match gapR p r with
    | true => p :: mergeL (some r) l
    | false => match endLt p r with
      | true => mergeL (some ⟨p.lo, r.hi, r.op⟩) l
      | false => mergeL (some p) l
theorem mergeL_gap {p r : Rng} {l : List Rng} (h : gapR p r = true) : mergeL (some p) (r :: l) = p :: mergeL (some r) l := by rw [mergeL, h]
theorem mergeL_more {p r : Rng} {l : List Rng} (h : gapR p r = false) (h' : endLt p r = true) : mergeL (some p) (r :: l) = mergeL (some ⟨p.lo, r.hi, r.op⟩) l := by rw [mergeL, h, h']
theorem mergeL_in {p r : Rng} {l : List Rng} (h : gapR p r = false) (h' : endLt p r = false) : mergeL (some p) (r :: l) = mergeL (some p) l := by rw [mergeL, h, h']
/-- Ranges, each of which begins not behind those behind it. -/
def SortedL (l : List Rng) : Prop := l.Pairwise fun a b => ltB b.lo a.lo = false
theorem gapR_false {p r : Rng} (h : gapR p r = false) : p.op = true ∨ (p.op = false ∧ ltB p.hi r.lo = false) := by
  unfold gapR at h
  cases ho : p.op with
  | true => exact .inl rfl
  | false => rw [ho] at h; exact .inr ⟨rfl, h⟩
theorem endLt_true {p r : Rng} (h : endLt p r = true) : p.op = false ∧ (r.op = true ∨ (r.op = false ∧ ltB p.hi r.hi = true)) := by
  unfold endLt at h
  cases ho : p.op <;> cases hr : r.op <;> rw [ho, hr] at h
  · exact ⟨rfl, .inr ⟨rfl, h⟩⟩
  · exact ⟨rfl, .inl rfl⟩
  · cases h
  · cases h
theorem endLt_false {p r : Rng} (h : endLt p r = false) : p.op = true ∨ (p.op = false ∧ r.op = false ∧ ltB p.hi r.hi = false) := by
  unfold endLt at h
  cases ho : p.op <;> cases hr : r.op <;> rw [ho, hr] at h
  · exact .inr ⟨rfl, rfl, h⟩
  · cases h
  · exact .inl rfl
  · exact .inl rfl
theorem hasR_eq {r : Rng} (h : rightR r = true) (s : List UInt8) : hasR r s = (!ltB s r.lo && (r.op || ltB s r.hi)) := by unfold hasR aheadR; rw [h, Bool.true_and]
theorem more_right {p r : Rng} (hp : rightR p = true) (hr : rightR r = true) (h : ltB r.lo p.lo = false) : rightR ⟨p.lo, r.hi, r.op⟩ = true :=
  rightR_iff.2 ⟨(show p.lo.length ≤ 17 from rightR_lo hp), (show r.hi.length ≤ 17 from rightR_hi hr), (show r.op = true → r.hi = [] from rightR_op hr), (show r.op = false → ltB p.lo r.hi = true from fun ho => ltB_of_le_of_lt h (rightR_lt hr ho))⟩
theorem more_has {p r : Rng} (hp : rightR p = true) (hr : rightR r = true) (h : ltB r.lo p.lo = false) (hg : gapR p r = false) (he : endLt p r = true) (s : List UInt8) : hasR ⟨p.lo, r.hi, r.op⟩ s = (hasR p s || hasR r s) := by
  rw [hasR_eq (more_right hp hr h), hasR_eq hp, hasR_eq hr]
  obtain ⟨ho, he⟩ := endLt_true he
  rcases gapR_false hg with h1 | ⟨_, h1⟩
  · rw [ho] at h1; cases h1
  rw [ho, Bool.false_or]
  cases hs : ltB s p.hi with
  | true =>
    have h2 : (r.op || ltB s r.hi) = true := by
      rcases he with he | ⟨_, he⟩
      · rw [he]; rfl
      · rw [ltB_trans hs he, Bool.or_true]
    show (!ltB s p.lo && (r.op || ltB s r.hi)) = _
    rw [h2, Bool.and_true, Bool.and_true]
    cases h3 : ltB s p.lo with
    | false => rfl
    | true => rw [ltB_of_lt_of_le h3 h]; rfl
  | false =>
    have h2 : ltB s r.lo = false := leB_trans h1 hs
    have h3 : ltB s p.lo = false := leB_trans h h2
    show (!ltB s p.lo && (r.op || ltB s r.hi)) = _
    rw [h2, h3]; rfl
theorem in_has {p r : Rng} (hp : rightR p = true) (h : ltB r.lo p.lo = false) (he : endLt p r = false) (s : List UInt8) : hasR p s = (hasR p s || hasR r s) := by
  cases hs : hasR r s with
  | false => rw [Bool.or_false]
  | true =>
    rw [Bool.or_true]
    have h1 := hasR_ge hs
    have h2 := hasR_ahead hs
    rw [hasR_eq hp, leB_trans h h1]
    rcases endLt_false he with h3 | ⟨h3, h4, h5⟩
    · rw [h3]; rfl
    · unfold aheadR at h2
      rw [h4, Bool.false_or] at h2
      rw [ltB_of_lt_of_le h2 h5, Bool.or_true]; rfl
theorem mergeL_ok : ∀ (l : List Rng) (p : Rng), rightR p = true → (∀ r ∈ l, rightR r = true ∧ ltB r.lo p.lo = false) → SortedL l →
    rightL (mergeL (some p) l) = true ∧ (∀ s, hasL (mergeL (some p) l) s = (hasR p s || hasL l s)) ∧ ∃ t m, mergeL (some p) l = t :: m ∧ t.lo = p.lo
  | [], p, hp, _, _ => ⟨hp, fun s => by rw [show mergeL (some p) [] = [p] from rfl, hasL_cons], p, [], rfl, rfl⟩
  | r :: l, p, hp, hl, hs => by
    obtain ⟨hr, hlo⟩ := hl r (List.mem_cons_self ..)
    obtain ⟨hs1, hs2⟩ := List.pairwise_cons.1 hs
    have hl' : ∀ t ∈ l, rightR t = true ∧ ltB t.lo r.lo = false := fun t ht => ⟨(hl t (List.mem_cons_of_mem _ ht)).1, hs1 t ht⟩
    cases hg : gapR p r with
    | true =>
      obtain ⟨h1, h2, t, m, h3, h4⟩ := mergeL_ok l r hr hl' hs2
      rw [mergeL_gap hg]
      refine ⟨?_, fun s => by rw [hasL_cons, h2, hasL_cons], p, _, rfl, rfl⟩
      rw [h3] at h1 ⊢
      have h5 : gapR p t = true := by unfold gapR at hg ⊢; rw [h4]; exact hg
      unfold rightL
      rw [hp, h5, h1]; rfl
    | false =>
      cases he : endLt p r with
      | true =>
        obtain ⟨h1, h2, t, m, h3, h4⟩ := mergeL_ok l ⟨p.lo, r.hi, r.op⟩ (more_right hp hr hlo) (fun t ht => ⟨(hl' t ht).1, leB_trans hlo (hl' t ht).2⟩) hs2
        rw [mergeL_more hg he]
        exact ⟨h1, fun s => by rw [h2, more_has hp hr hlo hg he, hasL_cons, Bool.or_assoc], t, m, h3, h4⟩
      | false =>
        obtain ⟨h1, h2, t, m, h3, h4⟩ := mergeL_ok l p hp (fun t ht => hl t (List.mem_cons_of_mem _ ht)) hs2
        rw [mergeL_in hg he]
        exact ⟨h1, fun s => by rw [h2, hasL_cons, ← Bool.or_assoc, ← in_has hp hlo he], t, m, h3, h4⟩
theorem mergeL_all {l : List Rng} (hl : ∀ r ∈ l, rightR r = true) (hs : SortedL l) : rightL (mergeL none l) = true ∧ ∀ s, hasL (mergeL none l) s = hasL l s := by
  cases l with
  | nil => exact ⟨rfl, fun _ => rfl⟩
  | cons r l =>
    obtain ⟨hs1, hs2⟩ := List.pairwise_cons.1 hs
    obtain ⟨h1, h2, _⟩ := mergeL_ok l r (hl r (List.mem_cons_self ..)) (fun t ht => ⟨hl t (List.mem_cons_of_mem _ ht), hs1 t ht⟩) hs2
    exact ⟨h1, fun s => by rw [show mergeL none (r :: l) = mergeL (some r) l from rfl, h2, hasL_cons]⟩
/-- The right ones, in some order of their beginnings, merged: the right list of all. -/
theorem mergeL_norm {l m : List Rng} (hp : m.Perm (l.filter rightR)) (hs : SortedL m) : mergeL none m = normV l := by
  have hm : ∀ r ∈ m, rightR r = true := fun r hr => by have := hp.mem_iff.1 hr; exact (List.mem_filter.1 this).2
  obtain ⟨h1, h2⟩ := mergeL_all hm hs
  refine makeV_unique h1 fun s => ?_
  rw [h2, gV1, hasL_nil, Bool.or_false, Bool.eq_iff_iff]
  unfold hasL
  rw [List.any_eq_true, List.any_eq_true]
  constructor
  · rintro ⟨r, hr, h⟩; exact ⟨r, (List.mem_filter.1 (hp.mem_iff.1 hr)).1, h⟩
  · rintro ⟨r, hr, h⟩; exact ⟨r, hp.mem_iff.2 (List.mem_filter.2 ⟨hr, hasR_right h⟩), h⟩
/-- The last one that is kept, behind a range. -/
def lastR (p r : Rng) : Rng := match endLt p r with | true => ⟨p.lo, r.hi, r.op⟩ | false => p
theorem mergeL_last {p r : Rng} {l : List Rng} (h : gapR p r = false) : mergeL (some p) (r :: l) = mergeL (some (lastR p r)) l := by
  unfold lastR
  cases h' : endLt p r with
  | true => rw [mergeL_more h h']
  | false => rw [mergeL_in h h']

/-! The edges of a right list. -/
def edgesR : List Rng → List (List UInt8)
  | [] => []
  | r :: l => match r.op with
    | true => r.lo :: edgesR l
    | false => r.lo :: r.hi :: edgesR l
theorem edgesR_open {r : Rng} {l : List Rng} (h : r.op = true) : edgesR (r :: l) = r.lo :: edgesR l := by rw [edgesR, h]
theorem edgesR_shut {r : Rng} {l : List Rng} (h : r.op = false) : edgesR (r :: l) = r.lo :: r.hi :: edgesR l := by rw [edgesR, h]
theorem edgesR_append : ∀ (a b : List Rng), edgesR (a ++ b) = edgesR a ++ edgesR b
  | [], _ => rfl
  | r :: a, b => by
    rw [List.cons_append]
    cases ho : r.op with
    | true => rw [edgesR_open ho, edgesR_open ho, edgesR_append a b, List.cons_append]
    | false => rw [edgesR_shut ho, edgesR_shut ho, edgesR_append a b, List.cons_append, List.cons_append]
/-- Are texts rising? -/
def riseB : List (List UInt8) → Bool
  | [] => true
  | x :: l => risingB x l
theorem risingB_of {c x : List UInt8} {l : List (List UInt8)} (h : ltB c x = true) (h' : risingB x l = true) : risingB c (x :: l) = true := by unfold risingB; rw [h, h']; rfl
theorem edgesR_rise : ∀ {l : List Rng}, rightL l = true → (∀ c, (∀ r m, l = r :: m → ltB c r.lo = true) → risingB c (edgesR l) = true)
  | [], _, _, _ => rfl
  | r :: l, h, c, hc => by
    have h1 := hc r l rfl
    cases ho : r.op with
    | true =>
      have hl : l = [] := by
        cases l with
        | nil => rfl
        | cons t m => have := (rightL_gap h).1; rw [ho] at this; cases this
      rw [edgesR_open ho, hl]
      exact risingB_of h1 rfl
    | false =>
      rw [edgesR_shut ho]
      refine risingB_of h1 (risingB_of (rightR_lt (rightL_head h) ho) (edgesR_rise (rightL_tail h) _ fun t m e => ?_))
      subst e
      exact (rightL_gap h).2
theorem edgesR_riseB {l : List Rng} (h : rightL l = true) : riseB (edgesR l) = true := by
  cases l with
  | nil => rfl
  | cons r l =>
    cases ho : r.op with
    | true =>
      have hl : l = [] := by
        cases l with
        | nil => rfl
        | cons t m => have := (rightL_gap h).1; rw [ho] at this; cases this
      rw [edgesR_open ho, hl]; rfl
    | false =>
      rw [edgesR_shut ho]
      refine risingB_of (rightR_lt (rightL_head h) ho) (edgesR_rise (rightL_tail h) _ fun t m e => ?_)
      subst e
      exact (rightL_gap h).2
theorem edgesR_len17 : ∀ {l : List Rng}, (∀ r ∈ l, rightR r = true) → ∀ x ∈ edgesR l, x.length ≤ 17
  | [], _, x, hx => by cases hx
  | r :: l, h, x, hx => by
    have h1 := h r (List.mem_cons_self ..)
    have h2 := edgesR_len17 fun t ht => h t (List.mem_cons_of_mem _ ht)
    cases ho : r.op with
    | true =>
      rw [edgesR_open ho] at hx
      rcases List.mem_cons.1 hx with rfl | hx
      · exact rightR_lo h1
      · exact h2 x hx
    | false =>
      rw [edgesR_shut ho] at hx
      rcases List.mem_cons.1 hx with rfl | hx
      · exact rightR_lo h1
      · rcases List.mem_cons.1 hx with rfl | hx
        · exact rightR_hi h1
        · exact h2 x hx
theorem edgesR_len : ∀ l : List Rng, (edgesR l).length ≤ 2 * l.length
  | [] => by simp [edgesR]
  | r :: l => by
    have := edgesR_len l
    cases ho : r.op with
    | true => rw [edgesR_open ho]; simp only [List.length_cons]; omega
    | false => rw [edgesR_shut ho]; simp only [List.length_cons]; omega
/-- Is a text in, by the edges at which that turns? -/
def togV : Bool → List (List UInt8) → List UInt8 → Bool
  | v, [], _ => v
  | v, x :: l, s => match ltB s x with | true => v | false => togV (!v) l s
theorem togV_low {v : Bool} {x s : List UInt8} {l : List (List UInt8)} (h : ltB s x = true) : togV v (x :: l) s = v := by rw [togV, h]
theorem togV_high {v : Bool} {x s : List UInt8} {l : List (List UInt8)} (h : ltB s x = false) : togV v (x :: l) s = togV (!v) l s := by rw [togV, h]
theorem togV_all {v : Bool} {s : List UInt8} {l : List (List UInt8)} (h : ∀ x ∈ l, ltB s x = true) : togV v l s = v := by
  cases l with
  | nil => rfl
  | cons x l => exact togV_low (h x (List.mem_cons_self ..))
theorem togV_edges : ∀ {l : List Rng}, rightL l = true → ∀ s, togV false (edgesR l) s = hasL l s
  | [], _, _ => rfl
  | r :: l, h, s => by
    have hr := rightL_head h
    cases h1 : ltB s r.lo with
    | true =>
      have h2 : hasL (r :: l) s = false := by
        cases hc : hasL (r :: l) s with
        | false => rfl
        | true => rw [hasL_ge h hc] at h1; cases h1
      rw [h2]
      cases ho : r.op with
      | true => rw [edgesR_open ho, togV_low h1]
      | false => rw [edgesR_shut ho, togV_low h1]
    | false =>
      cases ho : r.op with
      | true =>
        have hl : l = [] := by
          cases l with
          | nil => rfl
          | cons t m => have := (rightL_gap h).1; rw [ho] at this; cases this
        rw [edgesR_open ho, togV_high h1, hl, hasL_cons, hasR_eq hr, h1, ho]; rfl
      | false =>
        rw [edgesR_shut ho, togV_high h1, hasL_cons, hasR_eq hr, h1, ho]
        cases h3 : ltB s r.hi with
        | true => rw [togV_low h3]; rfl
        | false => rw [togV_high h3, show (!!false) = false from rfl, togV_edges (rightL_tail h)]; rfl
theorem togV_det : ∀ (l : List (List UInt8)) (v : Bool) {s c : List UInt8}, (∀ x ∈ l, ltB s x = ltB c x) → togV v l s = togV v l c
  | [], _, _, _, _ => rfl
  | x :: l, v, s, c, h => by
    have h1 := h x (List.mem_cons_self ..)
    have h2 := togV_det l (!v) fun y hy => h y (List.mem_cons_of_mem _ hy)
    unfold togV
    rw [h1, h2]

/-! The edges of two lists, together. -/
/-- What is left of edges behind one that may be the first of them. -/
def dropE (e : List UInt8) : List (List UInt8) → List (List UInt8)
  | [] => []
  | x :: l => match decide (x = e) with | true => l | false => x :: l
/-- .. and whether a text is in from there on. -/
def passB (e : List UInt8) (v : Bool) : List (List UInt8) → Bool
  | [] => v
  | x :: _ => match decide (x = e) with | true => !v | false => v
theorem dropE_same {e : List UInt8} {l : List (List UInt8)} : dropE e (e :: l) = l := by rw [dropE, decide_eq_true rfl]
theorem dropE_other {e x : List UInt8} {l : List (List UInt8)} (h : x ≠ e) : dropE e (x :: l) = x :: l := by rw [dropE, decide_eq_false h]
theorem passB_same {e : List UInt8} {v : Bool} {l : List (List UInt8)} : passB e v (e :: l) = !v := by rw [passB, decide_eq_true rfl]
theorem passB_other {e x : List UInt8} {v : Bool} {l : List (List UInt8)} (h : x ≠ e) : passB e v (x :: l) = v := by rw [passB, decide_eq_false h]
theorem dropE_len (e : List UInt8) (l : List (List UInt8)) : (dropE e l).length ≤ l.length := by
  cases l with
  | nil => exact Nat.le_refl _
  | cons x l =>
    by_cases h : x = e
    · subst h; rw [dropE_same]; simp
    · rw [dropE_other h]; exact Nat.le_refl _
theorem dropE_mem {e x : List UInt8} {l : List (List UInt8)} (h : x ∈ dropE e l) : x ∈ l := by
  cases l with
  | nil => cases h
  | cons y l =>
    by_cases hy : y = e
    · subst hy; rw [dropE_same] at h; exact List.mem_cons_of_mem _ h
    · rw [dropE_other hy] at h; exact h
theorem mem_dropE {e x : List UInt8} {l : List (List UInt8)} (h : x ∈ l) (hne : x ≠ e) : x ∈ dropE e l := by
  cases l with
  | nil => cases h
  | cons y l =>
    by_cases hy : y = e
    · subst hy; rw [dropE_same]
      rcases List.mem_cons.1 h with rfl | h
      · exact absurd rfl hne
      · exact h
    · rw [dropE_other hy]; exact h
/-- Rising texts, none of them ahead of one. -/
def FromE (e : List UInt8) (l : List (List UInt8)) : Prop := riseB l = true ∧ ∀ x ∈ l, ltB x e = false
theorem FromE.drop {e : List UInt8} {l : List (List UInt8)} (h : FromE e l) : risingB e (dropE e l) = true := by
  obtain ⟨h1, h2⟩ := h
  cases l with
  | nil => rfl
  | cons x l =>
    by_cases hx : x = e
    · subst hx; rw [dropE_same]; exact h1
    · rw [dropE_other hx]
      refine risingB_of ?_ h1
      have h3 := h2 x (List.mem_cons_self ..)
      cases hc : ltB e x with
      | true => rfl
      | false => exact absurd (ltB_total h3 hc) hx
theorem riseB_of {c : List UInt8} {l : List (List UInt8)} (h : risingB c l = true) : riseB l = true := by
  cases l with
  | nil => rfl
  | cons x l => exact (rising_head h).2
theorem FromE.pass {e : List UInt8} {l : List (List UInt8)} {v : Bool} (_h : FromE e l) {s : List UInt8} (hs : ltB s e = false) : togV (passB e v l) (dropE e l) s = togV v l s := by
  cases l with
  | nil => rfl
  | cons x l =>
    by_cases hx : x = e
    · subst hx; rw [dropE_same, passB_same, togV_high hs]
    · rw [dropE_other hx, passB_other hx]
theorem FromE.at {e : List UInt8} {l : List (List UInt8)} {v : Bool} (h : FromE e l) : togV v l e = passB e v l := by
  rw [← h.pass (ltB_irrefl e)]
  exact togV_all (rising_all h.drop)
/-- The next edge of both. -/
def nearE : List (List UInt8) → List (List UInt8) → Option (List UInt8)
  | [], [] => none
  | [], y :: _ => some y
  | x :: _, [] => some x
  | x :: _, y :: _ => match ltB x y with | true => some x | false => some y
theorem nearE_lt {x y : List UInt8} {a b : List (List UInt8)} (h : ltB x y = true) : nearE (x :: a) (y :: b) = some x := by rw [nearE, h]
theorem nearE_ge {x y : List UInt8} {a b : List (List UInt8)} (h : ltB x y = false) : nearE (x :: a) (y :: b) = some y := by rw [nearE, h]
/-- What is known of the next edge of two rising lists. -/
theorem nearE_some {c e : List UInt8} {a b : List (List UInt8)} (ha : risingB c a = true) (hb : risingB c b = true) (h : nearE a b = some e) :
    ltB c e = true ∧ FromE e a ∧ FromE e b ∧ (dropE e a).length + (dropE e b).length < a.length + b.length ∧ (e ∈ a ∨ e ∈ b) := by
  have up : ∀ {x : List UInt8} {l : List (List UInt8)}, risingB x l = true → ∀ y ∈ x :: l, ltB y x = false := fun hl y hy => by
    rcases List.mem_cons.1 hy with rfl | hy
    · exact ltB_irrefl _
    · exact ltB_asymm (rising_all hl y hy)
  cases a with
  | nil =>
    cases b with
    | nil => cases h
    | cons y b =>
      obtain rfl : y = e := by rw [nearE] at h; injection h
      obtain ⟨h1, h2⟩ := rising_head hb
      refine ⟨h1, ⟨rfl, by simp⟩, ⟨h2, up h2⟩, ?_, .inr (List.mem_cons_self ..)⟩
      rw [dropE_same]; simp [dropE]
  | cons x a =>
    obtain ⟨h1, h2⟩ := rising_head ha
    cases b with
    | nil =>
      obtain rfl : x = e := by rw [nearE] at h; injection h
      refine ⟨h1, ⟨h2, up h2⟩, ⟨rfl, by simp⟩, ?_, .inl (List.mem_cons_self ..)⟩
      rw [dropE_same]; simp [dropE]
    | cons y b =>
      obtain ⟨h3, h4⟩ := rising_head hb
      cases hxy : ltB x y with
      | true =>
        rw [nearE_lt hxy] at h
        obtain rfl : x = e := by injection h
        refine ⟨h1, ⟨h2, up h2⟩, ⟨h4, fun z hz => leB_trans (ltB_asymm hxy) (up h4 z hz)⟩, ?_, .inl (List.mem_cons_self ..)⟩
        have := dropE_len x (y :: b)
        rw [dropE_same]; simp only [List.length_cons] at this ⊢; omega
      | false =>
        rw [nearE_ge hxy] at h
        obtain rfl : y = e := by injection h
        refine ⟨h3, ⟨h2, fun z hz => leB_trans hxy (up h2 z hz)⟩, ⟨h4, up h4⟩, ?_, .inr (List.mem_cons_self ..)⟩
        have := dropE_len y (x :: a)
        rw [dropE_same]; simp only [List.length_cons] at this ⊢; omega
theorem nearE_none {a b : List (List UInt8)} (h : nearE a b = none) : a = [] ∧ b = [] := by
  cases a with
  | nil => cases b with
    | nil => exact ⟨rfl, rfl⟩
    | cons y b => cases h
  | cons x a => cases b with
    | nil => cases h
    | cons y b => rw [nearE] at h; cases hxy : ltB x y <;> rw [hxy] at h <;> cases h
/-- All edges of both, rising. -/
def mrgE : Nat → List (List UInt8) → List (List UInt8) → List (List UInt8)
  | 0, _, _ => []
  | n + 1, a, b => match nearE a b with
    | none => []
    | some e => e :: mrgE n (dropE e a) (dropE e b)
theorem mrgE_some {n : Nat} {a b : List (List UInt8)} {e : List UInt8} (h : nearE a b = some e) : mrgE (n + 1) a b = e :: mrgE n (dropE e a) (dropE e b) := by rw [mrgE, h]
theorem mrgE_none {n : Nat} {a b : List (List UInt8)} (h : nearE a b = none) : mrgE n a b = [] := by
  cases n with
  | zero => rfl
  | succ n => rw [mrgE, h]
theorem mrgE_rise : ∀ (n : Nat) {c : List UInt8} {a b : List (List UInt8)}, risingB c a = true → risingB c b = true → risingB c (mrgE n a b) = true
  | 0, _, _, _, _, _ => rfl
  | n + 1, c, a, b, ha, hb => by
    cases h : nearE a b with
    | none => rw [mrgE_none h]; rfl
    | some e =>
      obtain ⟨h1, h2, h3, _⟩ := nearE_some ha hb h
      rw [mrgE_some h]
      exact risingB_of h1 (mrgE_rise n h2.drop h3.drop)
theorem mrgE_mem : ∀ (n : Nat) {c : List UInt8} {a b : List (List UInt8)}, risingB c a = true → risingB c b = true → a.length + b.length ≤ n → ∀ x, (x ∈ a ∨ x ∈ b) → x ∈ mrgE n a b
  | 0, _, a, b, _, _, hn, x, hx => by
    have h1 : a = [] := List.length_eq_zero_iff.1 (by omega)
    have h2 : b = [] := List.length_eq_zero_iff.1 (by omega)
    rw [h1, h2] at hx; rcases hx with hx | hx <;> cases hx
  | n + 1, c, a, b, ha, hb, hn, x, hx => by
    cases h : nearE a b with
    | none =>
      obtain ⟨h1, h2⟩ := nearE_none h
      rw [h1, h2] at hx; rcases hx with hx | hx <;> cases hx
    | some e =>
      obtain ⟨_, h2, h3, h4, _⟩ := nearE_some ha hb h
      rw [mrgE_some h]
      by_cases he : x = e
      · subst he; exact List.mem_cons_self ..
      · refine List.mem_cons_of_mem _ (mrgE_mem n h2.drop h3.drop (by omega) x ?_)
        rcases hx with hx | hx
        · exact .inl (mem_dropE hx he)
        · exact .inr (mem_dropE hx he)
theorem mrgE_of : ∀ (n : Nat) {a b : List (List UInt8)} {x : List UInt8}, x ∈ mrgE n a b → x ∈ a ∨ x ∈ b
  | 0, _, _, _, h => by cases h
  | n + 1, a, b, x, h => by
    cases hn : nearE a b with
    | none => rw [mrgE_none hn] at h; cases h
    | some e =>
      rw [mrgE_some hn] at h
      rcases List.mem_cons.1 h with rfl | h
      · cases a with
        | nil => cases b with
          | nil => cases hn
          | cons y b => injection hn with hn; subst hn; exact .inr (List.mem_cons_self ..)
        | cons u a => cases b with
          | nil => injection hn with hn; subst hn; exact .inl (List.mem_cons_self ..)
          | cons y b =>
            cases hu : ltB u y with
            | true => rw [nearE_lt hu] at hn; injection hn with hn; subst hn; exact .inl (List.mem_cons_self ..)
            | false => rw [nearE_ge hu] at hn; injection hn with hn; subst hn; exact .inr (List.mem_cons_self ..)
      · rcases mrgE_of n h with h | h
        · exact .inl (dropE_mem h)
        · exact .inr (dropE_mem h)
/-- What is swept, edge by edge: what is still to come. -/
def restE (n : Nat) (a b : List (List UInt8)) : Option (List UInt8) → List (List UInt8)
  | none => []
  | some e => e :: mrgE n (dropE e a) (dropE e b)
theorem restE_next (n : Nat) (a b : List (List UInt8)) : mrgE (n + 1) a b = restE n a b (nearE a b) := by
  cases hn : nearE a b with
  | none => rw [mrgE_none hn]; rfl
  | some e => rw [mrgE_some hn]; rfl
/-- The swept list is what is meant. -/
theorem sweep_make (op : Int) (a b : List Rng) (f : List UInt8 → Bool) (hf : ∀ s, f s = inV op a b s) (n : Nat) (hn : (edgesR (normV a)).length + (edgesR (normV b)).length ≤ n) :
    mkR f (restE n (edgesR (normV a)) (edgesR (normV b)) (some [])) none = makeV op a b := by
  have ra : rightL (normV a) = true := makeV_right _ _ _
  have rb : rightL (normV b) = true := makeV_right _ _ _
  have fa : FromE [] (edgesR (normV a)) := ⟨edgesR_riseB ra, fun x _ => ltB_nil x⟩
  have fb : FromE [] (edgesR (normV b)) := ⟨edgesR_riseB rb, fun x _ => ltB_nil x⟩
  have hlen : ∀ x ∈ mrgE n (dropE [] (edgesR (normV a))) (dropE [] (edgesR (normV b))), x.length ≤ 17 := fun x hx => by
    rcases mrgE_of n hx with h | h
    · exact edgesR_len17 (rightL_all ra) x (dropE_mem h)
    · exact edgesR_len17 (rightL_all rb) x (dropE_mem h)
  have hmem : ∀ x, (x ∈ edgesR (normV a) ∨ x ∈ edgesR (normV b)) → x ∈ [] :: mrgE n (dropE [] (edgesR (normV a))) (dropE [] (edgesR (normV b))) := fun x hx => by
    by_cases he : x = []
    · rw [he]; exact List.mem_cons_self ..
    · refine List.mem_cons_of_mem _ (mrgE_mem n fa.drop fb.drop ?_ x ?_)
      · have := dropE_len [] (edgesR (normV a)); have := dropE_len [] (edgesR (normV b)); omega
      · rcases hx with hx | hx
        · exact .inl (mem_dropE hx he)
        · exact .inr (mem_dropE hx he)
  have hdet : Det f ([] :: mrgE n (dropE [] (edgesR (normV a))) (dropE [] (edgesR (normV b)))) := fun s c h => by
    rw [hf, hf]
    unfold inV
    rw [← normV_has a s, ← normV_has b s, ← normV_has a c, ← normV_has b c, ← togV_edges ra, ← togV_edges rb, ← togV_edges ra, ← togV_edges rb,
      togV_det (edgesR (normV a)) false fun x hx => h x (hmem x (.inl hx)), togV_det (edgesR (normV b)) false fun x hx => h x (hmem x (.inr hx))]
  obtain ⟨h1, h2⟩ := mkR_all (mrgE_rise n fa.drop fb.drop) hlen hdet
  exact makeV_unique h1 fun s => by
    rw [show restE n (edgesR (normV a)) (edgesR (normV b)) (some []) = [] :: mrgE n (dropE [] (edgesR (normV a))) (dropE [] (edgesR (normV b))) from rfl, h2, hf]; rfl
end Go.Proofs.YtaodifpnfejbbaaGreat
