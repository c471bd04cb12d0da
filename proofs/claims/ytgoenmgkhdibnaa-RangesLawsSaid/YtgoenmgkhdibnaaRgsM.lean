/-
  Layer 8 (ranges), the program: two lists swept together.
-/
import Derived.Test.YtgoenmgkhdibnaaRgsL
import Derived.Test.YtgoenmgkhdibnaaRgsSwp
import Derived.Deep.CutRange
namespace Go.Proofs.Ytgoenmgkhdibnaa
open Go.RowKit

/-- The text at which it is asked, as it is carried. -/
def curU : Option (List UInt8) → ByteArray
  | none => ⟨#[]⟩
  | some e => str e
theorem nearU_cur (a b : List (List UInt8)) : nearU a b = curU (nearE a b) := by
  unfold nearU curU; cases nearE a b <;> rfl
/-- A list that is swept, in its block. -/
structure SdAt (w : World) (g : Nat) (v : Bool) (s : Value) : Prop where
  c0 : w.cell? ⟨g, 0, none⟩ = some (.bool v)
  c1 : w.cell? ⟨g, 1, none⟩ = some s
  fr : ∀ k, w.frozen? ⟨g, k, none⟩ = false
theorem SdAt.lt {w : World} {g : Nat} {v : Bool} {s : Value} (h : SdAt w g v s) : g < w.heap.size := World.block_lt_of_cell? w _ h.c0
theorem SdAt.below {w w' : World} {g : Nat} {v : Bool} {s : Value} (h : SdAt w g v s) (hb : Below w.heap.size w w') : SdAt w' g v s := by
  obtain ⟨hc, hf⟩ := bcell hb
  have hl := h.lt
  exact ⟨(hc _ _ hl).trans h.c0, (hc _ _ hl).trans h.c1, fun k => (hf _ _ hl).trans (h.fr k)⟩
theorem SdAt.drew {w : World} {g : Nat} {v : Bool} {s : Value} (h : SdAt w g v s) : SdAt w.drew g v s := ⟨h.c0, h.c1, h.fr⟩
theorem SdAt.kept {w w' : World} {row : Option Nat} {g : Nat} {v : Bool} {s : Value} (h : SdAt w g v s) (hg : w.grownBy w' row) (hne : some g ≠ row) : SdAt w' g v s :=
  ⟨hg.cell h.c0 hne, hg.cell h.c1 hne, fun k => (hg.frozen_far ⟨g, k, none⟩ h.lt hne).trans (h.fr k)⟩
theorem SdAt.other {w : World} {g g' k : Nat} {v : Bool} {s u : Value} (h : SdAt w g v s) (hne : g' ≠ g) : SdAt (w.setCell ⟨g', k, none⟩ u) g v s :=
  ⟨set_other h.c0 (addr_block hne) u, set_other h.c1 (addr_block hne) u, fun j => by rw [World.frozen?_setCell]; exact h.fr j⟩
theorem SdAt.set {w : World} {g : Nat} {v v' : Bool} {s s' : Value} (h : SdAt w g v s) : SdAt ((w.setCell ⟨g, 0, none⟩ (.bool v')).setCell ⟨g, 1, none⟩ s') g v' s' :=
  ⟨set_other (set_same h.c0 _) (addr_off (by decide)) _, set_same (set_other h.c1 (addr_off (by decide)) _) _, fun j => by rw [World.frozen?_setCell, World.frozen?_setCell]; exact h.fr j⟩
theorem SdAt.low {w w' : World} {x : Obj} {g B : Nat} {v : Bool} {s : Value} (h : SdAt w g v s) (hb : Below B (w.alloc x) w') (hg : g < B) : SdAt w' g v s := by
  have h2 := h.below (below_new w x)
  obtain ⟨hc, hf⟩ := bcell hb
  exact ⟨(hc _ _ hg).trans h2.c0, (hc _ _ hg).trans h2.c1, fun k => (hf _ _ hg).trans (h2.fr k)⟩
theorem sdAt_new (w : World) (v : Bool) (s : Value) (t : TypeId) : SdAt (w.alloc (.cells #[.bool v, s] t)) w.heap.size v s := by
  have h := heap_new w (.cells #[.bool v, s] t) _ rfl
  refine ⟨?_, ?_, fun k => ?_⟩
  · rw [cell_of_row _ _ _ _ _ _ h]; rfl
  · rw [cell_of_row _ _ _ _ _ _ h]; rfl
  · unfold World.frozen?; rw [h]; simp
theorem sdAt_new1 (w : World) (x : Obj) (v : Bool) (s : Value) (t : TypeId) : SdAt ((w.alloc x).alloc (.cells #[.bool v, s] t)) (w.heap.size + 1) v s := by
  have := sdAt_new (w.alloc x) v s t
  rwa [size1] at this
theorem below_of_drew {w w' : World} (h : Below w.drew.heap.size w.drew w') : Below w.heap.size w w' := ⟨h.os, h.tape, h.output, h.size, h.block⟩
theorem rgs_begin_is (A : Option Addr) (c n : Nat) (l : List Rng) (hn : n = l.length) (hnl : n ≤ 1000) (w0 : World) (hr : kRng.Rd w0 w0.heap.size A c l) (E : List (List UInt8)) (hE : edgesR (normV l) = E) (N : Nat) (hN : E.length = N) (w : World) (hb : Below w0.heap.size w0 w) :
    Calls Try.prog 44 #[.slice A n c] w fun e w' => ∃ A' c', e = .returned (.agg #[.bool false, .slice A' N c']) ∧ kStr.Rd w' w'.heap.size A' c' E ∧ Below w.heap.size w w' := by
  subst hE hN
  exact rgs_begin A c n l hn hnl w (hr.call hb)
theorem rgs_pass_is (A : Option Addr) (c n : Nat) (l : List (List UInt8)) (x : List UInt8) (v : Bool) (w0 : World) (hn : l.length = n) (hr : kStr.Rd w0 w0.heap.size A c l) (v' : Bool) (hv : passB x v l = v') (l' : List (List UInt8)) (hl : dropE x l = l') :
    ∃ A' n' c', l'.length = n' ∧ kStr.Rd w0 w0.heap.size A' c' l' ∧ ∀ w, Below w0.heap.size w0 w → Hid (Calls Try.prog 46 #[.agg #[.bool v, .slice A n c], .string (str x)] w fun e w' => e = .returned (.agg #[.bool v', .slice A' n' c']) ∧ Below w.heap.size w w') := by
  subst hn hl
  obtain ⟨A', c', h1, h2⟩ := passS_reads (x := x) hr
  exact ⟨A', _, c', rfl, h2, fun w hb => rgs_pass A c l.length l x v _ rfl rfl v' hv _ h1 w (hr.call hb)⟩
set_option maxRecDepth 100000 in
set_option maxHeartbeats 8000000 in
theorem rgs_sweep (g : FuncId) (kf : Bool → Bool → Bool) (K : ∀ x y w, Calls Try.prog g #[.bool x, .bool y] w fun e w' => e = .returned (.bool (kf x y)) ∧ w = w') (eg : ∀ args w, (callFunc g args).run Try.prog w = .ok (.enter g args) w)
    (op : Int) (A B : Option Addr) (c d n m : Nat) (a b : List Rng) (hk : ∀ s, kf (hasL a s) (hasL b s) = inV op a b s) (hn : n = a.length) (hm : m = b.length) (hnl : n ≤ 1000) (hml : m ≤ 1000) (w : World) (ha : kRng.Rd w w.heap.size A c a) (hb : kRng.Rd w w.heap.size B d b) :
    Calls Try.prog 31 #[.slice A n c, .slice B m d, .func (.func g) #[] #[]] w (RetR w (makeV op a b)) := by
  obtain ⟨ea, hea⟩ : ∃ ea, edgesR (normV a) = ea := ⟨_, rfl⟩
  obtain ⟨eb, heb⟩ : ∃ eb, edgesR (normV b) = eb := ⟨_, rfl⟩
  obtain ⟨N, hN⟩ : ∃ N, ea.length = N := ⟨_, rfl⟩
  obtain ⟨M, hM⟩ : ∃ M, eb.length = M := ⟨_, rfl⟩
  have hN9 : N ≤ 4004 := by rw [← hN, ← hea]; have := edgesR_len (normV a); have := makeV_len1 a; omega
  have hM9 : M ≤ 4004 := by rw [← hM, ← heb]; have := edgesR_len (normV b); have := makeV_len1 b; omega
  have C1 := fun W h => Lib.hid (rgs_begin_is A c n a hn hnl w ha ea hea N hN W h)
  have C2 := fun W h => Lib.hid (rgs_begin_is B d m b hm hml w hb eb heb M hM W h)
  have HT := Lib.hid (sweep_make op a b (fun s => kf (hasL a s) (hasL b s)) hk (N + M) (by rw [hea, heb, hN, hM]; exact Nat.le_refl _))
  have HS := Lib.hid (SwOk.start a b (N + M) (by rw [hea, heb, hN, hM]; exact Nat.le_refl _))
  have HN := Lib.hid hN
  have HM := Lib.hid hM
  rw [hea, heb] at HT HS
  obtain ⟨T, hT⟩ : ∃ T, makeV op a b = T := ⟨_, rfl⟩
  have HTT := Lib.hid hT
  rw [hT] at HT
  have hb0 := Lib.hid (Below.refl w.heap.size w)
  clear hn hm ha hb hea heb hN hM hnl hml hT hk
  go_enter Try.func31, Try.ntmps31
  go_wp2_with (first
    | ((with_reducible refine (C1 _ hb0.out).out.mono ?_); rintro e w1 ⟨A1, c1, rfl, hrd, hq⟩; have H1 := Lib.hid hrd; replace hb0 := Lib.hid hq; clear hrd hq)
    | ((with_reducible refine (C2 _ hb0.out).out.mono ?_); rintro e w2 ⟨A2, c2, rfl, hrd, hq⟩; have H2 := Lib.hid hrd; have H1 := Lib.hid (H1.out.call hq); have hb1 := Lib.hid (hb0.out.trans (hq.mono hb0.out.size)); clear hrd hq))
  clear C1 C2 hb0
  obtain ⟨f, hf⟩ : ∃ f : List UInt8 → Bool, (fun s => kf (hasL a s) (hasL b s)) = f := ⟨_, rfl⟩
  rw [hf] at HT
  have HF := Lib.hid (fun s => (congrFun hf s).symm)
  clear hf
  go_loopg [9, 10, 11, 12] (N + M + 1) (fun gg s9 s10 s11 s12 wr => ∃ (n' : Nat) (cur : Option (List UInt8)) (x y : Bool) (fa fb : List (List UInt8)) (A7 A8 : Option Addr) (n7 c7 n8 c8 : Nat) (dn : List Rng) (o : Option (List UInt8)),
    Hid (mkR f (restE (N + M) ea eb (some [])) none = dn ++ mkR f (restE n' fa fb cur) o) ∧ Hid (kRng.Own wr (w2.heap.size + 2) s9 (dn ++ pendR o)) ∧ s10 = .bool o.isSome ∧ s11 = .string (curU cur) ∧ s12 = .bool cur.isSome ∧ Hid (SwOk a b n' cur x fa y fb) ∧
    Hid (SdAt wr w2.heap.size x (.slice A7 n7 c7)) ∧ Hid (SdAt wr (w2.heap.size + 1) y (.slice A8 n8 c8)) ∧ Hid (fa.length = n7 ∧ kStr.Rd w2 w2.heap.size A7 c7 fa) ∧ Hid (fb.length = n8 ∧ kStr.Rd w2 w2.heap.size A8 c8 fb) ∧ Hid (Below w2.heap.size w2 wr) ∧ (dn ++ pendR o).length + wtE n' cur ≤ N + M + 1 ∧ wtE n' cur ≤ gg)
  case atStart => exact ⟨N + M, some [], false, false, ea, eb, A1, A2, N, c1, M, c2, [], none, rfl, Kind.Own.nil _ _, rfl, rfl, rfl, HS.out, (sdAt_new w2 _ _ _).below (below_new _ _), sdAt_new1 w2 _ _ _ _, ⟨HN.out, H1.out⟩, ⟨HM.out, H2.out⟩, (below_new w2 _).alloc (by simp) _, by simp [pendR, wtE], Nat.le_refl _⟩
  case round =>
    obtain ⟨n', cur, x, y, fa, fb, A7, A8, n7, c7, n8, c8, dn, o, HL, HO, rfl, rfl, rfl, HOK, H7, H8, HR7, HR8, HBW, hlen, hgg⟩ := hrel
    obtain ⟨n9, hn9⟩ : ∃ n9, (dn ++ pendR o).length = n9 := ⟨_, rfl⟩
    obtain ⟨A9, c9, rfl, -⟩ := HO.out.read_n hn9.symm
    have HN9 := Lib.hid hn9
    rw [hn9] at hlen
    clear hn9
    cases cur with
    | none =>
      have e1 := Lib.hid (HT.out.symm.trans (HL.out.trans (show dn ++ mkR f (restE n' fa fb none) o = dn ++ pendR o by cases o <;> rfl)))
      go_wp2_with fail
      go_ret
      refine ⟨A9, c9, ?_, ?_, hb1.out.trans (HBW.out.mono hb1.out.size)⟩
      · rw [HTT.out, e1.out, HN9.out]; rfl
      · rw [HTT.out, e1.out]; exact HO.out.rd
    | some e =>
      obtain ⟨hok, hwt, hre⟩ := HOK.out.next
      obtain ⟨hv1, hv2⟩ := HOK.out.val
      obtain ⟨x', hx'⟩ : ∃ x', passB e x fa = x' := ⟨_, rfl⟩
      obtain ⟨y', hy'⟩ : ∃ y', passB e y fb = y' := ⟨_, rfl⟩
      obtain ⟨ga, hga⟩ : ∃ ga, dropE e fa = ga := ⟨_, rfl⟩
      obtain ⟨gb, hgb⟩ : ∃ gb, dropE e fb = gb := ⟨_, rfl⟩
      obtain ⟨A3, n3, c3, hn3, hr3, P1⟩ := rgs_pass_is A7 c7 n7 fa e x w2 HR7.out.1 HR7.out.2 x' hx' ga hga
      obtain ⟨A4, n4, c4, hn4, hr4, P2⟩ := rgs_pass_is A8 c8 n8 fb e y w2 HR8.out.1 HR8.out.2 y' hy' gb hgb
      rw [hx', hy', hga, hgb] at hok
      rw [hga, hgb] at hwt hre
      rw [hx'] at hv1
      rw [hy'] at hv2
      have HR3 := Lib.hid (And.intro hn3 hr3)
      have HR4 := Lib.hid (And.intro hn4 hr4)
      have HOK2 := Lib.hid hok
      have HV := Lib.hid (show f e = kf x' y' by rw [HF.out, hv1, hv2])
      have HL2 := Lib.hid (HL.out.trans (by rw [hre]))
      have HWT := Lib.hid hwt
      have hgg2 := show n' + 1 ≤ _ from hgg
      have hln2 : n9 + (n' + 1) ≤ N + M + 1 := hlen
      clear hn3 hr3 hn4 hr4 hok hv1 hv2 hre hwt hx' hy' hga hgb HR7 HR8 HOK HL hlen
      obtain ⟨U, hU⟩ : ∃ U, str e = U := ⟨_, rfl⟩
      have hcu : curU (some e) = U := hU
      rw [hU] at P1 P2
      rw [hcu]
      go_upto_region 7 with fail
      go_cut [] from 18 to 58 (fun wx => Hid (kRng.Own wx (w2.heap.size + 2) (.slice A9 n9 c9) (dn ++ pendR o)) ∧ Hid (SdAt wx w2.heap.size x' (.slice A3 n3 c3)) ∧ Hid (SdAt wx (w2.heap.size + 1) y' (.slice A4 n4 c4)) ∧ Hid (Below w2.heap.size w2 wx))
      case first =>
        obtain ⟨a0, a1, a3⟩ := H7.out
        obtain ⟨b0, b1, b3⟩ := H8.out
        have P1 := fun w h => (P1 w h)
        clear HT HS HTT HF HV HL2 HOK2 HWT HR3 HR4 HN HM H1 H2 HN9
        go_region_with (first
          | ((with_reducible refine (P1 _ (by first | exact HBW.out | exact HBW.out.drew)).out.mono ?_); rintro e w3 ⟨rfl, hq⟩; (try replace hq := below_of_drew hq); clear a0 a1 a3 b0 b1 b3; replace H7 := Lib.hid (H7.out.below hq); replace H8 := Lib.hid (H8.out.below hq); replace HO := Lib.hid (HO.out.below hq); replace HBW := Lib.hid (HBW.out.trans (hq.mono HBW.out.size)); obtain ⟨a0, a1, a3⟩ := H7.out; obtain ⟨b0, b1, b3⟩ := H8.out; clear hq)
          | ((with_reducible refine (P2 _ (by first | exact HBW.out | exact HBW.out.drew)).out.mono ?_); rintro e w4 ⟨rfl, hq⟩; (try replace hq := below_of_drew hq); clear a0 a1 a3 b0 b1 b3; replace H7 := Lib.hid (H7.out.below hq); replace H8 := Lib.hid (H8.out.below hq); replace HO := Lib.hid (HO.out.below hq); replace HBW := Lib.hid (HBW.out.trans (hq.mono HBW.out.size)); obtain ⟨a0, a1, a3⟩ := H7.out; obtain ⟨b0, b1, b3⟩ := H8.out; clear hq))
        all_goals
          go_wp2_with fail
          go_meet
          exact ⟨Lib.hid ((((HO.out.other (grownBy_set _ _ _ _) (by omega)).other (grownBy_set _ _ _ _) (by omega)).other (grownBy_set _ _ _ _) (by omega)).other (grownBy_set _ _ _ _) (by omega)), Lib.hid ((H7.out.set.other (by omega)).other (by omega)), Lib.hid ((H8.out.other (by omega)).other (by omega)).set,
            Lib.hid ((((HBW.out.setCell (p := ⟨w2.heap.size, 0, none⟩) (Nat.le_refl _) _).setCell (p := ⟨w2.heap.size, 1, none⟩) (Nat.le_refl _) _).setCell (p := ⟨w2.heap.size + 1, 0, none⟩) (Nat.le_succ _) _).setCell (p := ⟨w2.heap.size + 1, 1, none⟩) (Nat.le_succ _) _)⟩
      case rest =>
        clear HO H7 H8 HBW P1 P2
        obtain ⟨HO, H7, H8, HBW⟩ := hcut
        obtain ⟨a0, a1, a3⟩ := H7.out
        obtain ⟨b0, b1, b3⟩ := H8.out
        obtain ⟨v, hv⟩ : ∃ v, kf x' y' = v := ⟨_, rfl⟩
        have KC := fun w => Lib.hid (K x' y' w)
        rw [hv] at KC HV
        obtain ⟨U2, hU2⟩ : ∃ U2, nearU ga gb = U2 := ⟨_, rfl⟩
        obtain ⟨v2, hv2⟩ : ∃ v2, (nearE ga gb).isSome = v2 := ⟨_, rfl⟩
        have NE := fun w (h : Below w2.heap.size w2 w) => Lib.hid (rgs_nearest A3 A4 c3 c4 n3 n4 ga gb x' y' HR3.out.1.symm HR4.out.1.symm U2 hU2 v2 hv2 w (HR3.out.2.call h) (HR4.out.2.call h))
        have HU2 := Lib.hid ((nearU_cur ga gb).symm.trans hU2)
        have HV2 := Lib.hid hv2
        have HUU := Lib.hid hU
        clear hv hU2 hv2 hU hcu
        have HE1 := Lib.hid (show f e = false → o = none → dn ++ mkR f (e :: restE (n' - 1) ga gb (nearE ga gb)) o = dn ++ mkR f (restE (n' - 1) ga gb (nearE ga gb)) o from fun h h' => by rw [h', mkR_out h])
        have HE2 := Lib.hid (show ∀ lo, f e = true → o = some lo → dn ++ mkR f (e :: restE (n' - 1) ga gb (nearE ga gb)) o = dn ++ mkR f (restE (n' - 1) ga gb (nearE ga gb)) o from fun lo h h' => by rw [h', mkR_stay h])
        have HE3 := Lib.hid (show f e = true → o = none → dn ++ mkR f (e :: restE (n' - 1) ga gb (nearE ga gb)) o = dn ++ mkR f (restE (n' - 1) ga gb (nearE ga gb)) (some e) from fun h h' => by rw [h', mkR_on h])
        have HE4 := Lib.hid (show ∀ lo, f e = false → o = some lo → dn ++ mkR f (e :: restE (n' - 1) ga gb (nearE ga gb)) o = (dn ++ [⟨lo, e, false⟩]) ++ mkR f (restE (n' - 1) ga gb (nearE ga gb)) none from fun lo h h' => by rw [h', mkR_off h]; simp)
        cases o with
        | none =>
          cases v
          · have HL3 := Lib.hid (HL2.out.trans (HE1.out HV.out rfl))
            clear HE1 HE2 HE3 HE4 HV HL2
            go_wp2_with (first
              | ((with_reducible refine (KC _).out.mono ?_); rintro e5 w5 ⟨rfl, rfl⟩)
              | ((with_reducible refine (NE _ HBW.out).out.mono ?_); rintro e6 w6 ⟨rfl, hq⟩; have HO6 := Lib.hid (HO.out.below hq); have H76 := Lib.hid (H7.out.below hq); have H86 := Lib.hid (H8.out.below hq); have HB6 := Lib.hid (HBW.out.trans (hq.mono HBW.out.size)); clear hq))
            go_roundg (wtE (n' - 1) (nearE ga gb))
            case measure => have := HWT.out; omega
            case rel => exact ⟨n' - 1, nearE ga gb, x', y', ga, gb, A3, A4, n3, c3, n4, c4, dn, none, HL3, HO6, rfl, by rw [HU2.out], by rw [HV2.out], HOK2, H76, H86, HR3, HR4, HB6, by rw [HN9.out]; have := HWT.out; omega, Nat.le_refl _⟩
          · have HL3 := Lib.hid (HL2.out.trans (HE3.out HV.out rfl))
            have HRW := fun w : World => Lib.hid (show RowAt (w.alloc (.cells #[.string U, .string ⟨#[]⟩, .bool true] 35)) (w.heap.size + 1) (some ⟨w.heap.size, 0, none⟩) (kRng.row [⟨e, [], true⟩]) from by have := (rng_row w ⟨e, [], true⟩ 1 rfl).row; rw [HUU.out] at this; exact this)
            have HLE := Lib.hid (show (dn ++ pendR none).length + [(⟨e, [], true⟩ : Rng)].length ≤ 1000000 by rw [HN9.out, List.length_singleton]; omega)
            clear HE1 HE2 HE3 HE4 HV HL2
            go_wp2_with (first
              | ((with_reducible refine (KC _).out.mono ?_); rintro e5 w5 ⟨rfl, rfl⟩)
              | (at_builtin; refine wpList_app_k kRng rfl (.tmp 42) (.tmp 45) rfl (w2.heap.size + 2) _ _ rfl (Kind.Own.alloc HO.out _) _ (some ⟨wc.heap.size, 0, none⟩) 1 1 [⟨e, [], true⟩] rfl rfl (HRW wc).out HLE.out (by decide) (le_alloc (H8.out.lt) _) ?_; intro v3 w3 hown3 hg3 hb3 _; have HO3 := Lib.hid hown3; have HB3 := Lib.hid ((HBW.out.alloc HBW.out.size _).trans (hb3.mono (by omega))); have H73 := Lib.hid (SdAt.low H7.out (w' := w3) hb3 (by omega)); have H83 := Lib.hid (SdAt.low H8.out (w' := w3) hb3 (by omega)); clear a0 a1 a3 b0 b1 b3; obtain ⟨a0, a1, a3⟩ := H73.out; obtain ⟨b0, b1, b3⟩ := H83.out; clear hown3 hg3 hb3)
              | ((with_reducible refine (NE _ HB3.out).out.mono ?_); rintro e6 w6 ⟨rfl, hq⟩; have HO6 := Lib.hid (HO3.out.below hq); have H76 := Lib.hid (H73.out.below hq); have H86 := Lib.hid (H83.out.below hq); have HB6 := Lib.hid (HB3.out.trans (hq.mono HB3.out.size)); clear hq))
            go_roundg (wtE (n' - 1) (nearE ga gb))
            case measure => have := HWT.out; omega
            case rel => exact ⟨n' - 1, nearE ga gb, x', y', ga, gb, A3, A4, n3, c3, n4, c4, dn, some e, HL3, by have h := HO6.out; rw [pendR, List.append_nil] at h; exact h, rfl, by rw [HU2.out], by rw [HV2.out], HOK2, H76, H86, HR3, HR4, HB6, by have h1 := HN9.out; have := HWT.out; simp [pendR] at h1 ⊢; omega, Nat.le_refl _⟩
        | some lo =>
          cases v
          · have HL3 := Lib.hid (HL2.out.trans (HE4.out lo HV.out rfl))
            obtain ⟨D, hD⟩ : ∃ D, dn.length = D := ⟨_, rfl⟩
            obtain rfl : n9 = D + 1 := by rw [← HN9.out, List.length_append, hD]; rfl
            have hga : (dn ++ pendR (some lo))[D]? = some ⟨lo, [], true⟩ := by rw [← hD, List.getElem?_append_right (Nat.le_refl _), Nat.sub_self]; rfl
            obtain ⟨g5, cp5, hv5, hcp, hgb, -, -, -⟩ := HO.out.some_ HN9.out.symm (by omega)
            injection hv5 with hA9 _ hc9
            subst hA9 hc9
            obtain ⟨hg1, hg2, hfz, hcs⟩ := HO.out.at_g HN9.out.symm (by omega)
            have e1 := hcs D _ hga 1 _ rfl
            have e2 := hcs D _ hga 2 _ rfl
            change wc.cell? ⟨g5, D * 3 + 1, none⟩ = _ at e1
            change wc.cell? ⟨g5, D * 3 + 2, none⟩ = _ at e2
            have hD8 : D ≤ 10000 := by omega
            have HOF := Lib.hid (own_last HO.out HN9.out.symm hD e U HUU.out false false rfl)
            have HBF := Lib.hid ((HBW.out.setCell (p := ⟨g5, D * 3 + 1, none⟩) (by show w2.heap.size ≤ g5; omega) (.string U)).setCell (p := ⟨g5, D * 3 + 2, none⟩) (by show w2.heap.size ≤ g5; omega) (.bool false))
            have H7F := Lib.hid ((H7.out.other (g' := g5) (k := D * 3 + 1) (u := .string U) (by omega)).other (g' := g5) (k := D * 3 + 2) (u := .bool false) (by omega))
            have H8F := Lib.hid ((H8.out.other (g' := g5) (k := D * 3 + 1) (u := .string U) (by omega)).other (g' := g5) (k := D * 3 + 2) (u := .bool false) (by omega))
            have HDD := Lib.hid hD
            clear HE1 HE2 HE3 HE4 HV HL2 hcs hga hD
            obtain ⟨f0, f1, -⟩ := H7F.out
            obtain ⟨f2, f3, -⟩ := H8F.out
            go_wp2_with (first
              | ((with_reducible refine (KC _).out.mono ?_); rintro e5 w5 ⟨rfl, rfl⟩)
              | ((with_reducible refine (NE _ HBF.out).out.mono ?_); rintro e6 w6 ⟨rfl, hq⟩; have HO6 := Lib.hid (HOF.out.below hq); have H76 := Lib.hid (H7F.out.below hq); have H86 := Lib.hid (H8F.out.below hq); have HB6 := Lib.hid (HBF.out.trans (hq.mono HBF.out.size)); clear hq))
            go_roundg (wtE (n' - 1) (nearE ga gb))
            case measure => have := HWT.out; omega
            case rel => exact ⟨n' - 1, nearE ga gb, x', y', ga, gb, A3, A4, n3, c3, n4, c4, dn ++ [⟨lo, e, false⟩], none, HL3, by rw [pendR, List.append_nil]; exact HO6.out, rfl, by rw [HU2.out], by rw [HV2.out], HOK2, H76, H86, HR3, HR4, HB6, by have h1 := HDD.out; have := HWT.out; simp [pendR]; omega, Nat.le_refl _⟩
          · have HL3 := Lib.hid (HL2.out.trans (HE2.out lo HV.out rfl))
            clear HE1 HE2 HE3 HE4 HV HL2
            go_wp2_with (first
              | ((with_reducible refine (KC _).out.mono ?_); rintro e5 w5 ⟨rfl, rfl⟩)
              | ((with_reducible refine (NE _ HBW.out).out.mono ?_); rintro e6 w6 ⟨rfl, hq⟩; have HO6 := Lib.hid (HO.out.below hq); have H76 := Lib.hid (H7.out.below hq); have H86 := Lib.hid (H8.out.below hq); have HB6 := Lib.hid (HBW.out.trans (hq.mono HBW.out.size)); clear hq))
            go_roundg (wtE (n' - 1) (nearE ga gb))
            case measure => have := HWT.out; omega
            case rel => exact ⟨n' - 1, nearE ga gb, x', y', ga, gb, A3, A4, n3, c3, n4, c4, dn, some lo, HL3, HO6, rfl, by rw [HU2.out], by rw [HV2.out], HOK2, H76, H86, HR3, HR4, HB6, by rw [HN9.out]; have := HWT.out; omega, Nat.le_refl _⟩
end Go.Proofs.Ytgoenmgkhdibnaa
