/-
  Several texts in one: IcdG, IcdH, IcdI, IcdC, IcdD, IcdE, IcdF, BytRet, Law19A, Law19B, Law19C, Law19D.
-/
import Derived.Deep.RegionLaw
import Derived.Test.YtfpgklpnpplnnaaMg7
namespace Go.Proofs.Ytfpgklpnpplnnaa
open Go.RowKit

theorem restB_puts (x : Itm) : restB x = putsV [x.ver.rep, x.ver.cnt, x.rank, x.prio, (deadN x.dead : Int)] ++ txtB x.body := by
  simp only [restB, putsV, List.flatMap_cons, List.flatMap_nil, List.append_nil, List.append_assoc, Int.toNat_natCast]
theorem five_row (w : World) (a b c d e : Int) : RowAt (w.alloc (.cells #[.int .i64 a, .int .i64 b, .int .i64 c, .int .i64 d, .int .i64 e] 3)) (w.alloc (.cells #[.int .i64 a, .int .i64 b, .int .i64 c, .int .i64 d, .int .i64 e] 3)).heap.size (some ⟨w.heap.size, 0, none⟩) (ints [a, b, c, d, e]) := by
  rw [show (w.alloc (.cells #[.int .i64 a, .int .i64 b, .int .i64 c, .int .i64 d, .int .i64 e] 3)).heap.size = w.heap.size + 1 from by simp]
  exact RowAt.of_block (heap_new w (.cells #[.int .i64 a, .int .i64 b, .int .i64 c, .int .i64 d, .int .i64 e] 3) _ rfl)
theorem put_five (a b c d e : Int) (h : ∀ x ∈ [a, b, c, d, e], 0 ≤ x ∧ x ≤ 281474976710656) (Y : List UInt8) (hY : putsV [a, b, c, d, e] = Y) (w : World) (g : Nat) (hg : w.heap.size = g) :
    Calls Try.prog 46 #[.slice (some ⟨g, 0, none⟩) 5 5] (w.alloc (.cells #[.int .i64 a, .int .i64 b, .int .i64 c, .int .i64 d, .int .i64 e] 3)) (RetB w.heap.size w Y) := by
  subst hg hY
  simp only [List.mem_cons, List.not_mem_nil, or_false, forall_eq_or_imp, forall_eq] at h
  exact (ref_vput (some ⟨w.heap.size, 0, none⟩) 5 5 [a, b, c, d, e] (w.alloc (.cells #[.int .i64 a, .int .i64 b, .int .i64 c, .int .i64 d, .int .i64 e] 3)) rfl (five_row w a b c d e) (by simp [okL, okN, h]) (by simp)).mono
    fun _ _ ⟨v, h1, h2, h3⟩ => ⟨v, h1, h2.mono (by simp), (below_new w _).trans (h3.mono (by simp))⟩
theorem restB_len {x : Itm} (h : rightI x = true) : (restB x).length ≤ 200 := by
  obtain ⟨-, -, h3, h4, h5, h6, h7, h8, -⟩ := rightI_iff.1 h
  obtain ⟨v1, v2, v3, v4⟩ := rightVr_nums h3
  have p1 := putV_len10 x.ver.rep.toNat (by omega)
  have p2 := putV_len10 x.ver.cnt.toNat (by omega)
  have p3 := putV_len10 x.rank.toNat (by omega)
  have p4 := putV_len10 x.prio.toNat (by omega)
  have p5 := putV_len10 (deadN x.dead) (by have := deadN_le x.dead; omega)
  have p6 := putV_len10 x.body.length (by omega)
  unfold restB txtB
  simp only [List.length_append]
  omega
set_option maxRecDepth 100000 in
set_option maxHeartbeats 4000000 in
theorem ref_irest (x : Itm) (hx : rightI x = true) (K : ByteArray) (r c k p : Int) (d : Bool) (B : ByteArray) (hI : IsI x K r c k p d B) (w : World) :
    Calls Try.prog 28 #[itV K r c k p d B] w (RetB w.heap.size w (restB x)) := by
  obtain ⟨-, -, h3, h4, h5, h6, h7, h8, -⟩ := rightI_iff.1 hx
  obtain ⟨v1, v2, v3, v4⟩ := rightVr_nums h3
  obtain ⟨-, rfl, rfl, rfl, rfl, rfl, hB⟩ := hI
  obtain ⟨D, hD⟩ : ∃ D : Int, (deadN x.dead : Int) = D := ⟨_, rfl⟩
  obtain ⟨Y, hY⟩ : ∃ Y, putsV [x.ver.rep, x.ver.cnt, x.rank, x.prio, D] = Y := ⟨_, rfl⟩
  obtain ⟨V, hV⟩ : ∃ V, txtB x.body = V := ⟨_, rfl⟩
  have HX := Lib.hid (show restB x = Y ++ V by rw [restB_puts, hD, hY, hV])
  have hlen := restB_len hx
  rw [HX.out, List.length_append] at hlen
  have hd1 := deadN_le x.dead
  have P1 := fun w g hg => Lib.hid (put_five x.ver.rep x.ver.cnt x.rank x.prio D (by
    intro z hz
    simp only [List.mem_cons, List.not_mem_nil, or_false] at hz
    rcases hz with rfl | rfl | rfl | rfl | rfl <;> omega) Y hY w g hg)
  have P2 := fun w => Lib.hid (ref_vtext x.body B hB (by omega) w)
  rw [hV] at P2
  obtain ⟨NV, hNV⟩ : ∃ NV, NV = V.length := ⟨_, rfl⟩
  have HNV := Lib.hid hNV
  have HL := Lib.hid (show Y.length + V.length ≤ 140737488355328 by omega)
  have HI := Lib.hid (itAt_new w K x.ver.rep x.ver.cnt x.rank x.prio x.dead B)
  have HB0 := Lib.hid (below_new w (itO K x.ver.rep x.ver.cnt x.rank x.prio x.dead B))
  rw [HX.out]
  generalize x.ver.rep = r at *
  generalize x.ver.cnt = c at *
  generalize x.rank = k at *
  generalize x.prio = p at *
  generalize hdd : x.dead = d at *
  have HD := Lib.hid hD
  clear hD hB hY hV hNV hlen hx h3 h4 h5 h6 h7 h8 v1 v2 v3 v4 hd1 HX
  cases d
  case' true => obtain rfl : 1 = D := HD.out
  case' false => obtain rfl : 0 = D := HD.out
  all_goals
    go_enter Try.func28, Try.ntmps28
    go_wp2_with (first
      | ((with_reducible refine (P1 _ _ (by simp)).out.mono ?_); rintro e w1 ⟨v1, rfl, hown, hq⟩; have HO1 := Lib.hid hown; have HI1 := Lib.hid (HI.out.below hq); have HB1 := Lib.hid (HB0.out.trans (hq.mono (by simp))); obtain ⟨u0, u1, u2, u3, u4, u5, u6⟩ := HI1.out; clear hown hq)
      | ((with_reducible refine (P2 _).out.mono ?_); rintro e w2 ⟨v2, rfl, hown, hq⟩; obtain ⟨A8, c8, rfl, hr8⟩ := hown.read_n HNV.out; have HR8 := Lib.hid hr8.row; have HO2 := Lib.hid ((HO1.out.mono (show w.heap.size ≤ (w.alloc (itO K r c k p _ B)).heap.size by simp)).below hq); have HB2 := Lib.hid (HB1.out.trans (hq.mono HB1.out.size)); clear hown hq hr8)
      | (at_builtin; refine wpList_app_row rfl (.tmp 20) (.tmp 23) rfl w.heap.size _ Y rfl HO2.out _ A8 c8 NV V HNV.out rfl HR8.out HL.out HB2.out.size ?_; intro v5 w5 hown5 hg5 hb5 _; have HO5 := Lib.hid hown5; have HB5 := Lib.hid (HB2.out.trans hb5); clear hown5 hg5 hb5))
    go_ret
    exact ⟨_, rfl, HO5.out, HB5.out⟩
end Go.Proofs.Ytfpgklpnpplnnaa

namespace Go.Proofs.Ytfpgklpnpplnnaa
open Go.RowKit

theorem itemB_len {x : Itm} (h : rightI x = true) : (itemB x).length ≤ 300 := by
  obtain ⟨h1, h2, -⟩ := rightI_iff.1 h
  have h3 := restB_len h
  have h4 := putV_len10 x.key.length (by omega)
  unfold itemB txtB
  simp only [List.length_append]
  omega
set_option maxRecDepth 100000 in
set_option maxHeartbeats 4000000 in
theorem ref_iitem (x : Itm) (hx : rightI x = true) (K : ByteArray) (r c k p : Int) (d : Bool) (B : ByteArray) (hI : IsI x K r c k p d B) (w : World) :
    Calls Try.prog 13 #[itV K r c k p d B] w (RetB w.heap.size w (itemB x)) := by
  obtain ⟨h1, h2, -⟩ := rightI_iff.1 hx
  obtain ⟨Y, hY⟩ : ∃ Y, txtB x.key = Y := ⟨_, rfl⟩
  obtain ⟨V, hV⟩ : ∃ V, restB x = V := ⟨_, rfl⟩
  have HX := Lib.hid (show itemB x = Y ++ V by rw [← hY, ← hV]; rfl)
  have hlen := itemB_len hx
  rw [HX.out, List.length_append] at hlen
  have P1 := fun w => Lib.hid (ref_vtext x.key K hI.key (by omega) w)
  rw [hY] at P1
  have P2 := fun w => Lib.hid (ref_irest x hx K r c k p d B hI w)
  rw [hV] at P2
  obtain ⟨NV, hNV⟩ : ∃ NV, NV = V.length := ⟨_, rfl⟩
  have HNV := Lib.hid hNV
  have HL := Lib.hid (show Y.length + V.length ≤ 140737488355328 by omega)
  have HI := Lib.hid (itAt_new w K r c k p d B)
  have HB0 := Lib.hid (below_new w (itO K r c k p d B))
  rw [HX.out]
  clear hI hY hV hNV hlen hx h1 h2 HX
  go_enter Try.func13, Try.ntmps13
  go_wp2_with (first
    | ((with_reducible refine (P1 _).out.mono ?_); rintro e w1 ⟨v1, rfl, hown, hq⟩; have HO1 := Lib.hid (hown.mono (show w.heap.size ≤ (w.alloc (itO K r c k p d B)).heap.size by simp)); have HI1 := Lib.hid (HI.out.below hq); have HB1 := Lib.hid (HB0.out.trans (hq.mono (by simp))); obtain ⟨u0, u1, u2, u3, u4, u5, u6⟩ := HI1.out; clear hown hq)
    | ((with_reducible refine (P2 _).out.mono ?_); rintro e w2 ⟨v2, rfl, hown, hq⟩; obtain ⟨A8, c8, rfl, hr8⟩ := hown.read_n HNV.out; have HR8 := Lib.hid hr8.row; have HO2 := Lib.hid (HO1.out.below hq); have HB2 := Lib.hid (HB1.out.trans (hq.mono HB1.out.size)); clear hown hq hr8)
    | (at_builtin; refine wpList_app_row rfl (.tmp 7) (.tmp 9) rfl w.heap.size _ Y rfl HO2.out _ A8 c8 NV V HNV.out rfl HR8.out HL.out HB2.out.size ?_; intro v5 w5 hown5 hg5 hb5 _; have HO5 := Lib.hid hown5; have HB5 := Lib.hid (HB2.out.trans hb5); clear hown5 hg5 hb5))
  go_ret
  exact ⟨_, rfl, HO5.out, HB5.out⟩
def wasK : List UInt8 → List Itm → List UInt8
  | was, [] => was
  | _, x :: l => wasK x.key l
theorem wasK_snoc : ∀ (l : List Itm) (was : List UInt8) (x : Itm), wasK was (l ++ [x]) = x.key
  | [], _, _ => rfl
  | _ :: l, _, x => wasK_snoc l _ x
theorem listB_append : ∀ (a b : List Itm) (was : List UInt8), listB was (a ++ b) = listB was a ++ listB (wasK was a) b
  | [], _, _ => rfl
  | x :: a, b, was => by rw [List.cons_append, listB, listB, listB_append a b, wasK]; simp only [List.append_assoc]
theorem wasK_len : ∀ {l : List Itm} {was : List UInt8}, was.length ≤ 16 → (∀ x ∈ l, rightI x = true) → (wasK was l).length ≤ 16
  | [], _, h, _ => h
  | x :: l, _, _, h => wasK_len (l := l) (rightI_iff.1 (h x (List.mem_cons_self ..))).2.1 fun y hy => h y (List.mem_cons_of_mem _ hy)
theorem listB_next {l : List Itm} {k : Nat} {x : Itm} (h : l[k]? = some x) : listB [] (l.take (k + 1)) = listB [] (l.take k) ++ (putV (alikeN (wasK [] (l.take k)) x.key) ++ (txtB (x.key.drop (alikeN (wasK [] (l.take k)) x.key)) ++ restB x)) := by
  rw [List.take_add_one, h, listB_append]
  show _ ++ (putV _ ++ (txtB _ ++ (restB x ++ []))) = _
  rw [List.append_nil]
theorem listB_len : ∀ {l : List Itm} {was : List UInt8}, was.length ≤ 16 → (∀ x ∈ l, rightI x = true) → (listB was l).length ≤ 300 * l.length
  | [], _, _, _ => by simp [listB]
  | x :: l, was, hw, h => by
    have hx := h x (List.mem_cons_self ..)
    have h2 := (rightI_iff.1 hx).2.1
    have ih := listB_len (l := l) (was := x.key) h2 fun y hy => h y (List.mem_cons_of_mem _ hy)
    have h3 := restB_len hx
    have ha := alikeN_le was x.key
    have p1 := putV_len10 (alikeN was x.key) (by omega)
    have p2 := putV_len10 (x.key.drop (alikeN was x.key)).length (by rw [List.length_drop]; omega)
    have p3 : (x.key.drop (alikeN was x.key)).length ≤ 16 := by rw [List.length_drop]; omega
    rw [listB]
    unfold txtB
    simp only [List.length_append, List.length_cons]
    omega
theorem run_str_drop {P : Program} {t : TypeId} (ht : P.underlying t = some .string) (l : List UInt8) (S U : ByteArray) (hS : str l = S) (k : Nat) (hk : k ≤ l.length) (hU : str (l.drop k) = U) (w : World) :
    (Instr.slice t (.string S) (some (.int .i64 (k : Int))) none none).run P w = .ok (.string U) w := by
  subst hS hU
  rw [run_slice_string_from_if w t (str l) .i64 (k : Int) ht, if_pos (by rw [str_size]; omega)]
  show Result.ok (Value.string ((str l).extract k (str l).size)) w = _
  rw [str_size, str_drop]
def ItC (w : World) (b o : Nat) (K : ByteArray) (r c k p : Int) (d : Bool) (B : ByteArray) : Prop := w.cell? ⟨b, o, none⟩ = some (.string K) ∧ w.cell? ⟨b, o + 1, none⟩ = some (.int .i64 r) ∧ w.cell? ⟨b, o + 2, none⟩ = some (.int .i64 c) ∧ w.cell? ⟨b, o + 3, none⟩ = some (.int .i64 k) ∧ w.cell? ⟨b, o + 4, none⟩ = some (.int .i64 p) ∧ w.cell? ⟨b, o + 5, none⟩ = some (.bool d) ∧ w.cell? ⟨b, o + 6, none⟩ = some (.string B)
theorem ItC.below {w w' : World} {b o M : Nat} {K : ByteArray} {r c k p : Int} {d : Bool} {B : ByteArray} (h : ItC w b o K r c k p d B) (hb : Below M w w') (hM : b < M) : ItC w' b o K r c k p d B := by
  obtain ⟨h0, h1, h2, h3, h4, h5, h6⟩ := h
  have hc := (bcell hb).1
  exact ⟨(hc _ _ hM).trans h0, (hc _ _ hM).trans h1, (hc _ _ hM).trans h2, (hc _ _ hM).trans h3, (hc _ _ hM).trans h4, (hc _ _ hM).trans h5, (hc _ _ hM).trans h6⟩
end Go.Proofs.Ytfpgklpnpplnnaa

namespace Go.Proofs.Ytfpgklpnpplnnaa
open Go.RowKit

theorem al_row (w : World) (n : Nat) (h : n < 128) (z : Int) (hz : z = (n : Int)) : RowAt (w.alloc (.cells #[.int .u8 z] 5)) (w.heap.size + 1) (some ⟨w.heap.size, 0, none⟩) (bytes (putV n)) := by
  subst hz
  have hb := RowAt.of_block (heap_new w (.cells #[.int .u8 (n : Int)] 5) _ rfl)
  rw [putV_small h]
  have e : bytes [UInt8.ofNat n] = [Value.int .u8 (n : Int)] := by
    have : (UInt8.ofNat n).toNat = n := by simp; omega
    simp [bytes, this]
  rw [e]
  exact hb
set_option maxRecDepth 100000 in
set_option maxHeartbeats 8000000 in
theorem ref_iitems (A : Option Addr) (c n : Nat) (l : List Itm) (hn : n = l.length) (hn9 : n ≤ 100000) (hx : ∀ x ∈ l, rightI x = true) (w : World) (hr : kItm.Rd w w.heap.size A c l) :
    Calls Try.prog 16 #[.slice A n c] w (RetB w.heap.size w (itemsB l)) := by
  have HN := Lib.hid hn
  have HR := Lib.hid hr
  have HX := Lib.hid hx
  have hmx := rd_maxI hr hn
  have hcx : n ≤ c := by rw [hn]; exact hr.room
  have hb := fun w1 => Lib.hid (ref_bytes n n w1 (Nat.le_refl _) (by omega))
  have HP9 := Lib.hid (putV_len10 n (by omega))
  show Calls _ _ _ _ (RetB w.heap.size w (putV l.length ++ listB [] l))
  rw [← hn]
  clear hn hr hx
  go_enter Try.func16, Try.ntmps16
  go_wp2_with ((with_reducible refine (hb _).out.mono ?_); rintro e w1 ⟨v1, rfl, hown1, hb1⟩; have HO1 := Lib.hid hown1; have HB1 := Lib.hid hb1; clear hown1 hb1)
  clear hb
  go_loopw [3, 4, 5] (fun v sv i wr => ∃ (k : Nat) (U : ByteArray), k ≤ n ∧ i = .int .i64 k ∧ sv = .string U ∧ Hid (str (wasK [] (l.take k)) = U) ∧ Hid (OwnB wr w.heap.size v (putV n ++ listB [] (l.take k))) ∧ Hid (Below w.heap.size w wr)) (fun _ _ i _ => n - (intOf i).toNat)
  case atStart => exact ⟨0, ⟨#[]⟩, by omega, rfl, rfl, rfl, by rw [List.take_zero]; show OwnB _ _ _ (_ ++ []); rw [List.append_nil]; exact HO1.out, HB1⟩
  case round =>
    clear HO1 HB1
    obtain ⟨k, U, hk, rfl, rfl, HU, HO, HB⟩ := hrel
    by_cases hlt : k < n
    · obtain ⟨x, hg, hd, hxm⟩ := get_some (l := l) (k := k) (by have := HN.out; omega)
      obtain ⟨b, o, rfl, hb1, hcell⟩ := itms_at HR.out (by have := HN.out; omega)
      obtain ⟨X, r, c', kk, p, d, S, hI⟩ : ∃ K r c k p d B, IsI x K r c k p d B := ⟨_, _, _, _, _, _, _, IsI.mk' x⟩
      have HC0 : Hid (ItC w b (o + k * 7) X r c' kk p d S) := by
        have h := hcell k x hg
        rw [hI.key, hI.rep, hI.cnt, hI.rank, hI.prio, hI.dead, hI.body] at h
        exact h
      have hxr := HX.out x hxm
      obtain ⟨h1, h2, -⟩ := rightI_iff.1 hxr
      have hwl : (wasK [] (l.take k)).length ≤ 16 := wasK_len (by simp) fun y hy => HX.out y (List.mem_of_mem_take hy)
      have hll := listB_len (l := l.take k) (was := []) (by simp) fun y hy => HX.out y (List.mem_of_mem_take hy)
      have hlk : (l.take k).length ≤ k := by rw [List.length_take]; omega
      obtain ⟨M, hM⟩ : ∃ M, putV n ++ listB [] (l.take k) = M := ⟨_, rfl⟩
      have hMl : M.length ≤ 30000100 := by rw [← hM, List.length_append]; have := HP9.out; omega
      obtain ⟨was, hwas⟩ : ∃ was, wasK [] (l.take k) = was := ⟨_, rfl⟩
      have HNX := Lib.hid (listB_next hg)
      have HWN := Lib.hid (show wasK [] (l.take (k + 1)) = x.key by rw [List.take_add_one, hg]; exact wasK_snoc _ _ _)
      rw [hwas] at HU hwl HNX
      obtain ⟨al, hal⟩ : ∃ al, alikeN was x.key = al := ⟨_, rfl⟩
      have hal2 := alikeN_le was x.key
      rw [hal] at HNX hal2
      obtain ⟨TD, hTD⟩ : ∃ TD, str (x.key.drop al) = TD := ⟨_, rfl⟩
      obtain ⟨Y1, hY1⟩ : ∃ Y, putV al = Y := ⟨_, rfl⟩
      obtain ⟨Y2, hY2⟩ : ∃ Y, txtB (x.key.drop al) = Y := ⟨_, rfl⟩
      obtain ⟨Y3, hY3⟩ : ∃ Y, restB x = Y := ⟨_, rfl⟩
      have hl1 : Y1.length ≤ 20 := by rw [← hY1]; have := putV_len10 al (by omega); omega
      have hl2 : Y2.length ≤ 100 := by
        rw [← hY2]; unfold txtB; rw [List.length_append, List.length_drop]
        have := putV_len10 (x.key.length - al) (by omega)
        omega
      have hl3 : Y3.length ≤ 200 := by rw [← hY3]; exact restB_len hxr
      rw [hY1, hY2, hY3] at HNX
      have HNX2 := Lib.hid (show putV n ++ listB [] (l.take (k + 1)) = M ++ Y1 ++ Y2 ++ Y3 by rw [HNX.out, ← hM]; simp only [List.append_assoc])
      have CA := fun w => Lib.hid (ref_ialike was x.key U X HU.out hI.key (by omega) al hal w)
      have KS := fun w => run_str_drop (P := Try.prog) Try.underlying9 x.key X TD hI.key al (by omega) hTD w
      have CT := fun w => Lib.hid (ref_vtext (x.key.drop al) TD hTD (by rw [List.length_drop]; omega) w)
      rw [hY2] at CT
      have CE := fun w => Lib.hid (ref_irest x hxr X r c' kk p d S hI w)
      rw [hY3] at CE
      have hw8 : IntKind.u8.wrap (al : Int) = (al : Int) := IntWalk.u8_in _ (by omega)
      have BR := Lib.hid (fun w => hY1 ▸ al_row w al (by omega) (al : Int) rfl)
      obtain ⟨N1, hN1⟩ : ∃ N, N = Y1.length := ⟨_, rfl⟩
      have HN1 := Lib.hid hN1
      have HY11 := Lib.hid (show 1 = Y1.length by rw [← hY1, putV_small (by omega)]; rfl)
      obtain ⟨N2, hN2⟩ : ∃ N, N = Y2.length := ⟨_, rfl⟩
      have HN2 := Lib.hid hN2
      obtain ⟨N3, hN3⟩ : ∃ N, N = Y3.length := ⟨_, rfl⟩
      have HN3 := Lib.hid hN3
      have HL1 := Lib.hid (show M.length + Y1.length ≤ 140737488355328 by omega)
      have HL2 := Lib.hid (show (M ++ Y1).length + Y2.length ≤ 140737488355328 by rw [List.length_append]; omega)
      have HL3 := Lib.hid (show (M ++ Y1 ++ Y2).length + Y3.length ≤ 140737488355328 by rw [List.length_append, List.length_append]; omega)
      have HKX := Lib.hid hI.key
      have HBB := Lib.hid hb1
      have hk0 : (0 : Int) ≤ (k : Int) := by omega
      have hkn : (k : Int) < (n : Int) := by omega
      rw [hM] at HO
      have HCc := Lib.hid (HC0.out.below HB.out hb1)
      obtain ⟨p0, p1, p2, p3, p4, p5, p6⟩ := HCc.out
      clear hcell hg hd hxm hI hxr h1 h2 hwl hll hlk hM hMl hwas HNX hal hal2 hTD hY1 hY2 hY3 hl1 hl2 hl3 hN1 hN2 hN3 hb1
      go_wp2_with (first
        | ((with_reducible refine (CA _).out.mono ?_); rintro e w2 ⟨rfl, hq⟩; have HO2 := Lib.hid (HO.out.below hq); have HB2 := Lib.hid (HB.out.trans (hq.mono HB.out.size)); clear hq)
        | (at_builtin; refine wpList_app_row rfl (.tmp 23) (.tmp 26) rfl w.heap.size _ M rfl (HO2.out.alloc _) _ (some ⟨w2.heap.size, 0, none⟩) 1 1 Y1 HY11.out rfl (BR.out w2) HL1.out (it_alloc HB2.out.size _) ?_; intro v3 w3 hown3 _ hb3 _; have HO3 := Lib.hid hown3; have HB3 := Lib.hid ((HB2.out.alloc HB2.out.size _).trans hb3); have HC3 := Lib.hid (HC0.out.below HB3.out HBB.out); clear hown3 hb3 p0 p1 p2 p3 p4 p5 p6; obtain ⟨p0, p1, p2, p3, p4, p5, p6⟩ := HC3.out)
        | ((with_reducible refine (CT _).out.mono ?_); rintro e w4 ⟨v4, rfl, hown, hq⟩; obtain ⟨A4, c4, rfl, hr4⟩ := hown.read_n HN2.out; have HR4 := Lib.hid hr4.row; have HO4 := Lib.hid (HO3.out.below hq); have HB4 := Lib.hid (HB3.out.trans (hq.mono HB3.out.size)); clear hown hq hr4)
        | (at_builtin; refine wpList_app_row rfl (.tmp 28) (.tmp 36) rfl w.heap.size _ (M ++ Y1) rfl HO4.out _ A4 c4 N2 Y2 HN2.out rfl HR4.out HL2.out HB4.out.size ?_; intro v5 w5 hown5 _ hb5 _; have HO5 := Lib.hid hown5; have HB5 := Lib.hid (HB4.out.trans hb5); have HC5 := Lib.hid (HC0.out.below HB5.out HBB.out); clear hown5 hb5 p0 p1 p2 p3 p4 p5 p6; obtain ⟨p0, p1, p2, p3, p4, p5, p6⟩ := HC5.out)
        | ((with_reducible refine (CE _).out.mono ?_); rintro e w6 ⟨v6, rfl, hown, hq⟩; obtain ⟨A6, c6, rfl, hr6⟩ := hown.read_n HN3.out; have HR6 := Lib.hid hr6.row; have HO6 := Lib.hid (HO5.out.below hq); have HB6 := Lib.hid (HB5.out.trans (hq.mono HB5.out.size)); clear hown hq hr6)
        | (at_builtin; refine wpList_app_row rfl (.tmp 38) (.tmp 43) rfl w.heap.size _ (M ++ Y1 ++ Y2) rfl HO6.out _ A6 c6 N3 Y3 HN3.out rfl HR6.out HL3.out HB6.out.size ?_; intro v7 w7 hown7 _ hb7 _; have HO7 := Lib.hid hown7; have HB7 := Lib.hid (HB6.out.trans hb7); have HC7 := Lib.hid (HC0.out.below HB7.out HBB.out); clear hown7 hb7 p0 p1 p2 p3 p4 p5 p6; obtain ⟨p0, p1, p2, p3, p4, p5, p6⟩ := HC7.out))
      go_roundw
      case rel => exact ⟨k + 1, X, by omega, by go_num, rfl, by rw [HWN.out]; exact HKX.out, by rw [HNX2.out]; exact HO7.out, HB7⟩
      case measure => simp [intOf]; omega
    · have hkn : l.take k = l := List.take_of_length_le (by have := HN.out; omega)
      rw [hkn] at HO
      go_wp2_with fail
      go_ret
      exact ⟨_, rfl, HO.out, HB.out⟩
end Go.Proofs.Ytfpgklpnpplnnaa

namespace Go.Proofs.Ytfpgklpnpplnnaa
open Go.RowKit

set_option maxRecDepth 100000 in
set_option maxHeartbeats 8000000 in
theorem ref_imore (M B a0 N c : Nat) (A : Option Addr) (b l0 r0 key : List UInt8) (K : ByteArray) (hK : str key = K) (e0 e2 : Int) (y : Itm) (hN : N = b.length) (hN9 : N ≤ 1000000) (hs : moreR key l0 e0 = (y, r0, e2)) (hla : l0 = b.drop a0) (ha0 : a0 ≤ N) (hB : B ≤ M) (Y : ByteArray) (y1 y2 y3 y4 : Int) (d : Bool) (S : ByteArray) (hy : IsI y Y y1 y2 y3 y4 d S) (w : World) (hf0 : RfAt w M A N c a0 e0) (hr : RdB w B A c b) :
    Calls Try.prog 35 #[.pointer (some ⟨M, 0, none⟩), .string K] w fun x w' => ∃ a', x = .returned (itV Y y1 y2 y3 y4 d S) ∧ a' ≤ N ∧ r0 = b.drop a' ∧ RfAt w' M A N c a' e2 ∧ w.grownBy w' (some M) := by
  have hMw := hf0.lt
  obtain ⟨n1, q1, x1, h1⟩ : ∃ u v z, withinR 1 16 l0 e0 = (u, v, z) := ⟨_, _, _, rfl⟩
  obtain ⟨n2, q2, x2, h2⟩ : ∃ u v z, withinR 1 1099511627776 q1 x1 = (u, v, z) := ⟨_, _, _, rfl⟩
  obtain ⟨n3, q3, x3, h3⟩ : ∃ u v z, withinR 1 1099511627776 q2 x2 = (u, v, z) := ⟨_, _, _, rfl⟩
  obtain ⟨n4, q4, x4, h4⟩ : ∃ u v z, withinR 0 255 q3 x3 = (u, v, z) := ⟨_, _, _, rfl⟩
  obtain ⟨n5, q5, x5, h5⟩ : ∃ u v z, withinR 0 1 q4 x4 = (u, v, z) := ⟨_, _, _, rfl⟩
  obtain ⟨s6, q6, x6, h6⟩ : ∃ u v z, textR 64 q5 x5 = (u, v, z) := ⟨_, _, _, rfl⟩
  obtain ⟨rfl, rfl, rfl⟩ : y = ⟨key, ⟨n1, n2⟩, n3, n4, decide (n5 = 1), s6⟩ ∧ r0 = q6 ∧ e2 = x6 := by
    have h := hs
    unfold moreR at h
    rw [h1] at h
    simp only at h
    rw [h2] at h
    simp only at h
    rw [h3] at h
    simp only at h
    rw [h4] at h
    simp only at h
    rw [h5] at h
    simp only at h
    rw [h6] at h
    simp only [Prod.mk.injEq] at h
    exact ⟨h.1.symm, h.2.1.symm, h.2.2.symm⟩
  obtain ⟨i0, i1, i2, i3, i4, i5, i6⟩ := hy
  obtain rfl : K = Y := hK.symm.trans i0
  subst i1 i2 i3 i4
  have hd : ((n5 : Int) == 1) = d := by rw [← i5]; exact Bool.eq_iff_iff.2 (by simp; omega)
  clear i5 i0
  have TW := Lib.hid (fun (w' : World) (a' : Nat) (l' : List UInt8) (e' : Int) (lo hi : Int) (n : Nat) (r : List UInt8) (x : Int) (hw : withinR lo hi l' e' = (n, r, x)) (hl' : l' = b.drop a') (ha' : a' ≤ N) (hf : RfAt w' M A N c a' e') (hk : w.grownBy w' (some M)) => Lib.hid (rf_within_q hN hw hl' hf (hr.grown hk hB (by omega)) ha' (by omega)))
  have TT := Lib.hid (fun (w' : World) (a' : Nat) (l' : List UInt8) (e' : Int) (most : Int) (s : List UInt8) (S : ByteArray) (r : List UInt8) (x : Int) (hw : textR most l' e' = (s, r, x)) (hS : str s = S) (hl' : l' = b.drop a') (ha' : a' ≤ N) (hf : RfAt w' M A N c a' e') (hk : w.grownBy w' (some M)) => Lib.hid (rf_text_q hN hw hS hl' hf (hr.grown hk hB (by omega)) ha' hB (by omega)))
  obtain ⟨G, hG⟩ : ∃ G, w.heap.size = G := ⟨_, rfl⟩
  obtain ⟨w0, hw0⟩ : ∃ w0, w0 = (w.alloc (itO ⟨#[]⟩ 0 0 0 0 false ⟨#[]⟩)).alloc (itO K 0 0 0 0 false ⟨#[]⟩) := ⟨_, rfl⟩
  have hb0 : w.grownBy w0 (some M) := by rw [hw0]; exact gb_alloc (gb_alloc (gb_refl w _) _) _
  have HK0 := Lib.hid hb0
  have HF0 := Lib.hid (show RfAt w0 M A N c a0 e0 by rw [hw0]; exact heap_old _ (heap_old _ hf0))
  have HZ0 := Lib.hid (show ItW w0 G ⟨#[]⟩ 0 0 0 0 false ⟨#[]⟩ by rw [hw0, ← hG]; exact (itW_new w _ _ _ _ _ _ _).alloc _)
  have HX0 := Lib.hid (show ItW w0 (G + 1) K 0 0 0 0 false ⟨#[]⟩ by
    have h := itW_new (w.alloc (itO ⟨#[]⟩ 0 0 0 0 false ⟨#[]⟩)) K 0 0 0 0 false ⟨#[]⟩
    rw [size1, hG] at h
    rw [hw0]; exact h)
  have HG := Lib.hid (show w.heap.size ≤ G from Nat.le_of_eq hG)
  have HN1 := Lib.hid (show ¬ some G = some M from fun h => by injection h with h; omega)
  have HN2 := Lib.hid (show ¬ some (G + 1) = some M from fun h => by injection h with h; omega)
  have HN3 := Lib.hid (show M ≠ G + 1 from by omega)
  have HN4 := Lib.hid (show M ≠ G from by omega)
  have HLA := Lib.hid hla
  have HA0 := Lib.hid ha0
  have HS6 := Lib.hid i6
  have H1 := Lib.hid h1
  have H2 := Lib.hid h2
  have H3 := Lib.hid h3
  have H4 := Lib.hid h4
  have H5 := Lib.hid h5
  have H6 := Lib.hid h6
  clear hs hla ha0 hf0 hr hN h1 h2 h3 h4 h5 h6 i6 hb0 hMw
  go_enter Try.func35, Try.ntmps35
  go_upto_region 2 with fail
  rw [← hw0]
  clear hw0
  go_wp2_with (first
    | ((with_reducible refine (TW.out _ a0 _ _ 1 16 n1 q1 x1 H1.out HLA.out HA0.out HF0.out HK0.out).out.mono ?_); rintro e w1 ⟨rfl, a1, ha1, hla1, hrf, hg⟩; have HA1 := Lib.hid ha1; have L1 := Lib.hid hla1; have HF1 := Lib.hid (RfAt.far hrf HN3.out (k := 1) (.int .i64 (n1 : Int))); have HZ1 := Lib.hid ((HZ0.out.grown hg HN1.out).other (g' := G + 1) (j := 1) (u := (.int .i64 (n1 : Int))) (by omega)); have HXX1 := Lib.hid (HX0.out.grown hg HN2.out); have HX1 := Lib.hid (HXX1.out.set1 (n1 : Int)); have HK1 := Lib.hid (gb_set (gb_trans HK0.out hg) (Nat.le_succ_of_le HG.out) (k := 1) (.int .i64 (n1 : Int))); obtain ⟨⟨v1_0, v1_1, v1_2, v1_3, v1_4, v1_5, v1_6⟩, v1_f⟩ := HXX1.out; clear hla1 hrf hg ha1)
    | ((with_reducible refine (TW.out _ a1 _ _ 1 1099511627776 n2 q2 x2 H2.out L1.out HA1.out HF1.out HK1.out).out.mono ?_); rintro e w2 ⟨rfl, a2, ha2, hla2, hrf, hg⟩; have HA2 := Lib.hid ha2; have L2 := Lib.hid hla2; have HF2 := Lib.hid (RfAt.far hrf HN3.out (k := 2) (.int .i64 (n2 : Int))); have HZ2 := Lib.hid ((HZ1.out.grown hg HN1.out).other (g' := G + 1) (j := 2) (u := (.int .i64 (n2 : Int))) (by omega)); have HXX2 := Lib.hid (HX1.out.grown hg HN2.out); have HX2 := Lib.hid (HXX2.out.set2 (n2 : Int)); have HK2 := Lib.hid (gb_set (gb_trans HK1.out hg) (Nat.le_succ_of_le HG.out) (k := 2) (.int .i64 (n2 : Int))); obtain ⟨⟨v2_0, v2_1, v2_2, v2_3, v2_4, v2_5, v2_6⟩, v2_f⟩ := HXX2.out; clear hla2 hrf hg ha2)
    | ((with_reducible refine (TW.out _ a2 _ _ 1 1099511627776 n3 q3 x3 H3.out L2.out HA2.out HF2.out HK2.out).out.mono ?_); rintro e w3 ⟨rfl, a3, ha3, hla3, hrf, hg⟩; have HA3 := Lib.hid ha3; have L3 := Lib.hid hla3; have HF3 := Lib.hid (RfAt.far hrf HN3.out (k := 3) (.int .i64 (n3 : Int))); have HZ3 := Lib.hid ((HZ2.out.grown hg HN1.out).other (g' := G + 1) (j := 3) (u := (.int .i64 (n3 : Int))) (by omega)); have HXX3 := Lib.hid (HX2.out.grown hg HN2.out); have HX3 := Lib.hid (HXX3.out.set3 (n3 : Int)); have HK3 := Lib.hid (gb_set (gb_trans HK2.out hg) (Nat.le_succ_of_le HG.out) (k := 3) (.int .i64 (n3 : Int))); obtain ⟨⟨v3_0, v3_1, v3_2, v3_3, v3_4, v3_5, v3_6⟩, v3_f⟩ := HXX3.out; clear hla3 hrf hg ha3)
    | ((with_reducible refine (TW.out _ a3 _ _ 0 255 n4 q4 x4 H4.out L3.out HA3.out HF3.out HK3.out).out.mono ?_); rintro e w4 ⟨rfl, a4, ha4, hla4, hrf, hg⟩; have HA4 := Lib.hid ha4; have L4 := Lib.hid hla4; have HF4 := Lib.hid (RfAt.far hrf HN3.out (k := 4) (.int .i64 (n4 : Int))); have HZ4 := Lib.hid ((HZ3.out.grown hg HN1.out).other (g' := G + 1) (j := 4) (u := (.int .i64 (n4 : Int))) (by omega)); have HXX4 := Lib.hid (HX3.out.grown hg HN2.out); have HX4 := Lib.hid (HXX4.out.set4 (n4 : Int)); have HK4 := Lib.hid (gb_set (gb_trans HK3.out hg) (Nat.le_succ_of_le HG.out) (k := 4) (.int .i64 (n4 : Int))); obtain ⟨⟨v4_0, v4_1, v4_2, v4_3, v4_4, v4_5, v4_6⟩, v4_f⟩ := HXX4.out; clear hla4 hrf hg ha4)
    | ((with_reducible refine (TW.out _ a4 _ _ 0 1 n5 q5 x5 H5.out L4.out HA4.out HF4.out HK4.out).out.mono ?_); rintro e w5 ⟨rfl, a5, ha5, hla5, hrf, hg⟩; have HA5 := Lib.hid ha5; have L5 := Lib.hid hla5; have HF5 := Lib.hid (RfAt.far hrf HN3.out (k := 5) (.bool d)); have HZ5 := Lib.hid ((HZ4.out.grown hg HN1.out).other (g' := G + 1) (j := 5) (u := (.bool d)) (by omega)); have HXX5 := Lib.hid (HX4.out.grown hg HN2.out); have HX5 := Lib.hid (HXX5.out.set5 d); have HK5 := Lib.hid (gb_set (gb_trans HK4.out hg) (Nat.le_succ_of_le HG.out) (k := 5) (.bool d)); obtain ⟨⟨v5_0, v5_1, v5_2, v5_3, v5_4, v5_5, v5_6⟩, v5_f⟩ := HXX5.out; clear hla5 hrf hg ha5)
    | ((with_reducible refine (TT.out _ a5 _ _ 64 s6 S _ _ H6.out HS6.out L5.out HA5.out HF5.out HK5.out).out.mono ?_); rintro e w6 ⟨rfl, a6, ha6, hla6, hrf, hg⟩; have HA6 := Lib.hid ha6; have L6 := Lib.hid hla6; have HF6 := Lib.hid (RfAt.far hrf HN3.out (k := 6) (.string S)); have HZ6 := Lib.hid ((HZ5.out.grown hg HN1.out).other (g' := G + 1) (j := 6) (u := (.string S)) (by omega)); have HXX6 := Lib.hid (HX5.out.grown hg HN2.out); have HX6 := Lib.hid (HXX6.out.set6 S); have HK6 := Lib.hid (gb_set (gb_trans HK5.out hg) (Nat.le_succ_of_le HG.out) (k := 6) (.string S)); obtain ⟨⟨v6_0, v6_1, v6_2, v6_3, v6_4, v6_5, v6_6⟩, v6_f⟩ := HXX6.out; clear hla6 hrf hg ha6; obtain ⟨⟨u0, u1, u2, u3, u4, u5, u6⟩, uf⟩ := HX6.out; obtain ⟨⟨z0, z1, z2, z3, z4, z5, z6⟩, zf⟩ := HZ6.out))
  obtain ⟨wz, hwz⟩ : ∃ wz, (((((((w6.setCell ⟨G + 1, 6, none⟩ (.string S)).setCell ⟨G, 0, none⟩ (.string K)).setCell ⟨G, 1, none⟩ (.int .i64 (n1 : Int))).setCell ⟨G, 2, none⟩ (.int .i64 (n2 : Int))).setCell ⟨G, 3, none⟩ (.int .i64 (n3 : Int))).setCell ⟨G, 4, none⟩ (.int .i64 (n4 : Int))).setCell ⟨G, 5, none⟩ (.bool d)).setCell ⟨G, 6, none⟩ (.string S) = wz := ⟨_, rfl⟩
  have HZf : ItW wz G K (n1 : Int) (n2 : Int) (n3 : Int) (n4 : Int) d S := hwz ▸ ((((((HZ6.out.set0 K).set1 (n1 : Int)).set2 (n2 : Int)).set3 (n3 : Int)).set4 (n4 : Int)).set5 d).set6 S
  have HFf : RfAt wz M A N c a6 e2 := hwz ▸ (RfAt.far (RfAt.far (RfAt.far (RfAt.far (RfAt.far (RfAt.far (RfAt.far HF6.out HN4.out _) HN4.out _) HN4.out _) HN4.out _) HN4.out _) HN4.out _) HN4.out _)
  have HKf : w.grownBy wz (some M) := hwz ▸ (gb_set (gb_set (gb_set (gb_set (gb_set (gb_set (gb_set HK6.out HG.out _) HG.out _) HG.out _) HG.out _) HG.out _) HG.out _) HG.out _)
  rw [hwz]
  obtain ⟨⟨y0, y1, y2, y3, y4, y5, y6⟩, -⟩ := HZf
  exact bodyPost_ret (v := itV K (n1 : Int) (n2 : Int) (n3 : Int) (n4 : Int) d S) (by simp [results, Try.results35, go_sem, y0, y1, y2, y3, y4, y5, y6]) rfl ⟨a6, rfl, HA6.out, L6.out, HFf, HKf⟩
end Go.Proofs.Ytfpgklpnpplnnaa

namespace Go.Proofs.Ytfpgklpnpplnnaa
open Go.RowKit

abbrev noO : Obj := itO ⟨#[]⟩ 0 0 0 0 false ⟨#[]⟩
def endI (z : Int) (v : Bool) (x : Itm) : Itm × Int := if z ≠ 0 then (noI, z) else match v with
  | true => (x, 0)
  | false => (noI, 11)
theorem readI_end {b s q1 q2 : List UInt8} {x1 x2 z : Int} {x : Itm} {v : Bool} (h1 : textR 16 b 0 = (s, q1, x1)) (h2 : moreR s q1 x1 = (x, q2, x2)) (hz : endR q2 x2 = z) (hv : rightI x = v) : readI b = endI z v x := by
  subst hz hv
  unfold readI itemR endI
  rw [h1]
  simp only
  rw [h2]
  simp only
  generalize rightI x = v
  cases v <;> rfl
theorem noI_is : IsI noI ⟨#[]⟩ 0 0 0 0 false ⟨#[]⟩ := ⟨rfl, rfl, rfl, rfl, rfl, rfl, rfl⟩
theorem below_far {w a b : World} {B m : Nat} (h : Below B w a) (hg : a.grownBy b (some m)) (hm : B ≤ m) (hB : B ≤ a.heap.size) : Below B w b := h.trans ((Below.refl B a).grown hg hB (fun g e => by injection e with e; omega))
theorem ItW.below {w w' : World} {g : Nat} {K : ByteArray} {r c k p : Int} {d : Bool} {B : ByteArray} (h : ItW w g K r c k p d B) (hb : Below w.heap.size w w') : ItW w' g K r c k p d B :=
  ⟨h.1.below hb, fun j => (hb.frozen (p := ⟨g, j, none⟩) h.lt).trans (h.2 j)⟩
set_option maxRecDepth 100000 in
set_option maxHeartbeats 8000000 in
theorem ref_irdi (A : Option Addr) (c N : Nat) (b : List UInt8) (hN : N = b.length) (hN9 : N ≤ 1000000) (y : Itm) (z : Int) (hs : readI b = (y, z)) (Y : ByteArray) (y1 y2 y3 y4 : Int) (yd : Bool) (YS : ByteArray) (hy : IsI y Y y1 y2 y3 y4 yd YS) (w : World) (hr : RdB w w.heap.size A c b) :
    Calls Try.prog 18 #[.slice A N c] w fun e w' => e = .returned (.tuple #[itV Y y1 y2 y3 y4 yd YS, .int .i64 z]) ∧ Below w.heap.size w w' := by
  obtain ⟨s, q1, x1, h1⟩ : ∃ u v z, textR 16 b 0 = (u, v, z) := ⟨_, _, _, rfl⟩
  obtain ⟨xx, q2, x2, h2⟩ : ∃ u v z, moreR s q1 x1 = (u, v, z) := ⟨_, _, _, rfl⟩
  obtain ⟨z9, hz9⟩ : ∃ z, endR q2 x2 = z := ⟨_, rfl⟩
  obtain ⟨v, hv⟩ : ∃ v, rightI xx = v := ⟨_, rfl⟩
  obtain ⟨X, r, c', k, p, d, S, hI⟩ : ∃ K r c k p d B, IsI xx K r c k p d B := ⟨_, _, _, _, _, _, _, IsI.mk' xx⟩
  obtain ⟨T, hT⟩ : ∃ T, str s = T := ⟨_, rfl⟩
  have hres : (y, z) = endI z9 v xx := hs.symm.trans (readI_end h1 h2 hz9 hv)
  obtain ⟨G, hG⟩ : ∃ G, w.heap.size = G := ⟨_, rfl⟩
  obtain ⟨w0, hw0⟩ : ∃ w0, w0 = (w.alloc noO).alloc (.cells #[.slice A N c, .int .i64 0, .int .i64 0] 68) := ⟨_, rfl⟩
  have HB0 := Lib.hid (show Below G w w0 by rw [hw0, ← hG]; exact (below_new w _).trans ((below_new _ _).mono (by simp)))
  have HF0 := Lib.hid (show RfAt w0 (G + 1) A N c 0 0 by rw [hw0]; exact heap_new _ _ _ (by rw [size1, hG]))
  have HZ0 := Lib.hid (show ItW w0 G ⟨#[]⟩ 0 0 0 0 false ⟨#[]⟩ by rw [hw0, ← hG]; exact (itW_new w _ _ _ _ _ _ _).alloc _)
  have HR0 := Lib.hid (hG ▸ hr)
  have TT := Lib.hid (fun (w' : World) (hb : Below G w w') (hf : RfAt w' (G + 1) A N c 0 0) => Lib.hid (rf_text_q (most := 16) hN h1 hT (show b = b.drop 0 from rfl) hf ((hG ▸ hr).below hb) (Nat.zero_le _) (Nat.le_succ _) (by omega)))
  have TM := Lib.hid (fun (w' : World) (a1 : Nat) (hb : Below G w w') (hla : q1 = b.drop a1) (ha : a1 ≤ N) (hf : RfAt w' (G + 1) A N c a1 x1) => Lib.hid (ref_imore (G + 1) G a1 N c A b q1 q2 s T hT x1 x2 xx hN hN9 h2 hla ha (Nat.le_succ _) X r c' k p d S hI w' hf ((hG ▸ hr).below hb)))
  have TE := Lib.hid (fun (w' : World) (a1 : Nat) (hla : q2 = b.drop a1) (ha : a1 ≤ N) (hf : RfAt w' (G + 1) A N c a1 x2) => Lib.hid (rf_end_q hN hz9 hla hf ha))
  have CR := fun w => Lib.hid (ref_iright xx X r c' k p d S hI v hv w)
  have HG := Lib.hid (Nat.le_refl G)
  have HN1 := Lib.hid (show ¬ some G = some (G + 1) from fun h => by injection h with h; omega)
  have HRES := Lib.hid hres
  have HY := Lib.hid hy
  have HI := Lib.hid hI
  clear hs hr hN h1 h2 hz9 hv hI hT hy hres
  by_cases hz : z9 = 0
  · subst hz
    cases v with
    | true =>
      obtain ⟨rfl, rfl⟩ : y = xx ∧ z = 0 := by have h := HRES.out; unfold endI at h; rw [if_neg (by simp)] at h; injection h with h h2; exact ⟨h, h2⟩
      obtain ⟨rfl, rfl, rfl, rfl, rfl, rfl, rfl⟩ : X = Y ∧ r = y1 ∧ c' = y2 ∧ k = y3 ∧ p = y4 ∧ d = yd ∧ S = YS := ⟨HI.out.key.symm.trans HY.out.key, HI.out.rep.symm.trans HY.out.rep, HI.out.cnt.symm.trans HY.out.cnt, HI.out.rank.symm.trans HY.out.rank, HI.out.prio.symm.trans HY.out.prio, HI.out.dead.symm.trans HY.out.dead, HI.out.body.symm.trans HY.out.body⟩
      go_enter Try.func18, Try.ntmps18
      go_upto_region 2 with fail
      rw [← hw0]
      clear hw0
      go_wp2_with (first
        | ((with_reducible refine (TT.out _ HB0.out HF0.out).out.mono ?_); rintro e w1 ⟨rfl, a1, ha1, hla1, hrf, hg⟩; have HA1 := Lib.hid ha1; have L1 := Lib.hid hla1; have HF1 := Lib.hid hrf; have HZ1 := Lib.hid (HZ0.out.grown hg HN1.out); have HB1 := Lib.hid (below_far HB0.out hg (Nat.le_succ _) (Nat.le_of_lt HZ0.out.lt)); clear ha1 hla1 hrf hg)
        | ((with_reducible refine (TM.out _ a1 HB1.out L1.out HA1.out HF1.out).out.mono ?_); rintro e w2 ⟨a2, rfl, ha2, hla2, hrf, hg⟩; have HA2 := Lib.hid ha2; have L2 := Lib.hid hla2; have HZ2 := Lib.hid ((HZ1.out.grown hg HN1.out).alloc (itO X r c' k p d S)); have HB2a := Lib.hid (below_far HB1.out hg (Nat.le_succ _) (Nat.le_of_lt HZ1.out.lt)); have HLT := Lib.hid hrf.lt; have HB2 := Lib.hid (HB2a.out.alloc (by have := hrf.lt; omega) (itO X r c' k p d S)); have HF2 := Lib.hid (show RfAt (w2.alloc (itO X r c' k p d S)) (G + 1) A N c a2 x2 from heap_old _ hrf); obtain ⟨g2, hg2⟩ : ∃ g2, w2.heap.size = g2 := ⟨_, rfl⟩; have HX2 := Lib.hid (show ItW (w2.alloc (itO X r c' k p d S)) g2 X r c' k p d S from hg2 ▸ itW_new w2 _ _ _ _ _ _ _); have HN2 := Lib.hid (show ¬ some g2 = some (G + 1) from fun h => by injection h with h; have := HLT.out; omega); clear ha2 hla2 hrf hg)
        | ((with_reducible refine (TE.out _ a2 L2.out HA2.out HF2.out).out.mono ?_); rintro e w3 ⟨rfl, a3, ha3, hla3, hrf, hg⟩; have HA3 := Lib.hid ha3; have L3 := Lib.hid hla3; have HF3 := Lib.hid hrf; have HZ3 := Lib.hid (HZ2.out.grown hg HN1.out); have HX3 := Lib.hid (HX2.out.grown hg HN2.out); have HB3 := Lib.hid (below_far HB2.out hg (Nat.le_succ _) (Nat.le_of_lt HZ2.out.lt)); obtain ⟨⟨u0, u1, u2, u3, u4, u5, u6⟩, uf⟩ := HX3.out; obtain ⟨⟨t0, t1, t2, t3, t4, t5, t6⟩, tf⟩ := HZ3.out; clear ha3 hla3 hrf hg)
        | ((with_reducible refine (CR _).out.mono ?_); rintro e w4 ⟨rfl, hq⟩; have HZ4 := Lib.hid (HZ3.out.below hq); have HX4 := Lib.hid (HX3.out.below hq); have HB4 := Lib.hid (HB3.out.trans (hq.mono (by have := HZ3.out.lt; omega))); obtain ⟨⟨s0, s1, s2, s3, s4, s5, s6⟩, sf⟩ := HZ4.out; obtain ⟨⟨m0, m1, m2, m3, m4, m5, m6⟩, mf⟩ := HX4.out; clear hq))
      obtain ⟨wz, hwz⟩ : ∃ wz, ((((((World.setCell w4 ⟨G, 0, none⟩ (.string X)).setCell ⟨G, 1, none⟩ (.int .i64 r)).setCell ⟨G, 2, none⟩ (.int .i64 c')).setCell ⟨G, 3, none⟩ (.int .i64 k)).setCell ⟨G, 4, none⟩ (.int .i64 p)).setCell ⟨G, 5, none⟩ (.bool d)).setCell ⟨G, 6, none⟩ (.string S) = wz := ⟨_, rfl⟩
      have HZf : ItW wz G X r c' k p d S := hwz ▸ (((((((HZ4.out).set0 X).set1 r).set2 c').set3 k).set4 p).set5 d).set6 S
      have HBf : Below G w wz := hwz ▸ (Below.setCell (Below.setCell (Below.setCell (Below.setCell (Below.setCell (Below.setCell (Below.setCell HB4.out HG.out _) HG.out _) HG.out _) HG.out _) HG.out _) HG.out _) HG.out _)
      rw [hwz]
      obtain ⟨⟨j0, j1, j2, j3, j4, j5, j6⟩, -⟩ := HZf
      exact bodyPost_ret (v := .tuple #[itV X r c' k p d S, .int .i64 0]) (by simp [results, Try.results18, go_sem, j0, j1, j2, j3, j4, j5, j6]) rfl ⟨rfl, by first | exact HBf | exact hG ▸ HBf⟩
    | false =>
      obtain ⟨rfl, rfl⟩ : y = noI ∧ z = 11 := by have h := HRES.out; unfold endI at h; rw [if_neg (by simp)] at h; injection h with h h2; exact ⟨h, h2⟩
      obtain ⟨rfl, rfl, rfl, rfl, rfl, rfl, rfl⟩ : ⟨#[]⟩ = Y ∧ 0 = y1 ∧ 0 = y2 ∧ 0 = y3 ∧ 0 = y4 ∧ false = yd ∧ ⟨#[]⟩ = YS := ⟨noI_is.key.symm.trans HY.out.key, noI_is.rep.symm.trans HY.out.rep, noI_is.cnt.symm.trans HY.out.cnt, noI_is.rank.symm.trans HY.out.rank, noI_is.prio.symm.trans HY.out.prio, noI_is.dead.symm.trans HY.out.dead, noI_is.body.symm.trans HY.out.body⟩
      go_enter Try.func18, Try.ntmps18
      go_upto_region 2 with fail
      rw [← hw0]
      clear hw0
      go_wp2_with (first
        | ((with_reducible refine (TT.out _ HB0.out HF0.out).out.mono ?_); rintro e w1 ⟨rfl, a1, ha1, hla1, hrf, hg⟩; have HA1 := Lib.hid ha1; have L1 := Lib.hid hla1; have HF1 := Lib.hid hrf; have HZ1 := Lib.hid (HZ0.out.grown hg HN1.out); have HB1 := Lib.hid (below_far HB0.out hg (Nat.le_succ _) (Nat.le_of_lt HZ0.out.lt)); clear ha1 hla1 hrf hg)
        | ((with_reducible refine (TM.out _ a1 HB1.out L1.out HA1.out HF1.out).out.mono ?_); rintro e w2 ⟨a2, rfl, ha2, hla2, hrf, hg⟩; have HA2 := Lib.hid ha2; have L2 := Lib.hid hla2; have HZ2 := Lib.hid ((HZ1.out.grown hg HN1.out).alloc (itO X r c' k p d S)); have HB2a := Lib.hid (below_far HB1.out hg (Nat.le_succ _) (Nat.le_of_lt HZ1.out.lt)); have HLT := Lib.hid hrf.lt; have HB2 := Lib.hid (HB2a.out.alloc (by have := hrf.lt; omega) (itO X r c' k p d S)); have HF2 := Lib.hid (show RfAt (w2.alloc (itO X r c' k p d S)) (G + 1) A N c a2 x2 from heap_old _ hrf); obtain ⟨g2, hg2⟩ : ∃ g2, w2.heap.size = g2 := ⟨_, rfl⟩; have HX2 := Lib.hid (show ItW (w2.alloc (itO X r c' k p d S)) g2 X r c' k p d S from hg2 ▸ itW_new w2 _ _ _ _ _ _ _); have HN2 := Lib.hid (show ¬ some g2 = some (G + 1) from fun h => by injection h with h; have := HLT.out; omega); clear ha2 hla2 hrf hg)
        | ((with_reducible refine (TE.out _ a2 L2.out HA2.out HF2.out).out.mono ?_); rintro e w3 ⟨rfl, a3, ha3, hla3, hrf, hg⟩; have HA3 := Lib.hid ha3; have L3 := Lib.hid hla3; have HF3 := Lib.hid hrf; have HZ3 := Lib.hid (HZ2.out.grown hg HN1.out); have HX3 := Lib.hid (HX2.out.grown hg HN2.out); have HB3 := Lib.hid (below_far HB2.out hg (Nat.le_succ _) (Nat.le_of_lt HZ2.out.lt)); obtain ⟨⟨u0, u1, u2, u3, u4, u5, u6⟩, uf⟩ := HX3.out; obtain ⟨⟨t0, t1, t2, t3, t4, t5, t6⟩, tf⟩ := HZ3.out; clear ha3 hla3 hrf hg)
        | ((with_reducible refine (CR _).out.mono ?_); rintro e w4 ⟨rfl, hq⟩; have HZ4 := Lib.hid (HZ3.out.below hq); have HX4 := Lib.hid (HX3.out.below hq); have HB4 := Lib.hid (HB3.out.trans (hq.mono (by have := HZ3.out.lt; omega))); obtain ⟨⟨s0, s1, s2, s3, s4, s5, s6⟩, sf⟩ := HZ4.out; obtain ⟨⟨m0, m1, m2, m3, m4, m5, m6⟩, mf⟩ := HX4.out; clear hq))
      obtain ⟨wz, hwz⟩ : ∃ wz, ((((((World.setCell w4 ⟨G, 0, none⟩ (.string ⟨#[]⟩)).setCell ⟨G, 1, none⟩ (.int .i64 0)).setCell ⟨G, 2, none⟩ (.int .i64 0)).setCell ⟨G, 3, none⟩ (.int .i64 0)).setCell ⟨G, 4, none⟩ (.int .i64 0)).setCell ⟨G, 5, none⟩ (.bool false)).setCell ⟨G, 6, none⟩ (.string ⟨#[]⟩) = wz := ⟨_, rfl⟩
      have HZf : ItW wz G ⟨#[]⟩ 0 0 0 0 false ⟨#[]⟩ := hwz ▸ (((((((HZ4.out).set0 ⟨#[]⟩).set1 0).set2 0).set3 0).set4 0).set5 false).set6 ⟨#[]⟩
      have HBf : Below G w wz := hwz ▸ (Below.setCell (Below.setCell (Below.setCell (Below.setCell (Below.setCell (Below.setCell (Below.setCell HB4.out HG.out _) HG.out _) HG.out _) HG.out _) HG.out _) HG.out _) HG.out _)
      rw [hwz]
      obtain ⟨⟨j0, j1, j2, j3, j4, j5, j6⟩, -⟩ := HZf
      exact bodyPost_ret (v := .tuple #[itV ⟨#[]⟩ 0 0 0 0 false ⟨#[]⟩, .int .i64 11]) (by simp [results, Try.results18, go_sem, j0, j1, j2, j3, j4, j5, j6]) rfl ⟨rfl, by first | exact HBf | exact hG ▸ HBf⟩
  · obtain ⟨rfl, rfl⟩ : y = noI ∧ z = z9 := by have h := HRES.out; unfold endI at h; rw [if_pos hz] at h; injection h with h h2; exact ⟨h, h2⟩
    obtain ⟨rfl, rfl, rfl, rfl, rfl, rfl, rfl⟩ : ⟨#[]⟩ = Y ∧ 0 = y1 ∧ 0 = y2 ∧ 0 = y3 ∧ 0 = y4 ∧ false = yd ∧ ⟨#[]⟩ = YS := ⟨noI_is.key.symm.trans HY.out.key, noI_is.rep.symm.trans HY.out.rep, noI_is.cnt.symm.trans HY.out.cnt, noI_is.rank.symm.trans HY.out.rank, noI_is.prio.symm.trans HY.out.prio, noI_is.dead.symm.trans HY.out.dead, noI_is.body.symm.trans HY.out.body⟩
    have hzb : (z == 0) = false := beq_eq_false_iff_ne.2 hz
    have hzb2 : (z != 0) = true := by rw [bne, hzb]; rfl
    go_enter Try.func18, Try.ntmps18
    go_upto_region 2 with fail
    rw [← hw0]
    clear hw0
    go_wp2_with (first
      | ((with_reducible refine (TT.out _ HB0.out HF0.out).out.mono ?_); rintro e w1 ⟨rfl, a1, ha1, hla1, hrf, hg⟩; have HA1 := Lib.hid ha1; have L1 := Lib.hid hla1; have HF1 := Lib.hid hrf; have HZ1 := Lib.hid (HZ0.out.grown hg HN1.out); have HB1 := Lib.hid (below_far HB0.out hg (Nat.le_succ _) (Nat.le_of_lt HZ0.out.lt)); clear ha1 hla1 hrf hg)
      | ((with_reducible refine (TM.out _ a1 HB1.out L1.out HA1.out HF1.out).out.mono ?_); rintro e w2 ⟨a2, rfl, ha2, hla2, hrf, hg⟩; have HA2 := Lib.hid ha2; have L2 := Lib.hid hla2; have HZ2 := Lib.hid ((HZ1.out.grown hg HN1.out).alloc (itO X r c' k p d S)); have HB2a := Lib.hid (below_far HB1.out hg (Nat.le_succ _) (Nat.le_of_lt HZ1.out.lt)); have HLT := Lib.hid hrf.lt; have HB2 := Lib.hid (HB2a.out.alloc (by have := hrf.lt; omega) (itO X r c' k p d S)); have HF2 := Lib.hid (show RfAt (w2.alloc (itO X r c' k p d S)) (G + 1) A N c a2 x2 from heap_old _ hrf); obtain ⟨g2, hg2⟩ : ∃ g2, w2.heap.size = g2 := ⟨_, rfl⟩; have HX2 := Lib.hid (show ItW (w2.alloc (itO X r c' k p d S)) g2 X r c' k p d S from hg2 ▸ itW_new w2 _ _ _ _ _ _ _); have HN2 := Lib.hid (show ¬ some g2 = some (G + 1) from fun h => by injection h with h; have := HLT.out; omega); clear ha2 hla2 hrf hg)
      | ((with_reducible refine (TE.out _ a2 L2.out HA2.out HF2.out).out.mono ?_); rintro e w3 ⟨rfl, a3, ha3, hla3, hrf, hg⟩; have HA3 := Lib.hid ha3; have L3 := Lib.hid hla3; have HF3 := Lib.hid hrf; have HZ3 := Lib.hid (HZ2.out.grown hg HN1.out); have HX3 := Lib.hid (HX2.out.grown hg HN2.out); have HB3 := Lib.hid (below_far HB2.out hg (Nat.le_succ _) (Nat.le_of_lt HZ2.out.lt)); obtain ⟨⟨u0, u1, u2, u3, u4, u5, u6⟩, uf⟩ := HX3.out; obtain ⟨⟨t0, t1, t2, t3, t4, t5, t6⟩, tf⟩ := HZ3.out; clear ha3 hla3 hrf hg)
      | ((with_reducible refine (TE.out _ a3 L3.out HA3.out HF3.out).out.mono ?_); rintro e w4 ⟨rfl, a4, ha4, hla4, hrf, hg⟩; have HZ4 := Lib.hid (HZ3.out.grown hg HN1.out); have HB4 := Lib.hid (below_far HB3.out hg (Nat.le_succ _) (Nat.le_of_lt HZ3.out.lt)); obtain ⟨⟨s0, s1, s2, s3, s4, s5, s6⟩, sf⟩ := HZ4.out; clear ha4 hla4 hrf hg))
    obtain ⟨wz, hwz⟩ : ∃ wz, ((((((World.setCell w4 ⟨G, 0, none⟩ (.string ⟨#[]⟩)).setCell ⟨G, 1, none⟩ (.int .i64 0)).setCell ⟨G, 2, none⟩ (.int .i64 0)).setCell ⟨G, 3, none⟩ (.int .i64 0)).setCell ⟨G, 4, none⟩ (.int .i64 0)).setCell ⟨G, 5, none⟩ (.bool false)).setCell ⟨G, 6, none⟩ (.string ⟨#[]⟩) = wz := ⟨_, rfl⟩
    have HZf : ItW wz G ⟨#[]⟩ 0 0 0 0 false ⟨#[]⟩ := hwz ▸ (((((((HZ4.out).set0 ⟨#[]⟩).set1 0).set2 0).set3 0).set4 0).set5 false).set6 ⟨#[]⟩
    have HBf : Below G w wz := hwz ▸ (Below.setCell (Below.setCell (Below.setCell (Below.setCell (Below.setCell (Below.setCell (Below.setCell HB4.out HG.out _) HG.out _) HG.out _) HG.out _) HG.out _) HG.out _) HG.out _)
    rw [hwz]
    obtain ⟨⟨j0, j1, j2, j3, j4, j5, j6⟩, -⟩ := HZf
    exact bodyPost_ret (v := .tuple #[itV ⟨#[]⟩ 0 0 0 0 false ⟨#[]⟩, .int .i64 z]) (by simp [results, Try.results18, go_sem, j0, j1, j2, j3, j4, j5, j6]) rfl ⟨rfl, by first | exact HBf | exact hG ▸ HBf⟩
end Go.Proofs.Ytfpgklpnpplnnaa

namespace Go.Proofs.Ytfpgklpnpplnnaa
open Go.RowKit

theorem run_str_take {P : Program} {t : TypeId} (ht : P.underlying t = some .string) (l : List UInt8) (S U : ByteArray) (hS : str l = S) (k : Nat) (hk : k ≤ l.length) (hU : str (l.take k) = U) (w : World) :
    (Instr.slice t (.string S) none (some (.int .i64 (k : Int))) none).run P w = .ok (.string U) w := by
  subst hS hU
  rw [run_str_to ht w (str l) k (k : Int) rfl (by rw [str_size]; exact hk), str_take]
set_option maxRecDepth 100000 in
set_option maxHeartbeats 8000000 in
theorem ref_ireadin (M B a0 N c : Nat) (A : Option Addr) (b l0 r0 : List UInt8) (e0 e2 : Int) (n : Nat) (r1 : List UInt8) (e1 : Int) (L : List Itm) (fine : Bool) (hN : N = b.length) (hN9 : N ≤ 1000000) (hs1 : withinR 0 4096 l0 e0 = (n, r1, e1)) (hs : listR n [] r1 e1 = ((L, fine), r0, e2)) (hla : l0 = b.drop a0) (ha0 : a0 ≤ N) (hB : B ≤ M) (w : World) (hf0 : RfAt w M A N c a0 e0) (hr : RdB w B A c b) :
    Calls Try.prog 37 #[.pointer (some ⟨M, 0, none⟩)] w fun x w' => ∃ A5 c5 NL a', x = .returned (.tuple #[.slice A5 NL c5, .bool fine]) ∧ NL = L.length ∧ a' ≤ N ∧ r0 = b.drop a' ∧ RfAt w' M A N c a' e2 ∧ w.grownBy w' (some M) ∧ kItm.Own w' w.heap.size (.slice A5 NL c5) L := by
  have hMw := hf0.lt
  have hn9 : n ≤ 4096 := by have := withinR_hi (by decide) hs1; omega
  have W1 := Lib.hid (rf_within_q hN hs1 hla hf0 hr ha0 (by omega))
  have TW := Lib.hid (fun (w' : World) (a' : Nat) (e' : Int) (hi : Int) (n : Nat) (r : List UInt8) (x : Int) (hw : withinR 0 hi (b.drop a') e' = (n, r, x)) (ha' : a' ≤ N) (hf : RfAt w' M A N c a' e') (hk : w.grownBy w' (some M)) => Lib.hid (rf_within_q hN hw rfl hf (hr.grown hk hB (by omega)) ha' (by omega)))
  have TT := Lib.hid (fun (w' : World) (a' : Nat) (l' : List UInt8) (e' : Int) (s : List UInt8) (S : ByteArray) (r : List UInt8) (x : Int) (hw : textR 16 l' e' = (s, r, x)) (hS : str s = S) (hl' : l' = b.drop a') (ha' : a' ≤ N) (hf : RfAt w' M A N c a' e') (hk : w.grownBy w' (some M)) => Lib.hid (rf_text_q (most := 16) hN hw hS hl' hf (hr.grown hk hB (by omega)) ha' hB (by omega)))
  have TM := Lib.hid (fun (w' : World) (a1 : Nat) (q1 q2 key : List UInt8) (K : ByteArray) (hK : str key = K) (x1 x2 : Int) (y : Itm) (hm : moreR key q1 x1 = (y, q2, x2)) (hla : q1 = b.drop a1) (ha : a1 ≤ N) (Y : ByteArray) (y1 y2 y3 y4 : Int) (d : Bool) (S : ByteArray) (hy : IsI y Y y1 y2 y3 y4 d S) (hf : RfAt w' M A N c a1 x1) (hk : w.grownBy w' (some M)) => Lib.hid (ref_imore M B a1 N c A b q1 q2 key K hK x1 x2 y hN hN9 hm hla ha hB Y y1 y2 y3 y4 d S hy w' hf (hr.grown hk hB (by omega))))
  have HY0 := Lib.hid hs
  clear hs1 hs hla ha0 hf0 hr hN
  go_enter Try.func37, Try.ntmps37
  go_wp2_with ((with_reducible refine W1.out.mono ?_); rintro e w2 ⟨rfl, a1, ha1, hla, hrf, hg⟩; have HF := Lib.hid hrf; have HW := Lib.hid hg; have HA := Lib.hid ha1; have HLA := Lib.hid hla; clear hrf hg hla ha1)
  clear W1
  go_loopw [5, 6, 7, 8] (fun lv sv fv i wr => ∃ (k a : Nat) (e : Int) (dn : List Itm) (was : List UInt8) (U : ByteArray) (fb : Bool), k ≤ n ∧ i = .int .i64 k ∧ dn.length ≤ k ∧ was.length ≤ 16 * k ∧ sv = .string U ∧ fv = .bool fb ∧ Hid (str was = U) ∧ Hid (a ≤ N) ∧ Hid (((L, fine), r0, e2) = ((dn ++ (listR (n - k) was (b.drop a) e).1.1, fb && (listR (n - k) was (b.drop a) e).1.2), (listR (n - k) was (b.drop a) e).2)) ∧ Hid (RfAt wr M A N c a e) ∧ Hid (kItm.Own wr w.heap.size lv dn) ∧ Hid (w.grownBy wr (some M))) (fun _ _ _ i _ => n - (intOf i).toNat)
  case atStart => exact ⟨0, a1, e1, [], [], ⟨#[]⟩, true, by omega, rfl, Nat.le_refl _, Nat.zero_le _, rfl, rfl, rfl, HA, by rw [← HLA.out, Nat.sub_zero, HY0.out]; rfl, HF, Kind.Own.nil _ _, HW⟩
  case round =>
    clear HF HW HA HLA HY0
    obtain ⟨k, a, e, dn, was, U, fb, hk, rfl, hdk, hwk, rfl, rfl, HU, HA, HY, HF, HO, HW⟩ := hrel
    obtain ⟨ND, hND⟩ : ∃ ND, ND = dn.length := ⟨_, rfl⟩
    obtain ⟨A9, c9, rfl, -⟩ := HO.out.read_n hND
    have HND := Lib.hid hND
    clear hND
    by_cases hlt : k < n
    · by_cases he : e = 0
      · subst he
        obtain ⟨s, q1, x1, h1⟩ : ∃ u v z, withinR 0 (was.length : Int) (b.drop a) 0 = (u, v, z) := ⟨_, _, _, rfl⟩
        obtain ⟨tx, q2, x2, h2⟩ : ∃ u v z, textR 16 q1 x1 = (u, v, z) := ⟨_, _, _, rfl⟩
        obtain ⟨key, hkey⟩ : ∃ key, was.take s ++ tx = key := ⟨_, rfl⟩
        obtain ⟨y, q3, x3, h3⟩ : ∃ u v z, moreR key q2 x2 = (u, v, z) := ⟨_, _, _, rfl⟩
        obtain ⟨vr, hv⟩ : ∃ v, rightI y = v := ⟨_, rfl⟩
        obtain ⟨al, hal⟩ : ∃ al, alikeN was key = al := ⟨_, rfl⟩
        obtain ⟨z, hz⟩ : ∃ z, decide (al = s) = z := ⟨_, rfl⟩
        have hsw : s ≤ was.length := by have := withinR_hi (by omega) h1; omega
        have htx : tx.length ≤ 16 := textR_hi (m := 16) h2
        have hkl : key.length ≤ 16 * (k + 1) := by rw [← hkey, List.length_append, List.length_take]; omega
        have HY2 := Lib.hid (show ((L, fine), r0, e2) = (((dn ++ [y]) ++ (listR (n - (k + 1)) key q3 x3).1.1, (fb && (vr && z)) && (listR (n - (k + 1)) key q3 x3).1.2), (listR (n - (k + 1)) key q3 x3).2) by
          rw [HY.out, listR_round hlt h1 h2 hkey h3 hv hal hz]; simp only [List.append_assoc, List.singleton_append, Bool.and_assoc])
        obtain ⟨X, r, c', kk, p, d, S, hI⟩ : ∃ K r c k p d B, IsI y K r c k p d B := ⟨_, _, _, _, _, _, _, IsI.mk' y⟩
        obtain ⟨TX, hTX⟩ : ∃ S, str tx = S := ⟨_, rfl⟩
        obtain ⟨KY, hKY⟩ : ∃ S, str key = S := ⟨_, rfl⟩
        obtain ⟨U1, hU1⟩ : ∃ S, str (was.take s) = S := ⟨_, rfl⟩
        obtain ⟨NU, hNU⟩ : ∃ NU, was.length = NU := ⟨_, rfl⟩
        have hus : U.size = NU := by rw [← HU.out, str_size, hNU]
        have KS := fun w => run_str_take (P := Try.prog) Try.underlying9 was U U1 HU.out s hsw hU1 w
        have KA := fun w => run_txt_add (P := Try.prog) (was.take s) tx (by rw [List.length_take]; omega) w
        rw [hU1, hTX, hkey, hKY] at KA
        rw [hNU] at h1 hsw hwk
        have hs9 : (s : Int) ≤ (NU : Int) := by omega
        have hz1 : ((al : Int) == (s : Int)) = z := by rw [← hz]; exact Bool.eq_iff_iff.2 (by rw [beq_iff_eq, decide_eq_true_iff]; omega)
        have CR := fun w => Lib.hid (ref_iright y X r c' kk p d S hI vr hv w)
        have CA := fun w => Lib.hid (ref_ialike was key U KY HU.out hKY (by rw [hNU]; omega) al hal w)
        obtain ⟨c0, c1, c2, z0, z1, z2⟩ := HF.out.cells
        have HMG := Lib.hid HF.out.lt
        have H1 := Lib.hid h1
        have H2 := Lib.hid h2
        have H3 := Lib.hid h3
        have HTX := Lib.hid hTX
        have HKY := Lib.hid hKY
        have HI := Lib.hid hI
        have HKL := Lib.hid hkl
        have HDK := Lib.hid hdk
        have HMW := Lib.hid hMw
        clear h1 h2 h3 hkey hv hal hz htx hTX hKY hU1 hNU hI hkl hdk
        go_upto_region 9 with ((with_reducible refine (TW.out _ a 0 _ s q1 x1 H1.out HA.out HF.out HW.out).out.mono ?_); rintro e w2 ⟨rfl, a1, ha1, hla, hrf, hg⟩; have HA1 := Lib.hid ha1; have L1 := Lib.hid hla; have HF1 := Lib.hid hrf; have HO1 := Lib.hid (HO.out.other hg HMW.out); have HW1 := Lib.hid (gb_trans HW.out hg); clear hrf hg hla ha1 c0 c1 c2 z0 z1 z2)
        go_cut [10] from 30 to 36 (fun ks wx => ks = .string KY ∧ ∃ a2, Hid (a2 ≤ N) ∧ Hid (q2 = b.drop a2) ∧ Hid (RfAt wx M A N c a2 x2) ∧ Hid (kItm.Own wx w.heap.size (.slice A9 ND c9) dn) ∧ Hid (w.grownBy wx (some M)))
        case first =>
          have HF1d := Lib.hid (show RfAt w2.drew M A N c a1 x1 from HF1.out)
          have HW1d := Lib.hid (gb_drew HW1.out)
          go_region_with ((with_reducible refine (TT.out _ a1 _ x1 tx TX q2 x2 H2.out HTX.out L1.out HA1.out HF1d.out HW1d.out).out.mono ?_); rintro e w3 ⟨rfl, a2, ha2, hla, hrf, hg⟩; (try replace hg := gb_of_drew hg); have HA2 := Lib.hid ha2; have L2 := Lib.hid hla; have HF2 := Lib.hid hrf; have HO2 := Lib.hid (HO1.out.other hg HMW.out); have HW2 := Lib.hid (gb_trans HW1.out hg); clear hla hrf hg ha2)
          all_goals
            go_wp2_with fail
            go_meet
            exact ⟨rfl, a2, HA2, L2, HF2, HO2, HW2⟩
        case rest =>
          clear HF1 HA1 L1 HO1 HW1
          obtain ⟨rfl, a2, HA2, L2, HF2, HO2, HW2⟩ := hcut
          have HXO := Lib.hid (fun w => itm_row w y X r c' kk p d S HI.out)
          have HLE := Lib.hid (show dn.length + [y].length ≤ 1000000 by have := HDK.out; rw [List.length_singleton]; omega)
          cases fb
          case' true =>
            cases vr
          all_goals
            go_wp2_with (first
              | ((with_reducible refine (TM.out _ a2 q2 q3 key KY HKY.out x2 x3 y H3.out L2.out HA2.out X r c' kk p d S HI.out HF2.out HW2.out).out.mono ?_); rintro e w4 ⟨a3, rfl, ha3, hla, hrf, hg⟩; have HA3 := Lib.hid ha3; have L3 := Lib.hid hla; obtain ⟨g4, hg4⟩ : ∃ g4, w4.heap.size = g4 := ⟨_, rfl⟩; obtain ⟨w45, hw45⟩ : ∃ w45, w4.alloc (itO X r c' kk p d S) = w45 := ⟨_, rfl⟩; have HF3 := Lib.hid (show RfAt w45 M A N c a3 x3 from hw45 ▸ heap_old _ hrf); have HO3 := Lib.hid (show kItm.Own w45 w.heap.size (.slice A9 ND c9) dn from hw45 ▸ Kind.Own.alloc (HO2.out.other hg HMW.out) (itO X r c' kk p d S)); have HW3 := Lib.hid (show w.grownBy w45 (some M) from hw45 ▸ gb_alloc (gb_trans HW2.out hg) (itO X r c' kk p d S)); have HX3 := Lib.hid (show ItAt w45 g4 X r c' kk p d S from hw45 ▸ hg4 ▸ itAt_new w4 _ _ _ _ _ _ _); obtain ⟨u0, u1, u2, u3, u4, u5, u6⟩ := HX3.out; clear hla hrf hg ha3)
              | ((with_reducible refine (CR _).out.mono ?_); rintro e w5 ⟨rfl, hq⟩; (try replace HF3 := Lib.hid (HF3.out.under hq HF3.out.lt)); (try replace HO3 := Lib.hid (HO3.out.below hq)); (try replace HW3 := Lib.hid (gb_below HW3.out hq HW3.out.size)); (try replace HX3 := Lib.hid (HX3.out.below hq)); clear hq u0 u1 u2 u3 u4 u5 u6; obtain ⟨u0, u1, u2, u3, u4, u5, u6⟩ := HX3.out)
              | ((with_reducible refine (CA _).out.mono ?_); rintro e w5 ⟨rfl, hq⟩; (try replace HF3 := Lib.hid (HF3.out.under hq HF3.out.lt)); (try replace HO3 := Lib.hid (HO3.out.below hq)); (try replace HW3 := Lib.hid (gb_below HW3.out hq HW3.out.size)); (try replace HX3 := Lib.hid (HX3.out.below hq)); clear hq u0 u1 u2 u3 u4 u5 u6; obtain ⟨u0, u1, u2, u3, u4, u5, u6⟩ := HX3.out)
              | (at_builtin; refine wpList_app_k kItm rfl (.tmp 51) (.tmp 53) rfl w.heap.size (.slice A9 ND c9) dn rfl (Kind.Own.alloc HO3.out _) _ _ 1 1 [y] rfl rfl (HXO.out _) HLE.out (by decide) (it_alloc HW3.out.size _) ?_; intro v6 w6 hown6 hg6 hb6 _; have HO6 := Lib.hid hown6; have HF6 := Lib.hid (RfAt.under (heap_old _ HF3.out) hb6 HMW.out); have HW6 := Lib.hid (gb_below (gb_alloc HW3.out _) hb6 (Nat.le_refl _)); clear hown6 hg6 hb6))
            go_roundw
            case rel => exact ⟨k + 1, a3, x3, dn ++ [y], key, KY, _, by omega, by go_num, by rw [List.length_append, List.length_singleton]; have := HDK.out; omega, HKL.out, rfl, rfl, HKY, HA3, by rw [← L3.out]; exact HY2.out, HF6, HO6, HW6⟩
            case measure => simp [intOf]; omega
      · have heb : (e == 0) = false := beq_eq_false_iff_ne.2 he
        obtain ⟨c0, c1, c2, z0, z1, z2⟩ := HF.out.cells
        have h := HY.out
        rw [listR_end _ _ _ (.inr he)] at h
        simp only [List.append_nil, Bool.and_true, Prod.mk.injEq] at h
        obtain ⟨⟨rfl, rfl⟩, rfl, rfl⟩ := h
        clear HY
        go_wp2_with fail
        go_ret2
        exact ⟨A9, c9, ND, a, rfl, HND.out, HA.out, rfl, HF.out, HW.out, HO.out⟩
    · obtain rfl : k = n := by omega
      have h := HY.out
      rw [listR_end _ _ _ (.inl (by omega))] at h
      simp only [List.append_nil, Bool.and_true, Prod.mk.injEq] at h
      obtain ⟨⟨rfl, rfl⟩, rfl, rfl⟩ := h
      clear HY
      go_wp2_with fail
      go_ret2
      exact ⟨A9, c9, ND, a, rfl, HND.out, HA.out, rfl, HF.out, HW.out, HO.out⟩
end Go.Proofs.Ytfpgklpnpplnnaa

namespace Go.Proofs.Ytfpgklpnpplnnaa
open Go.RowKit

def endIs (z : Int) (v : Bool) (L : List Itm) : List Itm × Int := if z ≠ 0 then ([], z) else match v with
  | true => (L, 0)
  | false => ([], 11)
theorem readIs_end {b r1 r2 : List UInt8} {n : Nat} {e1 e2 z : Int} {L : List Itm} {v : Bool} (h1 : withinR 0 4096 b 0 = (n, r1, e1)) (h2 : listR n [] r1 e1 = ((L, v), r2, e2)) (hz : endR r2 e2 = z) : readIs b = endIs z v L := by
  subst hz
  unfold readIs endIs
  rw [h1]
  simp only
  rw [h2]
  simp only
  cases v <;> rfl
def RetIE (w : World) (L : List Itm) (z : Int) (e : Ending) (w' : World) : Prop := ∃ A c n, e = .returned (.tuple #[.slice A n c, .int .i64 z]) ∧ n = L.length ∧ kItm.Rd w' w'.heap.size A c L ∧ Below w.heap.size w w'
set_option maxRecDepth 100000 in
set_option maxHeartbeats 8000000 in
theorem ref_irdis (A : Option Addr) (c N : Nat) (b : List UInt8) (hN : N = b.length) (hN9 : N ≤ 1000000) (x : List Itm) (z : Int) (hs : readIs b = (x, z)) (w : World) (hr : RdB w w.heap.size A c b) :
    Calls Try.prog 19 #[.slice A N c] w (RetIE w x z) := by
  obtain ⟨n, r1, e1, h1⟩ : ∃ u v z, withinR 0 4096 b 0 = (u, v, z) := ⟨_, _, _, rfl⟩
  obtain ⟨L, v, r2, e2, h2⟩ : ∃ a b c d, listR n [] r1 e1 = ((a, b), c, d) := ⟨_, _, _, _, rfl⟩
  obtain ⟨z9, hz9⟩ : ∃ z, endR r2 e2 = z := ⟨_, rfl⟩
  have hres : (x, z) = endIs z9 v L := hs.symm.trans (readIs_end h1 h2 hz9)
  obtain ⟨G, hG⟩ : ∃ G, w.heap.size = G := ⟨_, rfl⟩
  obtain ⟨w0, hw0⟩ : ∃ w0, w0 = w.alloc (.cells #[.slice A N c, .int .i64 0, .int .i64 0] 68) := ⟨_, rfl⟩
  have HB0 := Lib.hid (show Below G w w0 by rw [hw0, ← hG]; exact below_new w _)
  have HF0 := Lib.hid (show RfAt w0 G A N c 0 0 by rw [hw0]; exact heap_new _ _ _ hG.symm)
  have TI := Lib.hid (ref_ireadin G G 0 N c A b b r2 0 e2 n r1 e1 L v hN hN9 h1 h2 rfl (Nat.zero_le _) (Nat.le_refl _) w0 HF0.out ((hG ▸ hr).below HB0.out))
  have TE := Lib.hid (fun (w' : World) (a1 : Nat) (hla : r2 = b.drop a1) (ha : a1 ≤ N) (hf : RfAt w' G A N c a1 e2) => Lib.hid (rf_end_q hN hz9 hla hf ha))
  have HRES := Lib.hid hres
  have HG := Lib.hid hG
  clear hs hr hN h1 h2 hz9 hres
  by_cases hz : z9 = 0
  · subst hz
    cases v with
    | true =>
      obtain ⟨rfl, rfl⟩ : x = L ∧ z = 0 := by have h := HRES.out; unfold endIs at h; rw [if_neg (by simp)] at h; injection h with h h2; exact ⟨h, h2⟩
      go_enter Try.func19, Try.ntmps19
      go_upto_region 2 with fail
      rw [← hw0]
      clear hw0
      go_wp2_with (first
        | ((with_reducible refine TI.out.mono ?_); rintro e w1 ⟨A5, c5, NL, a1, rfl, hNL, ha1, hla1, hrf, hg, ho⟩; have HNL := Lib.hid hNL; have HA1 := Lib.hid ha1; have L1 := Lib.hid hla1; have HF1 := Lib.hid hrf; have HO1 := Lib.hid ho; have HB1 := Lib.hid (below_far HB0.out hg (Nat.le_refl _) (Nat.le_of_lt HF0.out.lt)); have HGS := Lib.hid HF0.out.lt; clear hNL ha1 hla1 hrf hg ho)
        | ((with_reducible refine (TE.out _ a1 L1.out HA1.out HF1.out).out.mono ?_); rintro e w2 ⟨rfl, a2, ha2, hla2, hrf, hg⟩; have HO2 := Lib.hid (HO1.out.other hg HGS.out); have HB2 := Lib.hid (below_far HB1.out hg (Nat.le_refl _) (Nat.le_of_lt HF1.out.lt)); clear ha2 hla2 hrf hg))
      go_ret2
      exact ⟨A5, c5, NL, rfl, HNL.out, HO2.out.rd, HG.out ▸ HB2.out⟩
    | false =>
      obtain ⟨rfl, rfl⟩ : x = [] ∧ z = 11 := by have h := HRES.out; unfold endIs at h; rw [if_neg (by simp)] at h; injection h with h h2; exact ⟨h, h2⟩
      go_enter Try.func19, Try.ntmps19
      go_upto_region 2 with fail
      rw [← hw0]
      clear hw0
      go_wp2_with (first
        | ((with_reducible refine TI.out.mono ?_); rintro e w1 ⟨A5, c5, NL, a1, rfl, hNL, ha1, hla1, hrf, hg, ho⟩; have HA1 := Lib.hid ha1; have L1 := Lib.hid hla1; have HF1 := Lib.hid hrf; have HB1 := Lib.hid (below_far HB0.out hg (Nat.le_refl _) (Nat.le_of_lt HF0.out.lt)); clear hNL ha1 hla1 hrf hg ho)
        | ((with_reducible refine (TE.out _ a1 L1.out HA1.out HF1.out).out.mono ?_); rintro e w2 ⟨rfl, a2, ha2, hla2, hrf, hg⟩; have HB2 := Lib.hid (below_far HB1.out hg (Nat.le_refl _) (Nat.le_of_lt HF1.out.lt)); clear ha2 hla2 hrf hg))
      go_ret2
      exact ⟨none, 0, 0, rfl, rfl, Kind.Rd.nil _ _, HG.out ▸ HB2.out⟩
  · obtain ⟨rfl, rfl⟩ : x = [] ∧ z = z9 := by have h := HRES.out; unfold endIs at h; rw [if_pos hz] at h; injection h with h h2; exact ⟨h, h2⟩
    have hzb : (z == 0) = false := beq_eq_false_iff_ne.2 hz
    have hzb2 : (z != 0) = true := by rw [bne, hzb]; rfl
    go_enter Try.func19, Try.ntmps19
    go_upto_region 2 with fail
    rw [← hw0]
    clear hw0
    go_wp2_with (first
      | ((with_reducible refine TI.out.mono ?_); rintro e w1 ⟨A5, c5, NL, a1, rfl, hNL, ha1, hla1, hrf, hg, ho⟩; have HA1 := Lib.hid ha1; have L1 := Lib.hid hla1; have HF1 := Lib.hid hrf; have HB1 := Lib.hid (below_far HB0.out hg (Nat.le_refl _) (Nat.le_of_lt HF0.out.lt)); clear hNL ha1 hla1 hrf hg ho)
      | ((with_reducible refine (TE.out _ a1 L1.out HA1.out HF1.out).out.mono ?_); rintro e w2 ⟨rfl, a2, ha2, hla2, hrf, hg⟩; have HA2 := Lib.hid ha2; have L2 := Lib.hid hla2; have HF2 := Lib.hid hrf; have HB2 := Lib.hid (below_far HB1.out hg (Nat.le_refl _) (Nat.le_of_lt HF1.out.lt)); clear ha2 hla2 hrf hg)
      | ((with_reducible refine (TE.out _ a2 L2.out HA2.out HF2.out).out.mono ?_); rintro e w3 ⟨rfl, a3, ha3, hla3, hrf, hg⟩; have HB3 := Lib.hid (below_far HB2.out hg (Nat.le_refl _) (Nat.le_of_lt HF2.out.lt)); clear ha3 hla3 hrf hg))
    go_ret2
    exact ⟨none, 0, 0, rfl, rfl, Kind.Rd.nil _ _, HG.out ▸ HB3.out⟩
end Go.Proofs.Ytfpgklpnpplnnaa

namespace Go.Proofs.Ytfpgklpnpplnnaa
open Go.RowKit

def RetBX (w : World) (N : Nat) (x : Int) (l : List UInt8) (e : Ending) (w' : World) : Prop := ∃ A c, e = .returned (.tuple #[.slice A N c, .int .i64 x]) ∧ RdB w' w'.heap.size A c l ∧ Below w.heap.size w w'
theorem rdB_on {w w' : World} {A : Option Addr} {c : Nat} {l : List UInt8} (h : RdB w w.heap.size A c l) (hb : Below w.heap.size w w') : RdB w' w'.heap.size A c l := ⟨(h.row.below hb).more hb.size, h.room, h.cap⟩
theorem rdB_fresh (w : World) (cs : Array Value) (l : List UInt8) (n : Nat) (hl : cs.toList = bytes l) (hn : n = l.length) (hm : l.length ≤ 1000000) : RdB (w.alloc (.cells cs 5)) (w.alloc (.cells cs 5)).heap.size (some ⟨w.heap.size, 0, none⟩) n l := rdB_block (heap_new w _ _ rfl) hl hn hm
theorem bytes_eq (A A2 : Option Addr) (c c2 n : Nat) (a : List UInt8) (hn : n = a.length) (hl : a.length ≤ 1000000) (w : World) (ha : RdB w w.heap.size A c a) (hb : RdB w w.heap.size A2 c2 a) :
    Calls Try.prog 12 #[.slice A n c, .slice A2 n c2] w fun e w' => e = .returned (.bool true) ∧ Below w.heap.size w w' :=
  (ref_eq_same A A2 c c2 n n _ _ a w hn hn ha.row hb.row (by omega)).mono fun _ _ ⟨h1, h2⟩ => ⟨h1, grown_none h2⟩
def RetBN (w : World) (N : Nat) (l : List UInt8) (e : Ending) (w' : World) : Prop := ∃ A c, e = .returned (.slice A N c) ∧ RdB w' w'.heap.size A c l ∧ Below w.heap.size w w'
theorem RetB.name {w w' : World} {l L : List UInt8} {e : Ending} {N : Nat} (h : RetB w.heap.size w l e w') (hL : l = L) (hN : L.length = N) : RetBN w N L e w' := by
  subst hL
  obtain ⟨v, h1, h2, h3⟩ := h
  obtain ⟨A, c, rfl, h4⟩ := h2.read_n hN.symm
  exact ⟨A, c, h1, h4, h3⟩
end Go.Proofs.Ytfpgklpnpplnnaa

namespace Go.Proofs.Ytfpgklpnpplnnaa
open Go.RowKit

def ShortI (x : Itm) : Prop := x.key.length ≤ 1000 ∧ x.body.length ≤ 1000
def CItemC (F : FuncId) : Prop := ∀ (x : Itm) (K : ByteArray) (r c k p : Int) (d : Bool) (B : ByteArray), IsI x K r c k p d B → ShortI x →
  (rightI x = true → ∀ N l, itemB x = l → l.length = N → ∀ w, Calls Try.prog F #[itV K r c k p d B] w (RetBX w N 0 l)) ∧ (rightI x = false → ∀ w, Calls Try.prog F #[itV K r c k p d B] w (RetBX w 0 2 []))
def CSizeC (F : FuncId) : Prop := ∀ (x : Itm) (K : ByteArray) (r c k p : Int) (d : Bool) (B : ByteArray), IsI x K r c k p d B → ShortI x →
  (rightI x = true → ∀ N, (itemB x).length = N → ∀ w, Calls Try.prog F #[itV K r c k p d B] w fun e w' => e = .returned (.int .i64 (N : Int)) ∧ Below w.heap.size w w') ∧ (rightI x = false → ∀ w, Calls Try.prog F #[itV K r c k p d B] w fun e w' => e = .returned (.int .i64 0) ∧ Below w.heap.size w w')
def CItemsC (F : FuncId) : Prop := ∀ (A : Option Addr) (c n : Nat) (l : List Itm), n = l.length → n ≤ 4096 → (∀ x ∈ l, ShortI x) →
  ((∀ x ∈ l, rightI x = true) → ∀ N b, itemsB l = b → b.length = N → ∀ w, kItm.Rd w w.heap.size A c l → Calls Try.prog F #[.slice A n c] w (RetBX w N 0 b)) ∧ (¬ (∀ x ∈ l, rightI x = true) → ∀ w, kItm.Rd w w.heap.size A c l → Calls Try.prog F #[.slice A n c] w (RetBX w 0 2 []))
def CReadC (F : FuncId) : Prop := ∀ (A : Option Addr) (c n : Nat) (b : List UInt8), n = b.length → n ≤ 1000000 → ∀ y z, readI b = (y, z) → ∀ (K : ByteArray) (r c' k p : Int) (d : Bool) (B : ByteArray), IsI y K r c' k p d B → ∀ w, RdB w w.heap.size A c b →
  Calls Try.prog F #[.slice A n c] w fun e w' => e = .returned (.tuple #[itV K r c' k p d B, .int .i64 z]) ∧ Below w.heap.size w w'
def RetIN (w : World) (N : Nat) (z : Int) (L : List Itm) (e : Ending) (w' : World) : Prop := ∃ A c, e = .returned (.tuple #[.slice A N c, .int .i64 z]) ∧ kItm.Rd w' w'.heap.size A c L ∧ Below w.heap.size w w'
theorem RetIE.named {w w' : World} {L : List Itm} {z : Int} {e : Ending} {N : Nat} (h : RetIE w L z e w') (hN : L.length = N) : RetIN w N z L e w' := by
  obtain ⟨A, c, n, h1, h2, h3, h4⟩ := h
  subst hN h2
  exact ⟨A, c, h1, h3, h4⟩
def CReadsC (F : FuncId) : Prop := ∀ (A : Option Addr) (c n : Nat) (b : List UInt8), n = b.length → n ≤ 1000000 → ∀ y z, readIs b = (y, z) → ∀ N, y.length = N → ∀ w, RdB w w.heap.size A c b → Calls Try.prog F #[.slice A n c] w (RetIN w N z y)
def ex19 : Itm := ⟨[97, 98], ⟨1, 2⟩, 3, 4, false, [99]⟩
theorem ex19_is : IsI ex19 ⟨#[97, 98]⟩ 1 2 3 4 false ⟨#[99]⟩ := ⟨rfl, rfl, rfl, rfl, rfl, rfl, rfl⟩
theorem ex19_b : itemB ex19 = [2, 97, 98, 1, 2, 3, 4, 0, 1, 99] := by
  simp only [itemB, restB, txtB, ex19, deadN, List.length_cons, List.length_nil]
  repeat rw [putV_small (by decide)]
  decide
set_option maxRecDepth 100000 in
set_option maxHeartbeats 4000000 in
theorem awake19 (HI : CItemC 8) (HS : CSizeC 10) (w : World) :
    Calls Try.prog 6 #[] w fun e w' => e = .returned (.bool true) ∧ Below w.heap.size w w' := by
  have P1 := fun w => Lib.hid ((HI ex19 _ _ _ _ _ _ _ ex19_is ⟨by decide, by decide⟩).1 (by decide +kernel) 10 _ ex19_b rfl w)
  have P2 := fun w => Lib.hid ((HS ex19 _ _ _ _ _ _ _ ex19_is ⟨by decide, by decide⟩).1 (by decide +kernel) 10 (by rw [ex19_b]; rfl) w)
  have HA := Lib.hid (itAt_new w ⟨#[97, 98]⟩ 1 2 3 4 false ⟨#[99]⟩)
  have HW := Lib.hid (below_new w (itO ⟨#[97, 98]⟩ 1 2 3 4 false ⟨#[99]⟩))
  clear HI HS
  go_enter Try.func6, Try.ntmps6
  go_upto_region 3 with ((with_reducible refine (P1 _).out.mono ?_); rintro e w8 ⟨A1, c1, rfl, hr, hq⟩; have HA8 := Lib.hid (HA.out.below hq); replace HW := Lib.hid (HW.out.trans (hq.mono (by simp))); have H1 := Lib.hid hr; obtain ⟨u0, u1, u2, u3, u4, u5, u6⟩ := HA8.out; clear hr hq)
  have E1 := fun (w : World) hb hc => Lib.hid (bytes_eq A1 (some ⟨w.heap.size, 0, none⟩) c1 10 10 [2, 97, 98, 1, 2, 3, 4, 0, 1, 99] rfl (by simp) (w.alloc (.cells #[.int .u8 2, .int .u8 97, .int .u8 98, .int .u8 1, .int .u8 2, .int .u8 3, .int .u8 4, .int .u8 0, .int .u8 1, .int .u8 99] 5)) hb hc)
  go_wp2_with (first
    | ((with_reducible refine (E1 _ (rdB_on H1.out (below_new _ _)) (rdB_fresh _ _ _ _ rfl rfl (by simp))).out.mono ?_); rintro e w7 ⟨rfl, hq⟩; have HA7 := Lib.hid ((HA8.out.below (below_new w8 _)).below hq); replace HW := Lib.hid (HW.out.trans (((below_new w8 _).trans (hq.mono (by rw [size1]; omega))).mono HW.out.size)); clear hq u0 u1 u2 u3 u4 u5 u6; obtain ⟨u0, u1, u2, u3, u4, u5, u6⟩ := HA7.out)
    | ((with_reducible refine (P2 _).out.mono ?_); rintro e w6 ⟨rfl, hq⟩; replace HW := Lib.hid (HW.out.trans (hq.mono HW.out.size)); clear hq))
  go_ret
  exact ⟨rfl, HW.out⟩
end Go.Proofs.Ytfpgklpnpplnnaa

namespace Go.Proofs.Ytfpgklpnpplnnaa
open Go.RowKit

theorem one_long (x : Itm) (K : ByteArray) (r c k p : Int) (d : Bool) (B : ByteArray) (hx : IsI x K r c k p d B) (v : Bool) (hv : longI 1 [x] = v) (w : World) :
    Calls Try.prog 7 #[.slice (some ⟨w.heap.size, 0, none⟩) 1 1, .int .i64 1] (w.alloc (itO K r c k p d B)) fun e w' => e = .returned (.bool v) ∧ Below w.heap.size w w' :=
  (ref_ilong 1 1 rfl (by omega) (some ⟨w.heap.size, 0, none⟩) 1 1 [x] rfl v hv _ (by
    obtain ⟨rfl, rfl, rfl, rfl, rfl, rfl, rfl⟩ := hx
    rw [size1]; exact Kind.rd_new (k := kItm) (l := [x]) rfl rfl (by simp))).mono fun _ _ ⟨h1, h2⟩ => ⟨h1, (below_new w _).trans (h2.mono (by simp))⟩
set_option maxRecDepth 100000 in
set_option maxHeartbeats 8000000 in
theorem icodeItems_walk (HI : CItemC 8) (HS : CSizeC 10) (HRD : CReadC 11) (x : Itm) (K : ByteArray) (r c k p : Int) (d : Bool) (B : ByteArray) (hx : IsI x K r c k p d B) (w : World) :
    Calls Try.prog 3 #[itV K r c k p d B] w fun e w' => e = .returned (.bool true) ∧ Below w.heap.size w w' := by
  have A0 := fun w => Lib.hid (awake19 HI HS w)
  obtain ⟨W, hW⟩ : ∃ W, w.alloc (itO K r c k p d B) = W := ⟨_, rfl⟩
  obtain ⟨g, hg⟩ : ∃ g, w.heap.size = g := ⟨_, rfl⟩
  have HA : Hid (ItAt W g K r c k p d B) := hW ▸ hg ▸ itAt_new w _ _ _ _ _ _ _
  have HW : Hid (Below w.heap.size w W) := hW ▸ below_new w _
  obtain ⟨la, hla⟩ : ∃ z, longI 1 [x] = z := ⟨_, rfl⟩
  obtain ⟨v, hv⟩ : ∃ v, rightI x = v := ⟨_, rfl⟩
  have LA := fun w => Lib.hid (one_long x K r c k p d B hx la hla w)
  cases la with
  | true =>
    clear HI HS HRD hx hla hv
    go_enter Try.func3, Try.ntmps3
    obtain ⟨p0, p1, p2, p3, p4, p5, p6⟩ := HA.out
    go_wp2_with (first
      | ((with_reducible refine (A0 _).out.mono ?_); rintro e w9 ⟨rfl, hq⟩; (try replace HB := Lib.hid (rdB_on HB.out hq)); (try replace HQ := Lib.hid (rdB_on HQ.out hq)); replace HA := Lib.hid (HA.out.below hq); clear p0 p1 p2 p3 p4 p5 p6; obtain ⟨p0, p1, p2, p3, p4, p5, p6⟩ := HA.out; (try (replace HX := Lib.hid (HX.out.below hq); clear y0 y1 y2 y3 y4 y5 y6; obtain ⟨y0, y1, y2, y3, y4, y5, y6⟩ := HX.out)); replace HW := Lib.hid (HW.out.trans (hq.mono HW.out.size)); clear hq)
      | ((with_reducible refine (LA _).out.mono ?_); rintro e w9 ⟨rfl, hq⟩; (try replace HB := Lib.hid (rdB_on HB.out hq)); (try replace HQ := Lib.hid (rdB_on HQ.out hq)); replace HA := Lib.hid (HA.out.below hq); clear p0 p1 p2 p3 p4 p5 p6; obtain ⟨p0, p1, p2, p3, p4, p5, p6⟩ := HA.out; (try (replace HX := Lib.hid (HX.out.below hq); clear y0 y1 y2 y3 y4 y5 y6; obtain ⟨y0, y1, y2, y3, y4, y5, y6⟩ := HX.out)); replace HW := Lib.hid (HW.out.trans (hq.mono HW.out.size)); clear hq))
    go_ret
    exact ⟨rfl, HW.out⟩
  | false =>
    have hsh : ShortI x := by
      have h := (longI_no hla).2 x (by simp)
      exact ⟨by omega, by omega⟩
    have CR := fun w => Lib.hid (ref_iright x K r c k p d B hx v hv w)
    have CI := HI x K r c k p d B hx hsh
    have CS := HS x K r c k p d B hx hsh
    cases v with
    | false =>
      have CI0 := fun w => Lib.hid (CI.2 hv w)
      have CS0 := fun w => Lib.hid (CS.2 hv w)
      clear HI HS HRD hx hla hv CI CS hsh
      go_enter Try.func3, Try.ntmps3
      obtain ⟨p0, p1, p2, p3, p4, p5, p6⟩ := HA.out
      go_wp2_with (first
        | ((with_reducible refine (A0 _).out.mono ?_); rintro e w9 ⟨rfl, hq⟩; (try replace HB := Lib.hid (rdB_on HB.out hq)); (try replace HQ := Lib.hid (rdB_on HQ.out hq)); replace HA := Lib.hid (HA.out.below hq); clear p0 p1 p2 p3 p4 p5 p6; obtain ⟨p0, p1, p2, p3, p4, p5, p6⟩ := HA.out; (try (replace HX := Lib.hid (HX.out.below hq); clear y0 y1 y2 y3 y4 y5 y6; obtain ⟨y0, y1, y2, y3, y4, y5, y6⟩ := HX.out)); replace HW := Lib.hid (HW.out.trans (hq.mono HW.out.size)); clear hq)
        | ((with_reducible refine (LA _).out.mono ?_); rintro e w9 ⟨rfl, hq⟩; (try replace HB := Lib.hid (rdB_on HB.out hq)); (try replace HQ := Lib.hid (rdB_on HQ.out hq)); replace HA := Lib.hid (HA.out.below hq); clear p0 p1 p2 p3 p4 p5 p6; obtain ⟨p0, p1, p2, p3, p4, p5, p6⟩ := HA.out; (try (replace HX := Lib.hid (HX.out.below hq); clear y0 y1 y2 y3 y4 y5 y6; obtain ⟨y0, y1, y2, y3, y4, y5, y6⟩ := HX.out)); replace HW := Lib.hid (HW.out.trans (hq.mono HW.out.size)); clear hq)
        | ((with_reducible refine (CI0 _).out.mono ?_); rintro e w9 ⟨AB, cB, rfl, hrd, hq⟩; (try replace HB := Lib.hid (rdB_on HB.out hq)); (try replace HQ := Lib.hid (rdB_on HQ.out hq)); replace HA := Lib.hid (HA.out.below hq); clear p0 p1 p2 p3 p4 p5 p6; obtain ⟨p0, p1, p2, p3, p4, p5, p6⟩ := HA.out; (try (replace HX := Lib.hid (HX.out.below hq); clear y0 y1 y2 y3 y4 y5 y6; obtain ⟨y0, y1, y2, y3, y4, y5, y6⟩ := HX.out)); replace HW := Lib.hid (HW.out.trans (hq.mono HW.out.size)); have HB := Lib.hid hrd; clear hrd hq)
        | ((with_reducible refine (CR _).out.mono ?_); rintro e w9 ⟨rfl, hq⟩; (try replace HB := Lib.hid (rdB_on HB.out hq)); (try replace HQ := Lib.hid (rdB_on HQ.out hq)); replace HA := Lib.hid (HA.out.below hq); clear p0 p1 p2 p3 p4 p5 p6; obtain ⟨p0, p1, p2, p3, p4, p5, p6⟩ := HA.out; (try (replace HX := Lib.hid (HX.out.below hq); clear y0 y1 y2 y3 y4 y5 y6; obtain ⟨y0, y1, y2, y3, y4, y5, y6⟩ := HX.out)); replace HW := Lib.hid (HW.out.trans (hq.mono HW.out.size)); clear hq)
        | ((with_reducible refine (CS0 _).out.mono ?_); rintro e w9 ⟨rfl, hq⟩; (try replace HB := Lib.hid (rdB_on HB.out hq)); (try replace HQ := Lib.hid (rdB_on HQ.out hq)); replace HA := Lib.hid (HA.out.below hq); clear p0 p1 p2 p3 p4 p5 p6; obtain ⟨p0, p1, p2, p3, p4, p5, p6⟩ := HA.out; (try (replace HX := Lib.hid (HX.out.below hq); clear y0 y1 y2 y3 y4 y5 y6; obtain ⟨y0, y1, y2, y3, y4, y5, y6⟩ := HX.out)); replace HW := Lib.hid (HW.out.trans (hq.mono HW.out.size)); clear hq))
      go_ret
      exact ⟨rfl, HW.out⟩
    | true =>
      obtain ⟨l, hl⟩ : ∃ l, itemB x = l := ⟨_, rfl⟩
      obtain ⟨N, hN⟩ : ∃ N, l.length = N := ⟨_, rfl⟩
      have hN9 : N ≤ 300 := by rw [← hN, ← hl]; exact itemB_len hv
      have CI1 := fun w => Lib.hid (CI.1 hv N l hl hN w)
      have CS1 := fun w => Lib.hid (CS.1 hv N (by rw [hl]; exact hN) w)
      have RD := fun A1 c1 w h => Lib.hid (HRD A1 c1 N l hN.symm (by omega) x 0 (hl ▸ readI_put hv) K r c k p d B hx w h)
      have RD := fun w {A1 c1} h => RD A1 c1 w h
      have RI := fun w => Lib.hid ((ref_iitem x hv K r c k p d B hx w).mono fun _ _ h => RetB.name h hl hN)
      have BE := fun A1 A2 c1 c2 w h1 h2 => Lib.hid (bytes_eq A1 A2 c1 c2 N l hN.symm (by omega) w h1 h2)
      have EQ := fun w => eq_itms x x K r c k p d B hx K r c k p d B hx true (eqI_iff.2 rfl) w
      clear HI HS HRD hx hla hv CI CS hsh hl hN hN9
      go_enter Try.func3, Try.ntmps3
      obtain ⟨p0, p1, p2, p3, p4, p5, p6⟩ := HA.out
      go_wp2_with (first
        | ((with_reducible refine (A0 _).out.mono ?_); rintro e w9 ⟨rfl, hq⟩; (try replace HB := Lib.hid (rdB_on HB.out hq)); (try replace HQ := Lib.hid (rdB_on HQ.out hq)); replace HA := Lib.hid (HA.out.below hq); clear p0 p1 p2 p3 p4 p5 p6; obtain ⟨p0, p1, p2, p3, p4, p5, p6⟩ := HA.out; (try (replace HX := Lib.hid (HX.out.below hq); clear y0 y1 y2 y3 y4 y5 y6; obtain ⟨y0, y1, y2, y3, y4, y5, y6⟩ := HX.out)); replace HW := Lib.hid (HW.out.trans (hq.mono HW.out.size)); clear hq)
        | ((with_reducible refine (LA _).out.mono ?_); rintro e w9 ⟨rfl, hq⟩; (try replace HB := Lib.hid (rdB_on HB.out hq)); (try replace HQ := Lib.hid (rdB_on HQ.out hq)); replace HA := Lib.hid (HA.out.below hq); clear p0 p1 p2 p3 p4 p5 p6; obtain ⟨p0, p1, p2, p3, p4, p5, p6⟩ := HA.out; (try (replace HX := Lib.hid (HX.out.below hq); clear y0 y1 y2 y3 y4 y5 y6; obtain ⟨y0, y1, y2, y3, y4, y5, y6⟩ := HX.out)); replace HW := Lib.hid (HW.out.trans (hq.mono HW.out.size)); clear hq)
        | ((with_reducible refine (CI1 _).out.mono ?_); rintro e w9 ⟨AB, cB, rfl, hrd, hq⟩; (try replace HB := Lib.hid (rdB_on HB.out hq)); (try replace HQ := Lib.hid (rdB_on HQ.out hq)); replace HA := Lib.hid (HA.out.below hq); clear p0 p1 p2 p3 p4 p5 p6; obtain ⟨p0, p1, p2, p3, p4, p5, p6⟩ := HA.out; (try (replace HX := Lib.hid (HX.out.below hq); clear y0 y1 y2 y3 y4 y5 y6; obtain ⟨y0, y1, y2, y3, y4, y5, y6⟩ := HX.out)); replace HW := Lib.hid (HW.out.trans (hq.mono HW.out.size)); have HB := Lib.hid hrd; clear hrd hq)
        | ((with_reducible refine (CR _).out.mono ?_); rintro e w9 ⟨rfl, hq⟩; (try replace HB := Lib.hid (rdB_on HB.out hq)); (try replace HQ := Lib.hid (rdB_on HQ.out hq)); replace HA := Lib.hid (HA.out.below hq); clear p0 p1 p2 p3 p4 p5 p6; obtain ⟨p0, p1, p2, p3, p4, p5, p6⟩ := HA.out; (try (replace HX := Lib.hid (HX.out.below hq); clear y0 y1 y2 y3 y4 y5 y6; obtain ⟨y0, y1, y2, y3, y4, y5, y6⟩ := HX.out)); replace HW := Lib.hid (HW.out.trans (hq.mono HW.out.size)); clear hq)
        | ((with_reducible refine (RD _ HB.out).out.mono ?_); rintro e w3 ⟨rfl, hq⟩; replace HA := Lib.hid ((HA.out.below hq).below (below_new w3 (itO K r c k p d B))); replace HB := Lib.hid (rdB_on (rdB_on HB.out hq) (below_new w3 (itO K r c k p d B))); have HX := Lib.hid (itAt_new w3 K r c k p d B); clear p0 p1 p2 p3 p4 p5 p6; obtain ⟨p0, p1, p2, p3, p4, p5, p6⟩ := HA.out; obtain ⟨y0, y1, y2, y3, y4, y5, y6⟩ := HX.out; replace HW := Lib.hid (HW.out.trans (hq.mono HW.out.size)); replace HW := Lib.hid (HW.out.alloc HW.out.size (itO K r c k p d B)); clear hq)
        | ((with_reducible refine (RI _).out.mono ?_); rintro e w9 ⟨AQ, cQ, rfl, hrd, hq⟩; (try replace HB := Lib.hid (rdB_on HB.out hq)); (try replace HQ := Lib.hid (rdB_on HQ.out hq)); replace HA := Lib.hid (HA.out.below hq); clear p0 p1 p2 p3 p4 p5 p6; obtain ⟨p0, p1, p2, p3, p4, p5, p6⟩ := HA.out; (try (replace HX := Lib.hid (HX.out.below hq); clear y0 y1 y2 y3 y4 y5 y6; obtain ⟨y0, y1, y2, y3, y4, y5, y6⟩ := HX.out)); replace HW := Lib.hid (HW.out.trans (hq.mono HW.out.size)); have HQ := Lib.hid hrd; clear hrd hq)
        | ((with_reducible refine (BE _ _ _ _ _ HB.out HQ.out).out.mono ?_); rintro e w9 ⟨rfl, hq⟩; (try replace HB := Lib.hid (rdB_on HB.out hq)); (try replace HQ := Lib.hid (rdB_on HQ.out hq)); replace HA := Lib.hid (HA.out.below hq); clear p0 p1 p2 p3 p4 p5 p6; obtain ⟨p0, p1, p2, p3, p4, p5, p6⟩ := HA.out; (try (replace HX := Lib.hid (HX.out.below hq); clear y0 y1 y2 y3 y4 y5 y6; obtain ⟨y0, y1, y2, y3, y4, y5, y6⟩ := HX.out)); replace HW := Lib.hid (HW.out.trans (hq.mono HW.out.size)); clear hq)
        | ((with_reducible refine (CS1 _).out.mono ?_); rintro e w9 ⟨rfl, hq⟩; (try replace HB := Lib.hid (rdB_on HB.out hq)); (try replace HQ := Lib.hid (rdB_on HQ.out hq)); replace HA := Lib.hid (HA.out.below hq); clear p0 p1 p2 p3 p4 p5 p6; obtain ⟨p0, p1, p2, p3, p4, p5, p6⟩ := HA.out; (try (replace HX := Lib.hid (HX.out.below hq); clear y0 y1 y2 y3 y4 y5 y6; obtain ⟨y0, y1, y2, y3, y4, y5, y6⟩ := HX.out)); replace HW := Lib.hid (HW.out.trans (hq.mono HW.out.size)); clear hq))
      go_ret
      exact ⟨rfl, HW.out⟩
end Go.Proofs.Ytfpgklpnpplnnaa

namespace Go.Proofs.Ytfpgklpnpplnnaa
open Go.RowKit

set_option maxRecDepth 100000 in
set_option maxHeartbeats 8000000 in
theorem icodeReads_walk (HI : CItemC 8) (HS : CSizeC 10) (HRD : CReadC 11) (HRS : CReadsC 15) (A : Option Addr) (c n : Nat) (b : List UInt8) (hn : n = b.length) (w : World) (hr : RdB w w.heap.size A c b) :
    Calls Try.prog 5 #[.slice A n c] w fun e w' => e = .returned (.bool true) ∧ Below w.heap.size w w' := by
  have A0 := fun w => Lib.hid (awake19 HI HS w)
  have HW := Lib.hid (Below.refl w.heap.size w)
  have HR := Lib.hid hr
  by_cases hlong : 1500 < n
  · have hd : decide ((1500 : Int) < (n : Int)) = true := decide_eq_true (by omega)
    have hd2 : decide ((n : Int) > 1500) = true := hd
    have hd3 : decide (1500 < n) = true := decide_eq_true hlong
    clear HI HS HRD HRS hn hr
    go_enter Try.func5, Try.ntmps5
    go_wp2_with (first
      | ((with_reducible refine (A0 _).out.mono ?_); rintro e w9 ⟨rfl, hq⟩; replace HR := Lib.hid (rdB_on HR.out hq); (try replace HQ := Lib.hid (rdB_on HQ.out hq)); (try replace HL := Lib.hid (HL.out.call hq)); (try replace HM := Lib.hid (HM.out.call hq)); (try (replace HX := Lib.hid (HX.out.below hq)); (try clear p0 p1 p2 p3 p4 p5 p6); (try obtain ⟨p0, p1, p2, p3, p4, p5, p6⟩ := HX.out)); (try (replace HZ := Lib.hid (HZ.out.below hq)); (try clear y0 y1 y2 y3 y4 y5 y6); (try obtain ⟨y0, y1, y2, y3, y4, y5, y6⟩ := HZ.out)); replace HW := Lib.hid (HW.out.trans (hq.mono HW.out.size)); clear hq))
    go_ret
    exact ⟨rfl, HW.out⟩
  · have hd : decide ((1500 : Int) < (n : Int)) = false := decide_eq_false (by omega)
    have hd2 : decide ((n : Int) > 1500) = false := hd
    have hd3 : decide (1500 < n) = false := decide_eq_false hlong
    obtain ⟨y, z, hy⟩ : ∃ y z, readI b = (y, z) := ⟨_, _, rfl⟩
    obtain ⟨m, zz, hm⟩ : ∃ y z, readIs b = (y, z) := ⟨_, _, rfl⟩
    obtain ⟨N, hN⟩ : ∃ N, m.length = N := ⟨_, rfl⟩
    obtain ⟨K, r, c', k, p, d, B, hI⟩ : ∃ K r c k p d B, IsI y K r c k p d B := ⟨_, _, _, _, _, _, _, IsI.mk' y⟩
    have X1 := fun w h => Lib.hid (HRD A c n b hn (by omega) y z hy K r c' k p d B hI w h)
    have X2 := fun w h => Lib.hid (ref_irdi A c n b hn (by omega) y z hy K r c' k p d B hI w h)
    have L1 := fun w h => Lib.hid (HRS A c n b hn (by omega) m zz hm N hN w h)
    have L2 := fun w h => Lib.hid ((ref_irdis A c n b hn (by omega) m zz hm w h).mono fun _ _ h => RetIE.named h hN)
    have SS := fun A1 B1 c1 d1 w h1 h2 => Lib.hid (ref_isame A1 B1 c1 d1 N N m m hN.symm hN.symm true (sameI_iff.2 rfl) w h1 h2)
    have EQ := fun w => eq_itms y y K r c' k p d B hI K r c' k p d B hI true (eqI_iff.2 rfl) w
    have BE := fun A1 c1 w h1 h2 => Lib.hid (bytes_eq A1 A c1 c n b hn (by omega) w h1 h2)
    have RI := fun (h0 : z = 0) w => Lib.hid ((ref_iitem y (readI_back (h0 ▸ hy)).2 K r c' k p d B hI w).mono fun _ _ h => RetB.name h (readI_back (h0 ▸ hy)).1 hn.symm)
    have RS := fun (h0 : zz = 0) A1 c1 w hr => Lib.hid ((ref_iitems A1 c1 N m hN.symm (by have := (readIs_back (h0 ▸ hm)).2.2; omega) (readIs_back (h0 ▸ hm)).2.1 w hr).mono fun _ _ h => RetB.name h (readIs_back (h0 ▸ hm)).1 hn.symm)
    clear HI HS HRD HRS hn hr hy hm hN hI
    refine (Decidable.em (z = 0)).elim (fun h1 => (Decidable.em (zz = 0)).elim (fun h2 => ?pp) (fun h2 => ?pn)) (fun h1 => (Decidable.em (zz = 0)).elim (fun h2 => ?np) (fun h2 => ?nn))
    case' pp =>
      subst h1 h2
      replace RI := RI rfl
      replace RS := RS rfl
    case' pn =>
      subst h1
      replace RI := RI rfl
      have e1 : (zz == 0) = false := beq_eq_false_iff_ne.2 h2
      have e2 : (zz != 0) = true := by rw [bne, e1]; rfl
      clear RS
    case' np =>
      subst h2
      replace RS := RS rfl
      have f1 : (z == 0) = false := beq_eq_false_iff_ne.2 h1
      have f2 : (z != 0) = true := by rw [bne, f1]; rfl
      clear RI
    case' nn =>
      have e1 : (zz == 0) = false := beq_eq_false_iff_ne.2 h2
      have e2 : (zz != 0) = true := by rw [bne, e1]; rfl
      have f1 : (z == 0) = false := beq_eq_false_iff_ne.2 h1
      have f2 : (z != 0) = true := by rw [bne, f1]; rfl
      clear RI RS
    all_goals
      go_enter Try.func5, Try.ntmps5
      go_wp2_with (first
        | ((with_reducible refine (A0 _).out.mono ?_); rintro e w9 ⟨rfl, hq⟩; replace HR := Lib.hid (rdB_on HR.out hq); (try replace HQ := Lib.hid (rdB_on HQ.out hq)); (try replace HL := Lib.hid (HL.out.call hq)); (try replace HM := Lib.hid (HM.out.call hq)); (try (replace HX := Lib.hid (HX.out.below hq)); (try clear p0 p1 p2 p3 p4 p5 p6); (try obtain ⟨p0, p1, p2, p3, p4, p5, p6⟩ := HX.out)); (try (replace HZ := Lib.hid (HZ.out.below hq)); (try clear y0 y1 y2 y3 y4 y5 y6); (try obtain ⟨y0, y1, y2, y3, y4, y5, y6⟩ := HZ.out)); replace HW := Lib.hid (HW.out.trans (hq.mono HW.out.size)); clear hq)
        | ((with_reducible refine (X1 _ HR.out).out.mono ?_); rintro e w3 ⟨rfl, hq⟩; replace HR := Lib.hid (rdB_on (rdB_on HR.out hq) (below_new w3 (itO K r c' k p d B))); have HX := Lib.hid (itAt_new w3 K r c' k p d B); obtain ⟨p0, p1, p2, p3, p4, p5, p6⟩ := HX.out; replace HW := Lib.hid (HW.out.trans (hq.mono HW.out.size)); replace HW := Lib.hid (HW.out.alloc HW.out.size (itO K r c' k p d B)); clear hq)
        | ((with_reducible refine (X2 _ HR.out).out.mono ?_); rintro e w4 ⟨rfl, hq⟩; replace HR := Lib.hid (rdB_on (rdB_on HR.out hq) (below_new w4 (itO K r c' k p d B))); replace HX := Lib.hid ((HX.out.below hq).below (below_new w4 (itO K r c' k p d B))); clear p0 p1 p2 p3 p4 p5 p6; obtain ⟨p0, p1, p2, p3, p4, p5, p6⟩ := HX.out; have HZ := Lib.hid (itAt_new w4 K r c' k p d B); obtain ⟨y0, y1, y2, y3, y4, y5, y6⟩ := HZ.out; replace HW := Lib.hid (HW.out.trans (hq.mono HW.out.size)); replace HW := Lib.hid (HW.out.alloc HW.out.size (itO K r c' k p d B)); clear hq)
        | ((with_reducible refine (L1 _ HR.out).out.mono ?_); rintro e w9 ⟨AL, cL, rfl, hrd, hq⟩; (try clear HL); replace HR := Lib.hid (rdB_on HR.out hq); (try replace HQ := Lib.hid (rdB_on HQ.out hq)); (try replace HM := Lib.hid (HM.out.call hq)); (try (replace HX := Lib.hid (HX.out.below hq)); (try clear p0 p1 p2 p3 p4 p5 p6); (try obtain ⟨p0, p1, p2, p3, p4, p5, p6⟩ := HX.out)); (try (replace HZ := Lib.hid (HZ.out.below hq)); (try clear y0 y1 y2 y3 y4 y5 y6); (try obtain ⟨y0, y1, y2, y3, y4, y5, y6⟩ := HZ.out)); replace HW := Lib.hid (HW.out.trans (hq.mono HW.out.size)); have HL := Lib.hid hrd; clear hrd hq)
        | ((with_reducible refine (L2 _ HR.out).out.mono ?_); rintro e w9 ⟨AM, cM, rfl, hrd, hq⟩; (try clear HM); replace HR := Lib.hid (rdB_on HR.out hq); (try replace HQ := Lib.hid (rdB_on HQ.out hq)); (try replace HL := Lib.hid (HL.out.call hq)); (try (replace HX := Lib.hid (HX.out.below hq)); (try clear p0 p1 p2 p3 p4 p5 p6); (try obtain ⟨p0, p1, p2, p3, p4, p5, p6⟩ := HX.out)); (try (replace HZ := Lib.hid (HZ.out.below hq)); (try clear y0 y1 y2 y3 y4 y5 y6); (try obtain ⟨y0, y1, y2, y3, y4, y5, y6⟩ := HZ.out)); replace HW := Lib.hid (HW.out.trans (hq.mono HW.out.size)); have HM := Lib.hid hrd; clear hrd hq)
        | ((with_reducible refine (SS _ _ _ _ _ HL.out HM.out).out.mono ?_); rintro e w9 ⟨rfl, hq⟩; replace HR := Lib.hid (rdB_on HR.out hq); (try replace HQ := Lib.hid (rdB_on HQ.out hq)); (try replace HL := Lib.hid (HL.out.call hq)); (try replace HM := Lib.hid (HM.out.call hq)); (try (replace HX := Lib.hid (HX.out.below hq)); (try clear p0 p1 p2 p3 p4 p5 p6); (try obtain ⟨p0, p1, p2, p3, p4, p5, p6⟩ := HX.out)); (try (replace HZ := Lib.hid (HZ.out.below hq)); (try clear y0 y1 y2 y3 y4 y5 y6); (try obtain ⟨y0, y1, y2, y3, y4, y5, y6⟩ := HZ.out)); replace HW := Lib.hid (HW.out.trans (hq.mono HW.out.size)); clear hq)
        | ((with_reducible refine (RI _).out.mono ?_); rintro e w9 ⟨AQ, cQ, rfl, hrd, hq⟩; (try clear HQ); replace HR := Lib.hid (rdB_on HR.out hq); (try replace HL := Lib.hid (HL.out.call hq)); (try replace HM := Lib.hid (HM.out.call hq)); (try (replace HX := Lib.hid (HX.out.below hq)); (try clear p0 p1 p2 p3 p4 p5 p6); (try obtain ⟨p0, p1, p2, p3, p4, p5, p6⟩ := HX.out)); (try (replace HZ := Lib.hid (HZ.out.below hq)); (try clear y0 y1 y2 y3 y4 y5 y6); (try obtain ⟨y0, y1, y2, y3, y4, y5, y6⟩ := HZ.out)); replace HW := Lib.hid (HW.out.trans (hq.mono HW.out.size)); have HQ := Lib.hid hrd; clear hrd hq)
        | ((with_reducible refine (RS _ _ _ HL.out).out.mono ?_); rintro e w9 ⟨AQ, cQ, rfl, hrd, hq⟩; (try clear HQ); replace HR := Lib.hid (rdB_on HR.out hq); (try replace HL := Lib.hid (HL.out.call hq)); (try replace HM := Lib.hid (HM.out.call hq)); (try (replace HX := Lib.hid (HX.out.below hq)); (try clear p0 p1 p2 p3 p4 p5 p6); (try obtain ⟨p0, p1, p2, p3, p4, p5, p6⟩ := HX.out)); (try (replace HZ := Lib.hid (HZ.out.below hq)); (try clear y0 y1 y2 y3 y4 y5 y6); (try obtain ⟨y0, y1, y2, y3, y4, y5, y6⟩ := HZ.out)); replace HW := Lib.hid (HW.out.trans (hq.mono HW.out.size)); have HQ := Lib.hid hrd; clear hrd hq)
        | ((with_reducible refine (BE _ _ _ HQ.out HR.out).out.mono ?_); rintro e w9 ⟨rfl, hq⟩; replace HR := Lib.hid (rdB_on HR.out hq); (try replace HQ := Lib.hid (rdB_on HQ.out hq)); (try replace HL := Lib.hid (HL.out.call hq)); (try replace HM := Lib.hid (HM.out.call hq)); (try (replace HX := Lib.hid (HX.out.below hq)); (try clear p0 p1 p2 p3 p4 p5 p6); (try obtain ⟨p0, p1, p2, p3, p4, p5, p6⟩ := HX.out)); (try (replace HZ := Lib.hid (HZ.out.below hq)); (try clear y0 y1 y2 y3 y4 y5 y6); (try obtain ⟨y0, y1, y2, y3, y4, y5, y6⟩ := HZ.out)); replace HW := Lib.hid (HW.out.trans (hq.mono HW.out.size)); clear hq))
      go_ret
      exact ⟨rfl, HW.out⟩
end Go.Proofs.Ytfpgklpnpplnnaa

namespace Go.Proofs.Ytfpgklpnpplnnaa
open Go.RowKit

set_option maxRecDepth 100000 in
set_option maxHeartbeats 8000000 in
theorem icodeLists_walk (HI : CItemC 8) (HS : CSizeC 10) (HIS : CItemsC 14) (HRS : CReadsC 15) (A : Option Addr) (c n : Nat) (l : List Itm) (hn : n = l.length) (w : World) (hl : kItm.Rd w w.heap.size A c l) :
    Calls Try.prog 4 #[.slice A n c] w fun e w' => e = .returned (.bool true) ∧ Below w.heap.size w w' := by
  have A0 := fun w => Lib.hid (awake19 HI HS w)
  have HW := Lib.hid (Below.refl w.heap.size w)
  have HL := Lib.hid hl
  have HN := Lib.hid hn
  have hmx := rd_maxI hl hn
  have hcx : n ≤ c := by rw [hn]; exact hl.room
  obtain ⟨la, hla⟩ : ∃ z, longI 60 l = z := ⟨_, rfl⟩
  have LA := fun w h => Lib.hid (ref_ilong 60 60 rfl (by omega) A c n l hn la hla w h)
  cases la with
  | true =>
    clear HI HS HIS HRS hn hl hla
    go_enter Try.func4, Try.ntmps4
    go_wp2_with (first
      | ((with_reducible refine (A0 _).out.mono ?_); rintro e w9 ⟨rfl, hq⟩; (try replace HL := Lib.hid (HL.out.call hq)); (try replace HB := Lib.hid (rdB_on HB.out hq)); (try replace HQ := Lib.hid (rdB_on HQ.out hq)); (try replace HM := Lib.hid (HM.out.call hq)); replace HW := Lib.hid (HW.out.trans (hq.mono HW.out.size)); clear hq)
      | ((with_reducible refine (LA _ HL.out).out.mono ?_); rintro e w9 ⟨rfl, hq⟩; (try replace HL := Lib.hid (HL.out.call hq)); (try replace HB := Lib.hid (rdB_on HB.out hq)); (try replace HQ := Lib.hid (rdB_on HQ.out hq)); (try replace HM := Lib.hid (HM.out.call hq)); replace HW := Lib.hid (HW.out.trans (hq.mono HW.out.size)); clear hq))
    go_ret
    exact ⟨rfl, HW.out⟩
  | false =>
    have hlo := longI_no hla
    have CI := HIS A c n l hn (by omega) fun x hx => ⟨by have := hlo.2 x hx; omega, by have := hlo.2 x hx; omega⟩
    by_cases hall : ∀ x ∈ l, rightI x = true
    · have HALL := Lib.hid hall
      obtain ⟨b, hb⟩ : ∃ b, itemsB l = b := ⟨_, rfl⟩
      obtain ⟨N, hN⟩ : ∃ N, b.length = N := ⟨_, rfl⟩
      have hN9 : N ≤ 20000 := by
        rw [← hN, ← hb, itemsB, List.length_append]
        have h1 := listB_len (l := l) (was := []) (by simp) hall
        have h2 := putV_len10 l.length (by omega)
        omega
      have CI1 := fun w h => Lib.hid (CI.1 hall N b hb hN w h)
      have RD := fun A1 c1 w h => Lib.hid (HRS A1 c1 N b hN.symm (by omega) l 0 (hb ▸ readIs_put hall (by omega)) n hn.symm w h)
      have RI := fun w h => Lib.hid ((ref_iitems A c n l hn (by omega) hall w h).mono fun _ _ h => RetB.name h hb hN)
      have BE := fun A1 A2 c1 c2 w h1 h2 => Lib.hid (bytes_eq A1 A2 c1 c2 N b hN.symm (by omega) w h1 h2)
      have SS := fun A1 B1 c1 d1 w h1 h2 => Lib.hid (ref_isame A1 B1 c1 d1 n n l l hn hn true (sameI_iff.2 rfl) w h1 h2)
      clear HI HS HIS HRS hn hl hla hlo CI hall hb hN hN9
      go_enter Try.func4, Try.ntmps4
      go_wp2_with (first
        | ((with_reducible refine (A0 _).out.mono ?_); rintro e w9 ⟨rfl, hq⟩; (try replace HL := Lib.hid (HL.out.call hq)); (try replace HB := Lib.hid (rdB_on HB.out hq)); (try replace HQ := Lib.hid (rdB_on HQ.out hq)); (try replace HM := Lib.hid (HM.out.call hq)); replace HW := Lib.hid (HW.out.trans (hq.mono HW.out.size)); clear hq)
        | ((with_reducible refine (LA _ HL.out).out.mono ?_); rintro e w9 ⟨rfl, hq⟩; (try replace HL := Lib.hid (HL.out.call hq)); (try replace HB := Lib.hid (rdB_on HB.out hq)); (try replace HQ := Lib.hid (rdB_on HQ.out hq)); (try replace HM := Lib.hid (HM.out.call hq)); replace HW := Lib.hid (HW.out.trans (hq.mono HW.out.size)); clear hq)
        | ((with_reducible refine (CI1 _ HL.out).out.mono ?_); rintro e w9 ⟨AB, cB, rfl, hrd, hq⟩; (try replace HL := Lib.hid (HL.out.call hq)); (try replace HB := Lib.hid (rdB_on HB.out hq)); (try replace HQ := Lib.hid (rdB_on HQ.out hq)); (try replace HM := Lib.hid (HM.out.call hq)); replace HW := Lib.hid (HW.out.trans (hq.mono HW.out.size)); have HB := Lib.hid hrd; clear hrd hq))
      go_loopw [20] (fun i wr => ∃ k : Nat, k ≤ n ∧ i = .int .i64 k ∧ Hid (∀ x ∈ l.take k, rightI x = true) ∧ Hid (kItm.Rd wr wr.heap.size A c l) ∧ Hid (RdB wr wr.heap.size AB cB b) ∧ Hid (Below w.heap.size w wr)) (fun i _ => n - (intOf i).toNat)
      case atStart => exact ⟨0, by omega, rfl, fun x hx => by simp at hx, HL, HB, HW⟩
      case round =>
        clear HL HW HB
        obtain ⟨k, hk, rfl, HP, HL, HB, HW⟩ := hrel
        by_cases hlt : k < n
        · obtain ⟨x, hg, hd, hxm⟩ := get_some (l := l) (k := k) (by have := HN.out; omega)
          obtain ⟨bb, o, rfl, hb1, hcell⟩ := itms_at HL.out (by have := HN.out; omega)
          obtain ⟨p0, p1, p2, p3, p4, p5, p6⟩ := hcell k x hg
          obtain ⟨K, r, cc, rk, pp, d, S, hI⟩ : ∃ K r c k p d B, IsI x K r c k p d B := ⟨_, _, _, _, _, _, _, IsI.mk' x⟩
          rw [hI.key] at p0
          rw [hI.rep] at p1
          rw [hI.cnt] at p2
          rw [hI.rank] at p3
          rw [hI.prio] at p4
          rw [hI.dead] at p5
          rw [hI.body] at p6
          obtain ⟨v, hv⟩ : ∃ v, rightI x = v := ⟨_, rfl⟩
          have CR := fun w => Lib.hid (ref_iright x K r cc rk pp d S hI v hv w)
          have hk0 : (0 : Int) ≤ (k : Int) := by omega
          have hkn : (k : Int) < (n : Int) := by omega
          obtain ⟨w4, hw4⟩ : ∃ w4, wr.alloc (itO K r cc rk pp d S) = w4 := ⟨_, rfl⟩
          have HL4 := Lib.hid (show kItm.Rd w4 w4.heap.size (some ⟨bb, o, none⟩) c l from hw4 ▸ HL.out.call (below_new wr _))
          have HW4 := Lib.hid (show Below w.heap.size w w4 from hw4 ▸ HW.out.alloc HW.out.size _)
          have HB4 := Lib.hid (show RdB w4 w4.heap.size AB cB b from hw4 ▸ rdB_on HB.out (below_new wr _))
          have HI4 := Lib.hid (itAt_new wr K r cc rk pp d S)
          rw [hw4] at HI4
          obtain ⟨y0, y1, y2, y3, y4, y5, y6⟩ := HI4.out
          have HPN := Lib.hid (fun (h : v = true) => show ∀ y ∈ l.take (k + 1), rightI y = true from fun y hy => (itake_mem hg hy).elim (HP.out y) fun e => e ▸ hv.trans h)
          obtain rfl : v = true := hv.symm.trans (HALL.out x hxm)
          clear hcell hg hd hxm hI hv HL HW HB
          go_wp2_with ((with_reducible refine (CR _).out.mono ?_); rintro e w5 ⟨rfl, hq⟩; have HL5 := Lib.hid (HL4.out.call hq); have HW5 := Lib.hid (HW4.out.trans (hq.mono HW4.out.size)); have HB5 := Lib.hid (rdB_on HB4.out hq); clear hq)
          go_roundw
          case rel => exact ⟨k + 1, by omega, by go_num, HPN.out (by first | rfl | trivial), HL5, HB5, HW5⟩
          case measure => simp [intOf]; omega
        · obtain rfl : k = n := by omega
          go_wp2_with (first
            | ((with_reducible refine (RD _ _ _ HB.out).out.mono ?_); rintro e w9 ⟨AM, cM, rfl, hrd, hq⟩; (try replace HL := Lib.hid (HL.out.call hq)); (try replace HB := Lib.hid (rdB_on HB.out hq)); (try replace HQ := Lib.hid (rdB_on HQ.out hq)); (try replace HM := Lib.hid (HM.out.call hq)); replace HW := Lib.hid (HW.out.trans (hq.mono HW.out.size)); have HM := Lib.hid hrd; clear hrd hq)
            | ((with_reducible refine (RI _ HL.out).out.mono ?_); rintro e w9 ⟨AQ, cQ, rfl, hrd, hq⟩; (try replace HL := Lib.hid (HL.out.call hq)); (try replace HB := Lib.hid (rdB_on HB.out hq)); (try replace HQ := Lib.hid (rdB_on HQ.out hq)); (try replace HM := Lib.hid (HM.out.call hq)); replace HW := Lib.hid (HW.out.trans (hq.mono HW.out.size)); have HQ := Lib.hid hrd; clear hrd hq)
            | ((with_reducible refine (BE _ _ _ _ _ HB.out HQ.out).out.mono ?_); rintro e w9 ⟨rfl, hq⟩; (try replace HL := Lib.hid (HL.out.call hq)); (try replace HB := Lib.hid (rdB_on HB.out hq)); (try replace HQ := Lib.hid (rdB_on HQ.out hq)); (try replace HM := Lib.hid (HM.out.call hq)); replace HW := Lib.hid (HW.out.trans (hq.mono HW.out.size)); clear hq)
            | ((with_reducible refine (SS _ _ _ _ _ HM.out HL.out).out.mono ?_); rintro e w9 ⟨rfl, hq⟩; (try replace HL := Lib.hid (HL.out.call hq)); (try replace HB := Lib.hid (rdB_on HB.out hq)); (try replace HQ := Lib.hid (rdB_on HQ.out hq)); (try replace HM := Lib.hid (HM.out.call hq)); replace HW := Lib.hid (HW.out.trans (hq.mono HW.out.size)); clear hq))
          go_ret
          exact ⟨rfl, HW.out⟩
    · have HBAD := Lib.hid hall
      have CI0 := fun w h => Lib.hid (CI.2 hall w h)
      clear HI HS HIS HRS hn hl hla hlo CI hall
      go_enter Try.func4, Try.ntmps4
      go_wp2_with (first
        | ((with_reducible refine (A0 _).out.mono ?_); rintro e w9 ⟨rfl, hq⟩; (try replace HL := Lib.hid (HL.out.call hq)); (try replace HB := Lib.hid (rdB_on HB.out hq)); (try replace HQ := Lib.hid (rdB_on HQ.out hq)); (try replace HM := Lib.hid (HM.out.call hq)); replace HW := Lib.hid (HW.out.trans (hq.mono HW.out.size)); clear hq)
        | ((with_reducible refine (LA _ HL.out).out.mono ?_); rintro e w9 ⟨rfl, hq⟩; (try replace HL := Lib.hid (HL.out.call hq)); (try replace HB := Lib.hid (rdB_on HB.out hq)); (try replace HQ := Lib.hid (rdB_on HQ.out hq)); (try replace HM := Lib.hid (HM.out.call hq)); replace HW := Lib.hid (HW.out.trans (hq.mono HW.out.size)); clear hq)
        | ((with_reducible refine (CI0 _ HL.out).out.mono ?_); rintro e w9 ⟨AB, cB, rfl, hrd, hq⟩; (try replace HL := Lib.hid (HL.out.call hq)); (try replace HB := Lib.hid (rdB_on HB.out hq)); (try replace HQ := Lib.hid (rdB_on HQ.out hq)); (try replace HM := Lib.hid (HM.out.call hq)); replace HW := Lib.hid (HW.out.trans (hq.mono HW.out.size)); have HB := Lib.hid hrd; clear hrd hq))
      go_loopw [20] (fun i wr => ∃ k : Nat, k ≤ n ∧ i = .int .i64 k ∧ Hid (∀ x ∈ l.take k, rightI x = true) ∧ Hid (kItm.Rd wr wr.heap.size A c l) ∧ Hid (Below w.heap.size w wr)) (fun i _ => n - (intOf i).toNat)
      case atStart => exact ⟨0, by omega, rfl, fun x hx => by simp at hx, HL, HW⟩
      case round =>
        clear HL HW
        obtain ⟨k, hk, rfl, HP, HL, HW⟩ := hrel
        by_cases hlt : k < n
        · obtain ⟨x, hg, hd, hxm⟩ := get_some (l := l) (k := k) (by have := HN.out; omega)
          obtain ⟨bb, o, rfl, hb1, hcell⟩ := itms_at HL.out (by have := HN.out; omega)
          obtain ⟨p0, p1, p2, p3, p4, p5, p6⟩ := hcell k x hg
          obtain ⟨K, r, cc, rk, pp, d, S, hI⟩ : ∃ K r c k p d B, IsI x K r c k p d B := ⟨_, _, _, _, _, _, _, IsI.mk' x⟩
          rw [hI.key] at p0
          rw [hI.rep] at p1
          rw [hI.cnt] at p2
          rw [hI.rank] at p3
          rw [hI.prio] at p4
          rw [hI.dead] at p5
          rw [hI.body] at p6
          obtain ⟨v, hv⟩ : ∃ v, rightI x = v := ⟨_, rfl⟩
          have CR := fun w => Lib.hid (ref_iright x K r cc rk pp d S hI v hv w)
          have hk0 : (0 : Int) ≤ (k : Int) := by omega
          have hkn : (k : Int) < (n : Int) := by omega
          obtain ⟨w4, hw4⟩ : ∃ w4, wr.alloc (itO K r cc rk pp d S) = w4 := ⟨_, rfl⟩
          have HL4 := Lib.hid (show kItm.Rd w4 w4.heap.size (some ⟨bb, o, none⟩) c l from hw4 ▸ HL.out.call (below_new wr _))
          have HW4 := Lib.hid (show Below w.heap.size w w4 from hw4 ▸ HW.out.alloc HW.out.size _)
          have HI4 := Lib.hid (itAt_new wr K r cc rk pp d S)
          rw [hw4] at HI4
          obtain ⟨y0, y1, y2, y3, y4, y5, y6⟩ := HI4.out
          have HPN := Lib.hid (fun (h : v = true) => show ∀ y ∈ l.take (k + 1), rightI y = true from fun y hy => (itake_mem hg hy).elim (HP.out y) fun e => e ▸ hv.trans h)
          clear hcell hg hd hxm hI hv HL HW
          cases v with
          | true =>
            go_wp2_with ((with_reducible refine (CR _).out.mono ?_); rintro e w5 ⟨rfl, hq⟩; have HL5 := Lib.hid (HL4.out.call hq); have HW5 := Lib.hid (HW4.out.trans (hq.mono HW4.out.size)); clear hq)
            go_roundw
            case rel => exact ⟨k + 1, by omega, by go_num, HPN.out (by first | rfl | trivial), HL5, HW5⟩
            case measure => simp [intOf]; omega
          | false =>
            go_wp2_with ((with_reducible refine (CR _).out.mono ?_); rintro e w5 ⟨rfl, hq⟩; have HL5 := Lib.hid (HL4.out.call hq); have HW5 := Lib.hid (HW4.out.trans (hq.mono HW4.out.size)); clear hq)
            go_ret
            exact ⟨rfl, HW5.out⟩
        · exfalso
          exact HBAD.out (by have h := HP.out; rwa [List.take_of_length_le (by have := HN.out; omega)] at h)
end Go.Proofs.Ytfpgklpnpplnnaa
