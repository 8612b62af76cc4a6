/-
  MemberAnswers, walked. (Written by gen_an.py.)
-/
import Derived.Test.YtbdefmjjhkonjaaRc
import Derived.Test.YtbdefmjjhkonjaaMgM
import Derived.Test.YtbdefmjjhkonjaaNw
namespace Go.Proofs.Ytbdefmjjhkonjaa
open Go Go.RowKit
set_option linter.unusedVariables false

theorem gd_set_self {L : List Ent} {i : Nat} (h : i < L.length) (e : Ent) : gd (L.set i e) i = e := by
  unfold gd
  simp [h]
theorem gd_set_ne {L : List Ent} {i j : Nat} (h : i ≠ j) (e : Ent) : gd (L.set i e) j = gd L j := by
  unfold gd
  simp [List.getElem?_set_ne h]
/-- what learning makes of each entry -/
theorem lrn_gd (me : Nat) (ck : Int) (T L : List Ent) (Z : List Int) (d : Int) : ∀ k, k ≤ L.length →
    (lrn me ck T L Z d k).1.length = L.length ∧ ∀ i, gd (lrn me ck T L Z d k).1 i = if i < k ∧ i ≠ me then jn (gd L i) (gd T i) else gd L i
  | 0, _ => ⟨rfl, fun i => by simp [lrn]⟩
  | k + 1, h => by
    obtain ⟨h1, h2⟩ := lrn_gd me ck T L Z d k (by omega)
    rw [lrn_succ]
    unfold lst
    by_cases hk : k = me
    · rw [if_pos hk]
      refine ⟨h1, fun i => ?_⟩
      rw [h2 i]
      by_cases hi : i < k ∧ i ≠ me
      · rw [if_pos hi, if_pos ⟨by omega, hi.2⟩]
      · rw [if_neg hi, if_neg (by omega)]
    · rw [if_neg hk]
      refine ⟨by simp [h1], fun i => ?_⟩
      by_cases hik : k = i
      · subst hik
        rw [gd_set_self (by rw [h1]; omega), h2 k, if_neg (by omega), if_pos ⟨by omega, hk⟩]
      · rw [gd_set_ne hik, h2 i]
        by_cases hi : i < k ∧ i ≠ me
        · rw [if_pos hi, if_pos ⟨by omega, hi.2⟩]
        · rw [if_neg hi, if_neg (by omega)]
theorem nw_jn_r (a b : Ent) : nw b (jn a b) = false := by
  unfold jn
  cases h : nw b a with
  | true => simpa using nw_self b
  | false => simpa using h
theorem msg_set0 (k f t s o g k' : Int) (tv : Value) (R : List Value) : (msg k f t s o g tv R).toArray.setIfInBounds 0 (.int .u8 k') = (msg k' f t s o g tv R).toArray := by rw [List.setIfInBounds_toArray]; rfl
theorem msg_set1 (k f t s o g f' : Int) (tv : Value) (R : List Value) : (msg k f t s o g tv R).toArray.setIfInBounds 1 (.int .i64 f') = (msg k f' t s o g tv R).toArray := by rw [List.setIfInBounds_toArray]; rfl
theorem msg_set2 (k f t s o g t' : Int) (tv : Value) (R : List Value) : (msg k f t s o g tv R).toArray.setIfInBounds 2 (.int .i64 t') = (msg k f t' s o g tv R).toArray := by rw [List.setIfInBounds_toArray]; rfl
theorem ent_eqq (x s x' s' : Int) (w : World) : (Go.binOp .eql 36 (.agg #[.int .u64 x, .int .u8 s]) (.agg #[.int .u64 x', .int .u8 s'])).run Try.prog w = .ok (.bool ((x == x') && (s == s'))) w := by
  rw [run_eql_struct, ent_eql]; rfl

set_option maxRecDepth 100000 in
set_option maxHeartbeats 8000000 in
theorem answers_walk (HK : ∀ wx : World, Calls Try.prog 17 #[] wx fun e w' => e = .returned (.bool true) ∧ Below wx.heap.size wx w') (sf fr k f t s o g : Int) (a : Option Addr) (n c : Nat) (T : List Ent) (R : List Value) (w : World) (hT : Tb w (.slice a n c) T) (hR : R.length = 109) :
    Calls Try.prog 9 #[.int .i64 sf, .int .i64 fr, .agg (msg k f t s o g (.slice a n c) R).toArray] w fun e w' => e = .returned (.bool true) ∧ Below w.heap.size w w' := by
  obtain ⟨b0, hb0⟩ : ∃ y, y = w.heap.size := ⟨_, rfl⟩
  obtain ⟨w1, hw1⟩ : ∃ y, y = w.alloc (.cells (msg k f t s o g (.slice a n c) R).toArray 56) := ⟨_, rfl⟩
  have hb1 : Below w.heap.size w w1 := by rw [hw1]; exact (Below.refl _ _).alloc (Nat.le_refl _) _
  have HX := hid (show w1.heap[b0]? = some (.cells (msg k f t s o g (.slice a n c) R).toArray 56 (0, 0)) by rw [hw1, hb0]; exact heap_new _ _)
  have HT := hid (hT.below hb1)
  have HB := hid hb1
  have hbl := lt_of_heap HX.out
  obtain ⟨x0, x1, x2, x3, x4, x5, x6⟩ := msg_cells HX.out
  have lT := hid hT.len
  have HT0 := hid hT
  clear hT hb1
  go_enter Try.func9, Try.ntmps9
  go_upto_region 1 with fail
  rw [← hw1, ← hb0]
  have HBW := hid (show b0 = w.heap.size from hb0)
  clear hw1 hb0
  by_cases h1 : n < 2
  case pos =>
    go_wp2_with fail
    with_reducible refine (HK _).mono ?_
    rintro e wk ⟨rfl, hbk⟩
    have HB := hid (HB.out.trans (hbk.mono HB.out.size))
    go_wp2
    go_ret
    exact ⟨rfl, HB.out⟩
  by_cases h2 : 16 < n
  case pos =>
    go_wp2_with fail
    with_reducible refine (HK _).mono ?_
    rintro e wk ⟨rfl, hbk⟩
    have HB := hid (HB.out.trans (hbk.mono HB.out.size))
    go_wp2
    go_ret
    exact ⟨rfl, HB.out⟩
  go_wp2_with fail
  with_reducible refine (own2 a n c T _ HT.out (by omega)).mono ?_
  rintro e w2 ⟨a2, c2, rfl, ht2, hf2, hb2⟩
  have HT2 := hid ht2
  have HX2 := hid ((hb2.block _ hbl).trans HX.out)
  have HT := hid (HT.out.below hb2)
  have HB := hid (HB.out.trans (hb2.mono HB.out.size))
  clear ht2 hf2 hb2 HX x0 x1 x2 x3 x4 x5 x6
  have hvd := Valid_any a2 n c2 T _ HT2.out (by omega)
  have hbl := lt_of_heap HX2.out
  obtain ⟨x0, x1, x2, x3, x4, x5, x6⟩ := msg_cells HX2.out
  cases hv : vld T with
  | false =>
    rw [hv] at hvd
    go_wp2_with fail
    with_reducible refine hvd.mono ?_
    rintro e w3 ⟨rfl, hb3⟩
    have HB := hid (HB.out.trans (hb3.mono HB.out.size))
    go_wp2_with fail
    with_reducible refine (HK _).mono ?_
    rintro e wk ⟨rfl, hbk⟩
    have HB := hid (HB.out.trans (hbk.mono HB.out.size))
    go_wp2
    go_ret
    exact ⟨rfl, HB.out⟩
  | true =>
    rw [hv] at hvd
    go_wp2_with fail
    with_reducible refine hvd.mono ?_
    rintro e w3 ⟨rfl, hb3⟩
    have HX3 := hid ((hb3.block _ hbl).trans HX2.out)
    have HT := hid (HT.out.below hb3)
    have HB := hid (HB.out.trans (hb3.mono HB.out.size))
    clear hb3 hvd HX2 HT2 x0 x1 x2 x3 x4 x5 x6
    obtain ⟨x0, x1, x2, x3, x4, x5, x6⟩ := msg_cells HX3.out
    have hbl := lt_of_heap HX3.out
    by_cases c1 : sf < 0
    case pos =>
      go_wp2_with fail
      with_reducible refine (HK _).mono ?_
      rintro e wk ⟨rfl, hbk⟩
      have HB := hid (HB.out.trans (hbk.mono HB.out.size))
      go_wp2
      go_ret
      exact ⟨rfl, HB.out⟩
    by_cases c2 : (n : Int) ≤ sf
    case pos =>
      go_wp2_with fail
      with_reducible refine (HK _).mono ?_
      rintro e wk ⟨rfl, hbk⟩
      have HB := hid (HB.out.trans (hbk.mono HB.out.size))
      go_wp2
      go_ret
      exact ⟨rfl, HB.out⟩
    by_cases c3 : fr < 0
    case pos =>
      go_wp2_with fail
      with_reducible refine (HK _).mono ?_
      rintro e wk ⟨rfl, hbk⟩
      have HB := hid (HB.out.trans (hbk.mono HB.out.size))
      go_wp2
      go_ret
      exact ⟨rfl, HB.out⟩
    by_cases c4 : (n : Int) ≤ fr
    case pos =>
      go_wp2_with fail
      with_reducible refine (HK _).mono ?_
      rintro e wk ⟨rfl, hbk⟩
      have HB := hid (HB.out.trans (hbk.mono HB.out.size))
      go_wp2
      go_ret
      exact ⟨rfl, HB.out⟩
    by_cases c5 : fr = sf
    case pos =>
      have c6 : (fr == sf) = true := by simp [c5]
      clear c5
      go_wp2_with fail
      with_reducible refine (HK _).mono ?_
      rintro e wk ⟨rfl, hbk⟩
      have HB := hid (HB.out.trans (hbk.mono HB.out.size))
      go_wp2
      go_ret
      exact ⟨rfl, HB.out⟩
    have c6 : (fr == sf) = false := by simpa using c5
    by_cases c7 : o < 0
    case pos =>
      go_wp2_with fail
      with_reducible refine (HK _).mono ?_
      rintro e wk ⟨rfl, hbk⟩
      have HB := hid (HB.out.trans (hbk.mono HB.out.size))
      go_wp2
      go_ret
      exact ⟨rfl, HB.out⟩
    by_cases c8 : (n : Int) ≤ o
    case pos =>
      go_wp2_with fail
      with_reducible refine (HK _).mono ?_
      rintro e wk ⟨rfl, hbk⟩
      have HB := hid (HB.out.trans (hbk.mono HB.out.size))
      go_wp2
      go_ret
      exact ⟨rfl, HB.out⟩
    obtain ⟨me, hme⟩ := Int.eq_ofNat_of_zero_le (show 0 ≤ sf by omega)
    obtain ⟨ff, hff⟩ := Int.eq_ofNat_of_zero_le (show 0 ≤ fr by omega)
    obtain ⟨oo, hoo⟩ := Int.eq_ofNat_of_zero_le (show 0 ≤ o by omega)
    have hmn : me < n := by omega
    have hfn : ff < n := by omega
    have hon : oo < n := by omega
    have hfm : ff ≠ me := by omega
    subst hme
    subst hff
    subst hoo
    clear c5
    go_wp2_with fail
    with_reducible refine (New_ok me n 7 _ (by omega) (by omega) hmn (by omega)).mono ?_
    rintro e w4 ⟨mb, tb, sb, rfl, hM, hmb, htb, hsb, hb4⟩
    have HX4 := hid ((hb4.block _ hbl).trans HX3.out)
    have HT := hid (HT.out.below hb4)
    have HB := hid (HB.out.trans (hb4.mono HB.out.size))
    have HM := hid hM
    clear hM hb4 HX3 x0 x1 x2 x3 x4 x5 x6
    obtain ⟨x0, x1, x2, x3, x4, x5, x6⟩ := msg_cells HX4.out
    have f0 : w4.frozen? ⟨b0, 0, none⟩ = false := free_of_heap HX4.out 0
    have f1 : w4.frozen? ⟨b0, 1, none⟩ = false := free_of_heap HX4.out 1
    have f2 : w4.frozen? ⟨b0, 2, none⟩ = false := free_of_heap HX4.out 2
    go_upto_region 8 with fail
    obtain ⟨ta, tao, rfl, htl⟩ := HT0.out.addr (by omega)
    have HMB := hid (show b0 < mb ∧ b0 < tb ∧ b0 < sb from by omega)
    have HX5 := hid (show (((w4.setCell ⟨b0, 0, none⟩ (.int .u8 1)).setCell ⟨b0, 1, none⟩ (.int .i64 ff)).setCell ⟨b0, 2, none⟩ (.int .i64 me)).heap[b0]? = some (.cells (msg 1 ff me s oo g (.slice (some ⟨ta, tao, none⟩) n c) R).toArray 56 (0, 0)) from by rw [heap_set (heap_set (heap_set HX4.out _ _) _ _), msg_set0, msg_set1, msg_set2])
    have HK5 := hid ((((Held.refl [b0] w4).setCell (p := ⟨b0, 0, none⟩) (by simp) (.int .u8 1)).setCell (p := ⟨b0, 1, none⟩) (by simp) (.int .i64 ff)).setCell (p := ⟨b0, 2, none⟩) (by simp) (.int .i64 me))
    obtain ⟨w5, hw5⟩ : ∃ y, y = ((w4.setCell ⟨b0, 0, none⟩ (.int .u8 1)).setCell ⟨b0, 1, none⟩ (.int .i64 ff)).setCell ⟨b0, 2, none⟩ (.int .i64 me) := ⟨_, rfl⟩
    rw [← hw5] at HX5 HK5 ⊢
    have hs5 : w5.heap.size = w4.heap.size := by rw [hw5]; simp
    clear hw5 x0 x1 x2 x3 x4 x5 x6 f0 f1 f2 HX4
    have HM5 := hid (HM.out.held HK5.out (by have := HMB.out; simp; omega) (by have := HMB.out; simp; omega) (by have := HMB.out; simp; omega))
    have HT5 := hid (HT.out.held HK5.out (by show ta ∉ _; have := HBW.out; simp; omega))
    have HB5 := hid (HB.out.trans (HK5.out.below (B := w.heap.size) (by have := HB.out.size; omega) (fun b hb => by simp at hb; have := HBW.out; omega)))
    clear HM HT HB HK5
    have HL := hid (show gd ((List.replicate n ((0, 0) : Ent)).set me (7, 1)) me = (7, 1) from gd_set_self (by simpa using hmn) _)
    have HLL := hid (show ((List.replicate n ((0, 0) : Ent)).set me (7, 1)).length = n from by simp)
    have h4 : ((gd ((List.replicate n ((0, 0) : Ent)).set me (7, 1)) me).2 == 4) = false := by rw [HL.out]; rfl
    obtain ⟨M, hM⟩ : ∃ M, M = msg 1 ff me s oo g (.slice (some ⟨ta, tao, none⟩) n c) R := ⟨_, rfl⟩
    have HIM := hid (info_msg 1 ff me s oo g (.slice (some ⟨ta, tao, none⟩) n c) R hR)
    have HXM := hid HX5.out
    have HRC := hid (receive_ping ff oo s g (some ⟨ta, tao, none⟩) c R T w5 HM5.out HT5.out hv hfn hfm hon hmn (by omega) (by omega) hR h4)
    rw [← hM] at HIM HXM HRC
    clear hM h4
    go_wp2_with (first | (refine wpList_load_mid (by rfl) 56 (.tmp 5) (by rfl) b0 0 (by rfl) M _ (range_of_heap HXM.out) Try.underlying56 rfl HIM.out ?_))
    refine HRC.out.mono ?_
    rintro e w6 ⟨gb, v, rfl, hM6, hG6, hO6, hg6, hH6⟩
    clear hM6 HRC HIM HXM HM5
    obtain ⟨vb, vc, rfl, hvb1, hvb2⟩ := hO6.form (by omega)
    obtain ⟨hTv, hTl⟩ := tb_of_owns hO6
    have hlr := lrn_gd me 0 T ((List.replicate n ((0, 0) : Ent)).set me (7, 1)) (List.replicate n 0) 0 n (by rw [HLL.out]; exact Nat.le_refl _)
    obtain ⟨Rr, hRr⟩ : ∃ y, y = (lrn me 0 T ((List.replicate n ((0, 0) : Ent)).set me (7, 1)) (List.replicate n 0) 0 n).1 := ⟨_, rfl⟩
    rw [← hRr] at hTv hlr
    clear hRr hTl hO6
    have HNW := hid (show ∀ i, i < n → i ≠ me → nw (gd T i) (gd Rr i) = false from fun i hi hne => by rw [hlr.2 i, if_pos ⟨hi, hne⟩]; exact nw_jn_r _ _)
    have HME := hid (show gd Rr me = (7, 1) from by rw [hlr.2 me, if_neg (fun h => h.2 rfl)]; exact HL.out)
    clear hlr
    have HTV := hid hTv
    have HX6 := hid (hH6.heap HX5.out (by have := HMB.out; simp; omega))
    have HT6 := hid (HT5.out.held hH6 (by show ta ∉ _; have := HMB.out; have := HBW.out; simp; omega))
    have HB6 := hid (HB5.out.trans (hH6.below (B := w.heap.size) (by have := HB5.out.size; omega) (fun b hb => by simp at hb; have := HMB.out; have := HBW.out; omega)))
    have HG6 := hid hG6
    clear hTv hG6 hH6 HX5 HT5 HB5
    obtain ⟨y0, y1, y2, y3, y4, y5, y6⟩ := HG6.out.cells
    obtain ⟨x0, x1, x2, x3, x4, x5, x6⟩ := msg_cells HX6.out
    go_wp2_with fail
    go_quiet (fail)
    have HTV7 := hid (HTV.out.below (bel_drewN (Below.refl _ _) nq))
    have HX7 := hid (show (w6.drewN nq).heap[b0]? = _ from HX6.out)
    have HT7 := hid (HT6.out.below (bel_drewN (Below.refl _ _) nq))
    have HB7 := hid (bel_drewN HB6.out nq)
    have HG7 := hid (show MsgAt (w6.drewN nq) gb 2 me ff s oo 0 (.slice (some ⟨vb, 0, none⟩) n vc) rest0 from HG6.out.same rfl)
    obtain ⟨w7, hw7⟩ : ∃ y, y = w6.drewN nq := ⟨_, rfl⟩
    rw [← hw7] at HTV7 HX7 HT7 HB7 HG7 ⊢
    clear hw7 HTV HX6 HT6 HB6 HG6 x0 x1 x2 x3 x4 x5 x6 y0 y1 y2 y3 y4 y5 y6
    go_upto_region 11 with fail
    go_wp2_with fail
    go_loopw [11] (fun iv wr => ∃ i : Nat, i ≤ n ∧ iv = .int .i64 i ∧ Hid (Below w7.heap.size w7 wr)) (fun iv _ => n - (intOf iv).toNat)
    case atStart => exact ⟨0, by omega, rfl, hid (Below.refl _ _)⟩
    case round =>
      obtain ⟨i, hi, rfl, HR⟩ := hrel
      by_cases hlt : i < n
      · by_cases him : i = me
        · have hne : ((i : Int) != (me : Int)) = false := by simp [him]
          clear him
          go_upto_region 14 with fail
          go_quiet (fail)
          have HR2 := hid (bel_drewN HR.out nq)
          go_wp2
          exact ⟨⟨i + 1, by omega, by go_num, HR2⟩, by simp [intOf]; omega⟩
        · have hne : ((i : Int) != (me : Int)) = true := by simp; omega
          have p0 : ∀ p : Cls (fun w' => Below wr.heap.size wr w'), p.w.cell? ⟨b0, 6, none⟩ = some (.slice (some ⟨ta, tao, none⟩) n c) := fun p => (msg_cells (((HR.out.trans (p.h.mono HR.out.size)).block _ (lt_of_heap HX7.out)).trans HX7.out)).2.2.2.2.2.2
          have p1 : ∀ p : Cls (fun w' => Below wr.heap.size wr w'), p.w.cell? ⟨gb, 6, none⟩ = some (.slice (some ⟨vb, 0, none⟩) n vc) := fun p => (HG7.out.same ((HR.out.trans (p.h.mono HR.out.size)).block _ HG7.out.lt)).cells.2.2.2.2.2.2
          have t0 := fun p : Cls (fun w' => Below wr.heap.size wr w') => ((HT7.out.below (HR.out.trans (p.h.mono HR.out.size))).cells i hlt).1
          have t1 := fun p : Cls (fun w' => Below wr.heap.size wr w') => ((HT7.out.below (HR.out.trans (p.h.mono HR.out.size))).cells i hlt).2
          have v0 := fun p : Cls (fun w' => Below wr.heap.size wr w') => ((HTV7.out.below (HR.out.trans (p.h.mono HR.out.size))).cells i hlt).1
          have v1 := fun p : Cls (fun w' => Below wr.heap.size wr w') => ((HTV7.out.below (HR.out.trans (p.h.mono HR.out.size))).cells i hlt).2
          simp only [Nat.zero_add] at v0 v1
          have N1 := hid (show ∀ wx : World, Calls Try.prog 27 #[.agg #[.int .u64 (gd T i).1, .int .u8 (gd T i).2], .agg #[.int .u64 (gd Rr i).1, .int .u8 (gd Rr i).2]] wx fun e w' => e = .returned (.bool false) ∧ Below wx.heap.size wx w' from fun wx => by
            have h := Newer_any (gd T i).1 (gd T i).2 (gd Rr i).1 (gd Rr i).2 wx
            rw [show nw ((gd T i).1, (gd T i).2) ((gd Rr i).1, (gd Rr i).2) = false from HNW.out i hlt him] at h
            exact h)
          clear him
          generalize (gd T i).1 = z1 at *
          generalize (gd T i).2 = z2 at *
          generalize (gd Rr i).1 = z3 at *
          generalize (gd Rr i).2 = z4 at *
          have hnem : Nonempty (Cls fun w' => Below wr.heap.size wr w') := ⟨⟨wr, Below.refl _ _⟩⟩
          go_upto_region 14 with fail
          refine wp_region_class_lit (G := fun w' => Below wr.heap.size wr w') (by kernel_rfl) (by kernel_rfl) (bel_drewN (Below.refl _ _) 1) ?_
          repeat (go_big_quiet_step ((go_at_call 27; with_reducible exact Calls.cls (N1.out _))))
          refine wpQuiet_nil ?_
          rintro _ ⟨p, rfl⟩
          have HR2 := hid (HR.out.trans (p.h.mono HR.out.size))
          go_wp2
          exact ⟨⟨i + 1, by omega, by go_num, HR2⟩, by simp [intOf]; omega⟩
      · obtain rfl : i = n := by omega
        have q1 : wr.cell? ⟨gb, 6, none⟩ = some (.slice (some ⟨vb, 0, none⟩) i vc) := (HG7.out.same (HR.out.block _ HG7.out.lt)).cells.2.2.2.2.2.2
        obtain ⟨v0, v1⟩ := (HTV7.out.below HR.out).cells me hmn
        rw [HME.out] at v0 v1
        simp only [Nat.zero_add] at v0 v1
        have heq := fun w => ent_eqq 7 1 7 1 w
        have hgd : Try.prog.eqGuardType Try.prog.depth 36 = false := by kernel_rfl
        go_wp2_with fail
        with_reducible refine (HK _).mono ?_
        rintro e wk ⟨rfl, hbk⟩
        have HBF := hid (HB7.out.trans ((HR.out.trans (hbk.mono HR.out.size)).mono HB7.out.size))
        go_wp2
        go_ret
        exact ⟨rfl, HBF.out⟩
end Go.Proofs.Ytbdefmjjhkonjaa
