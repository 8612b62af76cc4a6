/-
  MemberRefutes, walked. (Written by gen_rf.py.)
-/
import Derived.Test.YtbdefmjjhkonjaaRfM
namespace Go.Proofs.Ytbdefmjjhkonjaa
open Go Go.RowKit
set_option linter.unusedVariables false

set_option maxRecDepth 100000 in
set_option maxHeartbeats 8000000 in
theorem refutes_walk (HK : ∀ wx : World, Calls Try.prog 17 #[] wx fun e w' => e = .returned (.bool true) ∧ Below wx.heap.size wx w') (sf fr : Int) (a : Option Addr) (n c : Nat) (T : List Ent) (w : World) (hT : Tb w (.slice a n c) T) (hz : n ≤ 8796093022208) :
    Calls Try.prog 10 #[.int .i64 sf, .int .i64 fr, .slice a n c] w fun e w' => e = .returned (.bool true) ∧ Below w.heap.size w w' := by
  have HT := hid hT
  have HT0 := hid hT
  have HB := hid (Below.refl w.heap.size w)
  have lT := hid hT.len
  clear hT
  go_enter Try.func10, Try.ntmps10
  by_cases h1 : n < 2
  case pos =>
    go_wp2_with fail
    with_reducible refine (HK _).mono ?_
    rintro e wk ⟨rfl, hbk⟩
    have HB := hid (HB.out.trans (hbk.mono HB.out.size))
    go_wp2
    go_ret
    exact ⟨rfl, HB.out⟩
  by_cases h2 : 16 < n
  case pos =>
    go_wp2_with fail
    with_reducible refine (HK _).mono ?_
    rintro e wk ⟨rfl, hbk⟩
    have HB := hid (HB.out.trans (hbk.mono HB.out.size))
    go_wp2
    go_ret
    exact ⟨rfl, HB.out⟩
  go_wp2_with fail
  with_reducible refine (own2 a n c T _ HT.out (by omega)).mono ?_
  rintro e w2 ⟨a2, c2, rfl, ht2, hf2, hb2⟩
  have HT2 := hid ht2
  have HT := hid (HT.out.below hb2)
  have HB := hid (HB.out.trans (hb2.mono HB.out.size))
  clear ht2 hf2 hb2
  have hvd := Valid_any a2 n c2 T _ HT2.out (by omega)
  cases hv : vld T with
  | false =>
    rw [hv] at hvd
    go_wp2_with fail
    with_reducible refine hvd.mono ?_
    rintro e w3 ⟨rfl, hb3⟩
    have HB := hid (HB.out.trans (hb3.mono HB.out.size))
    go_wp2_with fail
    with_reducible refine (HK _).mono ?_
    rintro e wk ⟨rfl, hbk⟩
    have HB := hid (HB.out.trans (hbk.mono HB.out.size))
    go_wp2
    go_ret
    exact ⟨rfl, HB.out⟩
  | true =>
    rw [hv] at hvd
    go_wp2_with fail
    with_reducible refine hvd.mono ?_
    rintro e w3 ⟨rfl, hb3⟩
    have HT := hid (HT.out.below hb3)
    have HB := hid (HB.out.trans (hb3.mono HB.out.size))
    clear hb3 hvd HT2
    by_cases c1 : sf < 0
    case pos =>
      go_wp2_with fail
      with_reducible refine (HK _).mono ?_
      rintro e wk ⟨rfl, hbk⟩
      have HB := hid (HB.out.trans (hbk.mono HB.out.size))
      go_wp2
      go_ret
      exact ⟨rfl, HB.out⟩
    by_cases c2 : (n : Int) ≤ sf
    case pos =>
      go_wp2_with fail
      with_reducible refine (HK _).mono ?_
      rintro e wk ⟨rfl, hbk⟩
      have HB := hid (HB.out.trans (hbk.mono HB.out.size))
      go_wp2
      go_ret
      exact ⟨rfl, HB.out⟩
    by_cases c3 : fr < 0
    case pos =>
      go_wp2_with fail
      with_reducible refine (HK _).mono ?_
      rintro e wk ⟨rfl, hbk⟩
      have HB := hid (HB.out.trans (hbk.mono HB.out.size))
      go_wp2
      go_ret
      exact ⟨rfl, HB.out⟩
    by_cases c4 : (n : Int) ≤ fr
    case pos =>
      go_wp2_with fail
      with_reducible refine (HK _).mono ?_
      rintro e wk ⟨rfl, hbk⟩
      have HB := hid (HB.out.trans (hbk.mono HB.out.size))
      go_wp2
      go_ret
      exact ⟨rfl, HB.out⟩
    by_cases c5 : fr = sf
    case pos =>
      have c6 : (fr == sf) = true := by simp [c5]
      clear c5
      go_wp2_with fail
      with_reducible refine (HK _).mono ?_
      rintro e wk ⟨rfl, hbk⟩
      have HB := hid (HB.out.trans (hbk.mono HB.out.size))
      go_wp2
      go_ret
      exact ⟨rfl, HB.out⟩
    have c6 : (fr == sf) = false := by simpa using c5
    obtain ⟨me, hme⟩ := Int.eq_ofNat_of_zero_le (show 0 ≤ sf by omega)
    obtain ⟨ff, hff⟩ := Int.eq_ofNat_of_zero_le (show 0 ≤ fr by omega)
    have hmn : me < n := by omega
    have hfn : ff < n := by omega
    have hfm : ff ≠ me := by omega
    subst hme
    subst hff
    clear c5
    obtain ⟨ta, tao, rfl, htl⟩ := HT0.out.addr (by omega)
    obtain ⟨X, hX⟩ : ∃ y, y = (gd T me).1 := ⟨_, rfl⟩
    obtain ⟨St, hSt⟩ : ∃ y, y = (gd T me).2 := ⟨_, rfl⟩
    have HG := hid (show gd T me = (X, St) by rw [hX, hSt])
    clear hX hSt
    have HCT := hid (fun (wx : World) (h : Tb wx (.slice (some ⟨ta, tao, none⟩) n c) T) => show wx.cell? ⟨ta, tao + me * 2, none⟩ = some (.int .u64 X) ∧ wx.cell? ⟨ta, tao + me * 2 + 1, none⟩ = some (.int .u8 St) from by have hh := h.cells me hmn; rw [HG.out] at hh; exact hh)
    obtain ⟨t0, t1⟩ := HCT.out _ HT.out
    by_cases c7 : 4611686018427387904 < X
    case pos =>
      go_wp2_with fail
      with_reducible refine (HK _).mono ?_
      rintro e wk ⟨rfl, hbk⟩
      have HB := hid (HB.out.trans (hbk.mono HB.out.size))
      go_wp2
      go_ret
      exact ⟨rfl, HB.out⟩
    go_wp2_with fail
    with_reducible refine (New_ok me n 3 _ (by omega) (by omega) hmn (by omega)).mono ?_
    rintro e w4 ⟨mb, tb, sb, rfl, hM, hmb, htb, hsb, hb4⟩
    have HTB := hid (show ta < mb ∧ ta < tb ∧ ta < sb from by have := HB.out.size; omega)
    have HMB := hid (show w.heap.size ≤ mb ∧ w.heap.size ≤ tb ∧ w.heap.size ≤ sb from by have := HB.out.size; omega)
    have HT := hid (HT.out.below hb4)
    have HB := hid (HB.out.trans (hb4.mono HB.out.size))
    have HM := hid hM
    clear hM hb4 t0 t1 hmb htb hsb
    have HLL := hid (show ((List.replicate n ((0, 0) : Ent)).set me (3, 1)).length = n from by simp)
    have HL := hid (show gd ((List.replicate n ((0, 0) : Ent)).set me (3, 1)) me = (3, 1) from gd_set_self (by simpa using hmn) _)
    have h4 : ((gd ((List.replicate n ((0, 0) : Ent)).set me (3, 1)) me).2 == 4) = false := by rw [HL.out]; rfl
    have HRC := hid (receive_ack (me := me) ff 0 0 (some ⟨ta, tao, none⟩) c rest0 T w4 HM.out HT.out hv hfn hfm hmn (by omega) (by omega) rest0_length h4)
    have hE : (((((Try.zeroCells56.setIfInBounds 0 (.int .u8 2)).setIfInBounds 1 (.int .i64 ff)).setIfInBounds 2 (.int .i64 me)).setIfInBounds 4 (.int .i64 me)).setIfInBounds 6 (.slice (some ⟨ta, tao, none⟩) n c)) = (msg 2 ff me 0 me 0 (.slice (some ⟨ta, tao, none⟩) n c) rest0).toArray := by kernel_rfl
    clear h4 HM
    go_wp2_with fail

    clear hE
    refine HRC.out.mono ?_
    rintro e w5 ⟨rfl, hM5, hH5⟩
    have hlr := lrn_gd me 0 T ((List.replicate n ((0, 0) : Ent)).set me (3, 1)) (List.replicate n 0) 0 n (by rw [HLL.out]; exact Nat.le_refl _)
    have hld := lrn_dare me 0 T ((List.replicate n ((0, 0) : Ent)).set me (3, 1)) (List.replicate n 0) 0 n (by rw [HLL.out]; exact Nat.le_refl _)
    rw [HL.out, HG.out] at hld
    have HVR := hid (fun (J : Int) (hJ : J ≠ 0) => vld_refute (me := me) (ck := 0) hv lT.out hmn hJ)
    have hlen := hlr.1
    rw [HLL.out] at hlen
    have hgm := hlr.2 me
    rw [if_neg (fun h => h.2 rfl), HL.out] at hgm
    obtain ⟨rr, hrr⟩ : ∃ y, y = lrn me 0 T ((List.replicate n ((0, 0) : Ent)).set me (3, 1)) (List.replicate n 0) 0 n := ⟨_, rfl⟩
    rw [← hrr] at hM5 hld HVR hlen hgm
    clear hrr hlr
    obtain ⟨Rr, Zr, dd⟩ := rr
    have HM5 := hid (show Mc w5 mb tb sb n me Rr Zr 0 (.slice none 0 0) 0 me dd from hM5)
    have HVR := hid (show ∀ J : Int, J ≠ 0 → vld (Rr.set me (J, 1)) = true from HVR.out)
    have HGM := hid (show gd Rr me = (3, 1) from hgm)
    have HLN := hid (show Rr.length = n from hlen)
    have hldd : dd = if me < n ∧ nw (X, St) (3, 1) = true then max 0 X else 0 := hld
    clear hld
    have HT5 := hid (HT.out.held hH5 (by show ta ∉ _; have := HTB.out; simp; omega))
    have HB5 := hid (HB.out.trans (hH5.below (B := w.heap.size) (by have := HB.out.size; omega) (fun b hb => by simp at hb; have := HMB.out; omega)))
    clear hM5 hH5 HRC HT HB hlen hgm
    obtain ⟨t0, t1⟩ := HCT.out _ HT5.out
    have hgd : Try.prog.eqGuardType Try.prog.depth 36 = false := by kernel_rfl
    cases hp : nw (X, St) (3, 1) with
    | true =>
      have hx3 : 3 ≤ X := by
        unfold nw at hp
        by_cases e : X = 3
        · omega
        · rw [if_neg e] at hp; simp at hp; omega
      rw [if_pos ⟨hmn, hp⟩] at hldd
      have hdx : dd = X := by omega
      clear hldd
      subst hdx
      have b1 : (dd != 0) = true := by simp; omega
      have b2 : (dd != dd) = false := by simp
      have b3 : decide (dd < 3) = false := by simp; omega
      have HNW := hid (fun wx => Newer_any dd St 3 1 wx)
      rw [hp] at HNW
      go_wp2_with fail
      with_reducible refine (HNW.out _).mono ?_
      rintro e w6 ⟨rfl, hb6⟩
      have HM6 := hid (HM5.out.below hb6)
      have HT6 := hid (HT5.out.below hb6)
      have HB6 := hid (HB5.out.trans (hb6.mono HB5.out.size))
      clear hb6 t0 t1 HM5 HT5 HB5 HNW
      obtain ⟨t0, t1⟩ := HCT.out _ HT6.out
      go_wp2_with fail
      go_quiet ((go_at_call 48; exact Calls.quiet_of_same (Challenge_any _ (HM6.out.drewN _))))
      have HM7 := hid (HM6.out.drewN nq)
      have HT7 := hid (HT6.out.below (bel_drewN (Below.refl _ _) nq))
      have HB7 := hid (bel_drewN HB6.out nq)
      obtain ⟨w7, hw7⟩ : ∃ y, y = w6.drewN nq := ⟨_, rfl⟩
      rw [← hw7] at HM7 HT7 HB7 ⊢
      clear hw7 HM6 HT6 HB6 t0 t1
      go_wp2_with fail
      with_reducible refine (Challenge_any _ HM7.out).mono ?_
      rintro e w8 ⟨rfl, hw8⟩
      subst hw8
      have hg4 : ((gd Rr me).2 == 4) = false := by rw [HGM.out]; rfl
      have HE := hid (Reinc_err (inc := dd) w8 HM7.out hmn hg4 (by rw [HGM.out]; right; exact Int.le_refl _))
      go_wp2_with fail
      refine HE.out.mono ?_
      rintro e w9 ⟨rfl, q9, hq9⟩
      have HM9 := hid (show Mc w9 mb tb sb n me Rr Zr 0 (.slice none 0 0) 0 me dd from by rw [hq9]; exact HM7.out.drewN q9)
      have HT9 := hid (HT7.out.below (show Below w8.heap.size w8 w9 from by rw [hq9]; exact bel_drewN (Below.refl _ _) q9))
      have HB9 := hid (show Below w.heap.size w w9 from by rw [hq9]; exact bel_drewN HB7.out q9)
      clear hq9 HE HM7 HT7 HB7
      have HO := hid (Reinc_ok (inc := (dd + 1)) w9 HM9.out hmn hg4 (by rw [HGM.out]; show (3 : Int) < _; omega) (by omega))
      clear hg4
      go_wp2_with fail
      refine HO.out.mono ?_
      rintro e w10 ⟨rfl, hM10, hH10⟩
      have HM10 := hid hM10
      have HT10 := hid (HT9.out.held hH10 (by show ta ∉ _; have := HTB.out; simp; omega))
      have HB10 := hid (HB9.out.trans (hH10.below (B := w.heap.size) (by have := HB9.out.size; omega) (fun b hb => by simp at hb; have := HMB.out; omega)))
      clear hM10 hH10 HO HM9 HT9 HB9
      go_wp2_with fail
      with_reducible refine (Challenge_any _ HM10.out).mono ?_
      rintro e w11 ⟨rfl, hw11⟩
      subst hw11
      go_wp2_with fail
      with_reducible refine (own2 (some ⟨ta, tao, none⟩) n c T _ HT10.out (by omega)).mono ?_
      rintro e w12 ⟨a3, c3, rfl, ht3, _, hb12⟩
      have HT3 := hid ht3
      have HM12 := hid (HM10.out.below hb12)
      have HB12 := hid (HB10.out.trans (hb12.mono HB10.out.size))
      clear ht3 hb12 HM10 HT10 HB10
      go_wp2_with fail
      with_reducible refine (Table_any _ HM12.out (by omega)).mono ?_
      rintro e w13 ⟨a4, c4, rfl, ht4, hb13⟩
      have HT4 := hid ht4
      have HT3 := hid (HT3.out.below hb13)
      have HB13 := hid (HB12.out.trans (hb13.mono HB12.out.size))
      clear ht4 hb13 HM12 HB12
      have HV2 := hid (HVR.out (dd + 1) (by omega))
      have HGR := hid (show gd (mrg T (Rr.set me ((dd + 1), 1)) n) me = ((dd + 1), 1) from by
        rw [mrg_gd _ _ _ _ hmn, HG.out, gd_set_self (by rw [HLN.out]; exact hmn)]
        exact jn_lt (by omega))
      go_wp2_with fail
      with_reducible refine (Merge2 a3 n c3 T a4 c4 (Rr.set me ((dd + 1), 1)) _ HT3.out HT4.out (by omega) hv HV2.out).mono ?_
      rintro e w14 ⟨a5, c5', rfl, ht5, hb14⟩
      obtain ⟨ua, uo, rfl, _⟩ := ht5.addr (by omega)
      obtain ⟨u0, u1⟩ := ht5.cells me hmn
      rw [HGR.out] at u0 u1
      have HB14 := hid (HB13.out.trans (hb14.mono HB13.out.size))
      have heq := fun w => ent_eqq (dd + 1) 1 (dd + 1) 1 w
      clear ht5 hb14 HB13 HT3 HT4
      go_wp2_with fail
      with_reducible refine (HK _).mono ?_
      rintro e wk ⟨rfl, hbk⟩
      have HBF := hid (HB14.out.trans (hbk.mono HB14.out.size))
      go_wp2
      go_ret
      exact ⟨rfl, HBF.out⟩
    | false =>
      rw [hp, if_neg (fun h => by cases h.2)] at hldd
      subst hldd
      have hx3 : X ≤ 3 := by
        unfold nw at hp
        by_cases e : X = 3
        · omega
        · rw [if_neg e] at hp; simp at hp; omega
      have HNW := hid (fun wx => Newer_any X St 3 1 wx)
      rw [hp] at HNW
      go_wp2_with fail
      with_reducible refine (HNW.out _).mono ?_
      rintro e w6 ⟨rfl, hb6⟩
      have HM6 := hid (HM5.out.below hb6)
      have HT6 := hid (HT5.out.below hb6)
      have HB6 := hid (HB5.out.trans (hb6.mono HB5.out.size))
      clear hb6 t0 t1 HM5 HT5 HB5 HNW
      obtain ⟨t0, t1⟩ := HCT.out _ HT6.out
      go_wp2_with fail
      go_quiet ((go_at_call 48; exact Calls.quiet_of_same (Challenge_any _ (HM6.out.drewN _))))
      have HM7 := hid (HM6.out.drewN nq)
      have HT7 := hid (HT6.out.below (bel_drewN (Below.refl _ _) nq))
      have HB7 := hid (bel_drewN HB6.out nq)
      obtain ⟨w7, hw7⟩ : ∃ y, y = w6.drewN nq := ⟨_, rfl⟩
      rw [← hw7] at HM7 HT7 HB7 ⊢
      clear hw7 HM6 HT6 HB6 t0 t1
      go_wp2_with fail
      with_reducible refine (Challenge_any _ HM7.out).mono ?_
      rintro e w8 ⟨rfl, hw8⟩
      subst hw8
      have hg4 : ((gd Rr me).2 == 4) = false := by rw [HGM.out]; rfl
      have HE := hid (Reinc_err (inc := 3) w8 HM7.out hmn hg4 (by rw [HGM.out]; left; exact Int.le_refl _))
      go_wp2_with fail
      refine HE.out.mono ?_
      rintro e w9 ⟨rfl, q9, hq9⟩
      have HM9 := hid (show Mc w9 mb tb sb n me Rr Zr 0 (.slice none 0 0) 0 me 0 from by rw [hq9]; exact HM7.out.drewN q9)
      have HT9 := hid (HT7.out.below (show Below w8.heap.size w8 w9 from by rw [hq9]; exact bel_drewN (Below.refl _ _) q9))
      have HB9 := hid (show Below w.heap.size w w9 from by rw [hq9]; exact bel_drewN HB7.out q9)
      clear hq9 HE HM7 HT7 HB7
      have HO := hid (Reinc_ok (inc := 4) w9 HM9.out hmn hg4 (by rw [HGM.out]; show (3 : Int) < _; omega) (by omega))
      clear hg4
      go_wp2_with fail
      refine HO.out.mono ?_
      rintro e w10 ⟨rfl, hM10, hH10⟩
      have HM10 := hid hM10
      have HT10 := hid (HT9.out.held hH10 (by show ta ∉ _; have := HTB.out; simp; omega))
      have HB10 := hid (HB9.out.trans (hH10.below (B := w.heap.size) (by have := HB9.out.size; omega) (fun b hb => by simp at hb; have := HMB.out; omega)))
      clear hM10 hH10 HO HM9 HT9 HB9
      go_wp2_with fail
      with_reducible refine (Challenge_any _ HM10.out).mono ?_
      rintro e w11 ⟨rfl, hw11⟩
      subst hw11
      go_wp2_with fail
      with_reducible refine (own2 (some ⟨ta, tao, none⟩) n c T _ HT10.out (by omega)).mono ?_
      rintro e w12 ⟨a3, c3, rfl, ht3, _, hb12⟩
      have HT3 := hid ht3
      have HM12 := hid (HM10.out.below hb12)
      have HB12 := hid (HB10.out.trans (hb12.mono HB10.out.size))
      clear ht3 hb12 HM10 HT10 HB10
      go_wp2_with fail
      with_reducible refine (Table_any _ HM12.out (by omega)).mono ?_
      rintro e w13 ⟨a4, c4, rfl, ht4, hb13⟩
      have HT4 := hid ht4
      have HT3 := hid (HT3.out.below hb13)
      have HB13 := hid (HB12.out.trans (hb13.mono HB12.out.size))
      clear ht4 hb13 HM12 HB12
      have HV2 := hid (HVR.out 4 (by omega))
      have HGR := hid (show gd (mrg T (Rr.set me (4, 1)) n) me = (4, 1) from by
        rw [mrg_gd _ _ _ _ hmn, HG.out, gd_set_self (by rw [HLN.out]; exact hmn)]
        exact jn_lt (by omega))
      go_wp2_with fail
      with_reducible refine (Merge2 a3 n c3 T a4 c4 (Rr.set me (4, 1)) _ HT3.out HT4.out (by omega) hv HV2.out).mono ?_
      rintro e w14 ⟨a5, c5', rfl, ht5, hb14⟩
      obtain ⟨ua, uo, rfl, _⟩ := ht5.addr (by omega)
      obtain ⟨u0, u1⟩ := ht5.cells me hmn
      rw [HGR.out] at u0 u1
      have HB14 := hid (HB13.out.trans (hb14.mono HB13.out.size))
      have heq := fun w => ent_eqq 4 1 4 1 w
      clear ht5 hb14 HB13 HT3 HT4
      go_wp2_with fail
      with_reducible refine (HK _).mono ?_
      rintro e wk ⟨rfl, hbk⟩
      have HBF := hid (HB14.out.trans (hbk.mono HB14.out.size))
      go_wp2
      go_ret
      exact ⟨rfl, HBF.out⟩
end Go.Proofs.Ytbdefmjjhkonjaa
