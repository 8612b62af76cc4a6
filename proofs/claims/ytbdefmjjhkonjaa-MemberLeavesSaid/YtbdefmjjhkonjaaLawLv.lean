/-
  MemberLeaves, walked. (Written by gen_lv.py.)
-/
import Derived.Test.YtbdefmjjhkonjaaLvM
namespace Go.Proofs.Ytbdefmjjhkonjaa
open Go Go.RowKit
set_option linter.unusedVariables false

set_option maxRecDepth 100000 in
set_option maxHeartbeats 8000000 in
theorem leaves_walk (HK : ∀ wx : World, Calls Try.prog 17 #[] wx fun e w' => e = .returned (.bool true) ∧ Below wx.heap.size wx w') (sf pn v : Int) (w : World) :
    Calls Try.prog 13 #[.int .i64 sf, .int .i64 pn, .int .u64 v] w fun e w' => e = .returned (.bool true) ∧ Below w.heap.size w w' := by
  have HB := hid (Below.refl w.heap.size w)
  go_enter Try.func13, Try.ntmps13
  by_cases h1 : pn < 2
  case pos =>
    go_wp2_with fail
    with_reducible refine (HK _).mono ?_
    rintro e wk ⟨rfl, hbk⟩
    have HB := hid (HB.out.trans (hbk.mono HB.out.size))
    go_wp2
    go_ret
    exact ⟨rfl, HB.out⟩
  by_cases h2 : 16 < pn
  case pos =>
    go_wp2_with fail
    with_reducible refine (HK _).mono ?_
    rintro e wk ⟨rfl, hbk⟩
    have HB := hid (HB.out.trans (hbk.mono HB.out.size))
    go_wp2
    go_ret
    exact ⟨rfl, HB.out⟩
  by_cases c1 : sf < 0
  case pos =>
    go_wp2_with fail
    with_reducible refine (HK _).mono ?_
    rintro e wk ⟨rfl, hbk⟩
    have HB := hid (HB.out.trans (hbk.mono HB.out.size))
    go_wp2
    go_ret
    exact ⟨rfl, HB.out⟩
  by_cases c2 : pn ≤ sf
  case pos =>
    go_wp2_with fail
    with_reducible refine (HK _).mono ?_
    rintro e wk ⟨rfl, hbk⟩
    have HB := hid (HB.out.trans (hbk.mono HB.out.size))
    go_wp2
    go_ret
    exact ⟨rfl, HB.out⟩
  obtain ⟨me, hme⟩ := Int.eq_ofNat_of_zero_le (show 0 ≤ sf by omega)
  obtain ⟨n, hn⟩ := Int.eq_ofNat_of_zero_le (show 0 ≤ pn by omega)
  subst hme
  subst hn
  have hmn : me < n := by omega
  obtain ⟨oo, hoo⟩ : ∃ y, y = (me + 1) % n := ⟨_, rfl⟩
  have hon : oo < n := by rw [hoo]; exact Nat.mod_lt _ (by omega)
  have hmo : me ≠ oo := by
    rw [hoo]
    by_cases e : me + 1 < n
    · rw [Nat.mod_eq_of_lt e]; omega
    · have e2 : me + 1 = n := by omega
      rw [e2, Nat.mod_self]; omega
  have hci : ((me : Int) + 1) % (n : Int) = (oo : Int) := by rw [hoo]; simp
  go_wp2_with fail
  with_reducible refine (New_ok me n 2 _ (by omega) (by omega) hmn (by omega)).mono ?_
  rintro e w1 ⟨mb, tb, sb, rfl, hM, hmb, htb, hsb, hb1⟩
  have HM := hid hM
  have HB := hid (HB.out.trans (hb1.mono HB.out.size))
  have hl1 := lt_of_heap hM.m
  have hl2 := hM.t.lt
  have hl3 := lt_of_heap hM.s
  clear hM hb1
  go_wp2_with fail
  rw [hci]
  clear hci hoo
  go_wp2_with fail
  with_reducible refine (New_ok oo n 4 _ (by omega) (by omega) hon (by omega)).mono ?_
  rintro e w2 ⟨mc, tc, sc, rfl, hM2, hmc, htc, hsc, hb2⟩
  have HM := hid (HM.out.below hb2)
  have HN := hid hM2
  have HB := hid (HB.out.trans (hb2.mono HB.out.size))
  have hl4 := lt_of_heap hM2.m
  have hl5 := hM2.t.lt
  have hl6 := lt_of_heap hM2.s
  have HMC := hid (show (w.heap.size ≤ mb ∧ w.heap.size ≤ tb ∧ w.heap.size ≤ sb ∧ w.heap.size ≤ mc ∧ w.heap.size ≤ tc ∧ w.heap.size ≤ sc) ∧ mb < mc ∧ mb < tc ∧ mb < sc ∧ tb < mc ∧ tb < tc ∧ tb < sc ∧ sb < mc ∧ sb < tc ∧ sb < sc from by have := HB.out.size; omega)
  have HLT := hid (show mb < w2.heap.size ∧ tb < w2.heap.size ∧ sb < w2.heap.size ∧ mc < w2.heap.size ∧ tc < w2.heap.size ∧ sc < w2.heap.size from by have := hb2.size; omega)
  clear hM2 hb2 hl1 hl2 hl3 hl4 hl5 hl6 hmb htb hsb hmc htc hsc
  obtain ⟨LM, hLM⟩ : ∃ y, y = (List.replicate n ((0, 0) : Ent)).set me (2, 1) := ⟨_, rfl⟩
  obtain ⟨LO, hLO⟩ : ∃ y, y = (List.replicate n ((0, 0) : Ent)).set oo (4, 1) := ⟨_, rfl⟩
  have TM := hid (show Two LM n me oo (2, 1) (0, 0) from by rw [hLM]; exact two_new hmn)
  have TO := hid (show Two LO n oo me (4, 1) (0, 0) from by rw [hLO]; exact two_new hon)
  rw [← hLM] at HM
  rw [← hLO] at HN
  clear hLM hLO
  have hO2 : ∀ i, ((gd LO i).2 == 2) = false := fun i => by
    rw [TO.out.2 i]
    split
    · rfl
    · split <;> rfl
  have hO4 : ((gd LO oo).2 == 4) = false := by rw [TO.out.2 oo, if_pos rfl]; rfl
  have hM4 : ((gd LM me).2 == 4) = false := by rw [TM.out.2 me, if_pos rfl]; rfl
  have HTK := hid (Tick_first2 (me := oo) 0 0 oo v w2 (by exact HN.out) hon hon (by omega) (by omega) (by omega) (by omega) hO2 hO4)
  go_wp2_with fail
  with_reducible refine HTK.out.mono ?_
  rintro e w3 ⟨g, c, tv, g1, c1', rfl, hG, hO, hN3, hg, hH3, hP3, hg1, hg1g⟩
  generalize ((nxt n oo oo : Nat) : Int) = tg at *
  change MsgAt w3 g 1 oo tg 1 oo 0 tv rest0 at hG
  change Mc w3 mc tc sc n oo LO (List.replicate n 0) 1 (.slice (some ⟨g1, 0, none⟩) 1 c1') 1 tg 0 at hN3
  change PbAt w3 g1 1 tg 1 false at hP3
  obtain ⟨va, vc, rfl, hva1, hva2⟩ := hO.form (show 0 < n by omega)
  obtain ⟨hT3, _⟩ := tb_of_owns hO
  have hgv : g ≠ va := fun e => by
    have e0 := (hT3.cells 0 (by omega)).1
    have e1 := hG.cells.1
    rw [← e] at e0
    have e2 := e1.symm.trans e0
    simp at e2
  have hlt := HLT.out
  have hgl := hG.lt
  have hg1l := hP3.lt
  have hval := hT3.addr (show 0 < n by omega)
  have HM3 := hid (HM.out.held hH3 (by have := HMC.out; simp; omega) (by have := HMC.out; simp; omega) (by have := HMC.out; simp; omega))
  have HN3 := hid hN3
  have HT3 := hid hT3
  have HP3 := hid hP3
  have HG3 := hid hG
  have HB3 := hid (HB.out.trans (hH3.below (B := w.heap.size) (by have := HB.out.size; omega) (fun b hb => by simp at hb; have := HMC.out; omega)))
  have HS := hid (show w2.heap.size ≤ va ∧ g < w3.heap.size ∧ g1 < w3.heap.size ∧ w2.heap.size ≤ w3.heap.size ∧ w.heap.size ≤ w2.heap.size from ⟨hva1, hgl, hg1l, hH3.size, HB.out.size⟩)
  clear hG hO hN3 hH3 hP3 hgl hg1l hlt hval hT3 hva1 hva2 HTK HM HN hO2
  have HTA := hid (fun (wx : World) (h : MsgAt wx g 1 oo me 1 oo 0 (.slice (some ⟨va, 0, none⟩) n vc) rest0) => h.range)
  have HI := hid (info_msg 1 oo me 1 oo 0 (.slice (some ⟨va, 0, none⟩) n vc) rest0 rest0_length)
  have HRG := hid (fun (wx : World) (h : Mc wx mb tb sb n me LM (List.replicate n 0) 0 (.slice none 0 0) 0 me 0) (ht : Tb wx (.slice (some ⟨va, 0, none⟩) n vc) LO) => receive_ping (me := me) oo oo 1 0 (some ⟨va, 0, none⟩) vc rest0 LO wx h ht (TO.out.vld rfl rfl (by omega) (by omega)) hon (fun e => hmo e.symm) hon hmn (by omega) (by omega) rest0_length hM4)
  obtain ⟨LM1, hLM1⟩ : ∃ y, y = (lrn me 0 LO LM (List.replicate n 0) 0 n).1 := ⟨_, rfl⟩
  obtain ⟨Z1, hZ1⟩ : ∃ y, y = (lrn me 0 LO LM (List.replicate n 0) 0 n).2.1 := ⟨_, rfl⟩
  obtain ⟨d1, hd1⟩ : ∃ y, y = (lrn me 0 LO LM (List.replicate n 0) 0 n).2.2 := ⟨_, rfl⟩
  rw [← hLM1, ← hZ1, ← hd1] at HRG
  have TM1 := hid (show Two LM1 n me oo (2, 1) (4, 1) from by rw [hLM1]; exact TM.out.lrn (TO.out.comm (fun e => hmo e.symm)) hon hmo _ _ _)
  clear hLM1 hZ1 hd1 hM4
  obtain ⟨M, hMM⟩ : ∃ M, M = msg 1 oo me 1 oo 0 (.slice (some ⟨va, 0, none⟩) n vc) rest0 := ⟨_, rfl⟩
  rw [← hMM] at HTA HI HRG
  have HMM := hid hMM
  clear hMM
  go_wp2_with fail
  go_loopw [13] (fun iv wr => ∃ i : Nat, i ≤ 1 ∧ iv = .int .i64 i ∧ Hid (i = 0 → w3 = wr) ∧ Hid (i = 1 → MsgAt wr g 1 oo me 1 oo 0 (.slice (some ⟨va, 0, none⟩) n vc) rest0 ∧ Tb wr (.slice (some ⟨va, 0, none⟩) n vc) LO ∧ Mc wr mb tb sb n me LM1 Z1 0 (.slice none 0 0) 0 me d1 ∧ Mc wr mc tc sc n oo LO (List.replicate n 0) 1 (.slice (some ⟨g1, 0, none⟩) 1 c1') 1 tg 0 ∧ PbAt wr g1 1 tg 1 false ∧ Below w.heap.size w wr)) (fun iv _ => 1 - (intOf iv).toNat)
  case atStart => exact ⟨0, by omega, rfl, hid (fun _ => rfl), hid (fun h => by omega)⟩
  case round =>
    obtain ⟨i, hi, rfl, H0, H1⟩ := hrel
    by_cases hlt : i < 1
    · obtain rfl : i = 0 := by omega
      obtain rfl := H0.out rfl
      clear H0 H1
      obtain ⟨x0, x1, x2, x3, x4, x5, x6⟩ := HG3.out.cells
      have f2 := HG3.out.free 2
      have HGa := hid (HG3.out.to me)
      obtain ⟨y0, _, _, _, _, _, _⟩ := HGa.out.cells
      have f0 := HGa.out.free 0
      have HGb := hid (HGa.out.kind 1)
      have HHb := hid (((Held.refl [g] w3).setCell (p := ⟨g, 2, none⟩) (by simp) (.int .i64 me)).setCell (p := ⟨g, 0, none⟩) (by simp) (.int .u8 1))
      go_upto_region 14 with fail
      have HMb := hid (HM3.out.held HHb.out (by have := HLT.out; simp; omega) (by have := HLT.out; simp; omega) (by have := HLT.out; simp; omega))
      have HNb := hid (HN3.out.held HHb.out (by have := HLT.out; simp; omega) (by have := HLT.out; simp; omega) (by have := HLT.out; simp; omega))
      have HTb := hid (HT3.out.held HHb.out (by show va ∉ _; simp; exact fun e => hgv e.symm))
      have HPb := hid (HP3.out.held HHb.out (by simp; omega))
      have HBb := hid (HB3.out.trans (HHb.out.below (B := w.heap.size) (by have := HB3.out.size; omega) (fun b hb => by simp at hb; have := HS.out; omega)))
      obtain ⟨w4, hw4⟩ : ∃ y, y = (w3.setCell ⟨g, 2, none⟩ (.int .i64 me)).setCell ⟨g, 0, none⟩ (.int .u8 1) := ⟨_, rfl⟩
      rw [← hw4] at HGb HMb HNb HTb HPb HBb ⊢
      clear hw4 x0 x1 x2 x3 x4 x5 x6 y0 f2 f0 HHb HGa
      have HRGb := hid (HRG.out w4 HMb.out HTb.out)
      go_wp2_with (first | (refine wpList_load_mid (by rfl) 56 (.tmp 74) (by rfl) g 0 (by rfl) M _ (HTA.out w4 HGb.out) Try.underlying56 rfl HI.out ?_))
      refine HRGb.out.mono ?_
      rintro e w5 ⟨gb, vb, rfl, hM5, _, _, hgb, hH5⟩
      have HM5 := hid hM5
      have HG5 := hid (HGb.out.same (hH5.block g HGb.out.lt (by have := HLT.out; simp; omega)))
      have HT5 := hid (HTb.out.held hH5 (by show va ∉ _; have := HLT.out; have := HS.out; simp; omega))
      have HN5 := hid (HNb.out.held hH5 (by have := HMC.out; simp; omega) (by have := HMC.out; simp; omega) (by have := HMC.out; simp; omega))
      have HP5 := hid (HPb.out.held hH5 (by have := HLT.out; simp; omega))
      have HB5 := hid (HBb.out.trans (hH5.below (B := w.heap.size) (by have := HBb.out.size; omega) (fun b hb => by simp at hb; have := HMC.out; omega)))
      clear hM5 hgb hH5
      go_wp2
      exact ⟨⟨1, by omega, by go_num, hid (fun h => by omega), hid (fun _ => ⟨HG5.out, HT5.out, HM5.out, HN5.out, HP5.out, HB5.out⟩)⟩, by simp [intOf]⟩
    · obtain rfl : i = 1 := by omega
      obtain ⟨hG, hT, hM, hN, hP, hB⟩ := H1.out rfl
      have hsz := hB.size
      have hgl := hG.lt
      have HGr := hid hG
      have HTr := hid hT
      have HMr := hid hM
      have HNr := hid hN
      have HPr := hid hP
      have HBr := hid hB
      clear H0 H1 hG hT hM hN hP hB HG3 HT3 HM3 HN3 HP3 HB3 HRG
      have hg0 : gd LM1 me = (2, 1) := by rw [TM1.out.2 me, if_pos rfl]
      obtain ⟨L2, hL2⟩ : ∃ y, y = LM1.set me ((gd LM1 me).1, 4) := ⟨_, rfl⟩
      have T2 := hid (show Two L2 n me oo (2, 4) (4, 1) from by rw [hL2, hg0]; exact TM1.out.set hmn (2, 4))
      have HLV := hid (Leave_one oo wr HMr.out hmn (by omega) (by rw [hg0]; rfl) L2 hL2 (T2.out.live rfl rfl hmo hon))
      clear hg0 hL2
      go_wp2_with fail
      refine HLV.out.mono ?_
      rintro e w6 ⟨g2, c2, v2, rfl, hG6, hO6, hM6, hg2, hH6⟩
      obtain ⟨vd, vdc, rfl, hvd1, hvd2⟩ := hO6.form (show 0 < n by omega)
      have hT6 := (tb_of_owns hO6).1
      have HGp := hid (HGr.out.same (hH6.block g hgl (by have := HLT.out; simp; omega)))
      have HTp := hid (HTr.out.held hH6 (by show va ∉ _; have := HLT.out; have := HS.out; simp; omega))
      have HN6 := hid (HNr.out.held hH6 (by have := HMC.out; simp; omega) (by have := HMC.out; simp; omega) (by have := HMC.out; simp; omega))
      have HP6 := hid (HPr.out.held hH6 (by have := HLT.out; simp; omega))
      have HB6 := hid (HBr.out.trans (hH6.below (B := w.heap.size) (by omega) (fun b hb => by simp at hb; have := HMC.out; omega)))
      have HG6 := hid hG6
      have HM6 := hid hM6
      have HT6 := hid hT6
      have h6s := hH6.size
      have HVD := hid (show wr.heap.size ≤ vd from hvd1)
      obtain ⟨x0, x1, x2, x3, x4, x5, x6⟩ := HG6.out.cells
      have HI2 := hid (info_msg 2 me oo 0 oo 0 (.slice (some ⟨vd, 0, none⟩) n vdc) rest0 rest0_length)
      have HRM := hid (receive_miss (me := oo) me 0 0 (some ⟨vd, 0, none⟩) vdc rest0 L2 w6 HN6.out HT6.out (T2.out.vld rfl rfl (by omega) (by omega)) hmn hmo hon (by omega) (by omega) rest0_length hO4 HP6.out (by have := HLT.out; omega) rfl)
      have HR6 := hid HG6.out.range
      obtain ⟨LO2, hLO2⟩ : ∃ y, y = (lrn oo 1 L2 LO (List.replicate n 0) 0 n).1 := ⟨_, rfl⟩
      rw [← hLO2] at HRM
      have TO2 := hid (show Two LO2 n oo me (4, 1) (2, 4) from by rw [hLO2]; exact TO.out.lrn (T2.out.comm hmo) hmn (fun e => hmo e.symm) _ _ _)
      clear hG6 hO6 hM6 hT6 hLO2 HLV HGr HTr HMr HNr HPr HBr hvd1 hvd2
      obtain ⟨M2, hM2⟩ : ∃ M, M = msg 2 me oo 0 oo 0 (.slice (some ⟨vd, 0, none⟩) n vdc) rest0 := ⟨_, rfl⟩
      rw [← hM2] at HI2 HRM HR6
      clear hM2
      go_wp2_with (first | (refine wpList_load_mid (by rfl) 56 (.tmp 115) (by rfl) g2 0 (by rfl) M2 _ HR6.out Try.underlying56 rfl HI2.out ?_))
      refine HRM.out.mono ?_
      rintro e w7 ⟨rfl, hN7, hH7⟩
      have HM7 := hid (HM6.out.held hH7 (by have := HMC.out; simp; omega) (by have := HMC.out; simp; omega) (by have := HMC.out; simp; omega))
      have HG7 := hid (HGp.out.same (hH7.block g HGp.out.lt (by have := HLT.out; simp; omega)))
      have HT7 := hid (HTp.out.held hH7 (by show va ∉ _; have := HLT.out; have := HS.out; simp; omega))
      have HB7 := hid (HB6.out.trans (hH7.below (B := w.heap.size) (by have := HB6.out.size; omega) (fun b hb => by simp at hb; have := HMC.out; omega)))
      have HN7 := hid hN7
      clear hN7 hH7 HRM x0 x1 x2 x3 x4 x5 x6 HG6 HR6 HT6 HN6 HP6 HM6 HGp HTp HB6 HI2 h6s hg2
      have HLI := hid (MLive_any w7 HN7.out (by omega))
      rw [(TO2.out.comm (fun e => hmo e.symm)).live rfl rfl hmo hon] at HLI
      go_wp2_with fail
      refine HLI.out.mono ?_
      rintro e w8 ⟨v8, rfl, ho8, hb8⟩
      change w8.ownsRow w7.heap.size 3 1 v8 1 (ints [oo]) at ho8
      obtain ⟨vb8, vc8, rfl, _, _⟩ := ho8.form (by simp)
      have HN8 := hid (HN7.out.below hb8)
      have HM8 := hid (HM7.out.below hb8)
      have HG8 := hid (HG7.out.same (hb8.block g HG7.out.lt))
      have HT8 := hid (HT7.out.below hb8)
      have HB8 := hid (HB7.out.trans (hb8.mono HB7.out.size))
      clear ho8 hb8 HLI HN7 HM7 HG7 HT7 HB7
      go_wp2_with fail
      refine (Table_any w8 HN8.out (by omega)).mono ?_
      rintro e w9 ⟨a9, c9, rfl, hT9, hb9⟩
      obtain ⟨ta, tao, rfl, _⟩ := hT9.addr (show 0 < n by omega)
      obtain ⟨t0, t1⟩ := hT9.cells me hmn
      rw [TO2.out.2 me, if_neg hmo, if_pos rfl] at t0 t1
      have HM9 := hid (HM8.out.below hb9)
      have HG9 := hid (HG8.out.same (hb9.block g HG8.out.lt))
      have HT9 := hid (HT8.out.below hb9)
      have HB9 := hid (HB8.out.trans (hb9.mono HB8.out.size))
      clear hT9 hb9 HN8 HM8 HG8 HT8 HB8
      have hneq := fun w => ent_neq 2 4 2 4 w
      have hgd : Try.prog.eqGuardType Try.prog.depth 36 = false := by kernel_rfl
      have hs4 : (gd L2 me).2 = 4 := by rw [T2.out.2 me, if_pos rfl]
      have HRL := hid (receive_left (me := me) 1 oo me 1 oo 0 (some ⟨va, 0, none⟩) vc rest0 LO w9 HM9.out HT9.out hmn (by omega) (by omega) rest0_length hs4)
      rw [← HMM.out] at HRL
      go_wp2_with (first | (refine wpList_load_mid (by rfl) 56 (.tmp 140) (by rfl) g 0 (by rfl) M _ (HTA.out w9 HG9.out) Try.underlying56 rfl HI.out ?_))
      refine HRL.out.mono ?_
      rintro e w10 ⟨rfl, hM10, hH10⟩
      have HB10 := hid (HB9.out.trans (hH10.below (B := w.heap.size) (by have := HB9.out.size; omega) (fun b hb => by simp at hb; have := HMC.out; omega)))
      have HM10 := hid hM10
      clear hM10 hH10 HM9 HG9 HT9 HB9 hneq hgd HRL t0 t1
      go_wp2_with fail
      with_reducible refine (Tick_left v w10 HM10.out hmn hs4).mono ?_
      rintro e w11 ⟨rfl, q11, hq11⟩
      have HM11 := hid (show Mc w11 _ _ _ _ _ _ _ _ _ _ _ _ from by rw [hq11]; exact HM10.out.drewN q11)
      have HB11 := hid (show Below w.heap.size w w11 from by rw [hq11]; exact bel_drewN HB10.out q11)
      clear hq11 HM10 HB10
      go_wp2_with fail
      with_reducible refine (Leave_left w11 HM11.out hmn hs4).mono ?_
      rintro e w12 ⟨rfl, q12, hq12⟩
      have HM12 := hid (show Mc w12 _ _ _ _ _ _ _ _ _ _ _ _ from by rw [hq12]; exact HM11.out.drewN q12)
      have HB12 := hid (show Below w.heap.size w w12 from by rw [hq12]; exact bel_drewN HB11.out q12)
      clear hq12 HM11 HB11
      go_wp2_with fail
      with_reducible refine (Reinc_left 9 w12 HM12.out hmn hs4).mono ?_
      rintro e w13 ⟨rfl, q13, hq13⟩
      have HM13 := hid (show Mc w13 _ _ _ _ _ _ _ _ _ _ _ _ from by rw [hq13]; exact HM12.out.drewN q13)
      have HB13 := hid (show Below w.heap.size w w13 from by rw [hq13]; exact bel_drewN HB12.out q13)
      clear hq13 HM12 HB12
      go_wp2_with fail
      with_reducible refine (Clock_any w13 HM13.out).mono ?_
      rintro e w14 ⟨rfl, hw14⟩
      subst hw14
      go_wp2_with fail
      with_reducible refine (HK _).mono ?_
      rintro e wk ⟨rfl, hbk⟩
      have HBF := hid (HB13.out.trans (hbk.mono HB13.out.size))
      go_wp2
      go_ret
      exact ⟨rfl, HBF.out⟩
end Go.Proofs.Ytbdefmjjhkonjaa
