/-
  MemberMerges, walked: merging is commutative, associative and idempotent. (Written by gen_mg.py.)
-/
import Derived.Test.YtbdefmjjhkonjaaMgM
import Derived.Test.YtbdefmjjhkonjaaSt
namespace Go.Proofs.Ytbdefmjjhkonjaa
open Go Go.RowKit
set_option linter.unusedVariables false

set_option maxRecDepth 100000 in
set_option maxHeartbeats 4000000 in
theorem merges_walk (HK : ∀ wx : World, Calls Try.prog 17 #[] wx fun e w' => e = .returned (.bool true) ∧ Below wx.heap.size wx w') (a : Option Addr) (na ca : Nat) (A : List Ent) (b : Option Addr) (nb cb : Nat) (B : List Ent) (c : Option Addr) (nc cc : Nat) (C : List Ent) (w : World)
    (hA : Tb w (.slice a na ca) A) (hB : Tb w (.slice b nb cb) B) (hC : Tb w (.slice c nc cc) C) (ha : na ≤ 8796093022208) (hb : nb ≤ 8796093022208) (hc : nc ≤ 8796093022208) :
    Calls Try.prog 5 #[.slice a na ca, .slice b nb cb, .slice c nc cc] w fun e w' => e = .returned (.bool true) ∧ Below w.heap.size w w' := by
  have HB := hid (Below.refl w.heap.size w)
  have lA := hid hA.len
  have lB := hid hB.len
  have lC := hid hC.len
  have TA := hid hA
  have TB := hid hB
  have TC := hid hC
  clear hA hB hC
  go_enter Try.func5, Try.ntmps5
  cases va : vld A with
  | false =>
    go_wp2_with fail
    with_reducible refine (own2 a na ca A _ TA.out (by omega)).mono ?_
    rintro e w1 ⟨p1, q1, rfl, ht, hf, hb⟩
    have HB := hid (HB.out.trans (hb.mono HB.out.size))
    have TA := hid (TA.out.below hb)
    have TB := hid (TB.out.below hb)
    have TC := hid (TC.out.below hb)
    have T1 := hid ht
    clear ht hf hb
    go_wp2_with fail
    have hvd := Valid_any p1 na q1 A _ T1.out (by omega)
    rw [va] at hvd
    with_reducible refine hvd.mono ?_
    rintro e w2 ⟨rfl, hb⟩
    clear hvd
    have HB := hid (HB.out.trans (hb.mono HB.out.size))
    have TA := hid (TA.out.below hb)
    have TB := hid (TB.out.below hb)
    have TC := hid (TC.out.below hb)
    clear hb
    go_wp2_with fail
    with_reducible refine (HK _).mono ?_
    rintro e wk ⟨rfl, hb⟩
    have HB := hid (HB.out.trans (hb.mono HB.out.size))
    go_wp2
    go_ret
    exact ⟨rfl, HB.out⟩
  | true =>
    go_wp2_with fail
    with_reducible refine (own2 a na ca A _ TA.out (by omega)).mono ?_
    rintro e w3 ⟨p3, q3, rfl, ht, hf, hb⟩
    have HB := hid (HB.out.trans (hb.mono HB.out.size))
    have TA := hid (TA.out.below hb)
    have TB := hid (TB.out.below hb)
    have TC := hid (TC.out.below hb)
    have T3 := hid ht
    clear ht hf hb
    go_wp2_with fail
    have hvd := Valid_any p3 na q3 A _ T3.out (by omega)
    rw [va] at hvd
    with_reducible refine hvd.mono ?_
    rintro e w4 ⟨rfl, hb⟩
    clear hvd
    have HB := hid (HB.out.trans (hb.mono HB.out.size))
    have TA := hid (TA.out.below hb)
    have TB := hid (TB.out.below hb)
    have TC := hid (TC.out.below hb)
    clear hb
    cases vb : vld B with
    | false =>
      go_wp2_with fail
      with_reducible refine (own2 b nb cb B _ TB.out (by omega)).mono ?_
      rintro e w5 ⟨p5, q5, rfl, ht, hf, hb⟩
      have HB := hid (HB.out.trans (hb.mono HB.out.size))
      have TA := hid (TA.out.below hb)
      have TB := hid (TB.out.below hb)
      have TC := hid (TC.out.below hb)
      have T5 := hid ht
      clear ht hf hb
      go_wp2_with fail
      have hvd := Valid_any p5 nb q5 B _ T5.out (by omega)
      rw [vb] at hvd
      with_reducible refine hvd.mono ?_
      rintro e w6 ⟨rfl, hb⟩
      clear hvd
      have HB := hid (HB.out.trans (hb.mono HB.out.size))
      have TA := hid (TA.out.below hb)
      have TB := hid (TB.out.below hb)
      have TC := hid (TC.out.below hb)
      clear hb
      go_wp2_with fail
      with_reducible refine (HK _).mono ?_
      rintro e wk ⟨rfl, hb⟩
      have HB := hid (HB.out.trans (hb.mono HB.out.size))
      go_wp2
      go_ret
      exact ⟨rfl, HB.out⟩
    | true =>
      go_wp2_with fail
      with_reducible refine (own2 b nb cb B _ TB.out (by omega)).mono ?_
      rintro e w7 ⟨p7, q7, rfl, ht, hf, hb⟩
      have HB := hid (HB.out.trans (hb.mono HB.out.size))
      have TA := hid (TA.out.below hb)
      have TB := hid (TB.out.below hb)
      have TC := hid (TC.out.below hb)
      have T7 := hid ht
      clear ht hf hb
      go_wp2_with fail
      have hvd := Valid_any p7 nb q7 B _ T7.out (by omega)
      rw [vb] at hvd
      with_reducible refine hvd.mono ?_
      rintro e w8 ⟨rfl, hb⟩
      clear hvd
      have HB := hid (HB.out.trans (hb.mono HB.out.size))
      have TA := hid (TA.out.below hb)
      have TB := hid (TB.out.below hb)
      have TC := hid (TC.out.below hb)
      clear hb
      cases vc : vld C with
      | false =>
        go_wp2_with fail
        with_reducible refine (own2 c nc cc C _ TC.out (by omega)).mono ?_
        rintro e w9 ⟨p9, q9, rfl, ht, hf, hb⟩
        have HB := hid (HB.out.trans (hb.mono HB.out.size))
        have TA := hid (TA.out.below hb)
        have TB := hid (TB.out.below hb)
        have TC := hid (TC.out.below hb)
        have T9 := hid ht
        clear ht hf hb
        go_wp2_with fail
        have hvd := Valid_any p9 nc q9 C _ T9.out (by omega)
        rw [vc] at hvd
        with_reducible refine hvd.mono ?_
        rintro e w10 ⟨rfl, hb⟩
        clear hvd
        have HB := hid (HB.out.trans (hb.mono HB.out.size))
        have TA := hid (TA.out.below hb)
        have TB := hid (TB.out.below hb)
        have TC := hid (TC.out.below hb)
        clear hb
        go_wp2_with fail
        with_reducible refine (HK _).mono ?_
        rintro e wk ⟨rfl, hb⟩
        have HB := hid (HB.out.trans (hb.mono HB.out.size))
        go_wp2
        go_ret
        exact ⟨rfl, HB.out⟩
      | true =>
        go_wp2_with fail
        with_reducible refine (own2 c nc cc C _ TC.out (by omega)).mono ?_
        rintro e w11 ⟨p11, q11, rfl, ht, hf, hb⟩
        have HB := hid (HB.out.trans (hb.mono HB.out.size))
        have TA := hid (TA.out.below hb)
        have TB := hid (TB.out.below hb)
        have TC := hid (TC.out.below hb)
        have T11 := hid ht
        clear ht hf hb
        go_wp2_with fail
        have hvd := Valid_any p11 nc q11 C _ T11.out (by omega)
        rw [vc] at hvd
        with_reducible refine hvd.mono ?_
        rintro e w12 ⟨rfl, hb⟩
        clear hvd
        have HB := hid (HB.out.trans (hb.mono HB.out.size))
        have TA := hid (TA.out.below hb)
        have TB := hid (TB.out.below hb)
        have TC := hid (TC.out.below hb)
        clear hb
        by_cases e1 : na = nb
        case neg =>
          have e0 : ((na : Int) != nb) = true := by simp; omega
          clear e1
          go_wp2_with fail
          with_reducible refine (HK _).mono ?_
          rintro e wk ⟨rfl, hb⟩
          have HB := hid (HB.out.trans (hb.mono HB.out.size))
          go_wp2
          go_ret
          exact ⟨rfl, HB.out⟩
        have e0 : ((na : Int) != nb) = false := by simp [e1]
        by_cases e2 : na = nc
        case neg =>
          have e3 : ((na : Int) != nc) = true := by simp; omega
          clear e1 e2
          go_wp2_with fail
          with_reducible refine (HK _).mono ?_
          rintro e wk ⟨rfl, hb⟩
          have HB := hid (HB.out.trans (hb.mono HB.out.size))
          go_wp2
          go_ret
          exact ⟨rfl, HB.out⟩
        have e3 : ((na : Int) != nc) = false := by simp [e2]
        obtain ⟨k1, k2⟩ := vld_len va
        have h16 : na ≤ 16 := by rw [lA.out]; exact k2
        have h1 : 1 ≤ na := by rw [lA.out]; exact k1
        clear k1 k2
        have dA := hid (show A.length = B.length from by have := lA.out; have := lB.out; omega)
        have dB := hid (show B.length = C.length from by have := lC.out; have := lB.out; omega)
        have dC := hid (show A.length = C.length from by have := lC.out; have := lA.out; omega)
        have VA := hid va
        have VB := hid vb
        have VC := hid vc
        have vAB := hid (show vld (mrg A B na) = true from by rw [lA.out]; exact vld_mrg va vb dA.out)
        have vBC := hid (show vld (mrg B C nb) = true from by rw [lB.out]; exact vld_mrg vb vc dB.out)
        have E1 := hid e1
        have E2 := hid e2
        have TB := hid (show Tb _ (.slice b na cb) B from by rw [E1.out]; exact TB.out)
        have TC := hid (show Tb _ (.slice c na cc) C from by rw [E2.out]; exact TC.out)
        clear va vb vc
        subst e1
        subst e2
        skip
        go_wp2_with fail
        with_reducible refine (own2 a na ca A _ TA.out (by omega)).mono ?_
        rintro e w13 ⟨p13, q13, rfl, ht, hf, hb⟩
        have HB := hid (HB.out.trans (hb.mono HB.out.size))
        have TA := hid (TA.out.below hb)
        have TB := hid (TB.out.below hb)
        have TC := hid (TC.out.below hb)
        have T13 := hid ht
        clear ht hf hb
        go_wp2_with fail
        with_reducible refine (own2 b na cb B _ TB.out (by omega)).mono ?_
        rintro e w14 ⟨p14, q14, rfl, ht, hf, hb⟩
        have HB := hid (HB.out.trans (hb.mono HB.out.size))
        have TA := hid (TA.out.below hb)
        have TB := hid (TB.out.below hb)
        have TC := hid (TC.out.below hb)
        have T13 := hid (T13.out.below hb)
        have T14 := hid ht
        clear ht hf hb
        go_wp2_with fail
        with_reducible refine (Merge2 p13 na q13 A p14 q14 B _ T13.out T14.out (by omega) VA.out VB.out).mono ?_
        rintro e w15 ⟨p15, q15, rfl, ht, hb⟩
        have HB := hid (HB.out.trans (hb.mono HB.out.size))
        have TA := hid (TA.out.below hb)
        have TB := hid (TB.out.below hb)
        have TC := hid (TC.out.below hb)
        have T15 := hid ht
        clear ht hb
        go_wp2_with fail
        with_reducible refine (own2 b na cb B _ TB.out (by omega)).mono ?_
        rintro e w16 ⟨p16, q16, rfl, ht, hf, hb⟩
        have HB := hid (HB.out.trans (hb.mono HB.out.size))
        have TA := hid (TA.out.below hb)
        have TB := hid (TB.out.below hb)
        have TC := hid (TC.out.below hb)
        have T15 := hid (T15.out.below hb)
        have T16 := hid ht
        clear ht hf hb
        go_wp2_with fail
        with_reducible refine (own2 a na ca A _ TA.out (by omega)).mono ?_
        rintro e w17 ⟨p17, q17, rfl, ht, hf, hb⟩
        have HB := hid (HB.out.trans (hb.mono HB.out.size))
        have TA := hid (TA.out.below hb)
        have TB := hid (TB.out.below hb)
        have TC := hid (TC.out.below hb)
        have T15 := hid (T15.out.below hb)
        have T16 := hid (T16.out.below hb)
        have T17 := hid ht
        clear ht hf hb
        go_wp2_with fail
        with_reducible refine (Merge2 p16 na q16 B p17 q17 A _ T16.out T17.out (by omega) VB.out VA.out).mono ?_
        rintro e w18 ⟨p18, q18, rfl, ht, hb⟩
        have HB := hid (HB.out.trans (hb.mono HB.out.size))
        have TA := hid (TA.out.below hb)
        have TB := hid (TB.out.below hb)
        have TC := hid (TC.out.below hb)
        have T15 := hid (T15.out.below hb)
        have T18 := hid ht
        clear ht hb
        go_wp2_with fail
        with_reducible refine (own2 b na cb B _ TB.out (by omega)).mono ?_
        rintro e w19 ⟨p19, q19, rfl, ht, hf, hb⟩
        have HB := hid (HB.out.trans (hb.mono HB.out.size))
        have TA := hid (TA.out.below hb)
        have TB := hid (TB.out.below hb)
        have TC := hid (TC.out.below hb)
        have T15 := hid (T15.out.below hb)
        have T18 := hid (T18.out.below hb)
        have T19 := hid ht
        clear ht hf hb
        go_wp2_with fail
        with_reducible refine (own2 c na cc C _ TC.out (by omega)).mono ?_
        rintro e w20 ⟨p20, q20, rfl, ht, hf, hb⟩
        have HB := hid (HB.out.trans (hb.mono HB.out.size))
        have TA := hid (TA.out.below hb)
        have TB := hid (TB.out.below hb)
        have TC := hid (TC.out.below hb)
        have T15 := hid (T15.out.below hb)
        have T18 := hid (T18.out.below hb)
        have T19 := hid (T19.out.below hb)
        have T20 := hid ht
        clear ht hf hb
        go_wp2_with fail
        with_reducible refine (Merge2 p19 na q19 B p20 q20 C _ T19.out T20.out (by omega) VB.out VC.out).mono ?_
        rintro e w21 ⟨p21, q21, rfl, ht, hb⟩
        have HB := hid (HB.out.trans (hb.mono HB.out.size))
        have TA := hid (TA.out.below hb)
        have TB := hid (TB.out.below hb)
        have TC := hid (TC.out.below hb)
        have T15 := hid (T15.out.below hb)
        have T18 := hid (T18.out.below hb)
        have T21 := hid ht
        clear ht hb
        go_wp2_with fail
        with_reducible refine (own2 p15 na q15 (mrg A B na) _ T15.out (by omega)).mono ?_
        rintro e w22 ⟨p22, q22, rfl, ht, hf, hb⟩
        have HB := hid (HB.out.trans (hb.mono HB.out.size))
        have TA := hid (TA.out.below hb)
        have TB := hid (TB.out.below hb)
        have TC := hid (TC.out.below hb)
        have T15 := hid (T15.out.below hb)
        have T18 := hid (T18.out.below hb)
        have T21 := hid (T21.out.below hb)
        have T22 := hid ht
        clear ht hf hb
        go_wp2_with fail
        with_reducible refine (own2 c na cc C _ TC.out (by omega)).mono ?_
        rintro e w23 ⟨p23, q23, rfl, ht, hf, hb⟩
        have HB := hid (HB.out.trans (hb.mono HB.out.size))
        have TA := hid (TA.out.below hb)
        have TB := hid (TB.out.below hb)
        have TC := hid (TC.out.below hb)
        have T15 := hid (T15.out.below hb)
        have T18 := hid (T18.out.below hb)
        have T21 := hid (T21.out.below hb)
        have T22 := hid (T22.out.below hb)
        have T23 := hid ht
        clear ht hf hb
        go_wp2_with fail
        with_reducible refine (Merge2 p22 na q22 (mrg A B na) p23 q23 C _ T22.out T23.out (by omega) vAB.out VC.out).mono ?_
        rintro e w24 ⟨p24, q24, rfl, ht, hb⟩
        have HB := hid (HB.out.trans (hb.mono HB.out.size))
        have TA := hid (TA.out.below hb)
        have TB := hid (TB.out.below hb)
        have TC := hid (TC.out.below hb)
        have T15 := hid (T15.out.below hb)
        have T18 := hid (T18.out.below hb)
        have T21 := hid (T21.out.below hb)
        have T24 := hid ht
        clear ht hb
        go_wp2_with fail
        with_reducible refine (own2 a na ca A _ TA.out (by omega)).mono ?_
        rintro e w25 ⟨p25, q25, rfl, ht, hf, hb⟩
        have HB := hid (HB.out.trans (hb.mono HB.out.size))
        have TA := hid (TA.out.below hb)
        have TB := hid (TB.out.below hb)
        have TC := hid (TC.out.below hb)
        have T15 := hid (T15.out.below hb)
        have T18 := hid (T18.out.below hb)
        have T21 := hid (T21.out.below hb)
        have T24 := hid (T24.out.below hb)
        have T25 := hid ht
        clear ht hf hb
        go_wp2_with fail
        with_reducible refine (own2 p21 na q21 (mrg B C na) _ T21.out (by omega)).mono ?_
        rintro e w26 ⟨p26, q26, rfl, ht, hf, hb⟩
        have HB := hid (HB.out.trans (hb.mono HB.out.size))
        have TA := hid (TA.out.below hb)
        have TB := hid (TB.out.below hb)
        have TC := hid (TC.out.below hb)
        have T15 := hid (T15.out.below hb)
        have T18 := hid (T18.out.below hb)
        have T21 := hid (T21.out.below hb)
        have T24 := hid (T24.out.below hb)
        have T25 := hid (T25.out.below hb)
        have T26 := hid ht
        clear ht hf hb
        go_wp2_with fail
        with_reducible refine (Merge2 p25 na q25 A p26 q26 (mrg B C na) _ T25.out T26.out (by omega) VA.out vBC.out).mono ?_
        rintro e w27 ⟨p27, q27, rfl, ht, hb⟩
        have HB := hid (HB.out.trans (hb.mono HB.out.size))
        have TA := hid (TA.out.below hb)
        have TB := hid (TB.out.below hb)
        have TC := hid (TC.out.below hb)
        have T15 := hid (T15.out.below hb)
        have T18 := hid (T18.out.below hb)
        have T21 := hid (T21.out.below hb)
        have T24 := hid (T24.out.below hb)
        have T27 := hid ht
        clear ht hb
        go_wp2_with fail
        with_reducible refine (own2 a na ca A _ TA.out (by omega)).mono ?_
        rintro e w28 ⟨p28, q28, rfl, ht, hf, hb⟩
        have HB := hid (HB.out.trans (hb.mono HB.out.size))
        have TA := hid (TA.out.below hb)
        have TB := hid (TB.out.below hb)
        have TC := hid (TC.out.below hb)
        have T15 := hid (T15.out.below hb)
        have T18 := hid (T18.out.below hb)
        have T21 := hid (T21.out.below hb)
        have T24 := hid (T24.out.below hb)
        have T27 := hid (T27.out.below hb)
        have T28 := hid ht
        clear ht hf hb
        go_wp2_with fail
        with_reducible refine (own2 a na ca A _ TA.out (by omega)).mono ?_
        rintro e w29 ⟨p29, q29, rfl, ht, hf, hb⟩
        have HB := hid (HB.out.trans (hb.mono HB.out.size))
        have TA := hid (TA.out.below hb)
        have TB := hid (TB.out.below hb)
        have TC := hid (TC.out.below hb)
        have T15 := hid (T15.out.below hb)
        have T18 := hid (T18.out.below hb)
        have T21 := hid (T21.out.below hb)
        have T24 := hid (T24.out.below hb)
        have T27 := hid (T27.out.below hb)
        have T28 := hid (T28.out.below hb)
        have T29 := hid ht
        clear ht hf hb
        go_wp2_with fail
        with_reducible refine (Merge2 p28 na q28 A p29 q29 A _ T28.out T29.out (by omega) VA.out VA.out).mono ?_
        rintro e w30 ⟨p30, q30, rfl, ht, hb⟩
        have HB := hid (HB.out.trans (hb.mono HB.out.size))
        have TA := hid (TA.out.below hb)
        have TB := hid (TB.out.below hb)
        have TC := hid (TC.out.below hb)
        have T15 := hid (T15.out.below hb)
        have T18 := hid (T18.out.below hb)
        have T21 := hid (T21.out.below hb)
        have T24 := hid (T24.out.below hb)
        have T27 := hid (T27.out.below hb)
        have T30 := hid ht
        clear ht hb
        go_upto_region 11 with fail
        go_wp2_with fail
        obtain ⟨ws, hws⟩ : ∃ y, y = w30 := ⟨_, rfl⟩
        rw [← hws] at HB TA TB TC T15 T18 T21 T24 T27 T30 ⊢
        clear hws
        go_loopw [19] (fun iv wr => ∃ i : Nat, i ≤ na ∧ iv = .int .i64 i ∧ Hid (Below ws.heap.size ws wr)) (fun iv _ => na - (intOf iv).toNat)
        case atStart => exact ⟨0, by omega, rfl, hid (Below.refl _ _)⟩
        case round =>
          obtain ⟨i, hi, rfl, HR⟩ := hrel
          by_cases hlt : i < na
          · obtain ⟨ba, oa, hpa, _⟩ := TA.out.addr (by omega)
            obtain ⟨bb, ob, hpb, _⟩ := TB.out.addr (by omega)
            obtain ⟨bm, om, hpm, _⟩ := T15.out.addr (by omega)
            have ca' := fun p : Cls (fun w' => Below wr.heap.size wr w') => (show Tb p.w (.slice a na ca) A from (TA.out.below HR.out).below p.h)
            have cb' := fun p : Cls (fun w' => Below wr.heap.size wr w') => (show Tb p.w (.slice b na cb) B from (TB.out.below HR.out).below p.h)
            have cm' := fun p : Cls (fun w' => Below wr.heap.size wr w') => (show Tb p.w (.slice p15 na q15) (mrg A B na) from (T15.out.below HR.out).below p.h)
            rw [hpa] at ca'
            rw [hpb] at cb'
            rw [hpm] at cm'
            have a0 := fun p => ((ca' p).cells i hlt).1
            have a1 := fun p => ((ca' p).cells i hlt).2
            have b0 := fun p => ((cb' p).cells i hlt).1
            have b1 := fun p => ((cb' p).cells i hlt).2
            have m0 := fun p => ((cm' p).cells i hlt).1
            have m1 := fun p => ((cm' p).cells i hlt).2
            clear ca' cb' cm'
            have N1 := hid (show ∀ wx : World, Calls Try.prog 27 #[.agg #[.int .u64 (gd A i).1, .int .u8 (gd A i).2], .agg #[.int .u64 (gd (mrg A B na) i).1, .int .u8 (gd (mrg A B na) i).2]] wx fun e w' => e = .returned (.bool false) ∧ Below wx.heap.size wx w' from fun wx => by
              have h := Newer_any (gd A i).1 (gd A i).2 (gd (mrg A B na) i).1 (gd (mrg A B na) i).2 wx
              rw [show nw ((gd A i).1, (gd A i).2) ((gd (mrg A B na) i).1, (gd (mrg A B na) i).2) = false from by rw [mrg_gd A B na i hlt]; exact nw_jn_left _ _] at h
              exact h)
            have N2 := hid (show ∀ wx : World, Calls Try.prog 27 #[.agg #[.int .u64 (gd B i).1, .int .u8 (gd B i).2], .agg #[.int .u64 (gd (mrg A B na) i).1, .int .u8 (gd (mrg A B na) i).2]] wx fun e w' => e = .returned (.bool false) ∧ Below wx.heap.size wx w' from fun wx => by
              have h := Newer_any (gd B i).1 (gd B i).2 (gd (mrg A B na) i).1 (gd (mrg A B na) i).2 wx
              rw [show nw ((gd B i).1, (gd B i).2) ((gd (mrg A B na) i).1, (gd (mrg A B na) i).2) = false from by rw [mrg_gd A B na i hlt]; exact nw_jn_right _ _] at h
              exact h)
            generalize (gd A i).1 = x1 at *
            generalize (gd A i).2 = s1 at *
            generalize (gd B i).1 = x2 at *
            generalize (gd B i).2 = s2 at *
            generalize (gd (mrg A B na) i).1 = x3 at *
            generalize (gd (mrg A B na) i).2 = s3 at *
            have hnem : Nonempty (Cls fun w' => Below wr.heap.size wr w') := ⟨⟨wr, Below.refl _ _⟩⟩
            have HPA := hid hpa
            have HPB := hid hpb
            have HPM := hid hpm
            subst hpa
            subst hpb
            subst hpm
            go_upto_region 14 with fail
            refine wp_region_class_lit (G := fun w' => Below wr.heap.size wr w') (by kernel_rfl) (by kernel_rfl) (bel_drewN (Below.refl _ _) 1) ?_
            repeat (go_big_quiet_step ((go_at_call 27; first | with_reducible exact Calls.cls (N1.out _) | with_reducible exact Calls.cls (N2.out _))))
            refine wpQuiet_nil ?_
            rintro _ ⟨p, rfl⟩
            have HR2 := hid (HR.out.trans (p.h.mono HR.out.size))
            go_wp2
            exact ⟨⟨i + 1, by omega, by go_num, HR2⟩, by simp [intOf]; omega⟩
          · obtain rfl : i = na := by omega
            have hb := HR.out
            have HB := hid (HB.out.trans (hb.mono HB.out.size))
            have TA := hid (TA.out.below hb)
            have TB := hid (TB.out.below hb)
            have TC := hid (TC.out.below hb)
            have T15 := hid (T15.out.below hb)
            have T18 := hid (T18.out.below hb)
            have T21 := hid (T21.out.below hb)
            have T24 := hid (T24.out.below hb)
            have T27 := hid (T27.out.below hb)
            have T30 := hid (T30.out.below hb)
            clear hb
            go_wp2_with fail
            have hsm := SameTable_any p15 i q15 (mrg A B i) p18 i q18 (mrg B A i) _ T15.out T18.out (by omega)
            rw [show decide ((mrg A B i) = (mrg B A i)) = true from decide_eq_true (mrg_comm A B i)] at hsm
            with_reducible refine hsm.mono ?_
            rintro e w31 ⟨rfl, qq, hww⟩
            have hb : Below wr.heap.size wr w31 := by rw [hww]; exact bel_drewN (Below.refl _ _) qq
            clear hsm hww
            have HB := hid (HB.out.trans (hb.mono HB.out.size))
            have TA := hid (TA.out.below hb)
            have TB := hid (TB.out.below hb)
            have TC := hid (TC.out.below hb)
            have T15 := hid (T15.out.below hb)
            have T18 := hid (T18.out.below hb)
            have T21 := hid (T21.out.below hb)
            have T24 := hid (T24.out.below hb)
            have T27 := hid (T27.out.below hb)
            have T30 := hid (T30.out.below hb)
            clear hb
            go_wp2_with fail
            have hsm := SameTable_any p24 i q24 (mrg (mrg A B i) C i) p27 i q27 (mrg A (mrg B C i) i) _ T24.out T27.out (by omega)
            rw [show decide ((mrg (mrg A B i) C i) = (mrg A (mrg B C i) i)) = true from decide_eq_true (mrg_assoc A B C i)] at hsm
            with_reducible refine hsm.mono ?_
            rintro e w32 ⟨rfl, qq, hww⟩
            have hb : Below w31.heap.size w31 w32 := by rw [hww]; exact bel_drewN (Below.refl _ _) qq
            clear hsm hww
            have HB := hid (HB.out.trans (hb.mono HB.out.size))
            have TA := hid (TA.out.below hb)
            have TB := hid (TB.out.below hb)
            have TC := hid (TC.out.below hb)
            have T15 := hid (T15.out.below hb)
            have T18 := hid (T18.out.below hb)
            have T21 := hid (T21.out.below hb)
            have T24 := hid (T24.out.below hb)
            have T27 := hid (T27.out.below hb)
            have T30 := hid (T30.out.below hb)
            clear hb
            go_wp2_with fail
            have hsm := SameTable_any p30 i q30 (mrg A A i) a i ca A _ T30.out TA.out (by omega)
            rw [show decide ((mrg A A i) = A) = true from decide_eq_true (by rw [lA.out]; exact mrg_self A)] at hsm
            with_reducible refine hsm.mono ?_
            rintro e w33 ⟨rfl, qq, hww⟩
            have hb : Below w32.heap.size w32 w33 := by rw [hww]; exact bel_drewN (Below.refl _ _) qq
            clear hsm hww
            have HB := hid (HB.out.trans (hb.mono HB.out.size))
            have TA := hid (TA.out.below hb)
            have TB := hid (TB.out.below hb)
            have TC := hid (TC.out.below hb)
            have T15 := hid (T15.out.below hb)
            have T18 := hid (T18.out.below hb)
            have T21 := hid (T21.out.below hb)
            have T24 := hid (T24.out.below hb)
            have T27 := hid (T27.out.below hb)
            have T30 := hid (T30.out.below hb)
            clear hb
            go_wp2_with fail
            with_reducible refine (HK _).mono ?_
            rintro e wk ⟨rfl, hb⟩
            have HB := hid (HB.out.trans (hb.mono HB.out.size))
            go_wp2
            go_ret
            exact ⟨rfl, HB.out⟩
end Go.Proofs.Ytbdefmjjhkonjaa
