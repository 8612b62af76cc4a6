/-
  DigestReadBack: the walk.
-/
import Derived.Test.YteaidpbopgjleaaDoorKnw
import Derived.Test.YteaidpbopgjleaaDoorHvy
namespace Go.Proofs.YteaidpbopgjleaaDoor
open Go Go.RowKit
set_option linter.unusedVariables false

/-- what the loop of the writing keeps -/
structure WrL (w wr : World) (wb : Nat) (os : List OpV) (i : Nat) (vv : Value) : Prop where
  at_ : WrAt wr wb 1048576 vv (enc os i) false
  bel : Below w.heap.size w wr
  own : ∀ k, vv.ownBlock = some k → w.heap.size ≤ k
  ok6 : ∀ j, (hj : j < os.length) → j < i → os[j].1 = 6 → opN os[j] ≤ 65535
/-- what the loop of the reading keeps -/
def RdL (w wr : World) (rb : Nat) (os : List OpV) (i : Nat) : Prop := (∃ a c, RdAt wr rb a c (decO os i) 0) ∧ Below w.heap.size w wr

theorem enc_dec (os : List OpV) (j : Nat) : enc os os.length = enc os j ++ decO os j := by
  unfold enc decO
  rw [← List.flatMap_append, List.take_append_drop, List.take_length]

set_option maxRecDepth 100000 in
set_option maxHeartbeats 4000000 in
theorem readback_walk (w : World) (V : Vars w shaRound shaStart) (v : Value) (os : List OpV) (hP : Ops w v os) :
    Calls Tryd.prog 4 #[v] w fun e w' => e = .returned (.bool true) ∧ Below w.heap.size w w' := by
  have HK := hid (fun (wx : World) (b : Below w.heap.size w wx) => known_dg wx (V.below b))
  have HH := hid (heavy_any v os w hP)
  have HP := hid hP
  obtain ⟨a, c, rfl, -⟩ := hP
  obtain ⟨n, hn⟩ : ∃ n, n = os.length := ⟨_, rfl⟩
  rw [← hn] at HH ⊢
  have HN := hid hn
  have HNW := hid (show Calls Tryd.prog 16 #[.int .i64 1048576] w _ from NewWriter_any 1048576 (by decide) w)
  clear hn V
  go_enter Tryd.func4, Tryd.ntmps4
  go_wp2_with fail
  refine HH.out.mono ?_
  clear HH
  rintro e w1 ⟨hv, rfl, rfl, hfacts⟩
  cases hv with
  | true =>
    go_wp2_with fail
    refine (HK.out w (Below.refl _ _)).mono ?_
    rintro e w2 ⟨rfl, hb2⟩
    go_wp2
    go_ret
    exact ⟨rfl, hb2⟩
  | false =>
  obtain ⟨hf1, hf2, hf3⟩ := hfacts rfl
  have HF := hid (And.intro hf1 (And.intro hf2 hf3))
  have hn200 : n ≤ 200 := by rw [HN.out]; exact hf1
  clear hfacts hf1 hf2 hf3
  go_wp2_with fail
  refine HNW.out.mono ?_
  clear HNW
  rintro e w1 ⟨rfl, hW1, hb1⟩
  obtain ⟨wb, hwb⟩ : ∃ x, x = w.heap.size := ⟨_, rfl⟩
  rw [← hwb] at hW1 ⊢
  have HWB := hid hwb
  have HI1 := hid (show WrL w w1 wb os 0 (.slice none 0 0) from ⟨hW1, hb1, (fun k h => by cases h), fun j hj h => absurd h (Nat.not_lt_zero _)⟩)
  clear hW1 hb1 hwb
  go_wp2
  go_loopw [4] (fun iv wr => ∃ (i : Nat) (vv : Value), i ≤ n ∧ iv = .int .i64 i ∧ Hid (WrL w wr wb os i vv)) (fun iv _ => n - (intOf iv).toNat)
  case atStart => exact ⟨0, _, by omega, rfl, HI1⟩
  case round =>
    clear HI1
    obtain ⟨i, vv, hi, rfl, HI⟩ := hrel
    by_cases hin : i < n
    case pos => as_aux_lemma =>
      have hIn : (i : Int) < (n : Int) := by omega
      have hil : i < os.length := by rw [← HN.out]; exact hin
      obtain ⟨b, o, c', hv, c0, c1, c2, c3, hby, hx⟩ := ops_at HP.out i hil
      simp only [Value.slice.injEq] at hv
      obtain ⟨rfl, -, -⟩ := hv
      have hlt := World.block_lt_of_cell? _ _ c0
      have hes := enc_succ os i hil
      have hel := enc_len os (fun j hj => by obtain ⟨_, _, _, _, _, _, _, _, h, _⟩ := ops_at HP.out j hj; exact h.1.len.symm) (i + 1) hil
      have htm := tot_mono os (i + 1) hil
      have h6n := HF.out.2.1 i hil
      have HOK := hid (show (os[i].1 = 6 → opN os[i] ≤ 65535) → ∀ j, (hj : j < os.length) → j < i + 1 → os[j].1 = 6 → opN os[j] ≤ 65535 from fun h j hj hji => by
        by_cases e : j = i
        · subst e; exact h
        · exact HI.out.ok6 j hj (by omega))
      have hob : opBV os[i] = opB os[i].1 os[i].2.1 os[i].2.2.2.2.2.2 := rfl
      have hon : opN os[i] = os[i].2.2.2.2.1 := rfl
      rw [hon] at HOK h6n
      rw [hob] at hes
      rw [hes, List.length_append] at hel
      clear hob hon
      generalize os[i] = q at *
      obtain ⟨k, x, nn, pa, pn, pc, bs⟩ := q
      simp only at c0 c1 c2 c3 hby hx hes HOK h6n hel
      have HBEL := hid HI.out.bel
      have hB := fun {o' : Nat} {u : Value} (h : w.cell? ⟨b, o', none⟩ = some u) => (HBEL.out.cell (p := ⟨b, o', none⟩) hlt).trans h
      have d0 := hB c0
      have d1 := hB c1
      have d2 := hB c2
      have d3 := hB c3
      have HBS := hid (hby.1.below HBEL.out)
      have HPN := hid hby.2.2
      have HPL := hid hby.1.len
      have HES := hid hes
      have HEL := hid (show (enc os i).length + (opB k x bs).length ≤ 1048576 from by have := HF.out.1; have := HF.out.2.2; omega)
      have HQ := hid (write_any wb 1048576 x pn pc k nn pa vv (enc os i) bs false wr HI.out.at_ hx HBS.out HPN.out (by omega))
      clear c0 c1 c2 c3 hby hes hel htm hB hx hlt
      by_cases hk6 : k = 6 ∧ 65535 < pn
      · obtain ⟨rfl, hbig⟩ := hk6
        have hG : 65535 < (pn : Int) := by omega
        go_wp2_with fail
        refine (HK.out wr HBEL.out).mono ?_
        rintro e w2 ⟨rfl, hb2⟩
        have HB2 := hid (HBEL.out.trans (hb2.mono HBEL.out.size))
        clear hb2
        go_wp2
        go_ret
        exact ⟨rfl, HB2.out⟩
      have HOK2 := hid (HOK.out (fun h => by omega))
      have HWO := hid (wop_ok 1048576 (enc os i) k x bs HEL.out (fun h => by rw [← HPL.out]; omega))
      rw [HWO.out, ← HES.out] at HQ
      clear HOK
      have HNX := hid (show ∀ (e : Ending) (w2 : World), (e = .returned (.tuple #[]) ∧ Wrote wb 1048576 vv (enc os (i + 1), false) wr w2) → e = .returned (.tuple #[]) ∧ ∃ v2, WrL w w2 wb os (i + 1) v2 from fun e w2 h => by
        obtain ⟨h0, v2, h2, k2, s2⟩ := h
        exact ⟨h0, v2, h2, HBEL.out.trans (k2.below HBEL.out.size (by rw [HWB.out]; exact Nat.le_refl _) HI.out.own), fun q hq => by
          rcases s2 q hq with h | h
          · exact HI.out.own q h
          · exact Nat.le_trans HBEL.out.size h, HOK2.out⟩)
      by_cases h6 : k = 6
      · subst h6
        go_wp2_with fail
        refine HQ.out.mono ?_
        clear HQ
        intro e w2 hp
        obtain ⟨rfl, v2, hI2⟩ := HNX.out e w2 hp
        have HI2 := hid hI2
        clear hI2 hp
        go_wp2
        exact ⟨⟨i + 1, v2, by omega, by go_num, HI2⟩, by simp [intOf]; omega⟩
      · have b6 : (k == 6) = false := by rw [beq_eq_false_iff_ne]; exact h6
        go_wp2_with fail
        refine HQ.out.mono ?_
        clear HQ
        intro e w2 hp
        obtain ⟨rfl, v2, hI2⟩ := HNX.out e w2 hp
        have HI2 := hid hI2
        clear hI2 hp
        go_wp2
        exact ⟨⟨i + 1, v2, by omega, by go_num, HI2⟩, by simp [intOf]; omega⟩
    case neg => as_aux_lemma =>
      obtain rfl : i = n := by omega
      have hnn : ¬ ((i : Int) < (i : Int)) := by omega
      have HBEL := hid HI.out.bel
      have HL := hid (enc_len os (fun j hj => by obtain ⟨_, _, _, _, _, _, _, _, h, _⟩ := ops_at HP.out j hj; exact h.1.len.symm) i (by rw [HN.out]; exact Nat.le_refl _))
      have HBY := hid (Bytes_any wb 1048576 vv (enc os i) false wr HI.out.at_)
      obtain ⟨L, hL⟩ : ∃ x, x = (enc os i).length := ⟨_, rfl⟩
      rw [← hL] at HBY HL
      have htm := HF.out.2.2
      have hLL : L ≤ 1048576 := by have := HL.out; have h1 := HF.out.1; have h2 := HN.out; rw [← h2] at htm; omega
      have HLL := hid hL
      have HLT := hid HI.out.at_.lt
      have HOK6 := hid (show ∀ j, (hj : j < os.length) → os[j].1 = 6 → opN os[j] ≤ 65535 from fun j hj => HI.out.ok6 j hj (by rw [HN.out]; exact hj))
      clear hL htm
      go_wp2_with fail
      refine HBY.out.mono ?_
      clear HBY
      intro e w2 hp
      obtain ⟨u, rfl, au, cu, rfl, hcu, hbu, hnu, hfu, hbel⟩ := hp.2 rfl
      have HB2 := hid (HBEL.out.trans (hbel.mono HBEL.out.size))
      have HNR := hid (NewReader_any au L cu (enc os i) w2 hbu hnu (by omega))
      clear hp hbu hnu hfu hbel hcu
      go_wp2_with fail
      refine HNR.out.mono ?_
      clear HNR
      rintro e w3 ⟨rb, a3, c3, rfl, hrb, hR3, hfr3, hb3⟩
      have hrbw : w.heap.size ≤ rb := Nat.le_trans HB2.out.size hrb
      have HI3 := hid (show RdL w w3 rb os 0 from ⟨⟨a3, c3, by rw [← enc_all, ← HN.out]; exact hR3⟩, HB2.out.trans (hb3.mono HB2.out.size)⟩)
      have HRL := hid (fun j => show (decO os j).length ≤ 100000000000 from by
        have h1 := enc_dec os j
        have h2 := congrArg List.length h1
        rw [List.length_append, ← HN.out, ← HLL.out] at h2
        omega)
      clear hR3 hfr3 hb3 hrb HI HB2 HBEL
      obtain ⟨wo, rfl⟩ : ∃ x, x = wr := ⟨_, rfl⟩
      go_wp2
      go_loopw [8] (fun jv wr => ∃ j : Nat, j ≤ i ∧ jv = .int .i64 j ∧ Hid (RdL w wr rb os j)) (fun jv _ => i - (intOf jv).toNat)
      case atStart => exact ⟨0, by omega, rfl, HI3⟩
      case round =>
        clear HI3
        obtain ⟨j, hj, rfl, HI⟩ := hrel
        by_cases hjn : j < i
        case neg =>
          obtain rfl : j = i := by omega
          have hnn : ¬ ((j : Int) < (j : Int)) := by omega
          have HBEL := hid HI.out.2
          have hR : ∃ a c, RdAt wr rb a c [] 0 := by
            obtain ⟨a, c, h⟩ := HI.out.1
            have e : decO os j = [] := by rw [HN.out]; exact decO_end os
            rw [e] at h
            exact ⟨a, c, h⟩
          obtain ⟨ra, rc, hR⟩ := hR
          have HE := hid (rEnd rb ra rc wr hR)
          have HS := hid (Rest_any rb ra rc [] 0 wr hR)
          clear hR
          go_wp2_with fail
          refine HE.out.mono ?_
          rintro e w5 ⟨rfl, rfl⟩
          go_wp2_with fail
          refine HS.out.mono ?_
          rintro e w5 ⟨rfl, rfl⟩
          go_wp2_with fail
          refine (HK.out wr HBEL.out).mono ?_
          rintro e w5 ⟨rfl, hb5⟩
          have HB5 := hid (HBEL.out.trans (hb5.mono HBEL.out.size))
          clear hb5
          go_wp2
          go_ret
          exact ⟨rfl, HB5.out⟩
        case pos => as_aux_lemma =>
          have hIn : (j : Int) < (i : Int) := by omega
          have hil : j < os.length := by rw [← HN.out]; exact hjn
          obtain ⟨b, o, c', hv, c0, c1, c2, c3, hby, hx⟩ := ops_at HP.out j hil
          simp only [Value.slice.injEq] at hv
          obtain ⟨rfl, -, -⟩ := hv
          have hlt := World.block_lt_of_cell? _ _ c0
          have hes := decO_succ os j hil
          have h6 := HOK6.out j hil
          have hob : opBV os[j] = opB os[j].1 os[j].2.1 os[j].2.2.2.2.2.2 := rfl
          have hon : opN os[j] = os[j].2.2.2.2.1 := rfl
          have h7n := HF.out.2.1 j hil
          rw [hon] at h6 h7n
          rw [hob] at hes
          clear hob hon
          generalize os[j] = q at *
          obtain ⟨k, x, nn, pa, pn, pc, bs⟩ := q
          simp only at c0 c1 c2 c3 hby hx hes h6 h7n
          have HBEL := hid HI.out.2
          have hB := fun {o' : Nat} {u : Value} (h : w.cell? ⟨b, o', none⟩ = some u) => (HBEL.out.cell (p := ⟨b, o', none⟩) hlt).trans h
          have d0 := hB c0
          have d1 := hB c1
          have d2 := hB c2
          have d3 := hB c3
          have HBS := hid hby.1
          have HPL := hid hby.1.len
          have HX := hid hx
          have H6 := hid h6
          obtain ⟨ra, rc, hR⟩ := HI.out.1
          rw [hes] at hR
          have HDS := hid hes
          have HR := hid hR
          have hblt : b < wr.heap.size := Nat.lt_of_lt_of_le hlt HBEL.out.size
          clear c0 c1 c2 c3 hby hes hB hx hlt hR h6
          obtain ⟨w4, hw4⟩ : ∃ y, y = wr.alloc (.cells #[.int .i64 k, .int .u64 (x : Int), .int .i64 (pn : Int), .slice pa pn pc] 40) := ⟨_, rfl⟩
          have hb4 : Below wr.heap.size wr w4 := by rw [hw4]; exact (Below.refl _ _).alloc (Nat.le_refl _) _
          have HOC := hid (ocells wr k x (pn : Int) pa pn pc)
          rw [← hw4] at HOC
          have hrbl : rb < wr.heap.size := lt_of_heap HR.out.at_
          have hl4 : wr.heap.size < w4.heap.size := by rw [hw4]; simp
          have HL4 := hid hl4
          have HBW4 := hid (HBEL.out.trans (hb4.mono HBEL.out.size))
          have HQ := hid (read_any rb x pn pc rc k (pn : Int) 0 pa ra _ w4 (HR.out.below hb4) (by
            have h := HRL.out j
            rw [HDS.out] at h
            exact h))
          rw [rop_ok k x bs (decO os (j + 1)) (pn : Int) HX.out (fun h => by rw [← HPL.out]; exact H6.out h) (by rw [HPL.out])] at HQ
          clear hb4 HR hl4
          go_wp2_with fail
          change Calls _ _ _ (wr.alloc (.cells #[.int .i64 k, .int .u64 (x : Int), .int .i64 (pn : Int), .slice pa pn pc] 40)) _
          rw [← hw4]
          clear hw4 d0 d1 d2 d3
          refine HQ.out.mono ?_
          clear HQ
          rintro e w5 ⟨u, rfl, ao, co, rfl, hco, hnil, hfar, hbo, a5, c5, hR5, hK5⟩
          obtain ⟨ob, hob⟩ : ∃ y, y = wr.heap.size := ⟨_, rfl⟩
          have hk5 : w5.heap[ob]? = w4.heap[ob]? := hK5.block ob (by rw [hob]; exact HL4.out) (by omega)
          obtain ⟨c0, c1, c2, c3⟩ := HOC.out
          rw [← hob] at c0 c1 c2 c3 ⊢
          have d0 := (World.cell?_of_block (a := ⟨ob, 0, none⟩) hk5).trans c0
          have d1 := (World.cell?_of_block (a := ⟨ob, 1, none⟩) hk5).trans c1
          have d3 := (World.cell?_of_block (a := ⟨ob, 3, none⟩) hk5).trans c3
          have HB5 := hid (HBW4.out.trans (hK5.below HBW4.out.size hrbw))
          have HI5 := hid (show RdL w w5 rb os (j + 1) from ⟨⟨a5, c5, hR5⟩, HB5.out⟩)
          have hcv2 := conv_bs (HBS.out.below HB5.out)
          simp only at hbo hco
          have HBO := hid hbo
          have hb255 : bits .and .u64 (x : Int) 255 = ((x % 256 : Nat) : Int) := by
            have h := u64_and_nat x 255 HX.out (by omega)
            rw [Nat.and_two_pow_sub_one_eq_mod x 8] at h
            exact h
          have hb65535 : bits .and .u64 (x : Int) 65535 = ((x % 65536 : Nat) : Int) := by
            have h := u64_and_nat x 65535 HX.out (by omega)
            rw [Nat.and_two_pow_sub_one_eq_mod x 16] at h
            exact h
          have hb32 : bits .and .u64 (x : Int) 4294967295 = ((x % 4294967296 : Nat) : Int) := by
            have h := u64_and_nat x 4294967295 HX.out (by omega)
            rw [Nat.and_two_pow_sub_one_eq_mod x 32] at h
            exact h
          clear c0 c1 c2 c3 hk5 hob hfar hnil hbo hR5 hK5 HOC HBW4
          by_cases k1 : k = 1
          · subst k1
            have ev : outv 1 x = x % 256 := rfl
            have eb : outb 1 bs = [] := rfl
            rw [ev, eb]
            clear ev eb hcv2
            go_wp2
            exact ⟨⟨j + 1, by omega, by go_num, HI5⟩, by simp [intOf]; omega⟩
          by_cases k2 : k = 2
          · subst k2
            have ev : outv 2 x = x % 65536 := rfl
            have eb : outb 2 bs = [] := rfl
            rw [ev, eb]
            clear ev eb hcv2
            go_wp2
            exact ⟨⟨j + 1, by omega, by go_num, HI5⟩, by simp [intOf]; omega⟩
          by_cases k3 : k = 3
          · subst k3
            have ev : outv 3 x = x % 4294967296 := rfl
            have eb : outb 3 bs = [] := rfl
            rw [ev, eb]
            clear ev eb hcv2
            go_wp2
            exact ⟨⟨j + 1, by omega, by go_num, HI5⟩, by simp [intOf]; omega⟩
          by_cases k4 : k = 4
          · subst k4
            have ev : outv 4 x = x := rfl
            have eb : outb 4 bs = [] := rfl
            rw [ev, eb]
            clear ev eb hcv2
            go_wp2
            exact ⟨⟨j + 1, by omega, by go_num, HI5⟩, by simp [intOf]; omega⟩
          by_cases k5 : k = 5
          · subst k5
            have ev : outv 5 x = 0 := rfl
            have eb : outb 5 bs = bs := rfl
            have hcv1 := conv_bs HBO.out
            rw [eb] at hcv1
            rw [ev, eb]
            clear ev eb
            generalize bstr bs = S at *
            go_wp2
            exact ⟨⟨j + 1, by omega, by go_num, HI5⟩, by simp [intOf]; omega⟩
          by_cases k6 : k = 6
          · subst k6
            have ev : outv 6 x = 0 := rfl
            have eb : outb 6 bs = bs := rfl
            have hcv1 := conv_bs HBO.out
            rw [eb] at hcv1
            rw [ev, eb]
            clear ev eb
            generalize bstr bs = S at *
            go_wp2
            exact ⟨⟨j + 1, by omega, by go_num, HI5⟩, by simp [intOf]; omega⟩
          have b1 : (k == 1) = false := by rw [beq_eq_false_iff_ne]; exact k1
          have b2 : (k == 2) = false := by rw [beq_eq_false_iff_ne]; exact k2
          have b3 : (k == 3) = false := by rw [beq_eq_false_iff_ne]; exact k3
          have b4 : (k == 4) = false := by rw [beq_eq_false_iff_ne]; exact k4
          have b5 : (k == 5) = false := by rw [beq_eq_false_iff_ne]; exact k5
          have b6 : (k == 6) = false := by rw [beq_eq_false_iff_ne]; exact k6
          clear hcv2
          generalize outv k x = y at *
          generalize (outb k bs).length = z at *
          go_wp2
          exact ⟨⟨j + 1, by omega, by go_num, HI5⟩, by simp [intOf]; omega⟩
end Go.Proofs.YteaidpbopgjleaaDoor
