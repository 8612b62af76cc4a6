/-
  The walk of the law that consistent pieces are not any more when a byte is changed.
-/
import Derived.Test.YtbajekiliplclaaDetM
namespace Go.Proofs.Ytbajekiliplclaa
open Go Go.RowKit
set_option linter.unusedVariables false

set_option maxRecDepth 100000 in
set_option maxHeartbeats 4000000 in
theorem detects_in (W : World) (k t : Nat) (h1 : 1 ≤ k) (h2 : k + 1 ≤ t) (h3 : t ≤ 30) (S I : Int) (da oa ia pa : Option Addr) (n dc ol oc il ic pl pc : Nat) (d : List Nat) (li : List Int) (Wh At : Int) (M : Nat)
    (hd : Bs W (.slice da n dc) d) (hdn : da = none → dc = 0) (hn : n ≤ 2000) (hi : Is W (.slice ia il ic) li) (hil : il ≤ 60) (hM : M < 256) :
    Calls Try.prog 11 #[.agg #[.int .i64 k, .int .i64 t, .int .i64 S, .int .i64 I, .slice da n dc, .slice oa ol oc, .slice ia il ic, .int .i64 Wh, .int .i64 At, .int .u8 M, .slice pa pl pc]] W fun e w' => e = .returned (.bool true) ∧ Below W.heap.size W w' := by
  have b1 : decide ((k : Int) < 1) = false := by simp; omega
  have b2 : decide (t ≤ k) = false := by simp; omega
  have b3 : decide ((30 : Int) < (t : Int)) = false := by simp; omega
  have b4 : decide ((2000 : Int) < (n : Int)) = false := by simp; omega
  have b5 : decide ((60 : Int) < (il : Int)) = false := by simp; omega
  obtain ⟨j0, hj0, hz0, hz1, hz2⟩ := info_parts info36
  have HD := hid hd
  have HI := hid hi
  have HDL := hid hd.len
  have HDLT := hid hd.lt
  have HDN := hid hdn
  clear hd hi hdn
  go_enter Try.func11, Try.ntmps11
  go_wp2_with fail
  go_quiet (fail)
  go_wp2_with fail
  obtain ⟨w1, hw1⟩ : ∃ w1, w1 = (W.alloc (Obj.cells #[.int .i64 k, .int .i64 t, .int .i64 S, .int .i64 I, .slice da n dc, .slice oa ol oc, .slice ia il ic, .int .i64 Wh, .int .i64 At, .int .u8 M, .slice pa pl pc] 39)).drewN nq := ⟨_, rfl⟩
  have hW1 : Below W.heap.size W w1 := by rw [hw1]; exact bel_drewN ((Below.refl _ _).alloc (Nat.le_refl _) _) _
  rw [← hw1]
  clear hw1
  refine (newField_ex _).mono ?_
  rintro e w2 ⟨fb, hfb, rfl, hfr, hb2⟩
  have HW2 := hid (known_end hW1 hb2)
  have HF2 := hid (show Fld w2 fb from .inl hfr)
  have hf2 := lt_of_heap hfr
  have hs1 := hW1.size
  clear hfr hb2 hW1
  go_wp2_with (refine wpList_clone rfl (.tmp 60) (.tmp 61) rfl w2.heap.size rfl (heap_new w2 _) da n dc d rfl ((HD.out.below HW2.out).alloc _) HDN.out (by omega) ?_)
  intro a' c' w3 hd3 hnc3 hlow3 _ hk3
  have hb3 : Below w2.heap.size w2 w3 := ((Below.refl _ _).alloc (Nat.le_refl _) _).trans (hk3.below (by simp) (Nat.le_refl _))
  have HF3 := hid (show Fld w3 fb from HF2.out.elim (fun h => .inl ((hb3.block _ hf2).trans h)) (fun h => .inr ((hb3.block _ hf2).trans h)))
  have hoff : Off fb (.slice a' n c') := by
    cases a' with
    | none => trivial
    | some ad => show ad.block ≠ fb; have := (hlow3 ad rfl).1; omega
  have HOFF := hid hoff
  have HD3 := hid hd3
  have HW3 := hid (known_end HW2.out hb3)
  have hs3 := hb3.size
  clear hk3 hlow3 hoff hd3 hb3
  go_wp2_with fail
  refine (Encode_any fb k t a' n c' d _ HF3.out HD3.out HOFF.out hnc3 h1 (by omega) (by omega) (by omega)).mono ?_
  rintro e w4 ⟨g, bf, hg, rfl, hp4, hB4, hk4⟩
  have hLn := plen_le k n h1
  have HKL := hid (plen_ge k n h1)
  generalize hL : plen k n = L at *
  have HL := hid hL
  have HP4 := hid hp4
  have HB4 := hid hB4
  have hs4 := hk4.size
  have HW4 := hid (HW3.out.trans (hk4.below (by have := HW3.out.size; omega) (by omega)))
  have hf4 := hB4.lt
  have hgl := hp4.own.lt
  clear hp4 hB4 hk4 hL hnc3
  have hown0 : (w4.alloc (.cells #[] 36)).ownsRow w4.heap.size 36 2 (.slice (some ⟨w4.heap.size, 0, none⟩) 0 0) 0 (pcells (chosenP bf L [] 0)) := ⟨rfl, .inr ⟨w4.heap.size, 0, #[], rfl, Nat.le_refl _, heap_new _ _, Nat.le_refl _, Nat.zero_le _, rfl, rfl⟩⟩
  have HO0 := hid hown0
  obtain ⟨m, hm⟩ : ∃ m, m = k + 1 := ⟨_, rfl⟩
  have hcho := fun w (hw : Below W.heap.size W w) => choose_any m t (by omega) (by omega) (by omega) ia il ic li w (HI.out.below hw)
  rw [show ((m : Nat) : Int) = (k : Int) + 1 from by omega] at hcho
  have HCHO := hid hcho
  have HM := hid hm
  have hm1 : 1 ≤ m := by omega
  have hmt : m ≤ t := by omega
  have hmk : k < m := by omega
  have hmk2 : m ≤ k + 1 := by omega
  have hb44 : Below w4.heap.size w4 (w4.alloc (.cells #[] 36)) := (Below.refl _ _).alloc (Nat.le_refl _) _
  have HB44 := hid hb44
  clear hown0 hb44 hcho hm
  go_wp2_with fail
  refine (HCHO.out _ (known_end HW4.out HB44.out)).mono ?_
  rintro e w5 ⟨vo, s, rfl, hvo, hch, hb5⟩
  obtain ⟨rg, rcap, rfl, _, _⟩ := hvo.form (by omega)
  have HCH := hid hch
  have HVO := hid hvo
  have hown5 := owns_below HO0.out hb5
  have HB5 := hid (known_end HB44.out hb5)
  have HO5 := hid (show w5.ownsRow w4.heap.size 36 2 (.slice (some ⟨w4.heap.size, 0, none⟩) 0 0) 0 (pcells (chosenP bf L s 0)) from hown5)
  clear hvo hch hown5 hb5 HO0 HB44
  go_wp2
  go_loopw [13, 15] (fun v iv wr => ∃ i : Nat, i ≤ m ∧ iv = .int .i64 i ∧ Hid (wr.ownsRow w4.heap.size 36 2 v i (pcells (chosenP bf L s i))) ∧ Hid (∃ B, wr.ownsRow B 3 1 (.slice (some ⟨rg, 0, none⟩) m rcap) m (nis s)) ∧ Hid (Below w4.heap.size w4 wr)) (fun _ iv _ => m - (intOf iv).toNat)
  case atStart => exact ⟨0, by omega, rfl, HO5, hid ⟨_, HVO.out⟩, HB5⟩
  case round =>
    clear HO5 HVO HB5
    obtain ⟨i, hi', rfl, HO, HV, HB⟩ := hrel
    by_cases hlt : i < m
    · obtain ⟨Bv, hv⟩ := HV.out
      have HVR := hid hv
      have cr := owns_nis_cell hv i (by rw [HCH.out.len]; exact hlt)
      have hrt := HCH.out.getD_lt (by omega) i
      have hps := (HP4.out.below (HB.out)).own.ps t t (by rw [mkps_length])
      obtain ⟨p0, p1⟩ := hps.cells (s.getD i 0) (by rw [mkps_length]; exact hrt)
      rw [mkps_get _ _ _ _ _ _ hrt] at p0 p1
      rw [Nat.zero_add] at p0 p1
      have hown1 := HO.out.alloc (.cells #[.int .i64 (s.getD i 0 : Nat), .slice (some ⟨bf (s.getD i 0), 0, none⟩) L L] 36)
      have HO1 := hid hown1
      have hsz := HB.out.size
      have HSU := hid (chosenP_succ bf L s i)
      clear hps hv hown1
      generalize hr : s.getD i 0 = r at *
      have HR := hid hr
      clear hr
      go_wp2_with (refine wpList_append_own _ rfl (.tmp 85) (.tmp 93) _ rfl w4.heap.size 36 j0 (.agg #[.int .i64 0, .slice none 0 0]) 2 32 Try.underlying28 hj0 hz0 hz1 hz2 rfl (by decide) _ i (pcells (chosenP bf L s i)) rfl HO1.out ⟨wr.heap.size, 0, none⟩ 1 1 [.int .i64 (r : Nat), .slice (some ⟨bf r, 0, none⟩) L L] rfl rfl (cells_of_new2 _ _ _ _) (two_one _ 0 _ none _ _ 0 0 _) (by unfold maxLen; omega) (by omega) (by simp; omega) ?_)
      intro v' w6 hown6 hg6 _
      rw [HSU.out] at hown6
      have H6 := hid hown6
      have hv6 := (HVR.out.alloc (.cells #[.int .i64 (r : Nat), .slice (some ⟨bf r, 0, none⟩) L L] 36)).kept hg6 (own_types (HVR.out.alloc _) HO1.out (by decide))
      have HV6 := hid (show ∃ B, w6.ownsRow B 3 1 (.slice (some ⟨rg, 0, none⟩) m rcap) m (nis s) from ⟨_, hv6⟩)
      have HB6 := hid ((HB.out.alloc hsz (.cells #[.int .i64 (r : Nat), .slice (some ⟨bf r, 0, none⟩) L L] 36)).grown hg6 (by simp; omega) (fun q hq => (HO1.out.lt q hq).1))
      clear hown6 hg6 hv6 p0 p1 cr
      go_wp2
      exact ⟨⟨i + 1, by omega, by go_num, H6, HV6, HB6⟩, by simp [intOf]; omega⟩
    · obtain rfl : i = m := by omega
      obtain ⟨sg, scap, rfl, hsg, hsl⟩ := HO.out.form (by omega)
      have hcap := owns_capP HO.out
      have hbr := HB.out
      have hch2 : Chosen (k + 1) t s := HM.out ▸ HCH.out
      have HC2 := hid hch2
      have hrow : ∀ j, j < i → Own wr (bf (s.getD j 0)) (rowsD d k L s j) ∧ bf (s.getD j 0) ≠ fb ∧ (rowsD d k L s j).length = L ∧ ∀ x ∈ rowsD d k L s j, x < 256 := fun j hj => by
        have hr := HCH.out.getD_lt (by omega) j
        have h5 := (HP4.out.below hbr).row _ hr
        have h6 := HP4.out.low _ hr
        exact ⟨h5, by omega, encR_length _ _ _ _, encR_mem d HDLT.out k L _ (by omega)⟩
      have HROW := hid hrow
      have hH := chosen_held HO.out hf4 hrow
      have HH := hid hH
      have hFr : Fld wr fb := .inr ((hbr.block _ hf4).trans HB4.out)
      have hLb : L ≤ 8192 := by omega
      have hidx : ∀ q, q < k + 1 → pidx (chosenP bf L s i) q = (s.getD q 0 : Nat) := fun q hq => chosenP_idx _ _ _ _ _ (by omega)
      have hk2 : chkAll (k : Nat) (t : Nat) (pidx (chosenP bf L s i)) (alikeE (chosenP bf L s i)) i = 0 := chosenP_chk HCH.out (by omega) bf L k (by omega) _ (fun q hq => by
        unfold alikeE alikeL
        rw [chosenP_len' _ _ _ _ _ hq, chosenP_len' _ _ _ _ _ (by omega), if_neg (by omega), if_pos rfl])
      have hcon := Consistent_ok fb k t (some ⟨sg, 0, none⟩) i scap (chosenP bf L s i) (rowsD d k L s) h1 (by omega) (by omega) (by omega) hcap wr hFr hH hk2
      rw [chosenP_len' _ _ _ _ _ (by omega)] at hcon
      have htrue : ∀ q, k ≤ q → q < i → mixA (rowsD d k L s) (chosenP bf L s i) k L q = rowsD d k L s q := fun q h6 h7 => by
        obtain rfl : q = k := by omega
        exact mixA_true d HDLT.out L hch2 (by omega) h1 h2 _ hidx
      have HCON := hid hcon
      have HTRUE := hid htrue
      have HWR := hid (known_end HW4.out hbr)
      have HPR := hid (HP4.out.below hbr)
      clear hrow hH hFr hk2 hcon htrue hbr hidx hch2
      go_wp2_with fail
      refine HCON.out.mono ?_
      rintro e w7 ⟨⟨r, rfl, hr⟩, hB7, hk7⟩
      obtain rfl : r = true := hr.2 HTRUE.out
      have HK7 := hid hk7
      have HB7 := hid hB7
      have HW7 := hid (HWR.out.trans (hk7.below HWR.out.size (by omega)))
      have hps := (HH.out.step hk7).now.1
      have p1 := (hps.cells 0 (by rw [chosenP_length]; omega)).2
      rw [chosenP_get, Nat.zero_mul, Nat.add_zero] at p1
      clear hr hB7 hk7 hps
      by_cases g1 : Wh < 0
      · clear HCON HTRUE
        go_wp2_with fail
        refine (known_any _).mono ?_
        rintro e w9 ⟨rfl, hb9⟩
        go_wp2
        go_ret
        exact ⟨rfl, known_end HW7.out hb9⟩
      by_cases g2 : (k : Int) < Wh
      · clear HCON HTRUE
        go_wp2_with fail
        refine (known_any _).mono ?_
        rintro e w9 ⟨rfl, hb9⟩
        go_wp2
        go_ret
        exact ⟨rfl, known_end HW7.out hb9⟩
      by_cases g3 : At < 0
      · clear HCON HTRUE
        go_wp2_with fail
        refine (known_any _).mono ?_
        rintro e w9 ⟨rfl, hb9⟩
        go_wp2
        go_ret
        exact ⟨rfl, known_end HW7.out hb9⟩
      by_cases g4 : (L : Int) ≤ At
      · clear HCON HTRUE
        go_wp2_with fail
        refine (known_any _).mono ?_
        rintro e w9 ⟨rfl, hb9⟩
        go_wp2
        go_ret
        exact ⟨rfl, known_end HW7.out hb9⟩
      by_cases g5 : M = 0
      · have b6 : ((M : Int) == 0) = true := by simp [g5]
        have G5 := hid g5
        clear g5 HCON HTRUE
        go_wp2_with fail
        refine (known_any _).mono ?_
        rintro e w9 ⟨rfl, hb9⟩
        go_wp2
        go_ret
        exact ⟨rfl, known_end HW7.out hb9⟩
      have b6 : ((M : Int) == 0) = false := by simp; omega
      obtain ⟨wn, rfl⟩ : ∃ z : Nat, Wh = z := ⟨Wh.toNat, by omega⟩
      obtain ⟨pn, rfl⟩ : ∃ z : Nat, At = z := ⟨At.toNat, by omega⟩
      have hwk : wn ≤ k := by omega
      have hpL : pn < L := by omega
      have b7 : decide ((wn : Int) < 0) = false := by simp
      have b8 : decide (k < wn) = false := by simp; omega
      have b9 : decide ((pn : Int) < 0) = false := by simp
      have b10 : decide (L ≤ pn) = false := by simp; omega
      have G5 := hid g5
      clear g1 g2 g3 g4 g5
      have hps7 := (HH.out.step HK7.out).now
      have p2 := (hps7.1.cells wn (by rw [chosenP_length]; omega)).2
      rw [chosenP_get] at p2
      have hdw := hps7.2 wn (by rw [chosenP_length]; omega)
      rw [chosenP_get] at hdw
      rw [Nat.zero_add] at p2
      have HDW := hid hdw
      have hiw : wn < i := by omega
      have hsg7 : sg < w7.heap.size := World.block_lt_of_cell? _ _ p2
      have hiw2 : (wn : Int) < (i : Int) := by omega
      clear hps7 hdw
      go_wp2_with (refine wpList_cloneB rfl (.tmp 135) (.tmp 140) rfl w7.heap.size rfl (heap_new w7 _) (some ⟨bf (s.getD wn 0), 0, none⟩) L L (rowsD d k L s wn) rfl (HDW.out.alloc _) (fun h => by cases h) (by omega) ?_)
      intro a8 c8 w8 hd8 hnc8 hlow8 _ hk8 hown8
      obtain ⟨g8, rfl, hg8, hbuf8, hlen8⟩ := buf_of_owns hown8 (by omega)
      have hb8 : Below w7.heap.size w7 w8 := ((Below.refl _ _).alloc (Nat.le_refl _) _).trans (hk8.below (by simp) (Nat.le_refl _))
      obtain ⟨x, hx⟩ : ∃ x, x = (rowsD d k L s wn).getD pn 0 := ⟨_, rfl⟩
      have hx2 : x < 256 := by rw [hx]; exact encR_lt d HDLT.out k L _ pn (by omega) (by have := HCH.out.getD_lt (by omega) wn; omega)
      have hM2 : M < 256 := hM
      have cg := hbuf8.cell pn (by unfold rowsD; rw [encR_length]; exact hpL)
      rw [← hx] at cg
      have fg := hbuf8.free pn
      have hxo := u8_xor_nat x M hx2 hM2
      have hv2 : x ^^^ M < 256 := Gf.xor_lt hx2 hM2
      have hvne : x ^^^ M ≠ (rowsD d k L s wn).getD pn 0 := by rw [← hx]; exact xor_ne_self x M G5.out
      have hs78 := hb8.size
      have hg8l := hbuf8.lt
      have hgs : g8 ≠ sg := by omega
      -- the changed buffer
      have hbuf9 := hbuf8.set pn (x ^^^ M) (by unfold rowsD; rw [encR_length]; exact hpL)
      have HBUF9 := hid hbuf9
      -- the row of pieces
      have ho7 := HO.out.kept (kept_grown HK7.out) (.inr (by simp [Value.ownBlock]; omega))
      have ho8 := owns_below ho7 hb8
      have ho9 : (w8.setCell ⟨g8, pn, none⟩ (.int .u8 (x ^^^ M : Nat))).ownsRow w4.heap.size 36 2 (.slice (some ⟨sg, 0, none⟩) i scap) i (pcells (chosenP bf L s i)) :=
        ho8.kept (kept_grown (Kept.setCell (p := ⟨g8, pn, none⟩) (Kept.refl g8 w8) rfl _)) (.inr (by simp [Value.ownBlock]; omega))
      have fs9 := ho9.frozenAt (wn * 2 + 1)
      have ho10 := (ho9.stored (wn * 2 + 1) (.slice (some ⟨g8, 0, none⟩) L c8)).1
      rw [pcells_set1 _ _ (by rw [chosenP_length]; exact hiw)] at ho10
      have HO10 := hid ho10
      have cs9 : (w8.setCell ⟨g8, pn, none⟩ (.int .u8 (x ^^^ M : Nat))).cell? ⟨sg, wn * 2 + 1, none⟩ = some (.slice (some ⟨bf (s.getD wn 0), 0, none⟩) L L) := by
        rw [World.cell?_setCell_other _ _ _ _ (by intro e; exact hgs (congrArg Addr.block e))]
        exact (hb8.cell (p := ⟨sg, wn * 2 + 1, none⟩) hsg7).trans p2
      have HXV := hid hvne
      have HX := hid hx
      have HB8 := hid hb8
      clear hx hvne ho7 ho8 ho9 ho10 hbuf8 hbuf9 hown8 hd8 hk8 hlen8 hb8 hnc8 hlow8
      obtain ⟨wz, hwz⟩ : ∃ wz, wz = (w8.setCell ⟨g8, pn, none⟩ (.int .u8 (x ^^^ M : Nat))).setCell ⟨sg, wn * 2 + 1, none⟩ (.slice (some ⟨g8, 0, none⟩) L c8) := ⟨_, rfl⟩
      have hzz : wz.heap.size = w8.heap.size := by rw [hwz]; simp
      have hoz := HO10.out
      rw [← hwz] at hoz
      have hbz : Buf wz g8 c8 ((rowsD d k L s wn).set pn (x ^^^ M)) := by rw [hwz]; exact HBUF9.out.setCell (p := ⟨sg, wn * 2 + 1, none⟩) (fun e => hgs e.symm) _
      have hblz : ∀ q o, w7.heap[q]? = some o → q ≠ sg → wz.heap[q]? = some o := fun q o h6 h7 => by
        have h8 := lt_of_heap h6
        rw [hwz]
        exact (Below.heap_setCell _ _ _ _ h7).trans ((Below.heap_setCell _ _ _ _ (show q ≠ g8 by omega)).trans ((HB8.out.block q h8).trans h6))
      have hw4 := HB.out.size
      have hk7s := HK7.out.size
      have hFz : Fld wz fb := .inr (hblz _ _ HB7.out (by omega))
      have hqs := chosenP_get bf L s i wn (by rw [chosenP_length]; exact hiw)
      have hfn := set_fns (chosenP bf L s i) wn (by rw [chosenP_length]; exact hiw) (some ⟨g8, 0, none⟩) c8
      rw [hqs] at hfn
      rw [hqs] at hoz
      obtain ⟨hf1, hf2⟩ := hfn
      obtain ⟨qs, hqsd⟩ : ∃ qs, qs = (chosenP bf L s i).set wn ((((s.getD wn 0 : Nat) : Int), some ⟨g8, 0, none⟩, L, c8) : Int × Sl) := ⟨_, rfl⟩
      rw [← hqsd] at hoz
      have hf1 : pidx qs = pidx (chosenP bf L s i) := by rw [hqsd]; exact hf1
      have hf2 : plen' qs = plen' (chosenP bf L s i) := by rw [hqsd]; exact hf2
      have hql : qs.length = i := by rw [hqsd, List.length_set, chosenP_length]
      have hHz : Held fb wz (.slice (some ⟨sg, 0, none⟩) i scap) qs (rowsE d k L s wn pn (x ^^^ M)) := row_held hoz hql hf4 (fun w' hk' j hj => by
        subst hqsd
        by_cases e : wn = j
        · subst e
          rw [List.getElem_set_self]
          have h6 : Buf w' g8 c8 ((rowsD d k L s wn).set pn (x ^^^ M)) := hbz.of_same (hk'.block g8 hbz.lt (by have := HB7.out.lt; omega))
          have h7 := h6.bs (fun y hy => by
            rcases List.mem_or_eq_of_mem_set hy with h | h
            · exact (HROW.out wn (by omega)).2.2.2 y h
            · omega) c8
          rw [List.length_set, (HROW.out wn (by omega)).2.2.1] at h7
          unfold rowsE
          rw [if_pos rfl]
          exact h7
        · rw [List.getElem_set_ne e, chosenP_get]
          rw [List.length_set, chosenP_length] at hj
          obtain ⟨r1, r2, r3, r4⟩ := HROW.out j hj
          have h5 : Own w7 (bf (s.getD j 0)) (rowsD d k L s j) := (HK7.out.block _ r1.lt r2).trans r1
          have h9 : bf (s.getD j 0) < w4.heap.size := (HP4.out.row _ (HCH.out.getD_lt (by omega) j)).lt
          have h6 : Own wz (bf (s.getD j 0)) (rowsD d k L s j) := hblz _ _ h5 (by omega)
          have h7 : Own w' (bf (s.getD j 0)) (rowsD d k L s j) := (hk'.block _ h6.lt r2).trans h6
          have h8 := h7.bs r4 L
          rw [r3] at h8
          unfold rowsE
          rw [if_neg (fun e2 => e e2.symm)]
          exact h8)
      have hidx : ∀ q, q < k + 1 → pidx qs q = (s.getD q 0 : Nat) := fun q hq => by rw [hf1]; exact chosenP_idx _ _ _ _ _ (by omega)
      have hk2 : chkAll (k : Nat) (t : Nat) (pidx qs) (alikeE qs) i = 0 := by
        rw [hf1]
        refine chosenP_chk HCH.out (by omega) bf L k (by omega) _ (fun q hq => ?_)
        unfold alikeE alikeL
        rw [hf2, chosenP_len' _ _ _ _ _ hq, chosenP_len' _ _ _ _ _ (by omega), if_neg (by omega), if_pos rfl]
      have hcon := Consistent_ok fb k t (some ⟨sg, 0, none⟩) i scap qs (rowsE d k L s wn pn (x ^^^ M)) h1 (by omega) (by omega) (by omega) hcap wz hFz hHz hk2
      rw [hf2, chosenP_len' _ _ _ _ _ (by omega)] at hcon
      have hfalse := mixA_false d HDLT.out L HC2.out (by omega) h1 h2 wn pn (x ^^^ M) hwk hpL hv2 HXV.out qs hidx
      rw [hwz] at hcon
      have HCON2 := hid hcon
      have HFALSE := hid hfalse
      have hWz : Below W.heap.size W wz := by
        rw [hwz]
        have hwb := known_end HW7.out HB8.out
        have hW4s := HW4.out.size
        have hW7s := HW7.out.size
        exact (hwb.setCell (p := ⟨g8, pn, none⟩) (show W.heap.size ≤ g8 by omega) _).setCell (p := ⟨sg, wn * 2 + 1, none⟩) (show W.heap.size ≤ sg by omega) _
      rw [hwz] at hWz
      have HWZ := hid hWz
      clear hwz hzz hoz hbz hblz hFz hqs hf1 hf2 hqsd hql hHz hidx hk2 hcon hfalse hWz HCON HTRUE HROW
      go_wp2_with fail
      refine HCON2.out.mono ?_
      rintro e w11 ⟨⟨r2, rfl, hr2⟩, hB11, hk11⟩
      have hrf : r2 = false := by
        cases r2
        · rfl
        · exact absurd (hr2.1 rfl k (Nat.le_refl _) (by omega)) HFALSE.out
      subst hrf
      have HWE := hid (HWZ.out.trans (hk11.below HWZ.out.size (by have := HW3.out.size; have := HW2.out.size; omega)))
      clear hr2 hB11 hk11
      go_wp2_with fail
      refine (known_any _).mono ?_
      rintro e w12 ⟨rfl, hb12⟩
      go_wp2
      go_ret
      exact ⟨rfl, known_end HWE.out hb12⟩

set_option maxRecDepth 100000 in
set_option maxHeartbeats 1000000 in
theorem detects_walk (W : World) (v : Value) (hv : CaseW W v) :
    Calls Try.prog 11 #[v] W fun e w' => e = .returned (.bool true) ∧ Below W.heap.size W w' := by
  obtain ⟨K, T, S, I, da, oa, ia, pa, dl, dc, ol, oc, il, ic, pl, pc, ld, lo, li, Wh, At, M, ps, D, hc⟩ := hv
  obtain ⟨rfl, ⟨_, _, _, _, _, _, hM⟩, ⟨hd, _, hdn⟩, _, ⟨hi, _, _⟩, _⟩ := hc
  by_cases h1 : K < 1
  · clear hd hi hdn
    go_enter Try.func11, Try.ntmps11
    go_wp2_with fail
    go_quiet (fail)
    go_wp2_with fail
    refine (known_any _).mono ?_
    rintro e w1 ⟨rfl, hb⟩
    go_wp2
    go_ret
    exact ⟨rfl, known_end (bel_drewN ((Below.refl _ _).alloc (Nat.le_refl _) _) _) hb⟩
  by_cases h2 : T ≤ K
  · clear hd hi hdn
    go_enter Try.func11, Try.ntmps11
    go_wp2_with fail
    go_quiet (fail)
    go_wp2_with fail
    refine (known_any _).mono ?_
    rintro e w1 ⟨rfl, hb⟩
    go_wp2
    go_ret
    exact ⟨rfl, known_end (bel_drewN ((Below.refl _ _).alloc (Nat.le_refl _) _) _) hb⟩
  by_cases h3 : 30 < T
  · clear hd hi hdn
    go_enter Try.func11, Try.ntmps11
    go_wp2_with fail
    go_quiet (fail)
    go_wp2_with fail
    refine (known_any _).mono ?_
    rintro e w1 ⟨rfl, hb⟩
    go_wp2
    go_ret
    exact ⟨rfl, known_end (bel_drewN ((Below.refl _ _).alloc (Nat.le_refl _) _) _) hb⟩
  by_cases h4 : 2000 < dl
  · clear hd hi hdn
    go_enter Try.func11, Try.ntmps11
    go_wp2_with fail
    go_quiet (fail)
    go_wp2_with fail
    refine (known_any _).mono ?_
    rintro e w1 ⟨rfl, hb⟩
    go_wp2
    go_ret
    exact ⟨rfl, known_end (bel_drewN ((Below.refl _ _).alloc (Nat.le_refl _) _) _) hb⟩
  by_cases h5 : 60 < il
  · clear hd hi hdn
    go_enter Try.func11, Try.ntmps11
    go_wp2_with fail
    go_quiet (fail)
    go_wp2_with fail
    refine (known_any _).mono ?_
    rintro e w1 ⟨rfl, hb⟩
    go_wp2
    go_ret
    exact ⟨rfl, known_end (bel_drewN ((Below.refl _ _).alloc (Nat.le_refl _) _) _) hb⟩
  obtain ⟨k, rfl⟩ : ∃ m : Nat, K = m := ⟨K.toNat, by omega⟩
  obtain ⟨t, rfl⟩ : ∃ m : Nat, T = m := ⟨T.toNat, by omega⟩
  exact detects_in W k t (by omega) (by omega) (by omega) S I da oa ia pa dl dc ol oc il ic pl pc ld li Wh At M hd hdn (by omega) hi (by omega) hM
end Go.Proofs.Ytbajekiliplclaa
