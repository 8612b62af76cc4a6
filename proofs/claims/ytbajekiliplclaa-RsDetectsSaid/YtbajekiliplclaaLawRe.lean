/-
  The walk of the law that any k pieces recover the object and every piece.
-/
import Derived.Test.YtbajekiliplclaaRecM
import Derived.Test.YtbajekiliplclaaReb
import Derived.Test.YtbajekiliplclaaMine
import Derived.Test.YtbajekiliplclaaBuf
import Derived.Test.YtbajekiliplclaaKnown
import Derived.Test.YtbajekiliplclaaOpen
import Derived.Test.YtbajekiliplclaaLawS
import Derived.Test.YtbajekiliplclaaLawM
namespace Go.Proofs.Ytbajekiliplclaa
open Go Go.RowKit
set_option linter.unusedVariables false

theorem owns_capP {w : World} {B g n cap : Nat} {t : TypeId} {sz : Nat} {xs : List Value} (h : w.ownsRow B t sz (.slice (some ⟨g, 0, none⟩) n cap) n xs) : n ≤ cap := by
  rcases h.2 with ⟨h1, _⟩ | ⟨g', cap', cur, h1, _, _, h2, _⟩
  · cases h1
  · cases h1; exact h2
theorem encR_mem (d : List Nat) (hd : ∀ i, d.getD i 0 < 256) (k L i : Nat) (hk : k ≤ 256) : ∀ x ∈ encP d k L i, x < 256 := by
  unfold encP
  split
  · intro x hx
    unfold spl at hx
    obtain ⟨c', _, rfl⟩ := List.mem_map.1 hx
    exact hd _
  · exact mixL_lt _ _ _ _ (fun i => getD_lt (wts_lt _ _ _) i)
/-- the chosen pieces -/
def chosenP (bf : Nat → Nat) (L : Nat) (s : List Nat) (i : Nat) : List (Int × Sl) := (List.range i).map fun j => ((s.getD j 0 : Nat), some ⟨bf (s.getD j 0), 0, none⟩, L, L)
theorem chosenP_length (bf : Nat → Nat) (L : Nat) (s : List Nat) (i : Nat) : (chosenP bf L s i).length = i := by simp [chosenP]
theorem chosenP_get (bf : Nat → Nat) (L : Nat) (s : List Nat) (i j : Nat) (h : j < (chosenP bf L s i).length) : (chosenP bf L s i)[j] = (((s.getD j 0 : Nat) : Int), some ⟨bf (s.getD j 0), 0, none⟩, L, L) := by
  simp [chosenP]
theorem chosenP_succ (bf : Nat → Nat) (L : Nat) (s : List Nat) (i : Nat) : pcells (chosenP bf L s i) ++ [.int .i64 ((s.getD i 0 : Nat) : Int), .slice (some ⟨bf (s.getD i 0), 0, none⟩) L L] = pcells (chosenP bf L s (i + 1)) := by
  unfold chosenP
  rw [List.range_succ, List.map_append]
  simp [pcells]
theorem chosenP_idx (bf : Nat → Nat) (L : Nat) (s : List Nat) (k i : Nat) (h : i < k) : pidx (chosenP bf L s k) i = (s.getD i 0 : Nat) := by
  rw [← pidx_at _ _ (by rw [chosenP_length]; exact h), chosenP_get]
theorem chosenP_len' (bf : Nat → Nat) (L : Nat) (s : List Nat) (k i : Nat) (h : i < k) : plen' (chosenP bf L s k) i = L := by
  rw [← plen_at _ _ (by rw [chosenP_length]; exact h), chosenP_get]
theorem chosenP_places {k t : Nat} {s : List Nat} (hs : Chosen k t s) (bf : Nat → Nat) (L : Nat) : places (chosenP bf L s k) k = s := by
  refine ext_getD (by rw [places_length, hs.len]) fun i hi => ?_
  rw [places_length] at hi
  rw [places_getD _ _ _ hi, chosenP_idx _ _ _ _ _ hi]
  omega
theorem nodup_ne {k t : Nat} {s : List Nat} (hs : Chosen k t s) {j i : Nat} (hji : j < i) (hi : i < k) : s.getD j 0 ≠ s.getD i 0 := nodup_getD hs.nod (by rw [hs.len]; omega) (by rw [hs.len]; exact hi) (by omega)
theorem chosenP_chk {k t : Nat} {s : List Nat} (hs : Chosen k t s) (ht : 0 < t) (bf : Nat → Nat) (L kk : Nat) (hkk : kk ≤ k) (ce : Nat → Int) (hce : ∀ i, i < k → ce i = 0) : chkAll kk t (pidx (chosenP bf L s k)) ce k = 0 := by
  have h : ∀ i, i ≤ k → chkTo t (pidx (chosenP bf L s k)) ce i = 0 := by
    intro i
    induction i with
    | zero => exact fun _ => rfl
    | succ i ih =>
      intro hi
      refine chkTo_next (ih (by omega)) ?_
      have h1 := hs.getD_lt ht i
      unfold stepE
      rw [chosenP_idx _ _ _ _ _ (by omega), if_neg (by omega), if_neg, hce i (by omega)]
      intro e
      obtain ⟨j, hj, e2⟩ := (occ_iff _ _ _).1 e
      rw [chosenP_idx _ _ _ _ _ (by omega)] at e2
      exact nodup_ne hs hj (by omega) (by omega)
  unfold chkAll
  rw [if_pos (h k (Nat.le_refl _)), if_neg (by omega)]
theorem kept_grown {fb : Nat} {w w' : World} (k : Kept fb w w') : w.grownBy w' (some fb) := ⟨k.os, k.tape, k.output, k.size, fun q hq hne => k.block q hq (fun e => hne (by rw [e]))⟩
/-- a chosen list may be read, whatever becomes of the field -/
theorem chosen_held {fb B g k cap L : Nat} {w : World} {bf : Nat → Nat} {s : List Nat} {D : Nat → List Nat} (ho : w.ownsRow B 36 2 (.slice (some ⟨g, 0, none⟩) k cap) k (pcells (chosenP bf L s k))) (hB : fb < B)
    (hrow : ∀ j, j < k → Own w (bf (s.getD j 0)) (D j) ∧ bf (s.getD j 0) ≠ fb ∧ (D j).length = L ∧ ∀ x ∈ D j, x < 256) : Held fb w (.slice (some ⟨g, 0, none⟩) k cap) (chosenP bf L s k) D := fun w' hk => by
  have h1 := ho.kept (kept_grown hk) (.inr (by
    have := (ho.lt g rfl).1
    simp [Value.ownBlock]
    omega))
  have h2 := ps_of_owns (c := cap) h1 (show k ≤ (chosenP bf L s k).length by rw [chosenP_length]; exact Nat.le_refl _)
  rw [List.take_of_length_le (by rw [chosenP_length]; exact Nat.le_refl _)] at h2
  refine ⟨h2, fun i hi => ?_⟩
  rw [chosenP_length] at hi
  obtain ⟨r1, r2, r3, r4⟩ := hrow i hi
  rw [chosenP_get]
  have h5 : Own w' (bf (s.getD i 0)) (D i) := (hk.block _ r1.lt r2).trans r1
  have h6 := h5.bs r4 L
  rwa [r3] at h6

set_option maxRecDepth 100000 in
set_option maxHeartbeats 4000000 in
theorem recovers_in (W : World) (k t : Nat) (h1 : 1 ≤ k) (h2 : k ≤ t) (h3 : t ≤ 30) (S I : Int) (da oa ia pa : Option Addr) (n dc ol oc il ic pl pc : Nat) (d : List Nat) (li : List Int) (Wh At : Int) (M : Nat)
    (hd : Bs W (.slice da n dc) d) (hdn : da = none → dc = 0) (hn : n ≤ 2000) (hi : Is W (.slice ia il ic) li) (hil : il ≤ 60) :
    Calls Try.prog 7 #[.agg #[.int .i64 k, .int .i64 t, .int .i64 S, .int .i64 I, .slice da n dc, .slice oa ol oc, .slice ia il ic, .int .i64 Wh, .int .i64 At, .int .u8 M, .slice pa pl pc]] W fun e w' => e = .returned (.bool true) ∧ Below W.heap.size W w' := by
  have b1 : decide ((k : Int) < 1) = false := by simp; omega
  have b2 : decide (t < k) = false := by simp; omega
  have b3 : decide ((30 : Int) < (t : Int)) = false := by simp; omega
  have b4 : decide ((2000 : Int) < (n : Int)) = false := by simp; omega
  have b5 : decide ((60 : Int) < (il : Int)) = false := by simp; omega
  obtain ⟨j0, hj0, hz0, hz1, hz2⟩ := info_parts info36
  have HD := hid hd
  have HI := hid hi
  have HDL := hid hd.len
  have HDLT := hid hd.lt
  have HDN := hid hdn
  clear hd hi hdn
  go_enter Try.func7, Try.ntmps7
  go_wp2_with fail
  go_quiet (fail)
  go_wp2_with fail
  obtain ⟨w1, hw1⟩ : ∃ w1, w1 = (W.alloc (Obj.cells #[.int .i64 k, .int .i64 t, .int .i64 S, .int .i64 I, .slice da n dc, .slice oa ol oc, .slice ia il ic, .int .i64 Wh, .int .i64 At, .int .u8 M, .slice pa pl pc] 39)).drewN nq := ⟨_, rfl⟩
  have hW1 : Below W.heap.size W w1 := by rw [hw1]; exact bel_drewN ((Below.refl _ _).alloc (Nat.le_refl _) _) _
  rw [← hw1]
  clear hw1
  refine (newField_ex _).mono ?_
  rintro e w2 ⟨fb, hfb, rfl, hfr, hb2⟩
  have HW2 := hid (known_end hW1 hb2)
  have HF2 := hid (show Fld w2 fb from .inl hfr)
  have hf2 := lt_of_heap hfr
  have hs1 := hW1.size
  clear hfr hb2 hW1
  go_wp2_with (refine wpList_clone rfl (.tmp 52) (.tmp 53) rfl w2.heap.size rfl (heap_new w2 _) da n dc d rfl ((HD.out.below HW2.out).alloc _) HDN.out (by omega) ?_)
  intro a' c' w3 hd3 hnc3 hlow3 _ hk3
  have hb3 : Below w2.heap.size w2 w3 := ((Below.refl _ _).alloc (Nat.le_refl _) _).trans (hk3.below (by simp) (Nat.le_refl _))
  have HF3 := hid (show Fld w3 fb from HF2.out.elim (fun h => .inl ((hb3.block _ hf2).trans h)) (fun h => .inr ((hb3.block _ hf2).trans h)))
  have hoff : Off fb (.slice a' n c') := by
    cases a' with
    | none => trivial
    | some ad => show ad.block ≠ fb; have := (hlow3 ad rfl).1; omega
  have HOFF := hid hoff
  have HD3 := hid hd3
  have HW3 := hid (known_end HW2.out hb3)
  have hs3 := hb3.size
  clear hk3 hlow3 hoff hd3 hb3
  go_wp2_with fail
  refine (Encode_any fb k t a' n c' d _ HF3.out HD3.out HOFF.out hnc3 h1 h2 (by omega) (by omega)).mono ?_
  rintro e w4 ⟨g, bf, hg, rfl, hp4, hB4, hk4⟩
  have hLn := plen_le k n h1
  have HKL := hid (plen_ge k n h1)
  generalize hL : plen k n = L at *
  have HL := hid hL
  have HP4 := hid hp4
  have HB4 := hid hB4
  have hs4 := hk4.size
  have HW4 := hid (HW3.out.trans (hk4.below (by have := HW3.out.size; omega) (by omega)))
  have hf4 := hB4.lt
  have hgl := hp4.own.lt
  clear hp4 hB4 hk4 hL hnc3
  have hown0 : (w4.alloc (.cells #[] 36)).ownsRow w4.heap.size 36 2 (.slice (some ⟨w4.heap.size, 0, none⟩) 0 0) 0 (pcells (chosenP bf L [] 0)) := ⟨rfl, .inr ⟨w4.heap.size, 0, #[], rfl, Nat.le_refl _, heap_new _ _, Nat.le_refl _, Nat.zero_le _, rfl, rfl⟩⟩
  have HO0 := hid hown0
  have hb44 : Below w4.heap.size w4 (w4.alloc (.cells #[] 36)) := (Below.refl _ _).alloc (Nat.le_refl _) _
  have HB44 := hid hb44
  clear hown0 hb44
  go_wp2_with fail
  refine (choose_any k t h1 h2 (by omega) ia il ic li _ (HI.out.below (known_end HW4.out HB44.out))).mono ?_
  rintro e w5 ⟨vo, s, rfl, hvo, hch, hb5⟩
  obtain ⟨rg, rcap, rfl, _, _⟩ := hvo.form (by omega)
  have HCH := hid hch
  have HVO := hid hvo
  have hown5 := owns_below HO0.out hb5
  have HB5 := hid (known_end HB44.out hb5)
  have HO5 := hid (show w5.ownsRow w4.heap.size 36 2 (.slice (some ⟨w4.heap.size, 0, none⟩) 0 0) 0 (pcells (chosenP bf L s 0)) from hown5)
  clear hvo hch hown5 hb5 HO0 HB44
  go_wp2
  go_loopw [10, 12] (fun v iv wr => ∃ i : Nat, i ≤ k ∧ iv = .int .i64 i ∧ Hid (wr.ownsRow w4.heap.size 36 2 v i (pcells (chosenP bf L s i))) ∧ Hid (∃ B, wr.ownsRow B 3 1 (.slice (some ⟨rg, 0, none⟩) k rcap) k (nis s)) ∧ Hid (Below w4.heap.size w4 wr)) (fun _ iv _ => k - (intOf iv).toNat)
  case atStart => exact ⟨0, by omega, rfl, HO5, hid ⟨_, HVO.out⟩, HB5⟩
  case round =>
    clear HO5 HVO HB5
    obtain ⟨i, hi', rfl, HO, HV, HB⟩ := hrel
    by_cases hlt : i < k
    · obtain ⟨Bv, hv⟩ := HV.out
      have HVR := hid hv
      have cr := owns_nis_cell hv i (by rw [HCH.out.len]; exact hlt)
      have hrt := HCH.out.getD_lt (by omega) i
      have hps := (HP4.out.below (HB.out)).own.ps t t (by rw [mkps_length])
      obtain ⟨p0, p1⟩ := hps.cells (s.getD i 0) (by rw [mkps_length]; exact hrt)
      rw [mkps_get _ _ _ _ _ _ hrt] at p0 p1
      rw [Nat.zero_add] at p0 p1
      have hown1 := HO.out.alloc (.cells #[.int .i64 (s.getD i 0 : Nat), .slice (some ⟨bf (s.getD i 0), 0, none⟩) L L] 36)
      have HO1 := hid hown1
      have hsz := HB.out.size
      have HSU := hid (chosenP_succ bf L s i)
      clear hps hv hown1
      generalize hr : s.getD i 0 = r at *
      have HR := hid hr
      clear hr
      go_wp2_with (refine wpList_append_own _ rfl (.tmp 76) (.tmp 84) _ rfl w4.heap.size 36 j0 (.agg #[.int .i64 0, .slice none 0 0]) 2 32 Try.underlying28 hj0 hz0 hz1 hz2 rfl (by decide) _ i (pcells (chosenP bf L s i)) rfl HO1.out ⟨wr.heap.size, 0, none⟩ 1 1 [.int .i64 (r : Nat), .slice (some ⟨bf r, 0, none⟩) L L] rfl rfl (cells_of_new2 _ _ _ _) (two_one _ 0 _ none _ _ 0 0 _) (by unfold maxLen; omega) (by omega) (by simp; omega) ?_)
      intro v' w6 hown6 hg6 _
      rw [HSU.out] at hown6
      have H6 := hid hown6
      have hv6 := (HVR.out.alloc (.cells #[.int .i64 (r : Nat), .slice (some ⟨bf r, 0, none⟩) L L] 36)).kept hg6 (own_types (HVR.out.alloc _) HO1.out (by decide))
      have HV6 := hid (show ∃ B, w6.ownsRow B 3 1 (.slice (some ⟨rg, 0, none⟩) k rcap) k (nis s) from ⟨_, hv6⟩)
      have HB6 := hid ((HB.out.alloc hsz (.cells #[.int .i64 (r : Nat), .slice (some ⟨bf r, 0, none⟩) L L] 36)).grown hg6 (by simp; omega) (fun q hq => (HO1.out.lt q hq).1))
      clear hown6 hg6 hv6 p0 p1 cr
      go_wp2
      exact ⟨⟨i + 1, by omega, by go_num, H6, HV6, HB6⟩, by simp [intOf]; omega⟩
    · obtain rfl : i = k := by omega
      obtain ⟨sg, scap, rfl, hsg, hsl⟩ := HO.out.form (by omega)
      have hcap := owns_capP HO.out
      have hbr := HB.out
      have hrow : ∀ j, j < i → Own wr (bf (s.getD j 0)) (rowsD d i L s j) ∧ bf (s.getD j 0) ≠ fb ∧ (rowsD d i L s j).length = L ∧ ∀ x ∈ rowsD d i L s j, x < 256 := fun j hj => by
        have hr := HCH.out.getD_lt (by omega) j
        have h5 := (HP4.out.below hbr).row _ hr
        have h6 := HP4.out.low _ hr
        exact ⟨h5, by omega, encR_length _ _ _ _, encR_mem d HDLT.out i L _ (by omega)⟩
      have hH := chosen_held HO.out hf4 hrow
      have HH := hid hH
      have hFr : Fld wr fb := .inr ((hbr.block _ hf4).trans HB4.out)
      have HFR := hid hFr
      have hpl := chosenP_places HCH.out bf L
      have hk1 : chkAll (i : Nat) (t : Nat) (pidx (chosenP bf L s i)) (fun q => if ((plen' (chosenP bf L s i) q : Nat) : Int) = (plen i n : Nat) then 0 else 10) i = 0 := chosenP_chk HCH.out (by omega) bf L i (Nat.le_refl _) _ (fun q hq => by
        rw [chosenP_len' _ _ _ _ _ hq, HL.out]; exact if_pos rfl)
      have hLb : L ≤ 8192 := by omega
      have hk2 : chkAll (i : Nat) (t : Nat) (pidx (chosenP bf L s i)) (alikeE (chosenP bf L s i)) i = 0 := chosenP_chk HCH.out (by omega) bf L i (Nat.le_refl _) _ (fun q hq => by
        unfold alikeE alikeL
        rw [chosenP_len' _ _ _ _ _ hq, chosenP_len' _ _ _ _ _ (by omega), if_neg (by omega), if_pos rfl])
      have HK2 := hid hk2
      have hdec := Decode_ok fb i t n (some ⟨sg, 0, none⟩) i scap (chosenP bf L s i) (rowsD d i L s) h1 h2 (by omega) (by omega) (by omega) hcap wr hFr hH hk1
      have hjl : joinL ((List.range i).map (rowsD d i L s)) s L i n = d := by
        have h5 := join_rows d HDLT.out L HCH.out (by omega) h1 h2 (by rw [← HDL.out]; exact HKL.out)
        rwa [← HDL.out] at h5
      rw [HL.out, hpl, hjl] at hdec
      have HDEC := hid hdec
      have HPLS := hid hpl
      have hmr := fun x (hx : x < 256) => mix_rows d HDLT.out L HCH.out (by omega) h1 h2 x hx
      have HMR := hid hmr
      have HWR := hid (known_end HW4.out hbr)
      have HPR := hid (HP4.out.below hbr)
      clear hrow hH hFr hpl hk1 hk2 hdec hjl hmr hbr
      go_wp2_with fail
      refine HDEC.out.mono ?_
      rintro e w7 ⟨ob, hob, rfl, ho7, hB7, hk7⟩
      have HF7 := hid (show Fld w7 fb from .inr hB7)
      have HK7 := hid hk7
      have HW7 := hid (HWR.out.trans (hk7.below HWR.out.size (by omega)))
      have hdm : ∀ x ∈ d, x < 256 := by obtain ⟨_, _, _, h, _⟩ := HD.out; exact h
      have hbo := ho7.bs hdm n
      rw [← HDL.out] at hbo
      have cv1 := conv_bs hbo
      have cv2 := conv_bs (HD.out.below HW7.out)
      have hself : ∀ S : ByteArray, (!(S.toList == S.toList)) = false := fun S => by simp
      have hs1 := hself (bstr d)
      generalize bstr d = SD at *
      clear hbo ho7 hB7 hk7 hob hdm
      go_wp2
      clear cv1 cv2 hs1
      go_loopw [14] (fun iv wx => ∃ q : Nat, q ≤ t ∧ iv = .int .i64 q ∧ Hid (Kept fb w7 wx) ∧ Hid (Fld wx fb)) (fun iv _ => t - (intOf iv).toNat)
      case atStart => exact ⟨0, by omega, rfl, hid (Kept.refl _ _), HF7⟩
      case round =>
        clear HF7
        obtain ⟨q, hq, rfl, HKX, HFX⟩ := hrel
        by_cases hlt2 : q < t
        · have hreb := Rebuild_ok fb i t q (some ⟨sg, 0, none⟩) i scap (chosenP bf L s i) (rowsD d i L s) h1 h2 (by omega) hlt2 (by omega) hcap wr HFX.out (HH.out.step (HK7.out.trans HKX.out)) HK2.out
          rw [HPLS.out, chosenP_len' _ _ _ _ _ (by omega), HMR.out q (by omega)] at hreb
          have HREB := hid hreb
          clear hreb
          go_wp2_with fail
          refine HREB.out.mono ?_
          rintro e w8 ⟨⟨ra, rc, rfl, hR8⟩, hB8, hk8⟩
          have hkk := HKX.out.trans hk8
          have hpk := ((HPR.out.kept (HK7.out.trans hkk) (by omega) (by omega)).below ((Below.refl _ _).alloc (Nat.le_refl _) (Obj.cells #[.int .i64 (q : Int), .slice ra L rc] 36)))
          have hps := hpk.own.ps t t (by rw [mkps_length])
          have p1 := (hps.cells q (by rw [mkps_length]; exact hlt2)).2
          rw [mkps_get _ _ _ _ _ _ hlt2, Nat.zero_add] at p1
          have hrw := (hpk.row q hlt2).bs (encR_mem d HDLT.out i L q (by omega)) L
          rw [encR_length] at hrw
          have cvA := fun z => conv_bs ((hR8.alloc (Obj.cells #[.int .i64 (q : Int), .slice ra L rc] 36)).drewN z)
          have cvB := fun z => conv_bs (hrw.drewN z)
          have hself : ∀ S : ByteArray, (!(S.toList == S.toList)) = false := fun S => by simp
          have hs1 := hself (bstr (encP d i L q))
          generalize bstr (encP d i L q) = SQ at *
          have HNX := hid (hkk.alloc (Obj.cells #[.int .i64 (q : Int), .slice ra L rc] 36))
          have HFX2 := hid (show Fld (w8.alloc (Obj.cells #[.int .i64 (q : Int), .slice ra L rc] 36)) fb from .inr (hB8.alloc _))
          clear hps hpk hrw hkk hk8 hB8 hR8
          go_wp2
          go_quiet (fail)
          go_wp2
          exact ⟨⟨q + 1, by omega, by go_num, hid (HNX.out.drewN _), hid (show Fld _ fb from HFX2.out)⟩, by simp [intOf]; omega⟩
        · obtain rfl : q = t := by omega
          go_wp2_with fail
          refine (known_any _).mono ?_
          rintro e w9 ⟨rfl, hb9⟩
          go_wp2
          go_ret
          exact ⟨rfl, known_end (HW7.out.trans (HKX.out.below HW7.out.size (by omega))) hb9⟩

set_option maxRecDepth 100000 in
theorem recovers_walk (W : World) (v : Value) (hv : CaseW W v) :
    Calls Try.prog 7 #[v] W fun e w' => e = .returned (.bool true) ∧ Below W.heap.size W w' := by
  obtain ⟨K, T, S, I, da, oa, ia, pa, dl, dc, ol, oc, il, ic, pl, pc, ld, lo, li, Wh, At, M, ps, D, hc⟩ := hv
  obtain ⟨rfl, _, ⟨hd, _, hdn⟩, _, ⟨hi, _, _⟩, _⟩ := hc
  by_cases h1 : K < 1
  · clear hd hi hdn
    go_enter Try.func7, Try.ntmps7
    go_wp2_with fail
    go_quiet (fail)
    go_wp2_with fail
    refine (known_any _).mono ?_
    rintro e w1 ⟨rfl, hb⟩
    go_wp2
    go_ret
    exact ⟨rfl, known_end (bel_drewN ((Below.refl _ _).alloc (Nat.le_refl _) _) _) hb⟩
  by_cases h2 : T < K
  · clear hd hi hdn
    go_enter Try.func7, Try.ntmps7
    go_wp2_with fail
    go_quiet (fail)
    go_wp2_with fail
    refine (known_any _).mono ?_
    rintro e w1 ⟨rfl, hb⟩
    go_wp2
    go_ret
    exact ⟨rfl, known_end (bel_drewN ((Below.refl _ _).alloc (Nat.le_refl _) _) _) hb⟩
  by_cases h3 : 30 < T
  · clear hd hi hdn
    go_enter Try.func7, Try.ntmps7
    go_wp2_with fail
    go_quiet (fail)
    go_wp2_with fail
    refine (known_any _).mono ?_
    rintro e w1 ⟨rfl, hb⟩
    go_wp2
    go_ret
    exact ⟨rfl, known_end (bel_drewN ((Below.refl _ _).alloc (Nat.le_refl _) _) _) hb⟩
  by_cases h4 : 2000 < dl
  · clear hd hi hdn
    go_enter Try.func7, Try.ntmps7
    go_wp2_with fail
    go_quiet (fail)
    go_wp2_with fail
    refine (known_any _).mono ?_
    rintro e w1 ⟨rfl, hb⟩
    go_wp2
    go_ret
    exact ⟨rfl, known_end (bel_drewN ((Below.refl _ _).alloc (Nat.le_refl _) _) _) hb⟩
  by_cases h5 : 60 < il
  · clear hd hi hdn
    go_enter Try.func7, Try.ntmps7
    go_wp2_with fail
    go_quiet (fail)
    go_wp2_with fail
    refine (known_any _).mono ?_
    rintro e w1 ⟨rfl, hb⟩
    go_wp2
    go_ret
    exact ⟨rfl, known_end (bel_drewN ((Below.refl _ _).alloc (Nat.le_refl _) _) _) hb⟩
  obtain ⟨k, rfl⟩ : ∃ m : Nat, K = m := ⟨K.toNat, by omega⟩
  obtain ⟨t, rfl⟩ : ∃ m : Nat, T = m := ⟨T.toNat, by omega⟩
  exact recovers_in W k t (by omega) (by omega) (by omega) S I da oa ia pa dl dc ol oc il ic pl pc ld li Wh At M hd hdn (by omega) hi (by omega)
end Go.Proofs.Ytbajekiliplclaa
