/-
  The first Tick with its probe; receive of a machine that has left. (Written by gen_tk2.py from XTk and XRa.)
-/
import Derived.Test.YtbdefmjjhkonjaaRb
import Derived.Test.YtbdefmjjhkonjaaLe
import Derived.Test.YtbdefmjjhkonjaaLf
namespace Go.Proofs.Ytbdefmjjhkonjaa
open Go Go.RowKit
set_option linter.unusedVariables false

set_option maxRecDepth 100000 in
set_option maxHeartbeats 2000000 in
theorem Tick_first2 {mb tb sb n me : Nat} {L : List Ent} {Z : List Int} {dare : Int} (ck last pg : Nat) (draw : Int) (w : World) (h : Mc w mb tb sb n me L Z ck (.slice none 0 0) last pg dare) (hpg : pg < n) (hme : me < n) (h2 : 2 ≤ n) (hn : n ≤ 16) (hl : last < 1000000000000) (hck : ck < 1000000000000)
    (hs : ∀ i, ((gd L i).2 == 2) = false) (h4 : ((gd L me).2 == 4) = false) :
    Calls Try.prog 36 #[.pointer (some ⟨mb, 0, none⟩), .int .u64 draw] w fun e w' => ∃ g c v g1 c1, e = .returned (.slice (some ⟨g, 0, none⟩) 1 c) ∧ MsgAt w' g 1 me (nxt n me pg : Nat) ((last : Int) + 1) me 0 v rest0 ∧
      w'.ownsRow w.heap.size 36 2 v n (ecl L) ∧ Mc w' mb tb sb n me L Z ((ck : Int) + 1) (.slice (some ⟨g1, 0, none⟩) 1 c1) ((last : Int) + 1) (nxt n me pg : Nat) dare ∧ w.heap.size ≤ g ∧ Held [mb] w w' ∧ PbAt w' g1 ((last : Int) + 1) (nxt n me pg : Nat) ((ck : Int) + 1) false ∧ w.heap.size ≤ g1 ∧ g1 < g := by
  have HL := hid (hasLeft_any w h hme)
  rw [h4] at HL
  have HM := hid h
  have HS := hid hs
  have hmw := lt_of_heap h.m
  have htw := h.t.lt
  have hsw := lt_of_heap h.s
  clear h hs h4
  go_enter Try.func36, Try.ntmps36
  go_wp2_with fail
  refine HL.out.mono ?_
  rintro e w1 ⟨rfl, q, rfl⟩
  clear HL
  have HM1 := hid (HM.out.drewN q)
  obtain ⟨c0, c1, c2, c3, c4, c5, c6, c7⟩ := mch_cells HM1.out.m
  have f3 : (w.drewN q).frozen? ⟨mb, 3, none⟩ = false := free_of_heap HM1.out.m 3
  go_upto_region 4 with fail
  have HM2 := hid (HM1.out.clock ((ck : Int) + 1))
  have HH2 := hid (((Held.refl [mb] w).drewN q).setCell (p := ⟨mb, 3, none⟩) (by simp) (.int .u64 ((ck : Int) + 1)))
  obtain ⟨w2, hw2⟩ : ∃ y, y = (w.drewN q).setCell ⟨mb, 3, none⟩ (.int .u64 ((ck : Int) + 1)) := ⟨_, rfl⟩
  rw [← hw2] at HM2 HH2 ⊢
  clear hw2 HM1 c0 c1 c2 c3 c4 c5 c6 c7 f3
  go_wp2_with fail
  refine (checkProbes_none draw w2 HM2.out).mono ?_
  rintro e w3 ⟨rfl, hM3, hH3⟩
  have HM3 := hid hM3
  have HH3 := hid (HH2.out.trans hH3)
  clear HM2 HH2 hM3 hH3
  go_wp2_with fail
  refine (checkSuspects_none w3 HM3.out hn HS.out).mono ?_
  rintro e w4 ⟨rfl, hb4⟩
  have HM4 := hid (HM3.out.below hb4)
  have HH4 := hid (HH3.out.trans (Held.of_below (S := [mb]) hb4))
  clear HM3 HH3 hb4
  go_wp2_with fail
  have h4s := HH4.out.size
  refine (probe_any w4.heap.size 0 last pg [] w4 HM4.out (owns_nil _ _ _ _) hpg h2 hn hl (by omega) (fun g e => by cases e) (Nat.le_refl _)).mono ?_
  rintro e w5 ⟨pv', rfl, hM5, hP5, hG5, hH5⟩
  change w5.ownsRow w4.heap.size 91 4 pv' 1 (pcl ((last : Int) + 1) (nxt n me pg : Nat) ((ck : Int) + 1) false) at hP5
  obtain ⟨g1, c1, rfl, hg1, hP⟩ := pbAt_of_owns hP5 rfl
  have hg1l := hP.lt
  have HP5 := hid hP
  have HM5 := hid hM5
  have HH5 := hid (HH4.out.trans hH5)
  clear hP hP5 hG5 hM5 hH5 HM4 HH4
  have h5s := HH5.out.size
  obtain ⟨r, hr⟩ : ∃ r, r = nxt n me pg := ⟨_, rfl⟩
  rw [← hr] at HM5 HP5 ⊢
  have HR := hid hr
  clear hr
  obtain ⟨i0, z, hi0, hz0, hz1, hz2, hz3⟩ := info_partsM
  have hml : (msg 1 0 r ((last : Int) + 1) me 0 (.slice none 0 0) rest0).length = 116 := by rw [msg_length, rest0_length]
  go_wp2_with (refine wpList_append_lies _ rfl (.tmp 25) (.tmp 28) _ rfl w5.heap.size 56 i0 z 116 352 Try.underlying68 hi0 hz0 hz1 hz2 hz3 (by decide) (.slice none 0 0) 0 [] rfl (owns_nil _ _ _ _) ⟨w5.heap.size, 0, none⟩ 1 1 (msg 1 0 r ((last : Int) + 1) me 0 (.slice none 0 0) rest0) rfl (by kernel_rfl) ?hnews (msg_one _ _ _ _ _ _ _ _ _) (by omega) (by unfold maxLen; omega) (by omega) (by simp) _ rfl ?_)
  case hnews =>
    exact fun j u hu => World.news_of_block (heap_new_at _ _ (by simp)) j u (Eq.trans (congrArg (fun l : List Value => l[j]?) (by kernel_rfl)) hu)
  intro g cap w6 ho6 hg6 hat6 hlt6
  have hgw : w5.heap.size < g := by have := hat6.resolve_left (fun e => by cases e); omega
  have hb6 : Below w5.heap.size w5 w6 := ((Below.refl w5.heap.size w5).alloc (Nat.le_refl _) _).grown hg6 (by simp) (fun g hg => by cases hg)
  have HM6 := hid (HM5.out.below hb6)
  have HH6 := hid (HH5.out.trans (Held.of_below (S := [mb]) hb6))
  have HG6 := hid (msgAt_of_owns ho6)
  have HP6 := hid (HP5.out.below hb6)
  clear ho6 hg6 hat6 hb6 HM5 HH5
  go_wp2_with fail
  refine (complete_one g cap 1 0 r ((last : Int) + 1) me 0 (.slice none 0 0) rest0 w6 HM6.out HG6.out (by omega) (by omega) (by omega) (by omega) hn).mono ?_
  rintro e w7 ⟨v, rfl, hG7, hO7, hH7⟩
  have h6s := HH6.out.size
  have HM7 := hid (HM6.out.held hH7 (by simp; omega) (by simp; omega) (by simp; omega))
  have HH7 := hid (HH6.out.step hH7 (fun b hb => .inr (by simp at hb; omega)))
  have HG7 := hid hG7
  have HP7 := hid (HP6.out.held hH7 (by simp; omega))
  have HO7 := hid (owns_mono hO7 h6s)
  clear hG7 hO7 hH7 HM6 HH6 HG6
  go_wp2
  go_ret
  exact ⟨g, cap, v, g1, c1, rfl, by rw [← HR.out]; exact HG7.out, HO7.out, by rw [← HR.out]; exact HM7.out, by omega, HH7.out, by rw [← HR.out]; exact HP7.out, by omega, by omega⟩
set_option maxRecDepth 100000 in
set_option maxHeartbeats 2000000 in
theorem receive_left {mb tb sb n me : Nat} {L : List Ent} {Z : List Int} {ck : Int} {pv : Value} {last pg dare : Int} (k f t s o g : Int) (a : Option Addr) (c : Nat) (R : List Value) (T : List Ent) (w : World)
    (h : Mc w mb tb sb n me L Z ck pv last pg dare) (ht : Tb w (.slice a n c) T) (hme : me < n) (h0 : 0 < n) (hn : n ≤ 16) (hR : R.length = 109) (h4 : (gd L me).2 = 4) :
    Calls Try.prog 38 #[.pointer (some ⟨mb, 0, none⟩), .agg (msg k f t s o g (.slice a n c) R).toArray] w fun e w' => e = .returned (.tuple #[.slice none 0 0, .int .i64 30]) ∧
      Mc w' mb tb sb n me L Z ck pv last pg dare ∧ Held [mb, tb, sb] w w' := by
  have hmw := lt_of_heap h.m
  have htw := h.t.lt
  have hsw := lt_of_heap h.s
  obtain ⟨b0, hb0⟩ : ∃ y, y = w.heap.size := ⟨_, rfl⟩
  obtain ⟨w1, hw1⟩ : ∃ y, y = w.alloc (.cells (msg k f t s o g (.slice a n c) R).toArray 56) := ⟨_, rfl⟩
  have hb1 : Below w.heap.size w w1 := by rw [hw1]; exact (Below.refl _ _).alloc (Nat.le_refl _) _
  have HX := hid (show w1.heap[b0]? = some (.cells (msg k f t s o g (.slice a n c) R).toArray 56 (0, 0)) by rw [hw1, hb0]; exact heap_new _ _)
  have HM := hid (h.below hb1)
  have HT := hid (ht.below hb1)
  have HB := hid hb1
  have HI := hid (fun tv => info_msg k f t s o g tv R hR)
  obtain ⟨x0, x1, x2, x3, x4, x5, x6⟩ := msg_cells HX.out
  clear h ht hb1
  go_enter Try.func38, Try.ntmps38
  go_upto_region 1 with fail
  rw [← hw1, ← hb0]
  have hbw : b0 = w.heap.size := hb0
  clear hw1 hb0
  have HBW := hid hbw
  have HMW := hid (show mb < b0 ∧ tb < b0 ∧ sb < b0 by omega)
  clear hbw
  go_wp2_with fail
  refine (own_any a n c T w1 HT.out (by omega)).mono ?_
  rintro e w2 ⟨v1, rfl, ho2, hb2⟩
  obtain ⟨vb, vc, rfl, hvb1, hvb2⟩ := ho2.form h0
  have h1s := HB.out.size
  have HX2 := hid ((hb2.block _ (lt_of_heap HX.out)).trans HX.out)
  have HM2 := hid (HM.out.below hb2)
  have HB2 := hid (HB.out.trans (hb2.mono HB.out.size))
  have HO2 := hid ho2
  have hx0l := lt_of_heap HX.out
  have f6 : w2.frozen? ⟨b0, 6, none⟩ = false := free_of_heap HX2.out 6
  obtain ⟨y0, y1, y2, y3, y4, y5, y6⟩ := msg_cells HX2.out
  clear x0 x1 x2 x3 x4 x5 x6 ho2 hb2 HX HM HB HT
  go_upto_region 2 with fail
  have HX3 := hid (show (w2.setCell ⟨b0, 6, none⟩ (.slice (some ⟨vb, 0, none⟩) n vc)).heap[b0]? = some (.cells (msg k f t s o g (.slice (some ⟨vb, 0, none⟩) n vc) R).toArray 56 (0, 0)) from by rw [heap_set HX2.out, msg_set6])
  have HM3 := hid (HM2.out.held ((Held.refl [b0] w2).setCell (p := ⟨b0, 6, none⟩) (by simp) (.slice (some ⟨vb, 0, none⟩) n vc)) (by have := HMW.out; simp; omega) (by have := HMW.out; simp; omega) (by have := HMW.out; simp; omega))
  have HB3 := hid (HB2.out.setCell (p := ⟨b0, 6, none⟩) (by have := HBW.out; show w.heap.size ≤ b0; omega) (.slice (some ⟨vb, 0, none⟩) n vc))
  have HO3 := hid (owns_other HO2.out (p := ⟨b0, 6, none⟩) (by simp [Value.ownBlock]; omega) (.slice (some ⟨vb, 0, none⟩) n vc))
  obtain ⟨w3, hw3⟩ : ∃ y, y = w2.setCell ⟨b0, 6, none⟩ (.slice (some ⟨vb, 0, none⟩) n vc) := ⟨_, rfl⟩
  rw [← hw3] at HX3 HM3 HB3 HO3 ⊢
  clear hw3 HX2 HM2 HB2 HO2 y0 y1 y2 y3 y4 y5 y6 f6
  obtain ⟨ht3, hl3⟩ := tb_of_owns HO3.out
  obtain ⟨M, hM⟩ : ∃ M, M = msg k f t s o g (.slice (some ⟨vb, 0, none⟩) n vc) R := ⟨_, rfl⟩
  have HIM := hid (HI.out (.slice (some ⟨vb, 0, none⟩) n vc))
  have HXM := hid HX3.out
  have HRC := hid (Receive_left (msg k f t s o g (.slice (some ⟨vb, 0, none⟩) n vc) R) w3 HM3.out hme h4)
  rw [← hM] at HIM HXM HRC
  clear hM ht3 hl3
  go_wp2_with (first | (refine wpList_load_mid (by rfl) 56 (.tmp 3) (by rfl) b0 0 (by rfl) M _ (range_of_heap HXM.out) Try.underlying56 rfl HIM.out ?_))
  refine HRC.out.mono ?_
  rintro e w4 ⟨rfl, hb4⟩
  have hM4 := HM3.out.below hb4
  have hH4 := Held.of_below (S := [mb, tb, sb]) hb4
  have h3s := HB3.out.size
  have h3s0 := hid h3s
  have hv3 := (HO3.out.lt vb rfl).2
  have hx3 := lt_of_heap HX3.out
  have HX4 := hid (hH4.heap HX3.out (by have := HMW.out; simp; omega))
  have HA4 := hid ((Any2.of_owns HO3.out).keep (hH4.block vb hv3 (by have := HMW.out; simp; omega)))
  have HH4 := hid ((Held.of_below (S := [mb, tb, sb]) HB3.out).trans hH4)
  have HM4 := hid hM4
  clear hb4 hM4 hH4 HX3 HM3 HB3 HO3 HRC HXM HIM
  go_wp2
  go_loopw [8] (fun iv wr => ∃ i : Nat, i ≤ n ∧ iv = .int .i64 i ∧ Hid (Any2 wr vb n) ∧ Hid (Held [vb] w4 wr)) (fun iv _ => n - (intOf iv).toNat)
  case atStart => exact ⟨0, by omega, rfl, HA4, hid (Held.refl _ _)⟩
  case round =>
    obtain ⟨i, hi, rfl, HA, HH⟩ := hrel
    have HXr := hid (HH.out.heap HX4.out (by simp; omega))
    obtain ⟨y0, y1, y2, y3, y4, y5, y6⟩ := msg_cells HXr.out
    by_cases hlt : i < n
    · obtain ⟨u0, e0⟩ := HA.out.cell (i * 2) (by omega)
      obtain ⟨u1, e1⟩ := HA.out.cell (i * 2 + 1) (by omega)
      have g0 := HA.out.free (i * 2)
      have g1 := HA.out.free (i * 2 + 1)
      have HA2 := hid ((HA.out.set (i * 2) (.int .u64 0)).set (i * 2 + 1) (.int .u8 0))
      have HH2 := hid ((HH.out.setCell (p := ⟨vb, i * 2, none⟩) (by simp) (.int .u64 0)).setCell (p := ⟨vb, i * 2 + 1, none⟩) (by simp) (.int .u8 0))
      go_wp2
      exact ⟨⟨i + 1, by omega, by go_num, HA2, HH2⟩, by simp [intOf]; omega⟩
    · obtain rfl : i = n := by omega
      have HMF := hid (HM4.out.held HH.out (by have := HMW.out; simp; omega) (by have := HMW.out; simp; omega) (by have := HMW.out; simp; omega))
      have h4s := HH4.out.size
      have HHF := hid (HH4.out.step HH.out (fun b hb => .inr (by simp at hb; have := HBW.out; omega)))
      go_wp2
      go_ret2
      exact ⟨rfl, HMF.out, HHF.out⟩
end Go.Proofs.Ytbdefmjjhkonjaa
