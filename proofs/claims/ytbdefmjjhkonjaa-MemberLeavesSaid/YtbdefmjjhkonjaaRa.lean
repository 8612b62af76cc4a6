/-
  Receive and receive of an Ack to the machine itself, where it has no probe. (Written by gen_ra.py from the texts for a Ping.)
-/
import Derived.Test.YtbdefmjjhkonjaaRc
import Derived.Test.YtbdefmjjhkonjaaCk
namespace Go.Proofs.Ytbdefmjjhkonjaa
open Go Go.RowKit
set_option linter.unusedVariables false

set_option maxRecDepth 100000 in
set_option maxHeartbeats 1000000 in
theorem complete_nil (mb : Nat) (w : World) : Calls Try.prog 66 #[.pointer (some ⟨mb, 0, none⟩), .slice none 0 0] w fun e w' => e = .returned (.slice none 0 0) ∧ w' = w := by
  go_enter Try.func66, Try.ntmps66
  go_wp2
  go_loopw [8] (fun iv wr => iv = .int .i64 0 ∧ Hid (wr = w)) (fun iv _ => 0)
  case atStart => exact ⟨rfl, hid rfl⟩
  case round =>
    obtain ⟨rfl, HW⟩ := hrel
    go_wp2
    go_ret
    exact ⟨rfl, HW.out⟩
set_option maxRecDepth 100000 in
set_option maxHeartbeats 1000000 in
theorem answer_ack {mb tb sb n : Nat} {L : List Ent} {Z : List Int} {ck : Int} {last pg dare : Int} (f me : Nat) (s g : Int) (tv : Value) (R : List Value) (w : World) (h : Mc w mb tb sb n me L Z ck (.slice none 0 0) last pg dare) :
    Calls Try.prog 80 #[.pointer (some ⟨mb, 0, none⟩), .agg (msg 2 f me s me g tv R).toArray] w fun e w' => e = .returned (.slice none 0 0) ∧ Mc w' mb tb sb n me L Z ck (.slice none 0 0) last pg dare ∧ Held [mb] w w' := by
  obtain ⟨w1, hw1⟩ : ∃ y, y = w.alloc (.cells (msg 2 f me s me g tv R).toArray 56) := ⟨_, rfl⟩
  have hb1 : Below w.heap.size w w1 := by rw [hw1]; exact (Below.refl _ _).alloc (Nat.le_refl _) _
  have hx : w1.heap[w.heap.size]? = some (.cells (msg 2 f me s me g tv R).toArray 56 (0, 0)) := by rw [hw1]; exact heap_new _ _
  have HM := hid (h.below hb1)
  have HH := hid (Held.of_below (S := [mb]) hb1)
  obtain ⟨x0, x1, x2, x3, x4, x5, x6⟩ := msg_cells hx
  obtain ⟨c0, c1, c2, c3, c4, c5, c6, c7⟩ := mch_cells HM.out.m
  have f4 : w1.frozen? ⟨mb, 4, none⟩ = false := free_of_heap HM.out.m 4
  have hmm : ((me : Int) != (me : Int)) = false := by simp
  clear h hx hb1
  go_enter Try.func80, Try.ntmps80
  go_upto_region 1 with fail
  rw [← hw1]
  clear hw1
  go_wp2_with fail
  go_quiet (fail)
  go_wp2_with fail
  go_quiet (fail)
  go_wp2_with fail
  refine (DeleteFunc_nil _ _).mono ?_
  rintro e wD ⟨rfl, hwD⟩
  have hbD : Below w1.heap.size w1 wD := by rw [hwD]; exact bel_drewN (Below.refl _ _) _
  have HMD := hid ((HM.out.below hbD).probes (.slice none 0 0))
  have HHD := hid ((HH.out.trans (Held.of_below (S := [mb]) hbD)).setCell (p := ⟨mb, 4, none⟩) (by simp) (.slice none 0 0))
  have d4 := (mch_cells (HM.out.below hbD).m).2.2.2.2.1
  have g4 : wD.frozen? ⟨mb, 4, none⟩ = false := free_of_heap (HM.out.below hbD).m 4
  clear hwD hbD c0 c1 c2 c3 c4 c5 c6 c7 f4 x0 x1 x2 x3 x4 x5 x6
  go_wp2
  go_ret
  exact ⟨rfl, HMD.out, HHD.out⟩

set_option maxRecDepth 100000 in
set_option maxHeartbeats 2000000 in
theorem Receive_ack {mb tb sb n me : Nat} {L : List Ent} {Z : List Int} {ck : Int} {last pg dare : Int} (f : Nat) (s g : Int) (a : Option Addr) (c : Nat) (R : List Value) (T : List Ent) (w : World)
    (h : Mc w mb tb sb n me L Z ck (.slice none 0 0) last pg dare) (ht : Tb w (.slice a n c) T) (hc : Clear [mb, tb, sb] (.slice a n c)) (hv : vld T = true) (hf : f < n) (hfm : f ≠ me) (hme : me < n) (h0 : 0 < n) (hn : n ≤ 16) (hR : R.length = 109) (h4 : ((gd L me).2 == 4) = false) :
    Calls Try.prog 58 #[.pointer (some ⟨mb, 0, none⟩), .agg (msg 2 f me s me g (.slice a n c) R).toArray] w fun e w' => e = .returned (.tuple #[.slice none 0 0, .int .i64 0]) ∧
      Mc w' mb tb sb n me (lrn me ck T L Z dare n).1 (lrn me ck T L Z dare n).2.1 ck (.slice none 0 0) last pg (lrn me ck T L Z dare n).2.2 ∧ Held [mb, tb, sb] w w' := by
  obtain ⟨w1, hw1⟩ : ∃ y, y = w.alloc (.cells (msg 2 f me s me g (.slice a n c) R).toArray 56) := ⟨_, rfl⟩
  have hb1 : Below w.heap.size w w1 := by rw [hw1]; exact (Below.refl _ _).alloc (Nat.le_refl _) _
  have hx : w1.heap[w.heap.size]? = some (.cells (msg 2 f me s me g (.slice a n c) R).toArray 56 (0, 0)) := by rw [hw1]; exact heap_new _ _
  have HB := hid hb1
  have HX := hid hx
  have HM := hid (h.below hb1)
  have HT := hid (ht.below hb1)
  have hmw := lt_of_heap h.m
  have htw := h.t.lt
  have hsw := lt_of_heap h.s
  have HI := hid (info_msg 2 f me s me g (.slice a n c) R hR)
  have HL := hid (hasLeft_any w1 HM.out hme)
  rw [h4] at HL
  have HV := hid hv
  have HC := hid hc
  clear h ht hx hb1 hv hc h4
  obtain ⟨M, hM⟩ : ∃ M, M = msg 2 f me s me g (.slice a n c) R := ⟨_, rfl⟩
  have HMM := hid hM
  rw [← hM] at HX HI hw1 ⊢
  clear hM
  go_enter Try.func58, Try.ntmps58
  go_upto_region 1 with fail
  rw [← hw1]
  clear hw1
  go_wp2_with fail
  refine HL.out.mono ?_
  rintro e w2 ⟨rfl, q, rfl⟩
  clear HL
  go_wp2_with (first | (refine wpList_load_mid (by rfl) 56 (.tmp 3) (by rfl) w.heap.size 0 (by rfl) M _ (range_of_heap (w := w1.drewN q) HX.out) Try.underlying56 rfl HI.out ?_))
  have hacc := accepts_yes 2 f me s g a c R T (w1.drewN q) (HM.out.drewN q) (HT.out.below (bel_drewN (Below.refl _ _) q)) HV.out (.inr rfl) hf hfm hme hme hn
  rw [← HMM.out] at hacc
  refine hacc.mono ?_
  rintro e w3 ⟨rfl, hb3⟩
  have hb3' : Below w1.heap.size w1 w3 := ⟨hb3.os, hb3.tape, hb3.output, hb3.size, hb3.block⟩
  have HX3 := hid ((hb3'.block _ (lt_of_heap HX.out)).trans HX.out)
  have HM3 := hid (HM.out.below hb3')
  have HT3 := hid (HT.out.below hb3')
  have HB3 := hid (HB.out.trans (hb3'.mono HB.out.size))
  have x6 : w3.cell? ⟨w.heap.size, 6, none⟩ = some (.slice a n c) := by
    have h := HX3.out
    rw [HMM.out] at h
    exact (msg_cells h).2.2.2.2.2.2
  clear hacc hb3 hb3' HX HM HT HB
  go_wp2_with fail
  refine (learn_any a c T w3 HM3.out HT3.out HC.out hn).mono ?_
  rintro e w4 ⟨rfl, hM4, hH4⟩
  obtain ⟨r, hr⟩ : ∃ r, r = lrn me ck T L Z dare n := ⟨_, rfl⟩
  rw [← hr] at hM4
  have HR := hid hr
  clear hr
  have HM4 := hid hM4
  have HX4 := hid (hH4.heap HX3.out (by simp; omega))
  have HH4 := hid ((Held.of_below (S := [mb, tb, sb]) HB3.out).trans hH4)
  clear hM4 hH4 x6 HX3 HM3 HT3 HB3
  go_wp2_with (first | (refine wpList_load_mid (by rfl) 56 (.tmp 3) (by rfl) w.heap.size 0 (by rfl) M _ (range_of_heap HX4.out) Try.underlying56 rfl HI.out ?_))
  have hans := answer_ack f me s g (.slice a n c) R w4 HM4.out
  rw [← HMM.out] at hans
  refine hans.mono ?_
  rintro e w5 ⟨rfl, hM5, hH5⟩
  have HM5 := hid hM5
  have HH5 := hid (HH4.out.trans (hH5.more (S' := [mb, tb, sb]) (fun b hb => by simp at hb ⊢; omega)))
  clear hans hM5 hH5 HX4 HM4 HH4
  go_wp2_with fail
  refine (complete_nil mb w5).mono ?_
  rintro e w6 ⟨rfl, hw6⟩
  subst hw6
  go_wp2
  go_ret2
  exact ⟨rfl, by rw [← HR.out]; exact HM5.out, HH5.out⟩

set_option maxRecDepth 100000 in
set_option maxHeartbeats 2000000 in
theorem receive_ack {mb tb sb n me : Nat} {L : List Ent} {Z : List Int} {ck : Int} {last pg dare : Int} (f : Nat) (s g : Int) (a : Option Addr) (c : Nat) (R : List Value) (T : List Ent) (w : World)
    (h : Mc w mb tb sb n me L Z ck (.slice none 0 0) last pg dare) (ht : Tb w (.slice a n c) T) (hv : vld T = true) (hf : f < n) (hfm : f ≠ me) (hme : me < n) (h0 : 0 < n) (hn : n ≤ 16) (hR : R.length = 109) (h4 : ((gd L me).2 == 4) = false) :
    Calls Try.prog 38 #[.pointer (some ⟨mb, 0, none⟩), .agg (msg 2 f me s me g (.slice a n c) R).toArray] w fun e w' => e = .returned (.tuple #[.slice none 0 0, .int .i64 0]) ∧
      Mc w' mb tb sb n me (lrn me ck T L Z dare n).1 (lrn me ck T L Z dare n).2.1 ck (.slice none 0 0) last pg (lrn me ck T L Z dare n).2.2 ∧ Held [mb, tb, sb] w w' := by
  have hmw := lt_of_heap h.m
  have htw := h.t.lt
  have hsw := lt_of_heap h.s
  obtain ⟨b0, hb0⟩ : ∃ y, y = w.heap.size := ⟨_, rfl⟩
  obtain ⟨w1, hw1⟩ : ∃ y, y = w.alloc (.cells (msg 2 f me s me g (.slice a n c) R).toArray 56) := ⟨_, rfl⟩
  have hb1 : Below w.heap.size w w1 := by rw [hw1]; exact (Below.refl _ _).alloc (Nat.le_refl _) _
  have HX := hid (show w1.heap[b0]? = some (.cells (msg 2 f me s me g (.slice a n c) R).toArray 56 (0, 0)) by rw [hw1, hb0]; exact heap_new _ _)
  have HM := hid (h.below hb1)
  have HT := hid (ht.below hb1)
  have HB := hid hb1
  have HI := hid (fun tv => info_msg 2 f me s me g tv R hR)
  obtain ⟨x0, x1, x2, x3, x4, x5, x6⟩ := msg_cells HX.out
  clear h ht hb1
  go_enter Try.func38, Try.ntmps38
  go_upto_region 1 with fail
  rw [← hw1, ← hb0]
  have hbw : b0 = w.heap.size := hb0
  clear hw1 hb0
  have HBW := hid hbw
  have HMW := hid (show mb < b0 ∧ tb < b0 ∧ sb < b0 by omega)
  clear hbw
  go_wp2_with fail
  refine (own_any a n c T w1 HT.out (by omega)).mono ?_
  rintro e w2 ⟨v1, rfl, ho2, hb2⟩
  obtain ⟨vb, vc, rfl, hvb1, hvb2⟩ := ho2.form h0
  have h1s := HB.out.size
  have HX2 := hid ((hb2.block _ (lt_of_heap HX.out)).trans HX.out)
  have HM2 := hid (HM.out.below hb2)
  have HB2 := hid (HB.out.trans (hb2.mono HB.out.size))
  have HO2 := hid ho2
  have hx0l := lt_of_heap HX.out
  have f6 : w2.frozen? ⟨b0, 6, none⟩ = false := free_of_heap HX2.out 6
  obtain ⟨y0, y1, y2, y3, y4, y5, y6⟩ := msg_cells HX2.out
  clear x0 x1 x2 x3 x4 x5 x6 ho2 hb2 HX HM HB HT
  go_upto_region 2 with fail
  have HX3 := hid (show (w2.setCell ⟨b0, 6, none⟩ (.slice (some ⟨vb, 0, none⟩) n vc)).heap[b0]? = some (.cells (msg 2 f me s me g (.slice (some ⟨vb, 0, none⟩) n vc) R).toArray 56 (0, 0)) from by rw [heap_set HX2.out, msg_set6])
  have HM3 := hid (HM2.out.held ((Held.refl [b0] w2).setCell (p := ⟨b0, 6, none⟩) (by simp) (.slice (some ⟨vb, 0, none⟩) n vc)) (by have := HMW.out; simp; omega) (by have := HMW.out; simp; omega) (by have := HMW.out; simp; omega))
  have HB3 := hid (HB2.out.setCell (p := ⟨b0, 6, none⟩) (by have := HBW.out; show w.heap.size ≤ b0; omega) (.slice (some ⟨vb, 0, none⟩) n vc))
  have HO3 := hid (owns_other HO2.out (p := ⟨b0, 6, none⟩) (by simp [Value.ownBlock]; omega) (.slice (some ⟨vb, 0, none⟩) n vc))
  obtain ⟨w3, hw3⟩ : ∃ y, y = w2.setCell ⟨b0, 6, none⟩ (.slice (some ⟨vb, 0, none⟩) n vc) := ⟨_, rfl⟩
  rw [← hw3] at HX3 HM3 HB3 HO3 ⊢
  clear hw3 HX2 HM2 HB2 HO2 y0 y1 y2 y3 y4 y5 y6 f6
  obtain ⟨ht3, hl3⟩ := tb_of_owns HO3.out
  obtain ⟨M, hM⟩ : ∃ M, M = msg 2 f me s me g (.slice (some ⟨vb, 0, none⟩) n vc) R := ⟨_, rfl⟩
  have HIM := hid (HI.out (.slice (some ⟨vb, 0, none⟩) n vc))
  have HXM := hid HX3.out
  have HRC := hid (Receive_ack f s g (some ⟨vb, 0, none⟩) vc R T w3 HM3.out ht3 (by show vb ∉ _; have := HMW.out; simp; omega) hv hf hfm hme h0 hn hR h4)
  rw [← hM] at HIM HXM HRC
  clear hM ht3 hl3
  go_wp2_with (first | (refine wpList_load_mid (by rfl) 56 (.tmp 3) (by rfl) b0 0 (by rfl) M _ (range_of_heap HXM.out) Try.underlying56 rfl HIM.out ?_))
  refine HRC.out.mono ?_
  rintro e w4 ⟨rfl, hM4, hH4⟩
  have h3s := HB3.out.size
  have h3s0 := hid h3s
  have hv3 := (HO3.out.lt vb rfl).2
  have hx3 := lt_of_heap HX3.out
  have HX4 := hid (hH4.heap HX3.out (by have := HMW.out; simp; omega))
  have HA4 := hid ((Any2.of_owns HO3.out).keep (hH4.block vb hv3 (by have := HMW.out; simp; omega)))
  have HH4 := hid ((Held.of_below (S := [mb, tb, sb]) HB3.out).trans hH4)
  have HM4 := hid hM4
  clear hM4 hH4 HX3 HM3 HB3 HO3 HRC HXM HIM
  obtain ⟨r, hr⟩ : ∃ r, r = lrn me ck T L Z dare n := ⟨_, rfl⟩
  rw [← hr] at HM4
  have HR := hid hr
  clear hr
  go_wp2
  go_loopw [8] (fun iv wr => ∃ i : Nat, i ≤ n ∧ iv = .int .i64 i ∧ Hid (Any2 wr vb n) ∧ Hid (Held [vb] w4 wr)) (fun iv _ => n - (intOf iv).toNat)
  case atStart => exact ⟨0, by omega, rfl, HA4, hid (Held.refl _ _)⟩
  case round =>
    obtain ⟨i, hi, rfl, HA, HH⟩ := hrel
    have HXr := hid (HH.out.heap HX4.out (by simp; omega))
    obtain ⟨y0, y1, y2, y3, y4, y5, y6⟩ := msg_cells HXr.out
    by_cases hlt : i < n
    · obtain ⟨u0, e0⟩ := HA.out.cell (i * 2) (by omega)
      obtain ⟨u1, e1⟩ := HA.out.cell (i * 2 + 1) (by omega)
      have g0 := HA.out.free (i * 2)
      have g1 := HA.out.free (i * 2 + 1)
      have HA2 := hid ((HA.out.set (i * 2) (.int .u64 0)).set (i * 2 + 1) (.int .u8 0))
      have HH2 := hid ((HH.out.setCell (p := ⟨vb, i * 2, none⟩) (by simp) (.int .u64 0)).setCell (p := ⟨vb, i * 2 + 1, none⟩) (by simp) (.int .u8 0))
      go_wp2
      exact ⟨⟨i + 1, by omega, by go_num, HA2, HH2⟩, by simp [intOf]; omega⟩
    · obtain rfl : i = n := by omega
      have HMF := hid (HM4.out.held HH.out (by have := HMW.out; simp; omega) (by have := HMW.out; simp; omega) (by have := HMW.out; simp; omega))
      have h4s := HH4.out.size
      have HHF := hid (HH4.out.step HH.out (fun b hb => .inr (by simp at hb; have := HBW.out; omega)))
      go_wp2
      go_ret2
      exact ⟨rfl, by rw [← HR.out]; exact HMF.out, HHF.out⟩
end Go.Proofs.Ytbdefmjjhkonjaa
