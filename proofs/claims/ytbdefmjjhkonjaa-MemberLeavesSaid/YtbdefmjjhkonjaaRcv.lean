/-
  Receive of a Ping.
-/
import Derived.Test.YtbdefmjjhkonjaaAns
import Derived.Deep.MidRow
namespace Go.Proofs.Ytbdefmjjhkonjaa
open Go Go.RowKit
set_option linter.unusedVariables false

theorem range_of_heap {w : World} {b : Nat} {cs : List Value} {T : TypeId} (h : w.heap[b]? = some (.cells cs.toArray T (0, 0))) : w.rangeAt b 0 cs := fun j v hj => by
  rw [Nat.zero_add, cell_of_heap h, List.getElem?_toArray]
  exact hj
theorem info_msg (k f t s o g : Int) (tv : Value) (R : List Value) (hR : R.length = 109) : (Try.prog.info? 56).map (·.size) = some (msg k f t s o g tv R).length := by
  rw [msg_length, hR]; kernel_rfl
theorem owns_mono {w : World} {base base' n s : Nat} {e : TypeId} {v : Value} {xs : List Value} (h : w.ownsRow base e s v n xs) (hb : base' ≤ base) : w.ownsRow base' e s v n xs :=
  ⟨h.1, h.2.imp id fun ⟨g, cap, cur, h3, h4, r⟩ => ⟨g, cap, cur, h3, Nat.le_trans hb h4, r⟩⟩
set_option maxRecDepth 100000 in
set_option maxHeartbeats 2000000 in
theorem Receive_ping {mb tb sb n me : Nat} {L : List Ent} {Z : List Int} {ck : Int} {pv : Value} {last pg dare : Int} (f o : Nat) (s g : Int) (a : Option Addr) (c : Nat) (R : List Value) (T : List Ent) (w : World)
    (h : Mc w mb tb sb n me L Z ck pv last pg dare) (ht : Tb w (.slice a n c) T) (hc : Clear [mb, tb, sb] (.slice a n c)) (hv : vld T = true) (hf : f < n) (hfm : f ≠ me) (ho : o < n) (hme : me < n) (h0 : 0 < n) (hn : n ≤ 16) (hR : R.length = 109) (h4 : ((gd L me).2 == 4) = false) :
    Calls Try.prog 58 #[.pointer (some ⟨mb, 0, none⟩), .agg (msg 1 f me s o g (.slice a n c) R).toArray] w fun e w' => ∃ gb v, e = .returned (.tuple #[.slice (some ⟨gb, 0, none⟩) 1 1, .int .i64 0]) ∧
      Mc w' mb tb sb n me (lrn me ck T L Z dare n).1 (lrn me ck T L Z dare n).2.1 ck pv last pg (lrn me ck T L Z dare n).2.2 ∧ MsgAt w' gb 2 me f s o 0 v rest0 ∧ w'.ownsRow w.heap.size 36 2 v n (ecl (lrn me ck T L Z dare n).1) ∧ w.heap.size ≤ gb ∧ Held [mb, tb, sb] w w' := by
  obtain ⟨w1, hw1⟩ : ∃ y, y = w.alloc (.cells (msg 1 f me s o g (.slice a n c) R).toArray 56) := ⟨_, rfl⟩
  have hb1 : Below w.heap.size w w1 := by rw [hw1]; exact (Below.refl _ _).alloc (Nat.le_refl _) _
  have hx : w1.heap[w.heap.size]? = some (.cells (msg 1 f me s o g (.slice a n c) R).toArray 56 (0, 0)) := by rw [hw1]; exact heap_new _ _
  have HB := hid hb1
  have HX := hid hx
  have HM := hid (h.below hb1)
  have HT := hid (ht.below hb1)
  have hmw := lt_of_heap h.m
  have htw := h.t.lt
  have hsw := lt_of_heap h.s
  have HI := hid (info_msg 1 f me s o g (.slice a n c) R hR)
  have HL := hid (hasLeft_any w1 HM.out hme)
  rw [h4] at HL
  have HV := hid hv
  have HC := hid hc
  clear h ht hx hb1 hv hc h4
  obtain ⟨M, hM⟩ : ∃ M, M = msg 1 f me s o g (.slice a n c) R := ⟨_, rfl⟩
  have HMM := hid hM
  rw [← hM] at HX HI hw1 ⊢
  clear hM
  go_enter Try.func58, Try.ntmps58
  go_upto_region 1 with fail
  rw [← hw1]
  clear hw1
  go_wp2_with fail
  refine HL.out.mono ?_
  rintro e w2 ⟨rfl, q, rfl⟩
  clear HL
  go_wp2_with (first | (refine wpList_load_mid (by rfl) 56 (.tmp 3) (by rfl) w.heap.size 0 (by rfl) M _ (range_of_heap (w := w1.drewN q) HX.out) Try.underlying56 rfl HI.out ?_))
  have hacc := accepts_yes 1 f o s g a c R T (w1.drewN q) (HM.out.drewN q) (HT.out.below (bel_drewN (Below.refl _ _) q)) HV.out (.inl rfl) hf hfm ho hme hn
  rw [← HMM.out] at hacc
  refine hacc.mono ?_
  rintro e w3 ⟨rfl, hb3⟩
  have hb3' : Below w1.heap.size w1 w3 := ⟨hb3.os, hb3.tape, hb3.output, hb3.size, hb3.block⟩
  have HX3 := hid ((hb3'.block _ (lt_of_heap HX.out)).trans HX.out)
  have HM3 := hid (HM.out.below hb3')
  have HT3 := hid (HT.out.below hb3')
  have HB3 := hid (HB.out.trans (hb3'.mono HB.out.size))
  have x6 : w3.cell? ⟨w.heap.size, 6, none⟩ = some (.slice a n c) := by
    have h := HX3.out
    rw [HMM.out] at h
    exact (msg_cells h).2.2.2.2.2.2
  clear hacc hb3 hb3' HX HM HT HB
  go_wp2_with fail
  refine (learn_any a c T w3 HM3.out HT3.out HC.out hn).mono ?_
  rintro e w4 ⟨rfl, hM4, hH4⟩
  obtain ⟨r, hr⟩ : ∃ r, r = lrn me ck T L Z dare n := ⟨_, rfl⟩
  rw [← hr] at hM4
  have HR := hid hr
  clear hr
  have HM4 := hid hM4
  have HX4 := hid (hH4.heap HX3.out (by simp; omega))
  have HH4 := hid ((Held.of_below (S := [mb, tb, sb]) HB3.out).trans hH4)
  clear hM4 hH4 x6 HX3 HM3 HT3 HB3
  go_wp2_with (first | (refine wpList_load_mid (by rfl) 56 (.tmp 3) (by rfl) w.heap.size 0 (by rfl) M _ (range_of_heap HX4.out) Try.underlying56 rfl HI.out ?_))
  have hans := answer_ping mb f me s o g (.slice a n c) R w4
  rw [← HMM.out] at hans
  refine hans.mono ?_
  rintro e w5 ⟨gb, rfl, hG5, hg5, hb5⟩
  have h4s := HH4.out.size
  have HM5 := hid (HM4.out.below hb5)
  have HH5 := hid (HH4.out.trans (Held.of_below (S := [mb, tb, sb]) hb5))
  have HG5 := hid hG5
  clear hans hG5 hb5 HX4 HM4 HH4
  go_wp2_with fail
  refine (complete_one gb 1 2 0 f s o 0 (.slice none 0 0) rest0 w5 HM5.out HG5.out (by omega) (by omega) (by omega) h0 hn).mono ?_
  rintro e w6 ⟨v, rfl, hG6, ho6, hH6⟩
  have h5s := HH5.out.size
  have HM6 := hid (HM5.out.held hH6 (by simp; omega) (by simp; omega) (by simp; omega))
  have HH6 := hid (HH5.out.step hH6 (fun b hb => .inr (by simp at hb; omega)))
  have HG6 := hid hG6
  have HO6 := hid (owns_mono ho6 h5s)
  clear hG6 ho6 hH6 HM5 HH5 HG5
  go_wp2
  go_ret2
  exact ⟨gb, v, rfl, by rw [← HR.out]; exact HM6.out, HG6.out, by rw [← HR.out]; exact HO6.out, by omega, HH6.out⟩
end Go.Proofs.Ytbdefmjjhkonjaa
