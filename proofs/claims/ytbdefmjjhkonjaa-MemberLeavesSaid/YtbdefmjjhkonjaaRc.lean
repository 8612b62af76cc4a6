/-
  receive of a Ping: a copy of the message is delivered, and its table is overwritten afterwards.
-/
import Derived.Test.YtbdefmjjhkonjaaRcv
namespace Go.Proofs.Ytbdefmjjhkonjaa
open Go Go.RowKit
set_option linter.unusedVariables false

theorem msg_set6 (k f t s o g : Int) (tv v : Value) (R : List Value) : (msg k f t s o g tv R).toArray.setIfInBounds 6 v = (msg k f t s o g v R).toArray := by
  rw [List.setIfInBounds_toArray]; rfl
/-- a row of n entries, whatever they are -/
def Any2 (w : World) (b n : Nat) : Prop := ∃ cur T, w.heap[b]? = some (.cells cur T (0, 0)) ∧ n * 2 ≤ cur.size
theorem Any2.cell {w : World} {b n : Nat} (h : Any2 w b n) (j : Nat) (hj : j < n * 2) : ∃ v, w.cell? ⟨b, j, none⟩ = some v := by
  obtain ⟨cur, T, h1, h2⟩ := h
  exact ⟨cur[j], by rw [cell_of_heap h1, Array.getElem?_eq_getElem (by omega)]⟩
theorem Any2.free {w : World} {b n : Nat} (h : Any2 w b n) (j : Nat) : w.frozen? ⟨b, j, none⟩ = false := by
  obtain ⟨cur, T, h1, h2⟩ := h
  exact free_of_heap h1 j
theorem Any2.set {w : World} {b n : Nat} (h : Any2 w b n) (j : Nat) (v : Value) : Any2 (w.setCell ⟨b, j, none⟩ v) b n := by
  obtain ⟨cur, T, h1, h2⟩ := h
  exact ⟨_, T, heap_set h1 j v, by simpa using h2⟩
theorem Any2.of_owns {w : World} {base b n c : Nat} {xs : List Value} {e : TypeId} (h : w.ownsRow base e 2 (.slice (some ⟨b, 0, none⟩) n c) n xs) : Any2 w b n := by
  rcases h.2 with ⟨h1, _⟩ | ⟨g, cap, cur, h3, h4, h5, h6, h7, h8, h9⟩
  · cases h1
  · simp only [Value.slice.injEq, Option.some.injEq, Addr.mk.injEq, and_true, true_and] at h3
    obtain ⟨rfl, _⟩ := h3
    exact ⟨cur, _, h5, by omega⟩
theorem Any2.keep {w w' : World} {b n : Nat} (h : Any2 w b n) (k : w'.heap[b]? = w.heap[b]?) : Any2 w' b n := by
  obtain ⟨cur, T, h1, h2⟩ := h
  exact ⟨cur, T, k.trans h1, h2⟩
theorem owns_held3 {w w' : World} {S : List Nat} {base n s : Nat} {e : TypeId} {v : Value} {xs : List Value} (h : w.ownsRow base e s v n xs) (k : Held S w w') (hS : ∀ {g : Nat}, some g = v.ownBlock → g ∉ S) : w'.ownsRow base e s v n xs := by
  obtain ⟨h1, h2⟩ := h
  refine ⟨h1, h2.imp id fun ⟨g, cap, cur, h3, h4, h5, r⟩ => ⟨g, cap, cur, h3, h4, ?_, r⟩⟩
  subst h3
  exact k.heap h5 (hS rfl)

set_option maxRecDepth 100000 in
set_option maxHeartbeats 2000000 in
theorem receive_ping {mb tb sb n me : Nat} {L : List Ent} {Z : List Int} {ck : Int} {pv : Value} {last pg dare : Int} (f o : Nat) (s g : Int) (a : Option Addr) (c : Nat) (R : List Value) (T : List Ent) (w : World)
    (h : Mc w mb tb sb n me L Z ck pv last pg dare) (ht : Tb w (.slice a n c) T) (hv : vld T = true) (hf : f < n) (hfm : f ≠ me) (ho : o < n) (hme : me < n) (h0 : 0 < n) (hn : n ≤ 16) (hR : R.length = 109) (h4 : ((gd L me).2 == 4) = false) :
    Calls Try.prog 38 #[.pointer (some ⟨mb, 0, none⟩), .agg (msg 1 f me s o g (.slice a n c) R).toArray] w fun e w' => ∃ gb v, e = .returned (.tuple #[.slice (some ⟨gb, 0, none⟩) 1 1, .int .i64 0]) ∧
      Mc w' mb tb sb n me (lrn me ck T L Z dare n).1 (lrn me ck T L Z dare n).2.1 ck pv last pg (lrn me ck T L Z dare n).2.2 ∧ MsgAt w' gb 2 me f s o 0 v rest0 ∧ w'.ownsRow w.heap.size 36 2 v n (ecl (lrn me ck T L Z dare n).1) ∧ w.heap.size ≤ gb ∧ Held [mb, tb, sb] w w' := by
  have hmw := lt_of_heap h.m
  have htw := h.t.lt
  have hsw := lt_of_heap h.s
  obtain ⟨b0, hb0⟩ : ∃ y, y = w.heap.size := ⟨_, rfl⟩
  obtain ⟨w1, hw1⟩ : ∃ y, y = w.alloc (.cells (msg 1 f me s o g (.slice a n c) R).toArray 56) := ⟨_, rfl⟩
  have hb1 : Below w.heap.size w w1 := by rw [hw1]; exact (Below.refl _ _).alloc (Nat.le_refl _) _
  have HX := hid (show w1.heap[b0]? = some (.cells (msg 1 f me s o g (.slice a n c) R).toArray 56 (0, 0)) by rw [hw1, hb0]; exact heap_new _ _)
  have HM := hid (h.below hb1)
  have HT := hid (ht.below hb1)
  have HB := hid hb1
  have HI := hid (fun tv => info_msg 1 f me s o g tv R hR)
  obtain ⟨x0, x1, x2, x3, x4, x5, x6⟩ := msg_cells HX.out
  clear h ht hb1
  go_enter Try.func38, Try.ntmps38
  go_upto_region 1 with fail
  rw [← hw1, ← hb0]
  have hbw : b0 = w.heap.size := hb0
  clear hw1 hb0
  have HBW := hid hbw
  have HMW := hid (show mb < b0 ∧ tb < b0 ∧ sb < b0 by omega)
  clear hbw
  go_wp2_with fail
  refine (own_any a n c T w1 HT.out (by omega)).mono ?_
  rintro e w2 ⟨v1, rfl, ho2, hb2⟩
  obtain ⟨vb, vc, rfl, hvb1, hvb2⟩ := ho2.form h0
  have h1s := HB.out.size
  have HX2 := hid ((hb2.block _ (lt_of_heap HX.out)).trans HX.out)
  have HM2 := hid (HM.out.below hb2)
  have HB2 := hid (HB.out.trans (hb2.mono HB.out.size))
  have HO2 := hid ho2
  have hx0l := lt_of_heap HX.out
  have f6 : w2.frozen? ⟨b0, 6, none⟩ = false := free_of_heap HX2.out 6
  obtain ⟨y0, y1, y2, y3, y4, y5, y6⟩ := msg_cells HX2.out
  clear x0 x1 x2 x3 x4 x5 x6 ho2 hb2 HX HM HB HT
  go_upto_region 2 with fail
  have HX3 := hid (show (w2.setCell ⟨b0, 6, none⟩ (.slice (some ⟨vb, 0, none⟩) n vc)).heap[b0]? = some (.cells (msg 1 f me s o g (.slice (some ⟨vb, 0, none⟩) n vc) R).toArray 56 (0, 0)) from by rw [heap_set HX2.out, msg_set6])
  have HM3 := hid (HM2.out.held ((Held.refl [b0] w2).setCell (p := ⟨b0, 6, none⟩) (by simp) (.slice (some ⟨vb, 0, none⟩) n vc)) (by have := HMW.out; simp; omega) (by have := HMW.out; simp; omega) (by have := HMW.out; simp; omega))
  have HB3 := hid (HB2.out.setCell (p := ⟨b0, 6, none⟩) (by have := HBW.out; show w.heap.size ≤ b0; omega) (.slice (some ⟨vb, 0, none⟩) n vc))
  have HO3 := hid (owns_other HO2.out (p := ⟨b0, 6, none⟩) (by simp [Value.ownBlock]; omega) (.slice (some ⟨vb, 0, none⟩) n vc))
  obtain ⟨w3, hw3⟩ : ∃ y, y = w2.setCell ⟨b0, 6, none⟩ (.slice (some ⟨vb, 0, none⟩) n vc) := ⟨_, rfl⟩
  rw [← hw3] at HX3 HM3 HB3 HO3 ⊢
  clear hw3 HX2 HM2 HB2 HO2 y0 y1 y2 y3 y4 y5 y6 f6
  obtain ⟨ht3, hl3⟩ := tb_of_owns HO3.out
  obtain ⟨M, hM⟩ : ∃ M, M = msg 1 f me s o g (.slice (some ⟨vb, 0, none⟩) n vc) R := ⟨_, rfl⟩
  have HIM := hid (HI.out (.slice (some ⟨vb, 0, none⟩) n vc))
  have HXM := hid HX3.out
  have HRC := hid (Receive_ping f o s g (some ⟨vb, 0, none⟩) vc R T w3 HM3.out ht3 (by show vb ∉ _; have := HMW.out; simp; omega) hv hf hfm ho hme h0 hn hR h4)
  rw [← hM] at HIM HXM HRC
  clear hM ht3 hl3
  go_wp2_with (first | (refine wpList_load_mid (by rfl) 56 (.tmp 3) (by rfl) b0 0 (by rfl) M _ (range_of_heap HXM.out) Try.underlying56 rfl HIM.out ?_))
  refine HRC.out.mono ?_
  rintro e w4 ⟨gb, v, rfl, hM4, hG4, hO4, hg4, hH4⟩
  have h3s := HB3.out.size
  have h3s0 := hid h3s
  have hv3 := (HO3.out.lt vb rfl).2
  have hx3 := lt_of_heap HX3.out
  have HX4 := hid (hH4.heap HX3.out (by have := HMW.out; simp; omega))
  have HA4 := hid ((Any2.of_owns HO3.out).keep (hH4.block vb hv3 (by have := HMW.out; simp; omega)))
  have HH4 := hid ((Held.of_below (S := [mb, tb, sb]) HB3.out).trans hH4)
  have HM4 := hid hM4
  have HG4 := hid hG4
  have HO4 := hid hO4
  clear hM4 hG4 hO4 hH4 HX3 HM3 HB3 HO3 HRC HXM HIM
  obtain ⟨r, hr⟩ : ∃ r, r = lrn me ck T L Z dare n := ⟨_, rfl⟩
  rw [← hr] at HM4 HO4
  have HR := hid hr
  clear hr
  have HGB := hid (show w.heap.size ≤ gb ∧ gb ≠ vb ∧ w3.heap.size ≤ gb by omega)
  go_wp2
  go_loopw [8] (fun iv wr => ∃ i : Nat, i ≤ n ∧ iv = .int .i64 i ∧ Hid (Any2 wr vb n) ∧ Hid (Held [vb] w4 wr)) (fun iv _ => n - (intOf iv).toNat)
  case atStart => exact ⟨0, by omega, rfl, HA4, hid (Held.refl _ _)⟩
  case round =>
    obtain ⟨i, hi, rfl, HA, HH⟩ := hrel
    have HXr := hid (HH.out.heap HX4.out (by simp; omega))
    obtain ⟨y0, y1, y2, y3, y4, y5, y6⟩ := msg_cells HXr.out
    by_cases hlt : i < n
    · obtain ⟨u0, e0⟩ := HA.out.cell (i * 2) (by omega)
      obtain ⟨u1, e1⟩ := HA.out.cell (i * 2 + 1) (by omega)
      have g0 := HA.out.free (i * 2)
      have g1 := HA.out.free (i * 2 + 1)
      have HA2 := hid ((HA.out.set (i * 2) (.int .u64 0)).set (i * 2 + 1) (.int .u8 0))
      have HH2 := hid ((HH.out.setCell (p := ⟨vb, i * 2, none⟩) (by simp) (.int .u64 0)).setCell (p := ⟨vb, i * 2 + 1, none⟩) (by simp) (.int .u8 0))
      go_wp2
      exact ⟨⟨i + 1, by omega, by go_num, HA2, HH2⟩, by simp [intOf]; omega⟩
    · obtain rfl : i = n := by omega
      have HMF := hid (HM4.out.held HH.out (by have := HMW.out; simp; omega) (by have := HMW.out; simp; omega) (by have := HMW.out; simp; omega))
      have HGF := hid (HG4.out.same (HH.out.block _ HG4.out.lt (by have := HGB.out.2.1; simpa using this)))
      have h4s := HH4.out.size
      have HOF := hid (owns_mono (owns_held3 HO4.out HH.out (fun {g'} hg' => by have := (HO4.out.lt g' hg'.symm).1; simp; omega)) (show w.heap.size ≤ w3.heap.size from h3s0.out))
      have HHF := hid (HH4.out.step HH.out (fun b hb => .inr (by simp at hb; have := HBW.out; omega)))
      go_wp2
      go_ret2
      exact ⟨gb, v, rfl, by rw [← HR.out]; exact HMF.out, HGF.out, by rw [← HR.out]; exact HOF.out, HGB.out.1, HHF.out⟩
end Go.Proofs.Ytbdefmjjhkonjaa
