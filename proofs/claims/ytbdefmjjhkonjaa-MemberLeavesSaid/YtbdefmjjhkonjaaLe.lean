/-
  Leave, where there is one live peer.
-/
import Derived.Test.YtbdefmjjhkonjaaTk
namespace Go.Proofs.Ytbdefmjjhkonjaa
open Go Go.RowKit
set_option linter.unusedVariables false

theorem Mc.tset1 {w : World} {mb tb sb n me : Nat} {L : List Ent} {Z : List Int} {ck : Int} {pv : Value} {last pg dare : Int} (h : Mc w mb tb sb n me L Z ck pv last pg dare) (i : Nat) (s : Int) (hi : i < n) :
    Mc (w.setCell ⟨tb, i * 2 + 1, none⟩ (.int .u8 s)) mb tb sb n me (L.set i ((gd L i).1, s)) Z ck pv last pg dare :=
  ⟨by rw [heap_set_other (fun e => h.mt e.symm)]; exact h.m, h.t.set1 i s (by have := h.ln; omega), by rw [heap_set_other (fun e => h.ts e)]; exact h.s, by simp [h.ln], h.zn, h.mt, h.ms, h.ts⟩

set_option maxRecDepth 100000 in
set_option maxHeartbeats 2000000 in
theorem Leave_one {mb tb sb n me : Nat} {L : List Ent} {Z : List Int} {ck : Int} {pv : Value} {last pg dare : Int} (p : Nat) (w : World) (h : Mc w mb tb sb n me L Z ck pv last pg dare) (hme : me < n) (hn : n ≤ 16)
    (h4 : ((gd L me).2 == 4) = false) (L2 : List Ent) (h2 : L2 = L.set me ((gd L me).1, 4)) (hl : liveL L2 n = [p]) :
    Calls Try.prog 42 #[.pointer (some ⟨mb, 0, none⟩)] w fun e w' => ∃ g c v, e = .returned (.slice (some ⟨g, 0, none⟩) 1 c) ∧ MsgAt w' g 2 me p 0 p 0 v rest0 ∧
      w'.ownsRow w.heap.size 36 2 v n (ecl L2) ∧ Mc w' mb tb sb n me L2 Z ck pv last pg dare ∧ w.heap.size ≤ g ∧ Held [tb] w w' := by
  have HL := hid (hasLeft_any w h hme)
  rw [h4] at HL
  have HM := hid h
  have HE := hid hl
  have H2 := hid h2
  have hmw := lt_of_heap h.m
  have htw := h.t.lt
  have hsw := lt_of_heap h.s
  clear h h4 hl h2
  go_enter Try.func42, Try.ntmps42
  go_wp2_with fail
  refine HL.out.mono ?_
  rintro e w1 ⟨rfl, q, rfl⟩
  clear HL
  have HM1 := hid (HM.out.drewN q)
  have HH1 := hid ((Held.refl [tb] w).drewN q)
  obtain ⟨w1, hw1⟩ : ∃ y, y = w.drewN q := ⟨_, rfl⟩
  rw [← hw1] at HM1 HH1 ⊢
  clear hw1 HM
  obtain ⟨c0, c1, c2, c3, c4, c5, c6, c7⟩ := mch_cells HM1.out.m
  obtain ⟨r0, r1⟩ := HM1.out.t.cells me (by have := HM1.out.ln; omega)
  have f1 := HM1.out.t.free (me * 2 + 1)
  go_upto_region 3 with fail
  have hNN := HM1.out.ln
  generalize hst : (gd L me).2 = st at *
  generalize hic : (gd L me).1 = ic at *
  refine region_quiet_tail 10 (by kernel_rfl) (by kernel_rfl) ?_
  simp only [List.take_succ_cons, List.take_zero, List.drop_succ_cons, List.drop_zero]
  repeat (go_big_quiet_step (fail))
  refine wpQuiet_nil ?_
  intro nq2
  go_upto_region 4 with fail
  subst hic
  have HM2 := hid (show Mc ((w1.drewN nq2).setCell ⟨tb, me * 2 + 1, none⟩ (.int .u8 4)) mb tb sb n me L2 Z ck pv last pg dare from by rw [H2.out]; exact (HM1.out.drewN nq2).tset1 me 4 hme)
  have HH2 := hid ((HH1.out.drewN nq2).setCell (p := ⟨tb, me * 2 + 1, none⟩) (by simp) (.int .u8 4))
  obtain ⟨w2, hw2⟩ : ∃ y, y = (w1.drewN nq2).setCell ⟨tb, me * 2 + 1, none⟩ (.int .u8 4) := ⟨_, rfl⟩
  rw [← hw2] at HM2 HH2 ⊢
  clear hw2 HM1 HH1 c0 c1 c2 c3 c4 c5 c6 c7 f1 r0 r1 hst hNN H2
  obtain ⟨c0, c1, c2, c3, c4, c5, c6, c7⟩ := mch_cells HM2.out.m
  have HC := hid (Live_any (some ⟨tb, 0, none⟩) n n L2 w2 (by have := HM2.out.t.tb n (by have := HM2.out.ln; omega); rw [HM2.out.ln] at this; exact this) (by omega))
  rw [HE.out] at HC
  have h2s := HH2.out.size
  go_wp2_with fail
  refine HC.out.mono ?_
  rintro e w3 ⟨v, rfl, hov, hb3⟩
  change w3.ownsRow w2.heap.size 3 1 v 1 (ints [p]) at hov
  have HM3 := hid (HM2.out.below hb3)
  have HH3 := hid (HH2.out.trans (Held.of_below (S := [tb]) hb3))
  obtain ⟨vb, vc, rfl, _, _⟩ := hov.form (by simp)
  have x0 : w3.cell? ⟨vb, 0, none⟩ = some (.int .i64 (p : Int)) := hov.cellAt 0 (by simp)
  clear hov hb3 HC HM2 HH2 c0 c1 c2 c3 c4 c5 c6 c7 HE
  have h3s := HH3.out.size
  obtain ⟨i0, z, hi0, hz0, hz1, hz2, hz3⟩ := info_partsM
  have hml : (msg 2 0 p 0 p 0 (.slice none 0 0) rest0).length = 116 := by rw [msg_length, rest0_length]
  go_wp2_with fail
  go_loopw [3, 28] (fun rv iv wr => ∃ i : Nat, i ≤ 1 ∧ iv = .int .i64 i ∧ Hid (i = 0 → rv = .slice none 0 0 ∧ w3 = wr) ∧ Hid (i = 1 → ∃ g c, rv = .slice (some ⟨g, 0, none⟩) 1 c ∧ MsgAt wr g 2 0 p 0 p 0 (.slice none 0 0) rest0 ∧ w3.heap.size ≤ g ∧ Below w3.heap.size w3 wr)) (fun _ iv _ => 1 - (intOf iv).toNat)
  case atStart => exact ⟨0, by omega, rfl, hid (fun _ => ⟨rfl, rfl⟩), hid (fun h => by omega)⟩
  case round =>
    obtain ⟨i, hi, rfl, H0, H1⟩ := hrel
    by_cases hlt : i < 1
    · obtain rfl : i = 0 := by omega
      obtain ⟨rfl, rfl⟩ := H0.out rfl
      clear H0 H1
      go_wp2_with (refine wpList_append_lies _ rfl (.tmp 32) (.tmp 36) _ rfl w3.heap.size 56 i0 z 116 352 Try.underlying68 hi0 hz0 hz1 hz2 hz3 (by decide) (.slice none 0 0) 0 [] rfl (owns_nil _ _ _ _) ⟨w3.heap.size, 0, none⟩ 1 1 (msg 2 0 p 0 p 0 (.slice none 0 0) rest0) rfl (by kernel_rfl) ?hnews (msg_one _ _ _ _ _ _ _ _ _) (by omega) (by unfold maxLen; omega) (by omega) (by simp) _ rfl ?_)
      case hnews =>
        exact fun j u hu => World.news_of_block (heap_new_at _ _ (by simp)) j u (Eq.trans (congrArg (fun l : List Value => l[j]?) (by kernel_rfl)) hu)
      intro g cap w6 ho6 hg6 hat6 hlt6
      have hgw : w3.heap.size < g := by have := hat6.resolve_left (fun e => by cases e); omega
      have HB6 := hid (((Below.refl w3.heap.size w3).alloc (Nat.le_refl _) _).grown hg6 (by simp) (fun g hg => by cases hg))
      have HG6 := hid (msgAt_of_owns ho6)
      clear ho6 hg6 hat6 x0
      go_wp2
      exact ⟨⟨1, by omega, by go_num, hid (fun h => by omega), hid (fun _ => ⟨g, cap, rfl, HG6.out, by omega, HB6.out⟩)⟩, by simp [intOf]⟩
    · obtain rfl : i = 1 := by omega
      obtain ⟨g, c, rfl, hG, hg, hB⟩ := H1.out rfl
      have HM4 := hid (HM3.out.below hB)
      have HH4 := hid (HH3.out.trans (Held.of_below (S := [tb]) hB))
      have HG4 := hid hG
      clear H0 H1 hG hB HM3 HH3 x0
      have h4s := HH4.out.size
      go_wp2_with fail
      refine (complete_one g c 2 0 p 0 p 0 (.slice none 0 0) rest0 wr HM4.out HG4.out (by omega) (by omega) (by omega) (by omega) hn).mono ?_
      rintro e w7 ⟨v, rfl, hG7, hO7, hH7⟩
      have HM7 := hid (HM4.out.held hH7 (by simp; omega) (by simp; omega) (by simp; omega))
      have HH7 := hid (HH4.out.step hH7 (fun b hb => .inr (by simp at hb; omega)))
      have HG7 := hid hG7
      have HO7 := hid (owns_mono hO7 h4s)
      clear hG7 hO7 hH7 HM4 HH4 HG4
      go_wp2
      go_ret
      exact ⟨g, c, v, rfl, HG7.out, HO7.out, HM7.out, by omega, HH7.out⟩
end Go.Proofs.Ytbdefmjjhkonjaa
