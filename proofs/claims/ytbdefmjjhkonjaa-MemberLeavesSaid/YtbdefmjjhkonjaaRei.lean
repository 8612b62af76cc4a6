/-
  Reincarnate; a machine's Table.
-/
import Derived.Test.YtbdefmjjhkonjaaRa
namespace Go.Proofs.Ytbdefmjjhkonjaa
open Go Go.RowKit
set_option linter.unusedVariables false

set_option maxRecDepth 100000 in
set_option maxHeartbeats 1000000 in
theorem Reinc_err {mb tb sb n me : Nat} {L : List Ent} {Z : List Int} {ck : Int} {pv : Value} {last pg dare : Int} (inc : Int) (w : World) (h : Mc w mb tb sb n me L Z ck pv last pg dare) (hs : me < n) (h4 : ((gd L me).2 == 4) = false) (hi : inc ≤ (gd L me).1 ∨ inc ≤ dare) :
    Calls Try.prog 40 #[.pointer (some ⟨mb, 0, none⟩), .int .u64 inc] w fun e w' => e = .returned (.int .i64 2) ∧ ∃ q, w' = w.drewN q := by
  have HL := hid (hasLeft_any w h hs)
  rw [h4] at HL
  have HM := hid h
  clear h h4
  go_enter Try.func40, Try.ntmps40
  go_wp2_with fail
  refine HL.out.mono ?_
  rintro e w1 ⟨rfl, q, hq⟩
  have HM1 := hid (show Mc w1 mb tb sb n me L Z ck pv last pg dare from by rw [hq]; exact HM.out.drewN q)
  have HQ := hid hq
  clear hq HL HM
  obtain ⟨c0, c1, c2, c3, c4, c5, c6, c7⟩ := mch_cells HM1.out.m
  obtain ⟨r0, r1⟩ := HM1.out.t.cells me (by have := HM1.out.ln; omega)
  generalize (gd L me).1 = x at *
  generalize (gd L me).2 = st at *
  by_cases h1 : inc ≤ x
  · clear hi
    go_wp2_with fail
    go_quiet (fail)
    go_wp2
    go_ret
    exact ⟨rfl, q + nq, by rw [HQ.out, World.drewN_drewN]⟩
  · have h2 : inc ≤ dare := by omega
    clear hi
    go_wp2_with fail
    go_quiet (fail)
    go_wp2
    go_ret
    exact ⟨rfl, q + nq, by rw [HQ.out, World.drewN_drewN]⟩
set_option maxRecDepth 100000 in
set_option maxHeartbeats 2000000 in
theorem Reinc_ok {mb tb sb n me : Nat} {L : List Ent} {Z : List Int} {ck : Int} {pv : Value} {last pg dare : Int} (inc : Int) (w : World) (h : Mc w mb tb sb n me L Z ck pv last pg dare) (hs : me < n) (h4 : ((gd L me).2 == 4) = false) (hi : (gd L me).1 < inc) (hd : dare < inc) :
    Calls Try.prog 40 #[.pointer (some ⟨mb, 0, none⟩), .int .u64 inc] w fun e w' => e = .returned (.int .i64 0) ∧ Mc w' mb tb sb n me (L.set me (inc, 1)) Z ck pv last pg 0 ∧ Held [mb, tb] w w' := by
  have HL := hid (hasLeft_any w h hs)
  rw [h4] at HL
  have HM := hid h
  clear h h4
  go_enter Try.func40, Try.ntmps40
  go_wp2_with fail
  refine HL.out.mono ?_
  rintro e w1 ⟨rfl, q, hq⟩
  have HM1 := hid (show Mc w1 mb tb sb n me L Z ck pv last pg dare from by rw [hq]; exact HM.out.drewN q)
  have HH1 := hid (show Held [mb, tb] w w1 from by rw [hq]; exact (Held.refl _ _).drewN q)
  clear hq HL HM
  obtain ⟨c0, c1, c2, c3, c4, c5, c6, c7⟩ := mch_cells HM1.out.m
  obtain ⟨r0, r1⟩ := HM1.out.t.cells me (by have := HM1.out.ln; omega)
  have f0 := HM1.out.t.free (me * 2)
  have f1 := HM1.out.t.free (me * 2 + 1)
  generalize (gd L me).1 = x at *
  generalize (gd L me).2 = st at *
  go_wp2_with fail
  go_quiet (fail)
  go_wp2_with fail
  go_region_with (fail)
  all_goals
    have HM2 := hid ((HM1.out.drewN (nq + 1)).tset me (inc, 1))
    have HH2 := hid (((HH1.out.drewN (nq + 1)).setCell (p := ⟨tb, me * 2, none⟩) (by simp) (.int .u64 inc)).setCell (p := ⟨tb, me * 2 + 1, none⟩) (by simp) (.int .u8 1))
    obtain ⟨w2, hw2⟩ : ∃ y, y = ((w1.drewN (nq + 1)).setCell ⟨tb, me * 2, none⟩ (.int .u64 inc)).setCell ⟨tb, me * 2 + 1, none⟩ (.int .u8 1) := ⟨_, rfl⟩
    rw [← hw2] at HM2 HH2
    have d7 := (mch_cells HM2.out.m).2.2.2.2.2.2.2
    have g7 : w2.frozen? ⟨mb, 7, none⟩ = false := free_of_heap HM2.out.m 7
    have HM3 := hid (HM2.out.dare 0)
    have HH3 := hid (HH2.out.setCell (p := ⟨mb, 7, none⟩) (by simp) (.int .u64 0))
    change Exit.then _ _ _ _ (((w1.drewN (nq + 1)).setCell ⟨tb, me * 2, none⟩ (.int .u64 inc)).setCell ⟨tb, me * 2 + 1, none⟩ (.int .u8 1))
    rw [← hw2]
    clear hw2 c0 c1 c2 c3 c4 c5 c6 c7 r0 r1 f0 f1
    go_wp2
    go_ret
    exact ⟨rfl, HM3.out, HH3.out⟩
set_option maxRecDepth 100000 in
set_option maxHeartbeats 1000000 in
theorem Table_any {mb tb sb n me : Nat} {L : List Ent} {Z : List Int} {ck : Int} {pv : Value} {last pg dare : Int} (w : World) (h : Mc w mb tb sb n me L Z ck pv last pg dare) (hn : n ≤ 16) :
    Calls Try.prog 45 #[.pointer (some ⟨mb, 0, none⟩)] w fun e w' => ∃ a' c', e = .returned (.slice a' n c') ∧ Tb w' (.slice a' n c') L ∧ Below w.heap.size w w' := by
  obtain ⟨c0, c1, c2, c3, c4, c5, c6, c7⟩ := mch_cells h.m
  have HC := hid (Clone_any ⟨tb, 0, none⟩ n n L w (by have := h.t.tb n (by have := h.ln; omega); rw [h.ln] at this; exact this) (by omega))
  clear h
  go_enter Try.func45, Try.ntmps45
  go_wp2_with fail
  refine HC.out.mono ?_
  rintro e w1 ⟨v, rfl, ho, hb⟩
  obtain ⟨ht, hl⟩ := tb_of_owns ho
  have ht2 := ht
  obtain ⟨a', c', rfl, _⟩ := ht2
  rw [hl] at ht ⊢
  have HT := hid ht
  have HB := hid hb
  clear ht hb ho
  go_wp2
  go_ret
  exact ⟨_, _, rfl, HT.out, HB.out⟩
end Go.Proofs.Ytbdefmjjhkonjaa
