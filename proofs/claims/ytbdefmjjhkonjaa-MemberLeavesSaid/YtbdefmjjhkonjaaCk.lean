/-
  checkProbes where there is no probe, checkSuspects where nobody is suspected.
-/
import Derived.Test.YtbdefmjjhkonjaaRcv
import Derived.Test.YtbdefmjjhkonjaaWt5
import Derived.StillTailTactics
namespace Go.Proofs.Ytbdefmjjhkonjaa
open Go Go.RowKit
set_option linter.unusedVariables false

set_option maxRecDepth 100000 in
set_option maxHeartbeats 1000000 in
theorem IndexFunc_nil (fv : Value) (w : World) : Calls Try.prog 91 #[.slice none 0 0, fv] w fun e w' => e = .returned (.int .i64 (-1)) ∧ w' = w := by
  go_enter Try.func91, Try.ntmps91
  go_wp2
  go_loopw [8] (fun iv wr => iv = .int .i64 0 ∧ Hid (wr = w)) (fun iv _ => 0)
  case atStart => exact ⟨rfl, hid rfl⟩
  case round =>
    obtain ⟨rfl, HW⟩ := hrel
    go_wp2
    go_ret
    exact ⟨rfl, HW.out⟩
set_option maxRecDepth 100000 in
set_option maxHeartbeats 1000000 in
theorem DeleteFunc_nil (fv : Value) (w : World) : Calls Try.prog 83 #[.slice none 0 0, fv] w fun e w' => e = .returned (.slice none 0 0) ∧ w' = w := by
  go_enter Try.func83, Try.ntmps83
  go_wp2_with fail
  refine (IndexFunc_nil fv w).mono ?_
  rintro e w' ⟨rfl, rfl⟩
  go_wp2
  go_ret
  exact ⟨rfl, rfl⟩
theorem Mc.probes {w : World} {mb tb sb n me : Nat} {L : List Ent} {Z : List Int} {ck : Int} {pv : Value} {last pg dare : Int} (h : Mc w mb tb sb n me L Z ck pv last pg dare) (v : Value) :
    Mc (w.setCell ⟨mb, 4, none⟩ v) mb tb sb n me L Z ck v last pg dare :=
  ⟨by rw [heap_set h.m]; rfl, by unfold Row; rw [heap_set_other h.mt]; exact h.t, by rw [heap_set_other h.ms]; exact h.s, h.ln, h.zn, h.mt, h.ms, h.ts⟩
set_option maxRecDepth 100000 in
set_option maxHeartbeats 1000000 in
theorem checkProbes_none {mb tb sb n me : Nat} {L : List Ent} {Z : List Int} {ck : Int} {last pg dare : Int} (draw : Int) (w : World) (h : Mc w mb tb sb n me L Z ck (.slice none 0 0) last pg dare) :
    Calls Try.prog 64 #[.pointer (some ⟨mb, 0, none⟩), .int .u64 draw] w fun e w' => e = .returned (.slice none 0 0) ∧ Mc w' mb tb sb n me L Z ck (.slice none 0 0) last pg dare ∧ Held [mb] w w' := by
  obtain ⟨w1, hw1⟩ : ∃ y, y = w.alloc (.cells #[.pointer (some ⟨mb, 0, none⟩)] 59) := ⟨_, rfl⟩
  have hb1 : Below w.heap.size w w1 := by rw [hw1]; exact (Below.refl _ _).alloc (Nat.le_refl _) _
  have hx : w1.heap[w.heap.size]? = some (.cells #[.pointer (some ⟨mb, 0, none⟩)] 59 (0, 0)) := by rw [hw1]; exact heap_new _ _
  have HB := hid hb1
  have HX := hid hx
  have HM := hid (h.below hb1)
  have hbp : w1.cell? ⟨w.heap.size, 0, none⟩ = some (.pointer (some ⟨mb, 0, none⟩)) := by rw [cell_of_heap hx]; rfl
  obtain ⟨c0, c1, c2, c3, c4, c5, c6, c7⟩ := mch_cells HM.out.m
  have f4 : w1.frozen? ⟨mb, 4, none⟩ = false := free_of_heap HM.out.m 4
  clear h hx hb1
  go_enter Try.func64, Try.ntmps64
  go_upto_region 1 with fail
  rw [← hw1]
  clear hw1
  go_wp2
  go_loopw [5, 16] (fun rv iv wr => rv = .slice none 0 0 ∧ iv = .int .i64 0 ∧ Hid (w1 = wr)) (fun _ iv _ => 0)
  case atStart => exact ⟨rfl, rfl, hid rfl⟩
  case round =>
    obtain ⟨rfl, rfl, HW⟩ := hrel
    obtain rfl := HW.out
    go_wp2_with fail
    refine region_quiet_tail 7 (by kernel_rfl) (by kernel_rfl) ?_
    simp only [List.take_succ_cons, List.take_zero, List.drop_succ_cons, List.drop_zero]
    repeat (go_big_quiet_step ((go_at_call 83; exact Calls.quiet_of_same (DeleteFunc_nil _ _))))
    refine wpQuiet_nil ?_
    intro nq
    have HM2 := hid ((HM.out.drewN nq).probes (.slice none 0 0))
    have HH2 := hid (((Held.of_below (S := [mb]) HB.out).drewN nq).setCell (p := ⟨mb, 4, none⟩) (by simp) (.slice none 0 0))
    go_wp2
    go_ret
    exact ⟨rfl, HM2.out, HH2.out⟩

set_option maxRecDepth 100000 in
set_option maxHeartbeats 1000000 in
theorem checkSuspects_none {mb tb sb n me : Nat} {L : List Ent} {Z : List Int} {ck : Int} {pv : Value} {last pg dare : Int} (w : World) (h : Mc w mb tb sb n me L Z ck pv last pg dare) (hn : n ≤ 16) (hs : ∀ i, ((gd L i).2 == 2) = false) :
    Calls Try.prog 65 #[.pointer (some ⟨mb, 0, none⟩)] w fun e w' => e = .returned (.tuple #[]) ∧ Below w.heap.size w w' := by
  obtain ⟨c0, c1, c2, c3, c4, c5, c6, c7⟩ := mch_cells h.m
  have HM := hid h
  have HS := hid hs
  have HW := hid (fun w' => SuspectWait_any (n : Int) w')
  clear h hs
  obtain ⟨z0, z1⟩ := pz_b (n : Int)
  generalize pz (n : Int) = z at *
  go_enter Try.func65, Try.ntmps65
  go_wp2_with fail
  refine (HW.out _).mono ?_
  rintro e w' ⟨rfl, rfl⟩
  go_wp2
  go_loopw [17] (fun iv wr => ∃ i : Nat, i ≤ n ∧ iv = .int .i64 i ∧ Hid (Below w'.heap.size w' wr)) (fun iv _ => n - (intOf iv).toNat)
  case atStart => exact ⟨0, by omega, rfl, hid (Below.refl _ _)⟩
  case round =>
    obtain ⟨i, hi, rfl, HB⟩ := hrel
    by_cases hlt : i < n
    · have hsz := HB.out.size
      have h2 := HS.out i
      obtain ⟨r0, r1⟩ := (HM.out.below HB.out).t.cells i (by have := HM.out.ln; omega)
      generalize (gd _ i).2 = st at *
      generalize (gd _ i).1 = ic at *
      clear c0 c1 c2 c3 c4 c5 c6 c7
      go_upto_region 4 with fail
      go_quiet (fail)
      have HK := hid (bel_drewN (HB.out.alloc hsz (.cells #[.int .u64 ic, .int .u8 st] 36)) nq)
      go_wp2
      exact ⟨⟨i + 1, by omega, by go_num, HK⟩, by simp [intOf]; omega⟩
    · obtain rfl : i = n := by omega
      go_wp2
      go_end0
      exact ⟨rfl, HB.out⟩
end Go.Proofs.Ytbdefmjjhkonjaa
