/-
  slices.Clone of bytes; Rank.
-/
import Derived.Test.YtfleplbdcpdphaaGj3
import Derived.Test.YtfleplbdcpdphaaLawM2
namespace Go.Proofs.Ytfleplbdcpdphaa
open Go Go.RowKit
set_option linter.unusedVariables false

set_option maxRecDepth 100000 in
set_option maxHeartbeats 1000000 in
theorem Clone_any (b o n cap : Nat) (l : List Nat) (w : World) (hb : Bs w (.slice (some ⟨b, o, none⟩) n cap) l) (h0 : 0 < n) (hn : n ≤ 1000000) :
    Calls Try.prog 105 #[.slice (some ⟨b, o, none⟩) n cap] w fun e w' => ∃ g c', w.heap.size ≤ g ∧ e = .returned (.slice (some ⟨g, 0, none⟩) n c') ∧ Buf w' g c' l ∧ Below w.heap.size w w' := by
  have HB := hid hb
  have hcmp : ∀ w : World, (binOp .eql 27 (.slice (some ⟨b, o, none⟩) n cap) (.slice none 0 0)).run Try.prog w = .ok (.bool false) w := fun w => by
    simp [binOp]
    rfl
  clear hb
  go_enter Try.func105, Try.ntmps105
  go_wp2_with (refine wpList_cloneB rfl (.tmp 5) (.tmp 6) rfl w.heap.size rfl (heap_new w _) _ n cap l rfl (HB.out.alloc _) (fun h => by cases h) (by omega) ?_)
  intro a' c' w3 hd3 hnc3 hlow3 hnil3 hk3 hown3
  obtain ⟨g, rfl, hWg, hB, hnn⟩ := buf_of_owns hown3 h0
  have hb3 : Below w.heap.size w w3 := ((Below.refl _ _).alloc (Nat.le_refl _) _).trans (hk3.below (by simp) (Nat.le_refl _))
  clear hd3 hlow3 hnil3 hown3 hnn hk3
  go_wp2
  go_ret
  exact ⟨g, c', hWg, rfl, hB, hb3⟩
theorem keep3h {w : World} {b : Nat} {x y z : Value} {t : TypeId} (h : w.heap[b]? = some (.cells #[x, y, z] t (0, 0))) :
    w.cell? ⟨b, 0, none⟩ = some x ∧ w.cell? ⟨b, 1, none⟩ = some y ∧ w.cell? ⟨b, 2, none⟩ = some z := by
  obtain ⟨a0, a1, a2, _, _, _⟩ := c3_of h
  exact ⟨a0, a1, a2⟩
theorem Buf.set3 {w : World} {g cap tb : Nat} {l : List Nat} (h : Buf w g cap l) (hne : tb ≠ g) (x y z : Value) : Buf (((w.setCell ⟨tb, 0, none⟩ x).setCell ⟨tb, 1, none⟩ y).setCell ⟨tb, 2, none⟩ z) g cap l :=
  h.of_same (set3_heap' w (fun e => hne e.symm) x y z)
where
  set3_heap' (w : World) {b tb : Nat} (hne : b ≠ tb) (x y z : Value) : (((w.setCell ⟨tb, 0, none⟩ x).setCell ⟨tb, 1, none⟩ y).setCell ⟨tb, 2, none⟩ z).heap[b]? = w.heap[b]? :=
    (Below.heap_setCell _ _ _ _ hne).trans ((Below.heap_setCell _ _ _ _ hne).trans (Below.heap_setCell _ _ _ _ hne))

set_option maxRecDepth 100000 in
set_option maxHeartbeats 2000000 in
theorem Rank_ok (fb R C n cap : Nat) (a : Option Addr) (M : Nat → Nat → Nat) (w : World) (hF : Fld w fb) (h1 : 1 ≤ R) (h2 : R ≤ 255) (h3 : 1 ≤ C) (h4 : C ≤ 255) (hn : n = R * C) (hMl : ∀ i j, M i j < 256) (hA : Bs w (.slice a n cap) (flat R C M)) (hoff : Off fb (.slice a n cap)) :
    Calls Try.prog 71 #[.pointer (some ⟨fb, 0, none⟩), .agg #[.int .i64 R, .int .i64 C, .slice a n cap]] w fun e w' => e = .returned (.tuple #[.int .i64 (gj R M C).2, .int .i64 0]) ∧ Built w' fb ∧ Kept fb w w' := by
  have hnot : ∀ (x : Bool) (w : World), (Op.unary .not (.bool x)).run Try.prog w = .ok (.bool (!x)) w := fun _ _ => rfl
  obtain ⟨ab, ao, rfl⟩ := hA.some (flat_ne h1 h3)
  have hn0 : 0 < n := by rw [hn]; exact Nat.mul_pos h1 h3
  have hn1 : n ≤ 65025 := by rw [hn]; exact Nat.mul_le_mul h2 h4
  obtain ⟨w1, hw1⟩ : ∃ w1, w1 = w.alloc (Obj.cells #[.int .i64 R, .int .i64 C, .slice (some ⟨ab, ao, none⟩) n cap] 52) := ⟨_, rfl⟩
  have hbel : Below w.heap.size w w1 := by rw [hw1]; exact (Below.refl _ _).alloc (Nat.le_refl _) _
  have h0 : w1.heap[w.heap.size]? = some (Obj.cells #[.int .i64 R, .int .i64 C, .slice (some ⟨ab, ao, none⟩) n cap] 52) := by rw [hw1]; exact heap_new _ _
  have hF1 : Fld w1 fb := by rw [hw1]; exact hF.alloc _
  have hfb := hF.lt
  have HA1 := hid (hA.below hbel)
  obtain ⟨c0, c1, c2, _, _, _⟩ := c3_of h0
  have H0 := hid h0
  have HF1 := hid hF1
  have HN := hid hn
  have HML := hid hMl
  clear h0 hF hF1 hA hn hMl
  go_enter Try.func71, Try.ntmps71
  go_wp2_with fail
  rw [← hw1]
  clear hw1
  refine (Valid_yes R C n _ cap h1 h2 h3 h4 HN.out _).mono ?_
  rintro e w2 ⟨rfl, hb2⟩
  have hF2 : Fld w2 fb := HF1.out.elim (fun h => .inl ((hb2.block _ HF1.out.lt).trans h)) (fun h => .inr ((hb2.block _ HF1.out.lt).trans h))
  have HA2 := hid (HA1.out.below hb2)
  have H2 := hid ((hb2.block _ (lt_of_heap H0.out)).trans H0.out)
  have HW2 := hid (hbel.trans (hb2.mono hbel.size))
  clear c0 c1 c2 hb2 hbel
  go_wp2_with fail
  refine (build_any fb _ hF2).mono ?_
  rintro e w3 ⟨rfl, hB3, hk3⟩
  have HA3 := hid (HA2.out.kept hk3 hoff)
  have H3 := hid ((hk3.block _ (lt_of_heap H2.out) (by omega)).trans H2.out)
  have HK3 := hid ((Kept.of_below HW2.out).trans hk3)
  have hlt3 := lt_of_heap H3.out
  have HB3 := hid hB3
  obtain ⟨c0, c1, c2⟩ := keep3h H3.out
  clear hF2 hk3 hB3
  go_wp2_with fail
  go_region_held3 (fun w' => w'.cell? ⟨w.heap.size, 0, none⟩ = some (.int .i64 R) ∧ w'.cell? ⟨w.heap.size, 1, none⟩ = some (.int .i64 C) ∧ w'.cell? ⟨w.heap.size, 2, none⟩ = some (.slice (some ⟨ab, ao, none⟩) n cap))
    (first | with_reducible exact keep3h H3.out | with_reducible exact keep3h (heap_alloc H3.out _) | with_reducible exact keep3h H4.out | with_reducible exact keep3h (heap_alloc H4.out _) | with_reducible exact keep3h (set3_at H4.out (Nat.ne_of_lt hlt3) _ _ _) | exact keep3h H3.out | exact keep3h (heap_alloc H3.out _))
    (first | (go_at_call 105
              refine (Clone_any ab ao n cap (flat R C M) _ (by first | exact HA3.out.drewN 1 | exact (HA3.out.drewN 1).alloc _) hn0 (by omega)).mono ?_
              rintro e w4 ⟨g, c', hg, rfl, hbuf4, hb4⟩
              first | have TT := hid ((hb4.block w3.heap.size (lt_alloc w3 _)).trans (heap_new w3 _)) | skip
              first | have hgt := Nat.ne_of_lt (Nat.lt_of_lt_of_le (lt_alloc w3 _) hg) | skip
              have hg : w3.heap.size ≤ g := by first | exact hg | (simp at hg; omega)
              have hb4 : Below w3.heap.size w3 w4 := by first | exact chainA hb4 | exact ((Below.refl _ _).alloc (Nat.le_refl _) _).trans ((chainA hb4).mono (by simp))
              have H4 := hid ((hb4.block _ hlt3).trans H3.out)
              first | (have t0 := (c3_of TT.out).c0; have t1 := (c3_of TT.out).c1; have t2 := (c3_of TT.out).c2; have u0 := (c3_of TT.out).f0; have u1 := (c3_of TT.out).f1; have u2 := (c3_of TT.out).f2) | skip))
  all_goals first
    | (have Z := hid (set3_self TT.out (.int .i64 R) (.int .i64 C) (.slice (some ⟨g, 0, none⟩) n c'))
       have V0 := hid (set3_at' TT.out H4.out (by omega) (.int .i64 R) (.int .i64 C) (.slice (some ⟨g, 0, none⟩) n c'))
       have VB := hid (hbuf4.set3 hgt (.int .i64 R) (.int .i64 C) (.slice (some ⟨g, 0, none⟩) n c'))
       have VF := hid (((((HB3.out.below hb4 HB3.out.lt).setCell (p := ⟨w3.heap.size, 0, none⟩) (by have := HB3.out.lt; show w3.heap.size ≠ fb; omega) (.int .i64 R)).setCell (p := ⟨w3.heap.size, 1, none⟩) (by have := HB3.out.lt; show w3.heap.size ≠ fb; omega) (.int .i64 C)).setCell (p := ⟨w3.heap.size, 2, none⟩) (by have := HB3.out.lt; show w3.heap.size ≠ fb; omega) (.slice (some ⟨g, 0, none⟩) n c')))
       have VK := hid (((((HK3.out.trans (Kept.of_below hb4)).setNew (p := ⟨w3.heap.size, 0, none⟩) (by have := HK3.out.size; exact this) (.int .i64 R)).setNew (p := ⟨w3.heap.size, 1, none⟩) (by have := HK3.out.size; exact this) (.int .i64 C)).setNew (p := ⟨w3.heap.size, 2, none⟩) (by have := HK3.out.size; exact this) (.slice (some ⟨g, 0, none⟩) n c'))))
    | (have Z := hid (heap_new w4 (Obj.cells #[.int .i64 R, .int .i64 C, .slice (some ⟨g, 0, none⟩) n c'] 52))
       have V0 := hid (heap_alloc H4.out (Obj.cells #[.int .i64 R, .int .i64 C, .slice (some ⟨g, 0, none⟩) n c'] 52))
       have VB := hid (hbuf4.below ((Below.refl _ _).alloc (Nat.le_refl _) (Obj.cells #[.int .i64 R, .int .i64 C, .slice (some ⟨g, 0, none⟩) n c'] 52)))
       have VF := hid ((HB3.out.below hb4 HB3.out.lt).alloc (Obj.cells #[.int .i64 R, .int .i64 C, .slice (some ⟨g, 0, none⟩) n c'] 52))
       have VK := hid ((HK3.out.trans (Kept.of_below hb4)).alloc (Obj.cells #[.int .i64 R, .int .i64 C, .slice (some ⟨g, 0, none⟩) n c'] 52)))
  all_goals
    clear hbuf4
    obtain ⟨e0, e1, e2⟩ := keep3h Z.out
    obtain ⟨y0, y1, y2⟩ := keep3h V0.out
    have hfl := HB3.out.lt
    have hks := HK3.out.size
    go_wp2_with fail
    refine (reduce_any fb R C C g n c' M _ VF.out VB.out (by omega) (by omega) h3 (by omega) (Nat.le_refl _) HN.out HML.out).mono ?_
    rintro e w9 ⟨rfl, hb9, hB9, hk9⟩
    go_wp2
    go_ret2
    refine ⟨rfl, hB9, ?_⟩
    have hk := VK.out
    exact ⟨hk9.os.trans hk.os, hk9.tape.trans hk.tape, hk9.output.trans hk.output, Nat.le_trans hk.size hk9.size, fun q hq hqb => (hk9.block q (Nat.lt_of_lt_of_le hq hk.size) (by omega)).trans (hk.block q hq hqb)⟩
end Go.Proofs.Ytfleplbdcpdphaa
