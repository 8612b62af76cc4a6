/-
  The walk of the law about rebuilding and consistency.
-/
import Derived.Test.YtbajekiliplclaaLawDe
import Derived.Test.YtbajekiliplclaaAgr
namespace Go.Proofs.Ytbajekiliplclaa
open Go Go.RowKit
set_option linter.unusedVariables false

/-- a bool and an error that a relation determines -/
def FlagRes (R : Bool → Int → Prop) (e : Ending) : Prop := ∃ r y, e = .returned (.tuple #[.bool r, .int .i64 y]) ∧ R r y
theorem BoolRes.flag {P : Prop} {e : Ending} (h : BoolRes P e) : FlagRes (fun r y => y = 0 ∧ (r = true ↔ P)) e := by
  obtain ⟨r, h1, h2⟩ := h
  exact ⟨r, 0, h1, rfl, h2⟩
theorem flag_det {P : Prop} {r r' : Bool} {y y' : Int} (h : y = 0 ∧ (r = true ↔ P)) (h' : y' = 0 ∧ (r' = true ↔ P)) : r = r' ∧ y = y' := by
  obtain ⟨rfl, h⟩ := h
  obtain ⟨rfl, h'⟩ := h'
  refine ⟨?_, rfl⟩
  rw [Bool.eq_iff_iff, h, h']
theorem fld_below {w w' : World} {fb : Nat} (h : Fld w fb) (k : Below w.heap.size w w') : Fld w' fb := h.elim (fun h => .inl ((k.block _ (lt_of_heap h)).trans h)) (fun h => .inr ((k.block _ (lt_of_heap h)).trans h))
theorem case_cells4 {w : World} {b : Nat} {cs : Array Value} {t : TypeId} (h : w.heap[b]? = some (.cells cs t (0, 0))) : w.cell? ⟨b, 0, none⟩ = cs[0]? ∧ w.cell? ⟨b, 1, none⟩ = cs[1]? ∧ w.cell? ⟨b, 3, none⟩ = cs[3]? ∧ w.cell? ⟨b, 10, none⟩ = cs[10]? := ⟨cell_of_heap h 0, cell_of_heap h 1, cell_of_heap h 3, cell_of_heap h 10⟩

set_option maxRecDepth 100000 in
set_option maxHeartbeats 4000000 in
theorem rebuilds_in (W : World) (K T S I : Int) (da oa ia pa : Option Addr) (dl dc ol oc il ic pl pc : Nat) (Wh At : Int) (M : Nat) (ps : List (Int × Sl)) (D : Nat → List Nat) (hp : Ps W (.slice pa pl pc) ps) (hD : ∀ i, (h : i < ps.length) → Bs W (.slice ps[i].2.1 ps[i].2.2.1 ps[i].2.2.2) (D i) ∧ (ps[i].2.1 = none → ps[i].2.2.2 = 0))
    (ix : Int) (m : Nat) (x : Int) (L : List Nat) (R : Bool → Int → Prop) (hR : ∀ r y r' y', R r y → R r' y' → r = r' ∧ y = y')
    (hg : K ≤ 60 ∨ ∀ w, Calls Try.prog 29 #[.int .i64 K, .int .i64 T] w fun e w' => e = .returned (.bool false) ∧ w = w')
    (hP : pl ≤ 60 → ∀ fb w a' c' qs, pidx qs = pidx ps → plen' qs = plen' ps → pl ≤ c' → Fld w fb → Held fb w (.slice a' pl c') qs D → Calls Try.prog 38 #[.pointer (some ⟨fb, 0, none⟩), .int .i64 K, .int .i64 T, .slice a' pl c', .int .i64 I] w fun e w' => PieceRes ix m x L e w' ∧ Fld w' fb ∧ Kept fb w w')
    (hQ : pl ≤ 60 → ∀ w, Below W.heap.size W w → Calls Try.prog 39 #[.int .i64 K, .int .i64 T, .slice pa pl pc, .int .i64 I] w fun e w' => PieceRes ix m x L e w' ∧ Below w.heap.size w w')
    (hP2 : pl ≤ 60 → ∀ fb w a' c' qs, pidx qs = pidx ps → plen' qs = plen' ps → pl ≤ c' → Fld w fb → Held fb w (.slice a' pl c') qs D → Calls Try.prog 40 #[.pointer (some ⟨fb, 0, none⟩), .int .i64 K, .int .i64 T, .slice a' pl c'] w fun e w' => FlagRes R e ∧ Kept fb w w')
    (hQ2 : pl ≤ 60 → ∀ w, Below W.heap.size W w → Calls Try.prog 41 #[.int .i64 K, .int .i64 T, .slice pa pl pc] w fun e w' => FlagRes R e ∧ Below w.heap.size w w') :
    Calls Try.prog 8 #[.agg #[.int .i64 K, .int .i64 T, .int .i64 S, .int .i64 I, .slice da dl dc, .slice oa ol oc, .slice ia il ic, .int .i64 Wh, .int .i64 At, .int .u8 M, .slice pa pl pc]] W fun e w' => e = .returned (.bool true) ∧ Below W.heap.size W w' := by
  have hnot : ∀ (x : Bool) (w : World), (Op.unary .not (.bool x)).run Try.prog w = .ok (.bool (!x)) w := fun _ _ => rfl
  obtain ⟨w1, hw1⟩ : ∃ w1, w1 = W.alloc (Obj.cells #[.int .i64 K, .int .i64 T, .int .i64 S, .int .i64 I, .slice da dl dc, .slice oa ol oc, .slice ia il ic, .int .i64 Wh, .int .i64 At, .int .u8 M, .slice pa pl pc] 39) := ⟨_, rfl⟩
  have hbel : Below W.heap.size W w1 := by rw [hw1]; exact (Below.refl _ _).alloc (Nat.le_refl _) _
  have g0 : w1.heap[W.heap.size]? = some (Obj.cells #[.int .i64 K, .int .i64 T, .int .i64 S, .int .i64 I, .slice da dl dc, .slice oa ol oc, .slice ia il ic, .int .i64 Wh, .int .i64 At, .int .u8 M, .slice pa pl pc] 39) := by rw [hw1]; exact heap_new _ _
  have x10 := cell_of_heap g0 10
  have HPS := hid hp
  have HD := hid hD
  have HP := hid hP
  have HQ := hid hQ
  have HP2 := hid hP2
  have HQ2 := hid hQ2
  have HRR := hid hR
  have HG := hid hg
  have HBEL := hid hbel
  have G0 := hid g0
  have hnp : pl = ps.length := by obtain ⟨_, _, h, _⟩ := hp; simp at h; exact h.2.1
  have HN := hid hnp
  clear hp hD hP hQ hP2 hQ2 hR hg hbel g0 hnp
  go_enter Try.func8, Try.ntmps8
  go_wp2_with fail
  rw [← hw1]
  clear hw1
  refine (mine_any pa pl pc ps D _ (HPS.out.below HBEL.out) (fun i h => ⟨(HD.out i h).1.below HBEL.out, (HD.out i h).2⟩)).mono ?_
  rintro e w2 (⟨v, qs, rfl, hmi, _, hn⟩ | ⟨rfl, hb2⟩)
  · obtain ⟨a', c', rfl, hcc, hqs, hqd⟩ := hmi.reads (fun i hi y hy => by
      have h5 := (HD.out i (by rw [← HN.out]; exact hi)).1
      obtain ⟨_, _, _, h6, _⟩ := h5
      exact h6 y hy)
    obtain ⟨f1, f2⟩ := hmi.fns HN.out
    have HF1 := hid f1
    have HF2 := hid f2
    have hb2 := hmi.below
    have hbw : Below W.heap.size W w2 := known_end HBEL.out hb2
    have HB2 := hid hbw
    have HQS := hid hqs
    have HQD := hid hqd
    have G2 := hid ((hb2.block _ (lt_of_heap G0.out)).trans G0.out)
    have hW2 := lt_of_heap G2.out
    clear x10 hmi hqs hqd f1 f2 hb2 hbw
    have x0 := cell_of_heap G2.out 0
    have x1 := cell_of_heap G2.out 1
    have x2 := cell_of_heap G2.out 2
    by_cases hk : K ≤ 60
    · have b1 : decide ((60 : Int) < K) = false := by simp; omega
      go_wp2_with fail
      refine (newField_ex _).mono ?_
      rintro e w3 ⟨fb, hfb, rfl, hfr, hb3⟩
      have HF3 := hid (show Fld w3 fb from .inl hfr)
      have HB3 := hid hb3
      have G3 := hid ((hb3.block _ hW2).trans G2.out)
      clear x0 x1 x2 hfr hb3
      obtain ⟨x0, x1, x3, x10⟩ := case_cells4 G3.out
      go_wp2_with fail
      refine (HP.out hn fb _ a' c' qs HF1.out HF2.out hcc HF3.out (held_of HQS.out HQD.out HB3.out hfb)).mono ?_
      rintro e w4 ⟨⟨ra, rc, rfl, hR4⟩, hF4, hk4⟩
      have hb4 : Below w2.heap.size w2 w4 := HB3.out.trans (hk4.below HB3.out.size hfb)
      have hb4' : Below w2.heap.size w2 (w4.alloc (Obj.cells #[.int .i64 ix, .slice ra m rc] 36)) := hb4.alloc hb4.size _
      have HB4 := hid hb4'
      have G4 := hid (heap_alloc ((hb4.block _ hW2).trans G2.out) (Obj.cells #[.int .i64 ix, .slice ra m rc] 36))
      have HR4 := hid (hR4.alloc (Obj.cells #[.int .i64 ix, .slice ra m rc] 36))
      have HF4 := hid (hF4.alloc (Obj.cells #[.int .i64 ix, .slice ra m rc] 36))
      have HX4 := hid (heap_new w4 (Obj.cells #[.int .i64 ix, .slice ra m rc] 36))
      have hwf := hF4.lt
      clear x0 x1 x3 x10 hR4 hF4 hk4 hb4 hb4'
      obtain ⟨x0, x1, x3, x10⟩ := case_cells4 G4.out
      go_wp2_with fail
      refine (HQ.out hn _ (known_end HB2.out HB4.out)).mono ?_
      rintro e w5 ⟨⟨ja, jc, rfl, hR5⟩, hb5⟩
      have hb5' : Below w2.heap.size w2 (w5.alloc (Obj.cells #[.int .i64 ix, .slice ja m jc] 36)) := (known_end HB4.out hb5).alloc (known_end HB4.out hb5).size _
      have HB5 := hid hb5'
      have G5 := hid (heap_alloc ((hb5.block _ (lt_of_heap G4.out)).trans G4.out) (Obj.cells #[.int .i64 ix, .slice ja m jc] 36))
      have HF5 := hid ((fld_below HF4.out hb5).alloc (Obj.cells #[.int .i64 ix, .slice ja m jc] 36))
      have hx5 := heap_alloc ((hb5.block _ (lt_of_heap HX4.out)).trans HX4.out) (Obj.cells #[.int .i64 ix, .slice ja m jc] 36)
      have hy5 := heap_new w5 (Obj.cells #[.int .i64 ix, .slice ja m jc] 36)
      have cv1 := conv_bs ((HR4.out.below hb5).alloc (Obj.cells #[.int .i64 ix, .slice ja m jc] 36))
      have cv2 := conv_bs (hR5.alloc (Obj.cells #[.int .i64 ix, .slice ja m jc] 36))
      obtain ⟨c0, c1, _, _⟩ := piece_free hx5 (Below.refl _ _) (lt_of_heap hx5)
      obtain ⟨d0, d1, _, _⟩ := piece_free hy5 (Below.refl _ _) (lt_of_heap hy5)
      clear x0 x1 x3 x10 hR5 hb5' hx5 hy5
      obtain ⟨x0, x1, x3, x10⟩ := case_cells4 G5.out
      go_wp2_with fail
      refine (HP2.out hn fb _ a' c' qs HF1.out HF2.out hcc HF5.out (held_of HQS.out HQD.out HB5.out hfb)).mono ?_
      rintro e w6 ⟨⟨r6, y6, rfl, hR6⟩, hk6⟩
      have hb6 : Below w2.heap.size w2 w6 := HB5.out.trans (hk6.below HB5.out.size hfb)
      have HB6 := hid hb6
      have G6 := hid ((hb6.block _ hW2).trans G2.out)
      clear x0 x1 x3 x10 c0 c1 d0 d1 cv1 cv2 hb5 hk6 hb6
      obtain ⟨x0, x1, x3, x10⟩ := case_cells4 G6.out
      go_wp2_with fail
      refine (HQ2.out hn _ (known_end HB2.out HB6.out)).mono ?_
      rintro e w7 ⟨⟨r7, y7, rfl, hR7⟩, hb7⟩
      obtain ⟨rfl, rfl⟩ := HRR.out _ _ _ _ hR6 hR7
      have HB7 := hid (known_end HB6.out hb7)
      have G7 := hid ((hb7.block _ (lt_of_heap G6.out)).trans G6.out)
      clear x0 x1 x3 x10 hR6 hR7 hb7
      obtain ⟨x0, x1, x3, x10⟩ := case_cells4 G7.out
      go_wp2_with fail
      refine (same_yes a' pa pl c' pc qs ps D _ (HQS.out.below HB7.out) (HPS.out.below (known_end HB2.out HB7.out)) (by omega) (fun i h h' => by rw [pidx_at, pidx_at, HF1.out]) (fun i h => (HQD.out i h).below HB7.out) (fun i h => (HD.out i h).1.below (known_end HB2.out HB7.out))).mono ?_
      rintro e w8 ⟨rfl, hb8⟩
      have HB8 := hid (known_end (known_end HB2.out HB7.out) hb8)
      clear x0 x1 x3 x10 hb8
      go_wp2_with fail
      refine (known_any _).mono ?_
      rintro e w9 ⟨rfl, hb9⟩
      go_wp2
      go_ret
      exact ⟨rfl, known_end HB8.out hb9⟩
    · have b1 : decide ((60 : Int) < K) = true := by simp; omega
      have HS := hid (HG.out.resolve_left hk)
      go_wp2_with fail
      refine (HS.out _).mono ?_
      rintro e w' ⟨rfl, rfl⟩
      go_wp2_with fail
      refine (newField_ex _).mono ?_
      rintro e w3 ⟨fb, hfb, rfl, hfr, hb3⟩
      have HF3 := hid (show Fld w3 fb from .inl hfr)
      have HB3 := hid hb3
      have G3 := hid ((hb3.block _ hW2).trans G2.out)
      clear x0 x1 x2 hfr hb3
      obtain ⟨x0, x1, x3, x10⟩ := case_cells4 G3.out
      go_wp2_with fail
      refine (HP.out hn fb _ a' c' qs HF1.out HF2.out hcc HF3.out (held_of HQS.out HQD.out HB3.out hfb)).mono ?_
      rintro e w4 ⟨⟨ra, rc, rfl, hR4⟩, hF4, hk4⟩
      have hb4 : Below w2.heap.size w2 w4 := HB3.out.trans (hk4.below HB3.out.size hfb)
      have hb4' : Below w2.heap.size w2 (w4.alloc (Obj.cells #[.int .i64 ix, .slice ra m rc] 36)) := hb4.alloc hb4.size _
      have HB4 := hid hb4'
      have G4 := hid (heap_alloc ((hb4.block _ hW2).trans G2.out) (Obj.cells #[.int .i64 ix, .slice ra m rc] 36))
      have HR4 := hid (hR4.alloc (Obj.cells #[.int .i64 ix, .slice ra m rc] 36))
      have HF4 := hid (hF4.alloc (Obj.cells #[.int .i64 ix, .slice ra m rc] 36))
      have HX4 := hid (heap_new w4 (Obj.cells #[.int .i64 ix, .slice ra m rc] 36))
      have hwf := hF4.lt
      clear x0 x1 x3 x10 hR4 hF4 hk4 hb4 hb4'
      obtain ⟨x0, x1, x3, x10⟩ := case_cells4 G4.out
      go_wp2_with fail
      refine (HQ.out hn _ (known_end HB2.out HB4.out)).mono ?_
      rintro e w5 ⟨⟨ja, jc, rfl, hR5⟩, hb5⟩
      have hb5' : Below w2.heap.size w2 (w5.alloc (Obj.cells #[.int .i64 ix, .slice ja m jc] 36)) := (known_end HB4.out hb5).alloc (known_end HB4.out hb5).size _
      have HB5 := hid hb5'
      have G5 := hid (heap_alloc ((hb5.block _ (lt_of_heap G4.out)).trans G4.out) (Obj.cells #[.int .i64 ix, .slice ja m jc] 36))
      have HF5 := hid ((fld_below HF4.out hb5).alloc (Obj.cells #[.int .i64 ix, .slice ja m jc] 36))
      have hx5 := heap_alloc ((hb5.block _ (lt_of_heap HX4.out)).trans HX4.out) (Obj.cells #[.int .i64 ix, .slice ja m jc] 36)
      have hy5 := heap_new w5 (Obj.cells #[.int .i64 ix, .slice ja m jc] 36)
      have cv1 := conv_bs ((HR4.out.below hb5).alloc (Obj.cells #[.int .i64 ix, .slice ja m jc] 36))
      have cv2 := conv_bs (hR5.alloc (Obj.cells #[.int .i64 ix, .slice ja m jc] 36))
      obtain ⟨c0, c1, _, _⟩ := piece_free hx5 (Below.refl _ _) (lt_of_heap hx5)
      obtain ⟨d0, d1, _, _⟩ := piece_free hy5 (Below.refl _ _) (lt_of_heap hy5)
      clear x0 x1 x3 x10 hR5 hb5' hx5 hy5
      obtain ⟨x0, x1, x3, x10⟩ := case_cells4 G5.out
      go_wp2_with fail
      refine (HP2.out hn fb _ a' c' qs HF1.out HF2.out hcc HF5.out (held_of HQS.out HQD.out HB5.out hfb)).mono ?_
      rintro e w6 ⟨⟨r6, y6, rfl, hR6⟩, hk6⟩
      have hb6 : Below w2.heap.size w2 w6 := HB5.out.trans (hk6.below HB5.out.size hfb)
      have HB6 := hid hb6
      have G6 := hid ((hb6.block _ hW2).trans G2.out)
      clear x0 x1 x3 x10 c0 c1 d0 d1 cv1 cv2 hb5 hk6 hb6
      obtain ⟨x0, x1, x3, x10⟩ := case_cells4 G6.out
      go_wp2_with fail
      refine (HQ2.out hn _ (known_end HB2.out HB6.out)).mono ?_
      rintro e w7 ⟨⟨r7, y7, rfl, hR7⟩, hb7⟩
      obtain ⟨rfl, rfl⟩ := HRR.out _ _ _ _ hR6 hR7
      have HB7 := hid (known_end HB6.out hb7)
      have G7 := hid ((hb7.block _ (lt_of_heap G6.out)).trans G6.out)
      clear x0 x1 x3 x10 hR6 hR7 hb7
      obtain ⟨x0, x1, x3, x10⟩ := case_cells4 G7.out
      go_wp2_with fail
      refine (same_yes a' pa pl c' pc qs ps D _ (HQS.out.below HB7.out) (HPS.out.below (known_end HB2.out HB7.out)) (by omega) (fun i h h' => by rw [pidx_at, pidx_at, HF1.out]) (fun i h => (HQD.out i h).below HB7.out) (fun i h => (HD.out i h).1.below (known_end HB2.out HB7.out))).mono ?_
      rintro e w8 ⟨rfl, hb8⟩
      have HB8 := hid (known_end (known_end HB2.out HB7.out) hb8)
      clear x0 x1 x3 x10 hb8
      go_wp2_with fail
      refine (known_any _).mono ?_
      rintro e w9 ⟨rfl, hb9⟩
      go_wp2
      go_ret
      exact ⟨rfl, known_end HB8.out hb9⟩
  · go_wp2_with fail
    refine (known_any _).mono ?_
    rintro e w4 ⟨rfl, hb4⟩
    go_wp2
    go_ret
    exact ⟨rfl, known_end (known_end HBEL.out hb2) hb4⟩
set_option maxRecDepth 100000 in
theorem rebuilds_known (W : World) (K T S I : Int) (da oa ia pa : Option Addr) (dl dc ol oc il ic pl pc : Nat) (Wh At : Int) (M : Nat) (ps : List (Int × Sl)) (D : Nat → List Nat) (hp : Ps W (.slice pa pl pc) ps) (hD : ∀ i, (h : i < ps.length) → Bs W (.slice ps[i].2.1 ps[i].2.2.1 ps[i].2.2.2) (D i) ∧ (ps[i].2.1 = none → ps[i].2.2.2 = 0))
    (hk : 60 < K) (hg : ∀ w, Calls Try.prog 29 #[.int .i64 K, .int .i64 T] w fun e w' => e = .returned (.bool true) ∧ w = w') :
    Calls Try.prog 8 #[.agg #[.int .i64 K, .int .i64 T, .int .i64 S, .int .i64 I, .slice da dl dc, .slice oa ol oc, .slice ia il ic, .int .i64 Wh, .int .i64 At, .int .u8 M, .slice pa pl pc]] W fun e w' => e = .returned (.bool true) ∧ Below W.heap.size W w' := by
  have hnot : ∀ (x : Bool) (w : World), (Op.unary .not (.bool x)).run Try.prog w = .ok (.bool (!x)) w := fun _ _ => rfl
  obtain ⟨w1, hw1⟩ : ∃ w1, w1 = W.alloc (Obj.cells #[.int .i64 K, .int .i64 T, .int .i64 S, .int .i64 I, .slice da dl dc, .slice oa ol oc, .slice ia il ic, .int .i64 Wh, .int .i64 At, .int .u8 M, .slice pa pl pc] 39) := ⟨_, rfl⟩
  have hbel : Below W.heap.size W w1 := by rw [hw1]; exact (Below.refl _ _).alloc (Nat.le_refl _) _
  have g0 : w1.heap[W.heap.size]? = some (Obj.cells #[.int .i64 K, .int .i64 T, .int .i64 S, .int .i64 I, .slice da dl dc, .slice oa ol oc, .slice ia il ic, .int .i64 Wh, .int .i64 At, .int .u8 M, .slice pa pl pc] 39) := by rw [hw1]; exact heap_new _ _
  have x10 := cell_of_heap g0 10
  have HPS := hid hp
  have HD := hid hD
  have HG := hid hg
  have HBEL := hid hbel
  have G0 := hid g0
  have b1 : decide ((60 : Int) < K) = true := by simpa using hk
  clear hp hD hg hbel g0
  go_enter Try.func8, Try.ntmps8
  go_wp2_with fail
  rw [← hw1]
  clear hw1
  refine (mine_any pa pl pc ps D _ (HPS.out.below HBEL.out) (fun i h => ⟨(HD.out i h).1.below HBEL.out, (HD.out i h).2⟩)).mono ?_
  rintro e w2 (⟨v, qs, rfl, hmi, _, hn⟩ | ⟨rfl, hb2⟩)
  · have hb2 := hmi.below
    have G2 := hid ((hb2.block _ (lt_of_heap G0.out)).trans G0.out)
    clear x10 hmi
    have x0 := cell_of_heap G2.out 0
    have x1 := cell_of_heap G2.out 1
    go_wp2_with fail
    refine (HG.out _).mono ?_
    rintro e w' ⟨rfl, rfl⟩
    go_wp2_with fail
    refine (known_any _).mono ?_
    rintro e w4 ⟨rfl, hb4⟩
    go_wp2
    go_ret
    exact ⟨rfl, known_end (known_end HBEL.out hb2) hb4⟩
  · go_wp2_with fail
    refine (known_any _).mono ?_
    rintro e w4 ⟨rfl, hb4⟩
    go_wp2
    go_ret
    exact ⟨rfl, known_end (known_end HBEL.out hb2) hb4⟩


theorem alikeE_fn {qs ps : List (Int × Sl)} (h : plen' qs = plen' ps) : alikeE qs = alikeE ps := by
  funext i
  unfold alikeE
  rw [h]
theorem mixA_fn {qs ps : List (Int × Sl)} (h : pidx qs = pidx ps) (D : Nat → List Nat) (k L i : Nat) : mixA D qs k L i = mixA D ps k L i := by
  unfold mixA
  rw [places_fn h, h]
theorem reb_exists (W : World) (K T : Int) (pa : Option Addr) (pl pc : Nat) (ps : List (Int × Sl)) (D : Nat → List Nat) (hp : Ps W (.slice pa pl pc) ps) (hD : ∀ i, (h : i < ps.length) → Bs W (.slice ps[i].2.1 ps[i].2.2.1 ps[i].2.2.2) (D i)) (hpc : pl ≤ pc) (I : Int) : ∃ ix m x L, (pl ≤ 60 → ∀ fb w a' c' qs, pidx qs = pidx ps → plen' qs = plen' ps → pl ≤ c' → Fld w fb → Held fb w (.slice a' pl c') qs D → Calls Try.prog 38 #[.pointer (some ⟨fb, 0, none⟩), .int .i64 K, .int .i64 T, .slice a' pl c', .int .i64 I] w fun e w' => PieceRes ix m x L e w' ∧ Fld w' fb ∧ Kept fb w w') ∧ (pl ≤ 60 → ∀ w, Below W.heap.size W w → Calls Try.prog 39 #[.int .i64 K, .int .i64 T, .slice pa pl pc, .int .i64 I] w fun e w' => PieceRes ix m x L e w' ∧ Below w.heap.size w w') := by
  by_cases hs : 1 ≤ K ∧ K ≤ T ∧ T ≤ 255 ∧ 0 ≤ I ∧ I < T
  · obtain ⟨h1, h2, h3, h4, h5⟩ := hs
    obtain ⟨k, rfl⟩ : ∃ n : Nat, K = n := ⟨K.toNat, by omega⟩
    obtain ⟨t, rfl⟩ : ∃ n : Nat, T = n := ⟨T.toNat, by omega⟩
    obtain ⟨i, rfl⟩ : ∃ n : Nat, I = n := ⟨I.toNat, by omega⟩
    by_cases he : chkAll k t (pidx ps) (alikeE ps) pl = 0
    · refine ⟨i, plen' ps 0, 0, mixL ((List.range k).map D) (wts (places ps k) (scales (places ps k)) i) (plen' ps 0) k, fun hn fb w a' c' qs e1 e2 hcc hF hH => ?_, fun hn w hb => ?_⟩
      · have h6 := Rebuild_ok fb k t i a' pl c' qs D (by omega) (by omega) (by omega) (by omega) (by omega) hcc w hF hH (by rw [e1, alikeE_fn e2]; exact he)
        rw [places_fn e1, e2] at h6
        exact h6.mono fun e w' ⟨g1, g2, g3⟩ => ⟨g1, .inr g2, g3⟩
      · exact Again_ok k t i pa pl pc ps D (by omega) (by omega) (by omega) (by omega) (by omega) hpc w (hp.below hb) (fun i h => (hD i h).below hb) he
    · refine ⟨0, 0, chkAll k t (pidx ps) (alikeE ps) pl, [], fun hn fb w a' c' qs e1 e2 hcc hF hH => ?_, fun hn w hb => ?_⟩
      · exact (Rebuild_err fb k t i a' pl c' qs (by omega) (by omega) (by omega) (by omega) (by omega) w hH.now.1 _ (by rw [e1, alikeE_fn e2]) he).mono fun e w' ⟨g1, g2⟩ => ⟨g1, fld_below hF g2, Kept.of_below g2⟩
      · exact Again_err k t i pa pl pc ps (by omega) (by omega) (by omega) (by omega) (by omega) w (hp.below hb) _ rfl he
  · refine ⟨0, 0, 2, [], fun hn fb w a' c' qs e1 e2 hcc hF hH => ?_, fun hn w hb => ?_⟩
    · exact (Rebuild_size fb K T I a' pl c' hs w).mono fun e w' ⟨g1, g2⟩ => ⟨g1, fld_below hF g2, Kept.of_below g2⟩
    · exact Again_size K T I pa pl pc hs w
theorem con_exists (W : World) (K T : Int) (pa : Option Addr) (pl pc : Nat) (ps : List (Int × Sl)) (D : Nat → List Nat) (hp : Ps W (.slice pa pl pc) ps) (hD : ∀ i, (h : i < ps.length) → Bs W (.slice ps[i].2.1 ps[i].2.2.1 ps[i].2.2.2) (D i)) (hpc : pl ≤ pc) : ∃ R : Bool → Int → Prop, (∀ r y r' y', R r y → R r' y' → r = r' ∧ y = y') ∧ (pl ≤ 60 → ∀ fb w a' c' qs, pidx qs = pidx ps → plen' qs = plen' ps → pl ≤ c' → Fld w fb → Held fb w (.slice a' pl c') qs D → Calls Try.prog 40 #[.pointer (some ⟨fb, 0, none⟩), .int .i64 K, .int .i64 T, .slice a' pl c'] w fun e w' => FlagRes R e ∧ Kept fb w w') ∧ (pl ≤ 60 → ∀ w, Below W.heap.size W w → Calls Try.prog 41 #[.int .i64 K, .int .i64 T, .slice pa pl pc] w fun e w' => FlagRes R e ∧ Below w.heap.size w w') := by
  by_cases hs : 1 ≤ K ∧ K ≤ T ∧ T ≤ 255
  · obtain ⟨h1, h2, h3⟩ := hs
    obtain ⟨k, rfl⟩ : ∃ n : Nat, K = n := ⟨K.toNat, by omega⟩
    obtain ⟨t, rfl⟩ : ∃ n : Nat, T = n := ⟨T.toNat, by omega⟩
    by_cases he : chkAll k t (pidx ps) (alikeE ps) pl = 0
    · refine ⟨fun r y => y = 0 ∧ (r = true ↔ ∀ i, k ≤ i → i < pl → mixA D ps k (plen' ps 0) i = D i), fun r y r' y' h h' => flag_det h h', fun hn fb w a' c' qs e1 e2 hcc hF hH => ?_, fun hn w hb => ?_⟩
      · have h6 := Consistent_ok fb k t a' pl c' qs D (by omega) (by omega) (by omega) (by omega) hcc w hF hH (by rw [e1, alikeE_fn e2]; exact he)
        refine h6.mono fun e w' ⟨g1, g2, g3⟩ => ⟨?_, g3⟩
        have g4 := g1.flag
        simp only [mixA_fn e1, e2] at g4
        exact g4
      · exact (Agree_ok k t pa pl pc ps D (by omega) (by omega) (by omega) (by omega) hpc w (hp.below hb) (fun i h => (hD i h).below hb) he).mono fun e w' ⟨g1, g2⟩ => ⟨g1.flag, g2⟩
    · refine ⟨fun r y => r = false ∧ y = chkAll k t (pidx ps) (alikeE ps) pl, fun r y r' y' h h' => ⟨h.1.trans h'.1.symm, h.2.trans h'.2.symm⟩, fun hn fb w a' c' qs e1 e2 hcc hF hH => ?_, fun hn w hb => ?_⟩
      · exact (Consistent_err fb k t a' pl c' qs (by omega) (by omega) (by omega) (by omega) w hH.now.1 _ (by rw [e1, alikeE_fn e2]) he).mono fun e w' ⟨g1, g2⟩ => ⟨⟨_, _, g1, rfl, rfl⟩, Kept.of_below g2⟩
      · exact (Agree_err k t pa pl pc ps (by omega) (by omega) (by omega) (by omega) w (hp.below hb) _ rfl he).mono fun e w' ⟨g1, g2⟩ => ⟨⟨_, _, g1, rfl, rfl⟩, g2⟩
  · refine ⟨fun r y => r = false ∧ y = 2, fun r y r' y' h h' => ⟨h.1.trans h'.1.symm, h.2.trans h'.2.symm⟩, fun hn fb w a' c' qs e1 e2 hcc hF hH => ?_, fun hn w hb => ?_⟩
    · exact (Consistent_size fb K T a' pl c' hs w).mono fun e w' ⟨g1, g2⟩ => ⟨⟨_, _, g1, rfl, rfl⟩, g2 ▸ Kept.refl _ _⟩
    · exact (Agree_size K T pa pl pc hs w).mono fun e w' ⟨g1, g2⟩ => ⟨⟨_, _, g1, rfl, rfl⟩, g2 ▸ Below.refl _ _⟩
theorem rebuilds_walk (W : World) (v0 : Value) (hv0 : CaseW W v0) :
    Calls Try.prog 8 #[v0] W fun e w' => e = .returned (.bool true) ∧ Below W.heap.size W w' := by
  obtain ⟨K, T, S, I, da, oa, ia, pa, dl, dc, ol, oc, il, ic, pl, pc, ld, lo, li, Wh, At, M, ps, D, hc⟩ := hv0
  obtain ⟨rfl, _, _, _, _, hp, hpc, _, hD0⟩ := hc
  have hD : ∀ i, (h : i < ps.length) → Bs W (.slice ps[i].2.1 ps[i].2.2.1 ps[i].2.2.2) (D i) ∧ (ps[i].2.1 = none → ps[i].2.2.2 = 0) := fun i h => ⟨(hD0 i h).2.1, (hD0 i h).2.2.2⟩
  by_cases hk : 60 < K ∧ 1 ≤ K ∧ K ≤ T ∧ T ≤ 255
  · exact rebuilds_known W K T S I da oa ia pa dl dc ol oc il ic pl pc Wh At M ps D hp hD hk.1 (fun w => rsizes_yes K T hk.2.1 hk.2.2.1 hk.2.2.2 w)
  · have hg : K ≤ 60 ∨ ∀ w, Calls Try.prog 29 #[.int .i64 K, .int .i64 T] w fun e w' => e = .returned (.bool false) ∧ w = w' := by
      by_cases h : K ≤ 60
      · exact .inl h
      · exact .inr fun w => rsizes_no K T (fun hs => hk ⟨by omega, hs⟩) w
    obtain ⟨ix, m, x, L, g1, g2⟩ := reb_exists W K T pa pl pc ps D hp (fun i h => (hD i h).1) hpc I
    obtain ⟨R, g3, g4, g5⟩ := con_exists W K T pa pl pc ps D hp (fun i h => (hD i h).1) hpc
    exact rebuilds_in W K T S I da oa ia pa dl dc ol oc il ic pl pc Wh At M ps D hp hD ix m x L R g3 hg g1 g2 g4 g5
end Go.Proofs.Ytbajekiliplclaa
