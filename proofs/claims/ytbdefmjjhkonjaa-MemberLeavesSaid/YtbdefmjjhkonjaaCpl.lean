/-
  complete, of one message.
-/
import Derived.Test.YtbdefmjjhkonjaaMsg
import Derived.Test.YtbdefmjjhkonjaaCln
namespace Go.Proofs.Ytbdefmjjhkonjaa
open Go Go.RowKit
set_option linter.unusedVariables false

theorem Mc.held {w w' : World} {S : List Nat} {mb tb sb n me : Nat} {L : List Ent} {Z : List Int} {ck : Int} {pv : Value} {last pg dare : Int} (h : Mc w mb tb sb n me L Z ck pv last pg dare) (k : Held S w w') (h1 : mb ∉ S) (h2 : tb ∉ S) (h3 : sb ∉ S) : Mc w' mb tb sb n me L Z ck pv last pg dare :=
  ⟨k.heap h.m h1, k.heap h.t h2, k.heap h.s h3, h.ln, h.zn, h.mt, h.ms, h.ts⟩
/-- a message at the head of block g -/
def MsgAt (w : World) (g : Nat) (k f t s o gg : Int) (tv : Value) (R : List Value) : Prop := ∃ cur T, w.heap[g]? = some (.cells cur T (0, 0)) ∧ cur.toList.take (7 + R.length) = msg k f t s o gg tv R
theorem MsgAt.lt {w : World} {g : Nat} {k f t s o gg : Int} {tv : Value} {R : List Value} (h : MsgAt w g k f t s o gg tv R) : g < w.heap.size := by
  obtain ⟨cur, T, h1, _⟩ := h
  exact lt_of_heap h1
theorem MsgAt.get {w : World} {g : Nat} {k f t s o gg : Int} {tv : Value} {R : List Value} (h : MsgAt w g k f t s o gg tv R) (j : Nat) (hj : j < 7 + R.length) : w.cell? ⟨g, j, none⟩ = (msg k f t s o gg tv R)[j]? := by
  obtain ⟨cur, T, h1, h2⟩ := h
  rw [cell_of_heap h1, ← h2, List.getElem?_take_of_lt hj]
  simp
theorem MsgAt.cells {w : World} {g : Nat} {k f t s o gg : Int} {tv : Value} {R : List Value} (h : MsgAt w g k f t s o gg tv R) :
    w.cell? ⟨g, 0, none⟩ = some (.int .u8 k) ∧ w.cell? ⟨g, 1, none⟩ = some (.int .i64 f) ∧ w.cell? ⟨g, 2, none⟩ = some (.int .i64 t) ∧ w.cell? ⟨g, 3, none⟩ = some (.int .u64 s) ∧ w.cell? ⟨g, 4, none⟩ = some (.int .i64 o) ∧ w.cell? ⟨g, 5, none⟩ = some (.int .i64 gg) ∧ w.cell? ⟨g, 6, none⟩ = some tv := by
  refine ⟨?_, ?_, ?_, ?_, ?_, ?_, ?_⟩ <;> rw [h.get _ (by omega)] <;> rfl
theorem MsgAt.free {w : World} {g : Nat} {k f t s o gg : Int} {tv : Value} {R : List Value} (h : MsgAt w g k f t s o gg tv R) (j : Nat) : w.frozen? ⟨g, j, none⟩ = false := by
  obtain ⟨cur, T, h1, _⟩ := h
  exact free_of_heap h1 j
theorem MsgAt.from {w : World} {g : Nat} {k f t s o gg : Int} {tv : Value} {R : List Value} (h : MsgAt w g k f t s o gg tv R) (f' : Int) : MsgAt (w.setCell ⟨g, 1, none⟩ (.int .i64 f')) g k f' t s o gg tv R := by
  obtain ⟨cur, T, h1, h2⟩ := h
  refine ⟨_, T, heap_set h1 1 _, ?_⟩
  rw [Array.toList_setIfInBounds, List.take_set, h2]
  rfl
theorem MsgAt.table {w : World} {g : Nat} {k f t s o gg : Int} {tv : Value} {R : List Value} (h : MsgAt w g k f t s o gg tv R) (v : Value) : MsgAt (w.setCell ⟨g, 6, none⟩ v) g k f t s o gg v R := by
  obtain ⟨cur, T, h1, h2⟩ := h
  refine ⟨_, T, heap_set h1 6 _, ?_⟩
  rw [Array.toList_setIfInBounds, List.take_set, h2]
  rfl
theorem MsgAt.same {w w' : World} {g : Nat} {k f t s o gg : Int} {tv : Value} {R : List Value} (h : MsgAt w g k f t s o gg tv R) (e : w'.heap[g]? = w.heap[g]?) : MsgAt w' g k f t s o gg tv R := by
  obtain ⟨cur, T, h1, h2⟩ := h
  exact ⟨cur, T, e.trans h1, h2⟩

theorem owns_ge {w : World} {base n s : Nat} {e : TypeId} {v : Value} {xs : List Value} (h : w.ownsRow base e s v n xs) (g : Nat) (hg : some g = v.ownBlock) : base ≤ g := by
  rcases h.2 with ⟨rfl, _⟩ | ⟨g', cap, cur, rfl, h4, _⟩
  · cases hg
  · simp only [Value.ownBlock, Option.some.injEq] at hg
    omega
theorem owns_one {w : World} {base n s : Nat} {e : TypeId} {v : Value} {xs : List Value} (h : w.ownsRow base e s v n xs) : v.oneCell' = true := by
  rcases h.2 with ⟨rfl, _⟩ | ⟨g', cap, cur, rfl, _⟩ <;> rfl
theorem owns_other {w : World} {base n s : Nat} {e : TypeId} {v : Value} {xs : List Value} (h : w.ownsRow base e s v n xs) {p : Addr} (hp : some p.block ≠ v.ownBlock) (u : Value) : (w.setCell p u).ownsRow base e s v n xs := by
  obtain ⟨h1, h2⟩ := h
  refine ⟨h1, h2.imp id fun ⟨g, cap, cur, h3, h4, h5, r⟩ => ⟨g, cap, cur, h3, h4, ?_, r⟩⟩
  subst h3
  exact (heap_set_other (fun e => hp (by simp [Value.ownBlock, e])) u).trans h5

set_option maxRecDepth 100000 in
set_option maxHeartbeats 1000000 in
theorem complete_one {mb tb sb n me : Nat} {L : List Ent} {Z : List Int} {ck : Int} {pv : Value} {last pg dare : Int} (g c : Nat) (k f t s o gg : Int) (tv : Value) (R : List Value) (w : World) (h : Mc w mb tb sb n me L Z ck pv last pg dare)
    (hM : MsgAt w g k f t s o gg tv R) (h1 : g ≠ mb) (h2 : g ≠ tb) (h3 : g ≠ sb) (h0 : 0 < n) (hn : n ≤ 16) :
    Calls Try.prog 66 #[.pointer (some ⟨mb, 0, none⟩), .slice (some ⟨g, 0, none⟩) 1 c] w fun e w' => ∃ v, e = .returned (.slice (some ⟨g, 0, none⟩) 1 c) ∧ MsgAt w' g k me t s o gg v R ∧ w'.ownsRow w.heap.size 36 2 v n (ecl L) ∧ Held [g] w w' := by
  have HM := hid h
  have HG := hid hM
  have hgl := hM.lt
  clear h hM
  go_enter Try.func66, Try.ntmps66
  go_wp2
  go_loopw [8] (fun iv wr => ∃ i : Nat, i ≤ 1 ∧ iv = .int .i64 i ∧ Hid (i = 0 → w = wr) ∧ Hid (i = 1 → ∃ v, MsgAt wr g k me t s o gg v R ∧ wr.ownsRow w.heap.size 36 2 v n (ecl L) ∧ Held [g] w wr)) (fun iv _ => 1 - (intOf iv).toNat)
  case atStart => exact ⟨0, by omega, rfl, hid (fun _ => rfl), hid (fun h => by omega)⟩
  case round =>
    obtain ⟨i, hi, rfl, H0, H1⟩ := hrel
    by_cases hlt : i < 1
    · obtain rfl : i = 0 := by omega
      obtain rfl := H0.out rfl
      clear H0 H1
      obtain ⟨c0, c1, c2, c3, c4, c5, c6, c7⟩ := mch_cells HM.out.m
      obtain ⟨x0, x1, x2, x3, x4, x5, x6⟩ := HG.out.cells
      have f1 := HG.out.free 1
      have HM1 := hid (HM.out.held ((Held.refl [g] w).setCell (p := ⟨g, 1, none⟩) (by simp) (.int .i64 me)) (by simpa using fun e => h1 e.symm) (by simpa using fun e => h2 e.symm) (by simpa using fun e => h3 e.symm))
      have HG1 := hid (HG.out.from me)
      have HH1 := hid ((Held.refl [g] w).setCell (p := ⟨g, 1, none⟩) (by simp) (.int .i64 me))
      go_upto_region 5 with fail
      obtain ⟨w1, hw1⟩ : ∃ y, y = w.setCell ⟨g, 1, none⟩ (.int .i64 me) := ⟨_, rfl⟩
      rw [← hw1] at HM1 HG1 HH1 ⊢
      have hsz : w1.heap.size = w.heap.size := by rw [hw1]; simp
      clear hw1 c0 c1 c2 c3 c4 c5 c6 c7 x0 x1 x2 x3 x4 x5 x6 f1
      obtain ⟨c0, c1, c2, c3, c4, c5, c6, c7⟩ := mch_cells HM1.out.m
      have HC := hid (Clone_any ⟨tb, 0, none⟩ n n L w1 (by have := HM1.out.t.tb n (by have := HM1.out.ln; omega); rw [HM1.out.ln] at this; exact this) (by omega))
      go_wp2_with fail
      refine HC.out.mono ?_
      rintro e w2 ⟨v, rfl, hov, hb2⟩
      rw [hsz] at hov
      have HG2 := hid (HG1.out.same (hb2.block _ HG1.out.lt))
      obtain ⟨x0, x1, x2, x3, x4, x5, x6⟩ := HG2.out.cells
      have f6 := HG2.out.free 6
      have HG3 := hid (HG2.out.table v)
      have HH3 := hid ((HH1.out.trans (Held.of_below hb2)).setCell (p := ⟨g, 6, none⟩) (by simp) v)
      have HO3 := hid (show (w2.setCell ⟨g, 6, none⟩ v).ownsRow w.heap.size 36 2 v n (ecl L) from owns_other hov (p := ⟨g, 6, none⟩) (fun e => by have := owns_ge hov g e; have := HG.out.lt; omega) v)
      obtain ⟨vb, vc, rfl, _, _⟩ := hov.form h0
      clear c0 c1 c2 c3 c4 c5 c6 c7 hov hb2 hsz
      go_wp2
      exact ⟨⟨1, by omega, by go_num, hid (fun h => by omega), hid (fun _ => ⟨_, HG3.out, HO3.out, HH3.out⟩)⟩, by simp [intOf]⟩
    · obtain rfl : i = 1 := by omega
      go_wp2
      go_ret
      exact ⟨rfl, H1.out trivial⟩
end Go.Proofs.Ytbdefmjjhkonjaa
