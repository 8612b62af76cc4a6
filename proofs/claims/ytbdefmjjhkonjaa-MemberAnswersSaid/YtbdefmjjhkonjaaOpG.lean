/-
  The given arguments of chapter 5: a message.
-/
import Derived.Test.YtbdefmjjhkonjaaOpM
import Derived.Test.YtbdefmjjhkonjaaMsg
namespace Go.Proofs.Ytbdefmjjhkonjaa
open Go Go.ChangeShapes Go.WideShapes Go.ChangeAt Go.RowKit
set_option linter.unusedVariables false

theorem seven (l : List Value) (h : l.length = 116) : ∃ c0 c1 c2 c3 c4 c5 c6 R, l = c0 :: c1 :: c2 :: c3 :: c4 :: c5 :: c6 :: R ∧ R.length = 109 := by
  match l, h with
  | c0 :: c1 :: c2 :: c3 :: c4 :: c5 :: c6 :: R, h => exact ⟨c0, c1, c2, c3, c4, c5, c6, R, rfl, by simpa using h⟩
section
variable {H : Type} {enc : TypeId × Value → H} {W : World}
/-- a message that came in -/
def MsgW (W : World) (v : Value) : Prop := ∃ (k f t s o g : Int) (a : Option Addr) (n c : Nat) (T : List Ent) (R : List Value), v = .agg (msg k f t s o g (.slice a n c) R).toArray ∧ R.length = 109 ∧ Tb W (.slice a n c) T
set_option maxRecDepth 100000 in
set_option maxHeartbeats 2000000 in
theorem open_msg {base : Nat} {v : Value} {d : DataW H} {p : List MemPlace} (hval : Value.okWide Try.prog W .any base 56 v) (h : DataW.Trod enc Try.prog W 0 (fun _ => true) true 56 v d p) : MsgW W v := by
  obtain ⟨cs, rfl, hsz⟩ := okWide_struct Try.underlying56 hval
  rw [show Try.prog.cellsOf 56 = 116 from by kernel_rfl] at hsz
  obtain ⟨l⟩ := cs
  obtain ⟨c0, c1, c2, c3, c4, c5, c6, R, rfl, hR⟩ := seven l hsz
  obtain ⟨fuel, hf⟩ := h
  obtain ⟨xs, n, rfl, _, _, hxl, hg⟩ := DataW.trod_struct Try.underlying56 hf
  have e1 : Try.prog.cellsOf 45 = 1 := by kernel_rfl
  have e2 : Try.prog.cellsOf 3 = 1 := by kernel_rfl
  have e3 : Try.prog.cellsOf 33 = 1 := by kernel_rfl
  have e4 : Try.prog.cellsOf 22 = 1 := by kernel_rfl
  have hx : 7 ≤ xs.length := by rw [hxl]; decide
  match xs, hx with
  | y0 :: y1 :: y2 :: y3 :: y4 :: y5 :: y6 :: ys, _ =>
  have g0 := hg 0 _ rfl
  have g1 := hg 1 _ rfl
  have g2 := hg 2 _ rfl
  have g3 := hg 3 _ rfl
  have g4 := hg 4 _ rfl
  have g5 := hg 5 _ rfl
  have g6 := hg 6 _ rfl
  simp [Value.cells, e1, e2, e3, e4] at g0 g1 g2 g3 g4 g5 g6
  obtain ⟨k, f0, _, _⟩ := DataW.trod_int Try.underlying45 g0
  obtain ⟨f, f1, _, _⟩ := DataW.trod_int Try.underlying3 g1
  obtain ⟨t, f2, _, _⟩ := DataW.trod_int Try.underlying3 g2
  obtain ⟨s, f3, _, _⟩ := DataW.trod_int Try.underlying33 g3
  obtain ⟨o, f4, _, _⟩ := DataW.trod_int Try.underlying3 g4
  obtain ⟨g, f5, _, _⟩ := DataW.trod_int Try.underlying3 g5
  obtain ⟨tv, f6, a, n', c, L, rfl, ht, _⟩ := open_tab g6
  simp only [List.cons.injEq, and_true] at f0 f1 f2 f3 f4 f5 f6
  exact ⟨k, f, t, s, o, g, a, n', c, L, R, by rw [f0, f1, f2, f3, f4, f5, f6]; rfl, hR, ht⟩
end
end Go.Proofs.Ytbdefmjjhkonjaa
