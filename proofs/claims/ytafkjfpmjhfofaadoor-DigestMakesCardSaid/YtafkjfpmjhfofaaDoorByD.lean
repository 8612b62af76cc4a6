/-
  The given arguments that are a slice of bytes, or a piece.
-/
import Derived.Test.YtafkjfpmjhfofaaDoorBytes
import Derived.WalkKit
import Derived.ProofKit
import Derived.OpenShut
import Derived.Deep.SlicePairs
namespace Go.Proofs.YtafkjfpmjhfofaaDoor
open Go.ChangeShapes Go.WideShapes Go.ChangeAt Go.RowKit
set_option linter.unusedVariables false

/-- a slice of bytes that came in -/
def ByD (W : World) (a : Option Addr) (n c : Nat) (l : List Nat) : Prop := Bs W (.slice a n c) l ∧ n ≤ c ∧ (a = none → c = 0)
theorem add_noneD (b o i : Nat) : (⟨b, o, none⟩ : Addr).add i = ⟨b, o + i, none⟩ := by unfold Addr.add; split <;> simp_all

section
variable {H : Type} {enc : TypeId × Value → H} {W : World}

theorem open_byD {fuel : Nat} {cs : List Value} {x : DataW H × List MemPlace} (h : DataW.trod enc Tryd.prog W 0 (fun _ => true) true fuel 22 cs = some x) : ∃ a n c l, cs = [.slice a n c] ∧ ByD W a n c l := by
  rcases open_ints Tryd.underlying22 Tryd.underlying5 (by kernel_rfl) h with ⟨hcs, _⟩ | ⟨a, l, c, zs, hcs, _, hl, hm, hz, _, hcell, hwz⟩
  · exact ⟨none, 0, 0, [], hcs, bs_nil W, Nat.le_refl _, fun _ => rfl⟩
  · exact ⟨some a, l, c, _, hcs, bs_of_ints hl (by simpa using hz) hcell hwz, hl, fun h => by cases h⟩


/-- a piece that came in -/
def PieceW (W : World) (v : Value) : Prop := ∃ (x : Int) (a : Option Addr) (n c : Nat) (l : List Nat), v = .agg #[.int .i64 x, .slice a n c] ∧ (Lit.int .i64 x).wf = true ∧ ByD W a n c l
set_option maxRecDepth 100000 in
theorem open_piece {base : Nat} {v : Value} {d : DataW H} {p : List MemPlace} (hval : Value.okWide Tryd.prog W .any base 43 v) (h : DataW.Trod enc Tryd.prog W 0 (fun _ => true) true 43 v d p) : PieceW W v := by
  obtain ⟨cs, rfl, hsz⟩ := okWide_struct Tryd.underlying43 hval
  rw [show Tryd.prog.cellsOf 43 = 2 from by kernel_rfl] at hsz
  obtain ⟨l⟩ := cs
  match l, hsz with
  | [c0, c1], _ =>
  obtain ⟨fuel, hf⟩ := h
  obtain ⟨xs, n, rfl, _, _, hxl, hg⟩ := DataW.trod_struct Tryd.underlying43 hf
  have e3 : Tryd.prog.cellsOf 3 = 1 := by kernel_rfl
  have e27 : Tryd.prog.cellsOf 22 = 1 := by kernel_rfl
  match xs, hxl with
  | [y0, y1], _ =>
  have g0 := hg 0 _ rfl
  have g1 := hg 1 _ rfl
  simp [Value.cells, e3, e27] at g0 g1
  obtain ⟨x, f0, _, w0⟩ := DataW.trod_int Tryd.underlying3 g0
  obtain ⟨a, n', c, l', f1, hd⟩ := open_byD g1
  simp only [List.cons.injEq, and_true] at f0 f1
  refine ⟨x, a, n', c, l', ?_, w0, hd⟩
  rw [f0, f1]
end
end Go.Proofs.YtafkjfpmjhfofaaDoor
