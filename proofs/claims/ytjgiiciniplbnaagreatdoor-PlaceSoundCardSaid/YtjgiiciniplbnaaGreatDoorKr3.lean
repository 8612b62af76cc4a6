/-
  The structs that the laws of place take as arguments, opened. · Manifest of a nil Gather; an offer that came in. · Piece and Manifest of a Gather that has pieces. · Manifest of a Gather without pieces. · Lists of pieces that are made: what owns them, and the step of an append. · A Gather as a whole: its manifest, its pieces and their bytes (GsAt), and what keeps it. · Offer to a Gather as a whole (Gs_offer). · The other methods of a Gather as a whole: Manifest, Data, Piece, Indices, Ready. · The offers that came in (PlaceSound). · A piece that a Gather takes, and a Gather that holds chosen pieces of one object (PlaceRestores). · index of the laws: a number brought into a range. · An append to an empty new row, as a region's step. · A law's call of Make: the steps of its region, and what they leave. · A law's call of Make: what its region leaves, whatever Make answers.
-/
import Derived.Test.YtjgiiciniplbnaaGreatDoorKa6
import Derived.Test.YtjgiiciniplbnaaGreatDoorKa7
import Derived.Test.YtjgiiciniplbnaaGreatDoorKr1
import Derived.Test.YtjgiiciniplbnaaGreatDoorKr2
import Derived.Test.YtjgiiciniplbnaaGreatDoorKa1
import Derived.Test.YtjgiiciniplbnaaGreatDoorKa2
import Derived.Deep.RegionLaw
import Derived.Test.YtjgiiciniplbnaaGreatDoorKa8
import Derived.Deep.Slices
import Derived.Deep.RegionHeld3
import Derived.Test.YtjgiiciniplbnaaGreatDoorKa4
import Derived.Test.YtjgiiciniplbnaaGreatDoorKa3
namespace Go.Proofs.YtjgiiciniplbnaaGreatDoor
open Go.ChangeShapes Go.WideShapes Go.ChangeAt Go.RowKit
set_option linter.unusedVariables false

theorem chunkD {l od : List Value} {n : Nat} (h : (l.drop 0).take n = od) (i : Nat) (hi : i < n) : l[i]? = od[i]? := by
  rw [← h, List.drop_zero, List.getElem?_take_of_lt hi]
/-- a slice of numbers that came in -/
def In (W : World) (a : Option Addr) (n c : Nat) (li : List Int) : Prop := Is W (.slice a n c) li ∧ n ≤ c ∧ (a = none → c = 0)
section
variable {H : Type} {enc : TypeId × Value → H} {W : World}

set_option maxRecDepth 100000 in
theorem open_live {base : Nat} {v : Value} {d : DataW H} {p : List MemPlace} (hval : Value.okWide Tryz.prog W .any base 93 v) (h : DataW.Trod enc Tryz.prog W 0 (fun _ => true) true 93 v d p) :
    ∃ (od : List Nat) (a0 : Option Addr) (n0 c0 : Nat) (l0 : List Int) (x1 : Int) (x2 : Int), v = .agg (u8s od ++ ([.slice a0 n0 c0, .int .i64 x1, .int .i64 x2] : List Value)).toArray ∧ od.length = 32 ∧ (∀ y ∈ od, y < 256) ∧ In W a0 n0 c0 l0 ∧ (Lit.int .i64 x1).wf = true ∧ (Lit.int .i64 x2).wf = true := by
  obtain ⟨cs, rfl, hsz⟩ := okWide_struct Tryz.underlying93 hval
  rw [show Tryz.prog.cellsOf 93 = 35 from by kernel_rfl] at hsz
  obtain ⟨l⟩ := cs
  have hl : l.length = 35 := by simpa using hsz
  obtain ⟨fuel, hf⟩ := h
  obtain ⟨xs, n, rfl, _, _, hxl, hg⟩ := DataW.trod_struct Tryz.underlying93 hf
  match xs, hxl with
  | [y0, y1, y2, y3], _ =>
  have g0 := hg 0 _ rfl
  have g1 := hg 1 _ rfl
  have g2 := hg 2 _ rfl
  have g3 := hg 3 _ rfl
  obtain ⟨od, f0, ho1, ho2⟩ := open_arr32D g0 (by simp [show Tryz.prog.cellsOf 23 = 32 from by kernel_rfl, Value.cells, hl])
  obtain ⟨a0, n0, c0, l0, f1, w0⟩ := open_is g1
  obtain ⟨x1, f2, _, w1⟩ := DataW.trod_int Tryz.underlying3 g2
  obtain ⟨x2, f3, _, w2⟩ := DataW.trod_int Tryz.underlying3 g3
  have r0 : ∀ i, i < 32 → l[i]? = (u8s od)[i]? := fun i hi => chunkD f0 i hi
  have r1 : l[32]? = some (.slice a0 n0 c0) := chunkL f1
  have r2 : l[33]? = some (.int .i64 x1) := chunkL f2
  have r3 : l[34]? = some (.int .i64 x2) := chunkL f3
  refine ⟨od, a0, n0, c0, l0, x1, x2, ?_, ho1, ho2, w0, w1, w2⟩
  congr 2
  apply List.ext_getElem?
  intro i
  by_cases hi : i < 35
  · by_cases h32 : i < 32
    · rw [r0 i h32, List.getElem?_append_left (by simp [u8s, ho1]; omega)]
    · rw [List.getElem?_append_right (by simp [u8s, ho1]; omega)]
      rcases (show i = 32 ∨ i = 33 ∨ i = 34 from by omega) with rfl | rfl | rfl
      · rw [r1]; simp [u8s, ho1]
      · rw [r2]; simp [u8s, ho1]
      · rw [r3]; simp [u8s, ho1]
  · rw [List.getElem?_eq_none (by omega), List.getElem?_eq_none (by simp [u8s, ho1]; omega)]
set_option maxRecDepth 100000 in
theorem open_settled {base : Nat} {v : Value} {d : DataW H} {p : List MemPlace} (hval : Value.okWide Tryz.prog W .any base 97 v) (h : DataW.Trod enc Tryz.prog W 0 (fun _ => true) true 97 v d p) :
    ∃ (od : List Nat) (a0 : Option Addr) (n0 c0 : Nat) (l0 : List Int) (a1 : Option Addr) (n1 c1 : Nat) (l1 : List Int) (x2 : Int), v = .agg (u8s od ++ ([.slice a0 n0 c0, .slice a1 n1 c1, .int .i64 x2] : List Value)).toArray ∧ od.length = 32 ∧ (∀ y ∈ od, y < 256) ∧ In W a0 n0 c0 l0 ∧ In W a1 n1 c1 l1 ∧ (Lit.int .i64 x2).wf = true := by
  obtain ⟨cs, rfl, hsz⟩ := okWide_struct Tryz.underlying97 hval
  rw [show Tryz.prog.cellsOf 97 = 35 from by kernel_rfl] at hsz
  obtain ⟨l⟩ := cs
  have hl : l.length = 35 := by simpa using hsz
  obtain ⟨fuel, hf⟩ := h
  obtain ⟨xs, n, rfl, _, _, hxl, hg⟩ := DataW.trod_struct Tryz.underlying97 hf
  match xs, hxl with
  | [y0, y1, y2, y3], _ =>
  have g0 := hg 0 _ rfl
  have g1 := hg 1 _ rfl
  have g2 := hg 2 _ rfl
  have g3 := hg 3 _ rfl
  obtain ⟨od, f0, ho1, ho2⟩ := open_arr32D g0 (by simp [show Tryz.prog.cellsOf 23 = 32 from by kernel_rfl, Value.cells, hl])
  obtain ⟨a0, n0, c0, l0, f1, w0⟩ := open_is g1
  obtain ⟨a1, n1, c1, l1, f2, w1⟩ := open_is g2
  obtain ⟨x2, f3, _, w2⟩ := DataW.trod_int Tryz.underlying3 g3
  have r0 : ∀ i, i < 32 → l[i]? = (u8s od)[i]? := fun i hi => chunkD f0 i hi
  have r1 : l[32]? = some (.slice a0 n0 c0) := chunkL f1
  have r2 : l[33]? = some (.slice a1 n1 c1) := chunkL f2
  have r3 : l[34]? = some (.int .i64 x2) := chunkL f3
  refine ⟨od, a0, n0, c0, l0, a1, n1, c1, l1, x2, ?_, ho1, ho2, w0, w1, w2⟩
  congr 2
  apply List.ext_getElem?
  intro i
  by_cases hi : i < 35
  · by_cases h32 : i < 32
    · rw [r0 i h32, List.getElem?_append_left (by simp [u8s, ho1]; omega)]
    · rw [List.getElem?_append_right (by simp [u8s, ho1]; omega)]
      rcases (show i = 32 ∨ i = 33 ∨ i = 34 from by omega) with rfl | rfl | rfl
      · rw [r1]; simp [u8s, ho1]
      · rw [r2]; simp [u8s, ho1]
      · rw [r3]; simp [u8s, ho1]
  · rw [List.getElem?_eq_none (by omega), List.getElem?_eq_none (by simp [u8s, ho1]; omega)]
set_option maxRecDepth 100000 in
theorem open_case {base : Nat} {v : Value} {d : DataW H} {p : List MemPlace} (hval : Value.okWide Tryz.prog W .any base 31 v) (h : DataW.Trod enc Tryz.prog W 0 (fun _ => true) true 31 v d p) :
    ∃ (od : List Nat) (x0 : Int) (x1 : Int) (a2 : Option Addr) (n2 c2 : Nat) (l2 : List Int) (a3 : Option Addr) (n3 c3 : Nat) (l3 : List Int) (b4 : Bool) (b5 : Bool), v = .agg (u8s od ++ ([.int .i64 x0, .int .i64 x1, .slice a2 n2 c2, .slice a3 n3 c3, .bool b4, .bool b5] : List Value)).toArray ∧ od.length = 32 ∧ (∀ y ∈ od, y < 256) ∧ (Lit.int .i64 x0).wf = true ∧ (Lit.int .i64 x1).wf = true ∧ In W a2 n2 c2 l2 ∧ In W a3 n3 c3 l3 := by
  obtain ⟨cs, rfl, hsz⟩ := okWide_struct Tryz.underlying31 hval
  rw [show Tryz.prog.cellsOf 31 = 38 from by kernel_rfl] at hsz
  obtain ⟨l⟩ := cs
  have hl : l.length = 38 := by simpa using hsz
  obtain ⟨fuel, hf⟩ := h
  obtain ⟨xs, n, rfl, _, _, hxl, hg⟩ := DataW.trod_struct Tryz.underlying31 hf
  match xs, hxl with
  | [y0, y1, y2, y3, y4, y5, y6], _ =>
  have g0 := hg 0 _ rfl
  have g1 := hg 1 _ rfl
  have g2 := hg 2 _ rfl
  have g3 := hg 3 _ rfl
  have g4 := hg 4 _ rfl
  have g5 := hg 5 _ rfl
  have g6 := hg 6 _ rfl
  obtain ⟨od, f0, ho1, ho2⟩ := open_arr32D g0 (by simp [show Tryz.prog.cellsOf 23 = 32 from by kernel_rfl, Value.cells, hl])
  obtain ⟨x0, f1, _, w0⟩ := DataW.trod_int Tryz.underlying3 g1
  obtain ⟨x1, f2, _, w1⟩ := DataW.trod_int Tryz.underlying3 g2
  obtain ⟨a2, n2, c2, l2, f3, w2⟩ := open_is g3
  obtain ⟨a3, n3, c3, l3, f4, w3⟩ := open_is g4
  obtain ⟨b4, f5, _⟩ := DataW.trod_bool Tryz.underlying4 g5
  obtain ⟨b5, f6, _⟩ := DataW.trod_bool Tryz.underlying4 g6
  have r0 : ∀ i, i < 32 → l[i]? = (u8s od)[i]? := fun i hi => chunkD f0 i hi
  have r1 : l[32]? = some (.int .i64 x0) := chunkL f1
  have r2 : l[33]? = some (.int .i64 x1) := chunkL f2
  have r3 : l[34]? = some (.slice a2 n2 c2) := chunkL f3
  have r4 : l[35]? = some (.slice a3 n3 c3) := chunkL f4
  have r5 : l[36]? = some (.bool b4) := chunkL f5
  have r6 : l[37]? = some (.bool b5) := chunkL f6
  refine ⟨od, x0, x1, a2, n2, c2, l2, a3, n3, c3, l3, b4, b5, ?_, ho1, ho2, w0, w1, w2, w3⟩
  congr 2
  apply List.ext_getElem?
  intro i
  by_cases hi : i < 38
  · by_cases h32 : i < 32
    · rw [r0 i h32, List.getElem?_append_left (by simp [u8s, ho1]; omega)]
    · rw [List.getElem?_append_right (by simp [u8s, ho1]; omega)]
      rcases (show i = 32 ∨ i = 33 ∨ i = 34 ∨ i = 35 ∨ i = 36 ∨ i = 37 from by omega) with rfl | rfl | rfl | rfl | rfl | rfl
      · rw [r1]; simp [u8s, ho1]
      · rw [r2]; simp [u8s, ho1]
      · rw [r3]; simp [u8s, ho1]
      · rw [r4]; simp [u8s, ho1]
      · rw [r5]; simp [u8s, ho1]
      · rw [r6]; simp [u8s, ho1]
  · rw [List.getElem?_eq_none (by omega), List.getElem?_eq_none (by simp [u8s, ho1]; omega)]
set_option maxRecDepth 100000 in
theorem open_lease {base : Nat} {v : Value} {d : DataW H} {p : List MemPlace} (hval : Value.okWide Tryz.prog W .any base 111 v) (h : DataW.Trod enc Tryz.prog W 0 (fun _ => true) true 111 v d p) :
    ∃ (od : List Nat) (x0 : Int) (x1 : Int) (x2 : Int) (x3 : Int), v = .agg (u8s od ++ ([.int .i64 x0, .int .i64 x1, .int .u64 x2, .int .u64 x3] : List Value)).toArray ∧ od.length = 32 ∧ (∀ y ∈ od, y < 256) ∧ (Lit.int .i64 x0).wf = true ∧ (Lit.int .i64 x1).wf = true ∧ (Lit.int .u64 x2).wf = true ∧ (Lit.int .u64 x3).wf = true := by
  obtain ⟨cs, rfl, hsz⟩ := okWide_struct Tryz.underlying111 hval
  rw [show Tryz.prog.cellsOf 111 = 36 from by kernel_rfl] at hsz
  obtain ⟨l⟩ := cs
  have hl : l.length = 36 := by simpa using hsz
  obtain ⟨fuel, hf⟩ := h
  obtain ⟨xs, n, rfl, _, _, hxl, hg⟩ := DataW.trod_struct Tryz.underlying111 hf
  match xs, hxl with
  | [y0, y1, y2, y3, y4], _ =>
  have g0 := hg 0 _ rfl
  have g1 := hg 1 _ rfl
  have g2 := hg 2 _ rfl
  have g3 := hg 3 _ rfl
  have g4 := hg 4 _ rfl
  obtain ⟨od, f0, ho1, ho2⟩ := open_arr32D g0 (by simp [show Tryz.prog.cellsOf 23 = 32 from by kernel_rfl, Value.cells, hl])
  obtain ⟨x0, f1, _, w0⟩ := DataW.trod_int Tryz.underlying3 g1
  obtain ⟨x1, f2, _, w1⟩ := DataW.trod_int Tryz.underlying3 g2
  obtain ⟨x2, f3, _, w2⟩ := DataW.trod_int Tryz.underlying43 g3
  obtain ⟨x3, f4, _, w3⟩ := DataW.trod_int Tryz.underlying43 g4
  have r0 : ∀ i, i < 32 → l[i]? = (u8s od)[i]? := fun i hi => chunkD f0 i hi
  have r1 : l[32]? = some (.int .i64 x0) := chunkL f1
  have r2 : l[33]? = some (.int .i64 x1) := chunkL f2
  have r3 : l[34]? = some (.int .u64 x2) := chunkL f3
  have r4 : l[35]? = some (.int .u64 x3) := chunkL f4
  refine ⟨od, x0, x1, x2, x3, ?_, ho1, ho2, w0, w1, w2, w3⟩
  congr 2
  apply List.ext_getElem?
  intro i
  by_cases hi : i < 36
  · by_cases h32 : i < 32
    · rw [r0 i h32, List.getElem?_append_left (by simp [u8s, ho1]; omega)]
    · rw [List.getElem?_append_right (by simp [u8s, ho1]; omega)]
      rcases (show i = 32 ∨ i = 33 ∨ i = 34 ∨ i = 35 from by omega) with rfl | rfl | rfl | rfl
      · rw [r1]; simp [u8s, ho1]
      · rw [r2]; simp [u8s, ho1]
      · rw [r3]; simp [u8s, ho1]
      · rw [r4]; simp [u8s, ho1]
  · rw [List.getElem?_eq_none (by omega), List.getElem?_eq_none (by simp [u8s, ho1]; omega)]
end
end Go.Proofs.YtjgiiciniplbnaaGreatDoor

namespace Go.Proofs.YtjgiiciniplbnaaGreatDoor
open Go Go.RowKit Go.Lib Go.Sort
set_option linter.unusedVariables false

theorem wpList_build0 {P : Program} {ops : Array Oper} {rest : List Oper} {o : Oper} {a : Act} {w : World} {Q : Exit → Act → World → Prop} (hgd : o.guard = none) (t : TypeId) (ho : o.op = .build t #[])
    {cells : Array Value} (hp : P.built t [] = some cells) (h : wpList P ops Q rest (a.put o.dst (.agg cells)) w) : wpList P ops Q (o :: rest) a w :=
  wpList_plain hgd fun K hK => by
    have hv : ((#[] : Array (Nat × Operand)).map fun (i, x) => (i, a.eval x)).toList = [] := by simp
    rw [← hv] at hp
    have hr : (execOp a.eval o).run P w = .ok (.value (.agg cells)) w := by
      unfold execOp
      simp only [ho]
      have h := run_build (P := P) w t _ cells hp
      simp only [Sem.run_bind, h, Result.andThen_ok, Sem.run_pure]
    unfold Oper.wp
    rw [hr]
    exact hK _ _ h
theorem infoMz : (Tryz.prog.info? 62).map (·.size) = some mz.size := by rw [mz_sizeO]; kernel_rfl
set_option maxRecDepth 100000 in
set_option maxHeartbeats 4000000 in
theorem Manifest_nil (w : World) : Calls Tryz.prog 46 #[.pointer none] w fun e w' => e = .returned (.tuple #[.agg mz, .bool false]) ∧ Below w.heap.size w w' := by
  have HBM := hid (show Tryz.prog.built 62 [] = some mz from by kernel_rfl)
  have HIF := hid infoMz
  have HON := hid (show mz.all (·.oneCell') = true from mcells_one 0 0 0 0 _ none 0 0)
  go_enter Tryz.func46, Tryz.ntmps46
  go_wp2_with (first
    | (refine wpList_build0 (by rfl) 62 (by rfl) HBM.out ?_)
    | (refine wpList_store_row (by rfl) 62 (.tmp 2) (.tmp 14) (by rfl) w.heap.size _ mz 62 (by rfl) (by rfl) (heap_new _ _) HIF.out rfl HON.out ?_
       intro w8 hw8 hk8))
  have hres := run_loadVar_row (P := Tryz.prog) w8 w.heap.size 62 62 _ (0, 0) _ hw8 Tryz.underlying62 rfl HIF.out
  refine bodyPost_ret (v := .tuple #[.agg mz, .bool false]) (results_di Tryz.results46 rfl hres rfl) rfl ⟨rfl, ?_⟩
  exact ((Below.refl w.heap.size w).alloc (Nat.le_refl _) (.cells mz 62)).trans (hk8.below (by simp) (Nat.le_refl _))

section
open Go.ChangeShapes Go.WideShapes Go.ChangeAt
variable {H : Type} {enc : TypeId × Value → H} {W : World}
set_option maxRecDepth 100000 in
theorem open_manO {fuel : Nat} {l : List Value} {x : DataW H × List MemPlace} (hf : DataW.trod enc Tryz.prog W 0 (fun _ => true) true fuel 62 l = some x) (hl37 : l.length = 37) :
    ∃ (k n t s : Int) (od : List Nat) (a : Option Addr) (m c : Nat) (D : List (List Nat)), l = mcells k n t s od (.slice a m c) ∧ od.length = 32 ∧ (∀ y ∈ od, y < 256) ∧ Dgs W a m c D := by
  obtain ⟨xs, n, rfl, _, _, hxl, hg⟩ := DataW.trod_struct Tryz.underlying62 hf
  match xs, hxl with
  | [y0, y1, y2, y3, y4, y5], _ =>
  have g0 := hg 0 _ rfl
  have g1 := hg 1 _ rfl
  have g2 := hg 2 _ rfl
  have g3 := hg 3 _ rfl
  have g4 := hg 4 _ rfl
  have g5 := hg 5 _ rfl
  obtain ⟨k, f0, _, w0⟩ := DataW.trod_int Tryz.underlying3 g0
  obtain ⟨n', f1, _, w1⟩ := DataW.trod_int Tryz.underlying3 g1
  obtain ⟨t, f2, _, w2⟩ := DataW.trod_int Tryz.underlying3 g2
  obtain ⟨s, f3, _, w3⟩ := DataW.trod_int Tryz.underlying3 g3
  have e30 : Tryz.prog.cellsOf 23 = 32 := by kernel_rfl
  obtain ⟨od, f4, ho1, ho2⟩ := open_arr32D g4 (by simp; omega)
  obtain ⟨a, m, c, D, f5, hD⟩ := open_dgs g5
  refine ⟨k, n', t, s, od, a, m, c, D, ?_, ho1, ho2, hD⟩
  have r0 : l[0]? = some (.int .i64 k) := chunkL f0
  have r1 : l[1]? = some (.int .i64 n') := chunkL f1
  have r2 : l[2]? = some (.int .i64 t) := chunkL f2
  have r3 : l[3]? = some (.int .i64 s) := chunkL f3
  have r5 : l[36]? = some (.slice a m c) := chunkL f5
  have r4 : ∀ i, i < 32 → l[4 + i]? = (u8s od)[i]? := fun i hi => by
    have h : (List.take 32 (List.drop 4 l))[i]? = (u8s od)[i]? := congrArg (·[i]?) f4
    rw [← h, List.getElem?_take_of_lt hi, List.getElem?_drop]
  have hml := mcells_length k n' t s od (.slice a m c) ho1
  apply List.ext_getElem?
  intro i
  by_cases hi : i < 37
  · rcases (show i = 0 ∨ i = 1 ∨ i = 2 ∨ i = 3 ∨ (∃ j, i = 4 + j ∧ j < 32) ∨ i = 36 from by
      rcases (show i < 4 ∨ i = 36 ∨ (4 ≤ i ∧ i < 36) from by omega) with h | h | h
      · omega
      · exact .inr (.inr (.inr (.inr (.inr h))))
      · exact .inr (.inr (.inr (.inr (.inl ⟨i - 4, by omega, by omega⟩))))) with rfl | rfl | rfl | rfl | ⟨j, rfl, hj⟩ | rfl
    · rw [r0]; rfl
    · rw [r1]; rfl
    · rw [r2]; rfl
    · rw [r3]; rfl
    · rw [r4 j hj]
      unfold mcells
      rw [List.append_assoc, List.getElem?_append_right (by simp), List.getElem?_append_left (by simp [u8s, ho1]; omega)]
      simp
    · rw [r5]
      unfold mcells
      rw [List.getElem?_append_right (by simp [u8s, ho1])]
      simp [u8s, ho1]
  · rw [List.getElem?_eq_none (by omega), List.getElem?_eq_none (by omega)]
/-- the cells of an offer -/
def ocells (k n t s : Int) (od : List Nat) (mv : Value) (x : Int) (pv : Value) (i : Int) : List Value := mcells k n t s od mv ++ ([.int .i64 x, pv, .int .i64 i] : List Value)
set_option maxRecDepth 100000 in
theorem open_offer {base : Nat} {v : Value} {d : DataW H} {p : List MemPlace} (hval : Value.okWide Tryz.prog W .any base 70 v) (h : DataW.Trod enc Tryz.prog W 0 (fun _ => true) true 70 v d p) :
    ∃ (k n t s : Int) (od : List Nat) (a : Option Addr) (m c : Nat) (D : List (List Nat)) (x : Int) (pa : Option Addr) (pn pc : Nat) (l : List Nat) (i : Int), v = .agg (ocells k n t s od (.slice a m c) x (.slice pa pn pc) i).toArray ∧ od.length = 32 ∧ (∀ y ∈ od, y < 256) ∧ Dgs W a m c D ∧ (Lit.int .i64 x).wf = true ∧ By W pa pn pc l ∧ (Lit.int .i64 i).wf = true := by
  obtain ⟨cs, rfl, hsz⟩ := okWide_struct Tryz.underlying70 hval
  rw [show Tryz.prog.cellsOf 70 = 40 from by kernel_rfl] at hsz
  obtain ⟨l⟩ := cs
  have hl : l.length = 40 := by simpa using hsz
  obtain ⟨fuel, hf⟩ := h
  obtain ⟨xs, n, rfl, _, _, hxl, hg⟩ := DataW.trod_struct Tryz.underlying70 hf
  match xs, hxl with
  | [y0, y1, y2], _ =>
  have g0 := hg 0 _ rfl
  have g1 := hg 1 _ rfl
  have g2 := hg 2 _ rfl
  have e37 : Tryz.prog.cellsOf 62 = 37 := by kernel_rfl
  obtain ⟨k, n', t, s, od, a, m, c, D, f0, ho1, ho2, hD⟩ := open_manO g0 (by simp [e37, Value.cells, hl])
  obtain ⟨i, f2, _, w2⟩ := DataW.trod_int Tryz.underlying3 g2
  obtain ⟨zs, n2, rfl, _, _, hzl, hz⟩ := DataW.trod_struct Tryz.underlying68 g1
  match zs, hzl with
  | [z0, z1], _ =>
  have q0 := hz 0 _ rfl
  have q1 := hz 1 _ rfl
  obtain ⟨x, p0, _, wx⟩ := DataW.trod_int Tryz.underlying3 q0
  obtain ⟨pa, pn, pc, ld, p1, hb⟩ := open_by q1
  refine ⟨k, n', t, s, od, a, m, c, D, x, pa, pn, pc, ld, i, ?_, ho1, ho2, hD, wx, hb, w2⟩
  have r0 : ∀ j, j < 37 → l[j]? = (mcells k n' t s od (.slice a m c))[j]? := fun j hj => by
    have h1 := chunkD f0 j hj
    exact h1
  have r2 : l[39]? = some (.int .i64 i) := chunkL f2
  have s0 : ((l.drop 37).take 2)[0]? = some (.int .i64 x) := chunkL p0
  have s1 : ((l.drop 37).take 2)[1]? = some (.slice pa pn pc) := chunkL p1
  have t0 : l[37]? = some (.int .i64 x) := by rw [List.getElem?_take_of_lt (by omega), List.getElem?_drop] at s0; exact s0
  have t1 : l[38]? = some (.slice pa pn pc) := by rw [List.getElem?_take_of_lt (by omega), List.getElem?_drop] at s1; exact s1
  have hml := mcells_length k n' t s od (.slice a m c) ho1
  congr 2
  unfold ocells
  apply List.ext_getElem?
  intro j
  by_cases hj : j < 37
  · rw [r0 j hj, List.getElem?_append_left (by omega)]
  · rw [List.getElem?_append_right (by omega), hml]
    by_cases h40 : j < 40
    · rcases (show j = 37 ∨ j = 38 ∨ j = 39 from by omega) with rfl | rfl | rfl
      · rw [t0]; rfl
      · rw [t1]; rfl
      · rw [r2]; rfl
    · rw [List.getElem?_eq_none (by omega), List.getElem?_eq_none (by simp; omega)]
end
end Go.Proofs.YtjgiiciniplbnaaGreatDoor

namespace Go.Proofs.YtjgiiciniplbnaaGreatDoor
open Go Go.RowKit Go.Lib Go.Sort
set_option linter.unusedVariables false

/-- bytes lie in no block of another type -/
theorem Bs.keepT {w w' : World} {a : Option Addr} {n c b : Nat} {l : List Nat} {x : Int} {y : Value} {T : TypeId} (h : Bs w (.slice a n c) l) (k : Kept b w w') (hb : w.heap[b]? = some (.cells #[.int .i64 x, y] T (0, 0))) (hy : ∀ v : Int, y ≠ .int .u8 v) : Bs w' (.slice a n c) l := by
  obtain ⟨a', c', h1, h2, h3⟩ := h
  refine ⟨a', c', h1, h2, fun hl => ?_⟩
  obtain ⟨q, o, ha, hc⟩ := h3 hl
  refine ⟨q, o, ha, fun i hi => ?_⟩
  have h4 := hc i hi
  have hne : q ≠ b := fun e => by
    subst e
    have h5 := hc 0 (by cases l with
      | nil => exact absurd rfl hl
      | cons _ _ => simp)
    rw [cell_of_heap hb] at h5
    rcases ho : o with _ | _ | o'
    · rw [ho] at h5; simp at h5
    · rw [ho] at h5
      have h6 : some y = some (Value.int .u8 ((l[0]?.getD 0 : Nat) : Int)) := by simpa using h5
      exact hy _ (Option.some.inj h6)
    · rw [ho] at h5; simp at h5
  rw [World.cell?_of_block (a := ⟨q, o + i, none⟩) (k.block q (World.block_lt_of_cell? _ _ h4) hne)]
  exact h4
set_option maxRecDepth 100000 in
set_option maxHeartbeats 8000000 in
theorem Piece_ready (gb fb : Nat) (hne : gb ≠ fb) (obj : List Nat) (ho : obj.length = 32) (k n t s : Int) (od : List Nat) (v : Value) (hM : (mcells k n t s od v).length = 37) (pa : Option Addr) (m c : Nat) (E I : Int) (L : List Nat) (X : Int) (w : World) (hfb : fb < w.heap.size) (hG : GthAt w gb obj (mcells k n t s od v) (.slice pa m c)) (hr : rdyG k m = true)
    (HA : ∀ wx, Below w.heap.size w wx → Calls Tryz.prog 82 #[.pointer (some ⟨fb, 0, none⟩), .agg (mcells k n t s od v).toArray, .slice pa m c, .int .i64 X] wx fun e w' => RgnRes E I L e w' ∧ Fld w' fb ∧ Kept fb wx w') :
    Calls Tryz.prog 54 #[.pointer (some ⟨gb, 0, none⟩), .pointer (some ⟨fb, 0, none⟩), .int .i64 X] w fun e w' => RgnRes E I L e w' ∧ Fld w' fb ∧ Kept fb w w' := by
  obtain ⟨w0, hw0⟩ : ∃ y, y = w.alloc (.cells #[.int .i64 0, .slice none 0 0] 68) := ⟨_, rfl⟩
  have hb0 : Below w.heap.size w w0 := by rw [hw0]; exact (Below.refl _ _).alloc (Nat.le_refl _) _
  have hz0 : w0.heap[w.heap.size]? = some (.cells #[.int .i64 0, .slice none 0 0] 68 (0, 0)) := by rw [hw0]; exact heap_new _ _
  have hs0 : w0.heap.size = w.heap.size + 1 := by rw [hw0]; simp
  have HG := hid hG
  have HG0 := hid (hG.below hb0)
  have HC := hid (complete_any gb obj ho k n t s od v hM pa m c w0 HG0.out)
  rw [hr] at HC
  have HAS := hid HA
  have HNE := hid hne
  have HFB := hid hfb
  obtain ⟨M, hMe⟩ : ∃ y, y = (mcells k n t s od v).toArray := ⟨_, rfl⟩
  have HGL := hid (lt_of_heap HG.out)
  have HKP := hid (show ∀ wx : World, wx.heap[gb]? = w.heap[gb]? → wx.cell? ⟨gb, 69, none⟩ = some (.slice pa m c) ∧ (loadVar 62 ⟨gb, 32, none⟩).run Tryz.prog wx = .ok (.agg M) wx from fun wx h => by
    have hg : GthAt wx gb obj (mcells k n t s od v) (.slice pa m c) := h.trans HG.out
    exact ⟨hg.pv ho hM, by rw [hMe]; exact gth_loadM hg ho hM⟩)
  rw [← hMe] at HAS
  have HB0 := hid hb0
  have HZ0 := hid hz0
  have HS0 := hid hs0
  have HW0 := hid hw0
  clear hG HA hMe hne hfb hb0 hz0 hs0 hw0
  go_enter Tryz.func54, Tryz.ntmps54
  go_upto_region 1 with fail
  rw [← HW0.out]
  clear HW0
  go_wp2_with fail
  refine HC.out.mono ?_
  rintro e w1 ⟨rfl, hb1⟩
  have HZ1 := hid ((hb1.block _ (lt_of_heap HZ0.out)).trans HZ0.out)
  have HB1 := hid (HB0.out.trans (hb1.mono HB0.out.size))
  have HS1 := hid (show w.heap.size < w1.heap.size from lt_of_heap HZ1.out)
  clear hb1
  go_upto_region 4 with fail
  refine wp_region_held_drew (S := (fun wx : World => wx.cell? ⟨gb, 69, none⟩ = some (.slice pa m c) ∧ (loadVar 62 ⟨gb, 32, none⟩).run Tryz.prog wx = .ok (.agg M) wx)) (by kernel_rfl) (HKP.out _ ((bel_drewN HB1.out 1).block gb HGL.out)) (fun hHeld => ?_)
  refine wpAnyH_take (i := 0) (oi := { dst := some 15, op := Op.move (Operand.tmp 1), type := 56, pos := "gather.go:102", after := #[], guard := none }) (v := ?_) rfl (by kernel_rfl) (by kernel_rfl) (by kernel_rfl) (fun _ _ _ h => h) (Or.inl ⟨by rfl, ?hy⟩) hHeld ?_
  case hy => (intro w hSw; (try dsimp only at hSw); obtain ⟨_, _⟩ := hSw; go_simp; all_goals (with_reducible rfl))
  try simp only [Act.put, List.setIfInBounds_toArray, List.set_cons_zero, List.set_cons_succ]
  refine wpAnyH_take (i := 1) (oi := { dst := some 16, op := Op.move (Operand.tmp 0), type := 58, pos := "gather.go:102", after := #[], guard := none }) (v := ?_) rfl (by kernel_rfl) (by kernel_rfl) (by kernel_rfl) (fun _ _ _ h => h) (Or.inl ⟨by rfl, ?hy⟩) hHeld ?_
  case hy => (intro w hSw; (try dsimp only at hSw); obtain ⟨_, _⟩ := hSw; go_simp; all_goals (with_reducible rfl))
  try simp only [Act.put, List.setIfInBounds_toArray, List.set_cons_zero, List.set_cons_succ]
  refine wpAnyH_take (i := 2) (oi := { dst := some 17, op := Op.nilCheck (Operand.tmp 16), type := 0, pos := "gather.go:102", after := #[{ on := 1, ground := Ground.data }], guard := none }) (v := ?_) rfl (by kernel_rfl) (by kernel_rfl) (by kernel_rfl) (fun _ _ _ h => h) (Or.inl ⟨by rfl, ?hy⟩) hHeld ?_
  case hy => (intro w hSw; (try dsimp only at hSw); obtain ⟨_, _⟩ := hSw; go_simp; all_goals (with_reducible rfl))
  try simp only [Act.put, List.setIfInBounds_toArray, List.set_cons_zero, List.set_cons_succ]
  refine wpAnyH_take (i := 3) (oi := { dst := some 18, op := Op.fieldAddr 158 (Operand.tmp 17) 1, type := 0, pos := "gather.go:102", after := #[{ on := 2, ground := Ground.data }], guard := none }) (v := ?_) rfl (by kernel_rfl) (by kernel_rfl) (by kernel_rfl) (fun _ _ _ h => h) (Or.inl ⟨by rfl, ?hy⟩) hHeld ?_
  case hy => (intro w hSw; (try dsimp only at hSw); obtain ⟨_, _⟩ := hSw; go_simp; all_goals (with_reducible rfl))
  try simp only [Act.put, List.setIfInBounds_toArray, List.set_cons_zero, List.set_cons_succ]
  refine wpAnyH_take (i := 4) (oi := { dst := some 19, op := Op.load 62 (Operand.tmp 18), type := 62, pos := "gather.go:102", after := #[{ on := 3, ground := Ground.data }], guard := none }) (v := .agg M) rfl (by kernel_rfl) (by kernel_rfl) (by kernel_rfl) (fun _ _ _ h => h) (Or.inl ⟨by rfl, ?hy⟩) hHeld ?_
  case hy => (intro w hSw; exact run_load_opP hSw.2)
  try simp only [Act.put, List.setIfInBounds_toArray, List.set_cons_zero, List.set_cons_succ]
  refine wpAnyH_take (i := 5) (oi := { dst := some 20, op := Op.move (Operand.tmp 0), type := 58, pos := "gather.go:102", after := #[], guard := none }) (v := ?_) rfl (by kernel_rfl) (by kernel_rfl) (by kernel_rfl) (fun _ _ _ h => h) (Or.inl ⟨by rfl, ?hy⟩) hHeld ?_
  case hy => (intro w hSw; (try dsimp only at hSw); obtain ⟨_, _⟩ := hSw; go_simp; all_goals (with_reducible rfl))
  try simp only [Act.put, List.setIfInBounds_toArray, List.set_cons_zero, List.set_cons_succ]
  refine wpAnyH_take (i := 6) (oi := { dst := some 21, op := Op.nilCheck (Operand.tmp 20), type := 0, pos := "gather.go:102", after := #[{ on := 5, ground := Ground.data }], guard := none }) (v := ?_) rfl (by kernel_rfl) (by kernel_rfl) (by kernel_rfl) (fun _ _ _ h => h) (Or.inl ⟨by rfl, ?hy⟩) hHeld ?_
  case hy => (intro w hSw; (try dsimp only at hSw); obtain ⟨_, _⟩ := hSw; go_simp; all_goals (with_reducible rfl))
  try simp only [Act.put, List.setIfInBounds_toArray, List.set_cons_zero, List.set_cons_succ]
  refine wpAnyH_take (i := 7) (oi := { dst := some 22, op := Op.fieldAddr 158 (Operand.tmp 21) 2, type := 0, pos := "gather.go:102", after := #[{ on := 6, ground := Ground.data }], guard := none }) (v := ?_) rfl (by kernel_rfl) (by kernel_rfl) (by kernel_rfl) (fun _ _ _ h => h) (Or.inl ⟨by rfl, ?hy⟩) hHeld ?_
  case hy => (intro w hSw; (try dsimp only at hSw); obtain ⟨_, _⟩ := hSw; go_simp; all_goals (with_reducible rfl))
  try simp only [Act.put, List.setIfInBounds_toArray, List.set_cons_zero, List.set_cons_succ]
  refine wpAnyH_take (i := 8) (oi := { dst := some 23, op := Op.load 63 (Operand.tmp 22), type := 63, pos := "gather.go:102", after := #[{ on := 7, ground := Ground.data }], guard := none }) (v := ?_) rfl (by kernel_rfl) (by kernel_rfl) (by kernel_rfl) (fun _ _ _ h => h) (Or.inl ⟨by rfl, ?hy⟩) hHeld ?_
  case hy => (intro w hSw; (try dsimp only at hSw); obtain ⟨_, _⟩ := hSw; go_simp; all_goals (with_reducible rfl))
  try simp only [Act.put, List.setIfInBounds_toArray, List.set_cons_zero, List.set_cons_succ]
  refine wpAnyH_take (i := 9) (oi := { dst := some 24, op := Op.move (Operand.tmp 2), type := 3, pos := "gather.go:102", after := #[], guard := none }) (v := ?_) rfl (by kernel_rfl) (by kernel_rfl) (by kernel_rfl) (fun _ _ _ h => h) (Or.inl ⟨by rfl, ?hy⟩) hHeld ?_
  case hy => (intro w hSw; (try dsimp only at hSw); obtain ⟨_, _⟩ := hSw; go_simp; all_goals (with_reducible rfl))
  try simp only [Act.put, List.setIfInBounds_toArray, List.set_cons_zero, List.set_cons_succ]
  refine wpAnyH_ready (rs := [10]) (by kernel_rfl) (by simp) ?_
  refine AllReadyH.cons (o := { dst := some 25, op := Op.call { callee := Callee.value (Operand.func 82), args := #[Operand.tmp 15, Operand.tmp 19, Operand.tmp 23, Operand.tmp 24], argTypes := #[56, 62, 63, 3] }, type := 86, pos := "gather.go:102", after := #[{ on := 0, ground := Ground.data }, { on := 4, ground := Ground.data }, { on := 8, ground := Ground.data }, { on := 9, ground := Ground.data }], guard := none }) rfl (fun K hK => ?_) AllReadyH.nil
  go_simp
  refine (HAS.out _ (bel_drewN HB1.out 1)).mono ?_
  rintro e w4 ⟨⟨ra, rc, rfl, hbl, hlc, hnn⟩, hfl, hkt⟩
  have HBL := hid hbl
  have HLC := hid hlc
  have HNN := hid hnn
  have HFL := hid hfl
  have HZ4 := hid (show w4.heap[w.heap.size]? = some (.cells #[.int .i64 0, .slice none 0 0] 68 (0, 0)) from (hkt.block _ HS1.out (by have := HFB.out; omega)).trans HZ1.out)
  have HKT := hid ((Kept.of_below (b := fb) (bel_drewN HB1.out 1)).trans hkt)
  clear hbl hlc hnn hfl hkt
  clear hHeld
  go_wp2_with fail
  refine hK.out _ _ (HKP.out _ (HKT.out.block gb HGL.out HNE.out)) (fun hHeld => ?_)
  clear hK K
  try simp only [Act.put, List.setIfInBounds_toArray, List.set_cons_zero, List.set_cons_succ]
  refine wpAnyH_take (i := 11) (oi := { dst := some 26, op := Op.extract (Operand.tmp 25) 0, type := 68, pos := "gather.go:102", after := #[{ on := 10, ground := Ground.data }], guard := none }) (v := ?_) rfl (by kernel_rfl) (by kernel_rfl) (by kernel_rfl) (fun _ _ _ h => h) (Or.inl ⟨by rfl, ?hy⟩) hHeld ?_
  case hy => (intro w hSw; (try dsimp only at hSw); obtain ⟨_, _⟩ := hSw; go_simp; all_goals (with_reducible rfl))
  try simp only [Act.put, List.setIfInBounds_toArray, List.set_cons_zero, List.set_cons_succ]
  refine wpAnyH_take (i := 12) (oi := { dst := some 27, op := Op.extract (Operand.tmp 25) 1, type := 73, pos := "gather.go:102", after := #[{ on := 10, ground := Ground.data }], guard := none }) (v := ?_) rfl (by kernel_rfl) (by kernel_rfl) (by kernel_rfl) (fun _ _ _ h => h) (Or.inl ⟨by rfl, ?hy⟩) hHeld ?_
  case hy => (intro w hSw; (try dsimp only at hSw); obtain ⟨_, _⟩ := hSw; go_simp; all_goals (with_reducible rfl))
  try simp only [Act.put, List.setIfInBounds_toArray, List.set_cons_zero, List.set_cons_succ]
  refine wpAnyH_ready (rs := [13]) (by kernel_rfl) (by simp) ?_
  refine AllReadyH.cons (o := { dst := none, op := Op.store 68 (Operand.tmp 6) (Operand.tmp 26), type := 0, pos := "gather.go:102", after := #[{ on := 11, ground := Ground.data }, { on := 10, ground := Ground.chain }, { on := 0, ground := Ground.phase }, { on := 1, ground := Ground.phase }, { on := 2, ground := Ground.phase }, { on := 3, ground := Ground.phase }, { on := 4, ground := Ground.phase }, { on := 5, ground := Ground.phase }, { on := 6, ground := Ground.phase }, { on := 7, ground := Ground.phase }, { on := 8, ground := Ground.phase }, { on := 9, ground := Ground.phase }, { on := 10, ground := Ground.phase }, { on := 11, ground := Ground.phase }, { on := 12, ground := Ground.phase }], guard := none }) rfl (fun K hK => ?_) AllReadyH.nil
  refine step_store_row rfl 68 (.tmp 6) (.tmp 26) rfl w.heap.size #[.int .i64 0, .slice none 0 0] #[.int .i64 I, .slice ra L.length rc] 68 rfl rfl HZ4.out (by show _ = some 2; kernel_rfl) rfl (piece_allO _ _ _ _) ?_
  intro w5 hw5 hk5
  have HR5 := hid hw5
  have HK5 := hid hk5
  have HLT := hid (lt_of_heap HZ4.out)
  have HFL5 := hid (show Fld w5 fb from HFL.out.elim (fun h => .inl ((hk5.block fb (lt_of_heap h) (by have := HFB.out; omega)).trans h)) (fun h => .inr ((hk5.block fb (lt_of_heap h) (by have := HFB.out; omega)).trans h)))
  have HBL5 := hid (show Bs w5 (.slice ra L.length rc) L from HBL.out.keepT hk5 HZ4.out (fun _ => by simp))
  refine hK.out _ _ (HKP.out _ ((hk5.block gb (Nat.lt_of_lt_of_le HGL.out (HKT.out.size)) (by have := HGL.out; omega)).trans (HKT.out.block gb HGL.out HNE.out))) (fun hHeld => ?_)
  clear hK K hw5 hk5
  try simp only [Act.put]
  refine wpAnyH_take (i := 14) (oi := { dst := some 7, op := Op.assign (Operand.tmp 27), type := 73, pos := "gather.go:102", after := #[{ on := 12, ground := Ground.data }, { on := 13, ground := Ground.chain }, { on := 0, ground := Ground.phase }, { on := 1, ground := Ground.phase }, { on := 2, ground := Ground.phase }, { on := 3, ground := Ground.phase }, { on := 4, ground := Ground.phase }, { on := 5, ground := Ground.phase }, { on := 6, ground := Ground.phase }, { on := 7, ground := Ground.phase }, { on := 8, ground := Ground.phase }, { on := 9, ground := Ground.phase }, { on := 10, ground := Ground.phase }, { on := 11, ground := Ground.phase }, { on := 12, ground := Ground.phase }, { on := 13, ground := Ground.phase }], guard := none }) (v := ?_) rfl (by kernel_rfl) (by kernel_rfl) (by kernel_rfl) (fun _ _ _ h => h) (Or.inl ⟨by rfl, ?hy⟩) hHeld ?_
  case hy => (intro w hSw; (try dsimp only at hSw); obtain ⟨_, _⟩ := hSw; go_simp; all_goals (with_reducible rfl))
  try simp only [Act.put, List.setIfInBounds_toArray, List.set_cons_zero, List.set_cons_succ]
  refine wpAnyH_done (by kernel_rfl) ?_ _
  go_wp2
  have hif : (Tryz.prog.info? 68).map (·.size) = some (#[.int .i64 I, .slice ra L.length rc] : Array Value).size := by show _ = some 2; kernel_rfl
  have hres := run_loadVar_row (P := Tryz.prog) w5 w.heap.size 68 68 _ (0, 0) _ HR5.out Tryz.underlying68 rfl hif
  refine bodyPost_ret (v := .tuple #[.agg #[.int .i64 I, .slice ra L.length rc], .int .i64 E]) (results_di Tryz.results54 rfl hres rfl) rfl ⟨⟨ra, rc, rfl, HBL5.out, HLC.out, HNN.out⟩, HFL5.out, HKT.out.fresh HK5.out (Nat.le_refl _)⟩
set_option maxRecDepth 100000 in
set_option maxHeartbeats 4000000 in
theorem Manifest_some (gb : Nat) (obj : List Nat) (ho : obj.length = 32) (k n t s : Int) (od : List Nat) (hod : od.length = 32) (ma : Option Addr) (mm mc : Nat) (D : List (List Nat)) (pa : Option Addr) (m c : Nat) (hm0 : 0 < m) (w : World) (hG : GthAt w gb obj (mcells k n t s od (.slice ma mm mc)) (.slice pa m c)) (hD : Dgs w ma mm mc D) (hmm : mm ≤ 100000) :
    Calls Tryz.prog 46 #[.pointer (some ⟨gb, 0, none⟩)] w fun e w' => ∃ a' c', e = .returned (.tuple #[.agg (mcells k n t s od (.slice a' mm c')).toArray, .bool true]) ∧ Dgs w' a' mm c' D ∧ (∀ ad, a' = some ad → w.heap.size ≤ ad.block) ∧ Below w.heap.size w w' := by
  have hM := mcells_length k n t s od (.slice ma mm mc) hod
  have HCM := hid (fun (wx : World) (b : Below w.heap.size w wx) => copy_man k n t s od ma mm mc D wx hod (hD.below b) hmm)
  have HG := hid hG
  have HOD := hid hod
  obtain ⟨MC, hMCe⟩ : ∃ y, y = mcells k n t s od (.slice ma mm mc) := ⟨_, rfl⟩
  rw [← hMCe] at HCM HG hM
  obtain ⟨w0, hw0⟩ : ∃ y, y = w.alloc (.cells mz 62) := ⟨_, rfl⟩
  have hb0 : Below w.heap.size w w0 := by rw [hw0]; exact (Below.refl _ _).alloc (Nat.le_refl _) _
  have HZ0 := hid (show w0.heap[w.heap.size]? = some (.cells mz 62 (0, 0)) from by rw [hw0]; exact heap_new _ _)
  have HG0 := hid (HG.out.below hb0)
  have HMR := hid (HG0.out.man ho hM)
  have c69 := HG0.out.pv ho hM
  have HIM := hid (show (Tryz.prog.info? 62).map (·.size) = some MC.length from by rw [hM]; kernel_rfl)
  have HB0 := hid hb0
  have HW0 := hid hw0
  have hm1 : ¬ (m : Int) = 0 := by omega
  have hm2 : ((m : Int) == 0) = false := by simp; omega
  clear hG hD hMCe hb0 hw0 hm0 ho hod hM
  go_enter Tryz.func46, Tryz.ntmps46
  go_upto_region 1 with fail
  change Code.wp _ _ _ _ (w.alloc (.cells mz 62))
  rw [← HW0.out]
  clear HW0
  go_wp2_with (refine wpList_load_mid (by rfl) 62 (.tmp 17) (by rfl) gb 32 (by rfl) MC _ HMR.out Tryz.underlying62 rfl HIM.out ?_)
  refine (HCM.out w0 HB0.out).mono ?_
  rintro e w1 ⟨a3, c3, rfl, hd1, hl1, hb1⟩
  have HZ1 := hid ((hb1.block _ (lt_of_heap HZ0.out)).trans HZ0.out)
  have HB1 := hid (HB0.out.trans (hb1.mono HB0.out.size))
  have HD1 := hid hd1
  have HL1 := hid hl1
  have HS0 := hid (lt_of_heap HZ0.out)
  have HM3 := hid (mcells_length k n t s od (.slice a3 mm c3) HOD.out)
  have HON := hid (mcells_one k n t s od a3 mm c3)
  have HI3 := hid (show (Tryz.prog.info? 62).map (·.size) = some (mcells k n t s od (.slice a3 mm c3)).toArray.size from by rw [List.size_toArray, HM3.out]; kernel_rfl)
  have HSZ := hid (show mz.size = (mcells k n t s od (.slice a3 mm c3)).toArray.size from by rw [mz_sizeO, List.size_toArray, HM3.out])
  obtain ⟨M3, hM3⟩ : ∃ y, y = (mcells k n t s od (.slice a3 mm c3)).toArray := ⟨_, rfl⟩
  have HME := hid hM3
  rw [← hM3] at HON HI3 HSZ ⊢
  clear hd1 hl1 hb1 c69 hM3
  go_wp2_with (refine wpList_store_row (by rfl) 62 (.tmp 2) (.tmp 19) (by rfl) w.heap.size _ M3 62 (by rfl) (by rfl) HZ1.out HI3.out HSZ.out HON.out ?_
               intro w2 hw2 hk2)
  have hres := run_loadVar_row (P := Tryz.prog) w2 w.heap.size 62 62 _ (0, 0) _ hw2 Tryz.underlying62 rfl HI3.out
  refine bodyPost_ret (v := .tuple #[.agg M3, .bool true]) (results_di Tryz.results46 rfl hres rfl) rfl ⟨a3, c3, by rw [HME.out], HD1.out.kept hk2 (fun ad e => ?_), fun ad e => ?_, HB1.out.trans (hk2.below HB1.out.size (Nat.le_refl _))⟩
  · have h1 := HL1.out ad e
    have h2 := HS0.out
    omega
  · have h1 := HL1.out ad e
    have h2 := HS0.out
    omega
end Go.Proofs.YtjgiiciniplbnaaGreatDoor

namespace Go.Proofs.YtjgiiciniplbnaaGreatDoor
open Go Go.RowKit Go.Lib Go.Sort
set_option linter.unusedVariables false
set_option maxRecDepth 100000 in
set_option maxHeartbeats 4000000 in
theorem Manifest_none (gb : Nat) (obj : List Nat) (ho : obj.length = 32) (M : List Value) (hM : M.length = 37) (pa : Option Addr) (c : Nat) (w : World) (hG : GthAt w gb obj M (.slice pa 0 c)) : Calls Tryz.prog 46 #[.pointer (some ⟨gb, 0, none⟩)] w fun e w' => e = .returned (.tuple #[.agg mz, .bool false]) ∧ Below w.heap.size w w' := by
  have HBM := hid (show Tryz.prog.built 62 [] = some mz from by kernel_rfl)
  have HIF := hid infoMz
  have HON := hid (show mz.all (·.oneCell') = true from mcells_one 0 0 0 0 _ none 0 0)
  obtain ⟨w0, hw0⟩ : ∃ y, y = w.alloc (.cells mz 62) := ⟨_, rfl⟩
  have hb0 : Below w.heap.size w w0 := by rw [hw0]; exact (Below.refl _ _).alloc (Nat.le_refl _) _
  have HZ0 := hid (show w0.heap[w.heap.size]? = some (.cells mz 62 (0, 0)) from by rw [hw0]; exact heap_new _ _)
  have hG0 := hG.below hb0
  have c69 := hG0.pv ho hM
  have HB0 := hid hb0
  have HW0 := hid hw0
  clear hG hG0 hb0 hw0 ho hM
  go_enter Tryz.func46, Tryz.ntmps46
  go_upto_region 1 with fail
  change Code.wp _ _ _ _ (w.alloc (.cells mz 62))
  rw [← HW0.out]
  clear HW0
  go_wp2_with (first
    | (refine wpList_build0 (by rfl) 62 (by rfl) HBM.out ?_)
    | (refine wpList_store_row (by rfl) 62 (.tmp 2) (.tmp 14) (by rfl) w.heap.size _ mz 62 (by rfl) (by rfl) HZ0.out HIF.out rfl HON.out ?_
       intro w8 hw8 hk8))
  have hres := run_loadVar_row (P := Tryz.prog) w8 w.heap.size 62 62 _ (0, 0) _ hw8 Tryz.underlying62 rfl HIF.out
  refine bodyPost_ret (v := .tuple #[.agg mz, .bool false]) (results_di Tryz.results46 rfl hres rfl) rfl ⟨rfl, ?_⟩
  exact HB0.out.trans (hk8.below HB0.out.size (Nat.le_refl _))
end Go.Proofs.YtjgiiciniplbnaaGreatDoor

namespace Go.Proofs.YtjgiiciniplbnaaGreatDoor
open Go.RowKit
set_option linter.unusedVariables false

theorem rsizes_yes (k t : Int) (h1 : 1 ≤ k) (h2 : k ≤ t) (h3 : t ≤ 255) (w : World) :
    Calls Tryz.prog 137 #[.int .i64 k, .int .i64 t] w fun e w' => e = .returned (.bool true) ∧ w = w' := by
  go_enter Tryz.func137, Tryz.ntmps137
  go_wp2
  go_ret
  exact ⟨rfl, rfl⟩
theorem rsizes_no (k t : Int) (h : ¬ (1 ≤ k ∧ k ≤ t ∧ t ≤ 255)) (w : World) :
    Calls Tryz.prog 137 #[.int .i64 k, .int .i64 t] w fun e w' => e = .returned (.bool false) ∧ w = w' := by
  by_cases h1 : 1 ≤ k
  · by_cases h2 : k ≤ t
    · have h3 : ¬ t ≤ 255 := by omega
      clear h
      go_enter Tryz.func137, Tryz.ntmps137
      go_wp2
      go_ret
      exact ⟨rfl, rfl⟩
    · clear h
      go_enter Tryz.func137, Tryz.ntmps137
      go_wp2
      go_ret
      exact ⟨rfl, rfl⟩
  · clear h
    go_enter Tryz.func137, Tryz.ntmps137
    go_wp2
    go_ret
    exact ⟨rfl, rfl⟩

theorem owns_below {w w' : World} {base size n : Nat} {e : TypeId} {v : Value} {xs : List Value} (h : w.ownsRow base e size v n xs) (k : Below w.heap.size w w') : w'.ownsRow base e size v n xs := by
  obtain ⟨h1, h2⟩ := h
  refine ⟨h1, ?_⟩
  rcases h2 with h2 | ⟨g, cap, cur, h3, h4, h5, h6⟩
  · exact .inl h2
  · exact .inr ⟨g, cap, cur, h3, h4, (k.block g (lt_of_heap h5)).trans h5, h6⟩
/-- a row of pieces, its first k elements -/
theorem ps_of_owns {w : World} {base g cap n k c : Nat} {ps : List (Int × Sl)} (h : w.ownsRow base 68 2 (.slice (some ⟨g, 0, none⟩) n cap) n (pcells ps)) (hk : k ≤ ps.length) : Ps w (.slice (some ⟨g, 0, none⟩) k c) (ps.take k) := by
  obtain ⟨h1, h2⟩ := h
  rcases h2 with ⟨h2, _⟩ | ⟨g', cap', cur, h3, h4, h5, _, _, _, h6⟩
  · cases h2
  · simp only [Value.slice.injEq, Option.some.injEq, Addr.mk.injEq, and_true, true_and] at h3
    obtain ⟨rfl, _⟩ := h3
    have hlen : (ps.take k).length = k := by simp; omega
    have hpl : n = ps.length := by rw [pcells_length] at h1; omega
    refine ⟨_, c, by rw [hlen], fun _ => ⟨g, 0, rfl, fun i hi => ?_⟩⟩
    rw [hlen] at hi
    have e : ∀ j, j < n * 2 → cur[j]? = (pcells ps)[j]? := fun j hj => by
      rw [← h6, List.getElem?_take_of_lt hj, Array.getElem?_toList]
    have hi2 : i < ps.length := by omega
    rw [Nat.zero_add, cell_of_heap h5, cell_of_heap h5, e _ (by omega), e _ (by omega), pcells_get0 ps i hi2, pcells_get1 ps i hi2]
    simp
theorem cells_of_new2 (w : World) (x y : Value) (t : TypeId) : ∀ (j : Nat) (u : Value), [x, y][j]? = some u → (w.alloc (.cells #[x, y] t)).cell? ((⟨w.heap.size, 0, none⟩ : Addr).add j) = some u := by
  intro j u h
  match j with
  | 0 =>
    simp at h
    subst h
    show (w.alloc (.cells #[x, y] t)).cell? ⟨w.heap.size, 0, none⟩ = some x
    simp
  | 1 =>
    simp at h
    subst h
    show (w.alloc (.cells #[x, y] t)).cell? ⟨w.heap.size, 0 + 1, none⟩ = some y
    simp
  | j + 2 => simp at h
theorem mkps_snoc (bf : Nat → Nat) (L i nb : Nat) : pcells (mkps bf L i i) ++ [.int .i64 (i : Int), .slice (some ⟨nb, 0, none⟩) L L] = pcells (mkps (fun j => if j = i then nb else bf j) L (i + 1) (i + 1)) := by
  have e : mkps (fun j => if j = i then nb else bf j) L (i + 1) (i + 1) = mkps bf L i i ++ [((i : Int), some ⟨nb, 0, none⟩, L, L)] := by
    apply List.ext_getElem?
    intro j
    unfold mkps
    by_cases hj : j < i
    · rw [List.getElem?_append_left (by simpa using hj)]
      simp [hj, show j < i + 1 by omega, show ¬ j = i by omega]
    · rw [List.getElem?_append_right (by simp; omega)]
      by_cases h2 : j = i
      · subst h2; simp
      · rw [List.getElem?_eq_none (by simp; omega), List.getElem?_eq_none (by simp; omega)]
  rw [e, pcells_append]
  rfl

theorem step_append_own {P : Program} {ops : Array Oper} {o : Oper} {a : Act} {w : World} {K : Act → World → Prop} {Q : Exit → Act → World → Prop} {E : Prop} (hgd : o.guard = none) (s x : Operand) (t : TypeId)
    (ho : o.op = .call { callee := .builtin .append, args := #[s, x], argTypes := #[t, t] })
    (base : Nat) (e : TypeId) (i : TypeInfo) (z : Value) (size bytes : Nat) (ht : P.underlying t = some (.slice e)) (hi : P.info? e = some i) (hz : i.zero = some z)
    (hsize : i.size = size) (hby : i.bytes = bytes) (hzs : z.cells.size = size) (hsz : 0 < size)
    (v : Value) (n : Nat) (xs : List Value) (hs : a.eval s = v) (hown : w.ownsRow base e size v n xs)
    (ad : Addr) (m c : Nat) (news : List Value) (hx : a.eval x = .slice (some ad) m c) (hl : news.length = m * size) (hnews : ∀ j u, news[j]? = some u → w.cell? (ad.add j) = some u) (h1 : ∀ u ∈ news, u.oneCell' = true)
    (h63 : n + m ≤ maxLen) (hbytes : (n + m) * bytes ≤ 140737488355328) (hbase : base ≤ w.heap.size)
    (hK : ∀ v' w', w'.ownsRow base e size v' (n + m) (xs ++ news) → w.grownBy w' v.ownBlock → K (a.put o.dst v') w') :
    if Region.wanted o (yielded ops a.tmps) = true then Oper.wp P o a w K Q else E := by
  have hw : Region.wanted o (yielded ops a.tmps) = true := by simp [Region.wanted, hgd]
  rw [if_pos hw]
  exact wp_append_own w s x t ho base e i z size bytes ht hi hz hsize hby hzs hsz v n xs hs hown ad m c news hx hl hnews h1 h63 hbytes hbase fun v' w' h2 h3 _ => hK v' w' h2 h3
theorem chainA {wr wA : World} (h1 : Below wr.drew.heap.size wr.drew wA) : Below wr.heap.size wr wA := ⟨h1.os, h1.tape, h1.output, h1.size, h1.block⟩
theorem chainB {wr wA wB : World} (h1 : Below wr.drew.heap.size wr.drew wA) (h2 : Below wA.heap.size wA wB) : Below wr.heap.size wr wB := (chainA h1).trans (h2.mono h1.size)
theorem chainC {wr wA wB wC : World} (h1 : Below wr.drew.heap.size wr.drew wA) (h2 : Below wA.heap.size wA wB) (h3 : Below wB.heap.size wB wC) : Below wr.heap.size wr wC := (chainB h1 h2).trans (h3.mono (Nat.le_trans h1.size h2.size))
theorem two_one (x y : Int) (a b : Option Addr) (n m n' m' : Nat) (k : IntKind) : ∀ u ∈ [Value.int k x, Value.slice a n m], u.oneCell' = true := by
  intro u hu; simp at hu; rcases hu with rfl | rfl <;> rfl

/-- what the loops of Split keep -/
structure RSInv (B L k : Nat) (bf : Nat → Nat) (d : List Nat) (w wr : World) (v : Value) (i : Nat) : Prop where
  own : wr.ownsRow B 68 2 v i (pcells (mkps bf L i i))
  rows : ∀ j, j < i → Own wr (bf j) (encP d k L j)
  below : Below B w wr
theorem RSInv.step {B L k i nb : Nat} {bf : Nat → Nat} {d : List Nat} {w wr w1 w2 w3 : World} {v v' : Value} (h : RSInv B L k bf d w wr v i) (hB : B ≤ wr.heap.size) (h1 : Below wr.heap.size wr w1) (hnb : Own w1 nb (encP d k L i))
    (h2 : w2 = w1.alloc (.cells #[.int .i64 (i : Int), .slice (some ⟨nb, 0, none⟩) L L] 68)) (h3 : w3.ownsRow B 68 2 v' (i + 1) (pcells (mkps bf L i i) ++ [.int .i64 (i : Int), .slice (some ⟨nb, 0, none⟩) L L])) (h4 : w2.grownBy w3 v.ownBlock) :
    RSInv B L k (fun j => if j = i then nb else bf j) d w w3 v' (i + 1) := by
  subst h2
  have hs1 := h1.size
  have hne : ∀ g, v.ownBlock = some g → g ≠ nb ∧ (∀ j, j < i → bf j ≠ g) := fun g hg => by
    obtain ⟨_, h7⟩ := h.own
    rcases h7 with ⟨h8, _⟩ | ⟨g', cap, cur, h8, _, h9, _⟩
    · subst h8; cases hg
    · subst h8
      simp [Value.ownBlock] at hg
      subst hg
      refine ⟨fun e => ?_, fun j hj e => ?_⟩
      · subst e
        have h10 := (h1.block g' (lt_of_heap h9)).trans h9
        rw [hnb] at h10
        simp at h10
      · have h10 := h.rows j hj
        rw [e] at h10
        unfold Own at h10
        rw [h9] at h10
        simp at h10
  have hkeep : ∀ b l, Own w1 b l → (∀ g, v.ownBlock = some g → b ≠ g) → Own w3 b l := fun b l hb hg => by
    have h5 := hb.lt
    refine (h4.block b (by simp; omega) (fun e => ?_)).trans (hb.alloc _)
    exact hg b e.symm rfl
  refine ⟨by rw [← mkps_snoc]; exact h3, fun j hj => ?_, ?_⟩
  · show Own w3 (if j = i then nb else bf j) _
    by_cases e : j = i
    · rw [if_pos e, e]; exact hkeep nb _ hnb (fun g hg => fun e2 => (hne g hg).1 e2.symm)
    · rw [if_neg e]
      have h6 := h.rows j (by omega)
      exact hkeep _ _ (h6.below h1 h6.lt) (fun g hg => (hne g hg).2 j (by omega))
  · refine ((h.below.trans (h1.mono hB)).alloc (by omega) _).grown h4 (by simp; omega) (fun g hg => ?_)
    obtain ⟨_, h7⟩ := h.own
    rcases h7 with ⟨h8, _⟩ | ⟨g', cap, cur, h8, h9, _⟩
    · subst h8; cases hg
    · subst h8; simp [Value.ownBlock] at hg; omega

theorem pzero : ((Tryz.prog.info? 68).map (fun i => (i.zero, i.size, i.bytes))) = some (some (.agg #[.int .i64 0, .slice none 0 0]), 2, 32) := by kernel_rfl
theorem spl_upTo (d : List Nat) (L i q : Nat) (hq : q ≤ L) (h : q = L ∨ d.length ≤ i * L + q) : upTo L (fun c => d.getD (i * L + c) 0) q = spl d L i := by
  unfold upTo spl
  apply List.map_congr_left
  intro c hc
  have hcL := List.mem_range.1 hc
  by_cases h2 : c < q
  · rw [if_pos h2]
  · rw [if_neg h2, List.getD_eq_getElem?_getD, List.getElem?_eq_none (by omega)]; rfl
end Go.Proofs.YtjgiiciniplbnaaGreatDoor

namespace Go.Proofs.YtjgiiciniplbnaaGreatDoor
open Go Go.RowKit Go.Lib Go.Sort
set_option linter.unusedVariables false

/-- what a Gather holds -/
structure Gs where
  k : Int
  n : Int
  t : Int
  s : Int
  od : List Nat
  ma : Option Addr
  mm : Nat
  mc : Nat
  D : List (List Nat)
  pa : Option Addr
  pc : Nat
  ps : List (Int × Sl)
  Dd : Nat → List Nat
def Gs.man (g : Gs) : List Value := mcells g.k g.n g.t g.s g.od (.slice g.ma g.mm g.mc)
def Gs.pv (g : Gs) : Value := .slice g.pa g.ps.length g.pc
def Gs.empty : Gs := ⟨0, 0, 0, 0, List.replicate 32 0, none, 0, 0, [], none, 0, [], fun _ => []⟩
/-- .. in memory: everything lies from B on, the field and the Gather before it -/
structure GsAt (g : Gs) (gb fb B : Nat) (obj : List Nat) (w : World) : Prop where
  ho : obj.length = 32
  hod : g.od.length = 32
  gB : gb < B
  fB : fb < B
  ne : gb ≠ fb
  bw : B ≤ w.heap.size
  gth : GthAt w gb obj g.man g.pv
  row : w.ownsRow B 68 2 g.pv g.ps.length (pcells g.ps)
  dgs : Dgs w g.ma g.mm g.mc g.D
  mm : g.mm ≤ 100000
  far : g.D ≠ [] → ∀ ad, g.ma = some ad → B ≤ ad.block ∧ g.pv.ownBlock ≠ some ad.block
  dat : PDat w g.ps g.Dd
  wf : ∀ p ∈ g.ps, (Lit.int .i64 p.1).wf = true
  dfar : ∀ i, (h : i < g.ps.length) → g.Dd i ≠ [] → ∀ ad, g.ps[i].2.1 = some ad → B ≤ ad.block ∧ g.pv.ownBlock ≠ some ad.block
theorem Bs.keptQ {w w' : World} {n c : Nat} {a : Option Addr} {l : List Nat} (h : Bs w (.slice a n c) l) (ho : l ≠ [] → ∀ ad, a = some ad → ad.block < w.heap.size → w'.heap[ad.block]? = w.heap[ad.block]?) : Bs w' (.slice a n c) l := by
  obtain ⟨a', c', h1, h2, h3⟩ := h
  refine ⟨a', c', h1, h2, fun hl => ?_⟩
  obtain ⟨q, o, ha, hc⟩ := h3 hl
  simp only [Value.slice.injEq] at h1
  refine ⟨q, o, ha, fun i hi => ?_⟩
  have h4 := hc i hi
  have h5 := ho hl _ (h1.1.trans ha) (World.block_lt_of_cell? _ ⟨q, o + i, none⟩ h4)
  rw [World.cell?_of_block (a := ⟨q, o + i, none⟩) h5]
  exact h4
theorem Dgs.keptQ {w w' : World} {a : Option Addr} {m c : Nat} {D : List (List Nat)} (h : Dgs w a m c D) (ho : D ≠ [] → ∀ ad, a = some ad → ad.block < w.heap.size → w'.heap[ad.block]? = w.heap[ad.block]?) : Dgs w' a m c D := by
  refine ⟨?_, h.cap, h.nil⟩
  obtain ⟨a', c', h1, h2, h3⟩ := h.at_
  refine ⟨a', c', h1, h2, fun hne => ?_⟩
  obtain ⟨b, o, ha, hr⟩ := h3 hne
  simp only [Value.slice.injEq] at h1
  refine ⟨b, o, ha, fun j hj => fun i u hu => ?_⟩
  have h4 := hr j hj i u hu
  have h5 := ho hne ⟨b, o, none⟩ (by rw [h1.1]; exact ha) (World.block_lt_of_cell? _ ⟨b, o + j * 32 + i, none⟩ h4)
  rw [World.cell?_of_block (a := ⟨b, o + j * 32 + i, none⟩) h5]
  exact h4
theorem gs_row {w w' : World} {B fb n : Nat} {v : Value} {xs : List Value} (h : w.ownsRow B 68 2 v n xs) (k : Kept fb w w') (hf : fb < B) : w'.ownsRow B 68 2 v n xs := by
  obtain ⟨h1, h2⟩ := h
  exact ⟨h1, h2.imp id fun ⟨g, cap, cur, h3, h4, h5, r⟩ => ⟨g, cap, cur, h3, h4, (k.block g (lt_of_heap h5) (by omega)).trans h5, r⟩⟩
theorem GsAt.kept {g : Gs} {gb fb B : Nat} {obj : List Nat} {w w' : World} (h : GsAt g gb fb B obj w) (k : Kept fb w w') : GsAt g gb fb B obj w' where
  ho := h.ho
  hod := h.hod
  gB := h.gB
  fB := h.fB
  ne := h.ne
  bw := Nat.le_trans h.bw k.size
  gth := (k.block gb (lt_of_heap h.gth) h.ne).trans h.gth
  row := gs_row h.row k h.fB
  dgs := h.dgs.keptQ (fun hne ad e hl => k.block _ hl (by have := (h.far hne ad e).1; have := h.fB; omega))
  mm := h.mm
  far := h.far
  dat := fun i hi => ⟨(h.dat i hi).1.keptQ (fun hne ad e hl => k.block _ hl (by have := (h.dfar i hi hne ad e).1; have := h.fB; omega)), (h.dat i hi).2⟩
  wf := h.wf
  dfar := h.dfar
theorem GsAt.below {g : Gs} {gb fb B : Nat} {obj : List Nat} {w w' : World} (h : GsAt g gb fb B obj w) (k : Below w.heap.size w w') : GsAt g gb fb B obj w' := h.kept (Kept.of_below k)
theorem GsAt.hM {g : Gs} {gb fb B : Nat} {obj : List Nat} {w : World} (h : GsAt g gb fb B obj w) : g.man.length = 37 := mcells_length _ _ _ _ _ _ h.hod
theorem GsAt.new {gb fb : Nat} {obj : List Nat} {w : World} (ho : obj.length = 32) (hne : gb ≠ fb) (hf : fb < w.heap.size) (h : GthAt w gb obj mz0 (.slice none 0 0)) : GsAt Gs.empty gb fb w.heap.size obj w where
  ho := ho
  hod := rfl
  gB := lt_of_heap h
  fB := hf
  ne := hne
  bw := Nat.le_refl _
  gth := h
  row := ⟨rfl, .inl ⟨rfl, rfl⟩⟩
  dgs := ⟨⟨none, 0, rfl, by simp [Gs.empty], fun h => absurd rfl h⟩, by simp [Gs.empty], fun _ => rfl⟩
  mm := Nat.zero_le _
  far := fun _ _ e => by cases e
  dat := fun i hi => absurd hi (Nat.not_lt_zero _)
  wf := fun _ h => by cases h
  dfar := fun i hi => absurd hi (Nat.not_lt_zero _)
/-- the pieces may be read as long as only the field is written -/
theorem GsAt.held {g : Gs} {gb fb B : Nat} {obj : List Nat} {w : World} (h : GsAt g gb fb B obj w) : Held fb w g.pv g.ps g.Dd := fun w' k => by
  have h1 := h.kept k
  refine ⟨?_, fun i hi => (h1.dat i hi).1⟩
  rcases h1.row.2 with ⟨h2, h3⟩ | ⟨q, cap, cur, h2, _⟩
  · unfold Gs.pv at h2 ⊢
    exact ⟨_, _, rfl, fun hl => absurd (List.length_eq_zero_iff.1 h3) hl⟩
  · have h4 := h1.row
    unfold Gs.pv at h2 h4 ⊢
    rw [h2] at h4 ⊢
    have h5 := ps_of_owns (c := cap) h4 (Nat.le_refl _)
    rwa [List.take_length] at h5
/-- a piece more -/
def Gs.add (g : Gs) (k n t s : Int) (od : List Nat) (ma : Option Addr) (mm mc : Nat) (D : List (List Nat)) (rb cap : Nat) (x : Int) (a5 : Option Addr) (qn c5 : Nat) (pl : List Nat) : Gs :=
  if g.ps = [] then ⟨k, n, t, s, od, ma, mm, mc, D, some ⟨rb, 0, none⟩, cap, [(x, a5, qn, c5)], fun _ => pl⟩
  else { g with pa := some ⟨rb, 0, none⟩, pc := cap, ps := g.ps ++ [(x, a5, qn, c5)], Dd := fun i => if i < g.ps.length then g.Dd i else pl }
theorem Gs.add_ps (g : Gs) (k n t s : Int) (od : List Nat) (ma : Option Addr) (mm mc : Nat) (D : List (List Nat)) (rb cap : Nat) (x : Int) (a5 : Option Addr) (qn c5 : Nat) (pl : List Nat) : (g.add k n t s od ma mm mc D rb cap x a5 qn c5 pl).ps = g.ps ++ [(x, a5, qn, c5)] := by
  unfold Gs.add
  split
  case isTrue h => rw [h]; rfl
  case isFalse => rfl
theorem GsAt.add {g : Gs} {gb fb B : Nat} {obj : List Nat} {w w' : World} (h : GsAt g gb fb B obj w) {k n t s : Int} {od : List Nat} (hod : od.length = 32) {m : Nat} (hm : m ≤ 100000) {D : List (List Nat)} {x : Int} (hx : (Lit.int .i64 x).wf = true) {qn : Nat} {pl : List Nat} (hqn : qn ≤ 800000000) {M' : List Value} {rb cap : Nat} {a5 : Option Addr} {c5 : Nat}
    (hG : GthAt w' gb obj M' (.slice (some ⟨rb, 0, none⟩) (g.ps.length + 1) cap)) (h0 : g.ps.length = 0 → ∃ a' c', M' = mcells k n t s od (.slice a' m c') ∧ Dgs w' a' m c' D ∧ ∀ ad, a' = some ad → w.heap.size ≤ ad.block ∧ (D ≠ [] → ad.block ≠ rb)) (h1 : g.ps.length ≠ 0 → M' = g.man)
    (hr : w'.ownsRow B 68 2 (.slice (some ⟨rb, 0, none⟩) (g.ps.length + 1) cap) (g.ps.length + 1) (pcells (g.ps ++ [(x, a5, qn, c5)]))) (hb : Bs w' (.slice a5 qn c5) pl) (hc5 : qn ≤ c5) (hn5 : a5 = none → c5 = 0) (hl5 : ∀ ad, a5 = some ad → w.heap.size ≤ ad.block ∧ (pl ≠ [] → ad.block ≠ rb)) (hs : SameRow w g.pv (.slice (some ⟨rb, 0, none⟩) (g.ps.length + 1) cap)) (hk : KeptR gb g.pv w w') :
    ∃ ma mc, GsAt (g.add k n t s od ma m mc D rb cap x a5 qn c5 pl) gb fb B obj w' := by
  have hbw := h.bw
  have hsz := hk.size
  have hnew : ∀ ad : Addr, w.heap.size ≤ ad.block → ad.block ≠ rb → B ≤ ad.block ∧ (Value.slice (some ⟨rb, 0, none⟩) (g.ps.length + 1) cap).ownBlock ≠ some ad.block := fun ad h2 h3 => ⟨by omega, fun e => h3 (by simpa [Value.ownBlock] using e.symm)⟩
  have hold : ∀ ad : Addr, ad.block < w.heap.size → g.pv.ownBlock ≠ some ad.block → (Value.slice (some ⟨rb, 0, none⟩) (g.ps.length + 1) cap).ownBlock ≠ some ad.block := fun ad h2 h3 e => by
    rcases hs _ e with h4 | h4
    · exact h3 h4
    · omega
  by_cases hp : g.ps = []
  · obtain ⟨ma, mc, h2, h3, h4⟩ := h0 (by rw [hp]; rfl)
    refine ⟨ma, mc, ?_⟩
    rw [hp] at hG hr hnew
    unfold Gs.add
    rw [if_pos hp]
    exact { ho := h.ho, hod := hod, gB := h.gB, fB := h.fB, ne := h.ne, bw := by omega, gth := by rw [h2] at hG; exact hG, row := hr, dgs := h3, mm := hm,
            far := fun hne ad e => hnew ad (h4 ad e).1 ((h4 ad e).2 hne)
            dat := fun i hi => by
              obtain rfl : i = 0 := by simp at hi; exact hi
              exact ⟨hb, hc5, hn5, hqn⟩
            wf := fun p hp => by
              simp only [List.mem_singleton] at hp
              rw [hp]; exact hx
            dfar := fun i hi hne ad e => by
              obtain rfl : i = 0 := by simp at hi; exact hi
              exact hnew ad (hl5 ad e).1 ((hl5 ad e).2 hne) }
  · refine ⟨none, 0, ?_⟩
    have hpl : g.ps.length ≠ 0 := fun e => hp (List.length_eq_zero_iff.1 e)
    rw [h1 hpl] at hG
    unfold Gs.add
    rw [if_neg hp]
    have hlen : (g.ps ++ [(x, a5, qn, c5)]).length = g.ps.length + 1 := by simp
    have hpv : (Value.slice (some ⟨rb, 0, none⟩) (g.ps ++ [(x, a5, qn, c5)]).length cap) = .slice (some ⟨rb, 0, none⟩) (g.ps.length + 1) cap := by rw [hlen]
    have hpos : ∀ i, i < g.ps.length → (g.ps ++ [(x, a5, qn, c5)])[i]? = g.ps[i]? := fun i hi => List.getElem?_append_left hi
    exact { ho := h.ho, hod := h.hod, gB := h.gB, fB := h.fB, ne := h.ne, bw := by omega
            gth := by show GthAt w' gb obj g.man (.slice (some ⟨rb, 0, none⟩) (g.ps ++ [(x, a5, qn, c5)]).length cap); rw [hpv]; exact hG
            row := by show w'.ownsRow B 68 2 (.slice (some ⟨rb, 0, none⟩) (g.ps ++ [(x, a5, qn, c5)]).length cap) (g.ps ++ [(x, a5, qn, c5)]).length _; rw [hpv, hlen]; exact hr
            dgs := h.dgs.keptQ (fun hne ad e hl => hk.block _ hl (by have := (h.far hne ad e).1; have := h.gB; omega) (h.far hne ad e).2)
            mm := h.mm
            far := fun hne ad e => by
              show B ≤ ad.block ∧ (Value.slice (some ⟨rb, 0, none⟩) (g.ps ++ [(x, a5, qn, c5)]).length cap).ownBlock ≠ some ad.block
              rw [hpv]
              exact ⟨(h.far hne ad e).1, hold ad (h.dgs.blk hne ad e) (h.far hne ad e).2⟩
            dat := fun i hi => by
              by_cases hi2 : i < g.ps.length
              · have e : (g.ps ++ [(x, a5, qn, c5)])[i] = g.ps[i] := List.getElem_append_left hi2
                show Bs w' (.slice (g.ps ++ [(x, a5, qn, c5)])[i].2.1 (g.ps ++ [(x, a5, qn, c5)])[i].2.2.1 (g.ps ++ [(x, a5, qn, c5)])[i].2.2.2) (if i < g.ps.length then g.Dd i else pl) ∧ _
                rw [if_pos hi2, e]
                exact ⟨(h.dat i hi2).1.keptQ (fun hne ad e hl => hk.block _ hl (by have := (h.dfar i hi2 hne ad e).1; have := h.gB; omega) (h.dfar i hi2 hne ad e).2), (h.dat i hi2).2⟩
              · have hi3 : i = g.ps.length := by have : i < (g.ps ++ [(x, a5, qn, c5)]).length := hi; rw [hlen] at this; omega
                subst hi3
                have e : (g.ps ++ [(x, a5, qn, c5)])[g.ps.length]'hi = (x, a5, qn, c5) := by simp
                show Bs w' (.slice (g.ps ++ [(x, a5, qn, c5)])[g.ps.length].2.1 (g.ps ++ [(x, a5, qn, c5)])[g.ps.length].2.2.1 (g.ps ++ [(x, a5, qn, c5)])[g.ps.length].2.2.2) (if g.ps.length < g.ps.length then g.Dd g.ps.length else pl) ∧ _
                rw [if_neg (Nat.lt_irrefl _), e]
                exact ⟨hb, hc5, hn5, hqn⟩
            wf := fun p hp => by
              rcases List.mem_append.1 hp with h9 | h9
              · exact h.wf p h9
              · simp only [List.mem_singleton] at h9; rw [h9]; exact hx
            dfar := fun i hi hne ad e => by
              show B ≤ ad.block ∧ (Value.slice (some ⟨rb, 0, none⟩) (g.ps ++ [(x, a5, qn, c5)]).length cap).ownBlock ≠ some ad.block
              rw [hpv]
              by_cases hi2 : i < g.ps.length
              · have e2 : (g.ps ++ [(x, a5, qn, c5)])[i] = g.ps[i] := List.getElem_append_left hi2
                have hne2 : g.Dd i ≠ [] := by
                  have h9 : (if i < g.ps.length then g.Dd i else pl) ≠ [] := hne
                  rwa [if_pos hi2] at h9
                have e3 : g.ps[i].2.1 = some ad := by
                  have h9 : (g.ps ++ [(x, a5, qn, c5)])[i].2.1 = some ad := e
                  rwa [e2] at h9
                exact ⟨(h.dfar i hi2 hne2 ad e3).1, hold ad ((h.dat i hi2).1.blk hne2 ad e3) (h.dfar i hi2 hne2 ad e3).2⟩
              · have hi3 : i = g.ps.length := by have : i < (g.ps ++ [(x, a5, qn, c5)]).length := hi; rw [hlen] at this; omega
                subst hi3
                have e2 : (g.ps ++ [(x, a5, qn, c5)])[g.ps.length]'hi = (x, a5, qn, c5) := by simp
                have hne2 : pl ≠ [] := by
                  have h9 : (if g.ps.length < g.ps.length then g.Dd g.ps.length else pl) ≠ [] := hne
                  rwa [if_neg (Nat.lt_irrefl _)] at h9
                have e3 : a5 = some ad := by
                  have h9 : ((g.ps ++ [(x, a5, qn, c5)])[g.ps.length]'hi).2.1 = some ad := e
                  rwa [e2] at h9
                exact hnew ad (hl5 ad e3).1 ((hl5 ad e3).2 hne2) }
end Go.Proofs.YtjgiiciniplbnaaGreatDoor

namespace Go.Proofs.YtjgiiciniplbnaaGreatDoor
open Go Go.RowKit Go.Lib Go.Sort
set_option linter.unusedVariables false

/-- the id of a manifest -/
def idV (k n t s : Int) (m : Nat) (od : List Nat) (D : List (List Nat)) : List Nat := if manB k n t s m = true then dig shaRound shaStart (encTo k.toNat n.toNat t.toNat s.toNat od D t.toNat) else List.replicate 32 0
theorem idV_length (k n t s : Int) (m : Nat) (od : List Nat) (D : List (List Nat)) : (idV k n t s m od D).length = 32 := by
  unfold idV
  split
  · exact dig_length _ _ _
  · simp
theorem id_any (k n t s : Int) (od : List Nat) (a : Option Addr) (m c : Nat) (D : List (List Nat)) (h : od.length = 32) (hol : ∀ x ∈ od, x < 256) (w : World) (V : Vars w shaRound shaStart) (hD : Dgs w a m c D) :
    Calls Tryz.prog 59 #[.agg (mcells k n t s od (.slice a m c)).toArray] w fun e w' => e = .returned (.tuple #[.agg (u8s (idV k n t s m od D)).toArray, .int .i64 (manE k n t s m)]) ∧ Below w.heap.size w w' := by
  unfold idV manE
  cases hb : manB k n t s m with
  | false => exact id_bad k n t s od a m c h w hb
  | true =>
    have hok := hb
    unfold manB vnB vcB at hok
    simp only [Bool.and_eq_true, decide_eq_true_eq] at hok
    obtain ⟨k', rfl⟩ : ∃ y : Nat, k = y := ⟨k.toNat, by omega⟩
    obtain ⟨n', rfl⟩ : ∃ y : Nat, n = y := ⟨n.toNat, by omega⟩
    obtain ⟨t', rfl⟩ : ∃ y : Nat, t = y := ⟨t.toNat, by omega⟩
    obtain ⟨s', rfl⟩ : ∃ y : Nat, s = y := ⟨s.toNat, by omega⟩
    exact id_ok k' n' t' s' od D _ h hol w V hD.at_ (by rw [← hD.len]; exact hb)
theorem gchk_zero {ie : Int} {same : Bool} {ce : Int} {has rdy : Bool} (h : gchk ie same ce has rdy = 0) : ie = 0 ∧ same = true ∧ ce = 0 ∧ has = false ∧ rdy = false := by
  unfold gchk at h
  split at h
  case isTrue h1 => exact absurd h h1
  case isFalse h1 =>
  split at h
  case isTrue => exact absurd h (by decide)
  case isFalse h2 =>
  split at h
  case isTrue h3 => exact absurd h h3
  case isFalse h3 =>
  split at h
  case isTrue => exact absurd h (by decide)
  case isFalse h4 =>
  split at h
  case isTrue => exact absurd h (by decide)
  case isFalse h5 => exact ⟨by omega, by simpa using h2, by omega, by simpa using h4, by simpa using h5⟩
/-- a Gather's manifest has the Gather's object for its id -/
def Gs.Good (g : Gs) (obj : List Nat) : Prop := g.ps ≠ [] → (∀ y ∈ g.od, y < 256) ∧ manB g.k g.n g.t g.s g.mm = true ∧ idV g.k g.n g.t g.s g.mm g.od g.D = obj
/-- the pieces' row lies from B on -/
theorem GsAt.own {g : Gs} {gb fb B : Nat} {obj : List Nat} {w : World} (h : GsAt g gb fb B obj w) : ∀ j, g.pv.ownBlock = some j → B ≤ j := fun j hj => by
  rcases h.row.2 with ⟨h2, _⟩ | ⟨q, cap', cur, h2, h3, _⟩
  · rw [h2] at hj; cases hj
  · rw [h2] at hj
    have : q = j := by simpa [Value.ownBlock] using hj
    omega
set_option maxRecDepth 100000 in
set_option maxHeartbeats 1000000 in
theorem Gs_offer (g : Gs) (gb fb B : Nat) (obj : List Nat) (w : World) (h : GsAt g gb fb B obj w) (hg : g.Good obj) (V : Vars w shaRound shaStart) (hq : g.ps.length ≤ 1000)
    (k n t s : Int) (od : List Nat) (hod : od.length = 32) (hob : ∀ y ∈ od, y < 256) (a : Option Addr) (m c : Nat) (D : List (List Nat)) (hD : Dgs w a m c D) (hm : m ≤ 100000)
    (x : Int) (hx : (Lit.int .i64 x).wf = true) (qa : Option Addr) (qn qc : Nat) (pl : List Nat) (hp : Bs w (.slice qa qn qc) pl) (hpc : qn ≤ qc) (hqn : qa = none → qc = 0) (hql : qn ≤ 800000000) (hoff : Off gb (.slice qa qn qc)) :
    Calls Tryz.prog 44 #[.pointer (some ⟨gb, 0, none⟩), .agg (mcells k n t s od (.slice a m c)).toArray, .agg #[.int .i64 x, .slice qa qn qc]] w fun e w' =>
      ∃ E g', e = .returned (.int .i64 E) ∧ GsAt g' gb fb B obj w' ∧ g'.Good obj ∧ KeptR gb g.pv w w' ∧ g'.ps.length ≤ g.ps.length + 1 := by
  obtain ⟨ix, hix⟩ : ∃ ix : Nat → Int, ix = fun i => (g.ps.getD i (0, none, 0, 0)).1 := ⟨_, rfl⟩
  obtain ⟨sl, hsl⟩ : ∃ sl : Nat → Value, sl = fun i => .slice (g.ps.getD i (0, none, 0, 0)).2.1 (g.ps.getD i (0, none, 0, 0)).2.2.1 (g.ps.getD i (0, none, 0, 0)).2.2.2 := ⟨_, rfl⟩
  have hwf : ∀ i, (Lit.int .i64 (ix i)).wf = true := fun i => by
    rw [hix]
    dsimp only
    rw [List.getD_eq_getElem?_getD]
    by_cases hi : i < g.ps.length
    · rw [List.getElem?_eq_getElem hi]; exact h.wf _ (List.getElem_mem _)
    · rw [List.getElem?_eq_none (by omega)]; rfl
  have hP : ∀ i, i < g.ps.length → ∃ q o, g.pa = some ⟨q, o, none⟩ ∧ w.cell? ⟨q, o + i * 2, none⟩ = some (.int .i64 (ix i)) ∧ w.cell? ⟨q, o + i * 2 + 1, none⟩ = some (sl i) ∧ (sl i).oneCell' = true := fun i hi => by
    obtain ⟨a', c', h1, h2⟩ := h.held.now.1
    obtain ⟨b, o, h3, h4⟩ := h2 (fun e => by rw [e] at hi; exact absurd hi (Nat.not_lt_zero _))
    unfold Gs.pv at h1
    simp only [Value.slice.injEq] at h1
    have e : g.ps.getD i (0, none, 0, 0) = g.ps[i] := by rw [List.getD_eq_getElem?_getD, List.getElem?_eq_getElem hi]; rfl
    refine ⟨b, o, h1.1.trans h3, ?_, ?_, by rw [hsl]; rfl⟩
    · rw [hix]; dsimp only; rw [e]; exact (h4 i hi).1
    · rw [hsl]; dsimp only; rw [e]; exact (h4 i hi).2
  have HM := mcells_length k n t s od (.slice a m c) hod
  have HC := fun (wx : World) (b : Below w.heap.size w wx) => check_any gb obj h.ho g.k g.n g.t g.s g.od (.slice g.ma g.mm g.mc) h.hM g.pa g.ps.length g.pc (by omega) ix hwf sl wx (h.gth.below b)
    (fun i hi => by
      obtain ⟨q, o, h1, h2, h3, h4⟩ := hP i hi
      exact ⟨q, o, h1, (b.cell (World.block_lt_of_cell? _ ⟨q, o + i * 2, none⟩ h2)).trans h2, (b.cell (World.block_lt_of_cell? _ ⟨q, o + i * 2 + 1, none⟩ h3)).trans h3, h4⟩)
    (mcells k n t s od (.slice a m c)) HM x qa qn qc (idV k n t s m od D) (idV_length _ _ _ _ _ _ _) (manE k n t s m) (cpE k n t s m D x pl)
    (fun wy by' => id_any k n t s od a m c D hod hob wy (V.below (b.trans (by'.mono b.size))) (hD.below (b.trans (by'.mono b.size))))
    (fun wy by' => chp_any wy (V.below (b.trans (by'.mono b.size))) k n t s od a m c D hod (hD.below (b.trans (by'.mono b.size))) x qa qn qc pl (hp.below (b.trans (by'.mono b.size))) hpc hqn hql)
  obtain ⟨E, hE⟩ : ∃ y, y = gchk (manE k n t s m) (decide (idV k n t s m od D = obj)) (cpE k n t s m D x pl) (((List.range g.ps.length).map ix).contains x) (decide (0 < g.ps.length) && decide (g.k ≤ (g.ps.length : Int))) := ⟨_, rfl⟩
  rw [← hE] at HC
  by_cases h0 : E = 0
  · subst h0
    obtain ⟨z1, z2, z3, z4, z5⟩ := gchk_zero hE.symm
    refine (Offer_any gb obj h.ho g.man h.hM g.pa g.ps.length g.pc g.ps B k n t s od hod a m c D w hD hm x qa qn qc pl hp hqn (by omega) hoff h.gth h.row hq h.bw HC).mono ?_
    rintro e w' ⟨rfl, M', rb, cap, a5, c5, hM', hG, hz, hnz, hr, hb, hc5, hn5, hl5, hs, hk⟩
    obtain ⟨ma, mc, hA⟩ := h.add hod hm hx hql hG hz hnz hr hb hc5 hn5 hl5 hs hk
    refine ⟨0, _, rfl, hA, ?_, hk, by rw [Gs.add_ps]; simp⟩
    intro _
    unfold Gs.add
    split
    case isTrue hp0 => exact ⟨hob, by unfold manE at z1; split at z1; (· assumption); (· exact absurd z1 (by decide)), by simpa using z2⟩
    case isFalse hp0 => exact hg hp0
  · refine (Offer_err gb obj h.ho g.man h.hM g.pv k n t s od hod (.slice a m c) x qa qn qc E h0 w HM HC).mono ?_
    rintro e w' ⟨rfl, hb⟩
    exact ⟨E, g, rfl, h.below hb, hg, ⟨hb.os, hb.tape, hb.output, hb.size, fun k hk _ _ => hb.block k hk⟩, Nat.le_succ _⟩
end Go.Proofs.YtjgiiciniplbnaaGreatDoor

namespace Go.Proofs.YtjgiiciniplbnaaGreatDoor
open Go Go.RowKit Go.Lib Go.Sort
set_option linter.unusedVariables false

theorem asm_sound (k n t s : Int) (m : Nat) (od : List Nat) (D : List (List Nat)) (ps : List (Int × Sl)) (Dd : Nat → List Nat) (pn : Nat) (h : asmE k n t s m od D ps Dd pn = 0) :
    s ≤ 8192 ∧ ((asmL k n t s m od D ps Dd pn).length : Int) = s ∧ dig shaRound shaStart (asmL k n t s m od D ps Dd pn) = od ∧ k ≤ (pn : Int) := by
  have hl : asmL k n t s m od D ps Dd pn = objL k s ps Dd := by unfold asmL; rw [if_pos h]
  rw [hl, objL_length]
  unfold asmE at h
  split at h
  case isFalse => exact absurd h (by decide)
  case isTrue hm =>
  have hok := hm
  unfold manB vnB vcB at hok
  simp only [Bool.and_eq_true, decide_eq_true_eq] at hok
  split at h
  case isFalse h1 => exact absurd h h1
  case isTrue h1 =>
  split at h
  case isFalse => exact absurd h (by decide)
  case isTrue h2 => exact ⟨by omega, by omega, h2, (dAll_zero h1).2⟩
theorem reg_sound (k n t s : Int) (m : Nat) (D : List (List Nat)) {ps : List (Int × Sl)} {Dd : Nat → List Nat} {pn : Nat} {w : World} (hd : PDat w ps Dd) (hn : pn = ps.length) (I : Int) (h : regE k n t s m D ps Dd pn I = 0) :
    regI k n t s m D ps Dd pn I = I ∧ cpE k n t s m D I (regL k n t s m D ps Dd pn I) = 0 ∧ (regL k n t s m D ps Dd pn I).length ≤ 800000000 := by
  have hl : regL k n t s m D ps Dd pn I = pieceL k ps Dd I := by unfold regL; rw [if_pos h]
  refine ⟨by unfold regI; rw [if_pos h], ?_⟩
  rw [hl]
  unfold regE at h
  split at h
  case isFalse => exact absurd h (by decide)
  case isTrue hm =>
  have hok := hm
  unfold manB vnB vcB at hok
  simp only [Bool.and_eq_true, decide_eq_true_eq] at hok
  split at h
  case isTrue => exact absurd h (by decide)
  case isFalse hI =>
  split at h
  case isFalse h1 => exact absurd h h1
  case isTrue h1 =>
  split at h
  case isFalse => exact absurd h (by decide)
  case isTrue h2 =>
  obtain ⟨_, hkp, hlen⟩ := rs_right (t := t) hd hn h1
  have hp := plen_le k.toNat s.toNat (by omega)
  have hpl : (pieceL k ps Dd I).length = plen k.toNat s.toNat := by
    rw [← (hlen 0 (by omega)).2]
    unfold pieceL
    exact mixL_length _ _ _ _
  refine ⟨?_, by omega⟩
  unfold cpE
  rw [if_pos hm, if_neg hI, if_neg (by rw [hpl]; simp), if_neg (by simpa using h2)]
theorem Gs.pos {g : Gs} (h : rdyG g.k g.ps.length = true) : g.ps ≠ [] := fun e => by
  unfold rdyG at h
  rw [e] at h
  simp at h
set_option maxRecDepth 100000 in
theorem Gs_man (g : Gs) (gb fb B : Nat) (obj : List Nat) (w : World) (h : GsAt g gb fb B obj w) (hg : g.Good obj) : Calls Tryz.prog 46 #[.pointer (some ⟨gb, 0, none⟩)] w fun e w' =>
    ∃ (k n t s : Int) (od : List Nat) (ma : Option Addr) (mm mc : Nat) (D : List (List Nat)) (ok : Bool), e = .returned (.tuple #[.agg (mcells k n t s od (.slice ma mm mc)).toArray, .bool ok]) ∧ od.length = 32 ∧ Dgs w' ma mm mc D ∧ mm ≤ 100000 ∧ (∀ y ∈ od, y < 256) ∧ (∀ ad, ma = some ad → w.heap.size ≤ ad.block) ∧ Below w.heap.size w w' ∧
      (ok = true → g.ps ≠ [] ∧ idV k n t s mm od D = obj ∧ manE k n t s mm = 0) ∧ (g.ps ≠ [] → ok = true ∧ k = g.k ∧ n = g.n ∧ t = g.t ∧ s = g.s ∧ od = g.od ∧ mm = g.mm ∧ D = g.D) := by
  by_cases hp : g.ps = []
  · have h1 := h.gth
    unfold Gs.pv at h1
    rw [hp] at h1
    refine (Manifest_none gb obj h.ho g.man h.hM g.pa g.pc w h1).mono ?_
    rintro e w' ⟨rfl, hb⟩
    refine ⟨0, 0, 0, 0, List.replicate 32 0, none, 0, 0, [], false, rfl, by simp, ⟨⟨none, 0, rfl, by simp, fun h => absurd rfl h⟩, Nat.le_refl _, fun _ => rfl⟩, Nat.zero_le _, fun y hy => by have := (List.mem_replicate.1 hy).2; omega, (fun _ e => by cases e), hb, (fun h => by cases h), fun h => absurd hp h⟩
  · have hpos : 0 < g.ps.length := by
      cases hl : g.ps with
      | nil => exact absurd hl hp
      | cons _ _ => simp
    refine (Manifest_some gb obj h.ho g.k g.n g.t g.s g.od h.hod g.ma g.mm g.mc g.D g.pa g.ps.length g.pc hpos w h.gth h.dgs h.mm).mono ?_
    rintro e w' ⟨a', c', rfl, hD, hl, hb⟩
    obtain ⟨g1, g2, g3⟩ := hg hp
    exact ⟨g.k, g.n, g.t, g.s, g.od, a', g.mm, c', g.D, true, rfl, h.hod, hD, h.mm, g1, hl, hb, fun _ => ⟨hp, g3, by unfold manE; rw [if_pos g2]⟩, fun _ => ⟨rfl, rfl, rfl, rfl, rfl, rfl, rfl, rfl⟩⟩
theorem GsAt.cap {g : Gs} {gb fb B : Nat} {obj : List Nat} {w : World} (h : GsAt g gb fb B obj w) : g.ps.length ≤ g.pc := by
  rcases h.row.2 with ⟨h2, h3⟩ | ⟨q, cap', cur, h2, _, _, h4, _⟩
  · omega
  · unfold Gs.pv at h2
    simp only [Value.slice.injEq] at h2
    omega
set_option maxRecDepth 100000 in
theorem Gs_data (g : Gs) (gb fb B : Nat) (obj : List Nat) (w : World) (h : GsAt g gb fb B obj w) (V : Vars w shaRound shaStart) (hF : Fld w fb) (hlo : 3 ≤ fb) (hq : g.ps.length ≤ 1000) : Calls Tryz.prog 52 #[.pointer (some ⟨gb, 0, none⟩), .pointer (some ⟨fb, 0, none⟩)] w fun e w' =>
    ∃ (E : Int) (L : List Nat), AsmRes E L e w' ∧ Fld w' fb ∧ Kept fb w w' ∧ (E = 0 → g.ps ≠ [] ∧ g.s ≤ 8192 ∧ (L.length : Int) = g.s ∧ dig shaRound shaStart L = g.od ∧ g.k ≤ (g.ps.length : Int)) := by
  cases hr : rdyG g.k g.ps.length with
  | false =>
    refine (Data_few gb obj h.ho g.k g.n g.t g.s g.od (.slice g.ma g.mm g.mc) h.hM g.pa g.ps.length g.pc (.pointer (some ⟨fb, 0, none⟩)) w h.gth hr).mono ?_
    rintro e w' ⟨rfl, hb⟩
    exact ⟨12, [], asmRes_none 12 w', fld_belowA hF hb, Kept.of_below hb, fun h => absurd h (by decide)⟩
  | true =>
    refine (Data_ready gb fb h.ne obj h.ho g.k g.n g.t g.s g.od (.slice g.ma g.mm g.mc) h.hM g.pa g.ps.length g.pc (asmE g.k g.n g.t g.s g.mm g.od g.D g.ps g.Dd g.ps.length) (asmL g.k g.n g.t g.s g.mm g.od g.D g.ps g.Dd g.ps.length) w h.gth hr
      (fun wx b => asm_any fb wx (V.below b) g.k g.n g.t g.s g.od g.ma g.mm g.mc g.D h.hod (h.dgs.below b) g.pa g.ps.length g.pc g.ps g.Dd (h.dat.below b) (by omega) h.cap (fld_belowA hF b) hlo (h.below b).held)).mono ?_
    rintro e w' ⟨hR, hF', hk⟩
    exact ⟨_, _, hR, hF', hk, fun h0 => ⟨Gs.pos hr, asm_sound _ _ _ _ _ _ _ _ _ _ h0⟩⟩
set_option maxRecDepth 100000 in
theorem Gs_piece (g : Gs) (gb fb B : Nat) (obj : List Nat) (w : World) (h : GsAt g gb fb B obj w) (hg : g.Good obj) (V : Vars w shaRound shaStart) (hF : Fld w fb) (hlo : 3 ≤ fb) (hq : g.ps.length ≤ 1000) (I : Int) : Calls Tryz.prog 54 #[.pointer (some ⟨gb, 0, none⟩), .pointer (some ⟨fb, 0, none⟩), .int .i64 I] w fun e w' =>
    ∃ (E i : Int) (L : List Nat), RgnRes E i L e w' ∧ Fld w' fb ∧ Kept fb w w' ∧ (E = 0 → g.ps ≠ [] ∧ i = I ∧ cpE g.k g.n g.t g.s g.mm g.D I L = 0 ∧ L.length ≤ 800000000) := by
  cases hr : rdyG g.k g.ps.length with
  | false =>
    refine (Piece_few gb obj h.ho g.k g.n g.t g.s g.od (.slice g.ma g.mm g.mc) h.hM g.pa g.ps.length g.pc (.pointer (some ⟨fb, 0, none⟩)) I w h.gth hr).mono ?_
    rintro e w' ⟨rfl, hb⟩
    exact ⟨12, 0, [], rgnRes_none 12 w', fld_belowA hF hb, Kept.of_below hb, fun h => absurd h (by decide)⟩
  | true =>
    refine (Piece_ready gb fb h.ne obj h.ho g.k g.n g.t g.s g.od (.slice g.ma g.mm g.mc) h.hM g.pa g.ps.length g.pc (regE g.k g.n g.t g.s g.mm g.D g.ps g.Dd g.ps.length I) (regI g.k g.n g.t g.s g.mm g.D g.ps g.Dd g.ps.length I) (regL g.k g.n g.t g.s g.mm g.D g.ps g.Dd g.ps.length I) I w (Nat.lt_of_lt_of_le h.fB h.bw) h.gth hr
      (fun wx b => rgn_any fb wx (V.below b) g.k g.n g.t g.s g.od g.ma g.mm g.mc g.D h.hod (h.dgs.below b) g.pa g.ps.length g.pc g.ps g.Dd (h.dat.below b) (by omega) h.cap (fld_belowA hF b) hlo (h.below b).held ?_ I)).mono ?_
    · intro ad e
      have hne : g.D ≠ [] := fun e2 => by
        have h1 := (hg (Gs.pos hr)).2.1
        have h2 := h.dgs.len
        rw [e2] at h2
        unfold manB vnB vcB at h1
        simp only [Bool.and_eq_true, decide_eq_true_eq] at h1
        simp at h2
        omega
      have h1 := (h.far hne ad e).1
      have h2 := h.fB
      omega
    rintro e w' ⟨hR, hF', hk⟩
    refine ⟨_, _, _, hR, hF', hk, fun h0 => ?_⟩
    obtain ⟨h1, h2, h3⟩ := reg_sound g.k g.n g.t g.s g.mm g.D h.dat rfl I h0
    exact ⟨Gs.pos hr, h1, h2, h3⟩
/-- the pieces' numbers, as Indices gives them -/
theorem Gs_indices (g : Gs) (gb fb B : Nat) (obj : List Nat) (w : World) (h : GsAt g gb fb B obj w) (hq : g.ps.length ≤ 1000) : Calls Tryz.prog 50 #[.pointer (some ⟨gb, 0, none⟩)] w fun e w' =>
    ∃ ib, e = .returned (.slice (some ⟨ib, 0, none⟩) g.ps.length g.ps.length) ∧ w.heap.size ≤ ib ∧ Below w.heap.size w w' := by
  refine (Indices_any gb obj h.ho g.man h.hM g.pa g.ps.length g.pc (by omega) (fun i => (g.ps.getD i (0, none, 0, 0)).1) (fun i => .slice (g.ps.getD i (0, none, 0, 0)).2.1 (g.ps.getD i (0, none, 0, 0)).2.2.1 (g.ps.getD i (0, none, 0, 0)).2.2.2) w h.gth (fun i hi => ?_)).mono ?_
  · obtain ⟨a', c', h1, h2⟩ := h.held.now.1
    obtain ⟨b, o, h3, h4⟩ := h2 (fun e => by rw [e] at hi; exact absurd hi (Nat.not_lt_zero _))
    unfold Gs.pv at h1
    simp only [Value.slice.injEq] at h1
    have e : g.ps.getD i (0, none, 0, 0) = g.ps[i] := by rw [List.getD_eq_getElem?_getD, List.getElem?_eq_getElem hi]; rfl
    rw [e]
    exact ⟨b, o, h1.1.trans h3, (h4 i hi).1, (h4 i hi).2, rfl⟩
  · rintro e w' ⟨ib, rfl, _, h2, h3⟩
    exact ⟨ib, rfl, h2, h3⟩
end Go.Proofs.YtjgiiciniplbnaaGreatDoor

namespace Go.Proofs.YtjgiiciniplbnaaGreatDoor
open Go Go.RowKit Go.Lib Go.Sort
set_option linter.unusedVariables false

/-- an offer in words -/
structure OfQ where
  k : Int
  n : Int
  t : Int
  s : Int
  od : List Nat
  ma : Option Addr
  mm : Nat
  mc : Nat
  D : List (List Nat)
  x : Int
  pa : Option Addr
  pn : Nat
  pc : Nat
  l : List Nat
  i : Int
  deriving Inhabited
def OfQ.cells (q : OfQ) : List Value := ocells q.k q.n q.t q.s q.od (.slice q.ma q.mm q.mc) q.x (.slice q.pa q.pn q.pc) q.i
structure OfQ.In (q : OfQ) (W : World) : Prop where
  ho : q.od.length = 32
  hb : ∀ y ∈ q.od, y < 256
  hd : Dgs W q.ma q.mm q.mc q.D
  hx : (Lit.int .i64 q.x).wf = true
  hl : By W q.pa q.pn q.pc q.l
  hi : (Lit.int .i64 q.i).wf = true
section
open Go.ChangeShapes Go.WideShapes Go.ChangeAt
variable {H : Type} {enc : TypeId × Value → H} {W : World}
set_option maxRecDepth 100000 in
theorem open_offL {fuel : Nat} {l : List Value} {x : DataW H × List MemPlace} (hf : DataW.trod enc Tryz.prog W 0 (fun _ => true) true fuel 70 l = some x) (hl : l.length = 40) : ∃ q : OfQ, l = q.cells ∧ q.In W := by
  obtain ⟨xs, n, rfl, _, _, hxl, hg⟩ := DataW.trod_struct Tryz.underlying70 hf
  match xs, hxl with
  | [y0, y1, y2], _ =>
  have g0 := hg 0 _ rfl
  have g1 := hg 1 _ rfl
  have g2 := hg 2 _ rfl
  have e37 : Tryz.prog.cellsOf 62 = 37 := by kernel_rfl
  obtain ⟨k, n', t, s, od, a, m, c, D, f0, ho1, ho2, hD⟩ := open_manO g0 (by simp [e37, hl])
  obtain ⟨i, f2, _, w2⟩ := DataW.trod_int Tryz.underlying3 g2
  obtain ⟨zs, n2, rfl, _, _, hzl, hz⟩ := DataW.trod_struct Tryz.underlying68 g1
  match zs, hzl with
  | [z0, z1], _ =>
  have q0 := hz 0 _ rfl
  have q1 := hz 1 _ rfl
  obtain ⟨x, p0, _, wx⟩ := DataW.trod_int Tryz.underlying3 q0
  obtain ⟨pa, pn, pc, ld, p1, hb⟩ := open_by q1
  refine ⟨⟨k, n', t, s, od, a, m, c, D, x, pa, pn, pc, ld, i⟩, ?_, ⟨ho1, ho2, hD, wx, hb, w2⟩⟩
  have r0 : ∀ j, j < 37 → l[j]? = (mcells k n' t s od (.slice a m c))[j]? := fun j hj => by
    have h1 := chunkD f0 j hj
    exact h1
  have r2 : l[39]? = some (.int .i64 i) := chunkL f2
  have s0 : ((l.drop 37).take 2)[0]? = some (.int .i64 x) := chunkL p0
  have s1 : ((l.drop 37).take 2)[1]? = some (.slice pa pn pc) := chunkL p1
  have t0 : l[37]? = some (.int .i64 x) := by rw [List.getElem?_take_of_lt (by omega), List.getElem?_drop] at s0; exact s0
  have t1 : l[38]? = some (.slice pa pn pc) := by rw [List.getElem?_take_of_lt (by omega), List.getElem?_drop] at s1; exact s1
  have hml := mcells_length k n' t s od (.slice a m c) ho1
  unfold OfQ.cells ocells
  dsimp only
  apply List.ext_getElem?
  intro j
  by_cases hj : j < 37
  · rw [r0 j hj, List.getElem?_append_left (by omega)]
  · rw [List.getElem?_append_right (by omega), hml]
    by_cases h40 : j < 40
    · rcases (show j = 37 ∨ j = 38 ∨ j = 39 from by omega) with rfl | rfl | rfl
      · rw [t0]; rfl
      · rw [t1]; rfl
      · rw [r2]; rfl
    · rw [List.getElem?_eq_none (by omega), List.getElem?_eq_none (by simp; omega)]
theorem OfQ.cells_length (q : OfQ) (h : q.od.length = 32) : q.cells.length = 40 := by
  unfold OfQ.cells ocells
  rw [List.length_append, mcells_length _ _ _ _ _ _ h]
  rfl
/-- a slice of offers that came in -/
def Ofs (W : World) (a : Option Addr) (n : Nat) (q : Nat → OfQ) : Prop :=
  0 < n → ∃ b o, a = some ⟨b, o, none⟩ ∧ b < W.heap.size ∧ ∀ i, i < n → (q i).In W ∧ ∀ j, j < 40 → W.cell? ⟨b, o + i * 40 + j, none⟩ = (q i).cells[j]?
set_option maxRecDepth 100000 in
theorem open_offers {fuel : Nat} {cs : List Value} {x : DataW H × List MemPlace} (h : DataW.trod enc Tryz.prog W 0 (fun _ => true) true fuel 55 cs = some x) : ∃ a n c q, cs = [.slice a n c] ∧ Ofs W a n q := by
  rcases Deep.open_slice Tryz.underlying55 h with ⟨hcs, _⟩ | ⟨a, len, cap, m, n, D, Pl, hcs, _, hl, _, hm, _, hx⟩
  · exact ⟨none, 0, 0, fun _ => ⟨0, 0, 0, 0, [], none, 0, 0, [], 0, none, 0, 0, [], 0⟩, hcs, fun h => absurd h (Nat.lt_irrefl 0)⟩
  · have ce : Tryz.prog.cellsOf 70 = 40 := by kernel_rfl
    have each : ∀ i, i < len → ∃ q : OfQ, q.In W ∧ ∀ j, j < 40 → W.cell? (a.add (i * 40 + j)) = q.cells[j]? := fun i hi => by
      obtain ⟨cs', h1, h2⟩ := hx i (by rw [hm]; split <;> omega)
      rw [ce] at h1
      obtain ⟨_, hlen, hcell⟩ := World.cells?_some h1
      obtain ⟨q, h3, h4⟩ := open_offL h2 hlen
      refine ⟨q, h4, fun j hj => ?_⟩
      have h5 := hcell j (by omega)
      rw [Deep.add_add] at h5
      rw [h5, h3]
    obtain ⟨q, hq⟩ := Deep.choose_lt each
    refine ⟨some a, len, cap, q, hcs, fun h0 => ?_⟩
    obtain ⟨b, o, spot⟩ := a
    have hc := (hq 0 h0).2 0 (by omega)
    have hc2 : (q 0).cells[0]? = some (.int .i64 (q 0).k) := rfl
    rw [hc2] at hc
    have hsp := World.cell?_spot hc
    have hspot : spot = none := by simpa [Addr.add] using hsp
    subst hspot
    have hb := World.block_lt_of_cell? _ _ hc
    rw [add_none] at hb
    refine ⟨b, o, rfl, hb, fun i hi => ⟨(hq i hi).1, fun j hj => ?_⟩⟩
    have h1 := (hq i hi).2 j hj
    rw [add_none] at h1
    rw [Nat.add_assoc]
    exact h1
end
theorem OfQ.In.below {q : OfQ} {W W' : World} (h : q.In W) (k : Below W.heap.size W W') : q.In W' := ⟨h.ho, h.hb, h.hd.below k, h.hx, ⟨h.hl.1.below k, h.hl.2⟩, h.hi⟩
theorem Ofs.belowW {W W' : World} {a : Option Addr} {n : Nat} {q : Nat → OfQ} (h : Ofs W a n q) (k : Below W.heap.size W W') : Ofs W' a n q := fun hn => by
  obtain ⟨b, o, ha, hb, hc⟩ := h hn
  exact ⟨b, o, ha, Nat.lt_of_lt_of_le hb k.size, fun i hi => ⟨(hc i hi).1.below k, fun j hj => (k.cell hb).trans ((hc i hi).2 j hj)⟩⟩
end Go.Proofs.YtjgiiciniplbnaaGreatDoor

namespace Go.Proofs.YtjgiiciniplbnaaGreatDoor
open Go Go.RowKit Go.Lib Go.Sort
set_option linter.unusedVariables false

set_option maxRecDepth 100000 in
set_option maxHeartbeats 1000000 in
theorem Gs_accept (g : Gs) (gb fb B : Nat) (obj : List Nat) (w : World) (h : GsAt g gb fb B obj w) (V : Vars w shaRound shaStart) (hq : g.ps.length ≤ 1000)
    (k n t s : Int) (od : List Nat) (hod : od.length = 32) (hob : ∀ y ∈ od, y < 256) (a : Option Addr) (m c : Nat) (D : List (List Nat)) (hD : Dgs w a m c D) (hm : m ≤ 100000)
    (x : Int) (hx : (Lit.int .i64 x).wf = true) (qa : Option Addr) (qn qc : Nat) (pl : List Nat) (hp : Bs w (.slice qa qn qc) pl) (hpc : qn ≤ qc) (hqn : qa = none → qc = 0) (hql : qn ≤ 800000000) (hoff : Off gb (.slice qa qn qc))
    (z1 : manE k n t s m = 0) (z2 : idV k n t s m od D = obj) (z3 : cpE k n t s m D x pl = 0) (z4 : ∀ p ∈ g.ps, p.1 ≠ x) (z5 : rdyG g.k g.ps.length = false) :
    Calls Tryz.prog 44 #[.pointer (some ⟨gb, 0, none⟩), .agg (mcells k n t s od (.slice a m c)).toArray, .agg #[.int .i64 x, .slice qa qn qc]] w fun e w' =>
      e = .returned (.int .i64 0) ∧ ∃ ma mc rb cap a5 c5, GsAt (g.add k n t s od ma m mc D rb cap x a5 qn c5 pl) gb fb B obj w' ∧ KeptR gb g.pv w w' ∧ SameRow w g.pv (.slice (some ⟨rb, 0, none⟩) (g.ps.length + 1) cap) := by
  obtain ⟨ix, hix⟩ : ∃ ix : Nat → Int, ix = fun i => (g.ps.getD i (0, none, 0, 0)).1 := ⟨_, rfl⟩
  obtain ⟨sl, hsl⟩ : ∃ sl : Nat → Value, sl = fun i => .slice (g.ps.getD i (0, none, 0, 0)).2.1 (g.ps.getD i (0, none, 0, 0)).2.2.1 (g.ps.getD i (0, none, 0, 0)).2.2.2 := ⟨_, rfl⟩
  have hgd : ∀ i, (hi : i < g.ps.length) → g.ps.getD i (0, none, 0, 0) = g.ps[i] := fun i hi => by rw [List.getD_eq_getElem?_getD, List.getElem?_eq_getElem hi]; rfl
  have hwf : ∀ i, (Lit.int .i64 (ix i)).wf = true := fun i => by
    rw [hix]
    dsimp only
    rw [List.getD_eq_getElem?_getD]
    by_cases hi : i < g.ps.length
    · rw [List.getElem?_eq_getElem hi]; exact h.wf _ (List.getElem_mem _)
    · rw [List.getElem?_eq_none (by omega)]; rfl
  have hP : ∀ i, i < g.ps.length → ∃ q o, g.pa = some ⟨q, o, none⟩ ∧ w.cell? ⟨q, o + i * 2, none⟩ = some (.int .i64 (ix i)) ∧ w.cell? ⟨q, o + i * 2 + 1, none⟩ = some (sl i) ∧ (sl i).oneCell' = true := fun i hi => by
    obtain ⟨a', c', h1, h2⟩ := h.held.now.1
    obtain ⟨b, o, h3, h4⟩ := h2 (fun e => by rw [e] at hi; exact absurd hi (Nat.not_lt_zero _))
    unfold Gs.pv at h1
    simp only [Value.slice.injEq] at h1
    refine ⟨b, o, h1.1.trans h3, ?_, ?_, by rw [hsl]; rfl⟩
    · rw [hix]; dsimp only; rw [hgd i hi]; exact (h4 i hi).1
    · rw [hsl]; dsimp only; rw [hgd i hi]; exact (h4 i hi).2
  have HM := mcells_length k n t s od (.slice a m c) hod
  have hcon : ((List.range g.ps.length).map ix).contains x = false := by
    cases hc : ((List.range g.ps.length).map ix).contains x with
    | false => rfl
    | true =>
      rw [List.contains_iff_mem] at hc
      obtain ⟨i, hi, e⟩ := List.mem_map.1 hc
      have hi2 : i < g.ps.length := List.mem_range.1 hi
      rw [hix] at e
      dsimp only at e
      rw [hgd i hi2] at e
      exact absurd e (z4 _ (List.getElem_mem hi2))
  have HC := fun (wx : World) (b : Below w.heap.size w wx) => check_any gb obj h.ho g.k g.n g.t g.s g.od (.slice g.ma g.mm g.mc) h.hM g.pa g.ps.length g.pc (by omega) ix hwf sl wx (h.gth.below b)
    (fun i hi => by
      obtain ⟨q, o, h1, h2, h3, h4⟩ := hP i hi
      exact ⟨q, o, h1, (b.cell (World.block_lt_of_cell? _ ⟨q, o + i * 2, none⟩ h2)).trans h2, (b.cell (World.block_lt_of_cell? _ ⟨q, o + i * 2 + 1, none⟩ h3)).trans h3, h4⟩)
    (mcells k n t s od (.slice a m c)) HM x qa qn qc (idV k n t s m od D) (idV_length _ _ _ _ _ _ _) (manE k n t s m) (cpE k n t s m D x pl)
    (fun wy by' => id_any k n t s od a m c D hod hob wy (V.below (b.trans (by'.mono b.size))) (hD.below (b.trans (by'.mono b.size))))
    (fun wy by' => chp_any wy (V.below (b.trans (by'.mono b.size))) k n t s od a m c D hod (hD.below (b.trans (by'.mono b.size))) x qa qn qc pl (hp.below (b.trans (by'.mono b.size))) hpc hqn hql)
  have hz : gchk (manE k n t s m) (decide (idV k n t s m od D = obj)) (cpE k n t s m D x pl) (((List.range g.ps.length).map ix).contains x) (decide (0 < g.ps.length) && decide (g.k ≤ (g.ps.length : Int))) = 0 := by
    unfold rdyG at z5
    rw [z1, z3, hcon, z5, decide_eq_true z2]
    rfl
  rw [hz] at HC
  refine (Offer_any gb obj h.ho g.man h.hM g.pa g.ps.length g.pc g.ps B k n t s od hod a m c D w hD hm x qa qn qc pl hp hqn (by omega) hoff h.gth h.row hq h.bw HC).mono ?_
  rintro e w' ⟨rfl, M', rb, cap, a5, c5, hM', hG, hz, hnz, hr, hb, hc5, hn5, hl5, hs, hk⟩
  obtain ⟨ma, mc, hA⟩ := h.add hod hm hx hql hG hz hnz hr hb hc5 hn5 hl5 hs hk
  exact ⟨rfl, ma, mc, rb, cap, a5, c5, hA, hk, hs⟩
/-- the pieces' bytes may be called otherwise behind the last piece -/
theorem GsAt.setD {g : Gs} {gb fb B : Nat} {obj : List Nat} {w : World} (h : GsAt g gb fb B obj w) (f : Nat → List Nat) (hf : ∀ i, i < g.ps.length → g.Dd i = f i) : GsAt { g with Dd := f } gb fb B obj w where
  ho := h.ho
  hod := h.hod
  gB := h.gB
  fB := h.fB
  ne := h.ne
  bw := h.bw
  gth := h.gth
  row := h.row
  dgs := h.dgs
  mm := h.mm
  far := h.far
  dat := fun i hi => by
    have h1 := h.dat i hi
    rw [hf i hi] at h1
    exact h1
  wf := h.wf
  dfar := fun i hi hne => h.dfar i hi (by rw [hf i hi]; exact hne)
/-- .. holds the pieces O of the object that the manifest describes -/
structure GoOf (g : Gs) (k n t s : Int) (m : Nat) (od : List Nat) (D : List (List Nat)) (LP : Nat) (E : Nat → List Nat) (O : List Nat) : Prop where
  len : g.ps.length = O.length
  idx : ∀ i, i < O.length → pidx g.ps i = (O.getD i 0 : Nat)
  pln : ∀ i, i < O.length → plen' g.ps i = LP
  dat : ∀ i, i < O.length → g.Dd i = E (O.getD i 0)
  man : O ≠ [] → g.k = k ∧ g.n = n ∧ g.t = t ∧ g.s = s ∧ g.od = od ∧ g.mm = m ∧ g.D = D
theorem GoOf.empty (k n t s : Int) (m : Nat) (od : List Nat) (D : List (List Nat)) (LP : Nat) (E : Nat → List Nat) : GoOf Gs.empty k n t s m od D LP E [] :=
  ⟨rfl, fun i hi => absurd hi (Nat.not_lt_zero _), fun i hi => absurd hi (Nat.not_lt_zero _), fun i hi => absurd hi (Nat.not_lt_zero _), fun h => absurd rfl h⟩
theorem GoOf.add {g : Gs} {k n t s : Int} {m : Nat} {od : List Nat} {D : List (List Nat)} {LP : Nat} {E : Nat → List Nat} {O : List Nat} (h : GoOf g k n t s m od D LP E O) (ma : Option Addr) (mc rb cap : Nat) (x : Nat) (a5 : Option Addr) (c5 : Nat) :
    GoOf (g.add k n t s od ma m mc D rb cap (x : Int) a5 LP c5 (E x)) k n t s m od D LP E (O ++ [x]) := by
  have hp : (g.add k n t s od ma m mc D rb cap (x : Int) a5 LP c5 (E x)).ps = g.ps ++ [((x : Int), a5, LP, c5)] := Gs.add_ps _ _ _ _ _ _ _ _ _ _ _ _ _ _ _ _ _
  have e1 : ∀ i, i < O.length → (g.ps ++ [((x : Int), a5, LP, c5)]).getD i (0, none, 0, 0) = g.ps.getD i (0, none, 0, 0) := fun i hi => by
    rw [List.getD_eq_getElem?_getD, List.getElem?_append_left (by rw [h.len]; exact hi), List.getD_eq_getElem?_getD]
  have e2 : (g.ps ++ [((x : Int), a5, LP, c5)]).getD O.length (0, none, 0, 0) = ((x : Int), a5, LP, c5) := by
    rw [List.getD_eq_getElem?_getD, List.getElem?_append_right (by rw [h.len]; exact Nat.le_refl _), h.len, Nat.sub_self]
    rfl
  have o1 : ∀ i, i < O.length → (O ++ [x]).getD i 0 = O.getD i 0 := fun i hi => by rw [List.getD_eq_getElem?_getD, List.getElem?_append_left hi, List.getD_eq_getElem?_getD]
  have o2 : (O ++ [x]).getD O.length 0 = x := by
    rw [List.getD_eq_getElem?_getD, List.getElem?_append_right (Nat.le_refl _), Nat.sub_self]
    rfl
  have hl : (O ++ [x]).length = O.length + 1 := by simp
  have hcase : ∀ i, i < (O ++ [x]).length → i < O.length ∨ i = O.length := fun i hi => by rw [hl] at hi; omega
  refine ⟨by rw [hp]; simp [h.len], fun i hi => ?_, fun i hi => ?_, fun i hi => ?_, fun _ => ?_⟩
  · unfold pidx
    rw [hp]
    rcases hcase i hi with hi | rfl
    · rw [e1 i hi, o1 i hi]; exact h.idx i hi
    · rw [e2, o2]
  · unfold plen'
    rw [hp]
    rcases hcase i hi with hi | rfl
    · rw [e1 i hi]; exact h.pln i hi
    · rw [e2]
  · unfold Gs.add
    split
    case isTrue h0 =>
      have hO : O = [] := List.length_eq_zero_iff.1 (by rw [← h.len, h0]; rfl)
      subst hO
      have : i = 0 := by rw [hl] at hi; simp at hi; exact hi
      subst this
      rfl
    case isFalse h0 =>
      show (if i < g.ps.length then g.Dd i else E x) = _
      rcases hcase i hi with hi | rfl
      · rw [if_pos (by rw [h.len]; exact hi), o1 i hi]; exact h.dat i hi
      · rw [if_neg (by rw [h.len]; exact Nat.lt_irrefl _), o2]
  · unfold Gs.add
    split
    case isTrue h0 => exact ⟨rfl, rfl, rfl, rfl, rfl, rfl, rfl⟩
    case isFalse h0 =>
      refine h.man fun e => h0 (List.length_eq_zero_iff.1 ?_)
      rw [h.len, e]
      rfl
/-- a Gather with fewer pieces than it needs -/
theorem GoOf.few {g : Gs} {k : Nat} {n t s : Int} {m : Nat} {od : List Nat} {D : List (List Nat)} {LP : Nat} {E : Nat → List Nat} {O : List Nat} (h : GoOf g (k : Int) n t s m od D LP E O) (hO : O.length < k) : rdyG g.k g.ps.length = false := by
  unfold rdyG
  rw [h.len]
  by_cases h0 : O = []
  · rw [h0]; rfl
  · rw [(h.man h0).1]
    simp only [Bool.and_eq_false_iff, decide_eq_false_iff_not]
    right
    omega
theorem GoOf.full {g : Gs} {k : Nat} {n t s : Int} {m : Nat} {od : List Nat} {D : List (List Nat)} {LP : Nat} {E : Nat → List Nat} {O : List Nat} (h : GoOf g (k : Int) n t s m od D LP E O) (hO : O.length = k) (hk : 1 ≤ k) : rdyG g.k g.ps.length = true := by
  unfold rdyG
  rw [h.len, (h.man (fun e => by rw [e] at hO; simp at hO; omega)).1]
  simp only [Bool.and_eq_true, decide_eq_true_eq]
  omega
/-- none of the pieces has a number that O has not -/
theorem GoOf.fresh {g : Gs} {k n t s : Int} {m : Nat} {od : List Nat} {D : List (List Nat)} {LP : Nat} {E : Nat → List Nat} {O : List Nat} (h : GoOf g k n t s m od D LP E O) (x : Nat) (hx : x ∉ O) : ∀ p ∈ g.ps, p.1 ≠ (x : Int) := fun p hp e => by
  obtain ⟨i, hi, rfl⟩ := List.getElem_of_mem hp
  have hi2 : i < O.length := by rw [← h.len]; exact hi
  have h1 := h.idx i hi2
  unfold pidx at h1
  rw [List.getD_eq_getElem?_getD, List.getElem?_eq_getElem hi] at h1
  have h2 : g.ps[i].1 = (O.getD i 0 : Nat) := h1
  rw [List.getD_eq_getElem?_getD, List.getElem?_eq_getElem hi2] at h2
  refine hx ?_
  have h3 : O[i] = x := by
    have h4 : (some O[i]).getD 0 = O[i] := rfl
    rw [h4] at h2
    omega
  rw [← h3]
  exact List.getElem_mem hi2
theorem Gs_few (g : Gs) (gb fb B : Nat) (obj : List Nat) (w : World) (h : GsAt g gb fb B obj w) (f : Value) (hr : rdyG g.k g.ps.length = false) : Calls Tryz.prog 52 #[.pointer (some ⟨gb, 0, none⟩), f] w fun e w' => e = .returned (.tuple #[.slice none 0 0, .int .i64 12]) ∧ Below w.heap.size w w' :=
  Data_few gb obj h.ho g.k g.n g.t g.s g.od (.slice g.ma g.mm g.mc) h.hM g.pa g.ps.length g.pc f w h.gth hr
theorem Gs_ready (g : Gs) (gb fb B : Nat) (obj : List Nat) (w : World) (h : GsAt g gb fb B obj w) : Calls Tryz.prog 47 #[.pointer (some ⟨gb, 0, none⟩)] w fun e w' => e = .returned (.bool (rdyG g.k g.ps.length)) ∧ Below w.heap.size w w' :=
  Ready_any gb obj h.ho g.k g.n g.t g.s g.od (.slice g.ma g.mm g.mc) h.hM g.pa g.ps.length g.pc w h.gth
set_option maxRecDepth 100000 in
/-- Data of a Gather that is ready -/
theorem Gs_dataR (g : Gs) (gb fb B : Nat) (obj : List Nat) (w : World) (h : GsAt g gb fb B obj w) (V : Vars w shaRound shaStart) (hF : Fld w fb) (hlo : 3 ≤ fb) (hq : g.ps.length ≤ 1000) (hr : rdyG g.k g.ps.length = true) (E : Int) (L : List Nat)
    (hE : asmE g.k g.n g.t g.s g.mm g.od g.D g.ps g.Dd g.ps.length = E) (hL : asmL g.k g.n g.t g.s g.mm g.od g.D g.ps g.Dd g.ps.length = L) : Calls Tryz.prog 52 #[.pointer (some ⟨gb, 0, none⟩), .pointer (some ⟨fb, 0, none⟩)] w fun e w' =>
    AsmRes E L e w' ∧ Fld w' fb ∧ Kept fb w w' := by
  refine (Data_ready gb fb h.ne obj h.ho g.k g.n g.t g.s g.od (.slice g.ma g.mm g.mc) h.hM g.pa g.ps.length g.pc (asmE g.k g.n g.t g.s g.mm g.od g.D g.ps g.Dd g.ps.length) (asmL g.k g.n g.t g.s g.mm g.od g.D g.ps g.Dd g.ps.length) w h.gth hr
    (fun wx b => asm_any fb wx (V.below b) g.k g.n g.t g.s g.od g.ma g.mm g.mc g.D h.hod (h.dgs.below b) g.pa g.ps.length g.pc g.ps g.Dd (h.dat.below b) (by omega) h.cap (fld_belowA hF b) hlo (h.below b).held)).mono ?_
  rintro e w' h1
  rw [hE, hL] at h1
  exact h1
set_option maxRecDepth 100000 in
/-- Piece of a Gather that is ready -/
theorem Gs_pieceR (g : Gs) (gb fb B : Nat) (obj : List Nat) (w : World) (h : GsAt g gb fb B obj w) (V : Vars w shaRound shaStart) (hF : Fld w fb) (hlo : 3 ≤ fb) (hq : g.ps.length ≤ 1000) (hr : rdyG g.k g.ps.length = true) (hD : g.D ≠ []) (I E i : Int) (L : List Nat)
    (hE : regE g.k g.n g.t g.s g.mm g.D g.ps g.Dd g.ps.length I = E) (hi : regI g.k g.n g.t g.s g.mm g.D g.ps g.Dd g.ps.length I = i) (hL : regL g.k g.n g.t g.s g.mm g.D g.ps g.Dd g.ps.length I = L) : Calls Tryz.prog 54 #[.pointer (some ⟨gb, 0, none⟩), .pointer (some ⟨fb, 0, none⟩), .int .i64 I] w fun e w' =>
    RgnRes E i L e w' ∧ Fld w' fb ∧ Kept fb w w' := by
  refine (Piece_ready gb fb h.ne obj h.ho g.k g.n g.t g.s g.od (.slice g.ma g.mm g.mc) h.hM g.pa g.ps.length g.pc (regE g.k g.n g.t g.s g.mm g.D g.ps g.Dd g.ps.length I) (regI g.k g.n g.t g.s g.mm g.D g.ps g.Dd g.ps.length I) (regL g.k g.n g.t g.s g.mm g.D g.ps g.Dd g.ps.length I) I w (Nat.lt_of_lt_of_le h.fB h.bw) h.gth hr
    (fun wx b => rgn_any fb wx (V.below b) g.k g.n g.t g.s g.od g.ma g.mm g.mc g.D h.hod (h.dgs.below b) g.pa g.ps.length g.pc g.ps g.Dd (h.dat.below b) (by omega) h.cap (fld_belowA hF b) hlo (h.below b).held ?_ I)).mono ?_
  · intro ad e
    have h1 := (h.far hD ad e).1
    have h2 := h.fB
    omega
  rintro e w' h1
  rw [hE, hi, hL] at h1
  exact h1
end Go.Proofs.YtjgiiciniplbnaaGreatDoor

namespace Go.Proofs.YtjgiiciniplbnaaGreatDoor
open Go Go.RowKit Go.Lib Go.Sort
set_option linter.unusedVariables false

theorem tmod_bounds (a : Int) (n : Nat) (hn : 0 < n) : -(n : Int) < a.tmod (n : Int) ∧ a.tmod (n : Int) < (n : Int) := by
  have h1 := Int.tmod_lt_of_pos a (show (0 : Int) < (n : Int) by omega)
  have h2 := Int.neg_tmod a (n : Int)
  have h3 := Int.tmod_lt_of_pos (-a) (show (0 : Int) < (n : Int) by omega)
  omega
set_option maxRecDepth 100000 in
set_option maxHeartbeats 2000000 in
theorem idx_any (a : Int) (n : Nat) (hn : 0 < n) (hn2 : n ≤ 1000000) (w : World) :
    Calls Tryz.prog 57 #[.int .i64 a, .int .i64 (n : Int)] w fun e w' => (∃ r : Nat, e = .returned (.int .i64 (r : Int)) ∧ r < n) ∧ w = w' := by
  obtain ⟨h1, h2⟩ := tmod_bounds a n hn
  by_cases h0 : a.tmod (n : Int) < 0
  · obtain ⟨r, hr⟩ : ∃ r : Nat, (r : Int) = a.tmod (n : Int) + n := ⟨(a.tmod (n : Int) + n).toNat, by omega⟩
    have HW := hid (show wrap64 (a.tmod (n : Int) + (n : Int)) = (r : Int) from by rw [IntWalk.wrap64_in _ (by omega)]; omega)
    have HR := hid (show r < n from by omega)
    have hz : ¬ (n : Int) = 0 := by omega
    clear hr h1 h2
    go_enter Tryz.func57, Tryz.ntmps57
    go_wp2
    go_ret
    exact ⟨⟨r, by rw [← HW.out]; rfl, HR.out⟩, rfl⟩
  · obtain ⟨r, hr⟩ : ∃ r : Nat, (r : Int) = a.tmod (n : Int) := ⟨(a.tmod (n : Int)).toNat, by omega⟩
    have HRE := hid hr
    have HR := hid (show r < n from by omega)
    have hz : ¬ (n : Int) = 0 := by omega
    clear hr h1 h2
    go_enter Tryz.func57, Tryz.ntmps57
    go_wp2
    go_ret
    exact ⟨⟨r, by rw [HRE.out]; rfl, HR.out⟩, rfl⟩
end Go.Proofs.YtjgiiciniplbnaaGreatDoor

namespace Go.Proofs.YtjgiiciniplbnaaGreatDoor
open Go Go.RowKit
set_option linter.unusedVariables false

/-- rows of different element types lie in different blocks -/
theorem own_types {w : World} {B1 B2 s1 s2 n1 n2 : Nat} {e1 e2 : TypeId} {v1 v2 : Value} {x1 x2 : List Value} (h1 : w.ownsRow B1 e1 s1 v1 n1 x1) (h2 : w.ownsRow B2 e2 s2 v2 n2 x2) (hne : e1 ≠ e2) : v1.ownBlock = none ∨ v1.ownBlock ≠ v2.ownBlock := by
  rcases h1.2 with ⟨rfl, _⟩ | ⟨g1, c1, u1, rfl, _, k1, _⟩
  · exact .inl rfl
  · right
    rcases h2.2 with ⟨rfl, _⟩ | ⟨g2, c2, u2, rfl, _, k2, _⟩
    · simp [Value.ownBlock]
    · simp only [Value.ownBlock, ne_eq, Option.some.injEq]
      rintro rfl
      rw [k1] at k2
      simp at k2
      exact hne k2.2
theorem u8s_oneS (l : List Nat) : ∀ v ∈ u8s l, v.oneCell' = true := by
  intro v hv
  simp only [u8s, List.mem_map] at hv
  obtain ⟨n, _, rfl⟩ := hv
  rfl
/-- append to an empty new row, of any slice of bytes -/
theorem step_own_bytes {ops : Array Oper} {o : Oper} {a : Act} {w : World} {K : Act → World → Prop} {Q : Exit → Act → World → Prop} {E : Prop} (hgd : o.guard = none) (s x : Operand)
    (ho : o.op = .call { callee := .builtin .append, args := #[s, x], argTypes := #[66, 66] }) (base g0 : Nat) (hs : a.eval s = .slice (some ⟨g0, 0, none⟩) 0 0) (hown : w.ownsRow base 5 1 (.slice (some ⟨g0, 0, none⟩) 0 0) 0 [])
    (sa : Option Addr) (m c : Nat) (l : List Nat) (hx : a.eval x = .slice sa m c) (hb : Bs w (.slice sa m c) l) (hnil : sa = none → c = 0) (hm : m ≤ 461168601842) (hbase : base ≤ w.heap.size)
    (hK : ∀ v' w', w'.ownsRow base 5 1 v' m (u8s l) → w.grownBy w' (some g0) → K (a.put o.dst v') w') :
    if Region.wanted o (yielded ops a.tmps) = true then Oper.wp Tryz.prog o a w K Q else E := by
  have hw : Region.wanted o (yielded ops a.tmps) = true := by simp [Region.wanted, hgd]
  rw [if_pos hw]
  obtain ⟨i0, hi, hz0, hz1, hz2⟩ := info_parts info5
  have hlen := hb.len
  cases sa with
  | none =>
    obtain rfl := hnil rfl
    have h0 : l = [] := by
      rcases hb.addr with ⟨h0, _⟩ | ⟨_, b, o', c', hv⟩
      · exact h0
      · simp at hv
    subst h0
    obtain rfl : m = 0 := hlen
    have hrun := run_append_owned_none (P := Tryz.prog) (w := w) base 66 o.type 5 i0 1 Tryz.underlying66 hi (.slice (some ⟨g0, 0, none⟩) 0 0) 0 [] hown
    unfold Oper.wp
    simp [execOp, ho, resolve, invoke, builtin, hs, hx, hrun, Result.andThen]
    exact hK _ _ hown (World.grownBy.refl w _)
  | some ad =>
    have hnews : ∀ j u, (u8s l)[j]? = some u → w.cell? (ad.add j) = some u := fun j u hj => by
      have hjl : j < l.length := by have := (List.getElem?_eq_some_iff.1 hj).1; simpa [u8s] using this
      rcases hb.addr with ⟨h0, _⟩ | ⟨_, b, o', c', hv⟩
      · rw [h0] at hjl; exact absurd hjl (Nat.not_lt_zero _)
      · simp only [Value.slice.injEq, Option.some.injEq] at hv
        obtain ⟨rfl, _, _⟩ := hv
        have hc := hb.cell j hjl
        have e : (⟨b, o', none⟩ : Addr).add j = ⟨b, o' + j, none⟩ := by unfold Addr.add; split <;> simp_all
        rw [e, hc, ← hj]
        simp [u8s, List.getElem?_eq_getElem hjl]
    refine wp_append_own w s x _ ho base 5 i0 (.int .u8 0) 1 1 Tryz.underlying66 hi hz0 hz1 hz2 rfl (by decide) _ 0 [] hs hown ad m c (u8s l) hx (by simp [u8s]; omega) hnews (u8s_oneS l) (by unfold maxLen; omega) (by omega) hbase ?_
    intro v' w' hown' hg hn
    rw [Nat.zero_add, List.nil_append] at hown'
    exact hK v' w' hown' hg
end Go.Proofs.YtjgiiciniplbnaaGreatDoor

namespace Go.Proofs.YtjgiiciniplbnaaGreatDoor
open Go Go.RowKit
set_option linter.unusedVariables false

theorem run_build0 (w : World) : (Instr.buildSlice 66 0 #[]).run Tryz.prog w = .ok (.slice (some ⟨w.heap.size, 0, none⟩) 0 0) (w.alloc (.cells #[] 5)) := by kernel_rfl
theorem step_build0 {ops : Array Oper} {o : Oper} {a : Act} {w : World} {K : Act → World → Prop} {Q : Exit → Act → World → Prop} {E : Prop} (hgd : o.guard = none) (ho : o.op = .buildSlice 66 0 #[])
    (h : ∀ g w', g = w.heap.size → w'.heap[g]? = some (.cells #[] 5 (0, 0)) → Below w.heap.size w w' → g < w'.heap.size → K (a.put o.dst (.slice (some ⟨g, 0, none⟩) 0 0)) w') : if Region.wanted o (yielded ops a.tmps) = true then Oper.wp Tryz.prog o a w K Q else E := by
  refine step_value (P := Tryz.prog) hgd (v := .slice (some ⟨w.heap.size, 0, none⟩) 0 0) (w' := w.alloc (.cells #[] 5)) ?_ (h w.heap.size _ rfl (heap_new _ _) ((Below.refl _ _).alloc (Nat.le_refl _) _) (by simp))
  have h1 := run_build0 w
  unfold execOp
  simp only [ho]
  simp [h1]
theorem own_emptyM {w : World} {base g : Nat} (h : w.heap[g]? = some (.cells #[] 5 (0, 0))) (hb : base ≤ g) : w.ownsRow base 5 1 (.slice (some ⟨g, 0, none⟩) 0 0) 0 [] :=
  ⟨rfl, .inr ⟨g, 0, #[], rfl, hb, h, Nat.le_refl _, Nat.zero_le _, rfl, rfl⟩⟩

/-- what a call of Make and the store of its manifest leave -/
structure MdR (fb k n t m : Nat) (l : List Nat) (mb g gd : Nat) (bf : Nat → Nat) (w1 w : World) : Prop where
  man : ManAt w mb k n t m (dig shaRound shaStart l) (.slice (some ⟨gd, 0, none⟩) t t)
  pcs : Pcs w g w1.heap.size t (plen k m) bf (encP l k (plen k m))
  rng : ∀ j, j < t → w.rangeAt gd (j * 32) (u8s (pdg shaRound shaStart l k (plen k m) j))
  th : w.there gd 0 (t * 32)
  built : Built w fb
  kept : Kept fb w1 w
  ne : gd ≠ g ∧ gd ≠ mb ∧ g ≠ mb ∧ ∀ j, j < t → bf j ≠ gd ∧ bf j ≠ mb
  low : w1.heap.size ≤ mb ∧ w1.heap.size ≤ gd ∧ w1.heap.size ≤ g
  up : mb < w.heap.size ∧ gd < w.heap.size ∧ g < w.heap.size ∧ ∀ j, j < t → bf j < w.heap.size

/-- the manifest's block was made behind the call -/
theorem md_late {fb rb mb0 k n t m mb g gd : Nat} {l : List Nat} {bf : Nat → Nat} {w1 wS wE wA wZ : World} (N : MkN fb rb mb0 g gd t bf wS) (R : MkR fb mb0 g gd k t m (plen k m) shaRound shaStart l bf wS wE) (hfb : fb < w1.heap.size)
    (hS : Below w1.heap.size w1 wS) (hmb : mb = wE.heap.size) (hA : Below wE.heap.size wE wA) (hml : mb < wA.heap.size) (hZ : wZ.heap[mb]? = some (.cells (mcells k n t m (dig shaRound shaStart l) (.slice (some ⟨gd, 0, none⟩) t t)).toArray 62 (0, 0))) (hk : Kept mb wA wZ) :
    MdR fb k n t m l mb g gd bf w1 wZ := by
  obtain ⟨n1, n2, n3, n4, n5⟩ := N.ne
  obtain ⟨l1, l2, l3, l4, l5, l6⟩ := N.low
  have hs := hS.size
  have hE := R.kept.size
  have hgl := R.pcs.own.lt
  have hgdl := R.gdl
  have hfl := R.built.lt
  have hz := hk.size
  have ha := hA.size
  have hbf : ∀ j, j < t → bf j < wE.heap.size := fun j hj => (R.pcs.row j hj).lt
  have hb : ∀ q, q < wE.heap.size → wZ.heap[q]? = wE.heap[q]? := fun q hq => (hk.block q (by omega) (by omega)).trans (hA.block q hq)
  refine ⟨hZ, ⟨(hb g hgl).trans R.pcs.own, fun j hj => (hb _ (hbf j hj)).trans (R.pcs.row j hj), fun j hj => Nat.le_trans hs (R.pcs.low j hj), R.pcs.inj, R.pcs.notb⟩, fun j hj => range_same (R.rng j hj) (hb gd hgdl), there_same R.th (hb gd hgdl), (hb fb hfl).trans R.built, ?_, ⟨n1, by omega, by omega, fun j hj => ⟨N.bfn j hj, by have := hbf j hj; omega⟩⟩, ⟨by omega, by omega, by omega⟩, ⟨by omega, by omega, by omega, fun j hj => by have := hbf j hj; omega⟩⟩
  exact ((Kept.of_below hS).trans R.kept).trans (((Kept.of_below hA).fresh hk (by omega)).trans (Kept.refl _ _))

/-- .. and ahead of it -/
theorem md_early {fb rb mb0 k n t m mb g gd : Nat} {l : List Nat} {bf : Nat → Nat} {w1 wS wE wZ : World} (N : MkN fb rb mb0 g gd t bf wS) (R : MkR fb mb0 g gd k t m (plen k m) shaRound shaStart l bf wS wE) (hfb : fb < w1.heap.size)
    (hS : Below w1.heap.size w1 wS) (hlo : w1.heap.size ≤ mb) (hml : mb < wS.heap.size) (hZ : wZ.heap[mb]? = some (.cells (mcells k n t m (dig shaRound shaStart l) (.slice (some ⟨gd, 0, none⟩) t t)).toArray 62 (0, 0))) (hk : Kept mb wE wZ) :
    MdR fb k n t m l mb g gd bf w1 wZ := by
  obtain ⟨n1, n2, n3, n4, n5⟩ := N.ne
  obtain ⟨l1, l2, l3, l4, l5, l6⟩ := N.low
  have hs := hS.size
  have hE := R.kept.size
  have hgl := R.pcs.own.lt
  have hgdl := R.gdl
  have hfl := R.built.lt
  have hz := hk.size
  have hbf : ∀ j, j < t → wS.heap.size ≤ bf j ∧ bf j < wE.heap.size := fun j hj => ⟨R.pcs.low j hj, (R.pcs.row j hj).lt⟩
  have hb : ∀ q, q < wE.heap.size → q ≠ mb → wZ.heap[q]? = wE.heap[q]? := fun q hq hne => hk.block q hq hne
  refine ⟨hZ, ⟨(hb g hgl (by omega)).trans R.pcs.own, fun j hj => (hb _ (hbf j hj).2 (by have := hbf j hj; omega)).trans (R.pcs.row j hj), fun j hj => Nat.le_trans hs (R.pcs.low j hj), R.pcs.inj, R.pcs.notb⟩, fun j hj => range_same (R.rng j hj) (hb gd hgdl (by omega)), there_same R.th (hb gd hgdl (by omega)), (hb fb hfl (by omega)).trans R.built, ?_, ⟨n1, by omega, by omega, fun j hj => ⟨N.bfn j hj, by have := hbf j hj; omega⟩⟩, ⟨hlo, by omega, by omega⟩, ⟨by omega, by omega, by omega, fun j hj => by have := hbf j hj; omega⟩⟩
  exact ((Kept.of_below hS).trans R.kept).fresh hk hlo
end Go.Proofs.YtjgiiciniplbnaaGreatDoor

namespace Go.Proofs.YtjgiiciniplbnaaGreatDoor
open Go Go.RowKit
set_option linter.unusedVariables false

theorem off_lowM {a : Option Addr} {n c B fb : Nat} (h : ∀ ad, a = some ad → B ≤ ad.block) (hB : fb < B) : Off fb (.slice a n c) := by
  cases a with
  | none => trivial
  | some ad => show ad.block ≠ fb; have := h ad rfl; omega
theorem nil_ownsM {w : World} {base m n c : Nat} {a : Option Addr} {xs : List Value} (h : w.ownsRow base 5 1 (.slice a n c) m xs) : a = none → c = 0 := fun e => by
  rcases h.2 with ⟨h1, _⟩ | ⟨g, cap, cur, h1, _⟩
  · simp only [Value.slice.injEq] at h1
    exact h1.2.2
  · simp only [Value.slice.injEq] at h1
    rw [h1.1] at e
    cases e
theorem owns_belowX {w w' : World} {base m s : Nat} {e : TypeId} {v : Value} {xs : List Value} (h : w.ownsRow base e s v m xs) (k : Below w.heap.size w w') : w'.ownsRow base e s v m xs := by
  obtain ⟨h1, h2⟩ := h
  exact ⟨h1, h2.imp id fun ⟨g, cap, cur, h3, h4, h5, r⟩ => ⟨g, cap, cur, h3, h4, (k.block g (lt_of_heap h5)).trans h5, r⟩⟩
theorem off_typeX {w : World} {base m n c : Nat} {a : Option Addr} {xs : List Value} (h : w.ownsRow base 5 1 (.slice a n c) m xs) {p : Nat} {cs : Array Value} {T : TypeId} {fr : Nat × Nat} (hp : w.heap[p]? = some (.cells cs T fr)) (hT : T ≠ 5) : Off p (.slice a n c) := by
  rcases h.2 with ⟨h1, _⟩ | ⟨g, cap, cur, h1, _, h3, _⟩
  · simp only [Value.slice.injEq] at h1
    rw [h1.1]; trivial
  · simp only [Value.slice.injEq] at h1
    rw [h1.1]
    show g ≠ p
    rintro rfl
    rw [h3] at hp
    simp at hp
    exact hT hp.2.1.symm
/-- the manifest mb, the pieces and the error that a call of Make, begun at wS and ended at wE, has left -/
structure MdX (fb : Nat) (Post : World → World → Array Value → Value → Value → Prop) (mb : Nat) (M : Array Value) (pv ev : Value) (w1 w : World) : Prop where
  ex : ∃ wS wE, Below w1.heap.size w1 wS ∧ Post wS wE M pv ev ∧ Kept fb wS wE ∧ (mb < wS.heap.size ∨ wE.heap.size ≤ mb) ∧ (∀ q, q < wE.heap.size → q ≠ mb → w.heap[q]? = wE.heap[q]?) ∧ wE.heap.size ≤ w.heap.size
  at_ : w.heap[mb]? = some (.cells M 62 (0, 0))
  low : w1.heap.size ≤ mb
  up : mb < w.heap.size
  kept : Kept fb w1 w
theorem mdx_late {fb mb : Nat} {Post : World → World → Array Value → Value → Value → Prop} {M : Array Value} {pv ev : Value} {w1 wS wE wA wZ : World} (hS : Below w1.heap.size w1 wS) (hP : Post wS wE M pv ev) (hE : Kept fb wS wE)
    (hmb : mb = wE.heap.size) (hA : Below wE.heap.size wE wA) (hml : mb < wA.heap.size) (hZ : wZ.heap[mb]? = some (.cells M 62 (0, 0))) (hk : Kept mb wA wZ) : MdX fb Post mb M pv ev w1 wZ := by
  have h1 := hS.size
  have h2 := hE.size
  have h3 := hA.size
  have h4 := hk.size
  refine ⟨⟨wS, wE, hS, hP, hE, .inr (by omega), fun q hq hne => (hk.block q (by omega) hne).trans (hA.block q hq), by omega⟩, hZ, by omega, by omega, ?_⟩
  exact (((Kept.of_below hS).trans hE).trans (Kept.of_below hA)).fresh hk (by omega)
theorem mdx_early {fb mb : Nat} {Post : World → World → Array Value → Value → Value → Prop} {M : Array Value} {pv ev : Value} {w1 wS wE wZ : World} (hS : Below w1.heap.size w1 wS) (hP : Post wS wE M pv ev) (hE : Kept fb wS wE)
    (hlo : w1.heap.size ≤ mb) (hml : mb < wS.heap.size) (hZ : wZ.heap[mb]? = some (.cells M 62 (0, 0))) (hk : Kept mb wE wZ) : MdX fb Post mb M pv ev w1 wZ := by
  have h1 := hS.size
  have h2 := hE.size
  have h4 := hk.size
  refine ⟨⟨wS, wE, hS, hP, hE, .inl hml, fun q hq hne => hk.block q hq hne, by omega⟩, hZ, hlo, by omega, ?_⟩
  exact ((Kept.of_below hS).trans hE).fresh hk hlo
/-- what Make answers where its arguments are right -/
def MkPost (fb k n t m : Nat) (l : List Nat) (wS wE : World) (M : Array Value) (pv ev : Value) : Prop :=
  ∃ rb mb0 g gd bf, MkN fb rb mb0 g gd t bf wS ∧ M = (mcells k n t m (dig shaRound shaStart l) (.slice (some ⟨gd, 0, none⟩) t t)).toArray ∧ pv = .slice (some ⟨g, 0, none⟩) t t ∧ ev = .int .i64 0 ∧ MkR fb mb0 g gd k t m (plen k m) shaRound shaStart l bf wS wE
theorem MdX.good {fb k n t m mb : Nat} {l : List Nat} {M : Array Value} {pv ev : Value} {w1 w : World} (h : MdX fb (MkPost fb k n t m l) mb M pv ev w1 w) (hfb : fb < w1.heap.size) :
    ∃ g gd bf, pv = .slice (some ⟨g, 0, none⟩) t t ∧ ev = .int .i64 0 ∧ MdR fb k n t m l mb g gd bf w1 w := by
  obtain ⟨wS, wE, hS, ⟨rb, mb0, g, gd, bf, N, rfl, rfl, rfl, R⟩, hE, hor, hb, hsz⟩ := h.ex
  obtain ⟨n1, n2, n3, n4, n5⟩ := N.ne
  obtain ⟨l1, l2, l3, l4, l5, l6⟩ := N.low
  have hs := hS.size
  have hEs := hE.size
  have hgl := R.pcs.own.lt
  have hgdl := R.gdl
  have hfl := R.built.lt
  have hlo := h.low
  have hbf : ∀ j, j < t → wS.heap.size ≤ bf j ∧ bf j < wE.heap.size := fun j hj => ⟨R.pcs.low j hj, (R.pcs.row j hj).lt⟩
  refine ⟨g, gd, bf, rfl, rfl, h.at_, ⟨(hb g hgl (by omega)).trans R.pcs.own, fun j hj => (hb _ (hbf j hj).2 (by have := hbf j hj; omega)).trans (R.pcs.row j hj), fun j hj => Nat.le_trans hs (R.pcs.low j hj), R.pcs.inj, R.pcs.notb⟩, fun j hj => range_same (R.rng j hj) (hb gd hgdl (by omega)), there_same R.th (hb gd hgdl (by omega)), (hb fb hfl (by omega)).trans R.built, h.kept, ⟨n1, by omega, by omega, fun j hj => ⟨N.bfn j hj, by have := hbf j hj; omega⟩⟩, ⟨hlo, by omega, by omega⟩, ⟨h.up, by omega, by omega, fun j hj => by have := hbf j hj; omega⟩⟩
/-- what Make leaves stays through what keeps all blocks but the field's -/
theorem MdR.step {fb k n t m mb g gd : Nat} {l : List Nat} {bf : Nat → Nat} {w1 w w' : World} (h : MdR fb k n t m l mb g gd bf w1 w) (k' : Kept fb w w') (hfb : fb < w1.heap.size) (hbu : Built w' fb) : MdR fb k n t m l mb g gd bf w1 w' := by
  obtain ⟨l1, l2, l3⟩ := h.low
  obtain ⟨u1, u2, u3, u4⟩ := h.up
  have hz := k'.size
  have hb : ∀ q, q < w.heap.size → q ≠ fb → w'.heap[q]? = w.heap[q]? := fun q hq hne => k'.block q hq hne
  have hbl : ∀ j, j < t → w1.heap.size ≤ bf j := fun j hj => h.pcs.low j hj
  exact ⟨(hb mb u1 (by omega)).trans h.man, ⟨(hb g u3 (by omega)).trans h.pcs.own, fun j hj => (hb _ (u4 j hj) (by have := hbl j hj; omega)).trans (h.pcs.row j hj), h.pcs.low, h.pcs.inj, h.pcs.notb⟩, fun j hj => range_same (h.rng j hj) (hb gd u2 (by omega)), there_same h.th (hb gd u2 (by omega)), hbu, h.kept.trans k', h.ne, ⟨l1, l2, l3⟩, ⟨by omega, by omega, by omega, fun j hj => by have := u4 j hj; omega⟩⟩
end Go.Proofs.YtjgiiciniplbnaaGreatDoor
