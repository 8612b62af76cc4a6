/-
  A manifest that came in.
-/
import Derived.Test.YteaidpbopgjleaaDoorOwSm
import Derived.Test.YteaidpbopgjleaaDoorOpD
import Derived.ChangeArms
import Derived.WideShapes
namespace Go.Proofs.YteaidpbopgjleaaDoor
open Go.ChangeShapes Go.WideShapes Go.ChangeAt Go.RowKit
set_option linter.unusedVariables false

def cellND (v : Option Value) : Nat := match v with | some (.int _ n) => n.toNat | _ => 0
theorem chunkL {l : List Value} {off c : Nat} {v : Value} (h : (l.drop off).take c = [v]) : l[off]? = some v := by
  have h1 := getElem?_of_chunk (xs := l.toArray) h
  simpa using h1
section
variable {H : Type} {enc : TypeId × Value → H} {W : World}
theorem open_arr32D {fuel : Nat} {cs : List Value} {x : DataW H × List MemPlace} (h : DataW.trod enc Tryd.prog W 0 (fun _ => true) true fuel 30 cs = some x) (hcs : cs.length = 32) :
    ∃ l : List Nat, cs = u8s l ∧ l.length = 32 ∧ ∀ y ∈ l, y < 256 := by
  have hc1 : Tryd.prog.cellsOf 5 = 1 := by kernel_rfl
  obtain ⟨xs, m, _, _, _, hxl, hall⟩ := DataW.trod_array Tryd.underlying30 h
  have each : ∀ i, i < 32 → ∃ n : Nat, cs[i]? = some (.int .u8 (n : Int)) ∧ n < 256 := fun i hi => by
    have h1 := hall i hi
    rw [hc1, List.getElem?_eq_getElem (show i < xs.length by omega)] at h1
    obtain ⟨n, h2, _, hw⟩ := DataW.trod_int Tryd.underlying5 h1
    have h3 := chunkL h2
    have h4 := bounds_u8 hw
    exact ⟨n.toNat, by rw [Nat.mul_one] at h3; rw [h3, Int.toNat_of_nonneg h4.1], by omega⟩
  refine ⟨(List.range 32).map fun i => cellND cs[i]?, ?_, by simp, fun y hy => ?_⟩
  · apply List.ext_getElem?
    intro i
    by_cases hi : i < 32
    · obtain ⟨n, h1, h2⟩ := each i hi
      rw [h1]
      unfold u8s
      rw [List.getElem?_map, List.getElem?_map, List.getElem?_range hi]
      show _ = some (Value.int .u8 ((cellND cs[i]? : Nat) : Int))
      rw [h1]
      rfl
    · rw [List.getElem?_eq_none (by omega), List.getElem?_eq_none (by simp [u8s]; omega)]
  · obtain ⟨i, hi, rfl⟩ := List.mem_map.1 hy
    obtain ⟨n, h1, h2⟩ := each i (List.mem_range.1 hi)
    rw [h1]
    exact h2
theorem open_dgs {fuel : Nat} {cs : List Value} {x : DataW H × List MemPlace} (h : DataW.trod enc Tryd.prog W 0 (fun _ => true) true fuel 60 cs = some x) : ∃ a m c D, cs = [.slice a m c] ∧ Dgs W a m c D := by
  have hc32 : Tryd.prog.cellsOf 30 = 32 := by kernel_rfl
  rcases Deep.open_slice Tryd.underlying60 h with ⟨hcs, _⟩ | ⟨a, len, cap, m, n, D, Pl, hcs, _, hl, _, hm, _, hx⟩
  · exact ⟨none, 0, 0, [], hcs, ⟨none, 0, rfl, fun d hd => absurd hd List.not_mem_nil, fun e => absurd rfl e⟩, Nat.le_refl _, fun _ => rfl⟩
  · have hm' : m = cap := by simpa using hm
    rw [hc32] at hx
    have each : ∀ i, i < len → ∃ q : List Nat, (q.length = 32 ∧ ∀ y ∈ q, y < 256) ∧ ∀ j, j < 32 → W.cell? ((a.add (i * 32)).add j) = (u8s q)[j]? := fun i hi => by
      obtain ⟨cs', h1, h2⟩ := hx i (by omega)
      obtain ⟨_, hlen, hcell⟩ := World.cells?_some h1
      obtain ⟨l, rfl, hl1, hl2⟩ := open_arr32D h2 hlen
      exact ⟨l, ⟨hl1, hl2⟩, hcell⟩
    obtain ⟨q, hq⟩ := Deep.choose_lt each
    have hlen : ((List.range len).map q).length = len := by simp
    refine ⟨some a, len, cap, (List.range len).map q, hcs, ⟨some a, cap, by rw [hlen], fun d hd => ?_, fun hne => ?_⟩, hl, fun e => by cases e⟩
    · obtain ⟨i, hi, rfl⟩ := List.mem_map.1 hd
      exact (hq i (List.mem_range.1 hi)).1
    · have h0 : 0 < len := by
        rcases Nat.eq_zero_or_pos len with h | h
        · subst h; exact absurd rfl hne
        · exact h
      obtain ⟨b, o, spot⟩ := a
      obtain ⟨⟨h32, _⟩, hc0⟩ := hq 0 h0
      have hc := hc0 0 (by omega)
      rw [List.getElem?_eq_getElem (by simp [u8s, h32])] at hc
      have hspot : spot = none := by simpa [Addr.add] using World.cell?_spot hc
      subst hspot
      refine ⟨b, o, rfl, fun j hj u v hu => ?_⟩
      rw [hlen] at hj
      have e : ((List.range len).map q).getD j [] = q j := by
        rw [List.getD_eq_getElem?_getD, List.getElem?_map, List.getElem?_range hj]; rfl
      rw [e] at hu
      obtain ⟨⟨h32, _⟩, hcj⟩ := hq j hj
      have hu32 : u < 32 := by have := (List.getElem?_eq_some_iff.1 hu).1; simpa [u8s, h32] using this
      have h1 := hcj u hu32
      rw [Deep.add_add, add_noneD, hu, ← Nat.add_assoc] at h1
      exact h1
/-- a manifest that came in -/
def ManW (W : World) (v : Value) : Prop := ∃ (k n t s : Int) (od : List Nat) (a : Option Addr) (m c : Nat) (D : List (List Nat)), v = .agg (mcells k n t s od (.slice a m c)).toArray ∧ od.length = 32 ∧ (∀ y ∈ od, y < 256) ∧ Dgs W a m c D
set_option maxRecDepth 100000 in
theorem open_man {base : Nat} {v : Value} {d : DataW H} {p : List MemPlace} (hval : Value.okWide Tryd.prog W .any base 62 v) (h : DataW.Trod enc Tryd.prog W 0 (fun _ => true) true 62 v d p) : ManW W v := by
  obtain ⟨cs, rfl, hsz⟩ := okWide_struct Tryd.underlying62 hval
  rw [show Tryd.prog.cellsOf 62 = 37 from by kernel_rfl] at hsz
  obtain ⟨l⟩ := cs
  obtain ⟨fuel, hf⟩ := h
  obtain ⟨xs, n, rfl, _, _, hxl, hg⟩ := DataW.trod_struct Tryd.underlying62 hf
  have e3 : Tryd.prog.cellsOf 3 = 1 := by kernel_rfl
  have e30 : Tryd.prog.cellsOf 30 = 32 := by kernel_rfl
  have e60 : Tryd.prog.cellsOf 60 = 1 := by kernel_rfl
  match xs, hxl with
  | [y0, y1, y2, y3, y4, y5], _ =>
  have g0 := hg 0 _ rfl
  have g1 := hg 1 _ rfl
  have g2 := hg 2 _ rfl
  have g3 := hg 3 _ rfl
  have g4 := hg 4 _ rfl
  have g5 := hg 5 _ rfl
  simp only [Value.cells] at g0 g1 g2 g3 g4 g5
  obtain ⟨k, f0, _, w0⟩ := DataW.trod_int Tryd.underlying3 g0
  obtain ⟨n', f1, _, w1⟩ := DataW.trod_int Tryd.underlying3 g1
  obtain ⟨t, f2, _, w2⟩ := DataW.trod_int Tryd.underlying3 g2
  obtain ⟨s, f3, _, w3⟩ := DataW.trod_int Tryd.underlying3 g3
  have hl37 : l.length = 37 := by simpa using hsz
  obtain ⟨od, f4, ho1, ho2⟩ := open_arr32D g4 (by simp; omega)
  obtain ⟨a, m, c, D, f5, hD⟩ := open_dgs g5
  refine ⟨k, n', t, s, od, a, m, c, D, ?_, ho1, ho2, hD⟩
  congr 2
  have r0 : l[0]? = some (.int .i64 k) := chunkL f0
  have r1 : l[1]? = some (.int .i64 n') := chunkL f1
  have r2 : l[2]? = some (.int .i64 t) := chunkL f2
  have r3 : l[3]? = some (.int .i64 s) := chunkL f3
  have r5 : l[36]? = some (.slice a m c) := chunkL f5
  have r4 : ∀ i, i < 32 → l[4 + i]? = (u8s od)[i]? := fun i hi => by
    have h : (List.take 32 (List.drop 4 l))[i]? = (u8s od)[i]? := congrArg (·[i]?) f4
    rw [← h, List.getElem?_take_of_lt hi, List.getElem?_drop]
  have hml := mcells_length k n' t s od (.slice a m c) ho1
  apply List.ext_getElem?
  intro i
  by_cases hi : i < 37
  · rcases (show i = 0 ∨ i = 1 ∨ i = 2 ∨ i = 3 ∨ (∃ j, i = 4 + j ∧ j < 32) ∨ i = 36 from by
      rcases (show i < 4 ∨ i = 36 ∨ (4 ≤ i ∧ i < 36) from by omega) with h | h | h
      · omega
      · exact .inr (.inr (.inr (.inr (.inr h))))
      · exact .inr (.inr (.inr (.inr (.inl ⟨i - 4, by omega, by omega⟩))))) with rfl | rfl | rfl | rfl | ⟨j, rfl, hj⟩ | rfl
    · rw [r0]; rfl
    · rw [r1]; rfl
    · rw [r2]; rfl
    · rw [r3]; rfl
    · rw [r4 j hj]
      unfold mcells
      rw [List.append_assoc, List.getElem?_append_right (by simp), List.getElem?_append_left (by simp [u8s, ho1]; omega)]
      simp
    · rw [r5]
      unfold mcells
      rw [List.getElem?_append_right (by simp [u8s, ho1])]
      simp [u8s, ho1]
  · rw [List.getElem?_eq_none (by omega), List.getElem?_eq_none (by omega)]
end
end Go.Proofs.YteaidpbopgjleaaDoor
