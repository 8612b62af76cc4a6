/-
  IndexFunc, DeleteFunc and answer where there is one probe, of another number.
-/
import Derived.Test.YtbdefmjjhkonjaaRa
import Derived.Test.YtbdefmjjhkonjaaPrb
namespace Go.Proofs.Ytbdefmjjhkonjaa
open Go Go.RowKit
set_option linter.unusedVariables false

/-- the closure of answer -/
def fvA (xb : Nat) : Value := .func (.func 88) #[] #[.pointer (some ⟨xb, 0, none⟩)]
set_option maxRecDepth 100000 in
set_option maxHeartbeats 1000000 in
theorem answer1_any (s t c : Int) (a : Bool) (s2 : Int) (xb : Nat) (w : World) (hx : w.cell? ⟨xb, 3, none⟩ = some (.int .u64 s2)) (hl : xb < w.heap.size) :
    Calls Try.prog 88 #[.agg (pcl s t c a).toArray, .pointer (some ⟨xb, 0, none⟩)] w fun e w' => e = .returned (.bool (s == s2)) ∧ Below w.heap.size w w' := by
  obtain ⟨w1, hw1⟩ : ∃ y, y = w.alloc (.cells (pcl s t c a).toArray 91) := ⟨_, rfl⟩
  have hb1 : Below w.heap.size w w1 := by rw [hw1]; exact (Below.refl _ _).alloc (Nat.le_refl _) _
  have hp : w1.cell? ⟨w.heap.size, 0, none⟩ = some (.int .u64 s) := by rw [hw1, cell_of_heap (heap_new _ _)]; rfl
  have hx1 : w1.cell? ⟨xb, 3, none⟩ = some (.int .u64 s2) := by rw [hw1, World.cell?_alloc_past _ _ _ hl]; exact hx
  have HB := hid hb1
  clear hb1 hx
  go_enter Try.func88, Try.ntmps88
  go_upto_region 1 with fail
  rw [← hw1]
  clear hw1
  go_wp2
  go_ret
  exact ⟨rfl, HB.out⟩
set_option maxRecDepth 100000 in
set_option maxHeartbeats 1000000 in
theorem IndexFunc_miss (g cap : Nat) (s t c : Int) (a : Bool) (s2 : Int) (xb : Nat) (w : World) (hp : ∀ j, j < 4 → w.cell? ⟨g, j, none⟩ = (pcl s t c a)[j]?) (hx : w.cell? ⟨xb, 3, none⟩ = some (.int .u64 s2)) (hl : xb < w.heap.size) (hne : (s == s2) = false) :
    Calls Try.prog 91 #[.slice (some ⟨g, 0, none⟩) 1 cap, fvA xb] w fun e w' => e = .returned (.int .i64 (-1)) ∧ Below w.heap.size w w' := by
  have HA := hid (answer1_any s t c a s2 xb w hx hl)
  rw [hne] at HA
  have p0 : w.cell? ⟨g, 0, none⟩ = some (.int .u64 s) := hp 0 (by omega)
  have p1 : w.cell? ⟨g, 1, none⟩ = some (.int .i64 t) := hp 1 (by omega)
  have p2 : w.cell? ⟨g, 2, none⟩ = some (.int .u64 c) := hp 2 (by omega)
  have p3 : w.cell? ⟨g, 3, none⟩ = some (.bool a) := hp 3 (by omega)
  clear hp hx hne
  unfold fvA
  go_enter Try.func91, Try.ntmps91
  go_wp2
  go_loopw [5, 8] (fun xv iv wr => ∃ i : Nat, i ≤ 1 ∧ iv = .int .i64 i ∧ Hid (i = 0 → w = wr) ∧ Hid (Below w.heap.size w wr)) (fun _ iv _ => 1 - (intOf iv).toNat)
  case atStart => exact ⟨0, by omega, rfl, hid (fun _ => rfl), hid (Below.refl _ _)⟩
  case round =>
    obtain ⟨i, hi, rfl, H0, HB⟩ := hrel
    by_cases hlt : i < 1
    · obtain rfl : i = 0 := by omega
      obtain rfl := H0.out rfl
      clear H0 HB
      go_wp2_with fail
      refine HA.out.mono ?_
      rintro e w1 ⟨rfl, hb1⟩
      have HB1 := hid hb1
      clear hb1
      go_wp2
      exact ⟨⟨1, by omega, by go_num, hid (fun h => by omega), HB1⟩, by simp [intOf]⟩
    · obtain rfl : i = 1 := by omega
      go_wp2
      go_ret
      exact ⟨rfl, HB.out⟩
theorem DeleteFunc_miss (g cap : Nat) (s t c : Int) (a : Bool) (s2 : Int) (xb : Nat) (w : World) (hp : ∀ j, j < 4 → w.cell? ⟨g, j, none⟩ = (pcl s t c a)[j]?) (hx : w.cell? ⟨xb, 3, none⟩ = some (.int .u64 s2)) (hl : xb < w.heap.size) (hne : (s == s2) = false) :
    Calls Try.prog 83 #[.slice (some ⟨g, 0, none⟩) 1 cap, fvA xb] w fun e w' => e = .returned (.slice (some ⟨g, 0, none⟩) 1 cap) ∧ Below w.heap.size w w' := by
  have HA := hid (IndexFunc_miss g cap s t c a s2 xb w hp hx hl hne)
  clear hp hx hne
  unfold fvA at HA ⊢
  go_enter Try.func83, Try.ntmps83
  go_wp2_with fail
  refine HA.out.mono ?_
  rintro e w' ⟨rfl, hb⟩
  have HB := hid hb
  clear hb
  go_wp2
  go_ret
  exact ⟨rfl, HB.out⟩
end Go.Proofs.Ytbdefmjjhkonjaa
