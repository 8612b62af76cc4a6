/-
  fill: the tables are built in 255 rounds.
-/
import Derived.Test.YtafkjfpmjhfofaaDoorMul
namespace Go.Proofs.YtafkjfpmjhfofaaDoor
open Go.RowKit

/-- block b is a Field whose tables have been built up to k, the lock taken -/
def Filling (w : World) (b k : Nat) : Prop := w.heap[b]? = some (.cells (fcells 0 1 (tabTo k)) 80 (0, 0))
theorem Filling.cell {w : World} {b k : Nat} (h : Filling w b k) (i : Nat) (hi : i < 766) : ∃ v, w.cell? ⟨b, 3 + i, none⟩ = some v :=
  ⟨_, (cell_of_heap h (3 + i)).trans (fcells_get _ _ _ _ (by rw [tabTo_length]; exact hi))⟩
theorem Filling.free {w : World} {b k : Nat} (h : Filling w b k) (i : Nat) : w.frozen? ⟨b, i, none⟩ = false := free_of_heap h i
theorem Filling.step {w : World} {b k : Nat} (h : Filling w b k) : Filling (((w.setCell ⟨b, 3 + k, none⟩ (.int .u8 (Gf.E k))).setCell ⟨b, 3 + (k + 255), none⟩ (.int .u8 (Gf.E k))).setCell ⟨b, 513 + Gf.E k, none⟩ (.int .u8 k)) b (k + 1) := by
  have h1 := heap_set h (3 + k) (.int .u8 (Gf.E k))
  rw [fcells_set] at h1
  have h2 := heap_set h1 (3 + (k + 255)) (.int .u8 (Gf.E k))
  rw [fcells_set] at h2
  have h3 := heap_set h2 (3 + (510 + Gf.E k)) (.int .u8 k)
  rw [fcells_set] at h3
  rw [show 513 + Gf.E k = 3 + (510 + Gf.E k) from by omega]
  exact h3

set_option maxRecDepth 100000 in
theorem fill_any (b : Nat) (w : World) (h : Filling w b 0) :
    Calls Tryd.prog 84 #[.pointer (some ⟨b, 0, none⟩)] w fun e w' => e = .returned (.tuple #[]) ∧ Filling w' b 255 ∧ Kept b w w' := by
  go_enter Tryd.func84, Tryd.ntmps84
  go_wp2
  go_loopw [2, 4] (fun a i wr => ∃ k : Nat, k ≤ 255 ∧ i = .int .i64 k ∧ a = .int .u8 (Gf.E k) ∧ Filling wr b k ∧ Kept b w wr) (fun _ i _ => 255 - (intOf i).toNat)
  case atStart => exact ⟨0, by omega, rfl, rfl, h, Kept.refl _ _⟩
  case round =>
    obtain ⟨k, hk, rfl, rfl, hb, hK⟩ := hrel
    by_cases hlt : k < 255
    · have hE := Gf.E_lt k
      obtain ⟨v1, c1⟩ := hb.cell k (by omega)
      obtain ⟨v2, c2⟩ := hb.cell (k + 255) (by omega)
      obtain ⟨v3, c3⟩ := hb.cell (510 + Gf.E k) (by omega)
      rw [show 3 + (510 + Gf.E k) = 513 + Gf.E k from by omega] at c3
      have f1 := hb.free (3 + k)
      have f2 := hb.free (3 + (k + 255))
      have f3 := hb.free (513 + Gf.E k)
      clear h
      go_wp2_with (go_at_call 97; refine (double_any _ hE _).mono ?_; rintro e w' ⟨rfl, rfl⟩)
      go_roundw
      case rel => exact ⟨k + 1, by omega, by go_num, rfl, hb.step, ((hK.setCell rfl _).setCell rfl _).setCell rfl _⟩
      case measure => simp [intOf]; omega
    · obtain rfl : k = 255 := by omega
      have HK := hid hK
      go_wp2
      go_end0
      exact ⟨rfl, hb, hK⟩
end Go.Proofs.YtafkjfpmjhfofaaDoor
