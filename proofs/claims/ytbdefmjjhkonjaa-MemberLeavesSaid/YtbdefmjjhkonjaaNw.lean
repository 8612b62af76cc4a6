/-
  Newer is a strict total order.
-/
import Derived.Test.YtbdefmjjhkonjaaEb
namespace Go.Proofs.Ytbdefmjjhkonjaa
open Go Go.RowKit
set_option linter.unusedVariables false

theorem nw_self (a : Ent) : nw a a = false := by simp [nw]
theorem nw_asym {a b : Ent} (h : nw a b = true) : nw b a = false := by
  unfold nw at *
  by_cases e : a.1 = b.1
  · rw [if_pos e] at h; rw [if_pos e.symm]; simp at h ⊢; omega
  · rw [if_neg e] at h; rw [if_neg (fun x => e x.symm)]; simp at h ⊢; omega
theorem nw_total {a b : Ent} (h : nw a b = false) (h2 : nw b a = false) : a = b := by
  unfold nw at *
  by_cases e : a.1 = b.1
  · rw [if_pos e] at h; rw [if_pos e.symm] at h2; simp at h h2; exact Prod.ext e (by omega)
  · rw [if_neg e] at h; rw [if_neg (fun x => e x.symm)] at h2; simp at h h2; omega
theorem nw_trans {a b c : Ent} (h : nw a b = true) (h2 : nw b c = true) : nw a c = true := by
  unfold nw at *
  by_cases e : a.1 = b.1 <;> by_cases e2 : b.1 = c.1
  · rw [if_pos e] at h; rw [if_pos e2] at h2; rw [if_pos (e.trans e2)]; simp at *; omega
  · rw [if_pos e] at h; rw [if_neg e2] at h2; rw [if_neg (by omega)]; simp at *; omega
  · rw [if_neg e] at h; rw [if_pos e2] at h2; rw [if_neg (by omega)]; simp at *; omega
  · rw [if_neg e] at h; rw [if_neg e2] at h2; simp at h h2; rw [if_neg (by omega)]; simp; omega
theorem nw_ne {a b : Ent} (h : nw a b = true) : a ≠ b := by rintro rfl; rw [nw_self] at h; cases h
end Go.Proofs.Ytbdefmjjhkonjaa
