/-
  heavy: whether calls are more than the statements look at.
-/
import Derived.Test.YtdjnjmekdjcbaaaDoorRbM
namespace Go.Proofs.YtdjnjmekdjcbaaaDoor
open Go Go.RowKit
set_option linter.unusedVariables false

/-- what heavy answers -/
def HvRes (os : List OpV) (w : World) (e : Ending) (w' : World) : Prop :=
  ∃ h : Bool, e = .returned (.bool h) ∧ w = w' ∧ (h = false → os.length ≤ 200 ∧ (∀ j, (hj : j < os.length) → opN os[j] ≤ 70000) ∧ tot os os.length ≤ 200000)
/-- the four cells of a call -/
theorem ops_at {w : World} {v : Value} {os : List OpV} (h : Ops w v os) (i : Nat) (hi : i < os.length) : ∃ b o c, v = .slice (some ⟨b, o, none⟩) os.length c ∧
    w.cell? ⟨b, o + i * 4, none⟩ = some (.int .i64 os[i].1) ∧ w.cell? ⟨b, o + i * 4 + 1, none⟩ = some (.int .u64 (os[i].2.1 : Int)) ∧ w.cell? ⟨b, o + i * 4 + 2, none⟩ = some (.int .i64 os[i].2.2.1) ∧
    w.cell? ⟨b, o + i * 4 + 3, none⟩ = some (.slice os[i].2.2.2.1 os[i].2.2.2.2.1 os[i].2.2.2.2.2.1) ∧ ByD w os[i].2.2.2.1 os[i].2.2.2.2.1 os[i].2.2.2.2.2.1 os[i].2.2.2.2.2.2 ∧ os[i].2.1 < 18446744073709551616 := by
  obtain ⟨a, c, rfl, hc⟩ := h
  obtain ⟨b, o, rfl, hcell⟩ := hc (fun e => by rw [e] at hi; exact absurd hi (Nat.not_lt_zero _))
  obtain ⟨h1, h2, h3, h4, h5, h6, _⟩ := hcell i hi
  exact ⟨b, o, c, rfl, h1, h2, h3, h4, h5, h6⟩

set_option maxRecDepth 100000 in
set_option maxHeartbeats 2000000 in
theorem heavy_any (v : Value) (os : List OpV) (w : World) (hP : Ops w v os) : Calls Tryd.prog 9 #[v] w fun e w' => HvRes os w e w' := by
  have HP := hid hP
  obtain ⟨a, c, rfl, -⟩ := hP
  obtain ⟨n, hn⟩ : ∃ n, n = os.length := ⟨_, rfl⟩
  rw [← hn]
  have HN := hid hn
  clear hn
  by_cases h1 : 200 < n
  · have hI : 200 < (n : Int) := by omega
    go_enter Tryd.func9, Tryd.ntmps9
    go_wp2
    go_ret
    exact ⟨true, rfl, rfl, fun h => by cases h⟩
  have hI : ¬ 200 < (n : Int) := by omega
  go_enter Tryd.func9, Tryd.ntmps9
  go_wp2
  go_loop [3, 4] (fun nv iv => ∃ i : Nat, i ≤ n ∧ iv = .int .i64 i ∧ nv = .int .i64 ((tot os i : Nat) : Int) ∧ Hid (∀ j, (hj : j < os.length) → j < i → opN os[j] ≤ 70000)) (fun _ iv => n - (intOf iv).toNat)
  case atStart => exact ⟨0, by omega, rfl, rfl, hid (fun j hj h => absurd h (Nat.not_lt_zero _))⟩
  case round =>
    obtain ⟨i, hi, rfl, rfl, HJ⟩ := hrel
    have htl : tot os i ≤ 70000 * i := tot_le os i (by rw [← HN.out]; exact hi) HJ.out
    by_cases hin : i < n
    · have hIn : (i : Int) < (n : Int) := by omega
      have hil : i < os.length := by rw [← HN.out]; exact hin
      obtain ⟨b, o, c', hv, -, -, -, c3, hby, -⟩ := ops_at HP.out i hil
      simp only [Value.slice.injEq] at hv
      obtain ⟨rfl, -, -⟩ := hv
      have hts := tot_succ os i hil
      have HJN := hid (show opN os[i] ≤ 70000 → ∀ j, (hj : j < os.length) → j < i + 1 → opN os[j] ≤ 70000 from fun h j hj hji => by
        by_cases e : j = i
        · subst e; exact h
        · exact HJ.out j hj (by omega))
      have hon : opN os[i] = os[i].2.2.2.2.1 := rfl
      rw [← hon] at c3
      clear hby hon
      generalize opN os[i] = q at *
      generalize os[i] = y at *
      generalize tot os i = t at *
      have HTS := hid hts
      clear hts
      by_cases hq : 70000 < q
      · have hQ : 70000 < (q : Int) := by omega
        go_wp2
        go_ret
        exact ⟨true, rfl, rfl, fun h => by cases h⟩
      have hQ : ¬ 70000 < (q : Int) := by omega
      by_cases ht : 200000 < t
      · have hT : 200000 < (t : Int) := by omega
        go_wp2
        go_ret
        exact ⟨true, rfl, rfl, fun h => by cases h⟩
      have hT : ¬ 200000 < (t : Int) := by omega
      have HJ2 := hid (HJN.out (by omega))
      have tw : IntKind.i64.wrap ((t : Int) + (q : Int)) = ((t + q : Nat) : Int) := by rw [IntKind.wrap_i64]; omega
      go_wp2
      exact ⟨⟨i + 1, by omega, by go_num, by rw [HTS.out]; rfl, HJ2⟩, by simp [intOf]; omega⟩
    · obtain rfl : i = n := by omega
      by_cases ht : 200000 < tot os i
      · have hT : 200000 < ((tot os i : Nat) : Int) := by omega
        go_wp2
        go_ret
        exact ⟨true, by simp [], rfl, fun h => by cases h⟩
      · have hT : ¬ 200000 < ((tot os i : Nat) : Int) := by omega
        go_wp2
        go_ret
        refine ⟨false, by simp [], rfl, fun _ => ⟨by rw [← HN.out]; omega, fun j hj => HJ.out j hj (by rw [HN.out]; exact hj), by rw [← HN.out]; omega⟩⟩
end Go.Proofs.YtdjnjmekdjcbaaaDoor
