/-
  SameTable: the comparison of two tables; sameInts.
-/
import Derived.Test.YtbdefmjjhkonjaaCln
namespace Go.Proofs.Ytbdefmjjhkonjaa
open Go Go.RowKit
set_option linter.unusedVariables false

set_option maxRecDepth 100000 in
set_option maxHeartbeats 1000000 in
theorem SameTable_any (a1 : Option Addr) (n1 c1 : Nat) (L1 : List Ent) (a2 : Option Addr) (n2 c2 : Nat) (L2 : List Ent) (w : World) (ht1 : Tb w (.slice a1 n1 c1) L1) (ht2 : Tb w (.slice a2 n2 c2) L2) (hn : n1 ≤ 100000) :
    Calls Try.prog 21 #[.slice a1 n1 c1, .slice a2 n2 c2] w fun e w' => e = .returned (.bool (decide (L1 = L2))) ∧ ∃ q, w' = w.drewN q := by
  have HN1 := hid ht1.len
  have HN2 := hid ht2.len
  have HT1 := hid ht1
  have HT2 := hid ht2
  clear ht1 ht2
  by_cases hne : n1 = n2
  · have HE := hid hne
    have e0 : ((n1 : Int) != n2) = false := by simp [hne]
    clear hne
    go_enter Try.func21, Try.ntmps21
    go_wp2
    clear e0
    go_loopw [5] (fun iv wr => ∃ i : Nat, i ≤ n1 ∧ iv = .int .i64 i ∧ Hid (L1.take i = L2.take i) ∧ Hid (∃ q, wr = w.drewN q)) (fun iv _ => n1 - (intOf iv).toNat)
    case atStart => exact ⟨0, by omega, rfl, hid rfl, hid ⟨0, rfl⟩⟩
    case round =>
      obtain ⟨i, hi, rfl, HO, HB⟩ := hrel
      by_cases hlt : i < n1
      · obtain ⟨b1, o1, rfl, hb1⟩ := HT1.out.addr (by omega)
        obtain ⟨b2, o2, rfl, hb2⟩ := HT2.out.addr (by rw [← HE.out]; omega)
        have hlt2 : i < n2 := HE.out ▸ hlt
        have q01 : wr.cell? ⟨b1, o1 + i * 2, none⟩ = some (.int .u64 (gd L1 i).1) ∧ wr.cell? ⟨b1, o1 + i * 2 + 1, none⟩ = some (.int .u8 (gd L1 i).2) := by
          obtain ⟨q, rfl⟩ := HB.out
          exact HT1.out.cells i hlt
        have r01 : wr.cell? ⟨b2, o2 + i * 2, none⟩ = some (.int .u64 (gd L2 i).1) ∧ wr.cell? ⟨b2, o2 + i * 2 + 1, none⟩ = some (.int .u8 (gd L2 i).2) := by
          obtain ⟨q, rfl⟩ := HB.out
          exact HT2.out.cells i hlt2
        obtain ⟨q0, q1⟩ := q01
        obtain ⟨r0, r1⟩ := r01
        obtain ⟨x, hx⟩ : ∃ x, x = (gd L1 i).1 := ⟨_, rfl⟩
        obtain ⟨s, hs⟩ : ∃ x, x = (gd L1 i).2 := ⟨_, rfl⟩
        rw [← hx] at q0
        rw [← hs] at q1
        have HG1 := hid (show gd L1 i = (x, s) by rw [hx, hs])
        clear hx hs
        obtain ⟨y, hx⟩ : ∃ x, x = (gd L2 i).1 := ⟨_, rfl⟩
        obtain ⟨t, hs⟩ : ∃ x, x = (gd L2 i).2 := ⟨_, rfl⟩
        rw [← hx] at r0
        rw [← hs] at r1
        have HG2 := hid (show gd L2 i = (y, t) by rw [hx, hs])
        clear hx hs
        have hneq := fun w => ent_neq x s y t w
        have hgd : Try.prog.eqGuardType Try.prog.depth 36 = false := by kernel_rfl
        cases hd : (!((x == y) && (s == t))) with
        | false =>
          rw [hd] at hneq
          have HT := hid (show L1.take (i + 1) = L2.take (i + 1) from by
            rw [take_up L1 i (by have := HN1.out; omega), take_up L2 i (by have := HN2.out; omega), HO.out, HG1.out, HG2.out]
            simp at hd
            rw [hd.1, hd.2])
          clear hd
          go_wp2_with fail
          go_quiet (fail)
          have HQ := hid (show ∃ q, wr.drewN nq = w.drewN q from by
            obtain ⟨q, h⟩ := HB.out
            exact ⟨q + nq, by rw [h, World.drewN_drewN]⟩)
          go_wp2
          exact ⟨⟨i + 1, by omega, by go_num, HT, HQ⟩, by simp [intOf]; omega⟩
        | true =>
          rw [hd] at hneq
          have HV := hid (show decide (L1 = L2) = false from by
            apply decide_eq_false
            rintro rfl
            rw [HG1.out] at HG2
            have h := HG2.out
            simp only [Prod.mk.injEq] at h
            simp [h.1, h.2] at hd)
          clear hd
          go_wp2_with fail
          go_quiet (fail)
          have HQ := hid (show ∃ q, wr.drewN nq = w.drewN q from by
            obtain ⟨q, h⟩ := HB.out
            exact ⟨q + nq, by rw [h, World.drewN_drewN]⟩)
          go_wp2
          go_ret
          exact ⟨ret_b HV.out.symm, HQ.out⟩
      · obtain rfl : i = n1 := by omega
        have HV := hid (show decide (L1 = L2) = true from by
          apply decide_eq_true
          have h := HO.out
          rw [List.take_of_length_le (by have := HN1.out; omega), List.take_of_length_le (by have := HN2.out; have := HE.out; omega)] at h
          exact h)
        go_wp2
        go_ret
        exact ⟨ret_b HV.out.symm, HB.out⟩
  · have HV := hid (show decide (L1 = L2) = false from by
      apply decide_eq_false
      rintro rfl
      exact hne (by have := HN1.out; have := HN2.out; omega))
    have e0 : ((n1 : Int) != n2) = true := by simp; omega
    go_enter Try.func21, Try.ntmps21
    go_wp2
    go_ret
    exact ⟨ret_b HV.out.symm, 0, rfl⟩
end Go.Proofs.Ytbdefmjjhkonjaa
