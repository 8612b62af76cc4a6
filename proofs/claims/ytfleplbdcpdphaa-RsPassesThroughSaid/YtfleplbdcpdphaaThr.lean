/-
  The reference's Through: the errors.
-/
import Derived.Test.YtfleplbdcpdphaaRBy
import Derived.Test.YtfleplbdcpdphaaPt
import Derived.BigQuiet
namespace Go.Proofs.Ytfleplbdcpdphaa
open Go Go.RowKit
set_option linter.unusedVariables false

theorem mem_take_getD {X : List Nat} {i v : Nat} (h : v ∈ X.take i) : ∃ j, j < i ∧ X.getD j 0 = v := by
  obtain ⟨j, hj, rfl⟩ := List.getElem_of_mem h
  have h2 : j < i ∧ j < X.length := by
    have h3 := hj
    rw [List.length_take] at h3
    omega
  refine ⟨j, h2.1, ?_⟩
  rw [List.getD_eq_getElem?_getD, List.getElem?_eq_getElem h2.2, List.getElem_take]; rfl
theorem getD_mem_take {X : List Nat} {i j : Nat} (hj : j < i) (hi : i < X.length) : X.getD j 0 ∈ X.take i := by
  rw [List.getD_eq_getElem?_getD, List.getElem?_eq_getElem (by omega)]
  show X[j] ∈ _
  have : X[j] = (X.take i)[j]'(by simp; omega) := by rw [List.getElem_take]
  rw [this]
  exact List.getElem_mem _
theorem take_nodup_up {X : List Nat} {i : Nat} (hi : i < X.length) (h : (X.take i).Nodup) (hn : ∀ j, j < i → X.getD j 0 ≠ X.getD i 0) : (X.take (i + 1)).Nodup := by
  rw [take_up X i hi, List.nodup_append]
  refine ⟨h, by simp, ?_⟩
  intro a ha b hb e
  simp at hb
  obtain ⟨j, hj, h2⟩ := mem_take_getD ha
  exact hn j hj (by rw [h2, e, hb, List.getD_eq_getElem?_getD])

set_option maxRecDepth 100000 in
set_option maxHeartbeats 1000000 in
theorem Through_two (a : Option Addr) (n c : Nat) (w : World) (h : n = 0 ∨ 256 < n) :
    Calls Try.prog 55 #[.slice a n c] w fun e w' => e = .returned (.tuple #[.slice none 0 0, .int .i64 2]) ∧ w = w' := by
  by_cases h1 : n = 0
  · subst h1
    clear h
    go_enter Try.func55, Try.ntmps55
    go_wp2
    go_ret2
    exact ⟨rfl, rfl⟩
  · have b1 : ((n : Int) == 0) = false := by simp; omega
    have b2 : decide ((256 : Int) < n) = true := by simp; omega
    clear h
    go_enter Try.func55, Try.ntmps55
    go_wp2
    go_ret2
    exact ⟨rfl, rfl⟩

set_option maxRecDepth 100000 in
set_option maxHeartbeats 2000000 in
theorem Through_dup (a : Option Addr) (n c : Nat) (X Y : List Nat) (w : World) (hp : Pt w (.slice a n c) X Y) (h1 : 1 ≤ n) (h2 : n ≤ 256) (hd : ¬ X.Nodup) :
    Calls Try.prog 55 #[.slice a n c] w fun e w' => e = .returned (.tuple #[.slice none 0 0, .int .i64 7]) ∧ Below w.heap.size w w' := by
  have HN := hid hp.len.1
  obtain ⟨b, o, rfl⟩ := hp.addr (by omega)
  have HP := hid hp
  have HD := hid hd
  have b1 : ((n : Int) == 0) = false := by simp; omega
  have b2 : decide ((256 : Int) < n) = false := by simp; omega
  clear hp hd
  go_enter Try.func55, Try.ntmps55
  go_wp2
  clear b1 b2
  go_loopw [5] (fun iv wr => ∃ i : Nat, i ≤ n ∧ iv = .int .i64 i ∧ Hid ((X.take i).Nodup) ∧ Hid (Below w.heap.size w wr)) (fun iv _ => n - (intOf iv).toNat)
  case atStart => exact ⟨0, by omega, rfl, hid (by simp), hid (Below.refl _ _)⟩
  case round =>
    obtain ⟨i, hi, rfl, HU, HBE⟩ := hrel
    by_cases hlt : i < n
    · obtain ⟨wo, rfl⟩ : ∃ wo, wo = wr := ⟨_, rfl⟩
      go_wp2
      go_loopw [6] (fun iv wr => ∃ j : Nat, j ≤ i ∧ iv = .int .i64 j ∧ Hid (∀ q, q < j → X.getD q 0 ≠ X.getD i 0) ∧ Hid (Below w.heap.size w wr)) (fun iv _ => i - (intOf iv).toNat)
      case atStart => exact ⟨0, by omega, rfl, hid (fun q hq => absurd hq (Nat.not_lt_zero q)), HBE⟩
      case round =>
        obtain ⟨j, hj, rfl, HQ, HB2⟩ := hrel
        by_cases hlt2 : j < i
        · have c0 := ((HP.out.below HB2.out).cells i hlt).1
          have c1 := ((HP.out.below HB2.out).cells j (by omega)).1
          have hjn : j < n := by omega
          obtain ⟨x, hx⟩ : ∃ x, x = X.getD i 0 := ⟨_, rfl⟩
          obtain ⟨y, hy⟩ : ∃ y, y = X.getD j 0 := ⟨_, rfl⟩
          rw [← hx] at c0
          rw [← hy] at c1
          have HX := hid hx
          have HY := hid hy
          clear hx hy
          by_cases e : x = y
          · subst e
            go_wp2
            go_quiet (fail)
            go_wp2
            go_ret2
            exact ⟨rfl, bel_drewN HB2.out _⟩
          · have b3 : ((x : Int) == (y : Int)) = false := by simp; omega
            have HE := hid e
            clear e
            go_wp2
            go_quiet (fail)
            go_wp2
            refine ⟨⟨j + 1, by omega, by go_num, hid ?_, hid (bel_drewN HB2.out _)⟩, by simp [intOf] <;> omega⟩
            intro q hq
            by_cases e : q = j
            · rw [e, ← HX.out, ← HY.out]; exact fun h => HE.out h.symm
            · exact HQ.out q (by omega)
        · obtain rfl : j = i := by omega
          go_wp2
          refine ⟨⟨j + 1, by omega, by go_num, hid ?_, HB2⟩, by simp [intOf] <;> omega⟩
          exact take_nodup_up (by rw [← HN.out]; exact hlt) HU.out HQ.out
    · obtain rfl : i = n := by omega
      exfalso
      have h5 := HU.out
      rw [List.take_of_length_le (by rw [← HN.out]; exact Nat.le_refl _)] at h5
      exact HD.out h5
end Go.Proofs.Ytfleplbdcpdphaa
