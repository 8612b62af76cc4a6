/-
  SamePieces of the reference, where the two lists are the same.
-/
import Derived.Test.YtbajekiliplclaaRSplit
import Derived.Test.YtbajekiliplclaaKnown
import Derived.Deep.RegionLaw
namespace Go.Proofs.Ytbajekiliplclaa
open Go.RowKit
set_option linter.unusedVariables false

theorem ps_addr {w : World} {a : Option Addr} {n c : Nat} {ps : List (Int × Sl)} (h : Ps w (.slice a n c) ps) (hn : 0 < n) : n = ps.length ∧ ∃ b o, a = some ⟨b, o, none⟩ ∧ ∀ i, (h : i < ps.length) → w.cell? ⟨b, o + i * 2, none⟩ = some (.int .i64 ps[i].1) ∧ w.cell? ⟨b, o + i * 2 + 1, none⟩ = some (.slice ps[i].2.1 ps[i].2.2.1 ps[i].2.2.2) := by
  obtain ⟨a', c', h1, h2⟩ := h
  simp only [Value.slice.injEq] at h1
  obtain ⟨rfl, rfl, rfl⟩ := h1
  exact ⟨rfl, h2 (fun e => by rw [e] at hn; exact absurd hn (Nat.lt_irrefl 0))⟩

set_option maxRecDepth 100000 in
set_option maxHeartbeats 1000000 in
theorem same_yes (a a' : Option Addr) (n c c' : Nat) (psA psB : List (Int × Sl)) (D : Nat → List Nat) (w : World) (hA : Ps w (.slice a n c) psA) (hB : Ps w (.slice a' n c') psB) (hn : n ≤ 1000000)
    (hix : ∀ i, (h : i < psA.length) → (h' : i < psB.length) → psA[i].1 = psB[i].1)
    (hDA : ∀ i, (h : i < psA.length) → Bs w (.slice psA[i].2.1 psA[i].2.2.1 psA[i].2.2.2) (D i))
    (hDB : ∀ i, (h : i < psB.length) → Bs w (.slice psB[i].2.1 psB[i].2.2.1 psB[i].2.2.2) (D i)) :
    Calls Try.prog 33 #[.slice a n c, .slice a' n c'] w fun e w' => e = .returned (.bool true) ∧ Below w.heap.size w w' := by
  have HA := hid hA
  have HB := hid hB
  have HIX := hid hix
  have HDA := hid hDA
  have HDB := hid hDB
  clear hA hB hix hDA hDB
  go_enter Try.func33, Try.ntmps33
  go_wp2
  go_loopw [5] (fun iv wr => ∃ i : Nat, i ≤ n ∧ iv = .int .i64 i ∧ Below w.heap.size w wr) (fun iv _ => n - (intOf iv).toNat)
  case atStart => exact ⟨0, by omega, rfl, Below.refl _ _⟩
  case round =>
    obtain ⟨i, hi, rfl, hb⟩ := hrel
    have HBEL := hid hb
    clear hb
    by_cases hlt : i < n
    · obtain ⟨hnA, bA, oA, rfl, hcA⟩ := ps_addr (HA.out.below HBEL.out) (by omega)
      obtain ⟨hnB, bB, oB, rfl, hcB⟩ := ps_addr (HB.out.below HBEL.out) (by omega)
      obtain ⟨a0, a1⟩ := hcA i (by omega)
      obtain ⟨b0, b1⟩ := hcB i (by omega)
      have hdA := (HDA.out i (by omega)).below HBEL.out
      have hdB := (HDB.out i (by omega)).below HBEL.out
      rw [HIX.out i (by omega) (by omega)] at a0
      generalize psB[i]'(by omega) = pB at *
      generalize psA[i]'(by omega) = pA at *
      have cvA := fun q => conv_bs (hdA.drewN q)
      have cvB := fun q => conv_bs (hdB.drewN q)
      generalize bstr (D i) = S at *
      clear hcA hcB hnA hnB hdA hdB
      go_wp2
      go_quiet (fail)
      go_wp2
      exact ⟨⟨i + 1, by omega, by go_num, bel_drewN HBEL.out nq⟩, by simp [intOf]; omega⟩
    · obtain rfl : i = n := by omega
      go_wp2
      go_ret
      exact ⟨rfl, HBEL.out⟩
end Go.Proofs.Ytbajekiliplclaa
