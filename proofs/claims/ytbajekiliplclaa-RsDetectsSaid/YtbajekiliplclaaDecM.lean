/-
  What a checked list of pieces gives; the object that pieces determine, as a list.
-/
import Derived.Test.YtbajekiliplclaaChk
import Derived.Test.YtbajekiliplclaaSplit
namespace Go.Proofs.Ytbajekiliplclaa
open Go Go.RowKit
set_option linter.unusedVariables false

theorem chkTo_all {t : Int} {idx ce : Nat → Int} : ∀ {n : Nat}, chkTo t idx ce n = 0 → ∀ i, i < n → stepE t idx ce i = 0
  | 0, _, i, hi => absurd hi (Nat.not_lt_zero i)
  | n + 1, h, i, hi => by
    unfold chkTo at h
    by_cases h0 : chkTo t idx ce n = 0
    · rw [if_pos h0] at h
      by_cases e : i = n
      · rw [e]; exact h
      · exact chkTo_all h0 i (by omega)
    · rw [if_neg h0] at h
      exact absurd h h0
/-- what a checked list gives -/
structure Fit (k t : Int) (idx ce : Nat → Int) (n : Nat) : Prop where
  few : k ≤ n
  lo : ∀ i, i < n → 0 ≤ idx i
  hi : ∀ i, i < n → idx i < t
  ne : ∀ j i, j < i → i < n → idx j ≠ idx i
  ok : ∀ i, i < n → ce i = 0
theorem fit_of {k t : Int} {idx ce : Nat → Int} {n : Nat} (h : chkAll k t idx ce n = 0) : Fit k t idx ce n := by
  unfold chkAll at h
  by_cases h0 : chkTo t idx ce n = 0
  · rw [if_pos h0] at h
    have hk : k ≤ n := by
      by_cases e : (n : Int) < k
      · rw [if_pos e] at h; omega
      · omega
    have hs : ∀ i, i < n → ¬ (idx i < 0 ∨ t ≤ idx i) ∧ occ idx i (idx i) ≠ true ∧ ce i = 0 := fun i hi => by
      have h2 := chkTo_all h0 i hi
      unfold stepE at h2
      by_cases e1 : idx i < 0 ∨ t ≤ idx i
      · rw [if_pos e1] at h2; omega
      · rw [if_neg e1] at h2
        by_cases e2 : occ idx i (idx i) = true
        · rw [if_pos e2] at h2; omega
        · rw [if_neg e2] at h2
          exact ⟨e1, e2, h2⟩
    exact ⟨hk, fun i hi => by have := (hs i hi).1; omega, fun i hi => by have := (hs i hi).1; omega, fun j i hj hi e => (hs i hi).2.1 ((occ_iff _ _ _).2 ⟨j, hj, e⟩), fun i hi => (hs i hi).2.2⟩
  · rw [if_neg h0] at h
    exact absurd h h0
/-- the numbers of the first k pieces -/
def places (ps : List (Int × Sl)) (k : Nat) : List Nat := (List.range k).map fun i => (pidx ps i).toNat
theorem places_length (ps : List (Int × Sl)) (k : Nat) : (places ps k).length = k := by simp [places]
theorem places_getD (ps : List (Int × Sl)) (k i : Nat) (h : i < k) : (places ps k).getD i 0 = (pidx ps i).toNat := by
  unfold places
  rw [List.getD_eq_getElem?_getD, List.getElem?_map, List.getElem?_range h]; rfl
theorem places_lt {ps : List (Int × Sl)} {k n : Nat} {t : Int} {ce : Nat → Int} (h : Fit k t (pidx ps) ce n) (ht : t ≤ 255) : ∀ x ∈ places ps k, x < 256 := fun x hx => by
  obtain ⟨i, hi, rfl⟩ := List.mem_map.1 hx
  have hi := List.mem_range.1 hi
  have h1 := h.few
  have h2 := h.hi i (by omega)
  omega
theorem places_nodup {ps : List (Int × Sl)} {k n : Nat} {t : Int} {ce : Nat → Int} (h : Fit k t (pidx ps) ce n) : (places ps k).Nodup := by
  have h1 := h.few
  unfold places
  rw [List.nodup_iff_pairwise_ne, List.pairwise_map]
  refine (List.pairwise_lt_range (n := k)).imp_of_mem fun {a b} ha hb hab e => ?_
  have hb := List.mem_range.1 hb
  have ha := List.mem_range.1 ha
  have h2 := h.lo a (by omega)
  have h3 := h.lo b (by omega)
  exact h.ne a b hab (by omega) (by omega)
theorem Ps.take {w : World} {a : Option Addr} {n c k : Nat} {ps : List (Int × Sl)} (h : Ps w (.slice a n c) ps) (hk : k ≤ n) : Ps w (.slice a k c) (ps.take k) := by
  obtain ⟨a', c', h1, h3⟩ := h
  simp only [Value.slice.injEq] at h1
  obtain ⟨rfl, rfl, rfl⟩ := h1
  refine ⟨a, c, by rw [List.length_take, Nat.min_eq_left hk], fun hne => ?_⟩
  have hk0 : k ≠ 0 := fun e => hne (by rw [e]; rfl)
  obtain ⟨b, o, ha, hc⟩ := h3 (by intro e; rw [e] at hk; simp at hk; omega)
  refine ⟨b, o, ha, fun i hi => ?_⟩
  have hi2 : i < ps.length := by rw [List.length_take] at hi; omega
  rw [List.getElem_take]
  exact hc i hi2
/-- the byte of the object at p -/
def joinF (D : List (List Nat)) (l : List Nat) (L k p : Nat) : Nat := (mixL D (wts l (scales l) (p / L)) L k).getD (p % L) 0
/-- the object -/
def joinL (D : List (List Nat)) (l : List Nat) (L k size : Nat) : List Nat := (List.range size).map (joinF D l L k)
theorem splice_upTo (n : Nat) (f : Nat → Nat) (q : Nat) (P : List Nat) (hq : q + P.length ≤ n) (hf : ∀ c, c < P.length → f (q + c) = P.getD c 0) : splice (u8s (upTo n f q)) q (u8s P) = u8s (upTo n f (q + P.length)) := by
  apply List.ext_getElem?
  intro c
  have hl1 : ((u8s (upTo n f q)).take q).length = q := by simp [u8s, upTo]; omega
  unfold splice
  by_cases h1 : c < q
  · rw [List.getElem?_append_left (by rw [hl1]; exact h1), List.getElem?_take_of_lt h1]
    unfold u8s upTo
    rw [List.getElem?_map, List.getElem?_map, List.getElem?_map, List.getElem?_map]
    by_cases h2 : c < n
    · rw [List.getElem?_range h2]
      simp only [Option.map_some]
      rw [if_pos h1, if_pos (by omega)]
    · omega
  · rw [List.getElem?_append_right (by rw [hl1]; omega), hl1]
    by_cases h2 : c < q + P.length
    · have h3 : c - q < P.length := by omega
      rw [List.getElem?_append_left (by simp [u8s]; omega)]
      unfold u8s upTo
      rw [List.getElem?_map, List.getElem?_map, List.getElem?_map, List.getElem?_range (by omega), List.getElem?_eq_getElem h3]
      simp only [Option.map_some]
      have h4 := hf (c - q) h3
      rw [show q + (c - q) = c from by omega, List.getD_eq_getElem?_getD, List.getElem?_eq_getElem h3] at h4
      rw [if_pos h2, h4]
      rfl
    · rw [List.getElem?_append_right (by simp [u8s]; omega), List.getElem?_drop]
      have e : q + (u8s P).length + (c - q - (u8s P).length) = c := by simp [u8s]; omega
      rw [e]
      unfold u8s upTo
      rw [List.getElem?_map, List.getElem?_map, List.getElem?_map, List.getElem?_map]
      by_cases h4 : c < n
      · rw [List.getElem?_range h4]
        simp only [Option.map_some]
        rw [if_neg h1, if_neg h2]
      · rw [List.getElem?_eq_none (by simp; omega)]
        rfl
theorem u8s_oneC (l : List Nat) : ∀ v ∈ u8s l, v.oneCell' = true := by
  intro v hv
  unfold u8s at hv
  obtain ⟨x, _, rfl⟩ := List.mem_map.1 hv
  rfl
theorem joinF_at (D : List (List Nat)) (l : List Nat) (L k i c : Nat) (hc : c < L) : joinF D l L k (i * L + c) = (mixL D (wts l (scales l) i) L k).getD c 0 := by
  unfold joinF
  have h1 : (i * L + c) / L = i := by
    rw [Nat.mul_comm, Nat.mul_add_div (by omega), Nat.div_eq_of_lt hc, Nat.add_zero]
  have h2 : (i * L + c) % L = c := by
    rw [Nat.mul_comm, Nat.mul_add_mod, Nat.mod_eq_of_lt hc]
  rw [h1, h2]
end Go.Proofs.Ytbajekiliplclaa
