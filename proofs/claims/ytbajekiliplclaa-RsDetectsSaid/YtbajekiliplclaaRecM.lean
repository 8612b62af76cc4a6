/-
  Any k pieces of an encoding determine the object and every piece.
-/
import Derived.Test.YtbajekiliplclaaCopyP
import Derived.Test.YtbajekiliplclaaPoly
import Derived.Test.YtbajekiliplclaaDecM
import Derived.Test.YtbajekiliplclaaCh
namespace Go.Proofs.Ytbajekiliplclaa
open Go Go.RowKit Gf
set_option linter.unusedVariables false

theorem rangeR_getD (k i : Nat) (h : i < k) : (List.range k).getD i 0 = i := by
  rw [List.getD_eq_getElem?_getD, List.getElem?_range h]; rfl
theorem rangeR_lt (k : Nat) (hk : k ≤ 256) (i : Nat) : (List.range k).getD i 0 < 256 := by
  by_cases h : i < k
  · rw [rangeR_getD k i h]; omega
  · rw [List.getD_eq_getElem?_getD, List.getElem?_eq_none (by simp; omega)]; show 0 < 256; omega
theorem encR_length (d : List Nat) (k L i : Nat) : (encP d k L i).length = L := by
  unfold encP
  split
  · exact spl_length _ _ _
  · exact mixL_length _ _ _ _
/-- column c of an encoding is a polynomial's values -/
theorem encR_through (d : List Nat) (hd : ∀ i, d.getD i 0 < 256) (k L i c : Nat) (hc : c < L) : (encP d k L i).getD c 0 = through (List.range k) (fun j => d.getD (j * L + c) 0) i := by
  unfold encP
  by_cases h : i < k
  · rw [if_pos h, spl_getD d L i c hc]
    have h2 := through_at (List.range k) List.nodup_range (fun j => d.getD (j * L + c) 0) (fun _ => hd _) i (by simpa using h)
    rw [rangeR_getD k i h] at h2
    exact h2.symm
  · rw [if_neg h, mixL_getD _ _ _ _ _ hc]
    unfold through
    rw [List.length_range]
    refine sx_congr k fun j hj => ?_
    rw [range_map_getD _ _ _ hj, spl_getD d L j c hc]
theorem encR_poly (d : List Nat) (hd : ∀ i, d.getD i 0 < 256) (k L c : Nat) (hk : k ≤ 256) (hc : c < L) : P k fun x => (encP d k L x).getD c 0 := by
  have h := through_poly (List.range k) (rangeR_lt k hk) List.nodup_range (fun j => d.getD (j * L + c) 0) (fun _ => hd _)
  rw [List.length_range] at h
  exact h.congr fun x _ => encR_through d hd k L x c hc
theorem encR_lt (d : List Nat) (hd : ∀ i, d.getD i 0 < 256) (k L i c : Nat) (hk : k ≤ 256) (hi : i < 256) : (encP d k L i).getD c 0 < 256 := by
  by_cases hc : c < L
  · exact (encR_poly d hd k L c hk hc).lt i hi
  · rw [List.getD_eq_getElem?_getD, List.getElem?_eq_none (by rw [encR_length]; omega)]; show 0 < 256; omega
/-- the pieces with the numbers s -/
def rowsD (d : List Nat) (k L : Nat) (s : List Nat) (j : Nat) : List Nat := encP d k L (s.getD j 0)
theorem Chosen.getD_lt {k t : Nat} {s : List Nat} (h : Chosen k t s) (ht : 0 < t) (i : Nat) : s.getD i 0 < t := by
  by_cases hi : i < s.length
  · rw [List.getD_eq_getElem?_getD, List.getElem?_eq_getElem hi]
    exact h.lt _ (List.getElem_mem _)
  · rw [List.getD_eq_getElem?_getD, List.getElem?_eq_none (by omega)]
    exact ht
theorem mix_rows (d : List Nat) (hd : ∀ i, d.getD i 0 < 256) {k t : Nat} (L : Nat) {s : List Nat} (hs : Chosen k t s) (ht : t ≤ 255) (hk : 1 ≤ k) (hkt : k ≤ t) (x : Nat) (hx : x < 256) :
    mixL ((List.range k).map (rowsD d k L s)) (wts s (scales s) x) L k = encP d k L x := by
  have hsl : ∀ i, s.getD i 0 < 256 := fun i => by have := hs.getD_lt (by omega) i; omega
  refine ext_getD (by rw [mixL_length, encR_length]) fun c hc => ?_
  rw [mixL_length] at hc
  rw [mixL_getD _ _ _ _ _ hc]
  have hy : ∀ j, (encP d k L (s.getD j 0)).getD c 0 < 256 := fun j => encR_lt d hd k L _ c (by omega) (hsl j)
  have h1 : sx (fun i => tm ((wts s (scales s) x).getD i 0) ((((List.range k).map (rowsD d k L s)).getD i []).getD c 0)) k = through s (fun j => (encP d k L (s.getD j 0)).getD c 0) x := by
    unfold through
    rw [hs.len]
    refine sx_congr _ fun j hj => ?_
    rw [range_map_getD _ _ _ hj]
    rfl
  rw [h1]
  have hp := through_poly s hsl hs.nod (fun j => (encP d k L (s.getD j 0)).getD c 0) hy
  rw [hs.len] at hp
  refine hp.same s (encR_poly d hd k L c (by omega) hc) hs.len hs.nod (fun r hr => ?_) x hx
  obtain ⟨h2, h3⟩ := idx_of_getD s r hr
  have h4 := through_at s hs.nod (fun j => (encP d k L (s.getD j 0)).getD c 0) hy _ h2
  rw [h3] at h4
  refine ⟨by have := hs.lt r hr; omega, h4⟩
theorem join_rows (d : List Nat) (hd : ∀ i, d.getD i 0 < 256) {k t : Nat} (L : Nat) {s : List Nat} (hs : Chosen k t s) (ht : t ≤ 255) (hk : 1 ≤ k) (hkt : k ≤ t) (hn : d.length ≤ k * L) :
    joinL ((List.range k).map (rowsD d k L s)) s L k d.length = d := by
  refine ext_getD (by simp [joinL]) fun p hp => ?_
  have hp : p < d.length := by simpa [joinL] using hp
  have hL : 0 < L := by
    rcases Nat.eq_zero_or_pos L with e | e
    · subst e; omega
    · exact e
  have hc : p % L < L := Nat.mod_lt _ hL
  have hj : p / L < k := by rw [Nat.div_lt_iff_lt_mul hL]; omega
  have he : p / L * L + p % L = p := by rw [Nat.mul_comm]; exact Nat.div_add_mod p L
  unfold joinL
  rw [List.getD_eq_getElem?_getD, List.getElem?_map, List.getElem?_range hp]
  show joinF _ _ _ _ p = _
  unfold joinF
  rw [mix_rows d hd L hs ht hk hkt (p / L) (by omega)]
  unfold encP
  rw [if_pos hj, spl_getD d L _ _ hc, he]
end Go.Proofs.Ytbajekiliplclaa
