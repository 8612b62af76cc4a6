/-
  A changed byte of one of k + 1 pieces is noticed.
-/
import Derived.Test.YtbajekiliplclaaLawRe
import Derived.Test.YtbajekiliplclaaAgr
namespace Go.Proofs.Ytbajekiliplclaa
open Go Go.RowKit Gf
set_option linter.unusedVariables false

/-- the pieces, one of them with a changed byte -/
def rowsE (d : List Nat) (k L : Nat) (s : List Nat) (which p v : Nat) (j : Nat) : List Nat := if j = which then (rowsD d k L s j).set p v else rowsD d k L s j
theorem rowsE_length (d : List Nat) (k L : Nat) (s : List Nat) (which p v j : Nat) : (rowsE d k L s which p v j).length = L := by
  unfold rowsE rowsD
  split
  · rw [List.length_set, encR_length]
  · exact encR_length _ _ _ _
theorem rowsE_at (d : List Nat) (k L : Nat) (s : List Nat) (which p v j : Nat) (hp : p < L) : (rowsE d k L s which p v j).getD p 0 = if j = which then v else (rowsD d k L s j).getD p 0 := by
  unfold rowsE
  split
  · rw [List.getD_eq_getElem?_getD, List.getElem?_set, if_pos rfl, if_pos (by unfold rowsD; rw [encR_length]; exact hp)]; rfl
  · rfl
theorem eraseIdx_nodup {s : List Nat} (h : s.Nodup) (i : Nat) : (s.eraseIdx i).Nodup := h.sublist (List.eraseIdx_sublist s i)
theorem detect (d : List Nat) (hd : ∀ i, d.getD i 0 < 256) {k t : Nat} (L : Nat) {s : List Nat} (hs : Chosen (k + 1) t s) (ht : t ≤ 255) (hk : 1 ≤ k) (hkt : k + 1 ≤ t) (which p v : Nat) (hw : which ≤ k) (hp : p < L) (hv : v < 256) (hne : v ≠ (rowsD d k L s which).getD p 0) :
    mixL ((List.range k).map (rowsE d k L s which p v)) (wts (s.take k) (scales (s.take k)) (s.getD k 0)) L k ≠ rowsE d k L s which p v k := fun heq => by
  have hsl : ∀ i, s.getD i 0 < 256 := fun i => by have := hs.getD_lt (by omega) i; omega
  have hlk : (s.take k).length = k := by rw [List.length_take, hs.len]; omega
  have htk : ∀ i, i < k → (s.take k).getD i 0 = s.getD i 0 := fun i hi => by
    rw [List.getD_eq_getElem?_getD, List.getElem?_take_of_lt hi, ← List.getD_eq_getElem?_getD]
  have htl : ∀ i, (s.take k).getD i 0 < 256 := fun i => by
    by_cases hi : i < k
    · rw [htk i hi]; exact hsl i
    · rw [List.getD_eq_getElem?_getD, List.getElem?_eq_none (by omega)]; show 0 < 256; omega
  have htn : (s.take k).Nodup := hs.nod.sublist (List.take_sublist _ _)
  have hy0 : ∀ j, (rowsD d k L s j).getD p 0 < 256 := fun j => encR_lt d hd k L _ p (by omega) (hsl j)
  have hy : ∀ j, (rowsE d k L s which p v j).getD p 0 < 256 := fun j => by
    rw [rowsE_at _ _ _ _ _ _ _ _ hp]
    split
    · exact hv
    · exact hy0 j
  -- the polynomial through the first k
  have hf := through_poly (s.take k) htl htn (fun j => (rowsE d k L s which p v j).getD p 0) hy
  rw [hlk] at hf
  have hfat : ∀ j, j < k → through (s.take k) (fun j => (rowsE d k L s which p v j).getD p 0) (s.getD j 0) = (rowsE d k L s which p v j).getD p 0 := fun j hj => by
    have h5 := through_at (s.take k) htn (fun j => (rowsE d k L s which p v j).getD p 0) hy j (by omega)
    rwa [htk j hj] at h5
  have hfk : through (s.take k) (fun j => (rowsE d k L s which p v j).getD p 0) (s.getD k 0) = (rowsE d k L s which p v k).getD p 0 := by
    rw [← heq, mixL_getD _ _ _ _ _ hp]
    unfold through
    rw [hlk]
    refine sx_congr _ fun j hj => ?_
    rw [range_map_getD _ _ _ hj]
  have hfall : ∀ j, j ≤ k → through (s.take k) (fun j => (rowsE d k L s which p v j).getD p 0) (s.getD j 0) = (rowsE d k L s which p v j).getD p 0 := fun j hj => by
    by_cases e : j = k
    · rw [e]; exact hfk
    · exact hfat j (by omega)
  have hF := encR_poly d hd k L p (by omega) hp
  have hwl : which < s.length := by rw [hs.len]; omega
  have hsame := hf.same (s.eraseIdx which) hF (by rw [List.length_eraseIdx, if_pos hwl, hs.len]; rfl) (eraseIdx_nodup hs.nod which) (fun r hr => by
    obtain ⟨j, hjw, hj⟩ := List.mem_eraseIdx_iff_getElem?.1 hr
    have hjl := (List.getElem?_eq_some_iff.1 hj).1
    have hrj : s.getD j 0 = r := by rw [List.getD_eq_getElem?_getD, hj]; rfl
    rw [← hrj]
    refine ⟨hsl j, ?_⟩
    rw [hfall j (by rw [hs.len] at hjl; omega), rowsE_at _ _ _ _ _ _ _ _ hp, if_neg hjw]
    rfl) (s.getD which 0) (hsl which)
  rw [hfall which hw, rowsE_at _ _ _ _ _ _ _ _ hp, if_pos rfl] at hsame
  exact hne hsame
theorem Chosen.take {k t : Nat} {s : List Nat} (h : Chosen (k + 1) t s) : Chosen k t (s.take k) :=
  ⟨by rw [List.length_take, h.len]; omega, h.nod.sublist (List.take_sublist _ _), fun n hn => h.lt n (List.mem_of_mem_take hn)⟩
theorem take_getD (s : List Nat) (k i : Nat) (h : i < k) : (s.take k).getD i 0 = s.getD i 0 := by
  rw [List.getD_eq_getElem?_getD, List.getElem?_take_of_lt h, ← List.getD_eq_getElem?_getD]
theorem places_take {k t : Nat} {s : List Nat} (hs : Chosen (k + 1) t s) (ps : List (Int × Sl)) (h : ∀ i, i < k + 1 → pidx ps i = (s.getD i 0 : Nat)) : places ps k = s.take k := by
  refine ext_getD (by rw [places_length, List.length_take, hs.len]; omega) fun i hi => ?_
  rw [places_length] at hi
  rw [places_getD _ _ _ hi, h i (by omega), take_getD _ _ _ hi]
  omega
theorem mixA_true (d : List Nat) (hd : ∀ i, d.getD i 0 < 256) {k t : Nat} (L : Nat) {s : List Nat} (hs : Chosen (k + 1) t s) (ht : t ≤ 255) (hk : 1 ≤ k) (hkt : k + 1 ≤ t) (ps : List (Int × Sl)) (h : ∀ i, i < k + 1 → pidx ps i = (s.getD i 0 : Nat)) : mixA (rowsD d k L s) ps k L k = rowsD d k L s k := by
  unfold mixA
  rw [places_take hs ps h, h k (by omega)]
  have h1 := mix_rows d hd L hs.take ht hk (by omega) (s.getD k 0) (by have := hs.getD_lt (by omega) k; omega)
  have e : (List.range k).map (rowsD d k L s) = (List.range k).map (rowsD d k L (s.take k)) := by
    refine List.map_congr_left fun j hj => ?_
    unfold rowsD
    rw [take_getD _ _ _ (List.mem_range.1 hj)]
  rw [e, show (((s.getD k 0 : Nat) : Int).toNat) = s.getD k 0 from by omega, h1]
  rfl
theorem mixA_false (d : List Nat) (hd : ∀ i, d.getD i 0 < 256) {k t : Nat} (L : Nat) {s : List Nat} (hs : Chosen (k + 1) t s) (ht : t ≤ 255) (hk : 1 ≤ k) (hkt : k + 1 ≤ t) (which p v : Nat) (hw : which ≤ k) (hp : p < L) (hv : v < 256) (hne : v ≠ (rowsD d k L s which).getD p 0) (ps : List (Int × Sl)) (h : ∀ i, i < k + 1 → pidx ps i = (s.getD i 0 : Nat)) : mixA (rowsE d k L s which p v) ps k L k ≠ rowsE d k L s which p v k := by
  unfold mixA
  rw [places_take hs ps h, h k (by omega), show (((s.getD k 0 : Nat) : Int).toNat) = s.getD k 0 from by omega]
  exact detect d hd L hs ht hk hkt which p v hw hp hv hne
/-- a list of pieces in a row of its own may be read, whatever becomes of the field -/
theorem row_held {fb B g k cap : Nat} {w : World} {qs : List (Int × Sl)} {D : Nat → List Nat} (ho : w.ownsRow B 36 2 (.slice (some ⟨g, 0, none⟩) k cap) k (pcells qs)) (hlen : qs.length = k) (hB : fb < B)
    (hrow : ∀ w', Kept fb w w' → ∀ i, (h : i < qs.length) → Bs w' (.slice qs[i].2.1 qs[i].2.2.1 qs[i].2.2.2) (D i)) : Held fb w (.slice (some ⟨g, 0, none⟩) k cap) qs D := fun w' hk => by
  have h1 := ho.kept (kept_grown hk) (.inr (by
    have := (ho.lt g rfl).1
    simp [Value.ownBlock]
    omega))
  have h2 := ps_of_owns (c := cap) h1 (show k ≤ qs.length by omega)
  rw [List.take_of_length_le (by omega)] at h2
  exact ⟨h2, hrow w' hk⟩
theorem set_same {α : Type} (l : List α) (i : Nat) (v : α) (h : l[i]? = some v) : l.set i v = l := by
  apply List.ext_getElem?
  intro j
  rw [List.getElem?_set]
  by_cases e : i = j
  · subst e
    have := (List.getElem?_eq_some_iff.1 h).1
    rw [if_pos rfl, if_pos this, h]
  · rw [if_neg e]
theorem pcells_set1 (qs : List (Int × Sl)) (i : Nat) (h : i < qs.length) (a : Option Addr) (n c : Nat) : (pcells qs).set (i * 2 + 1) (.slice a n c) = pcells (qs.set i (qs[i].1, a, n, c)) := by
  have h1 := pcells_set qs i (qs[i].1, a, n, c) h
  rwa [set_same _ _ _ (pcells_get0 qs i h)] at h1
theorem set_fns (qs : List (Int × Sl)) (i : Nat) (h : i < qs.length) (a : Option Addr) (c : Nat) : pidx (qs.set i (qs[i].1, a, qs[i].2.2.1, c)) = pidx qs ∧ plen' (qs.set i (qs[i].1, a, qs[i].2.2.1, c)) = plen' qs := by
  constructor <;> funext j
  · unfold pidx
    rw [List.getD_eq_getElem?_getD, List.getD_eq_getElem?_getD, List.getElem?_set]
    by_cases e : i = j
    · subst e; rw [if_pos rfl, if_pos h, List.getElem?_eq_getElem h]; rfl
    · rw [if_neg e]
  · unfold plen'
    rw [List.getD_eq_getElem?_getD, List.getD_eq_getElem?_getD, List.getElem?_set]
    by_cases e : i = j
    · subst e; rw [if_pos rfl, if_pos h, List.getElem?_eq_getElem h]; rfl
    · rw [if_neg e]
theorem xor_ne_self (a m : Nat) (hm : m ≠ 0) : a ^^^ m ≠ a := fun h => hm (by
  have h2 : a ^^^ (a ^^^ m) = a ^^^ a := by rw [h]
  rwa [← Nat.xor_assoc, Nat.xor_self, Nat.zero_xor] at h2)
end Go.Proofs.Ytbajekiliplclaa
