/-
  Matrices as functions of row and column, laid row after row in a list of bytes: plain mathematics.
-/
import Derived.Test.YtfleplbdcpdphaaPiece
namespace Go.Proofs.Ytfleplbdcpdphaa
set_option linter.unusedVariables false

/-- the cells of a matrix, row after row -/
def flat (R C : Nat) (M : Nat → Nat → Nat) : List Nat := (List.range (R * C)).map fun p => M (p / C) (p % C)
theorem ix_div {C j : Nat} (i : Nat) (h : j < C) : (i * C + j) / C = i := by
  rw [Nat.mul_comm, Nat.mul_add_div (by omega), Nat.div_eq_of_lt h, Nat.add_zero]
theorem ix_mod {C j : Nat} (i : Nat) (h : j < C) : (i * C + j) % C = j := by
  rw [Nat.mul_comm, Nat.mul_add_mod, Nat.mod_eq_of_lt h]
theorem ix_le {R C i : Nat} (hi : i < R) : i * C + C ≤ R * C := by
  have h := Nat.mul_le_mul_right C (show i + 1 ≤ R from hi)
  rw [Nat.succ_mul] at h
  exact h
theorem ix_lt {R C i j : Nat} (hi : i < R) (hj : j < C) : i * C + j < R * C := by
  have h := ix_le (C := C) hi
  omega
theorem ix_inj {C a b i j : Nat} (hb : b < C) (hj : j < C) (e : a * C + b = i * C + j) : a = i ∧ b = j := by
  have h1 := ix_div a hb
  have h2 := ix_mod a hb
  rw [e] at h1 h2
  rw [ix_div i hj] at h1
  rw [ix_mod i hj] at h2
  exact ⟨h1.symm, h2.symm⟩
theorem flat_length (R C : Nat) (M : Nat → Nat → Nat) : (flat R C M).length = R * C := by simp [flat]
theorem flat_getD {R C i j : Nat} (M : Nat → Nat → Nat) (hi : i < R) (hj : j < C) : (flat R C M).getD (i * C + j) 0 = M i j := by
  unfold flat
  rw [List.getD_eq_getElem?_getD, List.getElem?_map, List.getElem?_range (ix_lt hi hj)]
  show M ((i * C + j) / C) ((i * C + j) % C) = _
  rw [ix_div i hj, ix_mod i hj]
theorem flat_of {R C : Nat} {M : Nat → Nat → Nat} (l : List Nat) (hl : l.length = R * C) (h : ∀ i j, i < R → j < C → l.getD (i * C + j) 0 = M i j) : l = flat R C M := by
  refine ext_getD (by rw [hl, flat_length]) fun p hp => ?_
  rw [hl] at hp
  have hC : 0 < C := by
    rcases Nat.eq_zero_or_pos C with e | e
    · subst e; simp at hp
    · exact e
  have hi : p / C < R := by rw [Nat.div_lt_iff_lt_mul hC]; exact hp
  have hj : p % C < C := Nat.mod_lt _ hC
  have e : p / C * C + p % C = p := by rw [Nat.mul_comm]; exact Nat.div_add_mod p C
  have h1 := h _ _ hi hj
  have h2 := flat_getD M hi hj
  rw [e] at h1 h2
  rw [h1, h2]
theorem flat_congr {R C : Nat} {M N : Nat → Nat → Nat} (h : ∀ i j, i < R → j < C → M i j = N i j) : flat R C M = flat R C N :=
  flat_of _ (flat_length R C M) fun i j hi hj => by rw [flat_getD M hi hj, h i j hi hj]
theorem flat_inj {R C : Nat} {M N : Nat → Nat → Nat} (h : flat R C M = flat R C N) (i j : Nat) (hi : i < R) (hj : j < C) : M i j = N i j := by
  rw [← flat_getD M hi hj, h, flat_getD N hi hj]
/-- the matrix that a list of cells is -/
def matOf (C : Nat) (l : List Nat) : Nat → Nat → Nat := fun i j => l.getD (i * C + j) 0
theorem flat_matOf {R C : Nat} (l : List Nat) (hl : l.length = R * C) : flat R C (matOf C l) = l := (flat_of l hl fun _ _ _ _ => rfl).symm
theorem matOf_lt (C : Nat) (l : List Nat) (h : ∀ i, l.getD i 0 < 256) (i j : Nat) : matOf C l i j < 256 := h _
theorem flat_lt {R C : Nat} {M : Nat → Nat → Nat} (h : ∀ i j, M i j < 256) : ∀ n ∈ flat R C M, n < 256 := by
  intro n hn
  unfold flat at hn
  obtain ⟨p, _, rfl⟩ := List.mem_map.1 hn
  exact h _ _
theorem flat_zero (R C : Nat) : List.replicate (R * C) 0 = flat R C (fun _ _ => 0) :=
  flat_of _ (by simp) fun i j hi hj => by simp [ix_lt hi hj]
def setM (M : Nat → Nat → Nat) (a b x : Nat) : Nat → Nat → Nat := fun i j => if i = a ∧ j = b then x else M i j
theorem flat_set {R C a b : Nat} (M : Nat → Nat → Nat) (ha : a < R) (hb : b < C) (x : Nat) : (flat R C M).set (a * C + b) x = flat R C (setM M a b x) := by
  refine flat_of _ (by rw [List.length_set, flat_length]) fun i j hi hj => ?_
  rw [List.getD_eq_getElem?_getD, List.getElem?_set]
  by_cases e : a * C + b = i * C + j
  · obtain ⟨rfl, rfl⟩ := ix_inj hb hj e
    rw [if_pos rfl, if_pos (by rw [flat_length]; exact ix_lt ha hb)]
    unfold setM
    rw [if_pos ⟨rfl, rfl⟩]
    rfl
  · rw [if_neg e, ← List.getD_eq_getElem?_getD, flat_getD M hi hj]
    unfold setM
    rw [if_neg (by rintro ⟨rfl, rfl⟩; exact e rfl)]
/-- row i plus f times the bytes bl -/
def addRow (M : Nat → Nat → Nat) (i f : Nat) (bl : Nat → Nat) : Nat → Nat → Nat := fun a b => if a = i then M a b ^^^ Gf.tm f (bl b) else M a b
theorem axTo_flat {R C i : Nat} (M : Nat → Nat → Nat) (hi : i < R) (bl : List Nat) (f : Nat) : axTo (flat R C M) (i * C) bl f C = flat R C (addRow M i f fun b => bl.getD b 0) := by
  refine flat_of _ (by rw [axTo_length, flat_length]) fun a b ha hb => ?_
  have hle := ix_le (C := C) hi
  rw [axTo_getD _ _ _ _ _ (by rw [flat_length]; exact hle), flat_getD M ha hb]
  unfold addRow
  by_cases e : a = i
  · subst e
    rw [if_pos (by omega), if_pos rfl, Nat.add_sub_cancel_left]
  · rw [if_neg e, if_neg]
    intro h
    have h2 : a * C + b = i * C + (a * C + b - i * C) := by omega
    exact e (ix_inj hb (by omega) h2).1
/-- row r as a list -/
def rowL (C : Nat) (M : Nat → Nat → Nat) (r : Nat) : List Nat := (List.range C).map (M r)
theorem rowL_length (C : Nat) (M : Nat → Nat → Nat) (r : Nat) : (rowL C M r).length = C := by simp [rowL]
theorem rowL_getD {C j : Nat} (M : Nat → Nat → Nat) (r : Nat) (hj : j < C) : (rowL C M r).getD j 0 = M r j := by
  unfold rowL
  rw [List.getD_eq_getElem?_getD, List.getElem?_map, List.getElem?_range hj]; rfl
theorem rowL_lt {C : Nat} {M : Nat → Nat → Nat} (h : ∀ i j, M i j < 256) (r : Nat) : ∀ n ∈ rowL C M r, n < 256 := by
  intro n hn
  unfold rowL at hn
  obtain ⟨p, _, rfl⟩ := List.mem_map.1 hn
  exact h _ _
theorem rowL_flat {R C : Nat} (M : Nat → Nat → Nat) {r : Nat} (hr : r < R) : ((flat R C M).drop (r * C)).take C = rowL C M r := by
  have hle := ix_le (C := C) hr
  refine ext_getD (by simp [flat_length, rowL_length]; omega) fun j hj => ?_
  have hjC : j < C := by simp [flat_length] at hj; omega
  rw [rowL_getD M r hjC, List.getD_eq_getElem?_getD, List.getElem?_take_of_lt hjC, List.getElem?_drop, ← List.getD_eq_getElem?_getD, flat_getD M hr hjC]
/-- the product of two matrices, its sums over the first n factors -/
def prodTo (A B : Nat → Nat → Nat) (n : Nat) : Nat → Nat → Nat := fun i j => sx (fun l => Gf.tm (A i l) (B l j)) n
theorem prodTo_lt {A : Nat → Nat → Nat} (hA : ∀ i j, A i j < 256) (B : Nat → Nat → Nat) (n i j : Nat) : prodTo A B n i j < 256 := sx_lt _ (fun l => Gf.tm_lt _ _ (hA i l)) n
/-- the product where the rows before r are whole, and row r has its sums over the first n factors -/
def prodAt (A B : Nat → Nat → Nat) (K r n : Nat) : Nat → Nat → Nat := fun i j => if i < r then prodTo A B K i j else if i = r then prodTo A B n i j else 0
theorem prodAt_zero (A B : Nat → Nat → Nat) (K i j : Nat) : prodAt A B K 0 0 i j = 0 := by
  unfold prodAt
  rw [if_neg (by omega)]
  split <;> rfl
theorem prodAt_step (A B : Nat → Nat → Nat) (K r n : Nat) (i j : Nat) : addRow (prodAt A B K r n) r (A r n) (B n) i j = prodAt A B K r (n + 1) i j := by
  unfold addRow prodAt
  by_cases e : i = r
  · subst e
    rw [if_pos rfl, if_neg (by omega), if_pos rfl, if_neg (by omega), if_pos rfl]
    rfl
  · rw [if_neg e]
    by_cases h : i < r
    · rw [if_pos h, if_pos h]
    · rw [if_neg h, if_neg e, if_neg h, if_neg e]
theorem prodAt_next (A B : Nat → Nat → Nat) (K r : Nat) (i j : Nat) : prodAt A B K r K i j = prodAt A B K (r + 1) 0 i j := by
  unfold prodAt
  by_cases h : i < r
  · rw [if_pos h, if_pos (by omega)]
  · rw [if_neg h]
    by_cases e : i = r
    · rw [if_pos e, if_pos (by omega)]
    · rw [if_neg e, if_neg (by omega)]
      split <;> rfl
theorem prodAt_lt {A : Nat → Nat → Nat} (hA : ∀ i j, A i j < 256) (B : Nat → Nat → Nat) (K r n i j : Nat) : prodAt A B K r n i j < 256 := by
  unfold prodAt
  split
  · exact prodTo_lt hA _ _ _ _
  · split
    · exact prodTo_lt hA _ _ _ _
    · omega

/-! ### elimination -/
def swapM (M : Nat → Nat → Nat) (a b : Nat) : Nat → Nat → Nat := fun i j => if i = a then M b j else if i = b then M a j else M i j
def scaleM (M : Nat → Nat → Nat) (r s : Nat) : Nat → Nat → Nat := fun i j => if i = r then Gf.tm (M r j) s else M i j
/-- the rows before k but r have lost their multiple of row r -/
def clearTo (M : Nat → Nat → Nat) (r c k : Nat) : Nat → Nat → Nat := fun i j => if i < k ∧ i ≠ r then M i j ^^^ Gf.tm (M i c) (M r j) else M i j
/-- the first row from p on with an element in column c, within f rows -/
def pivF (M : Nat → Nat → Nat) (c : Nat) : Nat → Nat → Nat
  | 0, p => p
  | f + 1, p => if M p c = 0 then pivF M c f (p + 1) else p
def piv (R : Nat) (M : Nat → Nat → Nat) (r c : Nat) : Nat := pivF M c (R - r) r
theorem pivF_spec (M : Nat → Nat → Nat) (c : Nat) : ∀ f p, p ≤ pivF M c f p ∧ pivF M c f p ≤ p + f ∧ (∀ q, p ≤ q → q < pivF M c f p → M q c = 0) ∧ (pivF M c f p < p + f → M (pivF M c f p) c ≠ 0)
  | 0, p => ⟨Nat.le_refl _, Nat.le_refl _, fun q h1 h2 => by unfold pivF at h2; omega, fun h => by unfold pivF at h; omega⟩
  | f + 1, p => by
    unfold pivF
    by_cases h : M p c = 0
    · rw [if_pos h]
      obtain ⟨h1, h2, h3, h4⟩ := pivF_spec M c f (p + 1)
      refine ⟨by omega, by omega, fun q hq1 hq2 => ?_, fun h5 => h4 (by omega)⟩
      by_cases e : q = p
      · rw [e]; exact h
      · exact h3 q (by omega) hq2
    · rw [if_neg h]
      exact ⟨Nat.le_refl _, by omega, fun q h1 h2 => by omega, fun _ => h⟩
theorem piv_spec (R : Nat) (M : Nat → Nat → Nat) (r c : Nat) (hr : r ≤ R) : r ≤ piv R M r c ∧ piv R M r c ≤ R ∧ (∀ q, r ≤ q → q < piv R M r c → M q c = 0) ∧ (piv R M r c < R → M (piv R M r c) c ≠ 0) := by
  have h := pivF_spec M c (R - r) r
  rw [show r + (R - r) = R from by omega] at h
  exact h
/-- the place is the first -/
theorem piv_eq {R : Nat} {M : Nat → Nat → Nat} {r c p : Nat} (h1 : r ≤ p) (h2 : p ≤ R) (h3 : ∀ q, r ≤ q → q < p → M q c = 0) (h4 : p < R → M p c ≠ 0) : piv R M r c = p := by
  obtain ⟨g1, g2, g3, g4⟩ := piv_spec R M r c (by omega)
  rcases Nat.lt_trichotomy (piv R M r c) p with h | h | h
  · exact absurd (h3 _ g1 h) (g4 (by omega))
  · exact h
  · exact absurd (g3 p h1 h) (h4 (by omega))
/-- one column of the elimination -/
def gjS (R : Nat) (S : (Nat → Nat → Nat) × Nat) (c : Nat) : (Nat → Nat → Nat) × Nat :=
  if piv R S.1 S.2 c = R then S
  else (clearTo (scaleM (swapM S.1 S.2 (piv R S.1 S.2 c)) S.2 (Gf.iv (S.1 (piv R S.1 S.2 c) c))) S.2 c R, S.2 + 1)
/-- the first c columns of the elimination -/
def gj (R : Nat) (M : Nat → Nat → Nat) : Nat → (Nat → Nat → Nat) × Nat
  | 0 => (M, 0)
  | c + 1 => gjS R (gj R M c) c
theorem gj_le (R : Nat) (M : Nat → Nat → Nat) : ∀ c, (gj R M c).2 ≤ R ∧ (gj R M c).2 ≤ c
  | 0 => ⟨Nat.zero_le _, Nat.le_refl _⟩
  | c + 1 => by
    obtain ⟨h1, h2⟩ := gj_le R M c
    obtain ⟨g1, g2, _⟩ := piv_spec R (gj R M c).1 (gj R M c).2 c h1
    unfold gj gjS
    split
    · exact ⟨h1, by omega⟩
    · exact ⟨by show (gj R M c).2 + 1 ≤ R; omega, by show (gj R M c).2 + 1 ≤ c + 1; omega⟩
theorem swapM_lt {M : Nat → Nat → Nat} (h : ∀ i j, M i j < 256) (a b i j : Nat) : swapM M a b i j < 256 := by
  unfold swapM
  split
  · exact h _ _
  · split <;> exact h _ _
theorem scaleM_lt {M : Nat → Nat → Nat} (h : ∀ i j, M i j < 256) (r s i j : Nat) : scaleM M r s i j < 256 := by
  unfold scaleM
  split
  · exact Gf.tm_lt _ _ (h _ _)
  · exact h _ _
theorem clearTo_lt {M : Nat → Nat → Nat} (h : ∀ i j, M i j < 256) (r c k i j : Nat) : clearTo M r c k i j < 256 := by
  unfold clearTo
  split
  · exact Gf.xor_lt (h _ _) (Gf.tm_lt _ _ (h _ _))
  · exact h _ _
theorem gj_lt {M : Nat → Nat → Nat} (h : ∀ i j, M i j < 256) (R : Nat) : ∀ c i j, (gj R M c).1 i j < 256
  | 0, i, j => h i j
  | c + 1, i, j => by
    unfold gj gjS
    split
    · exact gj_lt h R c i j
    · exact clearTo_lt (fun i j => scaleM_lt (fun i j => swapM_lt (gj_lt h R c) _ _ i j) _ _ i j) _ _ _ i j
/-- with all rows used the elimination is done -/
theorem gj_full (R : Nat) (M : Nat → Nat → Nat) (c : Nat) (h : (gj R M c).2 = R) : ∀ d, gj R M (c + d) = gj R M c
  | 0 => rfl
  | d + 1 => by
    show gjS R (gj R M (c + d)) (c + d) = _
    rw [gj_full R M c h d]
    unfold gjS
    have h1 := piv_spec R (gj R M c).1 (gj R M c).2 (c + d) (by omega)
    rw [if_pos (by omega)]
theorem gj_none (R : Nat) (M : Nat → Nat → Nat) (c : Nat) (h : piv R (gj R M c).1 (gj R M c).2 c = R) : gj R M (c + 1) = gj R M c := by
  show gjS R (gj R M c) c = _
  unfold gjS
  rw [if_pos h]
theorem gj_some (R : Nat) (M : Nat → Nat → Nat) (c p : Nat) (h : piv R (gj R M c).1 (gj R M c).2 c = p) (hp : p < R) :
    gj R M (c + 1) = (clearTo (scaleM (swapM (gj R M c).1 (gj R M c).2 p) (gj R M c).2 (Gf.iv ((gj R M c).1 p c))) (gj R M c).2 c R, (gj R M c).2 + 1) := by
  show gjS R (gj R M c) c = _
  unfold gjS
  rw [if_neg (by omega), h]
theorem clearTo_zero (M : Nat → Nat → Nat) (r c i j : Nat) : clearTo M r c 0 i j = M i j := by
  unfold clearTo
  rw [if_neg (by omega)]
theorem clearTo_skip (M : Nat → Nat → Nat) (r c i j : Nat) : clearTo M r c (r + 1) i j = clearTo M r c r i j := by
  unfold clearTo
  by_cases h : i < r
  · rw [if_pos (by omega), if_pos (by omega)]
  · rw [if_neg (by omega), if_neg (by omega)]
theorem clearTo_row (M : Nat → Nat → Nat) (r c k j : Nat) : clearTo M r c k r j = M r j := by
  unfold clearTo
  rw [if_neg (by simp)]
theorem clearTo_at (M : Nat → Nat → Nat) (r c k j : Nat) : clearTo M r c k k j = M k j := by
  unfold clearTo
  rw [if_neg (by omega)]
theorem clearTo_step (M : Nat → Nat → Nat) (r c k : Nat) (hk : k ≠ r) (i j : Nat) : addRow (clearTo M r c k) k (M k c) (M r) i j = clearTo M r c (k + 1) i j := by
  unfold addRow
  by_cases e : i = k
  · subst e
    rw [if_pos rfl, clearTo_at]
    unfold clearTo
    rw [if_pos ⟨by omega, hk⟩]
  · rw [if_neg e]
    unfold clearTo
    by_cases h : i < k ∧ i ≠ r
    · rw [if_pos h, if_pos ⟨by omega, h.2⟩]
    · rw [if_neg h, if_neg (by omega)]
theorem clearTo_zeroF (M : Nat → Nat → Nat) (r c k : Nat) (hz : M k c = 0) (i j : Nat) : clearTo M r c (k + 1) i j = clearTo M r c k i j := by
  by_cases e : k = r
  · subst e; exact clearTo_skip M k c i j
  · rw [← clearTo_step M r c k e i j, hz]
    unfold addRow
    split
    · rw [Gf.tm_zero_left, Nat.xor_zero]
    · rfl
end Go.Proofs.Ytfleplbdcpdphaa
