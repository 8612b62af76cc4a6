/-
  Functions of the field that are polynomials of fewer than k coefficients: their zeros; the weights are such.
-/
import Derived.Test.YtfleplbdcpdphaaWts
import Derived.Test.YtfleplbdcpdphaaPiece
namespace Go.Proofs.Ytfleplbdcpdphaa.Gf
set_option linter.unusedVariables false

/-- f is, on the field, a polynomial of fewer than k + 1 coefficients (Horner) -/
def P : Nat → (Nat → Nat) → Prop
  | 0, f => ∀ x, x < 256 → f x = 0
  | k + 1, f => ∃ c g, c < 256 ∧ P k g ∧ ∀ x, x < 256 → f x = c ^^^ tm x (g x)
theorem P.lt : ∀ {k : Nat} {f : Nat → Nat}, P k f → ∀ x, x < 256 → f x < 256
  | 0, f, h, x, hx => by rw [h x hx]; omega
  | k + 1, f, ⟨c, g, hc, hg, h⟩, x, hx => by rw [h x hx]; exact xor_lt hc (tm_lt _ _ hx)
theorem P.congr {k : Nat} {f g : Nat → Nat} (h : P k f) (e : ∀ x, x < 256 → g x = f x) : P k g := by
  cases k with
  | zero => exact fun x hx => (e x hx).trans (h x hx)
  | succ k =>
    obtain ⟨c, g', hc, hg, h⟩ := h
    exact ⟨c, g', hc, hg, fun x hx => (e x hx).trans (h x hx)⟩
theorem P.zero : ∀ k, P k (fun _ => 0)
  | 0 => fun _ _ => rfl
  | k + 1 => ⟨0, _, by omega, P.zero k, fun x hx => by show 0 = 0 ^^^ tm x 0; rw [tm_zero_right]; rfl⟩
theorem P.up : ∀ {k : Nat} {f : Nat → Nat}, P k f → P (k + 1) f
  | 0, f, h => (P.zero 1).congr h
  | k + 1, f, ⟨c, g, hc, hg, h⟩ => ⟨c, g, hc, hg.up, h⟩
theorem P.xor : ∀ {k : Nat} {f g : Nat → Nat}, P k f → P k g → P k (fun x => f x ^^^ g x)
  | 0, f, g, h, h' => fun x hx => by show f x ^^^ g x = 0; rw [h x hx, h' x hx]; rfl
  | k + 1, f, g, ⟨c, a, hc, ha, h⟩, ⟨c', a', hc', ha', h'⟩ => ⟨c ^^^ c', _, xor_lt hc hc', ha.xor ha', fun x hx => by
      show f x ^^^ g x = _
      rw [h x hx, h' x hx, tm_xor_right x _ _ hx (ha.lt x hx) (ha'.lt x hx), xor_swap4]⟩
theorem tm_left_comm (a b c : Nat) (ha : a < 256) (hb : b < 256) (hc : c < 256) : tm a (tm b c) = tm b (tm a c) := by
  rw [← tm_assoc a b c ha hb hc, tm_comm a b ha hb, tm_assoc b a c hb ha hc]
theorem P.mul : ∀ {k : Nat} {f : Nat → Nat} (s : Nat), s < 256 → P k f → P k (fun x => tm s (f x))
  | 0, f, s, hs, h => fun x hx => by show tm s (f x) = 0; rw [h x hx, tm_zero_right]
  | k + 1, f, s, hs, ⟨c, g, hc, hg, h⟩ => ⟨tm s c, _, tm_lt _ _ hs, hg.mul s hs, fun x hx => by
      show tm s (f x) = tm s c ^^^ tm x (tm s (g x))
      rw [h x hx, tm_xor_right s _ _ hs hc (tm_lt _ _ hx), tm_left_comm s x _ hs hx (hg.lt x hx)]⟩
theorem P.lin {k : Nat} {f : Nat → Nat} (r : Nat) (hr : r < 256) (h : P k f) : P (k + 1) (fun x => tm (x ^^^ r) (f x)) := by
  have h1 : P (k + 1) (fun x => tm x (f x)) := ⟨0, f, by omega, h, fun x hx => by show tm x (f x) = 0 ^^^ tm x (f x); rw [Nat.zero_xor]⟩
  exact (h1.xor (h.mul r hr).up).congr fun x hx => tm_xor_left x r _ hx hr
/-- a polynomial divided by x - r -/
theorem P.div : ∀ {k : Nat} {f : Nat → Nat} (r : Nat), r < 256 → P (k + 1) f → ∃ q, P k q ∧ ∀ x, x < 256 → f x = f r ^^^ tm (x ^^^ r) (q x)
  | 0, f, r, hr, ⟨c, g, hc, hg, h⟩ => ⟨fun _ => 0, fun _ _ => rfl, fun x hx => by
      rw [tm_zero_right, h x hx, h r hr, hg x hx, hg r hr, tm_zero_right, tm_zero_right, Nat.xor_zero, Nat.xor_zero]⟩
  | k + 1, f, r, hr, ⟨c, g, hc, hg, h⟩ => by
    obtain ⟨q, hq, e⟩ := hg.div r hr
    have hgr := hg.lt r hr
    refine ⟨fun x => g r ^^^ tm x (q x), ⟨g r, q, hgr, hq, fun _ _ => rfl⟩, fun x hx => ?_⟩
    have hqx := hq.lt x hx
    have hxr := xor_lt hx hr
    rw [h x hx, h r hr, e x hx, tm_xor_right x _ _ hx hgr (tm_lt _ _ hxr), tm_xor_right _ _ _ hxr hgr (tm_lt _ _ hx), tm_xor_left x r (g r) hx hr, tm_left_comm x _ _ hx hxr hqx]
    simp only [Nat.xor_assoc]
    congr 1
    rw [← Nat.xor_assoc (tm r (g r)) (tm x (g r)), Nat.xor_comm (tm r (g r)) (tm x (g r)), Nat.xor_assoc (tm x (g r)), ← Nat.xor_assoc (tm r (g r)) (tm r (g r)), Nat.xor_self, Nat.zero_xor]
theorem tm_eq_zero {a b : Nat} (ha : a < 256) (hb : b < 256) (h : tm a b = 0) (h0 : a ≠ 0) : b = 0 := by
  rcases Nat.eq_zero_or_pos b with h1 | h1
  · exact h1
  · exact absurd h (tm_pos a b ha hb h0 (by omega))
/-- with k zeros it is zero everywhere -/
theorem P.roots : ∀ {k : Nat} {f : Nat → Nat} (S : List Nat), P k f → S.length = k → S.Nodup → (∀ r ∈ S, r < 256 ∧ f r = 0) → ∀ x, x < 256 → f x = 0
  | 0, f, S, h, _, _, _, x, hx => h x hx
  | k + 1, f, [], h, hl, _, _, x, hx => by cases hl
  | k + 1, f, r :: S, h, hl, hn, hz, x, hx => by
    obtain ⟨hr, hfr⟩ := hz r List.mem_cons_self
    obtain ⟨q, hq, e⟩ := h.div r hr
    obtain ⟨hrS, hn'⟩ := List.nodup_cons.1 hn
    have hq0 := hq.roots S (by simpa using hl) hn' (fun s hs => by
      obtain ⟨h1, h2⟩ := hz s (List.mem_cons_of_mem _ hs)
      refine ⟨h1, ?_⟩
      have h3 := e s h1
      rw [h2, hfr, Nat.zero_xor] at h3
      exact tm_eq_zero (xor_lt h1 hr) (hq.lt s h1) h3.symm (Go.Proofs.Ytfleplbdcpdphaa.xor_ne fun e => hrS (e ▸ hs)))
    rw [e x hx, hfr, hq0 x hx, tm_zero_right]; rfl

end Go.Proofs.Ytfleplbdcpdphaa.Gf
namespace Go.Proofs.Ytfleplbdcpdphaa
open Gf

/-- the product of x with the places before j but i -/
def pnX (l : List Nat) (x i : Nat) : Nat → Nat
  | 0 => 1
  | j + 1 => if i ≠ j then tm (pnX l x i j) (x ^^^ l.getD j 0) else pnX l x i j
theorem pnX_succ (l : List Nat) (x i j : Nat) : pnX l x i (j + 1) = if i ≠ j then tm (pnX l x i j) (x ^^^ l.getD j 0) else pnX l x i j := rfl
theorem pnX_lt (l : List Nat) (x i : Nat) : ∀ j, pnX l x i j < 256
  | 0 => by show 1 < 256; omega
  | j + 1 => by
    unfold pnX
    split
    · exact tm_lt _ _ (pnX_lt l x i j)
    · exact pnX_lt l x i j
theorem pnX_self (l : List Nat) (i : Nat) : ∀ j, pnX l (l.getD i 0) i j = pnTo l i j
  | 0 => rfl
  | j + 1 => by unfold pnX pnTo; rw [pnX_self l i j]
theorem pnX_zero (l : List Nat) (x i m : Nat) (hm : l.getD m 0 = x) (him : i ≠ m) : ∀ j, m < j → pnX l x i j = 0
  | 0, h => by omega
  | j + 1, h => by
    unfold pnX
    by_cases e : m = j
    · subst e
      rw [if_pos him, hm, Nat.xor_self, tm_zero_right]
    · rw [pnX_zero l x i m hm him j (by omega)]
      split
      · exact tm_zero_left _
      · rfl
theorem pxTo_pnX (l : List Nat) (hl : ∀ i, l.getD i 0 < 256) (x i : Nat) (hx : x < 256) : ∀ k, pxTo l x k = if i < k then tm (pnX l x i k) (x ^^^ l.getD i 0) else pnX l x i k
  | 0 => rfl
  | k + 1 => by
    have hk := xor_lt hx (hl k)
    have hi := xor_lt hx (hl i)
    have hp := pnX_lt l x i k
    unfold pxTo pnX
    rw [pxTo_pnX l hl x i hx k]
    by_cases h1 : i < k
    · rw [if_pos h1, if_pos (by omega), if_pos (by omega), tm_assoc _ _ _ hp hi hk, tm_comm _ _ hi hk, ← tm_assoc _ _ _ hp hk hi]
    · rw [if_neg h1]
      by_cases h2 : i = k
      · subst h2
        rw [if_pos (by omega), if_neg (by omega)]
      · rw [if_neg (by omega), if_pos h2]
/-- the weight of place i, for any x -/
def bas (l : List Nat) (i x : Nat) : Nat := tm (pnX l x i l.length) (scale l i)
theorem scale_lt (l : List Nat) (i : Nat) : scale l i < 256 := iv_lt _
theorem idx_of_getD (l : List Nat) (x : Nat) (h : x ∈ l) : l.idxOf x < l.length ∧ l.getD (l.idxOf x) 0 = x := by
  have h1 := List.idxOf_lt_length_of_mem h
  refine ⟨h1, ?_⟩
  rw [List.getD_eq_getElem?_getD, List.getElem?_eq_getElem h1]
  exact List.getElem_idxOf h1
theorem wts_bas (l : List Nat) (hl : ∀ i, l.getD i 0 < 256) (hd : l.Nodup) (x : Nat) (hx : x < 256) (i : Nat) (hi : i < l.length) : (wts l (scales l) x).getD i 0 = bas l i x := by
  unfold wts bas
  by_cases hm : x ∈ l
  · rw [if_pos hm]
    obtain ⟨h1, h2⟩ := idx_of_getD l x hm
    generalize l.idxOf x = m at *
    rw [List.getD_eq_getElem?_getD, List.getElem?_set]
    by_cases e : m = i
    · subst e
      rw [if_pos rfl, List.length_replicate, if_pos h1, ← h2, pnX_self]
      exact (tm_iv _ (pnTo_lt l hl m _) (pnTo_pos l hl hd m hi _ (Nat.le_refl _))).symm
    · rw [if_neg e, pnX_zero l x i m h2 (fun e2 => e e2.symm) _ h1, tm_zero_left]
      simp [hi]
  · rw [if_neg hm, List.getD_eq_getElem?_getD, List.getElem?_map, List.getElem?_range hi]
    show wt l (scales l) x i = _
    unfold wt
    rw [scales_getD l i hi, pxTo_pnX l hl x i hx, if_pos hi]
    have h0 : x ^^^ l.getD i 0 ≠ 0 := xor_ne fun e => hm (by
      rw [e, List.getD_eq_getElem?_getD, List.getElem?_eq_getElem hi]
      exact List.getElem_mem hi)
    have h1 := xor_lt hx (hl i)
    rw [tm_assoc _ _ _ (pnX_lt _ _ _ _) h1 (iv_lt _), tm_iv _ h1 h0, tm_one_right _ (pnX_lt _ _ _ _)]
theorem pnX_poly (l : List Nat) (hl : ∀ i, l.getD i 0 < 256) (i : Nat) : ∀ k, P (if i < k then k else k + 1) (fun x => pnX l x i k)
  | 0 => ⟨1, fun _ => 0, by omega, P.zero 0, fun x hx => by rw [tm_zero_right]; rfl⟩
  | k + 1 => by
    have h := pnX_poly l hl i k
    by_cases e : i = k
    · subst e
      rw [if_neg (Nat.lt_irrefl i)] at h
      rw [if_pos (by omega)]
      refine h.congr fun x hx => ?_
      show pnX l x i (i + 1) = _
      rw [pnX_succ, if_neg (by simp)]
    · have h2 := h.lin (l.getD k 0) (hl k)
      have e2 : (if i < k + 1 then k + 1 else k + 1 + 1) = (if i < k then k else k + 1) + 1 := by
        by_cases h3 : i < k
        · rw [if_pos h3, if_pos (by omega)]
        · rw [if_neg h3, if_neg (by omega)]
      rw [e2]
      refine h2.congr fun x hx => ?_
      show pnX l x i (k + 1) = _
      rw [pnX_succ, if_pos e, tm_comm _ _ (pnX_lt _ _ _ _) (xor_lt hx (hl k))]
theorem bas_poly (l : List Nat) (hl : ∀ i, l.getD i 0 < 256) (i : Nat) (hi : i < l.length) : P l.length (bas l i) := by
  have h := (pnX_poly l hl i l.length).mul (scale l i) (scale_lt l i)
  rw [if_pos hi] at h
  exact h.congr fun x hx => tm_comm _ _ (pnX_lt _ _ _ _) (scale_lt l i)
theorem sx_poly {n : Nat} (F : Nat → Nat → Nat) : ∀ k, (∀ i, i < k → P n (F i)) → P n (fun x => sx (fun i => F i x) k)
  | 0, _ => P.zero n
  | k + 1, h => (sx_poly F k fun i hi => h i (by omega)).xor (h k (by omega))
/-- the polynomial through the values y at the places l -/
def through (l : List Nat) (y : Nat → Nat) (x : Nat) : Nat := sx (fun i => tm ((wts l (scales l) x).getD i 0) (y i)) l.length
theorem through_poly (l : List Nat) (hl : ∀ i, l.getD i 0 < 256) (hd : l.Nodup) (y : Nat → Nat) (hy : ∀ i, y i < 256) : P l.length (through l y) := by
  refine (sx_poly (fun i x => tm (y i) (bas l i x)) l.length fun i hi => (bas_poly l hl i hi).mul (y i) (hy i)).congr fun x hx => ?_
  refine sx_congr _ fun i hi => ?_
  show tm ((wts l (scales l) x).getD i 0) (y i) = tm (y i) (bas l i x)
  rw [wts_bas l hl hd x hx i hi, tm_comm (bas l i x) (y i) (tm_lt _ _ (pnX_lt _ _ _ _)) (hy i)]
theorem sx_one (f : Nat → Nat) (m : Nat) (h0 : ∀ i, i ≠ m → f i = 0) : ∀ k, sx f k = if m < k then f m else 0
  | 0 => rfl
  | k + 1 => by
    show sx f k ^^^ f k = _
    rw [sx_one f m h0 k]
    by_cases h1 : m < k
    · rw [if_pos h1, if_pos (by omega), h0 k (by omega), Nat.xor_zero]
    · rw [if_neg h1, Nat.zero_xor]
      by_cases h2 : m = k
      · subst h2; rw [if_pos (by omega)]
      · rw [if_neg (by omega), h0 k (fun e => h2 e.symm)]
theorem through_at (l : List Nat) (hd : l.Nodup) (y : Nat → Nat) (hy : ∀ i, y i < 256) (m : Nat) (hm : m < l.length) : through l y (l.getD m 0) = y m := by
  have hmem : l.getD m 0 ∈ l := by
    rw [List.getD_eq_getElem?_getD, List.getElem?_eq_getElem hm]
    exact List.getElem_mem hm
  obtain ⟨h1, h2⟩ := idx_of_getD l _ hmem
  have hi : l.idxOf (l.getD m 0) = m := by
    refine Classical.byContradiction fun e => nodup_getD hd h1 hm e h2
  have hw : ∀ i, (wts l (scales l) (l.getD m 0)).getD i 0 = if i = m then 1 else 0 := fun i => by
    unfold wts
    rw [if_pos hmem, hi, List.getD_eq_getElem?_getD, List.getElem?_set]
    by_cases e : m = i
    · subst e; rw [if_pos rfl, List.length_replicate, if_pos hm, if_pos rfl]; rfl
    · rw [if_neg e, if_neg (fun e2 => e e2.symm)]
      by_cases h3 : i < l.length
      · simp [h3]
      · rw [List.getElem?_eq_none (by simp; omega)]; rfl
  unfold through
  rw [sx_one _ m (fun i hi => by rw [hw i, if_neg hi, tm_zero_left]), if_pos hm, hw m, if_pos rfl, tm_one _ (hy m)]
/-- two polynomials of as many coefficients as there are places, which agree at the places, are equal -/
theorem Gf.P.same {n : Nat} {f g : Nat → Nat} (S : List Nat) (hf : P n f) (hg : P n g) (hl : S.length = n) (hd : S.Nodup) (hz : ∀ r ∈ S, r < 256 ∧ f r = g r) (x : Nat) (hx : x < 256) : f x = g x := by
  have h := (hf.xor hg).roots S hl hd (fun r hr => ⟨(hz r hr).1, by show f r ^^^ g r = 0; rw [(hz r hr).2, Nat.xor_self]⟩) x hx
  have h2 : f x ^^^ g x ^^^ g x = 0 ^^^ g x := by rw [h]
  rwa [Nat.xor_assoc, Nat.xor_self, Nat.xor_zero, Nat.zero_xor] at h2
end Go.Proofs.Ytfleplbdcpdphaa
