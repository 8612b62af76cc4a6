/-
  Functions of the field that are polynomials of fewer than k coefficients: their zeros; the weights are such. · Different numbers below total: what a choice leaves (pure). · Any k pieces of an encoding determine the object and every piece. · Chosen pieces of an object: what Assemble and Regenerate answer to them. · PlaceRestores: what its walk leans on.
-/
import Derived.Test.YtjgiiciniplbnaaGreatDoorKa2
import Derived.Test.YtjgiiciniplbnaaGreatDoorKr2
import Derived.Test.YtjgiiciniplbnaaGreatDoorKr3
import Derived.Test.YtjgiiciniplbnaaGreatDoorKr1
namespace Go.Proofs.YtjgiiciniplbnaaGreatDoor.Gf
set_option linter.unusedVariables false

/-- f is, on the field, a polynomial of fewer than k + 1 coefficients (Horner) -/
def P : Nat → (Nat → Nat) → Prop
  | 0, f => ∀ x, x < 256 → f x = 0
  | k + 1, f => ∃ c g, c < 256 ∧ P k g ∧ ∀ x, x < 256 → f x = c ^^^ tm x (g x)
theorem P.lt : ∀ {k : Nat} {f : Nat → Nat}, P k f → ∀ x, x < 256 → f x < 256
  | 0, f, h, x, hx => by rw [h x hx]; omega
  | k + 1, f, ⟨c, g, hc, hg, h⟩, x, hx => by rw [h x hx]; exact xor_lt hc (tm_lt _ _ hx)
theorem P.congr {k : Nat} {f g : Nat → Nat} (h : P k f) (e : ∀ x, x < 256 → g x = f x) : P k g := by
  cases k with
  | zero => exact fun x hx => (e x hx).trans (h x hx)
  | succ k =>
    obtain ⟨c, g', hc, hg, h⟩ := h
    exact ⟨c, g', hc, hg, fun x hx => (e x hx).trans (h x hx)⟩
theorem P.zero : ∀ k, P k (fun _ => 0)
  | 0 => fun _ _ => rfl
  | k + 1 => ⟨0, _, by omega, P.zero k, fun x hx => by show 0 = 0 ^^^ tm x 0; rw [tm_zero_right]; rfl⟩
theorem P.up : ∀ {k : Nat} {f : Nat → Nat}, P k f → P (k + 1) f
  | 0, f, h => (P.zero 1).congr h
  | k + 1, f, ⟨c, g, hc, hg, h⟩ => ⟨c, g, hc, hg.up, h⟩
theorem P.xor : ∀ {k : Nat} {f g : Nat → Nat}, P k f → P k g → P k (fun x => f x ^^^ g x)
  | 0, f, g, h, h' => fun x hx => by show f x ^^^ g x = 0; rw [h x hx, h' x hx]; rfl
  | k + 1, f, g, ⟨c, a, hc, ha, h⟩, ⟨c', a', hc', ha', h'⟩ => ⟨c ^^^ c', _, xor_lt hc hc', ha.xor ha', fun x hx => by
      show f x ^^^ g x = _
      rw [h x hx, h' x hx, tm_xor_right x _ _ hx (ha.lt x hx) (ha'.lt x hx), xor_swap4]⟩
theorem tm_left_comm (a b c : Nat) (ha : a < 256) (hb : b < 256) (hc : c < 256) : tm a (tm b c) = tm b (tm a c) := by
  rw [← tm_assoc a b c ha hb hc, tm_comm a b ha hb, tm_assoc b a c hb ha hc]
theorem P.mul : ∀ {k : Nat} {f : Nat → Nat} (s : Nat), s < 256 → P k f → P k (fun x => tm s (f x))
  | 0, f, s, hs, h => fun x hx => by show tm s (f x) = 0; rw [h x hx, tm_zero_right]
  | k + 1, f, s, hs, ⟨c, g, hc, hg, h⟩ => ⟨tm s c, _, tm_lt _ _ hs, hg.mul s hs, fun x hx => by
      show tm s (f x) = tm s c ^^^ tm x (tm s (g x))
      rw [h x hx, tm_xor_right s _ _ hs hc (tm_lt _ _ hx), tm_left_comm s x _ hs hx (hg.lt x hx)]⟩
theorem P.lin {k : Nat} {f : Nat → Nat} (r : Nat) (hr : r < 256) (h : P k f) : P (k + 1) (fun x => tm (x ^^^ r) (f x)) := by
  have h1 : P (k + 1) (fun x => tm x (f x)) := ⟨0, f, by omega, h, fun x hx => by show tm x (f x) = 0 ^^^ tm x (f x); rw [Nat.zero_xor]⟩
  exact (h1.xor (h.mul r hr).up).congr fun x hx => tm_xor_left x r _ hx hr
/-- a polynomial divided by x - r -/
theorem P.div : ∀ {k : Nat} {f : Nat → Nat} (r : Nat), r < 256 → P (k + 1) f → ∃ q, P k q ∧ ∀ x, x < 256 → f x = f r ^^^ tm (x ^^^ r) (q x)
  | 0, f, r, hr, ⟨c, g, hc, hg, h⟩ => ⟨fun _ => 0, fun _ _ => rfl, fun x hx => by
      rw [tm_zero_right, h x hx, h r hr, hg x hx, hg r hr, tm_zero_right, tm_zero_right, Nat.xor_zero, Nat.xor_zero]⟩
  | k + 1, f, r, hr, ⟨c, g, hc, hg, h⟩ => by
    obtain ⟨q, hq, e⟩ := hg.div r hr
    have hgr := hg.lt r hr
    refine ⟨fun x => g r ^^^ tm x (q x), ⟨g r, q, hgr, hq, fun _ _ => rfl⟩, fun x hx => ?_⟩
    have hqx := hq.lt x hx
    have hxr := xor_lt hx hr
    rw [h x hx, h r hr, e x hx, tm_xor_right x _ _ hx hgr (tm_lt _ _ hxr), tm_xor_right _ _ _ hxr hgr (tm_lt _ _ hx), tm_xor_left x r (g r) hx hr, tm_left_comm x _ _ hx hxr hqx]
    simp only [Nat.xor_assoc]
    congr 1
    rw [← Nat.xor_assoc (tm r (g r)) (tm x (g r)), Nat.xor_comm (tm r (g r)) (tm x (g r)), Nat.xor_assoc (tm x (g r)), ← Nat.xor_assoc (tm r (g r)) (tm r (g r)), Nat.xor_self, Nat.zero_xor]
theorem tm_eq_zero {a b : Nat} (ha : a < 256) (hb : b < 256) (h : tm a b = 0) (h0 : a ≠ 0) : b = 0 := by
  rcases Nat.eq_zero_or_pos b with h1 | h1
  · exact h1
  · exact absurd h (tm_pos a b ha hb h0 (by omega))
/-- with k zeros it is zero everywhere -/
theorem P.roots : ∀ {k : Nat} {f : Nat → Nat} (S : List Nat), P k f → S.length = k → S.Nodup → (∀ r ∈ S, r < 256 ∧ f r = 0) → ∀ x, x < 256 → f x = 0
  | 0, f, S, h, _, _, _, x, hx => h x hx
  | k + 1, f, [], h, hl, _, _, x, hx => by cases hl
  | k + 1, f, r :: S, h, hl, hn, hz, x, hx => by
    obtain ⟨hr, hfr⟩ := hz r List.mem_cons_self
    obtain ⟨q, hq, e⟩ := h.div r hr
    obtain ⟨hrS, hn'⟩ := List.nodup_cons.1 hn
    have hq0 := hq.roots S (by simpa using hl) hn' (fun s hs => by
      obtain ⟨h1, h2⟩ := hz s (List.mem_cons_of_mem _ hs)
      refine ⟨h1, ?_⟩
      have h3 := e s h1
      rw [h2, hfr, Nat.zero_xor] at h3
      exact tm_eq_zero (xor_lt h1 hr) (hq.lt s h1) h3.symm (Go.Proofs.YtjgiiciniplbnaaGreatDoor.xor_ne fun e => hrS (e ▸ hs)))
    rw [e x hx, hfr, hq0 x hx, tm_zero_right]; rfl

end Go.Proofs.YtjgiiciniplbnaaGreatDoor.Gf
namespace Go.Proofs.YtjgiiciniplbnaaGreatDoor
open Gf

/-- the product of x with the places before j but i -/
def pnX (l : List Nat) (x i : Nat) : Nat → Nat
  | 0 => 1
  | j + 1 => if i ≠ j then tm (pnX l x i j) (x ^^^ l.getD j 0) else pnX l x i j
theorem pnX_succ (l : List Nat) (x i j : Nat) : pnX l x i (j + 1) = if i ≠ j then tm (pnX l x i j) (x ^^^ l.getD j 0) else pnX l x i j := rfl
theorem pnX_lt (l : List Nat) (x i : Nat) : ∀ j, pnX l x i j < 256
  | 0 => by show 1 < 256; omega
  | j + 1 => by
    unfold pnX
    split
    · exact tm_lt _ _ (pnX_lt l x i j)
    · exact pnX_lt l x i j
theorem pnX_self (l : List Nat) (i : Nat) : ∀ j, pnX l (l.getD i 0) i j = pnTo l i j
  | 0 => rfl
  | j + 1 => by unfold pnX pnTo; rw [pnX_self l i j]
theorem pnX_zero (l : List Nat) (x i m : Nat) (hm : l.getD m 0 = x) (him : i ≠ m) : ∀ j, m < j → pnX l x i j = 0
  | 0, h => by omega
  | j + 1, h => by
    unfold pnX
    by_cases e : m = j
    · subst e
      rw [if_pos him, hm, Nat.xor_self, tm_zero_right]
    · rw [pnX_zero l x i m hm him j (by omega)]
      split
      · exact tm_zero_left _
      · rfl
theorem pxTo_pnX (l : List Nat) (hl : ∀ i, l.getD i 0 < 256) (x i : Nat) (hx : x < 256) : ∀ k, pxTo l x k = if i < k then tm (pnX l x i k) (x ^^^ l.getD i 0) else pnX l x i k
  | 0 => rfl
  | k + 1 => by
    have hk := xor_lt hx (hl k)
    have hi := xor_lt hx (hl i)
    have hp := pnX_lt l x i k
    unfold pxTo pnX
    rw [pxTo_pnX l hl x i hx k]
    by_cases h1 : i < k
    · rw [if_pos h1, if_pos (by omega), if_pos (by omega), tm_assoc _ _ _ hp hi hk, tm_comm _ _ hi hk, ← tm_assoc _ _ _ hp hk hi]
    · rw [if_neg h1]
      by_cases h2 : i = k
      · subst h2
        rw [if_pos (by omega), if_neg (by omega)]
      · rw [if_neg (by omega), if_pos h2]
/-- the weight of place i, for any x -/
def bas (l : List Nat) (i x : Nat) : Nat := tm (pnX l x i l.length) (scale l i)
theorem scale_lt (l : List Nat) (i : Nat) : scale l i < 256 := iv_lt _
theorem idx_of_getD (l : List Nat) (x : Nat) (h : x ∈ l) : l.idxOf x < l.length ∧ l.getD (l.idxOf x) 0 = x := by
  have h1 := List.idxOf_lt_length_of_mem h
  refine ⟨h1, ?_⟩
  rw [List.getD_eq_getElem?_getD, List.getElem?_eq_getElem h1]
  exact List.getElem_idxOf h1
theorem wts_bas (l : List Nat) (hl : ∀ i, l.getD i 0 < 256) (hd : l.Nodup) (x : Nat) (hx : x < 256) (i : Nat) (hi : i < l.length) : (wts l (scales l) x).getD i 0 = bas l i x := by
  unfold wts bas
  by_cases hm : x ∈ l
  · rw [if_pos hm]
    obtain ⟨h1, h2⟩ := idx_of_getD l x hm
    generalize l.idxOf x = m at *
    rw [List.getD_eq_getElem?_getD, List.getElem?_set]
    by_cases e : m = i
    · subst e
      rw [if_pos rfl, List.length_replicate, if_pos h1, ← h2, pnX_self]
      exact (tm_iv _ (pnTo_lt l hl m _) (pnTo_pos l hl hd m hi _ (Nat.le_refl _))).symm
    · rw [if_neg e, pnX_zero l x i m h2 (fun e2 => e e2.symm) _ h1, tm_zero_left]
      simp [hi]
  · rw [if_neg hm, List.getD_eq_getElem?_getD, List.getElem?_map, List.getElem?_range hi]
    show wt l (scales l) x i = _
    unfold wt
    rw [scales_getD l i hi, pxTo_pnX l hl x i hx, if_pos hi]
    have h0 : x ^^^ l.getD i 0 ≠ 0 := xor_ne fun e => hm (by
      rw [e, List.getD_eq_getElem?_getD, List.getElem?_eq_getElem hi]
      exact List.getElem_mem hi)
    have h1 := xor_lt hx (hl i)
    rw [tm_assoc _ _ _ (pnX_lt _ _ _ _) h1 (iv_lt _), tm_iv _ h1 h0, tm_one_right _ (pnX_lt _ _ _ _)]
theorem pnX_poly (l : List Nat) (hl : ∀ i, l.getD i 0 < 256) (i : Nat) : ∀ k, P (if i < k then k else k + 1) (fun x => pnX l x i k)
  | 0 => ⟨1, fun _ => 0, by omega, P.zero 0, fun x hx => by rw [tm_zero_right]; rfl⟩
  | k + 1 => by
    have h := pnX_poly l hl i k
    by_cases e : i = k
    · subst e
      rw [if_neg (Nat.lt_irrefl i)] at h
      rw [if_pos (by omega)]
      refine h.congr fun x hx => ?_
      show pnX l x i (i + 1) = _
      rw [pnX_succ, if_neg (by simp)]
    · have h2 := h.lin (l.getD k 0) (hl k)
      have e2 : (if i < k + 1 then k + 1 else k + 1 + 1) = (if i < k then k else k + 1) + 1 := by
        by_cases h3 : i < k
        · rw [if_pos h3, if_pos (by omega)]
        · rw [if_neg h3, if_neg (by omega)]
      rw [e2]
      refine h2.congr fun x hx => ?_
      show pnX l x i (k + 1) = _
      rw [pnX_succ, if_pos e, tm_comm _ _ (pnX_lt _ _ _ _) (xor_lt hx (hl k))]
theorem bas_poly (l : List Nat) (hl : ∀ i, l.getD i 0 < 256) (i : Nat) (hi : i < l.length) : P l.length (bas l i) := by
  have h := (pnX_poly l hl i l.length).mul (scale l i) (scale_lt l i)
  rw [if_pos hi] at h
  exact h.congr fun x hx => tm_comm _ _ (pnX_lt _ _ _ _) (scale_lt l i)
theorem sx_poly {n : Nat} (F : Nat → Nat → Nat) : ∀ k, (∀ i, i < k → P n (F i)) → P n (fun x => sx (fun i => F i x) k)
  | 0, _ => P.zero n
  | k + 1, h => (sx_poly F k fun i hi => h i (by omega)).xor (h k (by omega))
/-- the polynomial through the values y at the places l -/
def through (l : List Nat) (y : Nat → Nat) (x : Nat) : Nat := sx (fun i => tm ((wts l (scales l) x).getD i 0) (y i)) l.length
theorem through_poly (l : List Nat) (hl : ∀ i, l.getD i 0 < 256) (hd : l.Nodup) (y : Nat → Nat) (hy : ∀ i, y i < 256) : P l.length (through l y) := by
  refine (sx_poly (fun i x => tm (y i) (bas l i x)) l.length fun i hi => (bas_poly l hl i hi).mul (y i) (hy i)).congr fun x hx => ?_
  refine sx_congr _ fun i hi => ?_
  show tm ((wts l (scales l) x).getD i 0) (y i) = tm (y i) (bas l i x)
  rw [wts_bas l hl hd x hx i hi, tm_comm (bas l i x) (y i) (tm_lt _ _ (pnX_lt _ _ _ _)) (hy i)]
theorem sx_one (f : Nat → Nat) (m : Nat) (h0 : ∀ i, i ≠ m → f i = 0) : ∀ k, sx f k = if m < k then f m else 0
  | 0 => rfl
  | k + 1 => by
    show sx f k ^^^ f k = _
    rw [sx_one f m h0 k]
    by_cases h1 : m < k
    · rw [if_pos h1, if_pos (by omega), h0 k (by omega), Nat.xor_zero]
    · rw [if_neg h1, Nat.zero_xor]
      by_cases h2 : m = k
      · subst h2; rw [if_pos (by omega)]
      · rw [if_neg (by omega), h0 k (fun e => h2 e.symm)]
theorem through_at (l : List Nat) (hd : l.Nodup) (y : Nat → Nat) (hy : ∀ i, y i < 256) (m : Nat) (hm : m < l.length) : through l y (l.getD m 0) = y m := by
  have hmem : l.getD m 0 ∈ l := by
    rw [List.getD_eq_getElem?_getD, List.getElem?_eq_getElem hm]
    exact List.getElem_mem hm
  obtain ⟨h1, h2⟩ := idx_of_getD l _ hmem
  have hi : l.idxOf (l.getD m 0) = m := by
    refine Classical.byContradiction fun e => nodup_getD hd h1 hm e h2
  have hw : ∀ i, (wts l (scales l) (l.getD m 0)).getD i 0 = if i = m then 1 else 0 := fun i => by
    unfold wts
    rw [if_pos hmem, hi, List.getD_eq_getElem?_getD, List.getElem?_set]
    by_cases e : m = i
    · subst e; rw [if_pos rfl, List.length_replicate, if_pos hm, if_pos rfl]; rfl
    · rw [if_neg e, if_neg (fun e2 => e e2.symm)]
      by_cases h3 : i < l.length
      · simp [h3]
      · rw [List.getElem?_eq_none (by simp; omega)]; rfl
  unfold through
  rw [sx_one _ m (fun i hi => by rw [hw i, if_neg hi, tm_zero_left]), if_pos hm, hw m, if_pos rfl, tm_one _ (hy m)]
/-- two polynomials of as many coefficients as there are places, which agree at the places, are equal -/
theorem Gf.P.same {n : Nat} {f g : Nat → Nat} (S : List Nat) (hf : P n f) (hg : P n g) (hl : S.length = n) (hd : S.Nodup) (hz : ∀ r ∈ S, r < 256 ∧ f r = g r) (x : Nat) (hx : x < 256) : f x = g x := by
  have h := (hf.xor hg).roots S hl hd (fun r hr => ⟨(hz r hr).1, by show f r ^^^ g r = 0; rw [(hz r hr).2, Nat.xor_self]⟩) x hx
  have h2 : f x ^^^ g x ^^^ g x = 0 ^^^ g x := by rw [h]
  rwa [Nat.xor_assoc, Nat.xor_self, Nat.xor_zero, Nat.zero_xor] at h2
end Go.Proofs.YtjgiiciniplbnaaGreatDoor

namespace Go.Proofs.YtjgiiciniplbnaaGreatDoor
open Go Go.RowKit
set_option linter.unusedVariables false

def nis (s : List Nat) : List Value := s.map fun (n : Nat) => .int .i64 n
theorem nis_snoc (s : List Nat) (n : Nat) : nis s ++ [.int .i64 (n : Int)] = nis (s ++ [n]) := by simp [nis]
theorem nis_append (s t : List Nat) : nis s ++ nis t = nis (s ++ t) := by simp [nis]
theorem nis_one (s : List Nat) : ∀ v ∈ nis s, v.oneCell' = true := by
  intro v hv
  unfold nis at hv
  obtain ⟨x, _, rfl⟩ := List.mem_map.1 hv
  rfl
/-- what choose returns: k different numbers below total -/
structure Chosen (k total : Nat) (s : List Nat) : Prop where
  len : s.length = k
  nod : s.Nodup
  lt : ∀ n ∈ s, n < total

theorem perm_step (O L : List Nat) (j : Nat) (hj : j < L.length) : ((O ++ [L.getD j 0]) ++ (L.take j ++ L.drop (j + 1))).Perm (O ++ L) := by
  rw [List.append_assoc]
  refine List.Perm.append_left O ?_
  rw [List.singleton_append]
  have e : L = L.take j ++ (L.getD j 0 :: L.drop (j + 1)) := by
    rw [List.getD_eq_getElem?_getD, List.getElem?_eq_getElem hj]
    show L = L.take j ++ (L[j] :: L.drop (j + 1))
    rw [← List.drop_eq_getElem_cons hj, List.take_append_drop]
  refine List.Perm.trans ?_ (List.Perm.of_eq e.symm)
  exact List.perm_middle.symm

theorem tmod_lo (z : Int) (n : Nat) (h : 0 < n) : -(n : Int) < z.tmod n ∧ z.tmod n < n := by
  have h1 := Int.emod_nonneg z (b := n) (by omega)
  have h2 := Int.emod_lt_of_pos z (b := n) (by omega)
  have h3 := Int.tmod_eq_emod (a := z) (b := n)
  rw [h3]
  split
  · omega
  · rename_i hh
    have : (z % (n : Int)) ≠ 0 := fun e => hh (.inr (Int.dvd_of_emod_eq_zero e))
    omega
end Go.Proofs.YtjgiiciniplbnaaGreatDoor

namespace Go.Proofs.YtjgiiciniplbnaaGreatDoor
open Go Go.RowKit Gf
set_option linter.unusedVariables false

theorem rangeR_getD (k i : Nat) (h : i < k) : (List.range k).getD i 0 = i := by
  rw [List.getD_eq_getElem?_getD, List.getElem?_range h]; rfl
theorem rangeR_lt (k : Nat) (hk : k ≤ 256) (i : Nat) : (List.range k).getD i 0 < 256 := by
  by_cases h : i < k
  · rw [rangeR_getD k i h]; omega
  · rw [List.getD_eq_getElem?_getD, List.getElem?_eq_none (by simp; omega)]; show 0 < 256; omega
theorem encR_length (d : List Nat) (k L i : Nat) : (encP d k L i).length = L := by
  unfold encP
  split
  · exact spl_length _ _ _
  · exact mixL_length _ _ _ _
/-- column c of an encoding is a polynomial's values -/
theorem encR_through (d : List Nat) (hd : ∀ i, d.getD i 0 < 256) (k L i c : Nat) (hc : c < L) : (encP d k L i).getD c 0 = through (List.range k) (fun j => d.getD (j * L + c) 0) i := by
  unfold encP
  by_cases h : i < k
  · rw [if_pos h, spl_getD d L i c hc]
    have h2 := through_at (List.range k) List.nodup_range (fun j => d.getD (j * L + c) 0) (fun _ => hd _) i (by simpa using h)
    rw [rangeR_getD k i h] at h2
    exact h2.symm
  · rw [if_neg h, mixL_getD _ _ _ _ _ hc]
    unfold through
    rw [List.length_range]
    refine sx_congr k fun j hj => ?_
    rw [range_map_getD _ _ _ hj, spl_getD d L j c hc]
theorem encR_poly (d : List Nat) (hd : ∀ i, d.getD i 0 < 256) (k L c : Nat) (hk : k ≤ 256) (hc : c < L) : P k fun x => (encP d k L x).getD c 0 := by
  have h := through_poly (List.range k) (rangeR_lt k hk) List.nodup_range (fun j => d.getD (j * L + c) 0) (fun _ => hd _)
  rw [List.length_range] at h
  exact h.congr fun x _ => encR_through d hd k L x c hc
theorem encR_lt (d : List Nat) (hd : ∀ i, d.getD i 0 < 256) (k L i c : Nat) (hk : k ≤ 256) (hi : i < 256) : (encP d k L i).getD c 0 < 256 := by
  by_cases hc : c < L
  · exact (encR_poly d hd k L c hk hc).lt i hi
  · rw [List.getD_eq_getElem?_getD, List.getElem?_eq_none (by rw [encR_length]; omega)]; show 0 < 256; omega
/-- the pieces with the numbers s -/
def rowsD (d : List Nat) (k L : Nat) (s : List Nat) (j : Nat) : List Nat := encP d k L (s.getD j 0)
theorem Chosen.getD_lt {k t : Nat} {s : List Nat} (h : Chosen k t s) (ht : 0 < t) (i : Nat) : s.getD i 0 < t := by
  by_cases hi : i < s.length
  · rw [List.getD_eq_getElem?_getD, List.getElem?_eq_getElem hi]
    exact h.lt _ (List.getElem_mem _)
  · rw [List.getD_eq_getElem?_getD, List.getElem?_eq_none (by omega)]
    exact ht
theorem mix_rows (d : List Nat) (hd : ∀ i, d.getD i 0 < 256) {k t : Nat} (L : Nat) {s : List Nat} (hs : Chosen k t s) (ht : t ≤ 255) (hk : 1 ≤ k) (hkt : k ≤ t) (x : Nat) (hx : x < 256) :
    mixL ((List.range k).map (rowsD d k L s)) (wts s (scales s) x) L k = encP d k L x := by
  have hsl : ∀ i, s.getD i 0 < 256 := fun i => by have := hs.getD_lt (by omega) i; omega
  refine ext_getD (by rw [mixL_length, encR_length]) fun c hc => ?_
  rw [mixL_length] at hc
  rw [mixL_getD _ _ _ _ _ hc]
  have hy : ∀ j, (encP d k L (s.getD j 0)).getD c 0 < 256 := fun j => encR_lt d hd k L _ c (by omega) (hsl j)
  have h1 : sx (fun i => tm ((wts s (scales s) x).getD i 0) ((((List.range k).map (rowsD d k L s)).getD i []).getD c 0)) k = through s (fun j => (encP d k L (s.getD j 0)).getD c 0) x := by
    unfold through
    rw [hs.len]
    refine sx_congr _ fun j hj => ?_
    rw [range_map_getD _ _ _ hj]
    rfl
  rw [h1]
  have hp := through_poly s hsl hs.nod (fun j => (encP d k L (s.getD j 0)).getD c 0) hy
  rw [hs.len] at hp
  refine hp.same s (encR_poly d hd k L c (by omega) hc) hs.len hs.nod (fun r hr => ?_) x hx
  obtain ⟨h2, h3⟩ := idx_of_getD s r hr
  have h4 := through_at s hs.nod (fun j => (encP d k L (s.getD j 0)).getD c 0) hy _ h2
  rw [h3] at h4
  refine ⟨by have := hs.lt r hr; omega, h4⟩
theorem join_rows (d : List Nat) (hd : ∀ i, d.getD i 0 < 256) {k t : Nat} (L : Nat) {s : List Nat} (hs : Chosen k t s) (ht : t ≤ 255) (hk : 1 ≤ k) (hkt : k ≤ t) (hn : d.length ≤ k * L) :
    joinL ((List.range k).map (rowsD d k L s)) s L k d.length = d := by
  refine ext_getD (by simp [joinL]) fun p hp => ?_
  have hp : p < d.length := by simpa [joinL] using hp
  have hL : 0 < L := by
    rcases Nat.eq_zero_or_pos L with e | e
    · subst e; omega
    · exact e
  have hc : p % L < L := Nat.mod_lt _ hL
  have hj : p / L < k := by rw [Nat.div_lt_iff_lt_mul hL]; omega
  have he : p / L * L + p % L = p := by rw [Nat.mul_comm]; exact Nat.div_add_mod p L
  unfold joinL
  rw [List.getD_eq_getElem?_getD, List.getElem?_map, List.getElem?_range hp]
  show joinF _ _ _ _ p = _
  unfold joinF
  rw [mix_rows d hd L hs ht hk hkt (p / L) (by omega)]
  unfold encP
  rw [if_pos hj, spl_getD d L _ _ hc, he]
end Go.Proofs.YtjgiiciniplbnaaGreatDoor

namespace Go.Proofs.YtjgiiciniplbnaaGreatDoor
open Go Go.RowKit
set_option linter.unusedVariables false

/-- the digests that Make writes -/
def DGm (l : List Nat) (k t : Nat) : List (List Nat) := (List.range t).map fun j => pdg shaRound shaStart l k (plen k l.length) j
theorem DGm_len (l : List Nat) (k t : Nat) : (DGm l k t).length = t := by simp [DGm]
theorem getD_lt8 {l : List Nat} (h : ∀ y ∈ l, y < 256) (i : Nat) : l.getD i 0 < 256 := by
  rw [List.getD_eq_getElem?_getD]
  by_cases hi : i < l.length
  · rw [List.getElem?_eq_getElem hi]; exact h _ (List.getElem_mem _)
  · rw [List.getElem?_eq_none (by omega)]; decide
theorem rst_man {k n t : Nat} {l : List Nat} (ok : 1 ≤ k ∧ k ≤ n ∧ n ≤ t ∧ t ≤ 255 ∧ l.length ≤ 8192) : manB k n t l.length t = true := by
  unfold manB vnB vcB
  simp only [Bool.and_eq_true, decide_eq_true_eq, and_true]
  omega
/-- a piece of the object passes CheckPiece -/
theorem rst_cp {k n t : Nat} {l : List Nat} (ok : 1 ≤ k ∧ k ≤ n ∧ n ≤ t ∧ t ≤ 255 ∧ l.length ≤ 8192) (x : Nat) (hx : x < t) : cpE k n t l.length t (DGm l k t) (x : Int) (encP l k (plen k l.length) x) = 0 := by
  have e1 : hi8 (x : Int) = x / 256 := by unfold hi8; omega
  have e2 : lo8 (x : Int) = x % 256 := by unfold lo8; omega
  have e3 : (DGm l k t).getD x [] = dig shaRound shaStart ([x / 256, x % 256] ++ encP l k (plen k l.length) x) := by
    unfold DGm
    rw [List.getD_eq_getElem?_getD, List.getElem?_map, List.getElem?_range hx]
    rfl
  have h1 : ¬ ((x : Int) < 0 ∨ (t : Int) ≤ (x : Int)) := by omega
  have h2 : ¬ ((encP l k (plen k l.length) x).length ≠ plen (k : Int).toNat ((l.length : Nat) : Int).toNat) := by
    rw [encR_length, Int.toNat_natCast, Int.toNat_natCast]
    exact fun h => h rfl
  have h3 : ¬ (dig shaRound shaStart ([hi8 (x : Int), lo8 (x : Int)] ++ encP l k (plen k l.length) x) ≠ (DGm l k t).getD (x : Int).toNat []) := by
    rw [e1, e2, Int.toNat_natCast, e3]
    exact fun h => h rfl
  unfold cpE
  rw [if_pos (rst_man ok), if_neg h1, if_neg h2, if_neg h3]
theorem dTo_ok {idx ce : Nat → Int} : ∀ {n : Nat}, (∀ i, i < n → ce i = 0 ∧ occ idx i (idx i) = false) → dTo idx ce n = 0
  | 0, _ => rfl
  | n + 1, h => by
    refine dTo_next (dTo_ok fun i hi => h i (by omega)) ?_
    obtain ⟨h1, h2⟩ := h n (by omega)
    unfold dStep
    rw [if_pos h1, h2]
    rfl
/-- chosen pieces of the object l -/
structure Rst (k n t : Nat) (l : List Nat) (s : List Nat) (ps : List (Int × Sl)) : Prop where
  ok : 1 ≤ k ∧ k ≤ n ∧ n ≤ t ∧ t ≤ 255 ∧ l.length ≤ 8192
  lt : ∀ y ∈ l, y < 256
  ch : Chosen k t s
  idx : ∀ i, i < k → pidx ps i = (s.getD i 0 : Nat)
  len : ∀ i, i < k → plen' ps i = plen k l.length
section
variable {k n t : Nat} {l s : List Nat} {ps : List (Int × Sl)} (h : Rst k n t l s ps)
include h
theorem Rst.slt (i : Nat) : s.getD i 0 < t := h.ch.getD_lt (by have := h.ok; omega) i
theorem Rst.places : places ps k = s := by
  refine ext_getD (by rw [places_length, h.ch.len]) fun i hi => ?_
  rw [places_length] at hi
  rw [places_getD _ _ _ hi, h.idx i hi, Int.toNat_natCast]
theorem Rst.all : dAll k (pidx ps) (fun i => cpE k n t l.length t (DGm l k t) (pidx ps i) (rowsD l k (plen k l.length) s i)) k = 0 := by
  have h1 : dTo (pidx ps) (fun i => cpE k n t l.length t (DGm l k t) (pidx ps i) (rowsD l k (plen k l.length) s i)) k = 0 := dTo_ok fun i hi => by
    refine ⟨?_, ?_⟩
    · show cpE k n t l.length t (DGm l k t) (pidx ps i) (rowsD l k (plen k l.length) s i) = 0
      rw [h.idx i hi]
      exact rst_cp h.ok _ (h.slt i)
    · cases ho : occ (pidx ps) i (pidx ps i) with
      | false => rfl
      | true =>
        obtain ⟨j, hj, e⟩ := (occ_iff _ _ _).1 ho
        rw [h.idx i hi, h.idx j (by omega)] at e
        exact absurd (by omega) (nodup_getD h.ch.nod (i := j) (j := i) (by rw [h.ch.len]; omega) (by rw [h.ch.len]; exact hi) (by omega))
  unfold dAll
  rw [if_pos h1, if_neg (by omega)]
theorem Rst.obj : objL k l.length ps (rowsD l k (plen k l.length) s) = l := by
  unfold objL
  rw [Int.toNat_natCast, Int.toNat_natCast, h.places]
  exact join_rows l (getD_lt8 h.lt) (plen k l.length) h.ch h.ok.2.2.2.1 h.ok.1 (by have := h.ok; omega) (plen_ge k l.length h.ok.1)
theorem Rst.asmE : asmE k n t l.length t (dig shaRound shaStart l) (DGm l k t) ps (rowsD l k (plen k l.length) s) k = 0 := by
  unfold Go.Proofs.YtjgiiciniplbnaaGreatDoor.asmE
  rw [if_pos (rst_man h.ok), if_pos h.all, h.obj, if_pos rfl]
theorem Rst.asmL : asmL k n t l.length t (dig shaRound shaStart l) (DGm l k t) ps (rowsD l k (plen k l.length) s) k = l := by
  unfold Go.Proofs.YtjgiiciniplbnaaGreatDoor.asmL
  rw [if_pos h.asmE, h.obj]
theorem Rst.piece (x : Nat) (hx : x < t) : pieceL k ps (rowsD l k (plen k l.length) s) (x : Int) = encP l k (plen k l.length) x := by
  unfold pieceL
  rw [Int.toNat_natCast, Int.toNat_natCast, h.places, h.len 0 (by have := h.ok; omega)]
  exact mix_rows l (getD_lt8 h.lt) (plen k l.length) h.ch h.ok.2.2.2.1 h.ok.1 (by have := h.ok; omega) x (by have := h.ok; omega)
theorem Rst.regE (x : Nat) (hx : x < t) : regE k n t l.length t (DGm l k t) ps (rowsD l k (plen k l.length) s) k (x : Int) = 0 := by
  have hok := h.ok
  have e1 : hi8 (x : Int) = x / 256 := by unfold hi8; omega
  have e2 : lo8 (x : Int) = x % 256 := by unfold lo8; omega
  have e3 : (DGm l k t).getD x [] = dig shaRound shaStart ([x / 256, x % 256] ++ encP l k (plen k l.length) x) := by
    unfold DGm
    rw [List.getD_eq_getElem?_getD, List.getElem?_map, List.getElem?_range hx]
    rfl
  unfold Go.Proofs.YtjgiiciniplbnaaGreatDoor.regE
  rw [if_pos (rst_man h.ok), if_neg (by omega), if_pos h.all, h.piece x hx, e1, e2, Int.toNat_natCast, e3, if_pos rfl]
theorem Rst.regI (x : Nat) (hx : x < t) : regI k n t l.length t (DGm l k t) ps (rowsD l k (plen k l.length) s) k (x : Int) = x := by
  unfold Go.Proofs.YtjgiiciniplbnaaGreatDoor.regI
  rw [if_pos (h.regE x hx)]
theorem Rst.regL (x : Nat) (hx : x < t) : regL k n t l.length t (DGm l k t) ps (rowsD l k (plen k l.length) s) k (x : Int) = encP l k (plen k l.length) x := by
  unfold Go.Proofs.YtjgiiciniplbnaaGreatDoor.regL
  rw [if_pos (h.regE x hx), h.piece x hx]
end
end Go.Proofs.YtjgiiciniplbnaaGreatDoor

namespace Go.Proofs.YtjgiiciniplbnaaGreatDoor
open Go Go.RowKit Go.Lib Go.Sort
open Go.ChangeShapes Go.WideShapes Go.ChangeAt
set_option linter.unusedVariables false

theorem make_postR (fb k n t m c : Nat) (a : Option Addr) (l : List Nat) (w : World) (hF : Fld w fb) (V : Vars w shaRound shaStart) (hd : Bs w (.slice a m c) l) (hoff : Off fb (.slice a m c)) (hmc : m ≤ c) (h1 : 1 ≤ k) (h2 : k ≤ n) (h3 : n ≤ t) (h4 : t ≤ 255) (h5 : m ≤ 8192) (hfb : 3 ≤ fb) :
    Calls Tryz.prog 58 #[.pointer (some ⟨fb, 0, none⟩), .int .i64 k, .int .i64 n, .int .i64 t, .slice a m c] w fun e w' => ∃ M pv ev, e = .returned (.tuple #[.agg M, pv, ev]) ∧ MkPost fb k n t m l w w' M pv ev ∧ Kept fb w w' ∧ (Tryz.prog.info? 62).map (·.size) = some M.size ∧ mz.size = M.size ∧ M.all (·.oneCell') = true := by
  refine (Make_any fb k n t m c a shaRound shaStart l w hF V hd hoff hmc h1 h2 h3 h4 h5 hfb).mono ?_
  rintro e w' ⟨rb, mb, g, gd, bf, NN, rfl, RR⟩
  refine ⟨_, _, _, rfl, ⟨rb, mb, g, gd, bf, NN, rfl, rfl, rfl, RR⟩, RR.kept, ?_, ?_, mcells_one _ _ _ _ _ _ _ _⟩
  · rw [List.size_toArray, mcells_length _ _ _ _ _ _ (dig_length _ _ _)]; kernel_rfl
  · rw [mz_sizeO, List.size_toArray, mcells_length _ _ _ _ _ _ (dig_length _ _ _)]
theorem dgAt_rangeR {w : World} {gd t k L : Nat} {l : List Nat} (h : ∀ j, j < t → w.rangeAt gd (j * 32) (u8s (pdg shaRound shaStart l k L j))) : DgAt w (.slice (some ⟨gd, 0, none⟩) t t) ((List.range t).map fun j => pdg shaRound shaStart l k L j) := by
  refine ⟨some ⟨gd, 0, none⟩, t, by simp, fun d hd => ?_, fun _ => ⟨gd, 0, rfl, fun j hj => ?_⟩⟩
  · obtain ⟨j, _, rfl⟩ := List.mem_map.1 hd
    exact ⟨dig_length _ _ _, digL_lt ()⟩
  · have hjt : j < t := by simpa using hj
    have e : ((List.range t).map fun j => pdg shaRound shaStart l k L j).getD j [] = pdg shaRound shaStart l k L j := by
      rw [List.getD_eq_getElem?_getD]
      simp [hjt]
    rw [e, Nat.zero_add]
    exact h j hjt
theorem encM_ltR {l : List Nat} (h : ∀ y ∈ l, y < 256) (k L i : Nat) : ∀ n ∈ encP l k L i, n < 256 := encM_lt l (getD_lt8 h) k L i
theorem pcs_keptR {w w' : World} {fb g B k L : Nat} {bf : Nat → Nat} {D : Nat → List Nat} (h : Pcs w g B k L bf D) (hk : Kept fb w w') (hF : Fld w fb) : Pcs w' g B k L bf D := by
  have hg : g ≠ fb := by
    rintro rfl
    rcases hF with h2 | h2 <;> (have h3 := h.own.symm.trans h2; simp at h3)
  have hb : ∀ j, j < k → bf j ≠ fb := fun j hj e => by
    have h1 := h.row j hj
    rw [e] at h1
    rcases hF with h2 | h2 <;> (have h3 := h1.symm.trans h2; simp at h3)
  exact ⟨(hk.block g h.own.lt hg).trans h.own, fun j hj => (hk.block _ (h.row j hj).lt (hb j hj)).trans (h.row j hj), h.low, h.inj, h.notb⟩
/-- a piece of Make's, in its slice -/
theorem pcs_atR {w : World} {g B t k L : Nat} {bf : Nat → Nat} {ld : List Nat} (h : Pcs w g B t L bf (encP ld k L)) (hl : ∀ y ∈ ld, y < 256) (i : Nat) (hi : i < t) :
    w.cell? ⟨g, i * 2, none⟩ = some (.int .i64 (i : Int)) ∧ w.cell? ⟨g, i * 2 + 1, none⟩ = some (.slice (some ⟨bf i, 0, none⟩) L L) ∧ Bs w (.slice (some ⟨bf i, 0, none⟩) L L) (encP ld k L i) := by
  have hm : i < (mkps bf L t t).length := by rw [mkps_length]; exact hi
  have h0 := h.own.cell0 i hm
  have h1 := h.own.cell1 i hm
  rw [mkps_get _ _ _ _ _ hm hi] at h0 h1
  have h5 := (h.row i hi).bs (encM_ltR hl k L i) L
  rw [encM_length] at h5
  exact ⟨h0, h1, h5⟩
/-- the two numbers and the two slices of the law's argument -/
theorem pc_c {w : World} {b : Nat} {x y v u : Value} {T : TypeId} (h : w.heap[b]? = some (.cells #[x, y, v, u] T (0, 0))) : w.cell? ⟨b, 0, none⟩ = some x ∧ w.cell? ⟨b, 1, none⟩ = some y ∧ w.cell? ⟨b, 2, none⟩ = some v ∧ w.cell? ⟨b, 3, none⟩ = some u :=
  ⟨by rw [cell_of_heap h]; rfl, by rw [cell_of_heap h]; rfl, by rw [cell_of_heap h]; rfl, by rw [cell_of_heap h]; rfl⟩
section
variable {H : Type} {enc : TypeId × Value → H} {W : World}
set_option maxRecDepth 100000 in
theorem open_pieces {base : Nat} {v : Value} {d : DataW H} {p : List MemPlace} (hval : Value.okWide Tryz.prog W .any base 114 v) (h : DataW.Trod enc Tryz.prog W 0 (fun _ => true) true 114 v d p) :
    ∃ (x0 x1 : Int) (a2 : Option Addr) (n2 c2 : Nat) (l2 : List Nat) (a3 : Option Addr) (n3 c3 : Nat) (l3 : List Int), v = .agg #[.int .i64 x0, .int .i64 x1, .slice a2 n2 c2, .slice a3 n3 c3] ∧ By W a2 n2 c2 l2 ∧ In W a3 n3 c3 l3 := by
  obtain ⟨cs, rfl, hsz⟩ := okWide_struct Tryz.underlying114 hval
  rw [show Tryz.prog.cellsOf 114 = 4 from by kernel_rfl] at hsz
  obtain ⟨l⟩ := cs
  have hl : l.length = 4 := by simpa using hsz
  obtain ⟨fuel, hf⟩ := h
  obtain ⟨xs, n, rfl, _, _, hxl, hg⟩ := DataW.trod_struct Tryz.underlying114 hf
  match xs, hxl with
  | [y0, y1, y2, y3], _ =>
  have g0 := hg 0 _ rfl
  have g1 := hg 1 _ rfl
  have g2 := hg 2 _ rfl
  have g3 := hg 3 _ rfl
  obtain ⟨x0, f0, _, w0⟩ := DataW.trod_int Tryz.underlying3 g0
  obtain ⟨x1, f1, _, w1⟩ := DataW.trod_int Tryz.underlying3 g1
  obtain ⟨a2, n2, c2, l2, f2, w2⟩ := open_by g2
  obtain ⟨a3, n3, c3, l3, f3, w3⟩ := open_is g3
  have r0 : l[0]? = some (.int .i64 x0) := chunkL f0
  have r1 : l[1]? = some (.int .i64 x1) := chunkL f1
  have r2 : l[2]? = some (.slice a2 n2 c2) := chunkL f2
  have r3 : l[3]? = some (.slice a3 n3 c3) := chunkL f3
  refine ⟨x0, x1, a2, n2, c2, l2, a3, n3, c3, l3, ?_, w2, w3⟩
  congr 2
  apply List.ext_getElem?
  intro i
  rcases i with _ | _ | _ | _ | i
  · exact r0
  · exact r1
  · exact r2
  · exact r3
  · rw [List.getElem?_eq_none (by omega), List.getElem?_eq_none (by simp)]
end
set_option maxRecDepth 100000 in
set_option maxHeartbeats 2000000 in
/-- ints, whose copy may be appended to -/
theorem ints_own (a : Option Addr) (n c : Nat) (li : List Int) (w : World) (hi : Is w (.slice a n c) li) (hnil : a = none → c = 0) (hnc : n ≤ c) (hsz : n ≤ 1000000) :
    Calls Tryz.prog 23 #[.slice a n c] w fun e w' => ∃ v', e = .returned v' ∧ w'.ownsRow w.heap.size 3 1 v' n (i64z li) ∧ Below w.heap.size w w' := by
  obtain ⟨w1, hw1⟩ : ∃ y, y = w.alloc (.cells #[] 3) := ⟨_, rfl⟩
  have hb1 : Below w.heap.size w w1 := by rw [hw1]; exact (Below.refl _ _).alloc (Nat.le_refl _) _
  have hg1 : w1.heap[w.heap.size]? = some (.cells #[] 3 (0, 0)) := by rw [hw1]; exact heap_new _ _
  have HI1 := hid (hi.belowP hb1)
  have HB1 := hid hb1
  have HG1 := hid hg1
  have HW1 := hid hw1
  clear hi hb1 hg1 hw1
  go_enter Tryz.func23, Tryz.ntmps23
  go_wp2_with (
    (have h0 := HW1.out)
    (rw [← HW1.out])
    (refine wpList_appendZ (by rfl) (.tmp 3) (.tmp 4) (by rfl) w.heap.size _ 0 [] (by rfl) (ownsZ_new HG1.out) (by omega) a n c li (by rfl) HI1.out hnil hnc (by omega) (Nat.le_of_lt (lt_of_heap HG1.out)) ?_)
    (intro v' w' how hk))
  go_ret
  exact ⟨v', rfl, by simpa using how, HB1.out.trans hk⟩
def natsI (L : List Nat) : List Int := L.map Int.ofNat
theorem natsI_wf (L : List Nat) (h : ∀ n ∈ L, n < 1000000) : ∀ x ∈ natsI L, (Lit.int .i64 x).wf = true := wfN L h
theorem natsI_length (L : List Nat) : (natsI L).length = L.length := by simp [natsI]
theorem natsI_getD (L : List Nat) (i : Nat) : (natsI L).getD i 0 = ((L.getD i 0 : Nat) : Int) := by
  unfold natsI
  rw [List.getD_eq_getElem?_getD, List.getElem?_map, List.getD_eq_getElem?_getD]
  cases L[i]? <;> rfl
theorem natsI_snoc (L : List Nat) (x : Nat) : natsI L ++ [(x : Int)] = natsI (L ++ [x]) := by
  unfold natsI
  rw [List.map_append]
  rfl
theorem natsI_one (x : Nat) (h : x < 1000000) : ∀ y ∈ [(x : Int)], (Lit.int .i64 y).wf = true := wfN [x] (fun y hy => by
  simp only [List.mem_cons, List.not_mem_nil, or_false] at hy
  omega)
theorem run_conv_op {P : Program} {ev : Operand → Value} {o : Oper} {s t : TypeId} {x : Operand} {w : World} {v xv : Value} (h : (convert s t xv).run P w = .ok v w) (ho : o.op = .convert s t x := by rfl) (hx : ev x = xv := by rfl) :
    (execOp ev o).run P w = .ok (.value v) w := by
  unfold execOp
  simp only [ho, hx, Sem.run_bind, Sem.run_pure, Result.andThen_ok, h]
/-- the numbers that are left, and those that were chosen -/
structure LfO (B : Nat) (w : World) (v : Value) (t q : Nat) (L O : List Nat) : Prop where
  is : ∃ a c, v = .slice a L.length c ∧ Is w (.slice a L.length c) (natsI L) ∧ L.length ≤ c ∧ (a = none → c = 0) ∧ ∀ ad, a = some ad → B ≤ ad.block ∧ ad.block < w.heap.size
  perm : (O ++ L).Perm (List.range t)
  len : O.length = q
theorem LfO.count {B : Nat} {w : World} {v : Value} {t q : Nat} {L O : List Nat} (h : LfO B w v t q L O) : q + L.length = t := by
  have h1 := h.perm.length_eq
  rw [List.length_append, List.length_range, h.len] at h1
  exact h1
theorem LfO.nodup {B : Nat} {w : World} {v : Value} {t q : Nat} {L O : List Nat} (h : LfO B w v t q L O) : (O ++ L).Nodup := h.perm.nodup_iff.2 List.nodup_range
theorem LfO.lt {B : Nat} {w : World} {v : Value} {t q : Nat} {L O : List Nat} (h : LfO B w v t q L O) : ∀ x ∈ O ++ L, x < t := fun x hx => List.mem_range.1 (h.perm.mem_iff.1 hx)
theorem LfO.fresh {B : Nat} {w : World} {v : Value} {t q : Nat} {L O : List Nat} (h : LfO B w v t q L O) (j : Nat) (hj : j < L.length) : L.getD j 0 ∉ O ∧ L.getD j 0 < t := by
  have hm : L.getD j 0 ∈ L := by
    rw [List.getD_eq_getElem?_getD, List.getElem?_eq_getElem hj]
    exact List.getElem_mem hj
  exact ⟨fun h1 => (List.nodup_append.1 h.nodup).2.2 _ h1 _ hm rfl, h.lt _ (List.mem_append_right _ hm)⟩
theorem LfO.chosen {B : Nat} {w : World} {v : Value} {t q : Nat} {L O : List Nat} (h : LfO B w v t q L O) : Chosen q t O := ⟨h.len, (List.nodup_append.1 h.nodup).1, fun x hx => h.lt x (List.mem_append_left _ hx)⟩
theorem LfO.next {B : Nat} {w w' : World} {v v' : Value} {t q : Nat} {L O : List Nat} (h : LfO B w v t q L O) (j : Nat) (hj : j < L.length)
    (hv : ∃ a c, v' = .slice a (j + (L.length - (j + 1))) c ∧ Is w' (.slice a (j + (L.length - (j + 1))) c) ((natsI L).take j ++ (natsI L).drop (j + 1)) ∧ j + (L.length - (j + 1)) ≤ c ∧ (a = none → c = 0) ∧ ∀ ad, a = some ad → B ≤ ad.block ∧ ad.block < w'.heap.size) :
    LfO B w' v' t (q + 1) (L.take j ++ L.drop (j + 1)) (O ++ [L.getD j 0]) := by
  have hl : (L.take j ++ L.drop (j + 1)).length = j + (L.length - (j + 1)) := by rw [List.length_append, List.length_take, List.length_drop]; omega
  have hn : natsI (L.take j ++ L.drop (j + 1)) = (natsI L).take j ++ (natsI L).drop (j + 1) := by simp [natsI, List.map_take, List.map_drop]
  refine ⟨?_, (perm_step O L j hj).trans h.perm, by simp [h.len]⟩
  rw [hl, hn]
  exact hv
end Go.Proofs.YtjgiiciniplbnaaGreatDoor
