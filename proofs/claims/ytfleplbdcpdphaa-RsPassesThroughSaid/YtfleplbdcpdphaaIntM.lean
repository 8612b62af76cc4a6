/-
  Polynomials by their coefficients: the product of all (x - p), its quotients, and the polynomial through points.
-/
import Derived.Test.YtfleplbdcpdphaaPoly
import Derived.Test.YtfleplbdcpdphaaEval
namespace Go.Proofs.Ytfleplbdcpdphaa
open Go Go.RowKit Gf
set_option linter.unusedVariables false

/-- a polynomial times x - r -/
def ml (f : Nat → Nat) (r : Nat) : Nat → Nat | 0 => tm (f 0) r | j + 1 => f j ^^^ tm (f (j + 1)) r
def one0 : Nat → Nat | 0 => 1 | _ + 1 => 0
/-- the product of x - p for the first k places -/
def VF (l : List Nat) : Nat → Nat → Nat | 0 => one0 | k + 1 => ml (VF l k) (l.getD k 0)
/-- the same without place i -/
def VS (l : List Nat) (i : Nat) : Nat → Nat → Nat | 0 => one0 | k + 1 => if i ≠ k then ml (VS l i k) (l.getD k 0) else VS l i k
theorem ml_lt {f : Nat → Nat} (hf : ∀ j, f j < 256) (r : Nat) : ∀ j, ml f r j < 256
  | 0 => tm_lt _ _ (hf 0)
  | j + 1 => xor_lt (hf j) (tm_lt _ _ (hf _))
theorem one0_lt : ∀ j, one0 j < 256
  | 0 => by show 1 < 256; omega
  | j + 1 => by show 0 < 256; omega
theorem VF_lt (l : List Nat) : ∀ k j, VF l k j < 256
  | 0 => one0_lt
  | k + 1 => ml_lt (VF_lt l k) _
theorem VS_lt (l : List Nat) (i : Nat) : ∀ k j, VS l i k j < 256
  | 0 => one0_lt
  | k + 1 => fun j => by
    unfold VS
    split
    · exact ml_lt (VS_lt l i k) _ j
    · exact VS_lt l i k j
theorem ml_comm {f : Nat → Nat} (hf : ∀ j, f j < 256) (a b : Nat) (ha : a < 256) (hb : b < 256) : ml (ml f a) b = ml (ml f b) a := by
  have h2 : ∀ j, tm (tm (f j) a) b = tm (tm (f j) b) a := fun j => by
    rw [tm_assoc _ _ _ (hf j) ha hb, tm_comm a b ha hb, ← tm_assoc _ _ _ (hf j) hb ha]
  funext j
  match j with
  | 0 => exact h2 0
  | 1 =>
    show tm (f 0) a ^^^ tm (f 0 ^^^ tm (f 1) a) b = tm (f 0) b ^^^ tm (f 0 ^^^ tm (f 1) b) a
    rw [tm_xor_left _ _ _ (hf 0) (tm_lt _ _ (hf 1)), tm_xor_left _ _ _ (hf 0) (tm_lt _ _ (hf 1)), h2 1]
    ac_rfl
  | j + 2 =>
    show (f j ^^^ tm (f (j + 1)) a) ^^^ tm (f (j + 1) ^^^ tm (f (j + 2)) a) b = (f j ^^^ tm (f (j + 1)) b) ^^^ tm (f (j + 1) ^^^ tm (f (j + 2)) b) a
    rw [tm_xor_left _ _ _ (hf _) (tm_lt _ _ (hf _)), tm_xor_left _ _ _ (hf _) (tm_lt _ _ (hf _)), h2 (j + 2)]
    ac_rfl
theorem VS_ge (l : List Nat) (i : Nat) : ∀ k, k ≤ i → VS l i k = VF l k
  | 0, _ => rfl
  | k + 1, h => by
    unfold VS VF
    rw [if_pos (by omega), VS_ge l i k (by omega)]
theorem VF_split (l : List Nat) (hl : ∀ i, l.getD i 0 < 256) (i : Nat) : ∀ k, i < k → VF l k = ml (VS l i k) (l.getD i 0)
  | 0, h => absurd h (Nat.not_lt_zero i)
  | k + 1, h => by
    unfold VS VF
    by_cases e : i = k
    · subst e
      rw [if_neg (by simp), VS_ge l i i (Nat.le_refl _)]
    · rw [if_pos e, VF_split l hl i k (by omega), ml_comm (VS_lt l i k) _ _ (hl i) (hl k)]
theorem ml_high {f : Nat → Nat} {n : Nat} (h : ∀ j, n ≤ j → f j = 0) (r : Nat) : ∀ j, n + 1 ≤ j → ml f r j = 0
  | 0, hj => by omega
  | j + 1, hj => by
    show f j ^^^ tm (f (j + 1)) r = 0
    rw [h j (by omega), h (j + 1) (by omega), tm_zero_left]; rfl
theorem VF_high (l : List Nat) : ∀ k j, k + 1 ≤ j → VF l k j = 0
  | 0, j, hj => by cases j with | zero => omega | succ j => rfl
  | k + 1, j, hj => ml_high (VF_high l k) _ j hj
theorem VS_high (l : List Nat) (i : Nat) : ∀ k j, (if i < k then k else k + 1) ≤ j → VS l i k j = 0
  | 0, j, hj => by cases j with | zero => simp at hj | succ j => rfl
  | k + 1, j, hj => by
    unfold VS
    by_cases e : i = k
    · subst e
      rw [if_neg (by simp)]
      rw [if_pos (by omega)] at hj
      exact VS_high l i i j (by rw [if_neg (by omega)]; exact hj)
    · rw [if_pos e]
      by_cases h : i < k
      · rw [if_pos (by omega)] at hj
        exact ml_high (fun j hj => VS_high l i k j (by rw [if_pos h]; exact hj)) _ j hj
      · rw [if_neg (by omega)] at hj
        exact ml_high (fun j hj => VS_high l i k j (by rw [if_neg h]; exact hj)) _ j hj
/-- division by x - r from the top -/
def quo (p : Nat → Nat) (r n : Nat) : Nat → Nat | 0 => 0 | m + 1 => p (n - m) ^^^ tm (quo p r n m) r
theorem quo_ml {f : Nat → Nat} (hf : ∀ j, f j < 256) (r n : Nat) (hn : f n = 0) : ∀ m, m ≤ n → quo (ml f r) r n m = f (n - m)
  | 0, _ => hn.symm
  | m + 1, h => by
    unfold quo
    rw [quo_ml hf r n hn m (by omega)]
    have e : n - m = (n - (m + 1)) + 1 := by omega
    rw [e]
    show (f (n - (m + 1)) ^^^ tm (f (n - (m + 1) + 1)) r) ^^^ tm (f (n - (m + 1) + 1)) r = _
    rw [Nat.xor_assoc, Nat.xor_self, Nat.xor_zero]
theorem quo_VF (l : List Nat) (hl : ∀ i, l.getD i 0 < 256) (i : Nat) (hi : i < l.length) (m : Nat) (hm : m ≤ l.length) : quo (VF l l.length) (l.getD i 0) l.length m = VS l i l.length (l.length - m) := by
  rw [VF_split l hl i _ hi]
  exact quo_ml (VS_lt l i _) _ _ (VS_high l i _ _ (by rw [if_pos hi]; exact Nat.le_refl _)) m hm
/-- the value at x of the first n coefficients -/
def fv (f : Nat → Nat) (n x : Nat) : Nat := sx (fun j => tm (f j) (pw x j)) n
theorem fv_lt {f : Nat → Nat} (hf : ∀ j, f j < 256) (n x : Nat) : fv f n x < 256 := sx_lt _ (fun j => tm_lt _ _ (hf j)) n
theorem fv_ml {f : Nat → Nat} (hf : ∀ j, f j < 256) (r x : Nat) (hr : r < 256) (hx : x < 256) : ∀ n, fv (ml f r) (n + 1) x = tm (fv f n x) (x ^^^ r) ^^^ tm (tm (f n) r) (pw x n)
  | 0 => by
    show 0 ^^^ tm (tm (f 0) r) 1 = tm 0 (x ^^^ r) ^^^ tm (tm (f 0) r) 1
    rw [tm_zero_left]
  | n + 1 => by
    show fv (ml f r) (n + 1) x ^^^ tm (f n ^^^ tm (f (n + 1)) r) (tm (pw x n) x) = tm (fv f n x ^^^ tm (f n) (pw x n)) (x ^^^ r) ^^^ tm (tm (f (n + 1)) r) (tm (pw x n) x)
    have hp := pw_lt x hx n
    have h1 := hf n
    rw [fv_ml hf r x hr hx n, tm_xor_left _ _ _ (hf n) (tm_lt _ _ (hf _)), tm_xor_left _ _ _ (fv_lt hf n x) (tm_lt _ _ h1), tm_xor_right (tm (f n) (pw x n)) x r (tm_lt _ _ h1) hx hr]
    have e1 : tm (tm (f n) r) (pw x n) = tm (tm (f n) (pw x n)) r := by
      rw [tm_assoc _ _ _ h1 hr hp, tm_comm r _ hr hp, ← tm_assoc _ _ _ h1 hp hr]
    have e2 : tm (f n) (tm (pw x n) x) = tm (tm (f n) (pw x n)) x := (tm_assoc _ _ _ h1 hp hx).symm
    rw [e1, e2]
    generalize tm (fv f n x) (x ^^^ r) = A
    generalize tm (tm (f n) (pw x n)) r = B
    generalize tm (tm (f n) (pw x n)) x = C
    generalize tm (tm (f (n + 1)) r) (tm (pw x n) x) = D
    rw [show A ^^^ B ^^^ (C ^^^ D) = A ^^^ (C ^^^ B) ^^^ D from by ac_rfl]
theorem fv_VS (l : List Nat) (hl : ∀ i, l.getD i 0 < 256) (i x : Nat) (hx : x < 256) : ∀ k, fv (VS l i k) (if i < k then k else k + 1) x = pnX l x i k
  | 0 => by
    show 0 ^^^ tm 1 1 = 1
    rw [tm_one _ (by omega)]
    rfl
  | k + 1 => by
    have ih := fv_VS l hl i x hx k
    by_cases e : i = k
    · subst e
      rw [if_neg (Nat.lt_irrefl i)] at ih
      rw [if_pos (by omega), pnX_succ, if_neg (by simp), ← ih]
      have e3 : VS l i (i + 1) = VS l i i := by
        show (if i ≠ i then ml (VS l i i) (l.getD i 0) else VS l i i) = _
        rw [if_neg (by simp)]
      rw [e3]
    · have hh := VS_high l i k
      rw [pnX_succ, if_pos e, ← ih]
      have e2 : (if i < k + 1 then k + 1 else k + 1 + 1) = (if i < k then k else k + 1) + 1 := by
        by_cases h3 : i < k
        · rw [if_pos h3, if_pos (by omega)]
        · rw [if_neg h3, if_neg (by omega)]
      rw [e2]
      have e3 : VS l i (k + 1) = ml (VS l i k) (l.getD k 0) := by
        show (if i ≠ k then ml (VS l i k) (l.getD k 0) else VS l i k) = _
        rw [if_pos e]
      rw [e3, fv_ml (VS_lt l i k) _ x (hl k) hx, hh _ (Nat.le_refl _), tm_zero_left, tm_zero_left, Nat.xor_zero]
/-- the coefficients of the polynomial through the values y at the places l -/
def ipC (l : List Nat) (y : Nat → Nat) (j : Nat) : Nat := sx (fun i => tm (tm (y i) (scale l i)) (VS l i l.length j)) l.length
theorem ipC_lt (l : List Nat) (y : Nat → Nat) (hy : ∀ i, y i < 256) (j : Nat) : ipC l y j < 256 := sx_lt _ (fun i => tm_lt _ _ (tm_lt _ _ (hy i))) _
theorem fv_sum (F : Nat → Nat → Nat) (hF : ∀ i j, F i j < 256) (c : Nat → Nat) (hc : ∀ i, c i < 256) (n x m : Nat) (hx : x < 256) : fv (fun j => sx (fun i => tm (c i) (F i j)) m) n x = sx (fun i => tm (c i) (fv (F i) n x)) m := by
  induction m with
  | zero =>
    show sx (fun j => tm 0 (pw x j)) n = 0
    induction n with
    | zero => rfl
    | succ n ih => show sx (fun j => tm 0 (pw x j)) n ^^^ tm 0 (pw x n) = 0; rw [ih, tm_zero_left]; rfl
  | succ m ih =>
    show fv (fun j => sx (fun i => tm (c i) (F i j)) m ^^^ tm (c m) (F m j)) n x = sx (fun i => tm (c i) (fv (F i) n x)) m ^^^ tm (c m) (fv (F m) n x)
    rw [← ih]
    unfold fv
    clear ih
    induction n with
    | zero => show 0 = 0 ^^^ tm (c m) 0; rw [tm_zero_right]; rfl
    | succ n ihn =>
      have h1 : sx (fun i => tm (c i) (F i n)) m < 256 := sx_lt _ (fun i => tm_lt _ _ (hc i)) m
      show sx _ n ^^^ tm (sx (fun i => tm (c i) (F i n)) m ^^^ tm (c m) (F m n)) (pw x n) = (sx _ n ^^^ tm (sx (fun i => tm (c i) (F i n)) m) (pw x n)) ^^^ tm (c m) (sx _ n ^^^ tm (F m n) (pw x n))
      rw [ihn, tm_xor_left _ _ _ h1 (tm_lt _ _ (hc m)), tm_xor_right (c m) _ _ (hc m) (sx_lt _ (fun j => tm_lt _ _ (hF m j)) n) (tm_lt _ _ (hF m n)), tm_assoc _ _ _ (hc m) (hF m n) (pw_lt x hx n)]
      ac_rfl
theorem ipC_value (l : List Nat) (hl : ∀ i, l.getD i 0 < 256) (hd : l.Nodup) (y : Nat → Nat) (hy : ∀ i, y i < 256) (x : Nat) (hx : x < 256) : fv (ipC l y) l.length x = through l y x := by
  unfold ipC
  rw [fv_sum (fun i j => VS l i l.length j) (fun i j => VS_lt l i _ j) (fun i => tm (y i) (scale l i)) (fun i => tm_lt _ _ (hy i)) l.length x l.length hx]
  unfold through
  refine sx_congr _ fun i hi => ?_
  have h5 := fv_VS l hl i x hx l.length
  rw [if_pos hi] at h5
  rw [h5, wts_bas l hl hd x hx i hi]
  unfold bas
  have hp := pnX_lt l x i l.length
  have hs := scale_lt l i
  rw [tm_assoc _ _ _ (hy i) hs hp, tm_comm (scale l i) _ hs hp, tm_comm _ _ (hy i) (tm_lt _ _ hp)]
end Go.Proofs.Ytfleplbdcpdphaa
