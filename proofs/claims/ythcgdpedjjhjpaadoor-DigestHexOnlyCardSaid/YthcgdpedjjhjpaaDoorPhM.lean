/-
  ParseHex on numbers: the value of a digit, the digest so far.
-/
import Derived.Test.YthcgdpedjjhjpaaDoorHex
import Derived.Lib.Bytealg
namespace Go.Proofs.YthcgdpedjjhjpaaDoor
open Go Go.RowKit
set_option linter.unusedVariables false

/-- the value of a digit, 16 for any other letter -/
def hv (x : Nat) : Nat := if 48 ≤ x ∧ x ≤ 57 then x - 48 else if 97 ≤ x ∧ x ≤ 102 then x - 87 else 16
def hvI (x : Nat) : Int := if hv x < 16 then (hv x : Int) else -1
theorem hv_index (x : Nat) (hx : x < 256) : Lib.indexByte (⟨#[48, 49, 50, 51, 52, 53, 54, 55, 56, 57, 97, 98, 99, 100, 101, 102]⟩ : ByteArray).data.toList ((x : Int)).toNat.toUInt8 = hvI x := by
  have h : ∀ q : Fin 256, Lib.indexByte (⟨#[48, 49, 50, 51, 52, 53, 54, 55, 56, 57, 97, 98, 99, 100, 101, 102]⟩ : ByteArray).data.toList ((q.val : Int)).toNat.toUInt8 = hvI q.val := by decide +kernel
  exact h ⟨x, hx⟩
theorem hexD_hv (x : Nat) (h : hv x < 16) : hexD.getD (hv x) 0 = x := by
  have hx : x < 256 := by
    unfold hv at h
    split at h
    · omega
    · split at h
      · omega
      · omega
  have h1 : ∀ q : Fin 256, hv q.val < 16 → hexD.getD (hv q.val) 0 = q.val := by decide +kernel
  exact h1 ⟨x, hx⟩ h
theorem hv_hexD (k : Nat) (h : k < 16) : hv (hexD.getD k 0) = k := by
  have h1 : ∀ q : Fin 16, hv (hexD.getD q.val 0) = q.val := by decide +kernel
  exact h1 ⟨k, h⟩
/-- byte j of the digest when i digits have been read -/
def pd (s : List Nat) (i j : Nat) : Nat := if 2 * j + 2 ≤ i then hv (s.getD (2 * j) 0) * 16 + hv (s.getD (2 * j + 1) 0) else if 2 * j + 1 ≤ i then hv (s.getD (2 * j) 0) else 0
def pdL (s : List Nat) (i : Nat) : List Nat := (List.range 32).map (pd s i)
theorem pdL_length (s : List Nat) (i : Nat) : (pdL s i).length = 32 := by simp [pdL]
theorem pdL_getD (s : List Nat) (i j : Nat) (hj : j < 32) : (pdL s i).getD j 0 = pd s i j := by
  unfold pdL
  rw [List.getD_eq_getElem?_getD, List.getElem?_map, List.getElem?_range hj]
  rfl
theorem pdL_zero (s : List Nat) : pdL s 0 = List.replicate 32 0 := by
  unfold pdL
  apply List.ext_getElem
  · simp
  · intro t h1 h2
    rw [List.getElem_map, List.getElem_replicate]
    unfold pd
    rw [if_neg (by omega), if_neg (by omega)]
theorem pd_lt (s : List Nat) (i j : Nat) (h : ∀ t, t < i → hv (s.getD t 0) < 16) : pd s i j < 256 := by
  unfold pd
  split
  · have h1 := h (2 * j) (by omega)
    have h2 := h (2 * j + 1) (by omega)
    omega
  · split
    · have h1 := h (2 * j) (by omega)
      omega
    · omega
/-- one digit more -/
theorem pdL_step (s : List Nat) (i : Nat) (hi : i < 64) : (pdL s i).set (i / 2) (if i % 2 = 0 then hv (s.getD i 0) else pd s i (i / 2) * 16 + hv (s.getD i 0)) = pdL s (i + 1) := by
  unfold pdL
  apply List.ext_getElem
  · simp
  · intro t h1 h2
    rw [List.getElem_set]
    simp only [List.length_set, List.length_map, List.length_range] at h1
    by_cases e : i / 2 = t
    · rw [if_pos e]
      simp only [List.getElem_map, List.getElem_range]
      unfold pd
      by_cases h : i % 2 = 0
      · rw [if_pos h, if_neg (by omega), if_pos (by omega), show 2 * t = i from by omega]
      · rw [if_neg h, if_neg (by omega), if_pos (by omega), if_pos (by omega), show i / 2 = t from e, show 2 * t + 1 = i from by omega]
    · rw [if_neg e]
      simp only [List.getElem_map, List.getElem_range]
      unfold pd
      by_cases h : t < i / 2
      · rw [if_pos (by omega), if_pos (by omega)]
      · rw [if_neg (by omega), if_neg (by omega), if_neg (by omega), if_neg (by omega)]
theorem pd_even (s : List Nat) (i : Nat) (h : i % 2 = 0) : pd s i (i / 2) = 0 := by
  unfold pd
  rw [if_neg (by omega), if_neg (by omega)]
theorem pd_odd (s : List Nat) (i : Nat) (h : i % 2 = 1) : pd s i (i / 2) = hv (s.getD (i - 1) 0) := by
  unfold pd
  rw [if_neg (by omega), if_pos (by omega), show 2 * (i / 2) = i - 1 from by omega]
/-- the byte that a round writes -/
def pdX (s : List Nat) (i : Nat) : Nat := if i % 2 = 0 then hv (s.getD i 0) else pd s i (i / 2) * 16 + hv (s.getD i 0)
theorem or16 (a b : Nat) (h : b < 16) : a * 16 ||| b = a * 16 + b := by
  have h1 := Nat.shiftLeft_add_eq_or_of_lt (i := 4) (b := b) (by omega) a
  rw [Nat.shiftLeft_eq] at h1
  exact h1.symm
theorem pdX_or (s : List Nat) (i : Nat) (h : ∀ t, t < i → hv (s.getD t 0) < 16) (hv16 : hv (s.getD i 0) < 16) : (pd s i (i / 2) * 16 % 256) ||| hv (s.getD i 0) = pdX s i ∧ pdX s i < 256 := by
  unfold pdX
  by_cases e : i % 2 = 0
  · rw [if_pos e, pd_even s i e]
    refine ⟨?_, by omega⟩
    show 0 ||| _ = _
    rw [Nat.zero_or]
  · have hp := pd_odd s i (by omega)
    have h1 := h (i - 1) (by omega)
    rw [if_neg e, hp]
    generalize hv (s.getD (i - 1) 0) = a at *
    generalize hv (s.getD i 0) = b at *
    rw [show a * 16 % 256 = a * 16 from by omega, or16 a b hv16]
    exact ⟨rfl, by omega⟩
def phOk (s : List Nat) : Bool := (List.range 64).all fun t => decide (hv (s.getD t 0) < 16)
theorem phOk_iff (s : List Nat) : phOk s = true ↔ ∀ t, t < 64 → hv (s.getD t 0) < 16 := by
  unfold phOk
  simp [List.all_eq_true]
/-- what ParseHex answers: the digest, the error -/
def phR (s : List Nat) : List Nat × Int :=
  if s.length < 64 then (List.replicate 32 0, 4) else if 64 < s.length then (List.replicate 32 0, 3) else if phOk s = true then (pdL s 64, 0) else (List.replicate 32 0, 5)
theorem phR_length (s : List Nat) : (phR s).1.length = 32 := by
  unfold phR
  split
  · simp
  · split
    · simp
    · split
      · exact pdL_length _ _
      · simp
theorem phR_lt (s : List Nat) : ∀ x ∈ (phR s).1, x < 256 := by
  have h0 : ∀ x ∈ List.replicate 32 0, x < 256 := fun x hx => by rw [List.eq_of_mem_replicate hx]; decide
  unfold phR
  split
  · exact h0
  · split
    · exact h0
    · split
      · rename_i h
        intro x hx
        obtain ⟨j, _, rfl⟩ := List.mem_map.1 hx
        exact pd_lt s 64 j ((phOk_iff s).1 h)
      · exact h0
/-- the digits of a digest that was read are the string -/
theorem hexL_pd (s : List Nat) (h : ∀ t, t < 64 → hv (s.getD t 0) < 16) (hl : s.length = 64) : ∀ i, i ≤ 32 → hexL (pdL s 64) i = s.take (2 * i)
  | 0, _ => rfl
  | i + 1, hi => by
    have h1 := h (2 * i) (by omega)
    have h2 := h (2 * i + 1) (by omega)
    show hexL (pdL s 64) i ++ [_, _] = _
    rw [hexL_pd s h hl i (by omega), pdL_getD _ _ _ (by omega)]
    have e : pd s 64 i = hv (s.getD (2 * i) 0) * 16 + hv (s.getD (2 * i + 1) 0) := by unfold pd; rw [if_pos (by omega)]
    rw [e, show (hv (s.getD (2 * i) 0) * 16 + hv (s.getD (2 * i + 1) 0)) / 16 = hv (s.getD (2 * i) 0) from by omega, show (hv (s.getD (2 * i) 0) * 16 + hv (s.getD (2 * i + 1) 0)) % 16 = hv (s.getD (2 * i + 1) 0) from by omega]
    rw [hexD_hv _ h1, hexD_hv _ h2]
    apply List.ext_getElem?
    intro t
    by_cases ht : t < 2 * i
    · rw [List.getElem?_append_left (by simp; omega), List.getElem?_take_of_lt ht, List.getElem?_take_of_lt (by omega)]
    · rw [List.getElem?_append_right (by simp; omega)]
      have hlen : (s.take (2 * i)).length = 2 * i := by simp; omega
      rw [hlen]
      by_cases h3 : t = 2 * i
      · subst h3
        rw [Nat.sub_self, List.getElem?_take_of_lt (by omega), List.getElem?_eq_getElem (show 2 * i < s.length by omega)]
        simp [List.getD_eq_getElem?_getD, List.getElem?_eq_getElem (show 2 * i < s.length by omega)]
      · by_cases h4 : t = 2 * i + 1
        · subst h4
          rw [show 2 * i + 1 - 2 * i = 1 from by omega, List.getElem?_take_of_lt (by omega), List.getElem?_eq_getElem (show 2 * i + 1 < s.length by omega)]
          simp [List.getD_eq_getElem?_getD, List.getElem?_eq_getElem (show 2 * i + 1 < s.length by omega)]
        · rw [List.getElem?_eq_none (by simp; omega), List.getElem?_eq_none (by simp; omega)]
/-- what is read from the digits of a digest is the digest -/
theorem pd_hexL (d : List Nat) (hd : d.length = 32) (hl : ∀ i, d.getD i 0 < 256) : (∀ t, t < 64 → hv ((hexL d 32).getD t 0) < 16) ∧ pdL (hexL d 32) 64 = d := by
  have g : ∀ i j, j < i → (hexL d i).getD (2 * j) 0 = hexD.getD (d.getD j 0 / 16) 0 ∧ (hexL d i).getD (2 * j + 1) 0 = hexD.getD (d.getD j 0 % 16) 0 := by
    intro i
    induction i with
    | zero => intro j hj; omega
    | succ i ih =>
      intro j hj
      show (hexL d i ++ [_, _]).getD _ 0 = _ ∧ (hexL d i ++ [_, _]).getD _ 0 = _
      have hln := hexL_length d i
      by_cases e : j = i
      · subst e
        simp only [List.getD_eq_getElem?_getD]
        rw [List.getElem?_append_right (by omega), List.getElem?_append_right (by omega), hln, Nat.sub_self, show 2 * j + 1 - 2 * j = 1 from by omega]
        exact ⟨rfl, rfl⟩
      · have h1 := ih j (by omega)
        simp only [List.getD_eq_getElem?_getD] at h1 ⊢
        rw [List.getElem?_append_left (by omega), List.getElem?_append_left (by omega)]
        exact h1
  have b1 : ∀ j, j < 32 → hv ((hexL d 32).getD (2 * j) 0) = d.getD j 0 / 16 ∧ hv ((hexL d 32).getD (2 * j + 1) 0) = d.getD j 0 % 16 := fun j hj => by
    have h1 := g 32 j hj
    have h2 := hl j
    rw [h1.1, h1.2]
    exact ⟨hv_hexD _ (by omega), hv_hexD _ (by omega)⟩
  refine ⟨fun t ht => ?_, ?_⟩
  · have h2 := hl (t / 2)
    have h1 := b1 (t / 2) (by omega)
    by_cases e : t % 2 = 0
    · have e1 : t = 2 * (t / 2) := by omega
      rw [e1, h1.1]; omega
    · have e1 : t = 2 * (t / 2) + 1 := by omega
      rw [e1, h1.2]; omega
  · apply List.ext_getElem
    · rw [pdL_length, hd]
    · intro j h1 h2
      have h3 : j < 32 := by rw [pdL_length] at h1; exact h1
      have h4 := pdL_getD (hexL d 32) 64 j h3
      rw [List.getD_eq_getElem?_getD, List.getElem?_eq_getElem h1] at h4
      have h5 : (pdL (hexL d 32) 64)[j]'h1 = pd (hexL d 32) 64 j := h4
      refine h5.trans ?_
      unfold pd
      rw [if_pos (by omega), (b1 j h3).1, (b1 j h3).2]
      have h6 : d.getD j 0 = d[j] := by rw [List.getD_eq_getElem?_getD, List.getElem?_eq_getElem h2]; rfl
      rw [h6]
      omega
end Go.Proofs.YthcgdpedjjhjpaaDoor
