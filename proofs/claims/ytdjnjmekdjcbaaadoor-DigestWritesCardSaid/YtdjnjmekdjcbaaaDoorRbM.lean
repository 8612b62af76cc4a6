/-
  What calls of a Writer write, and a Reader reads of it.
-/
import Derived.Test.YtdjnjmekdjcbaaaDoorRdK
namespace Go.Proofs.YtdjnjmekdjcbaaaDoor
open Go Go.RowKit
set_option linter.unusedVariables false

theorem beV_beL (x n : Nat) : ∀ i, i ≤ n → beV (beL x n) i = x / 2 ^ (8 * (n - i)) % 256 ^ i
  | 0, _ => by show 0 = _; rw [Nat.pow_zero, Nat.mod_one]
  | i + 1, hi => by
    have ih := beV_beL x n i (by omega)
    have hg : (beL x n).getD i 0 = x / 2 ^ (8 * (n - 1 - i)) % 256 := by
      unfold beL
      rw [List.getD_eq_getElem?_getD, List.getElem?_map, List.getElem?_range (by omega)]
      rfl
    show beV (beL x n) i * 256 + (beL x n).getD i 0 = _
    rw [ih, hg]
    have e1 : 8 * (n - i) = 8 * (n - 1 - i) + 8 := by omega
    have e2 : n - (i + 1) = n - 1 - i := by omega
    rw [e2, e1, Nat.pow_add, ← Nat.div_div_eq_div_mul]
    generalize x / 2 ^ (8 * (n - 1 - i)) = y
    rw [show (256 : Nat) ^ (i + 1) = 256 * 256 ^ i from by rw [Nat.pow_succ, Nat.mul_comm], Nat.mod_mul, show (2 : Nat) ^ 8 = 256 from by decide]
    generalize y / 256 % 256 ^ i = z
    omega
theorem beV_app (p r : List Nat) : ∀ i, i ≤ p.length → beV (p ++ r) i = beV p i
  | 0, _ => rfl
  | i + 1, hi => by
    show beV (p ++ r) i * 256 + (p ++ r).getD i 0 = beV p i * 256 + p.getD i 0
    rw [beV_app p r i (by omega), List.getD_eq_getElem?_getD, List.getElem?_append_left (by omega), ← List.getD_eq_getElem?_getD]
theorem rtake_app (p r : List Nat) (n : Int) (hn : n = (p.length : Int)) : rtake (p ++ r) 0 n = (p, r, 0) := by
  subst hn
  unfold rtake
  rw [if_neg (by simp), if_neg (by omega), if_neg (by rw [List.length_append]; omega), Int.toNat_natCast, List.take_left, List.drop_left]
theorem rnum_beL (x n : Nat) (r : List Nat) (N : Int) (hN : N = (n : Int)) (hx : x < 256 ^ n) : rnum (beL x n ++ r) 0 N = x := by
  unfold rnum
  rw [rtake_app (beL x n) r N (by rw [beL_length]; exact hN)]
  simp only
  rw [beL_length, beV_beL x n n (Nat.le_refl _), Nat.sub_self, Nat.mul_zero, Nat.pow_zero, Nat.div_one, Nat.mod_eq_of_lt hx]

/-- the bytes of one call -/
def opB (k : Int) (x : Nat) (bs : List Nat) : List Nat :=
  if k = 1 then beL (x % 256) 1 else if k = 2 then beL (x % 65536) 2 else if k = 3 then beL (x % 4294967296) 4 else if k = 4 then beL x 8 else if k = 5 then bs else if k = 6 then beL bs.length 2 ++ bs else []
def outv (k : Int) (x : Nat) : Nat := if k = 1 then x % 256 else if k = 2 then x % 65536 else if k = 3 then x % 4294967296 else if k = 4 then x else 0
def outb (k : Int) (bs : List Nat) : List Nat := if k = 5 then bs else if k = 6 then bs else []
theorem opB_len (k : Int) (x : Nat) (bs : List Nat) : (opB k x bs).length ≤ bs.length + 8 := by
  unfold opB
  split
  · rw [beL_length]; omega
  · split
    · rw [beL_length]; omega
    · split
      · rw [beL_length]; omega
      · split
        · rw [beL_length]; omega
        · split
          · omega
          · split
            · rw [List.length_append, beL_length]; omega
            · simp
theorem wop_ok (lim : Nat) (l : List Nat) (k : Int) (x : Nat) (bs : List Nat) (h : l.length + (opB k x bs).length ≤ lim) (h6 : k = 6 → bs.length ≤ 65535) : wop lim l false k x bs = (l ++ opB k x bs, false) := by
  by_cases h1 : k = 1
  · subst h1; exact wadd_fits _ _ _ h
  by_cases h2 : k = 2
  · subst h2; exact wadd_fits _ _ _ h
  by_cases h3 : k = 3
  · subst h3; exact wadd_fits _ _ _ h
  by_cases h4 : k = 4
  · subst h4; exact wadd_fits _ _ _ h
  by_cases h5 : k = 5
  · subst h5; exact wadd_fits _ _ _ h
  by_cases h7 : k = 6
  · subst h7
    have hb := h6 rfl
    show wtext lim l false bs = _
    unfold wtext
    rw [decide_eq_false (by omega), Bool.or_false]
    exact wadd_fits _ _ _ h
  unfold wop opB
  simp only [h1, h2, h3, h4, h5, h7, if_false, List.append_nil]
theorem rop_ok (k : Int) (x : Nat) (bs r : List Nat) (nn : Int) (hx : x < 18446744073709551616) (h6 : k = 6 → bs.length ≤ 65535) (hn : nn = (bs.length : Int)) : rop (opB k x bs ++ r) 0 k nn = (outv k x, outb k bs, r, 0) := by
  by_cases h1 : k = 1
  · subst h1
    show (rnum (beL (x % 256) 1 ++ r) 0 1, [], (rtake (beL (x % 256) 1 ++ r) 0 1).2) = _
    rw [rnum_beL _ 1 r 1 rfl (by omega), rtake_app _ r 1 (by rw [beL_length]; rfl)]
    rfl
  by_cases h2 : k = 2
  · subst h2
    show (rnum (beL (x % 65536) 2 ++ r) 0 2, [], (rtake (beL (x % 65536) 2 ++ r) 0 2).2) = _
    rw [rnum_beL _ 2 r 2 rfl (by omega), rtake_app _ r 2 (by rw [beL_length]; rfl)]
    rfl
  by_cases h3 : k = 3
  · subst h3
    show (rnum (beL (x % 4294967296) 4 ++ r) 0 4, [], (rtake (beL (x % 4294967296) 4 ++ r) 0 4).2) = _
    rw [rnum_beL _ 4 r 4 rfl (by omega), rtake_app _ r 4 (by rw [beL_length]; rfl)]
    rfl
  by_cases h4 : k = 4
  · subst h4
    show (rnum (beL x 8 ++ r) 0 8, [], (rtake (beL x 8 ++ r) 0 8).2) = _
    rw [rnum_beL _ 8 r 8 rfl (by omega), rtake_app _ r 8 (by rw [beL_length]; rfl)]
    rfl
  by_cases h5 : k = 5
  · subst h5
    show (0, rtake (bs ++ r) 0 nn) = _
    rw [rtake_app _ r nn hn]
    rfl
  by_cases h7 : k = 6
  · subst h7
    have hb := h6 rfl
    show (0, rtext ((beL bs.length 2 ++ bs) ++ r) 0) = _
    rw [List.append_assoc]
    have e1 := rtake_app (beL bs.length 2) (bs ++ r) 2 (by rw [beL_length]; rfl)
    have e2 := rnum_beL bs.length 2 (bs ++ r) 2 rfl (by omega)
    have e3 := rtake_app bs r (bs.length : Int) rfl
    unfold rtext
    simp only [e1, e2, e3]
    rfl
  unfold rop opB outv outb
  simp only [h1, h2, h3, h4, h5, h7, if_false, List.nil_append]

def opBV (q : OpV) : List Nat := opB q.1 q.2.1 q.2.2.2.2.2.2
def opN (q : OpV) : Nat := q.2.2.2.2.1
/-- what the first i calls write; what the calls from i on write; how many bytes the first i calls bring -/
def enc (os : List OpV) (i : Nat) : List Nat := (os.take i).flatMap opBV
def decO (os : List OpV) (i : Nat) : List Nat := (os.drop i).flatMap opBV
def tot (os : List OpV) (i : Nat) : Nat := ((os.take i).map opN).sum
theorem enc_succ (os : List OpV) (i : Nat) (h : i < os.length) : enc os (i + 1) = enc os i ++ opBV os[i] := by
  unfold enc
  rw [List.take_succ_eq_append_getElem h, List.flatMap_append]
  simp
theorem decO_succ (os : List OpV) (i : Nat) (h : i < os.length) : decO os i = opBV os[i] ++ decO os (i + 1) := by
  unfold decO
  rw [List.drop_eq_getElem_cons h, List.flatMap_cons]
theorem enc_all (os : List OpV) : enc os os.length = decO os 0 := by unfold enc decO; rw [List.take_length, List.drop_zero]
theorem decO_end (os : List OpV) : decO os os.length = [] := by unfold decO; rw [List.drop_length]; rfl
theorem tot_succ (os : List OpV) (i : Nat) (h : i < os.length) : tot os (i + 1) = tot os i + opN os[i] := by
  unfold tot
  rw [List.take_succ_eq_append_getElem h, List.map_append, List.sum_append]
  simp
theorem tot_le (os : List OpV) (i : Nat) (hi : i ≤ os.length) (h : ∀ j, (hj : j < os.length) → j < i → opN os[j] ≤ 70000) : tot os i ≤ 70000 * i := by
  induction i with
  | zero => simp [tot]
  | succ i ih =>
    rw [tot_succ os i (by omega)]
    have h1 := h i (by omega) (by omega)
    have h2 := ih (by omega) (fun j hj hji => h j hj (by omega))
    omega
theorem tot_mono (os : List OpV) (i : Nat) (hi : i ≤ os.length) : tot os i ≤ tot os os.length := by
  unfold tot
  rw [List.take_length]
  conv => rhs; rw [← List.take_append_drop i os]
  rw [List.map_append, List.sum_append]
  omega
theorem enc_len (os : List OpV) (hn : ∀ j, (hj : j < os.length) → (os[j].2.2.2.2.2.2).length = opN os[j]) : ∀ i, i ≤ os.length → (enc os i).length ≤ tot os i + 8 * i
  | 0, _ => by simp [enc]
  | i + 1, hi => by
    have ih := enc_len os hn i (by omega)
    have h1 := opB_len os[i].1 os[i].2.1 os[i].2.2.2.2.2.2
    have h2 := hn i (by omega)
    rw [enc_succ os i (by omega), tot_succ os i (by omega), List.length_append]
    unfold opBV
    omega
end Go.Proofs.YtdjnjmekdjcbaaaDoor
