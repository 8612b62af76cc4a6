/-
  What learning does to the challenge and to the table's validity; for MemberRefutes.
-/
import Derived.Test.YtbdefmjjhkonjaaLawAn
import Derived.Test.YtbdefmjjhkonjaaRei
namespace Go.Proofs.Ytbdefmjjhkonjaa
open Go Go.RowKit
set_option linter.unusedVariables false

theorem lrn_dare (me : Nat) (ck : Int) (T L : List Ent) (Z : List Int) (d : Int) : ∀ k, k ≤ L.length →
    (lrn me ck T L Z d k).2.2 = if me < k ∧ nw (gd T me) (gd L me) = true then max d (gd T me).1 else d
  | 0, _ => by simp [lrn]
  | k + 1, h => by
    have ih := lrn_dare me ck T L Z d k (by omega)
    have h2 := (lrn_gd me ck T L Z d k (by omega)).2 me
    rw [if_neg (fun h => h.2 rfl)] at h2
    rw [lrn_succ]
    unfold lst
    by_cases hk : k = me
    · rw [if_pos hk]
      subst hk
      simp only [h2]
      rw [if_neg (by omega)] at ih
      by_cases hn : nw (gd T k) (gd L k) = true
      · rw [if_pos hn, if_pos ⟨by omega, hn⟩, ih]
      · rw [if_neg hn, if_neg (fun h => hn h.2), ih]
    · rw [if_neg hk]
      show (lrn me ck T L Z d k).2.2 = _
      rw [ih]
      by_cases hc : me < k ∧ nw (gd T me) (gd L me) = true
      · rw [if_pos hc, if_pos ⟨by omega, hc.2⟩]
      · rw [if_neg hc, if_neg (fun h => hc ⟨by omega, h.2⟩)]
theorem vld_of {L : List Ent} (h1 : 1 ≤ L.length) (h2 : L.length ≤ 16) (h : ∀ i, i < L.length → okE (gd L i) = true) : vld L = true := by
  unfold vld
  simp only [Bool.and_eq_true, decide_eq_true_eq]
  refine ⟨List.all_eq_true.2 fun e he => ?_, h1, h2⟩
  obtain ⟨i, hi, rfl⟩ := List.getElem_of_mem he
  have := h i hi
  unfold gd at this
  rwa [List.getD_eq_getElem?_getD, List.getElem?_eq_getElem hi] at this
theorem vld_at {L : List Ent} (h : vld L = true) (i : Nat) (hi : i < L.length) : okE (gd L i) = true := by
  unfold vld at h
  simp only [Bool.and_eq_true] at h
  have hm : gd L i ∈ L := by
    unfold gd
    rw [List.getD_eq_getElem?_getD, List.getElem?_eq_getElem hi]
    exact List.getElem_mem hi
  exact List.all_eq_true.1 h.1 _ hm
theorem jn_lt {x s y t : Int} (h : x < y) : jn (x, s) (y, t) = (y, t) := by
  have hn : nw (y, t) (x, s) = true := by
    unfold nw
    rw [if_neg (by show ¬ y = x; omega)]
    simpa using h
  simp [jn, hn]
theorem vld_refute {n me : Nat} {T : List Ent} {ck J : Int} (hv : vld T = true) (hl : n = T.length) (hme : me < n) (hJ : J ≠ 0) :
    vld ((lrn me ck T ((List.replicate n ((0, 0) : Ent)).set me (3, 1)) (List.replicate n 0) 0 n).1.set me (J, 1)) = true := by
  have hL : ((List.replicate n ((0, 0) : Ent)).set me (3, 1)).length = n := by simp
  obtain ⟨k1, k2⟩ := vld_len hv
  obtain ⟨l1, l2⟩ := lrn_gd me ck T ((List.replicate n ((0, 0) : Ent)).set me (3, 1)) (List.replicate n 0) 0 n (by rw [hL]; exact Nat.le_refl _)
  have hlen : ((lrn me ck T ((List.replicate n ((0, 0) : Ent)).set me (3, 1)) (List.replicate n 0) 0 n).1.set me (J, 1)).length = n := by rw [List.length_set, l1, hL]
  refine vld_of (by omega) (by omega) fun i hi => ?_
  rw [hlen] at hi
  by_cases him : me = i
  · subst him
    rw [gd_set_self (by rw [l1, hL]; exact hi)]
    unfold okE
    simp [hJ]
  · rw [gd_set_ne him, l2 i, if_pos ⟨hi, fun e => him e.symm⟩]
    rcases jn_or (gd ((List.replicate n ((0, 0) : Ent)).set me (3, 1)) i) (gd T i) with e | e <;> rw [e]
    · rw [gd_set_ne him, gd_rep]; rfl
    · exact vld_at hv i (by omega)
end Go.Proofs.Ytbdefmjjhkonjaa
