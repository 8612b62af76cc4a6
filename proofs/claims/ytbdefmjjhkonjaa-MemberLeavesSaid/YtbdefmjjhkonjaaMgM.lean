/-
  Merging is commutative, associative and idempotent; its results are valid.
-/
import Derived.Test.YtbdefmjjhkonjaaMgC
import Derived.Test.YtbdefmjjhkonjaaNw
namespace Go.Proofs.Ytbdefmjjhkonjaa
open Go Go.RowKit
set_option linter.unusedVariables false

theorem jn_comm (a b : Ent) : jn a b = jn b a := by
  unfold jn
  cases h1 : nw b a with
  | true => rw [nw_asym h1]; simp
  | false => cases h2 : nw a b with
    | true => simp
    | false => simp; exact (nw_total h1 h2).symm
theorem jn_self (a : Ent) : jn a a = a := by simp [jn]
theorem nw_jn_left (a b : Ent) : nw a (jn a b) = false := by
  unfold jn
  cases h : nw b a with
  | true => simpa using nw_asym h
  | false => simpa using nw_self a
theorem nw_jn_right (a b : Ent) : nw b (jn a b) = false := by rw [jn_comm]; exact nw_jn_left b a
theorem jn_of {a b : Ent} (h : nw a b = false) : jn a b = b := by
  unfold jn
  cases h1 : nw b a with
  | true => simp
  | false => simp; exact nw_total h h1
theorem jn_or (a b : Ent) : jn a b = a ∨ jn a b = b := by unfold jn; split <;> simp
/-- negative transitivity -/
theorem nw_ntrans {a b c : Ent} (h : nw a b = false) (h2 : nw b c = false) : nw a c = false := by
  rw [Bool.eq_false_iff]
  intro h3
  cases h4 : nw b a with
  | true => rw [nw_trans h4 h3] at h2; cases h2
  | false => rw [nw_total h h4] at h3; rw [h3] at h2; cases h2
theorem nw_anti {a b : Ent} (h : nw a b = false) (h2 : nw b a = false) : a = b := nw_total h h2
theorem jn_le {a b m : Ent} (h : nw a m = false) (h2 : nw b m = false) : nw (jn a b) m = false := by rcases jn_or a b with e | e <;> rw [e] <;> assumption
theorem jn_assoc (a b c : Ent) : jn (jn a b) c = jn a (jn b c) := by
  apply nw_anti
  · exact jn_le (jn_le (nw_jn_left _ _) (nw_ntrans (nw_jn_left b c) (nw_jn_right _ _))) (nw_ntrans (nw_jn_right b c) (nw_jn_right _ _))
  · exact jn_le (nw_ntrans (nw_jn_left a b) (nw_jn_left _ _)) (jn_le (nw_ntrans (nw_jn_right a b) (nw_jn_left _ _)) (nw_jn_right _ _))
theorem mrg_gd (A B : List Ent) (n i : Nat) (h : i < n) : gd (mrg A B n) i = jn (gd A i) (gd B i) := by
  unfold gd mrg
  rw [List.getD_eq_getElem?_getD, List.getElem?_map, List.getElem?_range h]; rfl
theorem mrg_comm (A B : List Ent) (n : Nat) : mrg A B n = mrg B A n := by
  unfold mrg
  exact List.map_congr_left fun i _ => jn_comm _ _
theorem mrg_assoc (A B C : List Ent) (n : Nat) : mrg (mrg A B n) C n = mrg A (mrg B C n) n := by
  unfold mrg
  refine List.map_congr_left fun i hi => ?_
  have h := List.mem_range.1 hi
  have e1 := mrg_gd A B n i h
  have e2 := mrg_gd B C n i h
  unfold mrg at e1 e2
  rw [e1, e2, jn_assoc]
theorem gd_ext {A B : List Ent} (h : A.length = B.length) (h2 : ∀ i, i < A.length → gd A i = gd B i) : A = B := by
  apply List.ext_getElem h
  intro i h3 h4
  have := h2 i h3
  unfold gd at this
  rwa [List.getD_eq_getElem?_getD, List.getD_eq_getElem?_getD, List.getElem?_eq_getElem h3, List.getElem?_eq_getElem h4] at this
theorem mrg_self (A : List Ent) : mrg A A A.length = A := gd_ext (by rw [mrg_length]) fun i hi => by rw [mrg_gd A A _ i (by rw [mrg_length] at hi; exact hi), jn_self]
theorem vld_len {A : List Ent} (h : vld A = true) : 1 ≤ A.length ∧ A.length ≤ 16 := by
  unfold vld at h
  simp only [Bool.and_eq_true, decide_eq_true_eq] at h
  exact h.2
theorem vld_mrg {A B : List Ent} (ha : vld A = true) (hb : vld B = true) (hl : A.length = B.length) : vld (mrg A B A.length) = true := by
  have h1 := vld_len ha
  have ok : ∀ {L : List Ent}, vld L = true → ∀ i, i < L.length → okE (gd L i) = true := fun {L} h i hi => by
    unfold vld at h
    simp only [Bool.and_eq_true] at h
    have hm : gd L i ∈ L := by
      unfold gd
      rw [List.getD_eq_getElem?_getD, List.getElem?_eq_getElem hi]
      exact List.getElem_mem hi
    exact List.all_eq_true.1 h.1 _ hm
  unfold vld
  rw [mrg_length]
  simp only [Bool.and_eq_true, decide_eq_true_eq]
  refine ⟨List.all_eq_true.2 fun e he => ?_, h1⟩
  unfold mrg at he
  obtain ⟨i, hi, rfl⟩ := List.mem_map.1 he
  have h := List.mem_range.1 hi
  rcases jn_or (gd A i) (gd B i) with e | e <;> rw [e]
  · exact ok ha i h
  · exact ok hb i (by omega)
/-- own, its result written out -/
theorem own2 (a : Option Addr) (n c : Nat) (L : List Ent) (w : World) (hb : Tb w (.slice a n c) L) (hn : n ≤ 8796093022208) :
    Calls Try.prog 18 #[.slice a n c] w fun e w' => ∃ a' c', e = .returned (.slice a' n c') ∧ Tb w' (.slice a' n c') L ∧ Fresh w.heap.size (.slice a' n c') ∧ Below w.heap.size w w' := by
  refine (own_any a n c L w hb hn).mono ?_
  rintro e w' ⟨v, rfl, ho, hb'⟩
  have hf := owns_fresh ho
  obtain ⟨ht, hl⟩ := tb_of_owns ho
  have ht2 := ht
  obtain ⟨a', c', rfl, _⟩ := ht2
  rw [hl] at ht hf ⊢
  exact ⟨a', c', rfl, ht, hf, hb'⟩
/-- Merge of valid tables of one length, its result written out -/
theorem Merge2 (a1 : Option Addr) (n c1 : Nat) (A : List Ent) (a2 : Option Addr) (c2 : Nat) (B : List Ent) (w : World) (ht1 : Tb w (.slice a1 n c1) A) (ht2 : Tb w (.slice a2 n c2) B) (h1 : n ≤ 100000) (ha : vld A = true) (hb : vld B = true) :
    Calls Try.prog 19 #[.slice a1 n c1, .slice a2 n c2] w fun e w' => ∃ a' c', e = .returned (.tuple #[.slice a' n c', .int .i64 0]) ∧ Tb w' (.slice a' n c') (mrg A B n) ∧ Below w.heap.size w w' := by
  have l1 := ht1.len
  have l2 := ht2.len
  have e1 : mErr A B = 0 := by simp [mErr, ha, hb]; omega
  have e2 : mTab A B = mrg A B n := by simp [mTab, ha, hb, ← l1]; omega
  refine (Merge_any a1 n c1 A a2 n c2 B w ht1 ht2 h1 h1).mono ?_
  rintro e w' ⟨v, rfl, ho, hb'⟩
  rw [e1]
  rw [e2, mrg_length] at ho
  obtain ⟨ht, _⟩ := tb_of_owns ho
  have ht2 := ht
  obtain ⟨a', c', rfl, _⟩ := ht2
  rw [mrg_length] at ht ⊢
  exact ⟨a', c', rfl, ht, hb'⟩
end Go.Proofs.Ytbdefmjjhkonjaa
