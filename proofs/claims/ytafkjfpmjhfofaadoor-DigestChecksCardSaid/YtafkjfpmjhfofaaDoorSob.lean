/-
  An append to an empty new row, as a region's step.
-/
import Derived.Test.YtafkjfpmjhfofaaDoorApp
import Derived.Deep.RegionHeld3
namespace Go.Proofs.YtafkjfpmjhfofaaDoor
open Go Go.RowKit
set_option linter.unusedVariables false

/-- rows of different element types lie in different blocks -/
theorem own_types {w : World} {B1 B2 s1 s2 n1 n2 : Nat} {e1 e2 : TypeId} {v1 v2 : Value} {x1 x2 : List Value} (h1 : w.ownsRow B1 e1 s1 v1 n1 x1) (h2 : w.ownsRow B2 e2 s2 v2 n2 x2) (hne : e1 ≠ e2) : v1.ownBlock = none ∨ v1.ownBlock ≠ v2.ownBlock := by
  rcases h1.2 with ⟨rfl, _⟩ | ⟨g1, c1, u1, rfl, _, k1, _⟩
  · exact .inl rfl
  · right
    rcases h2.2 with ⟨rfl, _⟩ | ⟨g2, c2, u2, rfl, _, k2, _⟩
    · simp [Value.ownBlock]
    · simp only [Value.ownBlock, ne_eq, Option.some.injEq]
      rintro rfl
      rw [k1] at k2
      simp at k2
      exact hne k2.2
theorem u8s_oneS (l : List Nat) : ∀ v ∈ u8s l, v.oneCell' = true := by
  intro v hv
  simp only [u8s, List.mem_map] at hv
  obtain ⟨n, _, rfl⟩ := hv
  rfl
/-- append to an empty new row, of any slice of bytes -/
theorem step_own_bytes {ops : Array Oper} {o : Oper} {a : Act} {w : World} {K : Act → World → Prop} {Q : Exit → Act → World → Prop} {E : Prop} (hgd : o.guard = none) (s x : Operand)
    (ho : o.op = .call { callee := .builtin .append, args := #[s, x], argTypes := #[22, 22] }) (base g0 : Nat) (hs : a.eval s = .slice (some ⟨g0, 0, none⟩) 0 0) (hown : w.ownsRow base 5 1 (.slice (some ⟨g0, 0, none⟩) 0 0) 0 [])
    (sa : Option Addr) (m c : Nat) (l : List Nat) (hx : a.eval x = .slice sa m c) (hb : Bs w (.slice sa m c) l) (hnil : sa = none → c = 0) (hm : m ≤ 461168601842) (hbase : base ≤ w.heap.size)
    (hK : ∀ v' w', w'.ownsRow base 5 1 v' m (u8s l) → w.grownBy w' (some g0) → K (a.put o.dst v') w') :
    if Region.wanted o (yielded ops a.tmps) = true then Oper.wp Tryd.prog o a w K Q else E := by
  have hw : Region.wanted o (yielded ops a.tmps) = true := by simp [Region.wanted, hgd]
  rw [if_pos hw]
  obtain ⟨i0, hi, hz0, hz1, hz2⟩ := info_parts info5
  have hlen := hb.len
  cases sa with
  | none =>
    obtain rfl := hnil rfl
    have h0 : l = [] := by
      rcases hb.addr with ⟨h0, _⟩ | ⟨_, b, o', c', hv⟩
      · exact h0
      · simp at hv
    subst h0
    obtain rfl : m = 0 := hlen
    have hrun := run_append_owned_none (P := Tryd.prog) (w := w) base 22 o.type 5 i0 1 Tryd.underlying22 hi (.slice (some ⟨g0, 0, none⟩) 0 0) 0 [] hown
    unfold Oper.wp
    simp [execOp, ho, resolve, invoke, builtin, hs, hx, hrun, Result.andThen]
    exact hK _ _ hown (World.grownBy.refl w _)
  | some ad =>
    have hnews : ∀ j u, (u8s l)[j]? = some u → w.cell? (ad.add j) = some u := fun j u hj => by
      have hjl : j < l.length := by have := (List.getElem?_eq_some_iff.1 hj).1; simpa [u8s] using this
      rcases hb.addr with ⟨h0, _⟩ | ⟨_, b, o', c', hv⟩
      · rw [h0] at hjl; exact absurd hjl (Nat.not_lt_zero _)
      · simp only [Value.slice.injEq, Option.some.injEq] at hv
        obtain ⟨rfl, _, _⟩ := hv
        have hc := hb.cell j hjl
        have e : (⟨b, o', none⟩ : Addr).add j = ⟨b, o' + j, none⟩ := by unfold Addr.add; split <;> simp_all
        rw [e, hc, ← hj]
        simp [u8s, List.getElem?_eq_getElem hjl]
    refine wp_append_own w s x _ ho base 5 i0 (.int .u8 0) 1 1 Tryd.underlying22 hi hz0 hz1 hz2 rfl (by decide) _ 0 [] hs hown ad m c (u8s l) hx (by simp [u8s]; omega) hnews (u8s_oneS l) (by unfold maxLen; omega) (by omega) hbase ?_
    intro v' w' hown' hg hn
    rw [Nat.zero_add, List.nil_append] at hown'
    exact hK v' w' hown' hg
end Go.Proofs.YtafkjfpmjhfofaaDoor
