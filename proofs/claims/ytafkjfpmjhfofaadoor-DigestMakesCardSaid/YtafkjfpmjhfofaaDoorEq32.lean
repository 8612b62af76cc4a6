/-
  Two digests that read alike are equal; a guarded append.
-/
import Derived.Test.YtafkjfpmjhfofaaDoorBuf
import Derived.ChangeKeysEq
namespace Go.Proofs.YtafkjfpmjhfofaaDoor
open Go Go.RowKit
set_option linter.unusedVariables false

theorem eqItems_sameD (d : Nat) (l : List Nat) (w : World) : ∀ is : List Nat, (∀ i ∈ is, i < l.length) → (Op.eqItems (d + 1) 5 1 (u8s l).toArray (u8s l).toArray is).run Tryd.prog w = .ok true w
  | [], _ => by simp [Op.eqItems]
  | i :: is, h => by
    have hi := h i (by simp)
    have hg : (u8s l).toArray[i * 1]? = some (.int .u8 ((l.getD i 0 : Nat) : Int)) := by
      simp [u8s, hi]
    have hp := run_part_plain (P := Tryd.prog) w (e := 5) (by kernel_rfl) hg
    have he := run_equalIn_int (P := Tryd.prog) w d 5 .u8 .u8 ((l.getD i 0 : Nat) : Int) ((l.getD i 0 : Nat) : Int) Tryd.underlying5
    have ih := eqItems_sameD d l w is (fun j hj => h j (by simp [hj]))
    simp only [Op.eqItems, Sem.run_bind, hp, he, Result.andThen_ok, beq_self_eq_true, Bool.not_true, Bool.false_eq_true, if_false, ih]
theorem eql_sameD (l : List Nat) (h : l.length = 32) (w : World) : (Op.equalIn 10000 24 (.agg (u8s l).toArray) (.agg (u8s l).toArray)).run Tryd.prog w = .ok true w := by
  have hi0 : (Tryd.prog.info? 5).map (·.size) = some 1 := by kernel_rfl
  obtain ⟨i, hi, _⟩ := Option.map_eq_some_iff.1 hi0
  have hc : Tryd.prog.cellsOf 5 = 1 := by kernel_rfl
  rw [show (10000 : Nat) = 9999 + 1 from rfl, run_equalIn_array w 9999 _ _ Tryd.underlying24 hi, hc]
  have hr : ∀ j ∈ List.range 32, j < l.length := fun j hj => by
    have h9 : j < 32 := List.mem_range.1 hj
    rw [h]
    exact h9
  exact eqItems_sameD 9998 l w (List.range 32) hr
theorem wpList_guarded {P : Program} {ops : Array Oper} {rest : List Oper} {o : Oper} {a : Act} {w : World} {Q : Exit → Act → World → Prop} (hw : Region.wanted o (yielded ops a.tmps) = true) (h : wpList P ops Q ({ o with guard := none } :: rest) a w) : wpList P ops Q (o :: rest) a w := by
  unfold wpList at h ⊢
  rw [if_pos hw]
  rw [if_pos (show Region.wanted { o with guard := none } (yielded ops a.tmps) = true from rfl)] at h
  cases o
  exact h
theorem wpList_cloneG {w : World} {ops : Array Oper} {rest : List Oper} {o : Oper} {a : Act} {Q : Exit → Act → World → Prop} (hw : Region.wanted o (yielded ops a.tmps) = true) (s x : Operand)
    (ho : o.op = .call { callee := .builtin .append, args := #[s, x], argTypes := #[22, 22] }) (g0 : Nat) (hs : a.eval s = .slice (some ⟨g0, 0, none⟩) 0 0) (hg0 : w.heap[g0]? = some (.cells #[] 5 (0, 0)))
    (sa : Option Addr) (m c : Nat) (l : List Nat) (hx : a.eval x = .slice sa m c) (hb : Bs w (.slice sa m c) l) (hnil : sa = none → c = 0) (hm : m ≤ 4611686018427)
    (h : ∀ a' c' w', Bs w' (.slice a' m c') l → m ≤ c' → (∀ ad, a' = some ad → g0 ≤ ad.block ∧ ad.block < w'.heap.size) → (a' = none → c' = 0) → Kept g0 w w' → w'.ownsRow g0 5 1 (.slice a' m c') m (u8s l) → wpList Tryd.prog ops Q rest (a.put o.dst (.slice a' m c')) w') :
    wpList Tryd.prog ops Q (o :: rest) a w :=
  wpList_guarded hw (wpList_cloneB (o := { o with guard := none }) rfl s x ho g0 hs hg0 sa m c l hx hb hnil hm h)
end Go.Proofs.YtafkjfpmjhfofaaDoor
