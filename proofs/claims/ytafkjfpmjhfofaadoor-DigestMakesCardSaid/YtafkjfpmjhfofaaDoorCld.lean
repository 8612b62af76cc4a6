/-
  Owned rows of bytes; regions by a class of worlds.
-/
import Derived.Test.YtafkjfpmjhfofaaDoorS2
import Derived.Test.YtafkjfpmjhfofaaDoorQT
namespace Go.Proofs.YtafkjfpmjhfofaaDoor
open Go Go.RowKit
set_option linter.unusedVariables false

theorem owns_nilD (w : World) (base : Nat) : w.ownsRow base 5 1 (.slice none 0 0) 0 (u8s []) := ⟨rfl, .inl ⟨rfl, rfl⟩⟩
theorem owns_baseD {w : World} {b0 b1 m : Nat} {v : Value} {xs : List Value} (h : w.ownsRow b1 5 1 v m xs) (hb : b0 ≤ b1) : w.ownsRow b0 5 1 v m xs := by
  refine ⟨h.1, ?_⟩
  rcases h.2 with h2 | ⟨q, cap, cur, h1, h2, h3, h4⟩
  · exact .inl h2
  · exact .inr ⟨q, cap, cur, h1, Nat.le_trans hb h2, h3, h4⟩
theorem owns_belowR {w w' : World} {base m : Nat} {v : Value} {xs : List Value} (h : w.ownsRow base 5 1 v m xs) (k : Below w.heap.size w w') : w'.ownsRow base 5 1 v m xs := by
  refine ⟨h.1, ?_⟩
  rcases h.2 with h2 | ⟨q, cap, cur, h1, h2, h3, h4⟩
  · exact .inl h2
  · exact .inr ⟨q, cap, cur, h1, h2, (k.block q (lt_of_heap h3)).trans h3, h4⟩
theorem owns_keptR {w w' : World} {base g m : Nat} {v : Value} {xs : List Value} (h : w.ownsRow base 5 1 v m xs) (k : Kept g w w') (hg : g < base) : w'.ownsRow base 5 1 v m xs := by
  refine ⟨h.1, ?_⟩
  rcases h.2 with h2 | ⟨q, cap, cur, h1, h2, h3, h4⟩
  · exact .inl h2
  · exact .inr ⟨q, cap, cur, h1, h2, (k.block q (lt_of_heap h3) (by omega)).trans h3, h4⟩

/-- the worlds of the class G -/
structure Cls (G : World → Prop) where
  w : World
  h : G w
theorem wp_region_class_lit {P : Program} {id : Nat} {Q : Exit → Act → World → Prop} {a : Act} {w : World} {l : List Oper} {G : World → Prop} (hm : P.follows .mixedOrders = true) (hB : Region.lexB .any l.toArray = true) (hC : G { w with drawn := w.drawn + 1 })
    (h : wpQuiet P l.toArray (fun w' => ∃ p : Cls G, w' = p.w) (fun a' => ∀ w', (∃ p : Cls G, w' = p.w) → Q .normal a' w') l a) : (Code.region id l.toArray true).wp P Q a w :=
  wp_region_quiet (C := fun w' => ∃ p : Cls G, w' = p.w) hm hB ⟨⟨_, hC⟩, rfl⟩ (by simpa using h)
/-- a callee that makes memory only, met in a world behind w1 -/
theorem Calls.cls {P : Program} {f : FuncId} {args : Array Value} {w1 : World} {p : Cls fun w' => Below w1.heap.size w1 w'} {v : Value}
    (h : Calls P f args p.w fun e w' => e = .returned v ∧ Below p.w.heap.size p.w w') : Calls P f args p.w fun e w'' => e = .returned v ∧ ∃ q : Cls (fun w' => Below w1.heap.size w1 w'), w'' = q.w :=
  h.mono fun _ w' ⟨he, hb⟩ => ⟨he, ⟨w', p.h.trans (hb.mono p.h.size)⟩, rfl⟩
/-- .. and one that leaves the world alone -/
theorem Calls.cls_same {P : Program} {f : FuncId} {args : Array Value} {G : World → Prop} {p : Cls G} {v : Value}
    (h : Calls P f args p.w fun e w' => e = .returned v ∧ w' = p.w) : Calls P f args p.w fun e w'' => e = .returned v ∧ ∃ q : Cls G, w'' = q.w :=
  h.mono fun _ _ ⟨he, hm⟩ => ⟨he, p, hm⟩
/-- n operations of the class in any order, then the rest one by one -/
theorem region_class_tail {P : Program} {id : Nat} {Q : Exit → Act → World → Prop} {a : Act} {w : World} {l : List Oper} {G : World → Prop} (n : Nat) (hm : P.follows .mixedOrders = true) (hB : Region.lexTailB .any l.toArray n = true) (hC : G { w with drawn := w.drawn + 1 })
    (h : wpQuiet P l.toArray (fun w' => ∃ p : Cls G, w' = p.w) (fun b => ∀ p : Cls G, wpList P l.toArray Q (l.drop n) b p.w) (l.take n) a) : (Code.region id l.toArray true).wp P Q a w := by
  simp only [Region.lexTailB, Bool.and_eq_true, decide_eq_true_eq] at hB
  obtain ⟨⟨⟨⟨hsel, hn⟩, hs⟩, hc⟩, hlex⟩ := hB
  have hn' : n < l.length := by simpa using hn
  have htl : (l.take n).length = n := by rw [List.length_take]; omega
  have hdl : (l.drop n).length = l.toArray.size - n := by simp
  have inv : HeadInv .any l.toArray n (Array.replicate l.toArray.size false) :=
    ⟨by simp, fun j _ _ hl => (by rw [getD_replicate_false] at hl; cases hl), fun t _ ht => getD_in (by simpa using ht) (getD_replicate_false _ _)⟩
  have hlex' : Region.lexHead .any l.toArray (l.toArray.size - n) (l.take n).length 0 (Array.replicate l.toArray.size false) = true := by rw [htl]; exact hlex
  have H := Quiets.lex hsel hs hc hn (l.take n) 0 _ a (fun j hj => by rw [htl] at hj; simp [hj]) (by omega) inv hlex' h
  refine wp_region_any hm ?_
  have hrun := Quiets.runs (Q := Q) (g := l.toArray.size - n) (fun done b w' hw' hL => by
    obtain ⟨p, rfl⟩ := hw'
    have := wpAny_of_seq (md := .any) (Q' := Q) (l.drop n) n done b p.w (fun j => by simp [List.getElem?_drop]) (by rw [hdl]; exact hL.1) (hL.2 p)
    rwa [hdl] at this) _ _ a _ ⟨⟨_, hC⟩, rfl⟩ H
  rw [htl, show n + (l.toArray.size - n) = l.toArray.size by omega] at hrun
  exact hrun
end Go.Proofs.YtafkjfpmjhfofaaDoor
