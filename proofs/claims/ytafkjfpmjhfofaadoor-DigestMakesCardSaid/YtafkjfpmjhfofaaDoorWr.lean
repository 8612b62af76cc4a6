/-
  Writer: NewWriter, fits.
-/
import Derived.Test.YtafkjfpmjhfofaaDoorSch
import Derived.Test.YtafkjfpmjhfofaaDoorMore
import Derived.BigQuiet
namespace Go.Proofs.YtafkjfpmjhfofaaDoor
open Go Go.RowKit
set_option linter.unusedVariables false

/-- a Writer in memory: its limit, its data (a row of its own), whether it failed -/
structure WrAt (w : World) (wb lim : Nat) (v : Value) (l : List Nat) (f : Bool) : Prop where
  at_ : w.heap[wb]? = some (.cells #[.int .i64 (lim : Int), v, .bool f] 123 (0, 0))
  own : w.ownsRow (wb + 1) 5 1 v l.length (u8s l)
  lt : ∀ n ∈ l, n < 256
  fit : l.length ≤ lim
  cap : lim ≤ 100000000000
/-- everything but the Writer and its row is as it was -/
structure KeptR (wb : Nat) (v : Value) (w w' : World) : Prop where
  os : w'.os = w.os
  tape : w'.tape = w.tape
  output : w'.output = w.output
  size : w.heap.size ≤ w'.heap.size
  block : ∀ k, k < w.heap.size → k ≠ wb → v.ownBlock ≠ some k → w'.heap[k]? = w.heap[k]?
/-- the row behind a step is the row before it, or a new one -/
def SameRow (w : World) (v v' : Value) : Prop := ∀ k, v'.ownBlock = some k → v.ownBlock = some k ∨ w.heap.size ≤ k
theorem SameRow.refl (w : World) (v : Value) : SameRow w v v := fun k h => .inl h
theorem KeptR.refl (wb : Nat) (v : Value) (w : World) : KeptR wb v w w := ⟨rfl, rfl, rfl, Nat.le_refl _, fun _ _ _ _ => rfl⟩
theorem KeptR.setCell {wb : Nat} {v : Value} {w w' : World} (h : KeptR wb v w w') (i : Nat) (u : Value) : KeptR wb v w (w'.setCell ⟨wb, i, none⟩ u) :=
  ⟨h.os, h.tape, h.output, by simpa using h.size, fun k hk hb hv => by rw [heap_setCell_other w' _ k _ hb]; exact h.block k hk hb hv⟩
theorem KeptR.trans {wb : Nat} {v v' : Value} {x y z : World} (h : KeptR wb v x y) (s : SameRow x v v') (k : KeptR wb v' y z) : KeptR wb v x z :=
  ⟨k.os.trans h.os, k.tape.trans h.tape, k.output.trans h.output, Nat.le_trans h.size k.size, fun i hi hb hv =>
    (k.block i (Nat.lt_of_lt_of_le hi h.size) hb (fun e => by
      rcases s i e with e | e
      · exact hv e
      · omega)).trans (h.block i hi hb hv)⟩
theorem SameRow.trans {x y : World} {v v' v'' : Value} (h : SameRow x v v') (hs : x.heap.size ≤ y.heap.size) (k : SameRow y v' v'') : SameRow x v v'' := fun i hi => by
  rcases k i hi with e | e
  · exact h i e
  · exact .inr (by omega)
theorem KeptR.below {wb B : Nat} {v : Value} {w w' : World} (h : KeptR wb v w w') (hB : B ≤ w.heap.size) (hb : B ≤ wb) (hv : ∀ k, v.ownBlock = some k → B ≤ k) : Below B w w' :=
  ⟨h.os, h.tape, h.output, h.size, fun k hk => h.block k (by omega) (by omega) (fun e => by have := hv k e; omega)⟩
theorem WrAt.lt_size {w : World} {wb lim : Nat} {v : Value} {l : List Nat} {f : Bool} (W : WrAt w wb lim v l f) : wb < w.heap.size := lt_of_heap W.at_
theorem WrAt.sl {w : World} {wb lim : Nat} {v : Value} {l : List Nat} {f : Bool} (W : WrAt w wb lim v l f) : ∃ a c, v = .slice a l.length c ∧ l.length ≤ c ∧ Bs w v l := by
  obtain ⟨a, c, h1, -, h3, h4, -⟩ := bs_of_owns W.own W.lt
  exact ⟨a, c, h1, h3, h4⟩
theorem WrAt.fail {w : World} {wb lim : Nat} {v : Value} {l : List Nat} {f : Bool} (W : WrAt w wb lim v l f) : WrAt (w.setCell ⟨wb, 2, none⟩ (.bool true)) wb lim v l true := by
  refine ⟨?_, ?_, W.lt, W.fit, W.cap⟩
  · have h := heap_setCell_same w wb 2 _ _ (.bool true) W.at_
    simpa using h
  · refine ⟨W.own.1, ?_⟩
    rcases W.own.2 with h | ⟨g, cap, cur, h1, h2, h3, h4⟩
    · exact .inl h
    · exact .inr ⟨g, cap, cur, h1, h2, by rw [heap_setCell_other w _ g _ (by show g ≠ wb; omega)]; exact h3, h4⟩

set_option maxRecDepth 100000 in
set_option maxHeartbeats 2000000 in
theorem NewWriter_any (lim : Nat) (hl : lim ≤ 100000000000) (w : World) :
    Calls Tryd.prog 53 #[.int .i64 (lim : Int)] w fun e w' => e = .returned (.pointer (some ⟨w.heap.size, 0, none⟩)) ∧ WrAt w' w.heap.size lim (.slice none 0 0) [] false ∧ Below w.heap.size w w' := by
  have HM := hid (show WrAt (w.alloc (.cells #[.int .i64 (lim : Int), .slice none 0 0, .bool false] 123)) w.heap.size lim (.slice none 0 0) [] false from ⟨heap_new _ _, World.ownsRow_nil _ _ _ _, fun n h => absurd h List.not_mem_nil, Nat.zero_le _, hl⟩)
  have h0 : (0 : Int) ≤ (lim : Int) := by omega
  go_enter Tryd.func53, Tryd.ntmps53
  go_wp2
  go_ret
  exact ⟨rfl, HM.out, (Below.refl _ _).alloc (Nat.le_refl _) _⟩

set_option maxRecDepth 100000 in
set_option maxHeartbeats 2000000 in
theorem fits_any (wb lim n : Nat) (v : Value) (l : List Nat) (f : Bool) (w : World) (W : WrAt w wb lim v l f) (hn : n ≤ 100000000000) :
    Calls Tryd.prog 78 #[.pointer (some ⟨wb, 0, none⟩), .int .i64 (n : Int)] w fun e w' => e = .returned (.bool (!(f || decide (lim < l.length + n)))) ∧ WrAt w' wb lim v l (f || decide (lim < l.length + n)) ∧ KeptR wb v w w' := by
  obtain ⟨a, c, rfl, hc, hb⟩ := W.sl
  have c0 : w.cell? ⟨wb, 0, none⟩ = some (.int .i64 (lim : Int)) := by rw [cell_of_heap W.at_]; rfl
  have c1 : w.cell? ⟨wb, 1, none⟩ = some (.slice a l.length c) := by rw [cell_of_heap W.at_]; rfl
  have c2 : w.cell? ⟨wb, 2, none⟩ = some (.bool f) := by rw [cell_of_heap W.at_]; rfl
  have f2 := free_of_heap W.at_ 2
  have h1 := W.fit
  have h2 := W.cap
  have HW := hid W
  clear W hb
  generalize l.length = m at *
  have t1 : IntKind.i64.wrap ((lim : Int) - (m : Int)) = (lim : Int) - (m : Int) := by rw [IntKind.wrap_i64]; omega
  by_cases hf : lim < m + n
  · have hd : (lim : Int) - (m : Int) < (n : Int) := by omega
    go_enter Tryd.func78, Tryd.ntmps78
    go_wp2
    go_quiet (fail)
    have F2 : (w.drewN nq).frozen? ⟨wb, 2, none⟩ = false := f2
    have C2 : (w.drewN nq).cell? ⟨wb, 2, none⟩ = some (.bool f) := c2
    have HX := hid (show WrAt (w.drewN nq) wb lim (.slice a m c) l f from ⟨HW.out.at_, HW.out.own, HW.out.lt, HW.out.fit, HW.out.cap⟩)
    have HK := hid (show KeptR wb (.slice a m c) w (w.drewN nq) from ⟨rfl, rfl, rfl, Nat.le_refl _, fun _ _ _ _ => rfl⟩)
    generalize w.drewN nq = w2 at *
    go_wp2
    go_ret
    have e : decide (lim < m + n) = true := by simpa using hf
    refine ⟨?_, ?_, ?_⟩
    · rw [e, Bool.or_true]; rfl
    · rw [e, Bool.or_true]; exact HX.out.fail
    · exact HK.out.setCell 2 _
  · have hd : ¬ ((lim : Int) - (m : Int) < (n : Int)) := by omega
    go_enter Tryd.func78, Tryd.ntmps78
    go_wp2
    go_quiet (fail)
    have C2 : (w.drewN nq).cell? ⟨wb, 2, none⟩ = some (.bool f) := c2
    have HX := hid (show WrAt (w.drewN nq) wb lim (.slice a m c) l f from ⟨HW.out.at_, HW.out.own, HW.out.lt, HW.out.fit, HW.out.cap⟩)
    have HK := hid (show KeptR wb (.slice a m c) w (w.drewN nq) from ⟨rfl, rfl, rfl, Nat.le_refl _, fun _ _ _ _ => rfl⟩)
    generalize w.drewN nq = w2 at *
    go_wp2
    go_ret
    have e : decide (lim < m + n) = false := by simpa using hf
    refine ⟨?_, ?_, ?_⟩
    · rw [e, Bool.or_false]; rfl
    · rw [e, Bool.or_false]; exact HX.out
    · exact HK.out
end Go.Proofs.YtafkjfpmjhfofaaDoor
