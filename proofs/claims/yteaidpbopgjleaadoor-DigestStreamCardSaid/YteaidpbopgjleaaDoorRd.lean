/-
  Reader: NewReader, Rest, Err.
-/
import Derived.Test.YteaidpbopgjleaaDoorWby
namespace Go.Proofs.YteaidpbopgjleaaDoor
open Go Go.RowKit
set_option linter.unusedVariables false

/-- a Reader in memory: what is left, the first error -/
structure RdAt (w : World) (rb : Nat) (a : Option Addr) (c : Nat) (l : List Nat) (err : Int) : Prop where
  at_ : w.heap[rb]? = some (.cells #[.slice a l.length c, .int .i64 err] 92 (0, 0))
  bs : Bs w (.slice a l.length c) l
  cap : l.length ≤ c
  nil : a = none → c = 0
  off : ∀ ad, a = some ad → ad.block ≠ rb

set_option maxRecDepth 100000 in
set_option maxHeartbeats 2000000 in
theorem NewReader_any (a : Option Addr) (n c : Nat) (l : List Nat) (w : World) (hb : Bs w (.slice a n c) l) (hnil : a = none → c = 0) (hn : n ≤ 100000000000) :
    Calls Tryd.prog 19 #[.slice a n c] w fun e w' => ∃ rb a' c', e = .returned (.pointer (some ⟨rb, 0, none⟩)) ∧ w.heap.size ≤ rb ∧ RdAt w' rb a' c' l 0 ∧ (∀ ad, a' = some ad → w.heap.size ≤ ad.block) ∧ Below w.heap.size w w' := by
  have hlen := hb.len
  have HC := hid (Clone_any a n c l w hb hnil hn)
  have HL := hid (fun (_ : Unit) => hlen)
  clear hb hnil hlen
  go_enter Tryd.func19, Tryd.ntmps19
  go_wp2_with fail
  refine HC.out.mono ?_
  rintro e w2 ⟨v, rfl, a', c', rfl, hc', hbs, hnil', hfar, hbel⟩
  have HB := hid hbs
  have HN := hid hnil'
  have HFA := hid hfar
  have HBE := hid hbel
  have hsz := hbel.size
  clear hbs hnil' hfar hbel
  go_wp2
  go_ret
  refine ⟨w2.heap.size, a', c', rfl, hsz, ⟨?_, ?_, ?_, HN.out, ?_⟩, fun ad e => (HFA.out ad e).1, HBE.out.alloc hsz _⟩
  · have h := heap_new w2 (.cells #[.slice a' n c', .int .i64 0] 92)
    rw [← HL.out ()]
    exact h
  · rw [← HL.out ()]; exact HB.out.alloc _
  · rw [← HL.out ()]; exact hc'
  · intro ad e h
    have h2 := (HFA.out ad e).2
    omega

theorem RdAt.c {w : World} {rb : Nat} {a : Option Addr} {c : Nat} {l : List Nat} {err : Int} (R : RdAt w rb a c l err) : w.cell? ⟨rb, 0, none⟩ = some (.slice a l.length c) ∧ w.cell? ⟨rb, 1, none⟩ = some (.int .i64 err) := by
  constructor <;> rw [cell_of_heap R.at_] <;> rfl
set_option maxRecDepth 100000 in
theorem Rest_any (rb : Nat) (a : Option Addr) (c : Nat) (l : List Nat) (err : Int) (w : World) (R : RdAt w rb a c l err) :
    Calls Tryd.prog 22 #[.pointer (some ⟨rb, 0, none⟩)] w fun e w' => e = .returned (.int .i64 (l.length : Int)) ∧ w = w' := by
  obtain ⟨c0, c1⟩ := R.c
  clear R
  generalize l.length = m at *
  go_enter Tryd.func22, Tryd.ntmps22
  go_wp2
  go_ret
  exact ⟨rfl, rfl⟩
set_option maxRecDepth 100000 in
theorem Err_any (rb : Nat) (a : Option Addr) (c : Nat) (l : List Nat) (err : Int) (w : World) (R : RdAt w rb a c l err) :
    Calls Tryd.prog 26 #[.pointer (some ⟨rb, 0, none⟩)] w fun e w' => e = .returned (.int .i64 err) ∧ w = w' := by
  obtain ⟨c0, c1⟩ := R.c
  clear R
  generalize l.length = m at *
  go_enter Tryd.func26, Tryd.ntmps26
  go_wp2
  go_ret
  exact ⟨rfl, rfl⟩
end Go.Proofs.YteaidpbopgjleaaDoor
