/-
  The memory of a Field: which cells its block has before and after its tables are built; small lemmas on worlds and blocks.
-/
import Derived.Test.YtafkjfpmjhfofaaDoorGf
import Derived.Test.YtafkjfpmjhfofaaDoorProg
import Derived.WalkKit
import Derived.WalkLawsBesides
import Derived.OneCell
import Derived.ChangeAlike
namespace Go.Proofs.YtafkjfpmjhfofaaDoor
open Go.RowKit

theorem facts_and {a b : Bool} (ha : a = true) (hb : b = true) : (a && b) = true := by rw [ha, hb]; rfl
theorem hid {p : Prop} (h : p) : Hid p := h
/-- a list of bytes as cells -/
def u8s (l : List Nat) : List Value := l.map fun (n : Nat) => .int .u8 n
/-- the cells of a Field: its Once (done, the lock's two words), and 766 bytes of tables -/
def fcells (d m : Int) (tab : List Nat) : Array Value := (.int .u32 d :: .int .i32 m :: .int .u32 0 :: u8s tab).toArray
/-- the tables after k rounds -/
def tabTo : Nat → List Nat
  | 0 => List.replicate 766 0
  | k + 1 => (((tabTo k).set k (Gf.E k)).set (k + 255) (Gf.E k)).set (510 + Gf.E k) k
/-- block b is a Field whose tables are still to be built -/
def Fresh (w : World) (b : Nat) : Prop := w.heap[b]? = some (.cells (fcells 0 0 (tabTo 0)) 80 (0, 0))
/-- block b is a Field with its tables -/
def Built (w : World) (b : Nat) : Prop := w.heap[b]? = some (.cells (fcells 1 0 (tabTo 255)) 80 (0, 0))
/-- block b is a Field -/
def Fld (w : World) (b : Nat) : Prop := Fresh w b ∨ Built w b
/-- in w' all blocks of w but b are as they were -/
structure Kept (b : Nat) (w w' : World) : Prop where
  os : w'.os = w.os
  tape : w'.tape = w.tape
  output : w'.output = w.output
  size : w.heap.size ≤ w'.heap.size
  block : ∀ k, k < w.heap.size → k ≠ b → w'.heap[k]? = w.heap[k]?
theorem Kept.refl (b : Nat) (w : World) : Kept b w w := ⟨rfl, rfl, rfl, Nat.le_refl _, fun _ _ _ => rfl⟩
theorem Kept.trans {b : Nat} {x y z : World} (h : Kept b x y) (k : Kept b y z) : Kept b x z :=
  ⟨k.os.trans h.os, k.tape.trans h.tape, k.output.trans h.output, Nat.le_trans h.size k.size, fun i hi hb => (k.block i (Nat.lt_of_lt_of_le hi h.size) hb).trans (h.block i hi hb)⟩
theorem Kept.of_below {b : Nat} {w w' : World} (h : Below w.heap.size w w') : Kept b w w' := ⟨h.os, h.tape, h.output, h.size, fun k hk _ => h.block k hk⟩
theorem Kept.below {b B : Nat} {w w' : World} (h : Kept b w w') (hB : B ≤ w.heap.size) (hb : B ≤ b) : Below B w w' := ⟨h.os, h.tape, h.output, h.size, fun k hk => h.block k (by omega) (by omega)⟩
theorem Kept.drew {b : Nat} {w w' : World} (h : Kept b w w') : Kept b w w'.drew := ⟨h.os, h.tape, h.output, h.size, h.block⟩
theorem Kept.alloc {b : Nat} {w w' : World} (h : Kept b w w') (o : Obj) : Kept b w (w'.alloc o) :=
  h.trans (Kept.of_below ((Below.refl _ _).alloc (Nat.le_refl _) o))
theorem Kept.setCell {b : Nat} {w w' : World} (h : Kept b w w') {p : Addr} (hp : p.block = b) (u : Value) : Kept b w (w'.setCell p u) :=
  h.trans ⟨rfl, rfl, rfl, by simp [World.setCell], fun k _ hkb => Below.heap_setCell _ _ _ _ (by rw [hp]; exact hkb)⟩
theorem Kept.setNew {b : Nat} {w w' : World} (h : Kept b w w') {p : Addr} (hp : w.heap.size ≤ p.block) (u : Value) : Kept b w (w'.setCell p u) :=
  ⟨h.os, h.tape, h.output, by have := h.size; simpa using this, fun k hk hkb => (Below.heap_setCell _ _ _ _ (by omega)).trans (h.block k hk hkb)⟩

theorem lt_of_heap {w : World} {b : Nat} {o : Obj} (h : w.heap[b]? = some o) : b < w.heap.size := lt_of_block h
theorem cell_of_heap {w : World} {b : Nat} {cs : Array Value} {t : TypeId} (h : w.heap[b]? = some (.cells cs t (0, 0))) (i : Nat) : w.cell? ⟨b, i, none⟩ = cs[i]? := by simp [World.cell?, h]
theorem free_of_heap {w : World} {b : Nat} {cs : Array Value} {t : TypeId} (h : w.heap[b]? = some (.cells cs t (0, 0))) (i : Nat) : w.frozen? ⟨b, i, none⟩ = false := by simp [World.frozen?, h]
theorem heap_set {w : World} {b : Nat} {cs : Array Value} {t : TypeId} (h : w.heap[b]? = some (.cells cs t (0, 0))) (i : Nat) (u : Value) : (w.setCell ⟨b, i, none⟩ u).heap[b]? = some (.cells (cs.setIfInBounds i u) t (0, 0)) := by
  have hlt := lt_of_block h
  have h' : w.heap[b] = .cells cs t (0, 0) := by simpa [Array.getElem?_eq_getElem hlt] using h
  show (w.heap.modify b _)[b]? = _
  rw [Array.getElem?_eq_getElem (by simpa using hlt), Array.getElem_modify_self, h']
  rfl
theorem heap_alloc {w : World} {b : Nat} {o : Obj} (h : w.heap[b]? = some o) (o' : Obj) : (w.alloc o').heap[b]? = some o := by
  rw [Below.heap_alloc _ _ _ (lt_of_block h)]; exact h
theorem heap_new (w : World) (o : Obj) : (w.alloc o).heap[w.heap.size]? = some o := by show (w.heap.push o)[w.heap.size]? = _; simp
theorem Fld.lt {w : World} {b : Nat} (h : Fld w b) : b < w.heap.size := by rcases h with h | h <;> exact lt_of_block h
theorem Built.lt {w : World} {b : Nat} (h : Built w b) : b < w.heap.size := lt_of_block h
theorem Built.below {w w' : World} {b : Nat} (h : Built w b) {B : Nat} (k : Below B w w') (hb : b < B) : Built w' b := (k.block b hb).trans h
theorem Built.alloc {w : World} {b : Nat} (h : Built w b) (o : Obj) : Built (w.alloc o) b := heap_alloc h o
theorem Built.drew {w : World} {b : Nat} (h : Built w b) : Built w.drew b := h
theorem Built.setCell {w : World} {b : Nat} (h : Built w b) {p : Addr} (hp : p.block ≠ b) (u : Value) : Built (w.setCell p u) b := (Below.heap_setCell _ _ _ _ (fun e => hp e.symm)).trans h
theorem Fld.alloc {w : World} {b : Nat} (h : Fld w b) (o : Obj) : Fld (w.alloc o) b := h.elim (fun h => .inl (heap_alloc h o)) (fun h => .inr (heap_alloc h o))
theorem Fld.drew {w : World} {b : Nat} (h : Fld w b) : Fld w.drew b := h

theorem Kept.drewN {b : Nat} {w w' : World} (h : Kept b w w') (n : Nat) : Kept b w (w'.drewN n) := ⟨h.os, h.tape, h.output, h.size, h.block⟩
theorem Built.drewN {w : World} {b : Nat} (h : Built w b) (n : Nat) : Built (w.drewN n) b := h
theorem bel_drewN {B : Nat} {a w : World} (h : Below B a w) (n : Nat) : Below B a (w.drewN n) := ⟨h.os, h.tape, h.output, h.size, h.block⟩
/-! ### the tables -/
theorem tabTo_length : ∀ k, (tabTo k).length = 766
  | 0 => by simp only [tabTo, List.length_replicate]
  | k + 1 => by simp [tabTo, tabTo_length k]
theorem fcells_get (d m : Int) (tab : List Nat) (i : Nat) (h : i < tab.length) : (fcells d m tab)[3 + i]? = some (.int .u8 (tab.getD i 0)) := by
  have e : (fcells d m tab)[3 + i]? = (u8s tab)[i]? := by
    rw [show 3 + i = i + 3 from by omega]
    simp [fcells]
  rw [e]
  simp [u8s, List.getElem?_map, List.getElem?_eq_getElem h]
theorem fcells_set (d m : Int) (tab : List Nat) (i n : Nat) : (fcells d m tab).setIfInBounds (3 + i) (.int .u8 n) = fcells d m (tab.set i n) := by
  rw [show 3 + i = i + 3 from by omega]
  simp [fcells, u8s, List.map_set]
theorem tabTo_exp : ∀ k, k ≤ 255 → ∀ i, i < k → (tabTo k).getD i 0 = Gf.E i ∧ (tabTo k).getD (i + 255) 0 = Gf.E i
  | 0, _, i, hi => by omega
  | k + 1, hk, i, hi => by
    have hl := tabTo_length k
    by_cases e : i = k
    · subst e
      simp only [tabTo, List.getD_eq_getElem?_getD, List.getElem?_set, List.length_set, hl]
      constructor
      · rw [if_neg (by omega), if_neg (by omega), if_pos trivial, if_pos (by omega)]; rfl
      · rw [if_neg (by omega), if_pos trivial, if_pos (by omega)]; rfl
    · have ih := tabTo_exp k (by omega) i (by omega)
      simp only [List.getD_eq_getElem?_getD] at ih
      simp only [tabTo, List.getD_eq_getElem?_getD, List.getElem?_set, List.length_set, hl]
      constructor
      · rw [if_neg (by omega), if_neg (by omega), if_neg (by omega)]; exact ih.1
      · rw [if_neg (by omega), if_neg (by omega), if_neg (by omega)]; exact ih.2
theorem tabTo_log : ∀ k, k ≤ 255 → ∀ i, i < k → (tabTo k).getD (510 + Gf.E i) 0 = i
  | 0, _, i, hi => by omega
  | k + 1, hk, i, hi => by
    have hl := tabTo_length k
    have b1 := Gf.E_lt i
    have b2 := Gf.E_lt k
    by_cases e : i = k
    · subst e
      simp only [tabTo, List.getD_eq_getElem?_getD, List.getElem?_set, List.length_set, hl]
      rw [if_pos trivial, if_pos (by omega)]; rfl
    · have ih := tabTo_log k (by omega) i (by omega)
      have hne : Gf.E k ≠ Gf.E i := fun h => e (Gf.E_inj (by omega) (by omega) h.symm)
      simp only [List.getD_eq_getElem?_getD] at ih
      simp only [tabTo, List.getD_eq_getElem?_getD, List.getElem?_set, List.length_set, hl]
      rw [if_neg (by omega), if_neg (by omega), if_neg (by omega)]; exact ih
/-- a cell of the exponents -/
theorem built_exp {w : World} {b : Nat} (h : Built w b) (i : Nat) (hi : i < 510) : w.cell? ⟨b, 3 + i, none⟩ = some (.int .u8 (Gf.E i)) := by
  rw [cell_of_heap h, fcells_get _ _ _ _ (by rw [tabTo_length]; omega)]
  by_cases h2 : i < 255
  · rw [(tabTo_exp 255 (by omega) i h2).1]
  · have e := (tabTo_exp 255 (by omega) (i - 255) (by omega)).2
    rw [show i - 255 + 255 = i from by omega] at e
    rw [e]
    have p := Gf.E_per (i - 255)
    rw [show i - 255 + 255 = i from by omega] at p
    rw [p]
/-- a cell of the logarithms -/
theorem built_log {w : World} {b : Nat} (h : Built w b) (a : Nat) (ha : a < 256) (h0 : a ≠ 0) : w.cell? ⟨b, 513 + a, none⟩ = some (.int .u8 (Gf.L a)) := by
  rw [show 513 + a = 3 + (510 + a) from by omega, cell_of_heap h, fcells_get _ _ _ _ (by rw [tabTo_length]; omega)]
  have e := tabTo_log 255 (by omega) (Gf.L a) (Gf.L_lt a ha)
  rw [Gf.E_L a ha h0] at e
  rw [e]
end Go.Proofs.YtafkjfpmjhfofaaDoor
