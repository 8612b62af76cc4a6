/-
  Chapter 5: blocks of memory, frames; entries of tables as cells; which of two entries is newer.
-/
import Derived.Test.YtbdefmjjhkonjaaProg
import Derived.WalkKit
import Derived.WalkLawsBesides
import Derived.WalkSpells
import Derived.OneCell
import Derived.ChangeAlike
import Derived.Deep.QuietTactic
import Derived.BigQuiet
namespace Go.Proofs.Ytbdefmjjhkonjaa
open Go.RowKit
set_option linter.unusedVariables false

theorem facts_and {a b : Bool} (ha : a = true) (hb : b = true) : (a && b) = true := by rw [ha, hb]; rfl
theorem hid {p : Prop} (h : p) : Hid p := h
theorem lt_of_heap {w : World} {b : Nat} {o : Obj} (h : w.heap[b]? = some o) : b < w.heap.size := lt_of_block h
theorem cell_of_heap {w : World} {b : Nat} {cs : Array Value} {t : TypeId} (h : w.heap[b]? = some (.cells cs t (0, 0))) (i : Nat) : w.cell? ⟨b, i, none⟩ = cs[i]? := by simp [World.cell?, h]
theorem free_of_heap {w : World} {b : Nat} {cs : Array Value} {t : TypeId} (h : w.heap[b]? = some (.cells cs t (0, 0))) (i : Nat) : w.frozen? ⟨b, i, none⟩ = false := by simp [World.frozen?, h]
theorem heap_set {w : World} {b : Nat} {cs : Array Value} {t : TypeId} (h : w.heap[b]? = some (.cells cs t (0, 0))) (i : Nat) (u : Value) : (w.setCell ⟨b, i, none⟩ u).heap[b]? = some (.cells (cs.setIfInBounds i u) t (0, 0)) := by
  have hlt := lt_of_block h
  have h' : w.heap[b] = .cells cs t (0, 0) := by simpa [Array.getElem?_eq_getElem hlt] using h
  show (w.heap.modify b _)[b]? = _
  rw [Array.getElem?_eq_getElem (by simpa using hlt), Array.getElem_modify_self, h']
  rfl
theorem heap_set_other {w : World} {b : Nat} {p : Addr} (hp : p.block ≠ b) (u : Value) : (w.setCell p u).heap[b]? = w.heap[b]? := Below.heap_setCell _ _ _ _ (fun e => hp e.symm)
theorem heap_alloc {w : World} {b : Nat} {o : Obj} (h : w.heap[b]? = some o) (o' : Obj) : (w.alloc o').heap[b]? = some o := by
  rw [Below.heap_alloc _ _ _ (lt_of_block h)]; exact h
theorem heap_new (w : World) (o : Obj) : (w.alloc o).heap[w.heap.size]? = some o := by show (w.heap.push o)[w.heap.size]? = _; simp
theorem bel_drewN {B : Nat} {a w : World} (h : Below B a w) (n : Nat) : Below B a (w.drewN n) := ⟨h.os, h.tape, h.output, h.size, h.block⟩

/-- all blocks of w but those in S are as they were -/
structure Held (S : List Nat) (w w' : World) : Prop where
  os : w'.os = w.os
  tape : w'.tape = w.tape
  output : w'.output = w.output
  size : w.heap.size ≤ w'.heap.size
  block : ∀ k, k < w.heap.size → k ∉ S → w'.heap[k]? = w.heap[k]?
theorem Held.refl (S : List Nat) (w : World) : Held S w w := ⟨rfl, rfl, rfl, Nat.le_refl _, fun _ _ _ => rfl⟩
theorem Held.trans {S : List Nat} {x y z : World} (h : Held S x y) (k : Held S y z) : Held S x z :=
  ⟨k.os.trans h.os, k.tape.trans h.tape, k.output.trans h.output, Nat.le_trans h.size k.size, fun i hi hb => (k.block i (Nat.lt_of_lt_of_le hi h.size) hb).trans (h.block i hi hb)⟩
/-- the second step may write what the first may, and what is new -/
theorem Held.step {S S' : List Nat} {x y z : World} (h : Held S x y) (k : Held S' y z) (hs : ∀ b ∈ S', b ∈ S ∨ x.heap.size ≤ b) : Held S x z :=
  ⟨k.os.trans h.os, k.tape.trans h.tape, k.output.trans h.output, Nat.le_trans h.size k.size, fun i hi hb => (k.block i (Nat.lt_of_lt_of_le hi h.size) (fun hm => by rcases hs i hm with h1 | h1; exact hb h1; omega)).trans (h.block i hi hb)⟩
theorem Held.more {S S' : List Nat} {x y : World} (h : Held S x y) (hs : ∀ b ∈ S, b ∈ S') : Held S' x y := ⟨h.os, h.tape, h.output, h.size, fun i hi hb => h.block i hi (fun hm => hb (hs i hm))⟩
theorem Held.of_below {S : List Nat} {w w' : World} (h : Below w.heap.size w w') : Held S w w' := ⟨h.os, h.tape, h.output, h.size, fun k hk _ => h.block k hk⟩
theorem Held.below {S : List Nat} {B : Nat} {w w' : World} (h : Held S w w') (hB : B ≤ w.heap.size) (hS : ∀ b ∈ S, B ≤ b) : Below B w w' := ⟨h.os, h.tape, h.output, h.size, fun k hk => h.block k (by omega) (fun hm => by have := hS k hm; omega)⟩
theorem Held.drewN {S : List Nat} {w w' : World} (h : Held S w w') (n : Nat) : Held S w (w'.drewN n) := ⟨h.os, h.tape, h.output, h.size, h.block⟩
theorem Held.alloc {S : List Nat} {w w' : World} (h : Held S w w') (o : Obj) : Held S w (w'.alloc o) := h.trans (Held.of_below ((Below.refl _ _).alloc (Nat.le_refl _) o))
theorem Held.setCell {S : List Nat} {w w' : World} (h : Held S w w') {p : Addr} (hp : p.block ∈ S ∨ w.heap.size ≤ p.block) (u : Value) : Held S w (w'.setCell p u) :=
  ⟨h.os, h.tape, h.output, by have := h.size; simpa using this, fun k hk hkb => (Below.heap_setCell _ _ _ _ (by rintro rfl; rcases hp with hp | hp; exact hkb hp; omega)).trans (h.block k hk hkb)⟩
theorem Held.heap {S : List Nat} {w w' : World} (h : Held S w w') {k : Nat} {o : Obj} (hk : w.heap[k]? = some o) (hn : k ∉ S) : w'.heap[k]? = some o := (h.block k (lt_of_heap hk) hn).trans hk

/-! ### entries -/
abbrev Ent := Int × Int
def ecl (L : List Ent) : List Value := L.flatMap fun p => [.int .u64 p.1, .int .u8 p.2]
/-- the entry a is newer than b -/
def nw (a b : Ent) : Bool := if a.1 = b.1 then decide (b.2 < a.2) else decide (b.1 < a.1)
def jn (a b : Ent) : Ent := if nw b a = true then b else a
def gd (L : List Ent) (i : Nat) : Ent := L.getD i (0, 0)
theorem ecl_cons (p : Ent) (L : List Ent) : ecl (p :: L) = .int .u64 p.1 :: .int .u8 p.2 :: ecl L := rfl
theorem ecl_append (a b : List Ent) : ecl (a ++ b) = ecl a ++ ecl b := by simp [ecl]
theorem ecl_length (L : List Ent) : (ecl L).length = 2 * L.length := by
  induction L with
  | nil => rfl
  | cons p L ih => rw [ecl_cons]; simp only [List.length_cons, ih]; omega
theorem ecl_get : ∀ (L : List Ent) (i : Nat), i < L.length → (ecl L)[i * 2]? = some (.int .u64 (gd L i).1) ∧ (ecl L)[i * 2 + 1]? = some (.int .u8 (gd L i).2)
  | p :: L, 0, _ => ⟨rfl, rfl⟩
  | p :: L, i + 1, h => by
    have ih := ecl_get L i (by simpa using h)
    rw [ecl_cons, show (i + 1) * 2 = i * 2 + 1 + 1 from by omega]
    exact ih
theorem ecl_set : ∀ (L : List Ent) (i : Nat) (e : Ent), ((ecl L).set (i * 2) (.int .u64 e.1)).set (i * 2 + 1) (.int .u8 e.2) = ecl (L.set i e)
  | [], i, e => by simp [ecl]
  | p :: L, 0, e => by simp [ecl]
  | p :: L, i + 1, e => by
    have ih := ecl_set L i e
    rw [List.set_cons_succ, ecl_cons, ecl_cons, show (i + 1) * 2 = i * 2 + 1 + 1 from by omega]
    simp only [List.set_cons_succ]
    rw [ih]
theorem ecl_set1 : ∀ (L : List Ent) (i : Nat) (s : Int), i < L.length → (ecl L).set (i * 2 + 1) (.int .u8 s) = ecl (L.set i ((gd L i).1, s))
  | p :: L, 0, s, _ => by simp [ecl, gd]
  | p :: L, i + 1, s, h => by
    have ih := ecl_set1 L i s (by simpa using h)
    rw [List.set_cons_succ, ecl_cons, ecl_cons, show (i + 1) * 2 + 1 = i * 2 + 1 + 1 + 1 from by omega]
    simp only [List.set_cons_succ]
    rw [ih]
    simp [gd]
theorem ecl_one : ∀ (L : List Ent) (v : Value), v ∈ ecl L → v.oneCell' = true := by
  intro L v hv
  unfold ecl at hv
  obtain ⟨p, _, h⟩ := List.mem_flatMap.1 hv
  simp only [List.mem_cons, List.not_mem_nil, or_false] at h
  rcases h with rfl | rfl <;> rfl
/-- the slice value v reads as the table L -/
def Tb (w : World) (v : Value) (L : List Ent) : Prop :=
  ∃ a c, v = .slice a L.length c ∧ L.length ≤ c ∧ (a = none → c = 0) ∧ (L ≠ [] → ∃ b o, a = some ⟨b, o, none⟩ ∧ b < w.heap.size ∧ ∀ j, j < (ecl L).length → w.cell? ⟨b, o + j, none⟩ = (ecl L)[j]?)
theorem tb_nil (w : World) : Tb w (.slice none 0 0) [] := ⟨none, 0, rfl, Nat.le_refl _, fun _ => rfl, fun h => absurd rfl h⟩
theorem Tb.len {w : World} {a : Option Addr} {n c : Nat} {L : List Ent} (h : Tb w (.slice a n c) L) : n = L.length := by
  obtain ⟨a', c', h1, _⟩ := h
  simp only [Value.slice.injEq] at h1
  exact h1.2.1
theorem Tb.cap {w : World} {a : Option Addr} {n c : Nat} {L : List Ent} (h : Tb w (.slice a n c) L) : n ≤ c ∧ (a = none → c = 0) := by
  obtain ⟨a', c', h1, h2, h3, _⟩ := h
  simp only [Value.slice.injEq] at h1
  obtain ⟨rfl, rfl, rfl⟩ := h1
  exact ⟨h2, h3⟩
theorem Tb.addr {w : World} {a : Option Addr} {n c : Nat} {L : List Ent} (h : Tb w (.slice a n c) L) (hn : 0 < n) : ∃ b o, a = some ⟨b, o, none⟩ ∧ b < w.heap.size := by
  have hl := h.len
  obtain ⟨a', c', h1, h2, h3, h4⟩ := h
  simp only [Value.slice.injEq] at h1
  obtain ⟨b, o, ha, hb, _⟩ := h4 (by rintro rfl; simp at hl; omega)
  exact ⟨b, o, h1.1.trans ha, hb⟩
theorem Tb.cells {w : World} {b o n c : Nat} {L : List Ent} (h : Tb w (.slice (some ⟨b, o, none⟩) n c) L) (i : Nat) (hi : i < n) :
    w.cell? ⟨b, o + i * 2, none⟩ = some (.int .u64 (gd L i).1) ∧ w.cell? ⟨b, o + i * 2 + 1, none⟩ = some (.int .u8 (gd L i).2) := by
  have hl := h.len
  obtain ⟨a', c', h1, h2, h3, h4⟩ := h
  simp only [Value.slice.injEq] at h1
  obtain ⟨b', o', ha, _, hc⟩ := h4 (by rintro rfl; simp at hl; omega)
  rw [← h1.1] at ha
  simp only [Option.some.injEq, Addr.mk.injEq, and_true] at ha
  obtain ⟨rfl, rfl⟩ := ha
  obtain ⟨g0, g1⟩ := ecl_get L i (by omega)
  have e := ecl_length L
  refine ⟨(hc (i * 2) (by omega)).trans g0, ?_⟩
  rw [show o + i * 2 + 1 = o + (i * 2 + 1) from by omega]
  exact (hc (i * 2 + 1) (by omega)).trans g1
theorem Tb.below {w w' : World} {v : Value} {L : List Ent} (h : Tb w v L) (k : Below w.heap.size w w') : Tb w' v L := by
  obtain ⟨a, c, h1, h2, h3, h4⟩ := h
  refine ⟨a, c, h1, h2, h3, fun hl => ?_⟩
  obtain ⟨b, o, ha, hb, hc⟩ := h4 hl
  exact ⟨b, o, ha, Nat.lt_of_lt_of_le hb k.size, fun j hj => (k.cell (p := ⟨b, o + j, none⟩) hb).trans (hc j hj)⟩
/-- v does not lead into a block of S -/
def Clear (S : List Nat) : Value → Prop | .slice (some a) _ _ => a.block ∉ S | _ => True
theorem Tb.held {S : List Nat} {w w' : World} {v : Value} {L : List Ent} (h : Tb w v L) (k : Held S w w') (hc : Clear S v) : Tb w' v L := by
  obtain ⟨a, c, h1, h2, h3, h4⟩ := h
  refine ⟨a, c, h1, h2, h3, fun hl => ?_⟩
  obtain ⟨b, o, ha, hb, hcl⟩ := h4 hl
  subst h1; subst ha
  exact ⟨b, o, rfl, Nat.lt_of_lt_of_le hb k.size, fun j hj => (World.cell?_of_block (w := w) (k.block b hb hc)).trans (hcl j hj)⟩
/-- block b is the row of the table L -/
def Row (w : World) (b : Nat) (L : List Ent) : Prop := w.heap[b]? = some (.cells (ecl L).toArray 36 (0, 0))
theorem Row.lt {w : World} {b : Nat} {L : List Ent} (h : Row w b L) : b < w.heap.size := lt_of_heap h
theorem Row.tb {w : World} {b : Nat} {L : List Ent} (h : Row w b L) (c : Nat) (hc : L.length ≤ c) : Tb w (.slice (some ⟨b, 0, none⟩) L.length c) L :=
  ⟨_, c, rfl, hc, (fun e => by cases e), fun _ => ⟨b, 0, rfl, h.lt, fun j hj => by rw [Nat.zero_add, cell_of_heap h]; simp⟩⟩
theorem Row.cells {w : World} {b : Nat} {L : List Ent} (h : Row w b L) (i : Nat) (hi : i < L.length) :
    w.cell? ⟨b, i * 2, none⟩ = some (.int .u64 (gd L i).1) ∧ w.cell? ⟨b, i * 2 + 1, none⟩ = some (.int .u8 (gd L i).2) := by
  obtain ⟨g0, g1⟩ := ecl_get L i hi
  rw [cell_of_heap h, cell_of_heap h]
  simpa using ⟨g0, g1⟩
theorem Row.free {w : World} {b : Nat} {L : List Ent} (h : Row w b L) (i : Nat) : w.frozen? ⟨b, i, none⟩ = false := free_of_heap h i
theorem Row.set {w : World} {b : Nat} {L : List Ent} (h : Row w b L) (i : Nat) (e : Ent) : Row ((w.setCell ⟨b, i * 2, none⟩ (.int .u64 e.1)).setCell ⟨b, i * 2 + 1, none⟩ (.int .u8 e.2)) b (L.set i e) := by
  have h1 := heap_set (heap_set h (i * 2) (.int .u64 e.1)) (i * 2 + 1) (.int .u8 e.2)
  unfold Row
  rw [h1, ← ecl_set]
  simp
theorem Row.set1 {w : World} {b : Nat} {L : List Ent} (h : Row w b L) (i : Nat) (s : Int) (hi : i < L.length) : Row (w.setCell ⟨b, i * 2 + 1, none⟩ (.int .u8 s)) b (L.set i ((gd L i).1, s)) := by
  have h1 := heap_set h (i * 2 + 1) (.int .u8 s)
  unfold Row
  rw [h1, ← ecl_set1 _ _ _ hi]
  simp

theorem ret_b {a b : Bool} (h : a = b) : Ending.returned (.bool a) = .returned (.bool b) := by rw [h]
theorem ret_i {k : IntKind} {a b : Int} (h : a = b) : Ending.returned (.int k a) = .returned (.int k b) := by rw [h]
theorem bcell {W w1 : World} {B : Nat} (hb : Below B W w1) : (∀ b o, b < B → w1.cell? ⟨b, o, none⟩ = W.cell? ⟨b, o, none⟩) ∧ (∀ b o, b < B → w1.frozen? ⟨b, o, none⟩ = W.frozen? ⟨b, o, none⟩) :=
  ⟨fun b o h => hb.cell (p := ⟨b, o, none⟩) h, fun b o h => hb.frozen (p := ⟨b, o, none⟩) h⟩
set_option maxHeartbeats 400000 in
theorem Newer_any (i1 s1 i2 s2 : Int) (w : World) :
    Calls Try.prog 27 #[.agg #[.int .u64 i1, .int .u8 s1], .agg #[.int .u64 i2, .int .u8 s2]] w fun e w' => e = .returned (.bool (nw (i1, s1) (i2, s2))) ∧ Below w.heap.size w w' := by
  by_cases h : i1 = i2
  · have b1 : (i1 != i2) = false := by simpa using h
    have hn := hid (show nw (i1, s1) (i2, s2) = decide (s2 < s1) by simp [nw, h])
    clear h
    go_enter Try.func27, Try.ntmps27
    go_wp2
    go_ret
    exact ⟨ret_b hn.out.symm, ((Below.refl _ _).alloc (Nat.le_refl _) _).alloc (by simp) _⟩
  · have b1 : (i1 != i2) = true := by simpa using h
    have hn := hid (show nw (i1, s1) (i2, s2) = decide (i2 < i1) by simp [nw, h])
    clear h
    go_enter Try.func27, Try.ntmps27
    go_wp2
    go_ret
    exact ⟨ret_b hn.out.symm, ((Below.refl _ _).alloc (Nat.le_refl _) _).alloc (by simp) _⟩
set_option maxHeartbeats 400000 in
theorem RNewer_any (i1 s1 i2 s2 : Int) (w : World) :
    Calls Try.prog 72 #[.agg #[.int .u64 i1, .int .u8 s1], .agg #[.int .u64 i2, .int .u8 s2]] w fun e w' => e = .returned (.bool (nw (i1, s1) (i2, s2))) ∧ Below w.heap.size w w' := by
  by_cases h : i1 = i2
  · have b1 : (i1 != i2) = false := by simpa using h
    have hn := hid (show nw (i1, s1) (i2, s2) = decide (s2 < s1) by simp [nw, h])
    clear h
    go_enter Try.func72, Try.ntmps72
    go_wp2
    go_ret
    exact ⟨ret_b hn.out.symm, ((Below.refl _ _).alloc (Nat.le_refl _) _).alloc (by simp) _⟩
  · have b1 : (i1 != i2) = true := by simpa using h
    have hn := hid (show nw (i1, s1) (i2, s2) = decide (i2 < i1) by simp [nw, h])
    clear h
    go_enter Try.func72, Try.ntmps72
    go_wp2
    go_ret
    exact ⟨ret_b hn.out.symm, ((Below.refl _ _).alloc (Nat.le_refl _) _).alloc (by simp) _⟩
set_option maxHeartbeats 400000 in
theorem Join_any (i1 s1 i2 s2 : Int) (w : World) :
    Calls Try.prog 28 #[.agg #[.int .u64 i1, .int .u8 s1], .agg #[.int .u64 i2, .int .u8 s2]] w fun e w' => e = .returned (.agg #[.int .u64 (jn (i1, s1) (i2, s2)).1, .int .u8 (jn (i1, s1) (i2, s2)).2]) ∧ Below w.heap.size w w' := by
  by_cases h : nw (i2, s2) (i1, s1) = true
  · have hj := hid (show jn (i1, s1) (i2, s2) = (i2, s2) by simp [jn, h])
    go_enter Try.func28, Try.ntmps28
    go_wp2_with fail
    refine (Newer_any _ _ _ _ _).mono ?_
    rintro e w1 ⟨rfl, hb⟩
    rw [h]
    clear h
    obtain ⟨hc, hf⟩ := bcell hb
    have hz : w.heap.size + 1 + 1 + 1 ≤ w1.heap.size := by have := hb.size; simp at this; omega
    go_wp2
    refine bodyPost_ret (v := .agg #[.int .u64 i2, .int .u8 s2]) (by simp [results, Try.results28, go_sem, hc]) rfl ⟨by rw [hj.out], ?_⟩
    exact (((((Below.refl _ _).alloc (Nat.le_refl _) _).alloc (by simp) _).alloc (by simp; omega) _).trans (hb.mono (by simp; omega))).setCell (by simp; omega) _ |>.setCell (by simp; omega) _
  · have hj := hid (show jn (i1, s1) (i2, s2) = (i1, s1) by simp [jn, h])
    go_enter Try.func28, Try.ntmps28
    go_wp2_with fail
    refine (Newer_any _ _ _ _ _).mono ?_
    rintro e w1 ⟨rfl, hb⟩
    have h2 : nw (i2, s2) (i1, s1) = false := by simpa using h
    rw [h2]
    clear h h2
    obtain ⟨hc, hf⟩ := bcell hb
    have hz : w.heap.size + 1 + 1 + 1 ≤ w1.heap.size := by have := hb.size; simp at this; omega
    go_wp2
    refine bodyPost_ret (v := .agg #[.int .u64 i1, .int .u8 s1]) (by simp [results, Try.results28, go_sem, hc]) rfl ⟨by rw [hj.out], ?_⟩
    exact (((((Below.refl _ _).alloc (Nat.le_refl _) _).alloc (by simp) _).alloc (by simp; omega) _).trans (hb.mono (by simp; omega))).setCell (by simp; omega) _ |>.setCell (by simp; omega) _
set_option maxHeartbeats 400000 in
theorem RJoin_any (i1 s1 i2 s2 : Int) (w : World) :
    Calls Try.prog 59 #[.agg #[.int .u64 i1, .int .u8 s1], .agg #[.int .u64 i2, .int .u8 s2]] w fun e w' => e = .returned (.agg #[.int .u64 (jn (i1, s1) (i2, s2)).1, .int .u8 (jn (i1, s1) (i2, s2)).2]) ∧ Below w.heap.size w w' := by
  by_cases h : nw (i2, s2) (i1, s1) = true
  · have hj := hid (show jn (i1, s1) (i2, s2) = (i2, s2) by simp [jn, h])
    go_enter Try.func59, Try.ntmps59
    go_wp2_with fail
    refine (RNewer_any _ _ _ _ _).mono ?_
    rintro e w1 ⟨rfl, hb⟩
    rw [h]
    clear h
    obtain ⟨hc, hf⟩ := bcell hb
    have hz : w.heap.size + 1 + 1 + 1 ≤ w1.heap.size := by have := hb.size; simp at this; omega
    go_wp2
    refine bodyPost_ret (v := .agg #[.int .u64 i2, .int .u8 s2]) (by simp [results, Try.results59, go_sem, hc]) rfl ⟨by rw [hj.out], ?_⟩
    exact (((((Below.refl _ _).alloc (Nat.le_refl _) _).alloc (by simp) _).alloc (by simp; omega) _).trans (hb.mono (by simp; omega))).setCell (by simp; omega) _ |>.setCell (by simp; omega) _
  · have hj := hid (show jn (i1, s1) (i2, s2) = (i1, s1) by simp [jn, h])
    go_enter Try.func59, Try.ntmps59
    go_wp2_with fail
    refine (RNewer_any _ _ _ _ _).mono ?_
    rintro e w1 ⟨rfl, hb⟩
    have h2 : nw (i2, s2) (i1, s1) = false := by simpa using h
    rw [h2]
    clear h h2
    obtain ⟨hc, hf⟩ := bcell hb
    have hz : w.heap.size + 1 + 1 + 1 ≤ w1.heap.size := by have := hb.size; simp at this; omega
    go_wp2
    refine bodyPost_ret (v := .agg #[.int .u64 i1, .int .u8 s1]) (by simp [results, Try.results59, go_sem, hc]) rfl ⟨by rw [hj.out], ?_⟩
    exact (((((Below.refl _ _).alloc (Nat.le_refl _) _).alloc (by simp) _).alloc (by simp; omega) _).trans (hb.mono (by simp; omega))).setCell (by simp; omega) _ |>.setCell (by simp; omega) _
end Go.Proofs.Ytbdefmjjhkonjaa
