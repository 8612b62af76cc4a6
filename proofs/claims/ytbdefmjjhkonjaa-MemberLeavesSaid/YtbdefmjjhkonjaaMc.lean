/-
  The machine in memory; New; the calls that only read it.
-/
import Derived.Test.YtbdefmjjhkonjaaEb
import Derived.IntWalk
import Derived.Deep.RegionHeld3
import Derived.Deep.RegionWith
import Derived.Deep.RegionLaw
namespace Go.Proofs.Ytbdefmjjhkonjaa
open Go Go.RowKit
set_option linter.unusedVariables false

def u6 (Z : List Int) : List Value := Z.map (Value.int .u64)
/-- the cells of a machine -/
def mch (self : Int) (tv sv : Value) (ck : Int) (pv : Value) (last pg dare : Int) : Array Value := #[.int .i64 self, tv, sv, .int .u64 ck, pv, .int .u64 last, .int .i64 pg, .int .u64 dare]
/-- a machine in memory: its block, its table's, its times' -/
structure Mc (w : World) (mb tb sb n : Nat) (me : Nat) (L : List Ent) (Z : List Int) (ck : Int) (pv : Value) (last pg dare : Int) : Prop where
  m : w.heap[mb]? = some (.cells (mch me (.slice (some ⟨tb, 0, none⟩) n n) (.slice (some ⟨sb, 0, none⟩) n n) ck pv last pg dare) 116 (0, 0))
  t : Row w tb L
  s : w.heap[sb]? = some (.cells (u6 Z).toArray 33 (0, 0))
  ln : L.length = n
  zn : Z.length = n
  mt : mb ≠ tb
  ms : mb ≠ sb
  ts : tb ≠ sb
theorem mch_cells {w : World} {mb : Nat} {self : Int} {tv sv : Value} {ck : Int} {pv : Value} {last pg dare : Int} (h : w.heap[mb]? = some (.cells (mch self tv sv ck pv last pg dare) 116 (0, 0))) :
    w.cell? ⟨mb, 0, none⟩ = some (.int .i64 self) ∧ w.cell? ⟨mb, 1, none⟩ = some tv ∧ w.cell? ⟨mb, 2, none⟩ = some sv ∧ w.cell? ⟨mb, 3, none⟩ = some (.int .u64 ck) ∧ w.cell? ⟨mb, 4, none⟩ = some pv ∧ w.cell? ⟨mb, 5, none⟩ = some (.int .u64 last) ∧ w.cell? ⟨mb, 6, none⟩ = some (.int .i64 pg) ∧ w.cell? ⟨mb, 7, none⟩ = some (.int .u64 dare) := by
  refine ⟨?_, ?_, ?_, ?_, ?_, ?_, ?_, ?_⟩ <;> rw [cell_of_heap h] <;> rfl
theorem made_ent (n : Nat) : madeCells #[.int .u64 0, .int .u8 0] (n * 2) = (ecl (List.replicate n (0, 0))).toArray := by
  apply Array.ext
  · simp [madeCells, ecl_length]; omega
  · intro i h1 h2
    have h3 : i < n * 2 := by simpa [madeCells] using h1
    obtain ⟨g0, g1⟩ := ecl_get (List.replicate n (0, 0)) (i / 2) (by simp; omega)
    have hg : gd (List.replicate n (0, 0)) (i / 2) = (0, 0) := by
      unfold gd
      rw [List.getD_eq_getElem?_getD, List.getElem?_replicate, if_pos (by omega)]; rfl
    rw [hg] at g0 g1
    have e : (madeCells #[.int .u64 0, .int .u8 0] (n * 2))[i] = if i % 2 = 0 then .int .u64 0 else .int .u8 0 := by
      simp only [madeCells, Array.getElem_map, Array.getElem_range]
      rcases (show i % 2 = 0 ∨ i % 2 = 1 from by omega) with h | h
      · rw [if_pos h]; show #[Value.int .u64 0, Value.int .u8 0][i % 2]! = _; rw [h]; rfl
      · rw [if_neg (by omega)]; show #[Value.int .u64 0, Value.int .u8 0][i % 2]! = _; rw [h]; rfl
    rw [e, List.getElem_toArray]
    rcases (show i % 2 = 0 ∨ i % 2 = 1 from by omega) with h | h
    · rw [if_pos h]
      rw [show i / 2 * 2 = i from by omega] at g0
      rw [List.getElem?_eq_getElem (by simpa using h2)] at g0
      exact (Option.some.inj g0).symm
    · rw [if_neg (by omega)]
      rw [show i / 2 * 2 + 1 = i from by omega] at g1
      rw [List.getElem?_eq_getElem (by simpa using h2)] at g1
      exact (Option.some.inj g1).symm
theorem made_u6 (n : Nat) : madeCells #[.int .u64 0] (n * 1) = (u6 (List.replicate n 0)).toArray := by
  apply Array.ext
  · simp [madeCells, u6]
  · intro i h1 h2
    simp [madeCells, u6, Nat.mod_one]
theorem infoE : (Try.prog.info? 36).map (fun i => (i.zero, i.size, i.bytes)) = some (some (.agg #[.int .u64 0, .int .u8 0]), 2, 16) := by kernel_rfl
theorem infoU : (Try.prog.info? 33).map (fun i => (i.zero, i.size, i.bytes)) = some (some (.int .u64 0), 1, 8) := by kernel_rfl
def erow (n : Nat) : Obj := .cells (ecl (List.replicate n (0, 0))).toArray 36
def urow (n : Nat) : Obj := .cells (u6 (List.replicate n 0)).toArray 33
theorem mk_e (n : Nat) (hn : n ≤ 100000) (w : World) : (Instr.makeSlice 22 (.int .i64 n) (.int .i64 n)).run Try.prog w = .ok (.slice (some ⟨w.heap.size, 0, none⟩) n n) (w.alloc (erow n)) := by
  obtain ⟨i0, hi, hz0, hz1, hz2⟩ := info_parts infoE
  have h := run_make (P := Try.prog) w 22 36 i0 _ Try.underlying22 hi hz0 .i64 .i64 n n (by omega) (by omega) (by rw [hz2]; omega) (by omega)
  rw [h, hz1]
  simp only [Int.toNat_natCast, Value.cells, made_ent]
  rfl
theorem mk_u (n : Nat) (hn : n ≤ 100000) (w : World) : (Instr.makeSlice 62 (.int .i64 n) (.int .i64 n)).run Try.prog w = .ok (.slice (some ⟨w.heap.size, 0, none⟩) n n) (w.alloc (urow n)) := by
  obtain ⟨i0, hi, hz0, hz1, hz2⟩ := info_parts infoU
  have h := run_make (P := Try.prog) w 62 33 i0 _ Try.underlying62 hi hz0 .i64 .i64 n n (by omega) (by omega) (by rw [hz2]; omega) (by omega)
  rw [h, hz1]
  simp only [Int.toNat_natCast, Value.cells, made_u6]
  rfl

theorem heap_new_at (w : World) (o : Obj) {k : Nat} (h : k = w.heap.size) : (w.alloc o).heap[k]? = some o := by subst h; exact heap_new w o
theorem gd_rep (n i : Nat) : gd (List.replicate n (0, 0)) i = (0, 0) := by
  unfold gd
  rw [List.getD_eq_getElem?_getD, List.getElem?_replicate]
  split <;> rfl
theorem Row.keep {w w' : World} {b : Nat} {L : List Ent} (h : Row w b L) (k : w'.heap[b]? = w.heap[b]?) : Row w' b L := k.trans h
/-- what holds of the world behind New's makes -/
theorem new_laid {w W : World} {mb tb sb n self : Nat} {pv : Value} (inc : Int) (hb : Below w.heap.size w W) (hm : W.heap[mb]? = some (.cells (mch self (.slice (some ⟨tb, 0, none⟩) n n) (.slice (some ⟨sb, 0, none⟩) n n) 0 (.slice none 0 0) 0 self 0) 116 (0, 0)))
    (ht : W.heap[tb]? = some (erow n)) (hs : W.heap[sb]? = some (urow n)) (h1 : mb ≠ tb) (h2 : mb ≠ sb) (h3 : tb ≠ sb) (g1 : w.heap.size ≤ mb) (g2 : w.heap.size ≤ tb) (g3 : w.heap.size ≤ sb) :
    Mc ((W.setCell ⟨tb, self * 2, none⟩ (.int .u64 inc)).setCell ⟨tb, self * 2 + 1, none⟩ (.int .u8 1)) mb tb sb n self ((List.replicate n (0, 0)).set self (inc, 1)) (List.replicate n 0) 0 (.slice none 0 0) 0 self 0 ∧ w.heap.size ≤ mb ∧ w.heap.size ≤ tb ∧ w.heap.size ≤ sb ∧
      Below w.heap.size w ((W.setCell ⟨tb, self * 2, none⟩ (.int .u64 inc)).setCell ⟨tb, self * 2 + 1, none⟩ (.int .u8 1)) := by
  have hr : Row W tb (List.replicate n (0, 0)) := ht
  refine ⟨⟨?_, hr.set self (inc, 1), ?_, by simp, by simp, h1, h2, h3⟩, g1, g2, g3, (hb.setCell (by exact g2) _).setCell (by exact g2) _⟩
  · rw [heap_set_other (fun e => h1 e.symm), heap_set_other (fun e => h1 e.symm)]; exact hm
  · rw [heap_set_other (fun e => h3 e), heap_set_other (fun e => h3 e)]; exact hs

set_option maxRecDepth 100000 in
set_option maxHeartbeats 1000000 in
theorem New_ok (self n : Nat) (inc : Int) (w : World) (h1 : 2 ≤ n) (h2 : n ≤ 16) (h3 : self < n) (h4 : 1 ≤ inc) :
    Calls Try.prog 34 #[.int .i64 self, .int .i64 n, .int .u64 inc] w fun e w' => ∃ mb tb sb, e = .returned (.tuple #[.pointer (some ⟨mb, 0, none⟩), .int .i64 0]) ∧
      Mc w' mb tb sb n self ((List.replicate n (0, 0)).set self (inc, 1)) (List.replicate n 0) 0 (.slice none 0 0) 0 self 0 ∧ w.heap.size ≤ mb ∧ w.heap.size ≤ tb ∧ w.heap.size ≤ sb ∧ Below w.heap.size w w' := by
  have hme := mk_e n (by omega)
  have hmu := mk_u n (by omega)
  go_enter Try.func34, Try.ntmps34
  go_wp2_with fail
  go_region_with (fail)
  · obtain ⟨W, hW⟩ : ∃ W, W = (((w.alloc (erow n)).alloc (urow n)).alloc (Obj.cells (mch self (.slice (some ⟨w.heap.size, 0, none⟩) n n) (.slice (some ⟨w.heap.size + 1, 0, none⟩) n n) 0 (.slice none 0 0) 0 self 0) 116)).drew := ⟨_, rfl⟩
    have hb : Below w.heap.size w W := by rw [hW]; exact bel_drewN ((((Below.refl _ _).alloc (Nat.le_refl _) _).alloc (by simp) _).alloc (by simp; omega) _) 1
    have ht : W.heap[w.heap.size]? = some (erow n) := by rw [hW]; exact heap_alloc (heap_alloc (heap_new _ _) _) _
    have hs : W.heap[w.heap.size + 1]? = some (urow n) := by rw [hW]; exact heap_alloc (heap_new_at _ _ (by simp)) _
    have hm : W.heap[w.heap.size + 1 + 1]? = some (.cells (mch self (.slice (some ⟨w.heap.size, 0, none⟩) n n) (.slice (some ⟨w.heap.size + 1, 0, none⟩) n n) 0 (.slice none 0 0) 0 self 0) 116 (0, 0)) := by rw [hW]; exact heap_new_at _ _ (by simp)
    have H := hid (new_laid (pv := .slice none 0 0) inc hb hm ht hs (by omega) (by omega) (by omega) (by omega) (by omega) (by omega))
    have c1 := (mch_cells hm).2.1
    have hr : Row W w.heap.size (List.replicate n (0, 0)) := ht
    obtain ⟨r0, r1⟩ := hr.cells self (by simpa using h3)
    have f0 := hr.free (self * 2)
    have f1 := hr.free (self * 2 + 1)
    change Exit.then _ _ _ _ ((((w.alloc (erow n)).alloc (urow n)).alloc (Obj.cells (mch self (.slice (some ⟨w.heap.size, 0, none⟩) n n) (.slice (some ⟨w.heap.size + 1, 0, none⟩) n n) 0 (.slice none 0 0) 0 self 0) 116)).drew)
    rw [← hW]
    clear hb ht hs hm hW hr
    go_wp2
    go_ret2
    exact ⟨_, _, _, rfl, H.out⟩
  · obtain ⟨W, hW⟩ : ∃ W, W = (((w.alloc (urow n)).alloc (erow n)).alloc (Obj.cells (mch self (.slice (some ⟨w.heap.size + 1, 0, none⟩) n n) (.slice (some ⟨w.heap.size, 0, none⟩) n n) 0 (.slice none 0 0) 0 self 0) 116)).drew := ⟨_, rfl⟩
    have hb : Below w.heap.size w W := by rw [hW]; exact bel_drewN ((((Below.refl _ _).alloc (Nat.le_refl _) _).alloc (by simp) _).alloc (by simp; omega) _) 1
    have hs : W.heap[w.heap.size]? = some (urow n) := by rw [hW]; exact heap_alloc (heap_alloc (heap_new _ _) _) _
    have ht : W.heap[w.heap.size + 1]? = some (erow n) := by rw [hW]; exact heap_alloc (heap_new_at _ _ (by simp)) _
    have hm : W.heap[w.heap.size + 1 + 1]? = some (.cells (mch self (.slice (some ⟨w.heap.size + 1, 0, none⟩) n n) (.slice (some ⟨w.heap.size, 0, none⟩) n n) 0 (.slice none 0 0) 0 self 0) 116 (0, 0)) := by rw [hW]; exact heap_new_at _ _ (by simp)
    have H := hid (new_laid (pv := .slice none 0 0) inc hb hm ht hs (by omega) (by omega) (by omega) (by omega) (by omega) (by omega))
    have c1 := (mch_cells hm).2.1
    have hr : Row W (w.heap.size + 1) (List.replicate n (0, 0)) := ht
    obtain ⟨r0, r1⟩ := hr.cells self (by simpa using h3)
    have f0 := hr.free (self * 2)
    have f1 := hr.free (self * 2 + 1)
    change Exit.then _ _ _ _ ((((w.alloc (urow n)).alloc (erow n)).alloc (Obj.cells (mch self (.slice (some ⟨w.heap.size + 1, 0, none⟩) n n) (.slice (some ⟨w.heap.size, 0, none⟩) n n) 0 (.slice none 0 0) 0 self 0) 116)).drew)
    rw [← hW]
    clear hb ht hs hm hW hr
    go_wp2
    go_ret2
    exact ⟨_, _, _, rfl, H.out⟩

/-! ### the calls that only read -/
theorem Challenge_any {mb tb sb n self : Nat} {L : List Ent} {Z : List Int} {ck : Int} {pv : Value} {last pg dare : Int} (w : World) (h : Mc w mb tb sb n self L Z ck pv last pg dare) :
    Calls Try.prog 48 #[.pointer (some ⟨mb, 0, none⟩)] w fun e w' => e = .returned (.int .u64 dare) ∧ w' = w := by
  obtain ⟨c0, c1, c2, c3, c4, c5, c6, c7⟩ := mch_cells h.m
  clear h
  go_enter Try.func48, Try.ntmps48
  go_wp2
  go_ret
  exact ⟨rfl, rfl⟩
theorem Clock_any {mb tb sb n self : Nat} {L : List Ent} {Z : List Int} {ck : Int} {pv : Value} {last pg dare : Int} (w : World) (h : Mc w mb tb sb n self L Z ck pv last pg dare) :
    Calls Try.prog 47 #[.pointer (some ⟨mb, 0, none⟩)] w fun e w' => e = .returned (.int .u64 ck) ∧ w' = w := by
  obtain ⟨c0, c1, c2, c3, c4, c5, c6, c7⟩ := mch_cells h.m
  clear h
  go_enter Try.func47, Try.ntmps47
  go_wp2
  go_ret
  exact ⟨rfl, rfl⟩
theorem hasLeft_any {mb tb sb n self : Nat} {L : List Ent} {Z : List Int} {ck : Int} {pv : Value} {last pg dare : Int} (w : World) (h : Mc w mb tb sb n self L Z ck pv last pg dare) (hs : self < n) :
    Calls Try.prog 63 #[.pointer (some ⟨mb, 0, none⟩)] w fun e w' => e = .returned (.bool ((gd L self).2 == 4)) ∧ ∃ q, w' = w.drewN q := by
  obtain ⟨c0, c1, c2, c3, c4, c5, c6, c7⟩ := mch_cells h.m
  obtain ⟨r0, r1⟩ := h.t.cells self (by have := h.ln; omega)
  clear h
  generalize (gd L self).2 = st at *
  generalize (gd L self).1 = ic at *
  go_enter Try.func63, Try.ntmps63
  go_wp2
  go_quiet (fail)
  go_wp2
  go_ret
  exact ⟨rfl, _, rfl⟩
theorem following_any {mb tb sb n self : Nat} {L : List Ent} {Z : List Int} {ck : Int} {pv : Value} {last pg dare : Int} (p : Nat) (w : World) (h : Mc w mb tb sb n self L Z ck pv last pg dare) (hp : p < n) (hn : n ≤ 16) :
    Calls Try.prog 86 #[.pointer (some ⟨mb, 0, none⟩), .int .i64 p] w fun e w' => e = .returned (.int .i64 (((p + 1) % n : Nat) : Int)) ∧ w' = w := by
  obtain ⟨c0, c1, c2, c3, c4, c5, c6, c7⟩ := mch_cells h.m
  clear h
  go_enter Try.func86, Try.ntmps86
  go_wp2
  go_ret
  exact ⟨by simp, rfl⟩

/-! ### the live peers -/
def liveE (e : Ent) : Bool := (e.2 == 1) || (e.2 == 2)
/-- the live peers among the first n, from number i on -/
def liveL (L : List Ent) (k : Nat) : List Nat := (List.range k).filter fun i => liveE (gd L i)
def ints (l : List Nat) : List Value := l.map fun (i : Nat) => .int .i64 (i : Int)
theorem liveL_yes {L : List Ent} {k : Nat} (h : liveE (gd L k) = true) : liveL L (k + 1) = liveL L k ++ [k] := by simp [liveL, List.range_succ, h]
theorem liveL_no {L : List Ent} {k : Nat} (h : liveE (gd L k) = false) : liveL L (k + 1) = liveL L k := by simp [liveL, List.range_succ, h]
theorem liveL_len (L : List Ent) (k : Nat) : (liveL L k).length ≤ k := by unfold liveL; exact Nat.le_trans (List.length_filter_le _ _) (by simp)
theorem infoI : (Try.prog.info? 3).map (fun i => (i.zero, i.size, i.bytes)) = some (some (.int .i64 0), 1, 8) := by kernel_rfl
end Go.Proofs.Ytbdefmjjhkonjaa
