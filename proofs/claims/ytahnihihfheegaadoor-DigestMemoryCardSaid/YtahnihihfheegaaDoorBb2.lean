/-
  schedule: the words of a chunk. · string(bytes) of bytes that read as a list. · append([]byte{}, s...): a copy of bytes in new memory. · More: a made row with room, and appending bytes to a row of one's own. · Hex: a digest as digits.
-/
import Derived.Test.YtahnihihfheegaaDoorBb1
import Derived.Deep.WholeRow
import Derived.Deep.MidRow
import Derived.Laws.ResultCell
import Derived.Laws.BytesArg
import Derived.Laws.AppendOwnNone
import Derived.Deep.RegionHeld3
import Derived.Deep.AppendLies
import Derived.Lib.Tables
namespace Go.Proofs.YtahnihihfheegaaDoor
open Go Go.RowKit
set_option linter.unusedVariables false

def u32s (l : List Nat) : List Value := l.map fun (n : Nat) => .int .u32 n
/-- a row of words -/
def OwnW (w : World) (b : Nat) (l : List Nat) : Prop := w.heap[b]? = some (.cells (u32s l).toArray 107 (0, 0))
/-- the cells of a Hash -/
def hcells (h c : List Nat) (size : Nat) : List Value := u32s h ++ (u8s c ++ [.int .i64 (size : Int)])
structure HashAt (w : World) (hb : Nat) (h c : List Nat) (size : Nat) : Prop where
  at_ : w.heap[hb]? = some (.cells (hcells h c size).toArray 112 (0, 0))
  hl : h.length = 8
  cl : c.length = 64
  ho : ∀ i, h.getD i 0 < 4294967296
  co : ∀ i, c.getD i 0 < 256
theorem u32s_length (l : List Nat) : (u32s l).length = l.length := by simp [u32s]
theorem OwnW.cell {w : World} {b : Nat} {l : List Nat} (h : OwnW w b l) (i : Nat) (hi : i < l.length) : w.cell? ⟨b, i, none⟩ = some (.int .u32 ((l.getD i 0 : Nat) : Int)) := by
  rw [cell_of_heap h]
  simp [u32s, List.getElem?_eq_getElem hi]
theorem OwnW.free {w : World} {b : Nat} {l : List Nat} (h : OwnW w b l) (i : Nat) : w.frozen? ⟨b, i, none⟩ = false := free_of_heap h i
theorem OwnW.set {w : World} {b : Nat} {l : List Nat} (h : OwnW w b l) (i n : Nat) : OwnW (w.setCell ⟨b, i, none⟩ (.int .u32 ((n : Nat) : Int))) b (l.set i n) := by
  have h1 := heap_set h i (.int .u32 n)
  show _ = _
  rw [h1]
  simp [u32s, List.map_set]
theorem OwnW.lt {w : World} {b : Nat} {l : List Nat} (h : OwnW w b l) : b < w.heap.size := lt_of_heap h
theorem OwnW.same {w w' : World} {b : Nat} {l : List Nat} (h : OwnW w b l) (hs : w'.heap[b]? = w.heap[b]?) : OwnW w' b l := hs.trans h
theorem HashAt.same {w w' : World} {hb : Nat} {h c : List Nat} {size : Nat} (H : HashAt w hb h c size) (hs : w'.heap[hb]? = w.heap[hb]?) : HashAt w' hb h c size := ⟨hs.trans H.at_, H.hl, H.cl, H.ho, H.co⟩
theorem HashAt.lt {w : World} {hb : Nat} {h c : List Nat} {size : Nat} (H : HashAt w hb h c size) : hb < w.heap.size := lt_of_heap H.at_
theorem HashAt.word {w : World} {hb : Nat} {h c : List Nat} {size : Nat} (H : HashAt w hb h c size) (i : Nat) (hi : i < 8) : w.cell? ⟨hb, i, none⟩ = some (.int .u32 ((h.getD i 0 : Nat) : Int)) := by
  rw [cell_of_heap H.at_]
  have h1 : i < h.length := by rw [H.hl]; exact hi
  simp [hcells, u32s, List.getElem?_append_left, h1]
theorem HashAt.byte {w : World} {hb : Nat} {h c : List Nat} {size : Nat} (H : HashAt w hb h c size) (i : Nat) (hi : i < 64) : w.cell? ⟨hb, 8 + i, none⟩ = some (.int .u8 ((c.getD i 0 : Nat) : Int)) := by
  rw [cell_of_heap H.at_]
  have h1 : i < c.length := by rw [H.cl]; exact hi
  have h2 : (u32s h).length = 8 := by rw [u32s_length, H.hl]
  simp only [hcells, List.getElem?_toArray]
  rw [List.getElem?_append_right (by omega), h2, Nat.add_sub_cancel_left, List.getElem?_append_left (by simpa [u8s] using h1)]
  simp [u8s, h1]
theorem HashAt.size_ {w : World} {hb : Nat} {h c : List Nat} {size : Nat} (H : HashAt w hb h c size) : w.cell? ⟨hb, 72, none⟩ = some (.int .i64 (size : Int)) := by
  rw [cell_of_heap H.at_]
  have h2 : (u32s h).length = 8 := by rw [u32s_length, H.hl]
  have h3 : (u8s c).length = 64 := by simp [u8s, H.cl]
  simp only [hcells, List.getElem?_toArray]
  rw [List.getElem?_append_right (by omega), h2, List.getElem?_append_right (by omega), h3]
  rfl
/-- a whole array stored, as one step -/
theorem wpList_store_row {P : Program} {ops : Array Oper} {rest : List Oper} {op : Oper} {a : Act} {w : World} {Q : Exit → Act → World → Prop} (hgd : op.guard = none) (ty : TypeId) (x y : Operand) (ho : op.op = .store ty x y)
    (b : Nat) (old cells : Array Value) (t : TypeId) (hx : a.eval x = .pointer (some ⟨b, 0, none⟩)) (hy : a.eval y = .agg cells) (hg : w.heap[b]? = some (.cells old t (0, 0)))
    (hi : (P.info? ty).map (·.size) = some cells.size) (hs : old.size = cells.size) (h1 : cells.all (·.oneCell') = true)
    (h : ∀ w', w'.heap[b]? = some (.cells cells t (0, 0)) → Kept b w w' → wpList P ops Q rest (a.put op.dst undef) w') : wpList P ops Q (op :: rest) a w := by
  refine wpList_plain hgd fun _ hK => ?_
  unfold Oper.wp execOp
  simp only [ho, hx, hy, Instr.storeAt, Instr.sureAddr, Sem.run_bind, Sem.run_pure, Result.andThen_ok, run_storeVar_row w b t ty old cells hg hi hs h1]
  exact hK _ _ (h _ (setRow_heap w b old cells t (0, 0) hg) ⟨rfl, rfl, rfl, by simp [World.setRow], fun k _ hk => setRow_other w b k cells hk⟩)
theorem results_cell1 {fn : Func} {p : Tmp} {ty : TypeId} (h : fn.results = #[.cell p ty]) (tmps : Array Value) (P : Program) (w : World) :
    (results fn tmps).run P w = ((asAddr (tmps.getD p undef)).run P w).andThen fun a w₁ => (loadVar ty a).run P w₁ := by
  simp only [results, h]
  simp [Sem.run_bind, Result.andThen]
theorem results_at {fn : Func} {p : Tmp} {ty : TypeId} (h : fn.results = #[.cell p ty]) {tmps : Array Value} {P : Program} {w : World} {ad : Addr} {v : Value} (hp : tmps.getD p undef = .pointer (some ad)) (hv : (loadVar ty ad).run P w = .ok v w) :
    (results fn tmps).run P w = .ok v w := by
  rw [results_cell1 h, hp]
  simp [asAddr, hv]
theorem u32s_one (l : List Nat) : (u32s l).toArray.all (·.oneCell') = true := by
  refine all_oneCell_toArray fun v hv => ?_
  unfold u32s at hv
  obtain ⟨n, _, rfl⟩ := List.mem_map.1 hv
  rfl
/-- the words while the chunk is read -/
def w1L (c : Nat → Nat) (i j : Nat) : List Nat := (List.range 64).map fun t => if t < i then wj c t 4 else if t = i then wj c i j else 0
theorem w1L_getD (c : Nat → Nat) (i j t : Nat) : (w1L c i j).getD t 0 = if t < 64 then (if t < i then wj c t 4 else if t = i then wj c i j else 0) else 0 := by
  unfold w1L
  rw [List.getD_eq_getElem?_getD]
  by_cases h : t < 64
  · rw [if_pos h, List.getElem?_map, List.getElem?_range h]; rfl
  · rw [if_neg h, List.getElem?_eq_none (by simpa using h)]; rfl
theorem w1L_length (c : Nat → Nat) (i j : Nat) : (w1L c i j).length = 64 := by simp [w1L]
theorem w1L_step (c : Nat → Nat) (i j : Nat) (hi : i < 64) : (w1L c i j).set i (wj c i (j + 1)) = w1L c i (j + 1) := by
  unfold w1L
  apply List.ext_getElem
  · simp
  · intro t h1 h2
    rw [List.getElem_set]
    by_cases e : i = t
    · subst e; simp
    · rw [if_neg e]
      simp [show ¬ t = i from fun h => e h.symm]
theorem w1L_next (c : Nat → Nat) (i : Nat) : w1L c i 4 = w1L c (i + 1) 0 := by
  unfold w1L
  apply List.map_congr_left
  intro t _
  by_cases h : t < i
  · rw [if_pos h, if_pos (by omega)]
  · by_cases e : t = i
    · rw [if_neg h, if_pos e, if_pos (by omega), e]
    · rw [if_neg h, if_neg e, if_neg (by omega)]
      by_cases e2 : t = i + 1
      · rw [if_pos e2]; rfl
      · rw [if_neg e2]
/-- the words while the schedule grows -/
def w2L (c : Nat → Nat) (k : Nat) : List Nat := schL c k ++ List.replicate (48 - k) 0
theorem w2L_length (c : Nat → Nat) (k : Nat) (hk : k ≤ 48) : (w2L c k).length = 64 := by
  unfold w2L
  rw [List.length_append, schL_length, List.length_replicate]
  omega
theorem getD_ext2 {l m : List Nat} (hl : l.length = m.length) (h : ∀ j, j < l.length → l.getD j 0 = m.getD j 0) : l = m := by
  apply List.ext_getElem hl
  intro j h1 h2
  have h3 := h j h1
  rw [List.getD_eq_getElem?_getD, List.getD_eq_getElem?_getD, List.getElem?_eq_getElem h1, List.getElem?_eq_getElem h2] at h3
  exact h3
theorem zeros_getD (n j : Nat) : (List.replicate n 0).getD j 0 = 0 := by
  rw [List.getD_eq_getElem?_getD, List.getElem?_replicate]
  split <;> rfl
theorem w1_w2 (c : Nat → Nat) : w1L c 16 0 = w2L c 0 := by
  refine getD_ext2 (by rw [w1L_length, w2L_length c 0 (by omega)]) fun t ht => ?_
  rw [w1L_length] at ht
  rw [w1L_getD, if_pos ht]
  unfold w2L
  by_cases h : t < 16
  · rw [if_pos h, List.getD_eq_getElem?_getD, List.getElem?_append_left (by rw [schL_length]; exact h)]
    show _ = ((List.range 16).map fun i => wj c i 4)[t]?.getD 0
    rw [List.getElem?_map, List.getElem?_range h]
    rfl
  · rw [if_neg h, List.getD_eq_getElem?_getD, List.getElem?_append_right (by rw [schL_length]; omega), ← List.getD_eq_getElem?_getD, zeros_getD]
    split
    · rfl
    · rfl
theorem w2L_at (c : Nat → Nat) (k t : Nat) (ht : t < 16 + k) : (w2L c k).getD t 0 = (schL c k).getD t 0 := by
  unfold w2L
  rw [List.getD_eq_getElem?_getD, List.getElem?_append_left (by rw [schL_length]; exact ht), List.getD_eq_getElem?_getD]
theorem w2L_step (c : Nat → Nat) (k : Nat) (hk : k < 48) : (w2L c k).set (16 + k) (nx (schL c k) (16 + k)) = w2L c (k + 1) := by
  unfold w2L
  rw [List.set_append_right _ _ (by rw [schL_length]; omega), schL_length, Nat.sub_self]
  show _ = (schL c k ++ [_]) ++ _
  rw [List.append_assoc]
  congr 1
  rw [show 48 - k = (48 - (k + 1)) + 1 from by omega, List.replicate_succ]
  rfl
theorem w2L_last (c : Nat → Nat) : w2L c 48 = schL c 48 := by simp [w2L]
theorem or_word (x b : Nat) (hb : b < 256) : bits .or .u32 ((x : Int) * 256 % 4294967296) (b : Int) = (((x * 256 % 4294967296) ||| b : Nat) : Int) := by
  have e1 : (x : Int) * 256 % 4294967296 = ((x * 256 % 4294967296 : Nat) : Int) := by simp
  rw [e1]
  exact u32_or_nat _ _ (mod_lt32 _) (by omega)

set_option maxRecDepth 100000 in
set_option maxHeartbeats 4000000 in
theorem schedule_any (hb size : Nat) (h c : List Nat) (w : World) (H : HashAt w hb h c size) :
    Calls Tryd.prog 77 #[.pointer (some ⟨hb, 0, none⟩)] w fun e w' => e = .returned (.agg (u32s (schL (fun j => c.getD j 0) 48)).toArray) ∧ Below w.heap.size w w' := by
  have hco := H.co
  have HH := hid H
  have HCO := hid hco
  have hlt := H.lt
  obtain ⟨w2, hw2⟩ : ∃ w2, w2 = (w.alloc (.cells (u32s (List.replicate 64 0)).toArray 107)).alloc (.cells (u32s (List.replicate 64 0)).toArray 107) := ⟨_, rfl⟩
  have hb2 : Below w.heap.size w w2 := by rw [hw2]; exact ((Below.refl _ _).alloc (Nat.le_refl _) _).alloc (by simp) _
  have hO : OwnW w2 (w.heap.size + 1) (w1L (fun j => c.getD j 0) 0 0) := by
    have h5 := heap_new (w.alloc (.cells (u32s (List.replicate 64 0)).toArray 107)) (.cells (u32s (List.replicate 64 0)).toArray 107)
    rw [World.size_alloc] at h5
    rw [hw2]
    rw [show w1L (fun j => c.getD j 0) 0 0 = List.replicate 64 0 from getD_ext2 (by rw [w1L_length, List.length_replicate]) fun t ht => by
      rw [w1L_length] at ht
      rw [w1L_getD, if_pos ht, zeros_getD, if_neg (by omega)]
      split <;> rfl]
    exact h5
  have hR : OwnW w2 w.heap.size (List.replicate 64 0) := by rw [hw2]; exact heap_alloc (heap_new _ _) _
  have HO := hid hO
  have HR := hid hR
  have HB := hid hb2
  clear H hco hO hR hb2
  go_enter Tryd.func77, Tryd.ntmps77
  go_wp2
  change Code.wp _ _ _ _ ((w.alloc (.cells (u32s (List.replicate 64 0)).toArray 107)).alloc (.cells (u32s (List.replicate 64 0)).toArray 107))
  rw [← hw2]
  clear hw2
  go_loopw [11] (fun iv wr => ∃ i : Nat, i ≤ 16 ∧ iv = .int .i64 i ∧ Hid (OwnW wr (w.heap.size + 1) (w1L (fun j => c.getD j 0) i 0)) ∧ Hid (OwnW wr w.heap.size (List.replicate 64 0)) ∧ Hid (Below w.heap.size w wr)) (fun iv _ => 16 - (intOf iv).toNat)
  case atStart => exact ⟨0, by omega, rfl, HO, HR, HB⟩
  case round =>
    clear HO HR HB
    obtain ⟨i, hi, rfl, HO, HR, HB⟩ := hrel
    by_cases hi16 : i < 16
    · have hI : (i : Int) < 16 := by omega
      go_wp2
      go_loopw [14] (fun jv wr => ∃ j : Nat, j ≤ 4 ∧ jv = .int .i64 j ∧ Hid (OwnW wr (w.heap.size + 1) (w1L (fun j => c.getD j 0) i j)) ∧ Hid (OwnW wr w.heap.size (List.replicate 64 0)) ∧ Hid (Below w.heap.size w wr)) (fun jv _ => 4 - (intOf jv).toNat)
      case atStart => exact ⟨0, by omega, rfl, HO, HR, HB⟩
      case round =>
        clear HO HR HB
        obtain ⟨j, hj, rfl, HO, HR, HB⟩ := hrel
        by_cases hj4 : j < 4
        · have hJ : (j : Int) < 4 := by omega
          have c1 := HO.out.cell i (by rw [w1L_length]; omega)
          rw [w1L_getD, if_pos (by omega), if_neg (by omega), if_pos rfl] at c1
          have hbl : hb < w.heap.size := hlt
          have H2 := HH.out.same (HB.out.block hb hbl)
          obtain ⟨q, hq⟩ : ∃ q, q = 4 * i + j := ⟨_, rfl⟩
          have c2 := H2.byte q (by omega)
          have f1 := HO.out.free i
          have hcl := HCO.out q
          have hst : ∀ nq, OwnW ((wr.drewN nq).setCell ⟨w.heap.size + 1, i, none⟩ (.int .u32 ((wj (fun j => c.getD j 0) i (j + 1) : Nat) : Int))) (w.heap.size + 1) (w1L (fun j => c.getD j 0) i (j + 1)) := fun nq => by
            have h5 := (show OwnW (wr.drewN nq) _ _ from HO.out).set i (wj (fun j => c.getD j 0) i (j + 1))
            rwa [w1L_step _ _ _ (by omega)] at h5
          have HST := hid hst
          have HR2 : ∀ nq v, Hid (OwnW ((wr.drewN nq).setCell ⟨w.heap.size + 1, i, none⟩ v) w.heap.size (List.replicate 64 0)) := fun nq v => hid ((Below.heap_setCell (wr.drewN nq) ⟨w.heap.size + 1, i, none⟩ v _ (show w.heap.size ≠ w.heap.size + 1 by omega)).trans HR.out)
          have hwj : wj (fun j => c.getD j 0) i (j + 1) = (wj (fun j => c.getD j 0) i j * 256 % 4294967296) ||| c.getD q 0 := by rw [hq]; rfl
          have HWJ := hid hwj
          have hwl := wj_lt (c := fun j => c.getD j 0) HCO.out i j
          clear hst hwj H2
          generalize wj (fun j => c.getD j 0) i j = x at *
          generalize c.getD q 0 = y at *
          obtain ⟨xs, hxs⟩ : ∃ xs, xs = x * 256 % 4294967296 := ⟨_, rfl⟩
          have b9 : IntKind.u32.wrap ((x : Int) * 256) = (xs : Int) := by rw [IntKind.wrap_u32']; omega
          have hxl : xs < 4294967296 := by omega
          rw [← hxs] at HWJ
          have hor := u32_or_nat xs y hxl (by omega)
          clear hxs
          have m1 : (4 : Int) * (i : Int) + (j : Int) = (q : Int) := by omega
          have b1 : (i : Int) < 64 := by omega
          have b2 : i < 64 := by omega
          have b3 : (q : Int) < 64 := by omega
          have b4 : q < 64 := by omega
          have b5 : IntKind.i64.wrap (4 * (i : Int)) = 4 * (i : Int) := by rw [IntKind.wrap_i64]; omega
          have b8 : IntKind.i64.wrap (4 * (i : Int) + (j : Int)) = (q : Int) := by rw [IntKind.wrap_i64]; omega
          have b6 : IntKind.i64.wrap (q : Int) = (q : Int) := by rw [IntKind.wrap_i64]; omega
          have b7 : IntKind.u32.wrap (y : Int) = (y : Int) := by rw [IntKind.wrap_u32']; omega
          clear hq
          go_wp2
          refine region_quiet_tail 17 (by kernel_rfl) (by kernel_rfl) ?_
          simp only [List.take_succ_cons, List.take_zero, List.drop_succ_cons, List.drop_zero]
          repeat (quiet_step (fail))
          refine wpQuiet_nil ?_
          intro nq
          go_wp2
          rw [← HWJ.out]
          exact ⟨⟨j + 1, by omega, by go_num, hid (HST.out nq), HR2 nq _, hid ((bel_drewN HB.out nq).setCell (p := ⟨w.heap.size + 1, i, none⟩) (by show w.heap.size ≤ w.heap.size + 1; omega) _)⟩, by simp [intOf]; omega⟩
        · obtain rfl : j = 4 := by omega
          have HO1 := hid (show OwnW wr (w.heap.size + 1) (w1L (fun j => c.getD j 0) (i + 1) 0) from by rw [← w1L_next]; exact HO.out)
          clear HO
          go_wp2
          exact ⟨⟨i + 1, by omega, by go_num, HO1, HR, HB⟩, by simp [intOf]; omega⟩
    · have h16 : i = 16 := by omega
      have HO1 := hid (show OwnW wr (w.heap.size + 1) (w2L (fun j => c.getD j 0) 0) from by rw [← w1_w2, ← h16]; exact HO.out)
      have hI : ¬ ((i : Int) < 16) := by omega
      clear h16
      have HR1 := HR
      have HB1 := HB
      clear HO HR HB
      go_wp2
      go_loopw [6] (fun iv wr => ∃ k : Nat, k ≤ 48 ∧ iv = .int .i64 ((16 + k : Nat) : Int) ∧ Hid (OwnW wr (w.heap.size + 1) (w2L (fun j => c.getD j 0) k)) ∧ Hid (OwnW wr w.heap.size (List.replicate 64 0)) ∧ Hid (Below w.heap.size w wr)) (fun iv _ => 64 - (intOf iv).toNat)
      case atStart => exact ⟨0, by omega, rfl, HO1, HR1, HB1⟩
      case round =>
        clear HO1 HR1 HB1
        obtain ⟨k, hk, rfl, HO, HR, HB⟩ := hrel
        obtain ⟨i, hik⟩ : ∃ i, i = 16 + k := ⟨_, rfl⟩
        rw [← hik]
        by_cases hi64 : i < 64
        · have hlen := w2L_length (fun j => c.getD j 0) k hk
          have g1 := HO.out.cell (i - 15) (by rw [hlen]; omega)
          have g2 := HO.out.cell (i - 2) (by rw [hlen]; omega)
          have g3 := HO.out.cell (i - 16) (by rw [hlen]; omega)
          have g4 := HO.out.cell (i - 7) (by rw [hlen]; omega)
          rw [w2L_at _ _ _ (by omega)] at g1 g2 g3 g4
          have hsl := schL_lt (c := fun j => c.getD j 0) HCO.out k
          have hgl : ∀ t, (schL (fun j => c.getD j 0) k).getD t 0 < 4294967296 := fun t => by
            rw [List.getD_eq_getElem?_getD]
            by_cases h : t < (schL (fun j => c.getD j 0) k).length
            · rw [List.getElem?_eq_getElem h]; exact hsl _ (List.getElem_mem _)
            · rw [List.getElem?_eq_none (by omega)]; decide
          have f1 := HO.out.free i
          have hst : ∀ nq, OwnW ((wr.drewN nq).setCell ⟨w.heap.size + 1, i, none⟩ (.int .u32 ((nx (schL (fun j => c.getD j 0) k) i : Nat) : Int))) (w.heap.size + 1) (w2L (fun j => c.getD j 0) (k + 1)) := fun nq => by
            have h5 := (show OwnW (wr.drewN nq) _ _ from HO.out).set (16 + k) (nx (schL (fun j => c.getD j 0) k) (16 + k))
            rw [w2L_step _ _ (by omega), ← hik] at h5
            exact h5
          have g5 := HO.out.cell i (by rw [hlen]; omega)
          have HST := hid hst
          have HR2 : ∀ nq v, Hid (OwnW ((wr.drewN nq).setCell ⟨w.heap.size + 1, i, none⟩ v) w.heap.size (List.replicate 64 0)) := fun nq v => hid ((Below.heap_setCell (wr.drewN nq) ⟨w.heap.size + 1, i, none⟩ v _ (show w.heap.size ≠ w.heap.size + 1 by omega)).trans HR.out)
          have h1 := hgl (i - 15)
          have h2 := hgl (i - 2)
          have h3 := hgl (i - 16)
          have h4 := hgl (i - 7)
          have hnx : nx (schL (fun j => c.getD j 0) k) i = ad (ad (ad ((schL (fun j => c.getD j 0) k).getD (i - 16) 0) (ssE ((schL (fun j => c.getD j 0) k).getD (i - 15) 0))) ((schL (fun j => c.getD j 0) k).getD (i - 7) 0)) (ssL ((schL (fun j => c.getD j 0) k).getD (i - 2) 0)) := rfl
          have HNX := hid hnx
          have HIK := hid hik
          have hk' : k + 1 ≤ 48 := by omega
          clear hst hsl hgl hlen hnx
          generalize (schL (fun j => c.getD j 0) k).getD (i - 15) 0 = x at *
          generalize (schL (fun j => c.getD j 0) k).getD (i - 2) 0 = y at *
          generalize (schL (fun j => c.getD j 0) k).getD (i - 16) 0 = p at *
          generalize (schL (fun j => c.getD j 0) k).getD (i - 7) 0 = q at *
          generalize (w2L (fun j => c.getD j 0) k).getD i 0 = z at *
          have d1 : (i : Int) - 15 = ((i - 15 : Nat) : Int) := by omega
          have d2 : (i : Int) - 2 = ((i - 2 : Nat) : Int) := by omega
          have d3 : (i : Int) - 16 = ((i - 16 : Nat) : Int) := by omega
          have d4 : (i : Int) - 7 = ((i - 7 : Nat) : Int) := by omega
          have j1 : i - 15 < 64 := by omega
          have j2 : i - 2 < 64 := by omega
          have j3 : i - 16 < 64 := by omega
          have j4 : i - 7 < 64 := by omega
          have m1 : ((i - 15 : Nat) : Int) < 64 := by omega
          have m2 : ((i - 2 : Nat) : Int) < 64 := by omega
          have m3 : ((i - 16 : Nat) : Int) < 64 := by omega
          have m4 : ((i - 7 : Nat) : Int) < 64 := by omega
          have m5 : (i : Int) < 64 := by omega
          have n3 : IntKind.i64.wrap ((i - 16 : Nat) : Int) = ((i - 16 : Nat) : Int) := by rw [IntKind.wrap_i64]; omega
          have n4 : IntKind.i64.wrap ((i - 7 : Nat) : Int) = ((i - 7 : Nat) : Int) := by rw [IntKind.wrap_i64]; omega
          have n5 : IntKind.i64.wrap ((i : Int) - 16) = ((i - 16 : Nat) : Int) := by rw [IntKind.wrap_i64]; omega
          have n6 : IntKind.i64.wrap ((i : Int) - 7) = ((i - 7 : Nat) : Int) := by rw [IntKind.wrap_i64]; omega
          clear hik
          generalize i - 15 = i1 at *
          generalize i - 2 = i2 at *
          generalize i - 16 = i3 at *
          generalize i - 7 = i4 at *
          obtain ⟨r1, hr1⟩ : ∃ r, r = rot x 25 := ⟨_, rfl⟩
          obtain ⟨r2, hr2⟩ : ∃ r, r = rot x 14 := ⟨_, rfl⟩
          obtain ⟨r3, hr3⟩ : ∃ r, r = rot y 15 := ⟨_, rfl⟩
          obtain ⟨r4, hr4⟩ : ∃ r, r = rot y 13 := ⟨_, rfl⟩
          obtain ⟨x8, hx8⟩ : ∃ r, r = x / 8 := ⟨_, rfl⟩
          obtain ⟨y9, hy9⟩ : ∃ r, r = y / 1024 := ⟨_, rfl⟩
          obtain ⟨E, hE⟩ : ∃ E, E = ssE x := ⟨_, rfl⟩
          obtain ⟨G, hG⟩ : ∃ E, E = ssL y := ⟨_, rfl⟩
          have dx : (x : Int) / 8 = (x8 : Int) := by omega
          have dy : (y : Int) / 1024 = (y9 : Int) := by omega
          have l1 : r1 < 4294967296 := by rw [hr1]; exact rot_lt h1 _
          have l2 : r2 < 4294967296 := by rw [hr2]; exact rot_lt h1 _
          have l3 : r3 < 4294967296 := by rw [hr3]; exact rot_lt h2 _
          have l4 : r4 < 4294967296 := by rw [hr4]; exact rot_lt h2 _
          have l5 : x8 < 4294967296 := by omega
          have l6 : y9 < 4294967296 := by omega
          obtain ⟨r12, hr12⟩ : ∃ r, r = r1 ^^^ r2 := ⟨_, rfl⟩
          obtain ⟨r34, hr34⟩ : ∃ r, r = r3 ^^^ r4 := ⟨_, rfl⟩
          have l7 : r12 < 4294967296 := by rw [hr12]; exact xor_lt32 l1 l2
          have l8 : r34 < 4294967296 := by rw [hr34]; exact xor_lt32 l3 l4
          have e1 : bits .xor .u32 (r1 : Int) (r2 : Int) = (r12 : Int) := by rw [hr12]; exact u32_xor_nat r1 r2 l1 l2
          have e2 : bits .xor .u32 (r12 : Int) (x8 : Int) = (E : Int) := by rw [u32_xor_nat r12 x8 l7 l5, hE, hr12, hr1, hr2, hx8]; rfl
          have e3 : bits .xor .u32 (r3 : Int) (r4 : Int) = (r34 : Int) := by rw [hr34]; exact u32_xor_nat r3 r4 l3 l4
          have e4 : bits .xor .u32 (r34 : Int) (y9 : Int) = (G : Int) := by rw [u32_xor_nat r34 y9 l8 l6, hG, hr34, hr3, hr4, hy9]; rfl
          obtain ⟨s1, hs1⟩ : ∃ r, r = ad p E := ⟨_, rfl⟩
          obtain ⟨s2, hs2⟩ : ∃ r, r = ad s1 q := ⟨_, rfl⟩
          obtain ⟨s3, hs3⟩ : ∃ r, r = ad s2 G := ⟨_, rfl⟩
          have a1 : IntKind.u32.wrap ((p : Int) + (E : Int)) = (s1 : Int) := by rw [IntKind.wrap_u32', hs1]; unfold ad; omega
          have a2 : IntKind.u32.wrap ((s1 : Int) + (q : Int)) = (s2 : Int) := by rw [IntKind.wrap_u32', hs2]; unfold ad; omega
          have a3 : IntKind.u32.wrap ((s2 : Int) + (G : Int)) = (s3 : Int) := by rw [IntKind.wrap_u32', hs3]; unfold ad; omega
          have HS3 := hid (show nx (schL (fun j => c.getD j 0) k) i = s3 from by rw [HNX.out, hs3, hs2, hs1, hE, hG])
          have R1 := hid (fun w => rot_any x 25 (-7) (by kernel_rfl) (by omega) (by omega) h1 w)
          have R2 := hid (fun w => rot_any x 14 (-18) (by kernel_rfl) (by omega) (by omega) h1 w)
          have R3 := hid (fun w => rot_any y 15 (-17) (by kernel_rfl) (by omega) (by omega) h2 w)
          have R4 := hid (fun w => rot_any y 13 (-19) (by kernel_rfl) (by omega) (by omega) h2 w)
          rw [← hr1] at R1
          rw [← hr2] at R2
          rw [← hr3] at R3
          rw [← hr4] at R4
          clear hr1 hr2 hr3 hr4 hx8 hy9 hE hG hr12 hr34 hs1 hs2 hs3
          go_wp2
          go_quiet (fail)
          go_wp2_with fail
          refine (R1.out _).mono ?_
          rintro e w' ⟨rfl, rfl⟩
          go_wp2_with fail
          refine (R2.out _).mono ?_
          rintro e w' ⟨rfl, rfl⟩
          go_wp2_with fail
          refine (R3.out _).mono ?_
          rintro e w' ⟨rfl, rfl⟩
          go_wp2_with fail
          refine (R4.out _).mono ?_
          rintro e w' ⟨rfl, rfl⟩
          go_wp2_with fail
          refine region_quiet_tail 15 (by kernel_rfl) (by kernel_rfl) ?_
          simp only [List.take_succ_cons, List.take_zero, List.drop_succ_cons, List.drop_zero]
          repeat (quiet_step (fail))
          refine wpQuiet_nil ?_
          intro nq2
          go_wp2
          rw [← HS3.out]
          exact ⟨⟨k + 1, hk', by rw [HIK.out]; go_num, hid (HST.out (nq + nq2)), HR2 (nq + nq2) _, hid ((bel_drewN HB.out (nq + nq2)).setCell (p := ⟨w.heap.size + 1, i, none⟩) (by show w.heap.size ≤ w.heap.size + 1; omega) _)⟩, by have h9 := HIK.out; simp [intOf]; omega⟩
        · have hk48 : k = 48 := by omega
          have hO := HO.out
          rw [hk48, w2L_last] at hO
          have hlw : (schL (fun j => c.getD j 0) 48).length = 64 := schL_length _ 48
          have HB5 := HB
          have HR5 := HR
          clear HO HR HB hik hk48
          generalize hL : schL (fun j => c.getD j 0) 48 = L at *
          have HL : True → schL (fun j => c.getD j 0) 48 = L := fun _ => hL
          clear hL
          have hsz : (u32s L).length = 64 := by rw [u32s_length, hlw]
          have HRA := hid (show wr.rangeAt (w.heap.size + 1) 0 (u32s L) from fun j v hj => by rw [Nat.zero_add, cell_of_heap hO, List.getElem?_toArray]; exact hj)
          have HIF := hid (show (Tryd.prog.info? 107).map (·.size) = some (u32s L).length from by rw [hsz]; kernel_rfl)
          clear hO hlw
          have HIF2 := hid (show (Tryd.prog.info? 107).map (·.size) = some (u32s L).toArray.size from by rw [List.size_toArray]; exact HIF.out)
          have hbw := HB5.out
          have HOLD := hid (show (u32s (List.replicate 64 0)).toArray.size = (u32s L).toArray.size from by rw [List.size_toArray, List.size_toArray, u32s_length, List.length_replicate, hsz])
          clear hsz
          go_wp2_with (refine wpList_load_mid rfl 107 (.tmp 3) rfl (w.heap.size + 1) 0 rfl (u32s L) _ HRA.out Tryd.underlying107 rfl HIF.out ?_
                       refine wpList_store_row rfl 107 (.tmp 2) (.tmp 79) rfl w.heap.size _ (u32s L).toArray _ rfl rfl HR5.out HIF2.out HOLD.out (u32s_one L) ?_
                       intro w5 hw5 hk5)
          have hres : (loadVar 107 ⟨w.heap.size, 0, none⟩).run Tryd.prog w5 = .ok (.agg (u32s L).toArray) w5 := run_loadVar_row _ _ 107 107 _ (0, 0) _ hw5 Tryd.underlying107 rfl HIF2.out
          refine bodyPost_ret (v := .agg (u32s L).toArray) (results_at Tryd.results77 rfl hres) rfl ⟨by rw [HL trivial], ?_⟩
          exact hbw.trans (hk5.below hbw.size (Nat.le_refl _))
end Go.Proofs.YtahnihihfheegaaDoor

namespace Go.Proofs.YtahnihihfheegaaDoor
open Go.RowKit

def bstr (l : List Nat) : ByteArray := ⟨(l.map UInt8.ofNat).toArray⟩
theorem conv_bs {w : World} {a : Option Addr} {n c : Nat} {l : List Nat} (h : Bs w (.slice a n c) l) : (convert 22 9 (.slice a n c)).run Tryd.prog w = .ok (.string (bstr l)) w := by
  have hn := h.len
  rcases h.addr with ⟨h0, a', c', hv⟩ | ⟨h0, b, o, c', hv⟩
  · simp only [Value.slice.injEq] at hv
    obtain ⟨rfl, rfl, rfl⟩ := hv
    subst h0
    cases a with
    | none => exact run_convert_bytes_nil w _ _ Tryd.underlying22 Tryd.underlying5 _ _ _ Tryd.underlying9
    | some x =>
      have h2 := run_bytesToString (P := Tryd.prog) w x 0 c [] (by simpa using run_loadCells_list (P := Tryd.prog) w x [] (by simp))
      rw [run_convert_bytes_string w _ _ _ _ 0 c Tryd.underlying22 Tryd.underlying5 Tryd.underlying9, h2]
      rfl
  · simp only [Value.slice.injEq] at hv
    obtain ⟨rfl, rfl, rfl⟩ := hv
    have h2 := run_convert_bytes_arg (P := Tryd.prog) w 22 5 Tryd.underlying22 Tryd.underlying5 b o l.length c (l.map fun (x : Nat) => (x : Int)) (by simp) (fun i hi => by
      rw [h.cell i hi]
      simp [List.getElem?_eq_getElem hi]) 9 Tryd.underlying9
    rw [h2]
    simp [strOfNums, bstr, Function.comp_def]
theorem bstr_inj {a b : List Nat} (ha : ∀ n ∈ a, n < 256) (hb : ∀ n ∈ b, n < 256) (h : bstr a = bstr b) : a = b := by
  have h1 : a.map UInt8.ofNat = b.map UInt8.ofNat := by
    have := congrArg (fun x : ByteArray => x.data.toList) h
    simpa [bstr] using this
  have e : ∀ l : List Nat, (∀ n ∈ l, n < 256) → (l.map UInt8.ofNat).map UInt8.toNat = l := by
    intro l hl
    rw [List.map_map]
    conv => rhs; rw [← List.map_id l]
    apply List.map_congr_left
    intro x hx
    have := hl x hx
    show (UInt8.ofNat x).toNat = x
    rw [UInt8.toNat_ofNat']
    omega
  rw [← e a ha, ← e b hb, h1]
end Go.Proofs.YtahnihihfheegaaDoor

namespace Go.Proofs.YtahnihihfheegaaDoor
open Go Go.RowKit

theorem bs_of_owns {w : World} {base : Nat} {v : Value} {m : Nat} {l : List Nat} (h : w.ownsRow base 5 1 v m (u8s l)) (hl : ∀ n ∈ l, n < 256) : ∃ a c, v = .slice a m c ∧ m = l.length ∧ m ≤ c ∧ Bs w v l ∧ ∀ ad, a = some ad → base ≤ ad.block ∧ ad.block < w.heap.size := by
  obtain ⟨h1, h2⟩ := h
  have hm : m = l.length := by simpa [u8s] using h1.symm
  rcases h2 with ⟨rfl, h0⟩ | ⟨g, cap, cur, rfl, hg, hh, hc, _, hs, ht⟩
  · have hl0 : l = [] := List.eq_nil_of_length_eq_zero (by omega)
    subst hl0; subst h0
    exact ⟨none, 0, rfl, rfl, Nat.le_refl _, bs_nil w, fun ad h => by cases h⟩
  · refine ⟨_, cap, rfl, hm, hc, ⟨_, cap, by rw [hm], hl, fun _ => ⟨g, 0, rfl, fun i hi => ?_⟩⟩, fun ad h => by cases h; exact ⟨hg, lt_of_heap hh⟩⟩
    rw [Nat.zero_add, cell_of_heap hh]
    have h3 : (cur.toList.take (m * 1))[i]? = (u8s l)[i]? := by rw [ht]
    rw [List.getElem?_take_of_lt (by omega)] at h3
    rw [← Array.getElem?_toList, h3]
    simp [u8s, List.getElem?_eq_getElem hi]

theorem wpList_clone {w : World} {ops : Array Oper} {rest : List Oper} {o : Oper} {a : Act} {Q : Exit → Act → World → Prop} (hgd : o.guard = none) (s x : Operand)
    (ho : o.op = .call { callee := .builtin .append, args := #[s, x], argTypes := #[22, 22] }) (g0 : Nat) (hs : a.eval s = .slice (some ⟨g0, 0, none⟩) 0 0) (hg0 : w.heap[g0]? = some (.cells #[] 5 (0, 0)))
    (sa : Option Addr) (m c : Nat) (l : List Nat) (hx : a.eval x = .slice sa m c) (hb : Bs w (.slice sa m c) l) (hnil : sa = none → c = 0) (hm : m ≤ 4611686018427)
    (h : ∀ a' c' w', Bs w' (.slice a' m c') l → m ≤ c' → (∀ ad, a' = some ad → g0 ≤ ad.block ∧ ad.block < w'.heap.size) → (a' = none → c' = 0) → Kept g0 w w' → wpList Tryd.prog ops Q rest (a.put o.dst (.slice a' m c')) w') :
    wpList Tryd.prog ops Q (o :: rest) a w := by
  obtain ⟨i0, hi, hz0, hz1, hz2⟩ := info_parts info5
  have hown : w.ownsRow g0 5 1 (.slice (some ⟨g0, 0, none⟩) 0 0) 0 [] := ⟨rfl, .inr ⟨g0, 0, #[], rfl, Nat.le_refl _, hg0, Nat.le_refl _, Nat.zero_le _, rfl, rfl⟩⟩
  have hlt := lt_of_heap hg0
  have hl : ∀ n ∈ l, n < 256 := by obtain ⟨_, _, _, h, _⟩ := hb; exact h
  have hlen := hb.len
  cases sa with
  | none =>
    obtain rfl := hnil rfl
    rcases hb.addr with ⟨h0, _⟩ | ⟨_, b, o, c', hv⟩
    · subst h0
      obtain rfl : m = 0 := hlen
      refine Go.wpList_append_own_none hgd s x _ ho g0 _ i0 1 Tryd.underlying22 hi _ 0 [] hs hown hx ?_
      exact h _ _ _ ⟨_, 0, rfl, fun n hn => absurd hn List.not_mem_nil, fun e => absurd rfl e⟩ (Nat.le_refl _) (fun ad h => by cases h; exact ⟨Nat.le_refl _, hlt⟩) (fun h => by cases h) (Kept.refl _ _)
    · simp at hv
  | some ad =>
    have hnews : ∀ j u, (u8s l)[j]? = some u → w.cell? (ad.add j) = some u := fun j u hj => by
      have hjl : j < l.length := by have := (List.getElem?_eq_some_iff.1 hj).1; simpa [u8s] using this
      rcases hb.addr with ⟨h0, _⟩ | ⟨_, b, o, c', hv⟩
      · rw [h0] at hjl; exact absurd hjl (Nat.not_lt_zero _)
      · simp only [Value.slice.injEq, Option.some.injEq] at hv
        obtain ⟨rfl, _, _⟩ := hv
        have hc := hb.cell j hjl
        have e : (⟨b, o, none⟩ : Addr).add j = ⟨b, o + j, none⟩ := by unfold Addr.add; split <;> simp_all
        rw [e, hc, ← hj]
        simp [u8s, List.getElem?_eq_getElem hjl]
    refine Go.wpList_append_own _ hgd s x _ ho g0 5 i0 (.int .u8 0) 1 1 Tryd.underlying22 hi hz0 hz1 hz2 rfl (by decide) _ 0 [] hs hown ad m c (u8s l) hx (by simp [u8s]; omega) hnews (fun u hu => by
      unfold u8s at hu
      obtain ⟨y, _, rfl⟩ := List.mem_map.1 hu
      rfl) (by unfold maxLen; omega) (by omega) (by omega) ?_
    intro v' w' hown' hg hn
    rw [Nat.zero_add, List.nil_append] at hown'
    obtain ⟨a', c', rfl, hm', hmc, hb', hbl⟩ := bs_of_owns hown' hl
    refine h a' c' w' hb' hmc hbl (fun e => ?_) ⟨hg.os, hg.tape, hg.output, hg.size, fun k hk hkg => hg.block k hk (by intro e; exact hkg (Option.some.inj e))⟩
    subst e
    obtain ⟨_, h2⟩ := hown'
    rcases h2 with ⟨h3, _⟩ | ⟨g, cap, cur, h3, _⟩
    · simp at h3; exact h3.2
    · simp at h3
end Go.Proofs.YtahnihihfheegaaDoor

namespace Go.Proofs.YtahnihihfheegaaDoor
open Go Go.RowKit
set_option linter.unusedVariables false

theorem mk_u8cH (l c : Nat) (hlc : l ≤ c) (hn : c ≤ 140737488355328) (w : World) : (Instr.makeSlice 22 (.int .i64 l) (.int .i64 c)).run Tryd.prog w = .ok (.slice (some ⟨w.heap.size, 0, none⟩) l c) (w.alloc (zrow c)) := by
  obtain ⟨i0, hi, hz0, hz1, hz2⟩ := info_parts info5
  have h := run_make (P := Tryd.prog) w 22 5 i0 (.int .u8 0) Tryd.underlying22 hi hz0 .i64 .i64 l c (by omega) (by omega) (by rw [hz2]; omega) (by omega)
  rw [h, hz1]
  simp only [Int.toNat_natCast, Nat.mul_one, Value.cells, made_u8]
  rfl
/-- appending bytes to a row of one's own (as in Red) -/
theorem step_own_bytesH {ops : Array Oper} {o : Oper} {a : Act} {w : World} {K : Act → World → Prop} {Q : Exit → Act → World → Prop} {E : Prop} (hgd : o.guard = none) (s x : Operand)
    (ho : o.op = .call { callee := .builtin .append, args := #[s, x], argTypes := #[22, 22] }) (base n0 : Nat) (v0 : Value) (l0 : List Nat) (hs : a.eval s = v0) (hown : w.ownsRow base 5 1 v0 n0 (u8s l0))
    (sa : Option Addr) (m c : Nat) (l : List Nat) (hx : a.eval x = .slice sa m c) (hb : Bs w (.slice sa m c) l) (hnil : sa = none → c = 0) (hm : n0 + m ≤ 461168601842) (hbase : base ≤ w.heap.size)
    (hK : ∀ v' w', w'.ownsRow base 5 1 v' (n0 + m) (u8s (l0 ++ l)) → w.grownBy w' v0.ownBlock → K (a.put o.dst v') w') :
    if Region.wanted o (yielded ops a.tmps) = true then Oper.wp Tryd.prog o a w K Q else E := by
  have hw : Region.wanted o (yielded ops a.tmps) = true := by simp [Region.wanted, hgd]
  rw [if_pos hw]
  obtain ⟨i0, hi, hz0, hz1, hz2⟩ := info_parts info5
  have hlen := hb.len
  have hap : u8s (l0 ++ l) = u8s l0 ++ u8s l := by simp [u8s]
  cases sa with
  | none =>
    obtain rfl := hnil rfl
    have h0 : l = [] := by
      rcases hb.addr with ⟨h0, _⟩ | ⟨_, b, o', c', hv⟩
      · exact h0
      · simp at hv
    subst h0
    obtain rfl : m = 0 := hlen
    have hrun := run_append_owned_none (P := Tryd.prog) (w := w) base 22 o.type 5 i0 1 Tryd.underlying22 hi v0 n0 (u8s l0) hown
    unfold Oper.wp
    simp [execOp, ho, resolve, invoke, builtin, hs, hx, hrun, Result.andThen]
    refine hK _ _ ?_ (World.grownBy.refl w _)
    rw [List.append_nil, Nat.add_zero]
    exact hown
  | some ad =>
    have hnews : ∀ j u, (u8s l)[j]? = some u → w.cell? (ad.add j) = some u := fun j u hj => by
      have hjl : j < l.length := by have := (List.getElem?_eq_some_iff.1 hj).1; simpa [u8s] using this
      rcases hb.addr with ⟨h0, _⟩ | ⟨_, b, o', c', hv⟩
      · rw [h0] at hjl; exact absurd hjl (Nat.not_lt_zero _)
      · simp only [Value.slice.injEq, Option.some.injEq] at hv
        obtain ⟨rfl, _, _⟩ := hv
        have hc := hb.cell j hjl
        have e : (⟨b, o', none⟩ : Addr).add j = ⟨b, o' + j, none⟩ := by unfold Addr.add; split <;> simp_all
        rw [e, hc, ← hj]
        simp [u8s, List.getElem?_eq_getElem hjl]
    refine wp_append_own w s x _ ho base 5 i0 (.int .u8 0) 1 1 Tryd.underlying22 hi hz0 hz1 hz2 rfl (by decide) _ n0 (u8s l0) hs hown ad m c (u8s l) hx (by simp [u8s]; omega) hnews (fun u hu => by
      unfold u8s at hu
      obtain ⟨y, _, rfl⟩ := List.mem_map.1 hu
      rfl) (by unfold maxLen; omega) (by omega) hbase ?_
    intro v' w' hown' hg hn
    rw [← hap] at hown'
    exact hK v' w' hown' hg
/-- the same, with where the new row lies; something is appended -/
theorem step_own_lies {ops : Array Oper} {o : Oper} {a : Act} {w : World} {K : Act → World → Prop} {Q : Exit → Act → World → Prop} {E : Prop} (hgd : o.guard = none) (s x : Operand)
    (ho : o.op = .call { callee := .builtin .append, args := #[s, x], argTypes := #[22, 22] }) (base n0 : Nat) (v0 : Value) (l0 : List Nat) (hs : a.eval s = v0) (hown : w.ownsRow base 5 1 v0 n0 (u8s l0))
    (sb so : Nat) (m c : Nat) (l : List Nat) (hx : a.eval x = .slice (some ⟨sb, so, none⟩) m c) (hb : Bs w (.slice (some ⟨sb, so, none⟩) m c) l) (hm0 : 0 < m) (hm : n0 + m ≤ 461168601842) (hbase : base ≤ w.heap.size)
    (hK : ∀ g cap w', w'.ownsRow base 5 1 (.slice (some ⟨g, 0, none⟩) (n0 + m) cap) (n0 + m) (u8s (l0 ++ l)) → w.grownBy w' v0.ownBlock → (v0.ownBlock = some g ∨ g = w.heap.size) → g < w'.heap.size → K (a.put o.dst (.slice (some ⟨g, 0, none⟩) (n0 + m) cap)) w') :
    if Region.wanted o (yielded ops a.tmps) = true then Oper.wp Tryd.prog o a w K Q else E := by
  have hw : Region.wanted o (yielded ops a.tmps) = true := by simp [Region.wanted, hgd]
  rw [if_pos hw]
  obtain ⟨i0, hi, hz0, hz1, hz2⟩ := info_parts info5
  have hlen := hb.len
  have hap : u8s (l0 ++ l) = u8s l0 ++ u8s l := by simp [u8s]
  have hnews : ∀ j u, (u8s l)[j]? = some u → w.cell? ((⟨sb, so, none⟩ : Addr).add j) = some u := fun j u hj => by
    have hjl : j < l.length := by have := (List.getElem?_eq_some_iff.1 hj).1; simpa [u8s] using this
    have hc := hb.cell j hjl
    have e : (⟨sb, so, none⟩ : Addr).add j = ⟨sb, so + j, none⟩ := by unfold Addr.add; split <;> simp_all
    rw [e, hc, ← hj]
    simp [u8s, List.getElem?_eq_getElem hjl]
  refine wp_append_lies w s x _ ho base 5 i0 (.int .u8 0) 1 1 Tryd.underlying22 hi hz0 hz1 hz2 rfl (by decide) _ n0 (u8s l0) hs hown ⟨sb, so, none⟩ m c (u8s l) hx (by simp [u8s]; omega) hnews (fun u hu => by
    unfold u8s at hu
    obtain ⟨y, _, rfl⟩ := List.mem_map.1 hu
    rfl) hm0 (by unfold maxLen; omega) (by omega) hbase _ rfl ?_
  intro g cap w' hown' hg hat hlt
  rw [← hap] at hown'
  exact hK g cap w' hown' hg hat hlt
end Go.Proofs.YtahnihihfheegaaDoor

namespace Go.Proofs.YtahnihihfheegaaDoor
open Go Go.RowKit
set_option linter.unusedVariables false

def hexD : List Nat := [48, 49, 50, 51, 52, 53, 54, 55, 56, 57, 97, 98, 99, 100, 101, 102]
def hexL (d : List Nat) : Nat → List Nat | 0 => [] | i + 1 => hexL d i ++ [hexD.getD (d.getD i 0 / 16) 0, hexD.getD (d.getD i 0 % 16) 0]
theorem hexL_length (d : List Nat) : ∀ i, (hexL d i).length = 2 * i | 0 => rfl | i + 1 => by simp [hexL, hexL_length d i]; omega
theorem hexD_lt (k : Nat) : hexD.getD k 0 < 256 := by
  rw [List.getD_eq_getElem?_getD]
  by_cases h : k < hexD.length
  · rw [List.getElem?_eq_getElem h]
    have : ∀ x ∈ hexD, x < 256 := by decide
    exact this _ (List.getElem_mem h)
  · rw [List.getElem?_eq_none (by omega)]; decide
theorem hexL_lt (d : List Nat) : ∀ i, ∀ x ∈ hexL d i, x < 256
  | 0, x, h => absurd h List.not_mem_nil
  | i + 1, x, h => by
    rcases List.mem_append.1 h with h | h
    · exact hexL_lt d i x h
    · simp only [List.mem_cons, List.not_mem_nil, or_false] at h
      rcases h with rfl | rfl <;> exact hexD_lt _

theorem hex_at (k : Nat) (hk : k < 16) (w : World) : (Instr.index 9 (.string ⟨#[48, 49, 50, 51, 52, 53, 54, 55, 56, 57, 97, 98, 99, 100, 101, 102]⟩) (.int .u8 (k : Int))).run Tryd.prog w = .ok (.int .u8 ((hexD.getD k 0 : Nat) : Int)) w := by
  have hsz : (⟨#[48, 49, 50, 51, 52, 53, 54, 55, 56, 57, 97, 98, 99, 100, 101, 102]⟩ : ByteArray).size = 16 := rfl
  rw [run_index_string w 9 _ .u8 (k : Int) Tryd.underlying9, dif_pos ⟨by omega, by rw [hsz]; omega⟩]
  have h16 : ∀ q : Fin 16, ((⟨#[48, 49, 50, 51, 52, 53, 54, 55, 56, 57, 97, 98, 99, 100, 101, 102]⟩ : ByteArray)[q.val]'(q.isLt)).toNat = hexD.getD q.val 0 := by decide
  exact congrArg (fun z : Nat => Result.ok (Value.int .u8 (z : Int)) w) (h16 ⟨k, hk⟩)

set_option maxRecDepth 100000 in
set_option maxHeartbeats 2000000 in
theorem Hex_any (d : List Nat) (hd : d.length = 32) (hdl : ∀ i, d.getD i 0 < 256) (w : World) :
    Calls Tryd.prog 25 #[.agg (u8s d).toArray] w fun e w' => e = .returned (.string (bstr (hexL d 32))) ∧ Below w.heap.size w w' := by
  have HD := hid hd
  have HDL := hid hdl
  obtain ⟨w1, hw1⟩ : ∃ w1, w1 = w.alloc (.cells (u8s d).toArray 24) := ⟨_, rfl⟩
  have hs1 : w1.heap.size = w.heap.size + 1 := by rw [hw1]; simp
  have hb1 : Below w.heap.size w w1 := by rw [hw1]; exact (Below.refl _ _).alloc (Nat.le_refl _) _
  have HO1 := hid (show w1.heap[w.heap.size]? = some (.cells (u8s d).toArray 24 (0, 0)) from by rw [hw1]; exact heap_new _ _)
  have hmk : (Instr.makeSlice 22 (.int .i64 0) (.int .i64 64)).run Tryd.prog w1 = .ok (.slice (some ⟨w1.heap.size, 0, none⟩) 0 64) (w1.alloc (zrow 64)) := mk_u8cH 0 64 (by omega) (by omega) w1
  have HB1 := hid hb1
  clear hd hdl
  go_enter Tryd.func25, Tryd.ntmps25
  go_wp2
  change Oper.upon _ _ _ _ _ ((Sem.run _ (Instr.makeSlice _ _ _) (w.alloc (.cells (u8s d).toArray 24))).andThen _)
  rw [← hw1, hmk]
  clear hw1 hmk
  have HIF := hid (show (Tryd.prog.info? 24).map (·.size) = some (u8s d).length from by rw [show (u8s d).length = 32 from by simp [u8s, HD.out]]; kernel_rfl)
  have HRA := hid (show (w1.alloc (zrow 64)).rangeAt w.heap.size 0 (u8s d) from fun j v hj => by
    rw [Nat.zero_add, cell_of_heap (heap_alloc HO1.out _), List.getElem?_toArray]
    exact hj)
  have HOW := hid (show (w1.alloc (zrow 64)).ownsRow w.heap.size 5 1 (.slice (some ⟨w.heap.size + 1, 0, none⟩) 0 64) 0 (u8s (hexL d 0)) from by rw [← hs1]; exact ⟨rfl, .inr ⟨w1.heap.size, 64, _, rfl, HB1.out.size, heap_new _ _, Nat.zero_le _, by decide, by simp [u8s], rfl⟩⟩)
  have HB2 := hid (HB1.out.alloc HB1.out.size (zrow 64))
  generalize hw2 : w1.alloc (zrow 64) = w2 at *
  clear hw2 hb1
  go_wp2_with (refine wpList_load_mid (by rfl) 24 (.tmp 1) (by rfl) w.heap.size 0 (by rfl) (u8s d) _ HRA.out Tryd.underlying24 rfl HIF.out ?_)
  clear HRA HIF HO1
  go_loopw [3, 8] (fun v iv wr => ∃ i : Nat, i ≤ 32 ∧ iv = .int .i64 i ∧ Hid (wr.ownsRow w.heap.size 5 1 v (2 * i) (u8s (hexL d i))) ∧ Hid (Below w.heap.size w wr)) (fun _ iv _ => 32 - (intOf iv).toNat)
  case atStart => exact ⟨0, by omega, rfl, HOW, HB2⟩
  case round =>
    clear HOW HB2
    obtain ⟨i, hi, rfl, HOW, HB⟩ := hrel
    by_cases hlt : i < 32
    · have hI : (i : Int) < 32 := by omega
      have hyl := HDL.out i
      have hidx : ∀ w, (Instr.index 24 (.agg (u8s d).toArray) (.int .i64 (i : Int))).run Tryd.prog w = .ok (.int .u8 ((d.getD i 0 : Nat) : Int)) w := by
        intro w
        have hT : Tryd.prog.underlying 24 = _ := Tryd.underlying24
        have hix : (u8s d)[i]? = some (.int .u8 ((d.getD i 0 : Nat) : Int)) := by
          have h9 : i < d.length := by rw [HD.out]; exact hlt
          simp [u8s, h9]
        simp [Instr.index, run_underlying Tryd.underlying24, hlt, hix, go_sem]
      have HST := hid (fun (_ : Unit) => (show hexL d (i + 1) = hexL d i ++ [hexD.getD (d.getD i 0 / 16) 0, hexD.getD (d.getD i 0 % 16) 0] from rfl))
      generalize d.getD i 0 = y at *
      have k1 := fun w => hex_at (y / 16) (by omega) w
      have k2 := fun w => hex_at (y % 16) (by omega) w
      have k3 : bits .and .u8 (y : Int) 15 = ((y % 16 : Nat) : Int) := by
        have h := u8_and_nat y 15 hyl (by omega)
        rw [Nat.and_two_pow_sub_one_eq_mod y 4] at h
        exact h
      have l1 := hexD_lt (y / 16)
      have l2 := hexD_lt (y % 16)
      have k4 : (y : Int) / 16 = ((y / 16 : Nat) : Int) := by omega
      generalize y / 16 = p at *
      generalize y % 16 = q at *
      generalize hexD.getD p 0 = x1 at *
      generalize hexD.getD q 0 = x2 at *
      have hx12 : ∀ n ∈ [x1, x2], n < 256 := fun n hn => by
        simp only [List.mem_cons, List.not_mem_nil, or_false] at hn
        rcases hn with rfl | rfl
        · exact l1
        · exact l2
      have HX := hid hx12
      have hsz := HB.out.size
      clear hx12 hyl
      go_wp2
      go_region_held3 (fun _ => True)
        (exact trivial)
        (first
          | (refine step_own_bytesH (by rfl) (.tmp 11) (.tmp 18) (by rfl) w.heap.size (2 * i) u3 (hexL d i) (by rfl) (by exact HOW.out.alloc _) (some ⟨wr.heap.size, 0, none⟩) 2 2 [x1, x2] (by rfl) (Own.bs (l := [x1, x2]) (heap_new _ _) HX.out 2) (fun h => by cases h) (by omega) (by simp; omega) ?_
             intro v5 w5 hown5 hg5
             have hb5 : Below w.heap.size w w5 := (bel_drewN (HB.out.alloc HB.out.size _) 1).grown hg5 (by simp; omega) (fun g hg => (HOW.out.lt g hg).1)
             rw [← HST.out (), show 2 * i + 2 = 2 * (i + 1) from by omega] at hown5
             have HO5 := hid hown5
             have HB5 := hid hb5))
      all_goals
        go_wp2
        exact ⟨⟨i + 1, by omega, by go_num, HO5, HB5⟩, by simp [intOf]; omega⟩
    · obtain rfl : i = 32 := by omega
      obtain ⟨av, cv, rfl, -, -, hbs, -⟩ := bs_of_owns HOW.out (hexL_lt d 32)
      have hcv := conv_bs hbs
      obtain ⟨X, hX⟩ : ∃ X, X = hexL d 32 := ⟨_, rfl⟩
      rw [← hX] at hcv
      have HXE := hid (fun (_ : Unit) => hX)
      clear hbs HOW hX
      go_wp2
      go_ret
      refine ⟨?_, HB.out⟩
      rw [← HXE.out ()]
      rfl
end Go.Proofs.YtahnihihfheegaaDoor
