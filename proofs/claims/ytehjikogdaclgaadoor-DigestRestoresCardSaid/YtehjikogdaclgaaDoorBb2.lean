/-
  schedule: the words of a chunk. · compress: a chunk taken into the state. · Byte slices in memory: slices that read as a list of bytes, and blocks of bytes that a call has made.
-/
import Derived.Test.YtehjikogdaclgaaDoorBb1
import Derived.Deep.WholeRow
import Derived.Deep.MidRow
import Derived.Laws.ResultCell
namespace Go.Proofs.YtehjikogdaclgaaDoor
open Go Go.RowKit
set_option linter.unusedVariables false

def u32s (l : List Nat) : List Value := l.map fun (n : Nat) => .int .u32 n
/-- a row of words -/
def OwnW (w : World) (b : Nat) (l : List Nat) : Prop := w.heap[b]? = some (.cells (u32s l).toArray 107 (0, 0))
/-- the cells of a Hash -/
def hcells (h c : List Nat) (size : Nat) : List Value := u32s h ++ (u8s c ++ [.int .i64 (size : Int)])
structure HashAt (w : World) (hb : Nat) (h c : List Nat) (size : Nat) : Prop where
  at_ : w.heap[hb]? = some (.cells (hcells h c size).toArray 112 (0, 0))
  hl : h.length = 8
  cl : c.length = 64
  ho : ∀ i, h.getD i 0 < 4294967296
  co : ∀ i, c.getD i 0 < 256
theorem u32s_length (l : List Nat) : (u32s l).length = l.length := by simp [u32s]
theorem OwnW.cell {w : World} {b : Nat} {l : List Nat} (h : OwnW w b l) (i : Nat) (hi : i < l.length) : w.cell? ⟨b, i, none⟩ = some (.int .u32 ((l.getD i 0 : Nat) : Int)) := by
  rw [cell_of_heap h]
  simp [u32s, List.getElem?_eq_getElem hi]
theorem OwnW.free {w : World} {b : Nat} {l : List Nat} (h : OwnW w b l) (i : Nat) : w.frozen? ⟨b, i, none⟩ = false := free_of_heap h i
theorem OwnW.set {w : World} {b : Nat} {l : List Nat} (h : OwnW w b l) (i n : Nat) : OwnW (w.setCell ⟨b, i, none⟩ (.int .u32 ((n : Nat) : Int))) b (l.set i n) := by
  have h1 := heap_set h i (.int .u32 n)
  show _ = _
  rw [h1]
  simp [u32s, List.map_set]
theorem OwnW.lt {w : World} {b : Nat} {l : List Nat} (h : OwnW w b l) : b < w.heap.size := lt_of_heap h
theorem OwnW.same {w w' : World} {b : Nat} {l : List Nat} (h : OwnW w b l) (hs : w'.heap[b]? = w.heap[b]?) : OwnW w' b l := hs.trans h
theorem HashAt.same {w w' : World} {hb : Nat} {h c : List Nat} {size : Nat} (H : HashAt w hb h c size) (hs : w'.heap[hb]? = w.heap[hb]?) : HashAt w' hb h c size := ⟨hs.trans H.at_, H.hl, H.cl, H.ho, H.co⟩
theorem HashAt.lt {w : World} {hb : Nat} {h c : List Nat} {size : Nat} (H : HashAt w hb h c size) : hb < w.heap.size := lt_of_heap H.at_
theorem HashAt.word {w : World} {hb : Nat} {h c : List Nat} {size : Nat} (H : HashAt w hb h c size) (i : Nat) (hi : i < 8) : w.cell? ⟨hb, i, none⟩ = some (.int .u32 ((h.getD i 0 : Nat) : Int)) := by
  rw [cell_of_heap H.at_]
  have h1 : i < h.length := by rw [H.hl]; exact hi
  simp [hcells, u32s, List.getElem?_append_left, h1]
theorem HashAt.byte {w : World} {hb : Nat} {h c : List Nat} {size : Nat} (H : HashAt w hb h c size) (i : Nat) (hi : i < 64) : w.cell? ⟨hb, 8 + i, none⟩ = some (.int .u8 ((c.getD i 0 : Nat) : Int)) := by
  rw [cell_of_heap H.at_]
  have h1 : i < c.length := by rw [H.cl]; exact hi
  have h2 : (u32s h).length = 8 := by rw [u32s_length, H.hl]
  simp only [hcells, List.getElem?_toArray]
  rw [List.getElem?_append_right (by omega), h2, Nat.add_sub_cancel_left, List.getElem?_append_left (by simpa [u8s] using h1)]
  simp [u8s, h1]
theorem HashAt.size_ {w : World} {hb : Nat} {h c : List Nat} {size : Nat} (H : HashAt w hb h c size) : w.cell? ⟨hb, 72, none⟩ = some (.int .i64 (size : Int)) := by
  rw [cell_of_heap H.at_]
  have h2 : (u32s h).length = 8 := by rw [u32s_length, H.hl]
  have h3 : (u8s c).length = 64 := by simp [u8s, H.cl]
  simp only [hcells, List.getElem?_toArray]
  rw [List.getElem?_append_right (by omega), h2, List.getElem?_append_right (by omega), h3]
  rfl
/-- a whole array stored, as one step -/
theorem wpList_store_row {P : Program} {ops : Array Oper} {rest : List Oper} {op : Oper} {a : Act} {w : World} {Q : Exit → Act → World → Prop} (hgd : op.guard = none) (ty : TypeId) (x y : Operand) (ho : op.op = .store ty x y)
    (b : Nat) (old cells : Array Value) (t : TypeId) (hx : a.eval x = .pointer (some ⟨b, 0, none⟩)) (hy : a.eval y = .agg cells) (hg : w.heap[b]? = some (.cells old t (0, 0)))
    (hi : (P.info? ty).map (·.size) = some cells.size) (hs : old.size = cells.size) (h1 : cells.all (·.oneCell') = true)
    (h : ∀ w', w'.heap[b]? = some (.cells cells t (0, 0)) → Kept b w w' → wpList P ops Q rest (a.put op.dst undef) w') : wpList P ops Q (op :: rest) a w := by
  refine wpList_plain hgd fun _ hK => ?_
  unfold Oper.wp execOp
  simp only [ho, hx, hy, Instr.storeAt, Instr.sureAddr, Sem.run_bind, Sem.run_pure, Result.andThen_ok, run_storeVar_row w b t ty old cells hg hi hs h1]
  exact hK _ _ (h _ (setRow_heap w b old cells t (0, 0) hg) ⟨rfl, rfl, rfl, by simp [World.setRow], fun k _ hk => setRow_other w b k cells hk⟩)
theorem results_cell1 {fn : Func} {p : Tmp} {ty : TypeId} (h : fn.results = #[.cell p ty]) (tmps : Array Value) (P : Program) (w : World) :
    (results fn tmps).run P w = ((asAddr (tmps.getD p undef)).run P w).andThen fun a w₁ => (loadVar ty a).run P w₁ := by
  simp only [results, h]
  simp [Sem.run_bind, Result.andThen]
theorem results_at {fn : Func} {p : Tmp} {ty : TypeId} (h : fn.results = #[.cell p ty]) {tmps : Array Value} {P : Program} {w : World} {ad : Addr} {v : Value} (hp : tmps.getD p undef = .pointer (some ad)) (hv : (loadVar ty ad).run P w = .ok v w) :
    (results fn tmps).run P w = .ok v w := by
  rw [results_cell1 h, hp]
  simp [asAddr, hv]
theorem u32s_one (l : List Nat) : (u32s l).toArray.all (·.oneCell') = true := by
  refine all_oneCell_toArray fun v hv => ?_
  unfold u32s at hv
  obtain ⟨n, _, rfl⟩ := List.mem_map.1 hv
  rfl
/-- the words while the chunk is read -/
def w1L (c : Nat → Nat) (i j : Nat) : List Nat := (List.range 64).map fun t => if t < i then wj c t 4 else if t = i then wj c i j else 0
theorem w1L_getD (c : Nat → Nat) (i j t : Nat) : (w1L c i j).getD t 0 = if t < 64 then (if t < i then wj c t 4 else if t = i then wj c i j else 0) else 0 := by
  unfold w1L
  rw [List.getD_eq_getElem?_getD]
  by_cases h : t < 64
  · rw [if_pos h, List.getElem?_map, List.getElem?_range h]; rfl
  · rw [if_neg h, List.getElem?_eq_none (by simpa using h)]; rfl
theorem w1L_length (c : Nat → Nat) (i j : Nat) : (w1L c i j).length = 64 := by simp [w1L]
theorem w1L_step (c : Nat → Nat) (i j : Nat) (hi : i < 64) : (w1L c i j).set i (wj c i (j + 1)) = w1L c i (j + 1) := by
  unfold w1L
  apply List.ext_getElem
  · simp
  · intro t h1 h2
    rw [List.getElem_set]
    by_cases e : i = t
    · subst e; simp
    · rw [if_neg e]
      simp [show ¬ t = i from fun h => e h.symm]
theorem w1L_next (c : Nat → Nat) (i : Nat) : w1L c i 4 = w1L c (i + 1) 0 := by
  unfold w1L
  apply List.map_congr_left
  intro t _
  by_cases h : t < i
  · rw [if_pos h, if_pos (by omega)]
  · by_cases e : t = i
    · rw [if_neg h, if_pos e, if_pos (by omega), e]
    · rw [if_neg h, if_neg e, if_neg (by omega)]
      by_cases e2 : t = i + 1
      · rw [if_pos e2]; rfl
      · rw [if_neg e2]
/-- the words while the schedule grows -/
def w2L (c : Nat → Nat) (k : Nat) : List Nat := schL c k ++ List.replicate (48 - k) 0
theorem w2L_length (c : Nat → Nat) (k : Nat) (hk : k ≤ 48) : (w2L c k).length = 64 := by
  unfold w2L
  rw [List.length_append, schL_length, List.length_replicate]
  omega
theorem getD_ext2 {l m : List Nat} (hl : l.length = m.length) (h : ∀ j, j < l.length → l.getD j 0 = m.getD j 0) : l = m := by
  apply List.ext_getElem hl
  intro j h1 h2
  have h3 := h j h1
  rw [List.getD_eq_getElem?_getD, List.getD_eq_getElem?_getD, List.getElem?_eq_getElem h1, List.getElem?_eq_getElem h2] at h3
  exact h3
theorem zeros_getD (n j : Nat) : (List.replicate n 0).getD j 0 = 0 := by
  rw [List.getD_eq_getElem?_getD, List.getElem?_replicate]
  split <;> rfl
theorem w1_w2 (c : Nat → Nat) : w1L c 16 0 = w2L c 0 := by
  refine getD_ext2 (by rw [w1L_length, w2L_length c 0 (by omega)]) fun t ht => ?_
  rw [w1L_length] at ht
  rw [w1L_getD, if_pos ht]
  unfold w2L
  by_cases h : t < 16
  · rw [if_pos h, List.getD_eq_getElem?_getD, List.getElem?_append_left (by rw [schL_length]; exact h)]
    show _ = ((List.range 16).map fun i => wj c i 4)[t]?.getD 0
    rw [List.getElem?_map, List.getElem?_range h]
    rfl
  · rw [if_neg h, List.getD_eq_getElem?_getD, List.getElem?_append_right (by rw [schL_length]; omega), ← List.getD_eq_getElem?_getD, zeros_getD]
    split
    · rfl
    · rfl
theorem w2L_at (c : Nat → Nat) (k t : Nat) (ht : t < 16 + k) : (w2L c k).getD t 0 = (schL c k).getD t 0 := by
  unfold w2L
  rw [List.getD_eq_getElem?_getD, List.getElem?_append_left (by rw [schL_length]; exact ht), List.getD_eq_getElem?_getD]
theorem w2L_step (c : Nat → Nat) (k : Nat) (hk : k < 48) : (w2L c k).set (16 + k) (nx (schL c k) (16 + k)) = w2L c (k + 1) := by
  unfold w2L
  rw [List.set_append_right _ _ (by rw [schL_length]; omega), schL_length, Nat.sub_self]
  show _ = (schL c k ++ [_]) ++ _
  rw [List.append_assoc]
  congr 1
  rw [show 48 - k = (48 - (k + 1)) + 1 from by omega, List.replicate_succ]
  rfl
theorem w2L_last (c : Nat → Nat) : w2L c 48 = schL c 48 := by simp [w2L]
theorem or_word (x b : Nat) (hb : b < 256) : bits .or .u32 ((x : Int) * 256 % 4294967296) (b : Int) = (((x * 256 % 4294967296) ||| b : Nat) : Int) := by
  have e1 : (x : Int) * 256 % 4294967296 = ((x * 256 % 4294967296 : Nat) : Int) := by simp
  rw [e1]
  exact u32_or_nat _ _ (mod_lt32 _) (by omega)

set_option maxRecDepth 100000 in
set_option maxHeartbeats 4000000 in
theorem schedule_any (hb size : Nat) (h c : List Nat) (w : World) (H : HashAt w hb h c size) :
    Calls Tryd.prog 77 #[.pointer (some ⟨hb, 0, none⟩)] w fun e w' => e = .returned (.agg (u32s (schL (fun j => c.getD j 0) 48)).toArray) ∧ Below w.heap.size w w' := by
  have hco := H.co
  have HH := hid H
  have HCO := hid hco
  have hlt := H.lt
  obtain ⟨w2, hw2⟩ : ∃ w2, w2 = (w.alloc (.cells (u32s (List.replicate 64 0)).toArray 107)).alloc (.cells (u32s (List.replicate 64 0)).toArray 107) := ⟨_, rfl⟩
  have hb2 : Below w.heap.size w w2 := by rw [hw2]; exact ((Below.refl _ _).alloc (Nat.le_refl _) _).alloc (by simp) _
  have hO : OwnW w2 (w.heap.size + 1) (w1L (fun j => c.getD j 0) 0 0) := by
    have h5 := heap_new (w.alloc (.cells (u32s (List.replicate 64 0)).toArray 107)) (.cells (u32s (List.replicate 64 0)).toArray 107)
    rw [World.size_alloc] at h5
    rw [hw2]
    rw [show w1L (fun j => c.getD j 0) 0 0 = List.replicate 64 0 from getD_ext2 (by rw [w1L_length, List.length_replicate]) fun t ht => by
      rw [w1L_length] at ht
      rw [w1L_getD, if_pos ht, zeros_getD, if_neg (by omega)]
      split <;> rfl]
    exact h5
  have hR : OwnW w2 w.heap.size (List.replicate 64 0) := by rw [hw2]; exact heap_alloc (heap_new _ _) _
  have HO := hid hO
  have HR := hid hR
  have HB := hid hb2
  clear H hco hO hR hb2
  go_enter Tryd.func77, Tryd.ntmps77
  go_wp2
  change Code.wp _ _ _ _ ((w.alloc (.cells (u32s (List.replicate 64 0)).toArray 107)).alloc (.cells (u32s (List.replicate 64 0)).toArray 107))
  rw [← hw2]
  clear hw2
  go_loopw [11] (fun iv wr => ∃ i : Nat, i ≤ 16 ∧ iv = .int .i64 i ∧ Hid (OwnW wr (w.heap.size + 1) (w1L (fun j => c.getD j 0) i 0)) ∧ Hid (OwnW wr w.heap.size (List.replicate 64 0)) ∧ Hid (Below w.heap.size w wr)) (fun iv _ => 16 - (intOf iv).toNat)
  case atStart => exact ⟨0, by omega, rfl, HO, HR, HB⟩
  case round =>
    clear HO HR HB
    obtain ⟨i, hi, rfl, HO, HR, HB⟩ := hrel
    by_cases hi16 : i < 16
    · have hI : (i : Int) < 16 := by omega
      go_wp2
      go_loopw [14] (fun jv wr => ∃ j : Nat, j ≤ 4 ∧ jv = .int .i64 j ∧ Hid (OwnW wr (w.heap.size + 1) (w1L (fun j => c.getD j 0) i j)) ∧ Hid (OwnW wr w.heap.size (List.replicate 64 0)) ∧ Hid (Below w.heap.size w wr)) (fun jv _ => 4 - (intOf jv).toNat)
      case atStart => exact ⟨0, by omega, rfl, HO, HR, HB⟩
      case round =>
        clear HO HR HB
        obtain ⟨j, hj, rfl, HO, HR, HB⟩ := hrel
        by_cases hj4 : j < 4
        · have hJ : (j : Int) < 4 := by omega
          have c1 := HO.out.cell i (by rw [w1L_length]; omega)
          rw [w1L_getD, if_pos (by omega), if_neg (by omega), if_pos rfl] at c1
          have hbl : hb < w.heap.size := hlt
          have H2 := HH.out.same (HB.out.block hb hbl)
          obtain ⟨q, hq⟩ : ∃ q, q = 4 * i + j := ⟨_, rfl⟩
          have c2 := H2.byte q (by omega)
          have f1 := HO.out.free i
          have hcl := HCO.out q
          have hst : ∀ nq, OwnW ((wr.drewN nq).setCell ⟨w.heap.size + 1, i, none⟩ (.int .u32 ((wj (fun j => c.getD j 0) i (j + 1) : Nat) : Int))) (w.heap.size + 1) (w1L (fun j => c.getD j 0) i (j + 1)) := fun nq => by
            have h5 := (show OwnW (wr.drewN nq) _ _ from HO.out).set i (wj (fun j => c.getD j 0) i (j + 1))
            rwa [w1L_step _ _ _ (by omega)] at h5
          have HST := hid hst
          have HR2 : ∀ nq v, Hid (OwnW ((wr.drewN nq).setCell ⟨w.heap.size + 1, i, none⟩ v) w.heap.size (List.replicate 64 0)) := fun nq v => hid ((Below.heap_setCell (wr.drewN nq) ⟨w.heap.size + 1, i, none⟩ v _ (show w.heap.size ≠ w.heap.size + 1 by omega)).trans HR.out)
          have hwj : wj (fun j => c.getD j 0) i (j + 1) = (wj (fun j => c.getD j 0) i j * 256 % 4294967296) ||| c.getD q 0 := by rw [hq]; rfl
          have HWJ := hid hwj
          have hwl := wj_lt (c := fun j => c.getD j 0) HCO.out i j
          clear hst hwj H2
          generalize wj (fun j => c.getD j 0) i j = x at *
          generalize c.getD q 0 = y at *
          obtain ⟨xs, hxs⟩ : ∃ xs, xs = x * 256 % 4294967296 := ⟨_, rfl⟩
          have b9 : IntKind.u32.wrap ((x : Int) * 256) = (xs : Int) := by rw [IntKind.wrap_u32']; omega
          have hxl : xs < 4294967296 := by omega
          rw [← hxs] at HWJ
          have hor := u32_or_nat xs y hxl (by omega)
          clear hxs
          have m1 : (4 : Int) * (i : Int) + (j : Int) = (q : Int) := by omega
          have b1 : (i : Int) < 64 := by omega
          have b2 : i < 64 := by omega
          have b3 : (q : Int) < 64 := by omega
          have b4 : q < 64 := by omega
          have b5 : IntKind.i64.wrap (4 * (i : Int)) = 4 * (i : Int) := by rw [IntKind.wrap_i64]; omega
          have b8 : IntKind.i64.wrap (4 * (i : Int) + (j : Int)) = (q : Int) := by rw [IntKind.wrap_i64]; omega
          have b6 : IntKind.i64.wrap (q : Int) = (q : Int) := by rw [IntKind.wrap_i64]; omega
          have b7 : IntKind.u32.wrap (y : Int) = (y : Int) := by rw [IntKind.wrap_u32']; omega
          clear hq
          go_wp2
          refine region_quiet_tail 17 (by kernel_rfl) (by kernel_rfl) ?_
          simp only [List.take_succ_cons, List.take_zero, List.drop_succ_cons, List.drop_zero]
          repeat (quiet_step (fail))
          refine wpQuiet_nil ?_
          intro nq
          go_wp2
          rw [← HWJ.out]
          exact ⟨⟨j + 1, by omega, by go_num, hid (HST.out nq), HR2 nq _, hid ((bel_drewN HB.out nq).setCell (p := ⟨w.heap.size + 1, i, none⟩) (by show w.heap.size ≤ w.heap.size + 1; omega) _)⟩, by simp [intOf]; omega⟩
        · obtain rfl : j = 4 := by omega
          have HO1 := hid (show OwnW wr (w.heap.size + 1) (w1L (fun j => c.getD j 0) (i + 1) 0) from by rw [← w1L_next]; exact HO.out)
          clear HO
          go_wp2
          exact ⟨⟨i + 1, by omega, by go_num, HO1, HR, HB⟩, by simp [intOf]; omega⟩
    · have h16 : i = 16 := by omega
      have HO1 := hid (show OwnW wr (w.heap.size + 1) (w2L (fun j => c.getD j 0) 0) from by rw [← w1_w2, ← h16]; exact HO.out)
      have hI : ¬ ((i : Int) < 16) := by omega
      clear h16
      have HR1 := HR
      have HB1 := HB
      clear HO HR HB
      go_wp2
      go_loopw [6] (fun iv wr => ∃ k : Nat, k ≤ 48 ∧ iv = .int .i64 ((16 + k : Nat) : Int) ∧ Hid (OwnW wr (w.heap.size + 1) (w2L (fun j => c.getD j 0) k)) ∧ Hid (OwnW wr w.heap.size (List.replicate 64 0)) ∧ Hid (Below w.heap.size w wr)) (fun iv _ => 64 - (intOf iv).toNat)
      case atStart => exact ⟨0, by omega, rfl, HO1, HR1, HB1⟩
      case round =>
        clear HO1 HR1 HB1
        obtain ⟨k, hk, rfl, HO, HR, HB⟩ := hrel
        obtain ⟨i, hik⟩ : ∃ i, i = 16 + k := ⟨_, rfl⟩
        rw [← hik]
        by_cases hi64 : i < 64
        · have hlen := w2L_length (fun j => c.getD j 0) k hk
          have g1 := HO.out.cell (i - 15) (by rw [hlen]; omega)
          have g2 := HO.out.cell (i - 2) (by rw [hlen]; omega)
          have g3 := HO.out.cell (i - 16) (by rw [hlen]; omega)
          have g4 := HO.out.cell (i - 7) (by rw [hlen]; omega)
          rw [w2L_at _ _ _ (by omega)] at g1 g2 g3 g4
          have hsl := schL_lt (c := fun j => c.getD j 0) HCO.out k
          have hgl : ∀ t, (schL (fun j => c.getD j 0) k).getD t 0 < 4294967296 := fun t => by
            rw [List.getD_eq_getElem?_getD]
            by_cases h : t < (schL (fun j => c.getD j 0) k).length
            · rw [List.getElem?_eq_getElem h]; exact hsl _ (List.getElem_mem _)
            · rw [List.getElem?_eq_none (by omega)]; decide
          have f1 := HO.out.free i
          have hst : ∀ nq, OwnW ((wr.drewN nq).setCell ⟨w.heap.size + 1, i, none⟩ (.int .u32 ((nx (schL (fun j => c.getD j 0) k) i : Nat) : Int))) (w.heap.size + 1) (w2L (fun j => c.getD j 0) (k + 1)) := fun nq => by
            have h5 := (show OwnW (wr.drewN nq) _ _ from HO.out).set (16 + k) (nx (schL (fun j => c.getD j 0) k) (16 + k))
            rw [w2L_step _ _ (by omega), ← hik] at h5
            exact h5
          have g5 := HO.out.cell i (by rw [hlen]; omega)
          have HST := hid hst
          have HR2 : ∀ nq v, Hid (OwnW ((wr.drewN nq).setCell ⟨w.heap.size + 1, i, none⟩ v) w.heap.size (List.replicate 64 0)) := fun nq v => hid ((Below.heap_setCell (wr.drewN nq) ⟨w.heap.size + 1, i, none⟩ v _ (show w.heap.size ≠ w.heap.size + 1 by omega)).trans HR.out)
          have h1 := hgl (i - 15)
          have h2 := hgl (i - 2)
          have h3 := hgl (i - 16)
          have h4 := hgl (i - 7)
          have hnx : nx (schL (fun j => c.getD j 0) k) i = ad (ad (ad ((schL (fun j => c.getD j 0) k).getD (i - 16) 0) (ssE ((schL (fun j => c.getD j 0) k).getD (i - 15) 0))) ((schL (fun j => c.getD j 0) k).getD (i - 7) 0)) (ssL ((schL (fun j => c.getD j 0) k).getD (i - 2) 0)) := rfl
          have HNX := hid hnx
          have HIK := hid hik
          have hk' : k + 1 ≤ 48 := by omega
          clear hst hsl hgl hlen hnx
          generalize (schL (fun j => c.getD j 0) k).getD (i - 15) 0 = x at *
          generalize (schL (fun j => c.getD j 0) k).getD (i - 2) 0 = y at *
          generalize (schL (fun j => c.getD j 0) k).getD (i - 16) 0 = p at *
          generalize (schL (fun j => c.getD j 0) k).getD (i - 7) 0 = q at *
          generalize (w2L (fun j => c.getD j 0) k).getD i 0 = z at *
          have d1 : (i : Int) - 15 = ((i - 15 : Nat) : Int) := by omega
          have d2 : (i : Int) - 2 = ((i - 2 : Nat) : Int) := by omega
          have d3 : (i : Int) - 16 = ((i - 16 : Nat) : Int) := by omega
          have d4 : (i : Int) - 7 = ((i - 7 : Nat) : Int) := by omega
          have j1 : i - 15 < 64 := by omega
          have j2 : i - 2 < 64 := by omega
          have j3 : i - 16 < 64 := by omega
          have j4 : i - 7 < 64 := by omega
          have m1 : ((i - 15 : Nat) : Int) < 64 := by omega
          have m2 : ((i - 2 : Nat) : Int) < 64 := by omega
          have m3 : ((i - 16 : Nat) : Int) < 64 := by omega
          have m4 : ((i - 7 : Nat) : Int) < 64 := by omega
          have m5 : (i : Int) < 64 := by omega
          have n3 : IntKind.i64.wrap ((i - 16 : Nat) : Int) = ((i - 16 : Nat) : Int) := by rw [IntKind.wrap_i64]; omega
          have n4 : IntKind.i64.wrap ((i - 7 : Nat) : Int) = ((i - 7 : Nat) : Int) := by rw [IntKind.wrap_i64]; omega
          have n5 : IntKind.i64.wrap ((i : Int) - 16) = ((i - 16 : Nat) : Int) := by rw [IntKind.wrap_i64]; omega
          have n6 : IntKind.i64.wrap ((i : Int) - 7) = ((i - 7 : Nat) : Int) := by rw [IntKind.wrap_i64]; omega
          clear hik
          generalize i - 15 = i1 at *
          generalize i - 2 = i2 at *
          generalize i - 16 = i3 at *
          generalize i - 7 = i4 at *
          obtain ⟨r1, hr1⟩ : ∃ r, r = rot x 25 := ⟨_, rfl⟩
          obtain ⟨r2, hr2⟩ : ∃ r, r = rot x 14 := ⟨_, rfl⟩
          obtain ⟨r3, hr3⟩ : ∃ r, r = rot y 15 := ⟨_, rfl⟩
          obtain ⟨r4, hr4⟩ : ∃ r, r = rot y 13 := ⟨_, rfl⟩
          obtain ⟨x8, hx8⟩ : ∃ r, r = x / 8 := ⟨_, rfl⟩
          obtain ⟨y9, hy9⟩ : ∃ r, r = y / 1024 := ⟨_, rfl⟩
          obtain ⟨E, hE⟩ : ∃ E, E = ssE x := ⟨_, rfl⟩
          obtain ⟨G, hG⟩ : ∃ E, E = ssL y := ⟨_, rfl⟩
          have dx : (x : Int) / 8 = (x8 : Int) := by omega
          have dy : (y : Int) / 1024 = (y9 : Int) := by omega
          have l1 : r1 < 4294967296 := by rw [hr1]; exact rot_lt h1 _
          have l2 : r2 < 4294967296 := by rw [hr2]; exact rot_lt h1 _
          have l3 : r3 < 4294967296 := by rw [hr3]; exact rot_lt h2 _
          have l4 : r4 < 4294967296 := by rw [hr4]; exact rot_lt h2 _
          have l5 : x8 < 4294967296 := by omega
          have l6 : y9 < 4294967296 := by omega
          obtain ⟨r12, hr12⟩ : ∃ r, r = r1 ^^^ r2 := ⟨_, rfl⟩
          obtain ⟨r34, hr34⟩ : ∃ r, r = r3 ^^^ r4 := ⟨_, rfl⟩
          have l7 : r12 < 4294967296 := by rw [hr12]; exact xor_lt32 l1 l2
          have l8 : r34 < 4294967296 := by rw [hr34]; exact xor_lt32 l3 l4
          have e1 : bits .xor .u32 (r1 : Int) (r2 : Int) = (r12 : Int) := by rw [hr12]; exact u32_xor_nat r1 r2 l1 l2
          have e2 : bits .xor .u32 (r12 : Int) (x8 : Int) = (E : Int) := by rw [u32_xor_nat r12 x8 l7 l5, hE, hr12, hr1, hr2, hx8]; rfl
          have e3 : bits .xor .u32 (r3 : Int) (r4 : Int) = (r34 : Int) := by rw [hr34]; exact u32_xor_nat r3 r4 l3 l4
          have e4 : bits .xor .u32 (r34 : Int) (y9 : Int) = (G : Int) := by rw [u32_xor_nat r34 y9 l8 l6, hG, hr34, hr3, hr4, hy9]; rfl
          obtain ⟨s1, hs1⟩ : ∃ r, r = ad p E := ⟨_, rfl⟩
          obtain ⟨s2, hs2⟩ : ∃ r, r = ad s1 q := ⟨_, rfl⟩
          obtain ⟨s3, hs3⟩ : ∃ r, r = ad s2 G := ⟨_, rfl⟩
          have a1 : IntKind.u32.wrap ((p : Int) + (E : Int)) = (s1 : Int) := by rw [IntKind.wrap_u32', hs1]; unfold ad; omega
          have a2 : IntKind.u32.wrap ((s1 : Int) + (q : Int)) = (s2 : Int) := by rw [IntKind.wrap_u32', hs2]; unfold ad; omega
          have a3 : IntKind.u32.wrap ((s2 : Int) + (G : Int)) = (s3 : Int) := by rw [IntKind.wrap_u32', hs3]; unfold ad; omega
          have HS3 := hid (show nx (schL (fun j => c.getD j 0) k) i = s3 from by rw [HNX.out, hs3, hs2, hs1, hE, hG])
          have R1 := hid (fun w => rot_any x 25 (-7) (by kernel_rfl) (by omega) (by omega) h1 w)
          have R2 := hid (fun w => rot_any x 14 (-18) (by kernel_rfl) (by omega) (by omega) h1 w)
          have R3 := hid (fun w => rot_any y 15 (-17) (by kernel_rfl) (by omega) (by omega) h2 w)
          have R4 := hid (fun w => rot_any y 13 (-19) (by kernel_rfl) (by omega) (by omega) h2 w)
          rw [← hr1] at R1
          rw [← hr2] at R2
          rw [← hr3] at R3
          rw [← hr4] at R4
          clear hr1 hr2 hr3 hr4 hx8 hy9 hE hG hr12 hr34 hs1 hs2 hs3
          go_wp2
          go_quiet (fail)
          go_wp2_with fail
          refine (R1.out _).mono ?_
          rintro e w' ⟨rfl, rfl⟩
          go_wp2_with fail
          refine (R2.out _).mono ?_
          rintro e w' ⟨rfl, rfl⟩
          go_wp2_with fail
          refine (R3.out _).mono ?_
          rintro e w' ⟨rfl, rfl⟩
          go_wp2_with fail
          refine (R4.out _).mono ?_
          rintro e w' ⟨rfl, rfl⟩
          go_wp2_with fail
          refine region_quiet_tail 15 (by kernel_rfl) (by kernel_rfl) ?_
          simp only [List.take_succ_cons, List.take_zero, List.drop_succ_cons, List.drop_zero]
          repeat (quiet_step (fail))
          refine wpQuiet_nil ?_
          intro nq2
          go_wp2
          rw [← HS3.out]
          exact ⟨⟨k + 1, hk', by rw [HIK.out]; go_num, hid (HST.out (nq + nq2)), HR2 (nq + nq2) _, hid ((bel_drewN HB.out (nq + nq2)).setCell (p := ⟨w.heap.size + 1, i, none⟩) (by show w.heap.size ≤ w.heap.size + 1; omega) _)⟩, by have h9 := HIK.out; simp [intOf]; omega⟩
        · have hk48 : k = 48 := by omega
          have hO := HO.out
          rw [hk48, w2L_last] at hO
          have hlw : (schL (fun j => c.getD j 0) 48).length = 64 := schL_length _ 48
          have HB5 := HB
          have HR5 := HR
          clear HO HR HB hik hk48
          generalize hL : schL (fun j => c.getD j 0) 48 = L at *
          have HL : True → schL (fun j => c.getD j 0) 48 = L := fun _ => hL
          clear hL
          have hsz : (u32s L).length = 64 := by rw [u32s_length, hlw]
          have HRA := hid (show wr.rangeAt (w.heap.size + 1) 0 (u32s L) from fun j v hj => by rw [Nat.zero_add, cell_of_heap hO, List.getElem?_toArray]; exact hj)
          have HIF := hid (show (Tryd.prog.info? 107).map (·.size) = some (u32s L).length from by rw [hsz]; kernel_rfl)
          clear hO hlw
          have HIF2 := hid (show (Tryd.prog.info? 107).map (·.size) = some (u32s L).toArray.size from by rw [List.size_toArray]; exact HIF.out)
          have hbw := HB5.out
          have HOLD := hid (show (u32s (List.replicate 64 0)).toArray.size = (u32s L).toArray.size from by rw [List.size_toArray, List.size_toArray, u32s_length, List.length_replicate, hsz])
          clear hsz
          go_wp2_with (refine wpList_load_mid rfl 107 (.tmp 3) rfl (w.heap.size + 1) 0 rfl (u32s L) _ HRA.out Tryd.underlying107 rfl HIF.out ?_
                       refine wpList_store_row rfl 107 (.tmp 2) (.tmp 79) rfl w.heap.size _ (u32s L).toArray _ rfl rfl HR5.out HIF2.out HOLD.out (u32s_one L) ?_
                       intro w5 hw5 hk5)
          have hres : (loadVar 107 ⟨w.heap.size, 0, none⟩).run Tryd.prog w5 = .ok (.agg (u32s L).toArray) w5 := run_loadVar_row _ _ 107 107 _ (0, 0) _ hw5 Tryd.underlying107 rfl HIF2.out
          refine bodyPost_ret (v := .agg (u32s L).toArray) (results_at Tryd.results77 rfl hres) rfl ⟨by rw [HL trivial], ?_⟩
          exact hbw.trans (hk5.below hbw.size (Nat.le_refl _))
end Go.Proofs.YtehjikogdaclgaaDoor

namespace Go.Proofs.YtehjikogdaclgaaDoor
open Go Go.RowKit
set_option linter.unusedVariables false

/-- the two listed variables hold what the program's text lays -/
structure Vars (w : World) (KC SH : List Nat) : Prop where
  start : w.rangeAt 1 0 (u32s SH)
  rc : w.rangeAt 2 0 (u32s KC)
  lt : 2 < w.heap.size
  kl : KC.length = 64
  sl : SH.length = 8
  ko : ∀ i, KC.getD i 0 < 4294967296
  so : ∀ i, SH.getD i 0 < 4294967296
theorem Vars.same {w w' : World} {KC SH : List Nat} (V : Vars w KC SH) (h1 : w'.heap[1]? = w.heap[1]?) (h2 : w'.heap[2]? = w.heap[2]?) (hs : w.heap.size ≤ w'.heap.size) : Vars w' KC SH :=
  ⟨fun j v hj => (World.cell?_of_block (a := ⟨1, 0 + j, none⟩) h1).trans (V.start j v hj), fun j v hj => (World.cell?_of_block (a := ⟨2, 0 + j, none⟩) h2).trans (V.rc j v hj), Nat.lt_of_lt_of_le V.lt hs, V.kl, V.sl, V.ko, V.so⟩
theorem Vars.below {w w' : World} {KC SH : List Nat} (V : Vars w KC SH) (hb : Below w.heap.size w w') : Vars w' KC SH := V.same (hb.block 1 (by have := V.lt; omega)) (hb.block 2 (by have := V.lt; omega)) hb.size
theorem Vars.kept {w w' : World} {KC SH : List Nat} {b : Nat} (V : Vars w KC SH) (k : Kept b w w') (h : 3 ≤ b) : Vars w' KC SH := V.same (k.block 1 (by have := V.lt; omega) (by omega)) (k.block 2 (by have := V.lt; omega) (by omega)) k.size
theorem HashAt.set_word {w : World} {hb : Nat} {h c : List Nat} {size : Nat} (H : HashAt w hb h c size) (i n : Nat) (hi : i < 8) (hn : n < 4294967296) : HashAt (w.setCell ⟨hb, i, none⟩ (.int .u32 ((n : Nat) : Int))) hb (h.set i n) c size := by
  have h1 := heap_set H.at_ i (.int .u32 n)
  refine ⟨?_, by rw [List.length_set]; exact H.hl, H.cl, fun j => ?_, H.co⟩
  · rw [h1]
    have h2 : i < (u32s h).length := by rw [u32s_length, H.hl]; exact hi
    unfold hcells
    rw [List.setIfInBounds_toArray, List.set_append_left _ _ h2]
    simp [u32s, List.map_set]
  · rw [List.getD_eq_getElem?_getD, List.getElem?_set]
    split
    · split
      · exact hn
      · decide
    · rw [← List.getD_eq_getElem?_getD]; exact H.ho j
theorem HashAt.free {w : World} {hb : Nat} {h c : List Nat} {size : Nat} (H : HashAt w hb h c size) (i : Nat) : w.frozen? ⟨hb, i, none⟩ = false := free_of_heap H.at_ i
theorem cmpTo_length (K : Nat → Nat) (h : List Nat) (c : Nat → Nat) (i : Nat) : (cmpTo K h c i).length = 8 := by simp [cmpTo]
theorem cmpTo_getD (K : Nat → Nat) (h : List Nat) (c : Nat → Nat) (i j : Nat) (hj : j < 8) : (cmpTo K h c i).getD j 0 = if j < i then ad (h.getD j 0) ((rnd (stOf h) K (fun t => (schL c 48).getD t 0) 64).list.getD j 0) else h.getD j 0 := by
  unfold cmpTo
  rw [List.getD_eq_getElem?_getD, List.getElem?_map, List.getElem?_range hj]
  rfl
theorem cmpTo_zero (K : Nat → Nat) (h : List Nat) (c : Nat → Nat) (hl : h.length = 8) : cmpTo K h c 0 = h := by
  refine getD_ext2 (by rw [cmpTo_length, hl]) fun j hj => ?_
  rw [cmpTo_length] at hj
  rw [cmpTo_getD _ _ _ _ _ hj, if_neg (by omega)]
theorem set_getD2 (l : List Nat) (i v j : Nat) (hi : i < l.length) : (l.set i v).getD j 0 = if j = i then v else l.getD j 0 := by
  rw [List.getD_eq_getElem?_getD, List.getD_eq_getElem?_getD, List.getElem?_set]
  by_cases h : i = j
  · subst h; simp [hi]
  · rw [if_neg h, if_neg (fun e => h e.symm)]
theorem cmpTo_step (K : Nat → Nat) (h : List Nat) (c : Nat → Nat) (i v : Nat) (hi : i < 8) (hv : v = (rnd (stOf h) K (fun t => (schL c 48).getD t 0) 64).list.getD i 0) : (cmpTo K h c i).set i (ad (h.getD i 0) v) = cmpTo K h c (i + 1) := by
  refine getD_ext2 (by rw [List.length_set, cmpTo_length, cmpTo_length]) fun j hj => ?_
  rw [List.length_set, cmpTo_length] at hj
  rw [set_getD2 _ _ _ _ (by rw [cmpTo_length]; exact hi), cmpTo_getD _ _ _ _ _ hj, cmpTo_getD _ _ _ _ _ hj]
  by_cases e : j = i
  · rw [if_pos e, if_pos (by omega), hv, e]
  · rw [if_neg e]
    by_cases h2 : j < i
    · rw [if_pos h2, if_pos (by omega)]
    · rw [if_neg h2, if_neg (by omega)]
theorem idx8 (a b c d e f g k : Int) (i : Nat) (hi : i < 8) (w : World) : (Instr.index 108 (.agg #[.int .u32 a, .int .u32 b, .int .u32 c, .int .u32 d, .int .u32 e, .int .u32 f, .int .u32 g, .int .u32 k]) (.int .i64 (i : Int))).run Tryd.prog w = .ok (.int .u32 ([a, b, c, d, e, f, g, k].getD i 0)) w := by
  have h : i = 0 ∨ i = 1 ∨ i = 2 ∨ i = 3 ∨ i = 4 ∨ i = 5 ∨ i = 6 ∨ i = 7 := by omega
  rcases h with rfl | rfl | rfl | rfl | rfl | rfl | rfl | rfl <;> simp [Instr.index, run_underlying Tryd.underlying108, go_sem]

set_option maxRecDepth 100000 in
set_option maxHeartbeats 4000000 in
theorem compress_any (hb size : Nat) (h c KC SH : List Nat) (w : World) (H : HashAt w hb h c size) (V : Vars w KC SH) (h3 : 3 ≤ hb) :
    Calls Tryd.prog 62 #[.pointer (some ⟨hb, 0, none⟩)] w fun e w' => e = .returned (.tuple #[]) ∧ HashAt w' hb (cmp (fun i => KC.getD i 0) h (fun j => c.getD j 0)) c size ∧ Kept hb w w' := by
  have HH := hid H
  have HV := hid V
  have hsched := schedule_any hb size h c w H
  have HSC := hid hsched
  clear hsched H V
  go_enter Tryd.func62, Tryd.ntmps62
  go_wp2_with fail
  refine HSC.out.mono ?_
  rintro e w2 ⟨rfl, hb2⟩
  have hsl : (schL (fun j => c.getD j 0) 48).length = 64 := schL_length _ 48
  have hwl := schL_lt (c := fun j => c.getD j 0) HH.out.co 48
  generalize hL : schL (fun j => c.getD j 0) 48 = L at *
  have HL := hid (fun (_ : Unit) => hL)
  have H2 := hid (HH.out.same (hb2.block hb HH.out.lt))
  have V2 := hid (HV.out.below hb2)
  have hsz : (u32s L).length = 64 := by rw [u32s_length, hsl]
  have HIF := hid (show (Tryd.prog.info? 107).map (·.size) = some (u32s L).toArray.size from by rw [List.size_toArray, hsz]; kernel_rfl)
  have HB2 := hid hb2
  clear hL hb2 HSC
  have HNW := hid (show (w2.alloc (.cells (u32s (List.replicate 64 0)).toArray 107)).heap[w2.heap.size]? = some (.cells (u32s (List.replicate 64 0)).toArray 107 (0, 0)) from heap_new w2 _)
  have HOLD := hid (show (u32s (List.replicate 64 0)).toArray.size = (u32s L).toArray.size from by rw [List.size_toArray, List.size_toArray, u32s_length, List.length_replicate, hsz])
  clear hsz
  go_wp2_with (refine wpList_store_row (by rfl) 107 (.tmp 2) (.tmp 21) (by rfl) w2.heap.size (u32s (List.replicate 64 0)).toArray (u32s L).toArray 107 (by rfl) (by rfl) HNW.out HIF.out HOLD.out (u32s_one L) ?_
               intro w5 hw5 hk5)
  have hk25 : Kept w2.heap.size w2 w5 := (Kept.of_below ((Below.refl _ _).alloc (Nat.le_refl _) (.cells (u32s (List.replicate 64 0)).toArray 107))).trans hk5
  have hbl : hb < w2.heap.size := Nat.lt_of_lt_of_le HH.out.lt HB2.out.size
  have H5 := hid (H2.out.same (hk25.block hb hbl (by omega)))
  have V5 := hid (V2.out.same (hk25.block 1 (by have := V2.out.lt; omega) (by have := V2.out.lt; omega)) (hk25.block 2 (by have := V2.out.lt; omega) (by have := V2.out.lt; omega)) hk25.size)
  have HO5 := hid (show OwnW w5 w2.heap.size L from hw5)
  have HB5 := hid (HB2.out.trans (hk25.below HB2.out.size (by have := HB2.out.size; omega)))
  have g0 := H5.out.word 0 (by omega)
  have g1 := H5.out.word 1 (by omega)
  have g2 := H5.out.word 2 (by omega)
  have g3 := H5.out.word 3 (by omega)
  have g4 := H5.out.word 4 (by omega)
  have g5 := H5.out.word 5 (by omega)
  have g6 := H5.out.word 6 (by omega)
  have g7 := H5.out.word 7 (by omega)
  have hk5' := hid hk5
  obtain ⟨s0, hs0⟩ : ∃ s, s = stOf h := ⟨_, rfl⟩
  have hok0 : s0.Ok := by rw [hs0]; exact stOf_ok HH.out.ho
  rw [show h.getD 0 0 = s0.a from by rw [hs0]; rfl] at g0
  rw [show h.getD 1 0 = s0.b from by rw [hs0]; rfl] at g1
  rw [show h.getD 2 0 = s0.c from by rw [hs0]; rfl] at g2
  rw [show h.getD 3 0 = s0.d from by rw [hs0]; rfl] at g3
  rw [show h.getD 4 0 = s0.e from by rw [hs0]; rfl] at g4
  rw [show h.getD 5 0 = s0.f from by rw [hs0]; rfl] at g5
  rw [show h.getD 6 0 = s0.g from by rw [hs0]; rfl] at g6
  rw [show h.getD 7 0 = s0.h from by rw [hs0]; rfl] at g7
  have HS0 := hid (fun (_ : Unit) => hs0)
  have HIFK := hid (show (Tryd.prog.info? 107).map (·.size) = some (u32s KC).length from by rw [u32s_length, HV.out.kl]; kernel_rfl)
  clear hw5 hk5 hk25 hs0 HNW HOLD HIF
  go_quiet (fail)
  obtain ⟨w6, hw6⟩ : ∃ w6, w6 = w5.drewN nq := ⟨_, rfl⟩
  have HO6 := hid (show OwnW w6 w2.heap.size L from by rw [hw6]; exact HO5.out)
  have H6 := hid (show HashAt w6 hb h c size from H5.out.same (by rw [hw6]; rfl))
  have V6 := hid (show Vars w6 KC SH from V5.out.same (by rw [hw6]; rfl) (by rw [hw6]; rfl) (by rw [hw6]; exact Nat.le_refl _))
  have HB6 := hid (show Below w.heap.size w w6 from by rw [hw6]; exact bel_drewN HB5.out _)
  rw [← hw6]
  clear g0 g1 g2 g3 g4 g5 g6 g7 hw6 HO5 H5 V5 HB5
  go_wp2_with (refine wpList_load_mid (by rfl) 107 (.global 2) (by rfl) 2 0 (by rfl) (u32s KC) _ V6.out.rc Tryd.underlying107 rfl HIFK.out ?_)
  obtain ⟨KF, hKF⟩ : ∃ KF : Nat → Nat, KF = fun i => KC.getD i 0 := ⟨_, rfl⟩
  obtain ⟨WF, hWF⟩ : ∃ WF : Nat → Nat, WF = fun t => L.getD t 0 := ⟨_, rfl⟩
  have HKF := hid hKF
  have HWF := hid hWF
  clear hKF hWF
  go_loop [3, 4, 5, 6, 7, 8, 9, 10, 63] (fun va vb vc vd ve vf vg vh iv => ∃ t : Nat, t ≤ 64 ∧ iv = .int .i64 t ∧ va = .int .u32 ((rnd s0 KF WF t).a : Nat) ∧ vb = .int .u32 ((rnd s0 KF WF t).b : Nat) ∧ vc = .int .u32 ((rnd s0 KF WF t).c : Nat) ∧ vd = .int .u32 ((rnd s0 KF WF t).d : Nat) ∧ ve = .int .u32 ((rnd s0 KF WF t).e : Nat) ∧ vf = .int .u32 ((rnd s0 KF WF t).f : Nat) ∧ vg = .int .u32 ((rnd s0 KF WF t).g : Nat) ∧ vh = .int .u32 ((rnd s0 KF WF t).h : Nat)) (fun _ _ _ _ _ _ _ _ iv => 64 - (intOf iv).toNat)
  case atStart => exact ⟨0, by omega, rfl, rfl, rfl, rfl, rfl, rfl, rfl, rfl, rfl⟩
  case round =>
    obtain ⟨t, ht, rfl, rfl, rfl, rfl, rfl, rfl, rfl, rfl, rfl⟩ := hrel
    have hok := rnd_ok hok0 KF WF t
    by_cases ht64 : t < 64
    · have hT : (t : Int) < 64 := by omega
      have hst1 : rnd s0 KF WF (t + 1) = (rnd s0 KF WF t).step (KF t) (WF t) := rfl
      have hstep := hid (fun (_ : Unit) => hst1)
      clear hst1
      generalize rnd s0 KF WF t = S at *
      obtain ⟨a, b, c1, d, e, f, g, k1⟩ := S
      have oa := hok.a
      have ob := hok.b
      have oc := hok.c
      have od := hok.d
      have oe := hok.e
      have of := hok.f
      have og := hok.g
      have oh := hok.h
      simp only at oa ob oc od oe of og oh
      clear hok
      have cw := HO6.out.cell t (by rw [hsl]; exact ht64)
      have hwx : WF t < 4294967296 := by
        rw [HWF.out]
        show L.getD t 0 < _
        rw [List.getD_eq_getElem?_getD, List.getElem?_eq_getElem (by omega)]
        exact hwl _ (List.getElem_mem _)
      have hkx : KF t < 4294967296 := by rw [HKF.out]; exact HV.out.ko t
      rw [show L.getD t 0 = WF t from by rw [HWF.out]] at cw
      have hix : (u32s KC)[t]? = some (.int .u32 ((KF t : Nat) : Int)) := by
        have h9 : t < KC.length := by rw [HV.out.kl]; exact ht64
        rw [HKF.out]
        simp [u32s, h9]
      have hidx : (Instr.index 107 (.agg (u32s KC).toArray) (.int .i64 (t : Int))).run Tryd.prog w6 = .ok (.int .u32 ((KF t : Nat) : Int)) w6 := by
        simp [Instr.index, run_underlying Tryd.underlying107, ht64, hix, go_sem]
      generalize WF t = x at *
      generalize KF t = kc at *
      have HSTA := hid (fun (_ : Unit) => (St.step_a ⟨a, b, c1, d, e, f, g, k1⟩ kc x))
      have HSTE := hid (fun (_ : Unit) => (St.step_e ⟨a, b, c1, d, e, f, g, k1⟩ kc x))
      simp only at HSTA HSTE
      obtain ⟨r1, hr1⟩ : ∃ r, r = rot e 26 := ⟨_, rfl⟩
      obtain ⟨r2, hr2⟩ : ∃ r, r = rot e 21 := ⟨_, rfl⟩
      obtain ⟨r3, hr3⟩ : ∃ r, r = rot e 7 := ⟨_, rfl⟩
      obtain ⟨r4, hr4⟩ : ∃ r, r = rot a 30 := ⟨_, rfl⟩
      obtain ⟨r5, hr5⟩ : ∃ r, r = rot a 19 := ⟨_, rfl⟩
      obtain ⟨r6, hr6⟩ : ∃ r, r = rot a 10 := ⟨_, rfl⟩
      have l1 : r1 < 4294967296 := by rw [hr1]; exact rot_lt oe _
      have l2 : r2 < 4294967296 := by rw [hr2]; exact rot_lt oe _
      have l3 : r3 < 4294967296 := by rw [hr3]; exact rot_lt oe _
      have l4 : r4 < 4294967296 := by rw [hr4]; exact rot_lt oa _
      have l5 : r5 < 4294967296 := by rw [hr5]; exact rot_lt oa _
      have l6 : r6 < 4294967296 := by rw [hr6]; exact rot_lt oa _
      obtain ⟨r12, h12⟩ : ∃ r, r = r1 ^^^ r2 := ⟨_, rfl⟩
      obtain ⟨r45, h45⟩ : ∃ r, r = r4 ^^^ r5 := ⟨_, rfl⟩
      have l12 : r12 < 4294967296 := by rw [h12]; exact xor_lt32 l1 l2
      have l45 : r45 < 4294967296 := by rw [h45]; exact xor_lt32 l4 l5
      obtain ⟨Ez, hEz⟩ : ∃ r, r = bsE e := ⟨_, rfl⟩
      obtain ⟨Az, hAz⟩ : ∃ r, r = bsA a := ⟨_, rfl⟩
      obtain ⟨Cz, hCz⟩ : ∃ r, r = chs e f g := ⟨_, rfl⟩
      obtain ⟨Mz, hMz⟩ : ∃ r, r = maj a b c1 := ⟨_, rfl⟩
      obtain ⟨n1, hn1⟩ : ∃ r, r = e &&& f := ⟨_, rfl⟩
      obtain ⟨ne, hne⟩ : ∃ r, r = 4294967295 ^^^ e := ⟨_, rfl⟩
      obtain ⟨n2, hn2⟩ : ∃ r, r = ne &&& g := ⟨_, rfl⟩
      obtain ⟨m1, hm1⟩ : ∃ r, r = a &&& b := ⟨_, rfl⟩
      obtain ⟨m2, hm2⟩ : ∃ r, r = a &&& c1 := ⟨_, rfl⟩
      obtain ⟨m3, hm3⟩ : ∃ r, r = b &&& c1 := ⟨_, rfl⟩
      obtain ⟨m12, hm12⟩ : ∃ r, r = m1 ^^^ m2 := ⟨_, rfl⟩
      have ln1 : n1 < 4294967296 := by rw [hn1]; exact and_lt32 oe _
      have lne : ne < 4294967296 := by rw [hne]; exact xor_lt32 (by omega) oe
      have ln2 : n2 < 4294967296 := by rw [hn2]; exact and_lt32 lne _
      have lm1 : m1 < 4294967296 := by rw [hm1]; exact and_lt32 oa _
      have lm2 : m2 < 4294967296 := by rw [hm2]; exact and_lt32 oa _
      have lm3 : m3 < 4294967296 := by rw [hm3]; exact and_lt32 ob _
      have lm12 : m12 < 4294967296 := by rw [hm12]; exact xor_lt32 lm1 lm2
      have e1 : bits .xor .u32 (r1 : Int) (r2 : Int) = (r12 : Int) := by rw [h12]; exact u32_xor_nat r1 r2 l1 l2
      have e2 : bits .xor .u32 (r12 : Int) (r3 : Int) = (Ez : Int) := by rw [u32_xor_nat r12 r3 l12 l3, hEz, h12, hr1, hr2, hr3]; rfl
      have e3 : bits .xor .u32 (r4 : Int) (r5 : Int) = (r45 : Int) := by rw [h45]; exact u32_xor_nat r4 r5 l4 l5
      have e4 : bits .xor .u32 (r45 : Int) (r6 : Int) = (Az : Int) := by rw [u32_xor_nat r45 r6 l45 l6, hAz, h45, hr4, hr5, hr6]; rfl
      have e5 : bits .and .u32 (e : Int) (f : Int) = (n1 : Int) := by rw [hn1]; exact u32_and_nat e f oe of
      have e6 : bits .xor .u32 IntKind.u32.max (e : Int) = (ne : Int) := by rw [hne]; exact u32_xor_nat 4294967295 e (by omega) oe
      have e7 : bits .and .u32 (ne : Int) (g : Int) = (n2 : Int) := by rw [hn2]; exact u32_and_nat ne g lne og
      have e8 : bits .xor .u32 (n1 : Int) (n2 : Int) = (Cz : Int) := by rw [u32_xor_nat n1 n2 ln1 ln2, hCz, hn1, hn2, hne]; rfl
      have e9 : bits .and .u32 (a : Int) (b : Int) = (m1 : Int) := by rw [hm1]; exact u32_and_nat a b oa ob
      have e10 : bits .and .u32 (a : Int) (c1 : Int) = (m2 : Int) := by rw [hm2]; exact u32_and_nat a c1 oa oc
      have e11 : bits .and .u32 (b : Int) (c1 : Int) = (m3 : Int) := by rw [hm3]; exact u32_and_nat b c1 ob oc
      have e12 : bits .xor .u32 (m1 : Int) (m2 : Int) = (m12 : Int) := by rw [hm12]; exact u32_xor_nat m1 m2 lm1 lm2
      have e13 : bits .xor .u32 (m12 : Int) (m3 : Int) = (Mz : Int) := by rw [u32_xor_nat m12 m3 lm12 lm3, hMz, hm12, hm1, hm2, hm3]; rfl
      rw [← hEz, ← hAz, ← hCz, ← hMz] at HSTA
      rw [← hEz, ← hCz] at HSTE
      have R1 := hid (fun w => rot_any e 26 (-6) (by kernel_rfl) (by omega) (by omega) oe w)
      have R2 := hid (fun w => rot_any e 21 (-11) (by kernel_rfl) (by omega) (by omega) oe w)
      have R3 := hid (fun w => rot_any e 7 (-25) (by kernel_rfl) (by omega) (by omega) oe w)
      have R4 := hid (fun w => rot_any a 30 (-2) (by kernel_rfl) (by omega) (by omega) oa w)
      have R5 := hid (fun w => rot_any a 19 (-13) (by kernel_rfl) (by omega) (by omega) oa w)
      have R6 := hid (fun w => rot_any a 10 (-22) (by kernel_rfl) (by omega) (by omega) oa w)
      rw [← hr1] at R1
      rw [← hr2] at R2
      rw [← hr3] at R3
      rw [← hr4] at R4
      rw [← hr5] at R5
      rw [← hr6] at R6
      clear hr1 hr2 hr3 hr4 hr5 hr6 h12 h45 hEz hAz hCz hMz hn1 hne hn2 hm1 hm2 hm3 hm12
      go_wp2_with fail
      refine (R1.out _).mono ?_
      rintro e9 w' ⟨rfl, rfl⟩
      go_wp2_with fail
      refine (R2.out _).mono ?_
      rintro e9 w' ⟨rfl, rfl⟩
      go_wp2_with fail
      refine (R3.out _).mono ?_
      rintro e9 w' ⟨rfl, rfl⟩
      go_wp2_with fail
      refine (R4.out _).mono ?_
      rintro e9 w' ⟨rfl, rfl⟩
      go_wp2_with fail
      refine (R5.out _).mono ?_
      rintro e9 w' ⟨rfl, rfl⟩
      go_wp2_with fail
      refine (R6.out _).mono ?_
      rintro e9 w' ⟨rfl, rfl⟩
      go_wp2_with fail
      go_round
      case rel =>
        have hs9 := hstep.out ()
        refine ⟨t + 1, by omega, by go_num, ?_, by rw [hs9]; rfl, by rw [hs9]; rfl, by rw [hs9]; rfl, ?_, by rw [hs9]; rfl, by rw [hs9]; rfl, by rw [hs9]; rfl⟩
        · rw [hs9, HSTA.out ()]
          exact congrArg (Value.int IntKind.u32) (by omega)
        · rw [hs9, HSTE.out ()]
          exact congrArg (Value.int IntKind.u32) (by omega)
      case measure => simp [intOf]; omega
    · have ht' : t = 64 := by omega
      have hT : ¬ ((t : Int) < 64) := by omega
      obtain ⟨S, hS⟩ : ∃ S, S = rnd s0 KF WF t := ⟨_, rfl⟩
      have hlist := hid (fun (_ : Unit) => (show S.list = (rnd (stOf h) (fun i => KC.getD i 0) (fun t => (schL (fun j => c.getD j 0) 48).getD t 0) 64).list from by rw [hS, HS0.out (), HKF.out, HWF.out, HL.out (), ht']))
      rw [← hS] at hok ⊢
      clear hS ht'
      obtain ⟨a, b, c1, d, e, f, g, k1⟩ := S
      have oa := hok.a
      have ob := hok.b
      have oc := hok.c
      have od := hok.d
      have oe := hok.e
      have of := hok.f
      have og := hok.g
      have oh := hok.h
      simp only at oa ob oc od oe of og oh
      have hvl : ∀ j, (St.list ⟨a, b, c1, d, e, f, g, k1⟩).getD j 0 < 4294967296 := by
        intro j
        unfold St.list
        match j with
        | 0 => exact oa
        | 1 => exact ob
        | 2 => exact oc
        | 3 => exact od
        | 4 => exact oe
        | 5 => exact of
        | 6 => exact og
        | 7 => exact oh
        | j + 8 => show ([] : List Nat).getD j 0 < _; rw [List.getD_nil]; decide
      clear hok
      have H7 := hid (show HashAt w6 hb (cmpTo (fun i => KC.getD i 0) h (fun j => c.getD j 0) 0) c size from by rw [cmpTo_zero _ _ _ HH.out.hl]; exact H6.out)
      have HK7 := hid (Kept.of_below (b := hb) HB6.out)
      have hsc : ∀ j, j < 8 → [(a : Int), b, c1, d, e, f, g, k1].getD j 0 = (((St.list ⟨a, b, c1, d, e, f, g, k1⟩).getD j 0 : Nat) : Int) := fun j hj => by
        have h : j = 0 ∨ j = 1 ∨ j = 2 ∨ j = 3 ∨ j = 4 ∨ j = 5 ∨ j = 6 ∨ j = 7 := by omega
        rcases h with rfl | rfl | rfl | rfl | rfl | rfl | rfl | rfl <;> rfl
      have HSCC := hid hsc
      clear hsc H6
      go_wp2
      go_loopw [137] (fun iv wr => ∃ i : Nat, i ≤ 8 ∧ iv = .int .i64 i ∧ Hid (HashAt wr hb (cmpTo (fun i => KC.getD i 0) h (fun j => c.getD j 0) i) c size) ∧ Hid (Kept hb w wr)) (fun iv _ => 8 - (intOf iv).toNat)
      case atStart => exact ⟨0, by omega, rfl, H7, HK7⟩
      case round =>
        clear H7 HK7
        obtain ⟨i, hi, rfl, H7, HK7⟩ := hrel
        by_cases hi8 : i < 8
        · have hI : (i : Int) < 8 := by omega
          have c1' := H7.out.word i hi8
          rw [cmpTo_getD _ _ _ _ _ hi8, if_neg (by omega)] at c1'
          have f1 := H7.out.free i
          have hidx := fun w' => idx8 (a : Int) b c1 d e f g k1 i hi8 w'
          rw [HSCC.out i hi8] at hidx
          have hvv := hvl i
          have hlv := congrArg (fun l => l.getD i 0) (hlist.out ())
          generalize (St.list ⟨a, b, c1, d, e, f, g, k1⟩).getD i 0 = v at *
          have hst := fun nq => (show HashAt (wr.drewN nq) hb _ c size from H7.out.same rfl).set_word i (ad (h.getD i 0) v) hi8 (ad_lt _ _)
          rw [cmpTo_step _ _ _ _ _ hi8 hlv] at hst
          have HST := hid hst
          have hpl := HH.out.ho i
          clear hst hlv
          generalize h.getD i 0 = p at *
          have hadd : IntKind.u32.wrap ((p : Int) + (v : Int)) = ((ad p v : Nat) : Int) := by rw [IntKind.wrap_u32']; unfold ad; omega
          go_wp2
          refine region_quiet_tail 11 (by kernel_rfl) (by kernel_rfl) ?_
          simp only [List.take_succ_cons, List.take_zero, List.drop_succ_cons, List.drop_zero]
          repeat (quiet_step (fail))
          refine wpQuiet_nil ?_
          intro nq
          go_wp2
          exact ⟨⟨i + 1, by omega, by go_num, hid (HST.out nq), hid ((HK7.out.drewN nq).setCell (p := ⟨hb, i, none⟩) rfl _)⟩, by simp [intOf]; omega⟩
        · obtain rfl : i = 8 := by omega
          go_wp2
          go_end0
          exact ⟨rfl, H7.out, HK7.out⟩
end Go.Proofs.YtehjikogdaclgaaDoor

namespace Go.Proofs.YtehjikogdaclgaaDoor
open Go.RowKit

/-- slice v reads as the bytes l in world w -/
def Bs (w : World) (v : Value) (l : List Nat) : Prop :=
  ∃ a c, v = .slice a l.length c ∧ (∀ n ∈ l, n < 256) ∧ (l ≠ [] → ∃ b o, a = some ⟨b, o, none⟩ ∧ ∀ i, i < l.length → w.cell? ⟨b, o + i, none⟩ = some (.int .u8 (l.getD i 0)))
/-- block b is a row of bytes that may be written -/
def Own (w : World) (b : Nat) (l : List Nat) : Prop := w.heap[b]? = some (.cells (u8s l).toArray 5 (0, 0))
/-- v does not lead into block fb -/
def Off (fb : Nat) : Value → Prop | .slice (some a) _ _ => a.block ≠ fb | _ => True

theorem Bs.lt {w : World} {v : Value} {l : List Nat} (h : Bs w v l) (i : Nat) : l.getD i 0 < 256 := by
  obtain ⟨a, c, _, h2, _⟩ := h
  rw [List.getD_eq_getElem?_getD]
  by_cases hi : i < l.length
  · rw [List.getElem?_eq_getElem hi]; exact h2 _ (List.getElem_mem _)
  · rw [List.getElem?_eq_none (by omega)]; show 0 < 256; omega
theorem Bs.below {w w' : World} {v : Value} {l : List Nat} (h : Bs w v l) (k : Below w.heap.size w w') : Bs w' v l := by
  obtain ⟨a, c, h1, h2, h3⟩ := h
  refine ⟨a, c, h1, h2, fun hl => ?_⟩
  obtain ⟨b, o, ha, hc⟩ := h3 hl
  refine ⟨b, o, ha, fun i hi => ?_⟩
  have := hc i hi
  rw [k.cell (World.block_lt_of_cell? _ _ this)]; exact this
theorem Bs.drewN {w : World} {v : Value} {l : List Nat} (h : Bs w v l) (n : Nat) : Bs (w.drewN n) v l := h.below (bel_drewN (Below.refl _ _) n)
theorem Bs.alloc {w : World} {v : Value} {l : List Nat} (h : Bs w v l) (o : Obj) : Bs (w.alloc o) v l := h.below ((Below.refl _ _).alloc (Nat.le_refl _) o)
theorem Bs.kept {w w' : World} {v : Value} {l : List Nat} {fb : Nat} (h : Bs w v l) (k : Kept fb w w') (ho : Off fb v) : Bs w' v l := by
  obtain ⟨a, c, h1, h2, h3⟩ := h
  refine ⟨a, c, h1, h2, fun hl => ?_⟩
  obtain ⟨b, o, ha, hc⟩ := h3 hl
  refine ⟨b, o, ha, fun i hi => ?_⟩
  have := hc i hi
  subst h1; subst ha
  have hb : b ≠ fb := ho
  rw [World.cell?_of_block (w := w) (k.block b (World.block_lt_of_cell? _ _ this) hb)]; exact this
theorem Own.bs {w : World} {b : Nat} {l : List Nat} (h : Own w b l) (hl : ∀ n ∈ l, n < 256) (c : Nat) : Bs w (.slice (some ⟨b, 0, none⟩) l.length c) l :=
  ⟨_, c, rfl, hl, fun _ => ⟨b, 0, rfl, fun i hi => by
    rw [Nat.zero_add, cell_of_heap h]
    simp [u8s, List.getElem?_map, List.getElem?_eq_getElem hi]⟩⟩
theorem Own.cell {w : World} {b : Nat} {l : List Nat} (h : Own w b l) (i : Nat) (hi : i < l.length) : w.cell? ⟨b, i, none⟩ = some (.int .u8 (l.getD i 0)) := by
  rw [cell_of_heap h]
  simp [u8s, List.getElem?_map, List.getElem?_eq_getElem hi]
theorem Own.free {w : World} {b : Nat} {l : List Nat} (h : Own w b l) (i : Nat) : w.frozen? ⟨b, i, none⟩ = false := free_of_heap h i
theorem Own.set {w : World} {b : Nat} {l : List Nat} (h : Own w b l) (i n : Nat) : Own (w.setCell ⟨b, i, none⟩ (.int .u8 n)) b (l.set i n) := by
  have := heap_set h i (.int .u8 n)
  unfold Own
  rw [this]
  simp [u8s, List.map_set]
theorem Own.below {w w' : World} {b B : Nat} {l : List Nat} (h : Own w b l) (k : Below B w w') (hb : b < B) : Own w' b l := (k.block b hb).trans h
theorem Own.lt {w : World} {b : Nat} {l : List Nat} (h : Own w b l) : b < w.heap.size := lt_of_block h
theorem Own.drewN {w : World} {b : Nat} {l : List Nat} (h : Own w b l) (n : Nat) : Own (w.drewN n) b l := h
theorem Own.alloc {w : World} {b : Nat} {l : List Nat} (h : Own w b l) (o : Obj) : Own (w.alloc o) b l := heap_alloc h o
theorem Own.setCell {w : World} {b : Nat} {l : List Nat} (h : Own w b l) {p : Addr} (hp : p.block ≠ b) (u : Value) : Own (w.setCell p u) b l := (Below.heap_setCell _ _ _ _ (fun e => hp e.symm)).trans h
theorem made_u8 (n : Nat) : madeCells #[.int .u8 0] n = (u8s (List.replicate n 0)).toArray := by
  apply Array.ext
  · simp [madeCells, u8s]
  · intro i h1 h2
    simp [madeCells, u8s, Nat.mod_one]
theorem own_made (w : World) (n : Nat) : Own (w.alloc (.cells (madeCells #[.int .u8 0] n) 5)) w.heap.size (List.replicate n 0) := by
  rw [made_u8]; exact heap_new _ _
/-- a row of n bytes, the first k of which have been filled by f -/
def upTo (n : Nat) (f : Nat → Nat) (k : Nat) : List Nat := (List.range n).map fun i => if i < k then f i else 0
theorem upTo_length (n : Nat) (f : Nat → Nat) (k : Nat) : (upTo n f k).length = n := by simp [upTo]
theorem upTo_zero (n : Nat) (f : Nat → Nat) : upTo n f 0 = List.replicate n 0 := by
  apply List.ext_getElem?
  intro i
  unfold upTo
  by_cases hi : i < n
  · simp [hi]
  · rw [List.getElem?_eq_none (by simp; omega), List.getElem?_eq_none (by simp; omega)]
theorem upTo_all (n : Nat) (f : Nat → Nat) : upTo n f n = (List.range n).map f := by
  unfold upTo
  apply List.map_congr_left
  intro i hi
  rw [if_pos (List.mem_range.1 hi)]
theorem upTo_set (n : Nat) (f : Nat → Nat) (k : Nat) : (upTo n f k).set k (f k) = upTo n f (k + 1) := by
  apply List.ext_getElem?
  intro i
  unfold upTo
  rw [List.getElem?_set]
  simp only [List.length_map, List.length_range, List.getElem?_map]
  by_cases h : k = i
  · subst h
    by_cases hk : k < n
    · rw [if_pos rfl, if_pos hk, List.getElem?_range hk]; simp
    · rw [if_pos rfl, if_neg hk, List.getElem?_eq_none (by simp; omega)]; rfl
  · rw [if_neg h]
    by_cases hi : i < n
    · rw [List.getElem?_range hi]
      simp only [Option.map_some]
      by_cases h2 : i < k
      · rw [if_pos h2, if_pos (by omega)]
      · rw [if_neg h2, if_neg (by omega)]
    · rw [List.getElem?_eq_none (by simp; omega)]; rfl
theorem range_getD (l : List Nat) : (List.range l.length).map (fun i => l.getD i 0) = l := by
  apply List.ext_getElem?
  intro i
  by_cases hi : i < l.length
  · simp [hi]
  · rw [List.getElem?_eq_none (by simp; omega), List.getElem?_eq_none (by omega)]
/-- a new row of n zero bytes -/
def zrow (n : Nat) : Obj := .cells (u8s (List.replicate n 0)).toArray 5
theorem own_zrow (w : World) (n : Nat) : Own (w.alloc (zrow n)) w.heap.size (List.replicate n 0) := heap_new _ _
theorem info5 : (Tryd.prog.info? 5).map (fun i => (i.zero, i.size, i.bytes)) = some (some (.int .u8 0), 1, 1) := by kernel_rfl
theorem mk_u8 (n : Nat) (hn : n ≤ 140737488355328) (w : World) : (Instr.makeSlice 22 (.int .i64 n) (.int .i64 n)).run Tryd.prog w = .ok (.slice (some ⟨w.heap.size, 0, none⟩) n n) (w.alloc (zrow n)) := by
  obtain ⟨i0, hi, hz0, hz1, hz2⟩ := info_parts info5
  have h := run_make (P := Tryd.prog) w 22 5 i0 (.int .u8 0) Tryd.underlying22 hi hz0 .i64 .i64 n n (by omega) (by omega) (by rw [hz2]; omega) (by omega)
  rw [h, hz1]
  simp only [Int.toNat_natCast, Nat.mul_one, Value.cells, made_u8]
  rfl
theorem Bs.cell {w : World} {b o n c : Nat} {l : List Nat} (h : Bs w (.slice (some ⟨b, o, none⟩) n c) l) (i : Nat) (hi : i < l.length) : w.cell? ⟨b, o + i, none⟩ = some (.int .u8 (l.getD i 0)) := by
  obtain ⟨a, c', h1, _, h3⟩ := h
  obtain ⟨b', o', h4, h5⟩ := h3 (by intro e; rw [e] at hi; exact absurd hi (Nat.not_lt_zero _))
  simp only [Value.slice.injEq] at h1
  obtain ⟨h6, _, _⟩ := h1
  rw [h4] at h6
  simp only [Option.some.injEq, Addr.mk.injEq, and_true] at h6
  obtain ⟨rfl, rfl⟩ := h6
  exact h5 i hi
theorem Bs.len {w : World} {a : Option Addr} {n c : Nat} {l : List Nat} (h : Bs w (.slice a n c) l) : n = l.length := by
  obtain ⟨a, c', h1, _, _⟩ := h
  simp only [Value.slice.injEq] at h1
  exact h1.2.1
theorem Bs.off_ge {w : World} {v : Value} {l : List Nat} {sb : Nat} (h : Bs w v l) (hl : l ≠ []) (hsb : w.heap.size ≤ sb) : Off sb v := by
  obtain ⟨a, c, h1, _, h3⟩ := h
  obtain ⟨b, o, ha, hc⟩ := h3 hl
  have : b < w.heap.size := World.block_lt_of_cell? _ _ (hc 0 (List.length_pos_iff.2 hl))
  subst h1; subst ha
  show b ≠ sb
  omega
theorem Bs.drop {w : World} {a : Option Addr} {n c : Nat} {l : List Nat} (h : Bs w (.slice a n c) l) (m : Nat) (hm : m ≤ n) (hc : n ≤ c) : Bs w (.slice (if c = m then a else a.map (fun x => x.add m)) (n - m) (c - m)) (l.drop m) := by
  have hn := h.len
  have hlt := h.lt
  obtain ⟨a', c', h1, h2, h3⟩ := h
  simp only [Value.slice.injEq] at h1
  obtain ⟨rfl, _, _⟩ := h1
  refine ⟨_, c - m, by rw [List.length_drop, ← hn], fun x hx => h2 x (List.mem_of_mem_drop hx), fun hl => ?_⟩
  have hml : m < l.length := by
    rcases Nat.lt_or_ge m l.length with h | h
    · exact h
    · exact absurd (List.drop_eq_nil_of_le h) hl
  obtain ⟨b, o, ha, hcell⟩ := h3 (by intro e; rw [e] at hml; exact absurd hml (Nat.not_lt_zero _))
  refine ⟨b, o + m, ?_, fun i hi => ?_⟩
  · rw [if_neg (by omega), ha]
    show some (Addr.add _ m) = _
    unfold Addr.add
    split
    · rename_i h0; subst h0; rfl
    · rfl
  · rw [List.length_drop] at hi
    have := hcell (m + i) (by omega)
    rw [show o + m + i = o + (m + i) from by omega, this]
    simp [List.getElem?_drop]
/-- a slice that reads as bytes has an address unless it is empty -/
theorem Bs.addr {w : World} {v : Value} {l : List Nat} (h : Bs w v l) : (l = [] ∧ ∃ a c, v = .slice a 0 c) ∨ (l ≠ [] ∧ ∃ b o c, v = .slice (some ⟨b, o, none⟩) l.length c) := by
  obtain ⟨a, c, h1, _, h3⟩ := h
  by_cases hl : l = []
  · subst hl; exact .inl ⟨rfl, a, c, h1⟩
  · obtain ⟨b, o, h4, _⟩ := h3 hl
    exact .inr ⟨hl, b, o, c, by rw [h1, h4]⟩
theorem bs_nil (w : World) : Bs w (.slice none 0 0) [] := ⟨none, 0, rfl, fun _ h => absurd h (List.not_mem_nil), fun h => absurd rfl h⟩
theorem bs_of_ints {w : World} {a : Addr} {len cap : Nat} {zs : List Int} (hl : len ≤ cap) (hz : zs.length = cap) (hcell : ∀ i, i < zs.length → w.cell? (a.add i) = some (.int .u8 (zs.getD i 0))) (hwf : ∀ n ∈ zs, (Lit.int .u8 n).wf = true) :
    Bs w (.slice (some a) len cap) ((zs.take len).map Int.toNat) := by
  have hb : ∀ n ∈ zs, 0 ≤ n ∧ n < 256 := fun n hn => by
    have := hwf n hn
    simp [Lit.wf] at this
    have e1 : IntKind.u8.min = 0 := rfl
    have e2 : IntKind.u8.max = 255 := rfl
    omega
  have hlen : ((zs.take len).map Int.toNat).length = len := by simp; omega
  refine ⟨some a, cap, by rw [hlen], fun n hn => ?_, fun hne => ?_⟩
  · obtain ⟨x, hx, rfl⟩ := List.mem_map.1 hn
    have := hb x (List.mem_of_mem_take hx)
    omega
  · have h0 : 0 < len := by
      rcases Nat.eq_zero_or_pos len with h | h
      · subst h; exact absurd rfl hne
      · exact h
    obtain ⟨b, o, spot⟩ := a
    have hc := hcell 0 (by omega)
    have hspot : spot = none := by simpa [Addr.add] using World.cell?_spot hc
    subst hspot
    refine ⟨b, o, rfl, fun i hi => ?_⟩
    rw [hlen] at hi
    have h1 := hcell i (by omega)
    have e : (⟨b, o, none⟩ : Addr).add i = ⟨b, o + i, none⟩ := by unfold Addr.add; split <;> simp_all
    rw [e] at h1
    rw [h1]
    have h2 : i < zs.length := by omega
    have h3 := hb zs[i] (List.getElem_mem h2)
    have e2 : zs.getD i 0 = zs[i] := by simp [h2]
    have e3 : ((zs.take len).map Int.toNat).getD i 0 = zs[i].toNat := by
      rw [List.getD_eq_getElem?_getD, List.getElem?_map, List.getElem?_take_of_lt hi, List.getElem?_eq_getElem h2]; rfl
    rw [e2, e3]
    congr 2; omega
end Go.Proofs.YtehjikogdaclgaaDoor
