/-
  schedule: the words of a chunk.
-/
import Derived.Test.YtafkjfpmjhfofaaDoorRotSha
import Derived.Test.YtafkjfpmjhfofaaDoorQT
import Derived.Deep.WholeRow
import Derived.Deep.MidRow
import Derived.Laws.ResultCell
namespace Go.Proofs.YtafkjfpmjhfofaaDoor
open Go Go.RowKit
set_option linter.unusedVariables false

def u32s (l : List Nat) : List Value := l.map fun (n : Nat) => .int .u32 n
/-- a row of words -/
def OwnW (w : World) (b : Nat) (l : List Nat) : Prop := w.heap[b]? = some (.cells (u32s l).toArray 99 (0, 0))
/-- the cells of a Hash -/
def hcells (h c : List Nat) (size : Nat) : List Value := u32s h ++ (u8s c ++ [.int .i64 (size : Int)])
structure HashAt (w : World) (hb : Nat) (h c : List Nat) (size : Nat) : Prop where
  at_ : w.heap[hb]? = some (.cells (hcells h c size).toArray 115 (0, 0))
  hl : h.length = 8
  cl : c.length = 64
  ho : ∀ i, h.getD i 0 < 4294967296
  co : ∀ i, c.getD i 0 < 256
theorem u32s_length (l : List Nat) : (u32s l).length = l.length := by simp [u32s]
theorem OwnW.cell {w : World} {b : Nat} {l : List Nat} (h : OwnW w b l) (i : Nat) (hi : i < l.length) : w.cell? ⟨b, i, none⟩ = some (.int .u32 ((l.getD i 0 : Nat) : Int)) := by
  rw [cell_of_heap h]
  simp [u32s, List.getElem?_eq_getElem hi]
theorem OwnW.free {w : World} {b : Nat} {l : List Nat} (h : OwnW w b l) (i : Nat) : w.frozen? ⟨b, i, none⟩ = false := free_of_heap h i
theorem OwnW.set {w : World} {b : Nat} {l : List Nat} (h : OwnW w b l) (i n : Nat) : OwnW (w.setCell ⟨b, i, none⟩ (.int .u32 ((n : Nat) : Int))) b (l.set i n) := by
  have h1 := heap_set h i (.int .u32 n)
  show _ = _
  rw [h1]
  simp [u32s, List.map_set]
theorem OwnW.lt {w : World} {b : Nat} {l : List Nat} (h : OwnW w b l) : b < w.heap.size := lt_of_heap h
theorem OwnW.same {w w' : World} {b : Nat} {l : List Nat} (h : OwnW w b l) (hs : w'.heap[b]? = w.heap[b]?) : OwnW w' b l := hs.trans h
theorem HashAt.same {w w' : World} {hb : Nat} {h c : List Nat} {size : Nat} (H : HashAt w hb h c size) (hs : w'.heap[hb]? = w.heap[hb]?) : HashAt w' hb h c size := ⟨hs.trans H.at_, H.hl, H.cl, H.ho, H.co⟩
theorem HashAt.lt {w : World} {hb : Nat} {h c : List Nat} {size : Nat} (H : HashAt w hb h c size) : hb < w.heap.size := lt_of_heap H.at_
theorem HashAt.word {w : World} {hb : Nat} {h c : List Nat} {size : Nat} (H : HashAt w hb h c size) (i : Nat) (hi : i < 8) : w.cell? ⟨hb, i, none⟩ = some (.int .u32 ((h.getD i 0 : Nat) : Int)) := by
  rw [cell_of_heap H.at_]
  have h1 : i < h.length := by rw [H.hl]; exact hi
  simp [hcells, u32s, List.getElem?_append_left, h1]
theorem HashAt.byte {w : World} {hb : Nat} {h c : List Nat} {size : Nat} (H : HashAt w hb h c size) (i : Nat) (hi : i < 64) : w.cell? ⟨hb, 8 + i, none⟩ = some (.int .u8 ((c.getD i 0 : Nat) : Int)) := by
  rw [cell_of_heap H.at_]
  have h1 : i < c.length := by rw [H.cl]; exact hi
  have h2 : (u32s h).length = 8 := by rw [u32s_length, H.hl]
  simp only [hcells, List.getElem?_toArray]
  rw [List.getElem?_append_right (by omega), h2, Nat.add_sub_cancel_left, List.getElem?_append_left (by simpa [u8s] using h1)]
  simp [u8s, h1]
theorem HashAt.size_ {w : World} {hb : Nat} {h c : List Nat} {size : Nat} (H : HashAt w hb h c size) : w.cell? ⟨hb, 72, none⟩ = some (.int .i64 (size : Int)) := by
  rw [cell_of_heap H.at_]
  have h2 : (u32s h).length = 8 := by rw [u32s_length, H.hl]
  have h3 : (u8s c).length = 64 := by simp [u8s, H.cl]
  simp only [hcells, List.getElem?_toArray]
  rw [List.getElem?_append_right (by omega), h2, List.getElem?_append_right (by omega), h3]
  rfl
/-- a whole array stored, as one step -/
theorem wpList_store_row {P : Program} {ops : Array Oper} {rest : List Oper} {op : Oper} {a : Act} {w : World} {Q : Exit → Act → World → Prop} (hgd : op.guard = none) (ty : TypeId) (x y : Operand) (ho : op.op = .store ty x y)
    (b : Nat) (old cells : Array Value) (t : TypeId) (hx : a.eval x = .pointer (some ⟨b, 0, none⟩)) (hy : a.eval y = .agg cells) (hg : w.heap[b]? = some (.cells old t (0, 0)))
    (hi : (P.info? ty).map (·.size) = some cells.size) (hs : old.size = cells.size) (h1 : cells.all (·.oneCell') = true)
    (h : ∀ w', w'.heap[b]? = some (.cells cells t (0, 0)) → Kept b w w' → wpList P ops Q rest (a.put op.dst undef) w') : wpList P ops Q (op :: rest) a w := by
  refine wpList_plain hgd fun _ hK => ?_
  unfold Oper.wp execOp
  simp only [ho, hx, hy, Instr.storeAt, Instr.sureAddr, Sem.run_bind, Sem.run_pure, Result.andThen_ok, run_storeVar_row w b t ty old cells hg hi hs h1]
  exact hK _ _ (h _ (setRow_heap w b old cells t (0, 0) hg) ⟨rfl, rfl, rfl, by simp [World.setRow], fun k _ hk => setRow_other w b k cells hk⟩)
theorem results_cell1 {fn : Func} {p : Tmp} {ty : TypeId} (h : fn.results = #[.cell p ty]) (tmps : Array Value) (P : Program) (w : World) :
    (results fn tmps).run P w = ((asAddr (tmps.getD p undef)).run P w).andThen fun a w₁ => (loadVar ty a).run P w₁ := by
  simp only [results, h]
  simp [Sem.run_bind, Result.andThen]
theorem results_at {fn : Func} {p : Tmp} {ty : TypeId} (h : fn.results = #[.cell p ty]) {tmps : Array Value} {P : Program} {w : World} {ad : Addr} {v : Value} (hp : tmps.getD p undef = .pointer (some ad)) (hv : (loadVar ty ad).run P w = .ok v w) :
    (results fn tmps).run P w = .ok v w := by
  rw [results_cell1 h, hp]
  simp [asAddr, hv]
theorem u32s_one (l : List Nat) : (u32s l).toArray.all (·.oneCell') = true := by
  refine all_oneCell_toArray fun v hv => ?_
  unfold u32s at hv
  obtain ⟨n, _, rfl⟩ := List.mem_map.1 hv
  rfl
/-- the words while the chunk is read -/
def w1L (c : Nat → Nat) (i j : Nat) : List Nat := (List.range 64).map fun t => if t < i then wj c t 4 else if t = i then wj c i j else 0
theorem w1L_getD (c : Nat → Nat) (i j t : Nat) : (w1L c i j).getD t 0 = if t < 64 then (if t < i then wj c t 4 else if t = i then wj c i j else 0) else 0 := by
  unfold w1L
  rw [List.getD_eq_getElem?_getD]
  by_cases h : t < 64
  · rw [if_pos h, List.getElem?_map, List.getElem?_range h]; rfl
  · rw [if_neg h, List.getElem?_eq_none (by simpa using h)]; rfl
theorem w1L_length (c : Nat → Nat) (i j : Nat) : (w1L c i j).length = 64 := by simp [w1L]
theorem w1L_step (c : Nat → Nat) (i j : Nat) (hi : i < 64) : (w1L c i j).set i (wj c i (j + 1)) = w1L c i (j + 1) := by
  unfold w1L
  apply List.ext_getElem
  · simp
  · intro t h1 h2
    rw [List.getElem_set]
    by_cases e : i = t
    · subst e; simp
    · rw [if_neg e]
      simp [show ¬ t = i from fun h => e h.symm]
theorem w1L_next (c : Nat → Nat) (i : Nat) : w1L c i 4 = w1L c (i + 1) 0 := by
  unfold w1L
  apply List.map_congr_left
  intro t _
  by_cases h : t < i
  · rw [if_pos h, if_pos (by omega)]
  · by_cases e : t = i
    · rw [if_neg h, if_pos e, if_pos (by omega), e]
    · rw [if_neg h, if_neg e, if_neg (by omega)]
      by_cases e2 : t = i + 1
      · rw [if_pos e2]; rfl
      · rw [if_neg e2]
/-- the words while the schedule grows -/
def w2L (c : Nat → Nat) (k : Nat) : List Nat := schL c k ++ List.replicate (48 - k) 0
theorem w2L_length (c : Nat → Nat) (k : Nat) (hk : k ≤ 48) : (w2L c k).length = 64 := by
  unfold w2L
  rw [List.length_append, schL_length, List.length_replicate]
  omega
theorem getD_ext2 {l m : List Nat} (hl : l.length = m.length) (h : ∀ j, j < l.length → l.getD j 0 = m.getD j 0) : l = m := by
  apply List.ext_getElem hl
  intro j h1 h2
  have h3 := h j h1
  rw [List.getD_eq_getElem?_getD, List.getD_eq_getElem?_getD, List.getElem?_eq_getElem h1, List.getElem?_eq_getElem h2] at h3
  exact h3
theorem zeros_getD (n j : Nat) : (List.replicate n 0).getD j 0 = 0 := by
  rw [List.getD_eq_getElem?_getD, List.getElem?_replicate]
  split <;> rfl
theorem w1_w2 (c : Nat → Nat) : w1L c 16 0 = w2L c 0 := by
  refine getD_ext2 (by rw [w1L_length, w2L_length c 0 (by omega)]) fun t ht => ?_
  rw [w1L_length] at ht
  rw [w1L_getD, if_pos ht]
  unfold w2L
  by_cases h : t < 16
  · rw [if_pos h, List.getD_eq_getElem?_getD, List.getElem?_append_left (by rw [schL_length]; exact h)]
    show _ = ((List.range 16).map fun i => wj c i 4)[t]?.getD 0
    rw [List.getElem?_map, List.getElem?_range h]
    rfl
  · rw [if_neg h, List.getD_eq_getElem?_getD, List.getElem?_append_right (by rw [schL_length]; omega), ← List.getD_eq_getElem?_getD, zeros_getD]
    split
    · rfl
    · rfl
theorem w2L_at (c : Nat → Nat) (k t : Nat) (ht : t < 16 + k) : (w2L c k).getD t 0 = (schL c k).getD t 0 := by
  unfold w2L
  rw [List.getD_eq_getElem?_getD, List.getElem?_append_left (by rw [schL_length]; exact ht), List.getD_eq_getElem?_getD]
theorem w2L_step (c : Nat → Nat) (k : Nat) (hk : k < 48) : (w2L c k).set (16 + k) (nx (schL c k) (16 + k)) = w2L c (k + 1) := by
  unfold w2L
  rw [List.set_append_right _ _ (by rw [schL_length]; omega), schL_length, Nat.sub_self]
  show _ = (schL c k ++ [_]) ++ _
  rw [List.append_assoc]
  congr 1
  rw [show 48 - k = (48 - (k + 1)) + 1 from by omega, List.replicate_succ]
  rfl
theorem w2L_last (c : Nat → Nat) : w2L c 48 = schL c 48 := by simp [w2L]
theorem or_word (x b : Nat) (hb : b < 256) : bits .or .u32 ((x : Int) * 256 % 4294967296) (b : Int) = (((x * 256 % 4294967296) ||| b : Nat) : Int) := by
  have e1 : (x : Int) * 256 % 4294967296 = ((x * 256 % 4294967296 : Nat) : Int) := by simp
  rw [e1]
  exact u32_or_nat _ _ (mod_lt32 _) (by omega)

set_option maxRecDepth 100000 in
set_option maxHeartbeats 4000000 in
theorem schedule_any (hb size : Nat) (h c : List Nat) (w : World) (H : HashAt w hb h c size) :
    Calls Tryd.prog 90 #[.pointer (some ⟨hb, 0, none⟩)] w fun e w' => e = .returned (.agg (u32s (schL (fun j => c.getD j 0) 48)).toArray) ∧ Below w.heap.size w w' := by
  have hco := H.co
  have HH := hid H
  have HCO := hid hco
  have hlt := H.lt
  obtain ⟨w2, hw2⟩ : ∃ w2, w2 = (w.alloc (.cells (u32s (List.replicate 64 0)).toArray 99)).alloc (.cells (u32s (List.replicate 64 0)).toArray 99) := ⟨_, rfl⟩
  have hb2 : Below w.heap.size w w2 := by rw [hw2]; exact ((Below.refl _ _).alloc (Nat.le_refl _) _).alloc (by simp) _
  have hO : OwnW w2 (w.heap.size + 1) (w1L (fun j => c.getD j 0) 0 0) := by
    have h5 := heap_new (w.alloc (.cells (u32s (List.replicate 64 0)).toArray 99)) (.cells (u32s (List.replicate 64 0)).toArray 99)
    rw [World.size_alloc] at h5
    rw [hw2]
    rw [show w1L (fun j => c.getD j 0) 0 0 = List.replicate 64 0 from getD_ext2 (by rw [w1L_length, List.length_replicate]) fun t ht => by
      rw [w1L_length] at ht
      rw [w1L_getD, if_pos ht, zeros_getD, if_neg (by omega)]
      split <;> rfl]
    exact h5
  have hR : OwnW w2 w.heap.size (List.replicate 64 0) := by rw [hw2]; exact heap_alloc (heap_new _ _) _
  have HO := hid hO
  have HR := hid hR
  have HB := hid hb2
  clear H hco hO hR hb2
  go_enter Tryd.func90, Tryd.ntmps90
  go_wp2
  change Code.wp _ _ _ _ ((w.alloc (.cells (u32s (List.replicate 64 0)).toArray 99)).alloc (.cells (u32s (List.replicate 64 0)).toArray 99))
  rw [← hw2]
  clear hw2
  go_loopw [11] (fun iv wr => ∃ i : Nat, i ≤ 16 ∧ iv = .int .i64 i ∧ Hid (OwnW wr (w.heap.size + 1) (w1L (fun j => c.getD j 0) i 0)) ∧ Hid (OwnW wr w.heap.size (List.replicate 64 0)) ∧ Hid (Below w.heap.size w wr)) (fun iv _ => 16 - (intOf iv).toNat)
  case atStart => exact ⟨0, by omega, rfl, HO, HR, HB⟩
  case round =>
    clear HO HR HB
    obtain ⟨i, hi, rfl, HO, HR, HB⟩ := hrel
    by_cases hi16 : i < 16
    · have hI : (i : Int) < 16 := by omega
      go_wp2
      go_loopw [14] (fun jv wr => ∃ j : Nat, j ≤ 4 ∧ jv = .int .i64 j ∧ Hid (OwnW wr (w.heap.size + 1) (w1L (fun j => c.getD j 0) i j)) ∧ Hid (OwnW wr w.heap.size (List.replicate 64 0)) ∧ Hid (Below w.heap.size w wr)) (fun jv _ => 4 - (intOf jv).toNat)
      case atStart => exact ⟨0, by omega, rfl, HO, HR, HB⟩
      case round =>
        clear HO HR HB
        obtain ⟨j, hj, rfl, HO, HR, HB⟩ := hrel
        by_cases hj4 : j < 4
        · have hJ : (j : Int) < 4 := by omega
          have c1 := HO.out.cell i (by rw [w1L_length]; omega)
          rw [w1L_getD, if_pos (by omega), if_neg (by omega), if_pos rfl] at c1
          have hbl : hb < w.heap.size := hlt
          have H2 := HH.out.same (HB.out.block hb hbl)
          obtain ⟨q, hq⟩ : ∃ q, q = 4 * i + j := ⟨_, rfl⟩
          have c2 := H2.byte q (by omega)
          have f1 := HO.out.free i
          have hcl := HCO.out q
          have hst : ∀ nq, OwnW ((wr.drewN nq).setCell ⟨w.heap.size + 1, i, none⟩ (.int .u32 ((wj (fun j => c.getD j 0) i (j + 1) : Nat) : Int))) (w.heap.size + 1) (w1L (fun j => c.getD j 0) i (j + 1)) := fun nq => by
            have h5 := (show OwnW (wr.drewN nq) _ _ from HO.out).set i (wj (fun j => c.getD j 0) i (j + 1))
            rwa [w1L_step _ _ _ (by omega)] at h5
          have HST := hid hst
          have HR2 : ∀ nq v, Hid (OwnW ((wr.drewN nq).setCell ⟨w.heap.size + 1, i, none⟩ v) w.heap.size (List.replicate 64 0)) := fun nq v => hid ((Below.heap_setCell (wr.drewN nq) ⟨w.heap.size + 1, i, none⟩ v _ (show w.heap.size ≠ w.heap.size + 1 by omega)).trans HR.out)
          have hwj : wj (fun j => c.getD j 0) i (j + 1) = (wj (fun j => c.getD j 0) i j * 256 % 4294967296) ||| c.getD q 0 := by rw [hq]; rfl
          have HWJ := hid hwj
          have hwl := wj_lt (c := fun j => c.getD j 0) HCO.out i j
          clear hst hwj H2
          generalize wj (fun j => c.getD j 0) i j = x at *
          generalize c.getD q 0 = y at *
          obtain ⟨xs, hxs⟩ : ∃ xs, xs = x * 256 % 4294967296 := ⟨_, rfl⟩
          have b9 : IntKind.u32.wrap ((x : Int) * 256) = (xs : Int) := by rw [IntKind.wrap_u32']; omega
          have hxl : xs < 4294967296 := by omega
          rw [← hxs] at HWJ
          have hor := u32_or_nat xs y hxl (by omega)
          clear hxs
          have m1 : (4 : Int) * (i : Int) + (j : Int) = (q : Int) := by omega
          have b1 : (i : Int) < 64 := by omega
          have b2 : i < 64 := by omega
          have b3 : (q : Int) < 64 := by omega
          have b4 : q < 64 := by omega
          have b5 : IntKind.i64.wrap (4 * (i : Int)) = 4 * (i : Int) := by rw [IntKind.wrap_i64]; omega
          have b8 : IntKind.i64.wrap (4 * (i : Int) + (j : Int)) = (q : Int) := by rw [IntKind.wrap_i64]; omega
          have b6 : IntKind.i64.wrap (q : Int) = (q : Int) := by rw [IntKind.wrap_i64]; omega
          have b7 : IntKind.u32.wrap (y : Int) = (y : Int) := by rw [IntKind.wrap_u32']; omega
          clear hq
          go_wp2
          refine region_quiet_tail 17 (by kernel_rfl) (by kernel_rfl) ?_
          simp only [List.take_succ_cons, List.take_zero, List.drop_succ_cons, List.drop_zero]
          repeat (quiet_step (fail))
          refine wpQuiet_nil ?_
          intro nq
          go_wp2
          rw [← HWJ.out]
          exact ⟨⟨j + 1, by omega, by go_num, hid (HST.out nq), HR2 nq _, hid ((bel_drewN HB.out nq).setCell (p := ⟨w.heap.size + 1, i, none⟩) (by show w.heap.size ≤ w.heap.size + 1; omega) _)⟩, by simp [intOf]; omega⟩
        · obtain rfl : j = 4 := by omega
          have HO1 := hid (show OwnW wr (w.heap.size + 1) (w1L (fun j => c.getD j 0) (i + 1) 0) from by rw [← w1L_next]; exact HO.out)
          clear HO
          go_wp2
          exact ⟨⟨i + 1, by omega, by go_num, HO1, HR, HB⟩, by simp [intOf]; omega⟩
    · have h16 : i = 16 := by omega
      have HO1 := hid (show OwnW wr (w.heap.size + 1) (w2L (fun j => c.getD j 0) 0) from by rw [← w1_w2, ← h16]; exact HO.out)
      have hI : ¬ ((i : Int) < 16) := by omega
      clear h16
      have HR1 := HR
      have HB1 := HB
      clear HO HR HB
      go_wp2
      go_loopw [6] (fun iv wr => ∃ k : Nat, k ≤ 48 ∧ iv = .int .i64 ((16 + k : Nat) : Int) ∧ Hid (OwnW wr (w.heap.size + 1) (w2L (fun j => c.getD j 0) k)) ∧ Hid (OwnW wr w.heap.size (List.replicate 64 0)) ∧ Hid (Below w.heap.size w wr)) (fun iv _ => 64 - (intOf iv).toNat)
      case atStart => exact ⟨0, by omega, rfl, HO1, HR1, HB1⟩
      case round =>
        clear HO1 HR1 HB1
        obtain ⟨k, hk, rfl, HO, HR, HB⟩ := hrel
        obtain ⟨i, hik⟩ : ∃ i, i = 16 + k := ⟨_, rfl⟩
        rw [← hik]
        by_cases hi64 : i < 64
        · have hlen := w2L_length (fun j => c.getD j 0) k hk
          have g1 := HO.out.cell (i - 15) (by rw [hlen]; omega)
          have g2 := HO.out.cell (i - 2) (by rw [hlen]; omega)
          have g3 := HO.out.cell (i - 16) (by rw [hlen]; omega)
          have g4 := HO.out.cell (i - 7) (by rw [hlen]; omega)
          rw [w2L_at _ _ _ (by omega)] at g1 g2 g3 g4
          have hsl := schL_lt (c := fun j => c.getD j 0) HCO.out k
          have hgl : ∀ t, (schL (fun j => c.getD j 0) k).getD t 0 < 4294967296 := fun t => by
            rw [List.getD_eq_getElem?_getD]
            by_cases h : t < (schL (fun j => c.getD j 0) k).length
            · rw [List.getElem?_eq_getElem h]; exact hsl _ (List.getElem_mem _)
            · rw [List.getElem?_eq_none (by omega)]; decide
          have f1 := HO.out.free i
          have hst : ∀ nq, OwnW ((wr.drewN nq).setCell ⟨w.heap.size + 1, i, none⟩ (.int .u32 ((nx (schL (fun j => c.getD j 0) k) i : Nat) : Int))) (w.heap.size + 1) (w2L (fun j => c.getD j 0) (k + 1)) := fun nq => by
            have h5 := (show OwnW (wr.drewN nq) _ _ from HO.out).set (16 + k) (nx (schL (fun j => c.getD j 0) k) (16 + k))
            rw [w2L_step _ _ (by omega), ← hik] at h5
            exact h5
          have g5 := HO.out.cell i (by rw [hlen]; omega)
          have HST := hid hst
          have HR2 : ∀ nq v, Hid (OwnW ((wr.drewN nq).setCell ⟨w.heap.size + 1, i, none⟩ v) w.heap.size (List.replicate 64 0)) := fun nq v => hid ((Below.heap_setCell (wr.drewN nq) ⟨w.heap.size + 1, i, none⟩ v _ (show w.heap.size ≠ w.heap.size + 1 by omega)).trans HR.out)
          have h1 := hgl (i - 15)
          have h2 := hgl (i - 2)
          have h3 := hgl (i - 16)
          have h4 := hgl (i - 7)
          have hnx : nx (schL (fun j => c.getD j 0) k) i = ad (ad (ad ((schL (fun j => c.getD j 0) k).getD (i - 16) 0) (ssE ((schL (fun j => c.getD j 0) k).getD (i - 15) 0))) ((schL (fun j => c.getD j 0) k).getD (i - 7) 0)) (ssL ((schL (fun j => c.getD j 0) k).getD (i - 2) 0)) := rfl
          have HNX := hid hnx
          have HIK := hid hik
          have hk' : k + 1 ≤ 48 := by omega
          clear hst hsl hgl hlen hnx
          generalize (schL (fun j => c.getD j 0) k).getD (i - 15) 0 = x at *
          generalize (schL (fun j => c.getD j 0) k).getD (i - 2) 0 = y at *
          generalize (schL (fun j => c.getD j 0) k).getD (i - 16) 0 = p at *
          generalize (schL (fun j => c.getD j 0) k).getD (i - 7) 0 = q at *
          generalize (w2L (fun j => c.getD j 0) k).getD i 0 = z at *
          have d1 : (i : Int) - 15 = ((i - 15 : Nat) : Int) := by omega
          have d2 : (i : Int) - 2 = ((i - 2 : Nat) : Int) := by omega
          have d3 : (i : Int) - 16 = ((i - 16 : Nat) : Int) := by omega
          have d4 : (i : Int) - 7 = ((i - 7 : Nat) : Int) := by omega
          have j1 : i - 15 < 64 := by omega
          have j2 : i - 2 < 64 := by omega
          have j3 : i - 16 < 64 := by omega
          have j4 : i - 7 < 64 := by omega
          have m1 : ((i - 15 : Nat) : Int) < 64 := by omega
          have m2 : ((i - 2 : Nat) : Int) < 64 := by omega
          have m3 : ((i - 16 : Nat) : Int) < 64 := by omega
          have m4 : ((i - 7 : Nat) : Int) < 64 := by omega
          have m5 : (i : Int) < 64 := by omega
          have n3 : IntKind.i64.wrap ((i - 16 : Nat) : Int) = ((i - 16 : Nat) : Int) := by rw [IntKind.wrap_i64]; omega
          have n4 : IntKind.i64.wrap ((i - 7 : Nat) : Int) = ((i - 7 : Nat) : Int) := by rw [IntKind.wrap_i64]; omega
          have n5 : IntKind.i64.wrap ((i : Int) - 16) = ((i - 16 : Nat) : Int) := by rw [IntKind.wrap_i64]; omega
          have n6 : IntKind.i64.wrap ((i : Int) - 7) = ((i - 7 : Nat) : Int) := by rw [IntKind.wrap_i64]; omega
          clear hik
          generalize i - 15 = i1 at *
          generalize i - 2 = i2 at *
          generalize i - 16 = i3 at *
          generalize i - 7 = i4 at *
          obtain ⟨r1, hr1⟩ : ∃ r, r = rot x 25 := ⟨_, rfl⟩
          obtain ⟨r2, hr2⟩ : ∃ r, r = rot x 14 := ⟨_, rfl⟩
          obtain ⟨r3, hr3⟩ : ∃ r, r = rot y 15 := ⟨_, rfl⟩
          obtain ⟨r4, hr4⟩ : ∃ r, r = rot y 13 := ⟨_, rfl⟩
          obtain ⟨x8, hx8⟩ : ∃ r, r = x / 8 := ⟨_, rfl⟩
          obtain ⟨y9, hy9⟩ : ∃ r, r = y / 1024 := ⟨_, rfl⟩
          obtain ⟨E, hE⟩ : ∃ E, E = ssE x := ⟨_, rfl⟩
          obtain ⟨G, hG⟩ : ∃ E, E = ssL y := ⟨_, rfl⟩
          have dx : (x : Int) / 8 = (x8 : Int) := by omega
          have dy : (y : Int) / 1024 = (y9 : Int) := by omega
          have l1 : r1 < 4294967296 := by rw [hr1]; exact rot_lt h1 _
          have l2 : r2 < 4294967296 := by rw [hr2]; exact rot_lt h1 _
          have l3 : r3 < 4294967296 := by rw [hr3]; exact rot_lt h2 _
          have l4 : r4 < 4294967296 := by rw [hr4]; exact rot_lt h2 _
          have l5 : x8 < 4294967296 := by omega
          have l6 : y9 < 4294967296 := by omega
          obtain ⟨r12, hr12⟩ : ∃ r, r = r1 ^^^ r2 := ⟨_, rfl⟩
          obtain ⟨r34, hr34⟩ : ∃ r, r = r3 ^^^ r4 := ⟨_, rfl⟩
          have l7 : r12 < 4294967296 := by rw [hr12]; exact xor_lt32 l1 l2
          have l8 : r34 < 4294967296 := by rw [hr34]; exact xor_lt32 l3 l4
          have e1 : bits .xor .u32 (r1 : Int) (r2 : Int) = (r12 : Int) := by rw [hr12]; exact u32_xor_nat r1 r2 l1 l2
          have e2 : bits .xor .u32 (r12 : Int) (x8 : Int) = (E : Int) := by rw [u32_xor_nat r12 x8 l7 l5, hE, hr12, hr1, hr2, hx8]; rfl
          have e3 : bits .xor .u32 (r3 : Int) (r4 : Int) = (r34 : Int) := by rw [hr34]; exact u32_xor_nat r3 r4 l3 l4
          have e4 : bits .xor .u32 (r34 : Int) (y9 : Int) = (G : Int) := by rw [u32_xor_nat r34 y9 l8 l6, hG, hr34, hr3, hr4, hy9]; rfl
          obtain ⟨s1, hs1⟩ : ∃ r, r = ad p E := ⟨_, rfl⟩
          obtain ⟨s2, hs2⟩ : ∃ r, r = ad s1 q := ⟨_, rfl⟩
          obtain ⟨s3, hs3⟩ : ∃ r, r = ad s2 G := ⟨_, rfl⟩
          have a1 : IntKind.u32.wrap ((p : Int) + (E : Int)) = (s1 : Int) := by rw [IntKind.wrap_u32', hs1]; unfold ad; omega
          have a2 : IntKind.u32.wrap ((s1 : Int) + (q : Int)) = (s2 : Int) := by rw [IntKind.wrap_u32', hs2]; unfold ad; omega
          have a3 : IntKind.u32.wrap ((s2 : Int) + (G : Int)) = (s3 : Int) := by rw [IntKind.wrap_u32', hs3]; unfold ad; omega
          have HS3 := hid (show nx (schL (fun j => c.getD j 0) k) i = s3 from by rw [HNX.out, hs3, hs2, hs1, hE, hG])
          have R1 := hid (fun w => rot_any x 25 (-7) (by kernel_rfl) (by omega) (by omega) h1 w)
          have R2 := hid (fun w => rot_any x 14 (-18) (by kernel_rfl) (by omega) (by omega) h1 w)
          have R3 := hid (fun w => rot_any y 15 (-17) (by kernel_rfl) (by omega) (by omega) h2 w)
          have R4 := hid (fun w => rot_any y 13 (-19) (by kernel_rfl) (by omega) (by omega) h2 w)
          rw [← hr1] at R1
          rw [← hr2] at R2
          rw [← hr3] at R3
          rw [← hr4] at R4
          clear hr1 hr2 hr3 hr4 hx8 hy9 hE hG hr12 hr34 hs1 hs2 hs3
          go_wp2
          go_quiet (fail)
          go_wp2_with fail
          refine (R1.out _).mono ?_
          rintro e w' ⟨rfl, rfl⟩
          go_wp2_with fail
          refine (R2.out _).mono ?_
          rintro e w' ⟨rfl, rfl⟩
          go_wp2_with fail
          refine (R3.out _).mono ?_
          rintro e w' ⟨rfl, rfl⟩
          go_wp2_with fail
          refine (R4.out _).mono ?_
          rintro e w' ⟨rfl, rfl⟩
          go_wp2_with fail
          refine region_quiet_tail 15 (by kernel_rfl) (by kernel_rfl) ?_
          simp only [List.take_succ_cons, List.take_zero, List.drop_succ_cons, List.drop_zero]
          repeat (quiet_step (fail))
          refine wpQuiet_nil ?_
          intro nq2
          go_wp2
          rw [← HS3.out]
          exact ⟨⟨k + 1, hk', by rw [HIK.out]; go_num, hid (HST.out (nq + nq2)), HR2 (nq + nq2) _, hid ((bel_drewN HB.out (nq + nq2)).setCell (p := ⟨w.heap.size + 1, i, none⟩) (by show w.heap.size ≤ w.heap.size + 1; omega) _)⟩, by have h9 := HIK.out; simp [intOf]; omega⟩
        · have hk48 : k = 48 := by omega
          have hO := HO.out
          rw [hk48, w2L_last] at hO
          have hlw : (schL (fun j => c.getD j 0) 48).length = 64 := schL_length _ 48
          have HB5 := HB
          have HR5 := HR
          clear HO HR HB hik hk48
          generalize hL : schL (fun j => c.getD j 0) 48 = L at *
          have HL : True → schL (fun j => c.getD j 0) 48 = L := fun _ => hL
          clear hL
          have hsz : (u32s L).length = 64 := by rw [u32s_length, hlw]
          have HRA := hid (show wr.rangeAt (w.heap.size + 1) 0 (u32s L) from fun j v hj => by rw [Nat.zero_add, cell_of_heap hO, List.getElem?_toArray]; exact hj)
          have HIF := hid (show (Tryd.prog.info? 99).map (·.size) = some (u32s L).length from by rw [hsz]; kernel_rfl)
          clear hO hlw
          have HIF2 := hid (show (Tryd.prog.info? 99).map (·.size) = some (u32s L).toArray.size from by rw [List.size_toArray]; exact HIF.out)
          have hbw := HB5.out
          have HOLD := hid (show (u32s (List.replicate 64 0)).toArray.size = (u32s L).toArray.size from by rw [List.size_toArray, List.size_toArray, u32s_length, List.length_replicate, hsz])
          clear hsz
          go_wp2_with (refine wpList_load_mid rfl 99 (.tmp 3) rfl (w.heap.size + 1) 0 rfl (u32s L) _ HRA.out Tryd.underlying99 rfl HIF.out ?_
                       refine wpList_store_row rfl 99 (.tmp 2) (.tmp 79) rfl w.heap.size _ (u32s L).toArray _ rfl rfl HR5.out HIF2.out HOLD.out (u32s_one L) ?_
                       intro w5 hw5 hk5)
          have hres : (loadVar 99 ⟨w.heap.size, 0, none⟩).run Tryd.prog w5 = .ok (.agg (u32s L).toArray) w5 := run_loadVar_row _ _ 99 99 _ (0, 0) _ hw5 Tryd.underlying99 rfl HIF2.out
          refine bodyPost_ret (v := .agg (u32s L).toArray) (results_at Tryd.results90 rfl hres) rfl ⟨by rw [HL trivial], ?_⟩
          exact hbw.trans (hk5.below hbw.size (Nat.le_refl _))
end Go.Proofs.YtafkjfpmjhfofaaDoor
