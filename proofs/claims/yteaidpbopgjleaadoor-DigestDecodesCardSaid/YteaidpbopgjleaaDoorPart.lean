/-
  part: a digest that lies in bytes.
-/
import Derived.Test.YteaidpbopgjleaaDoorOwSm
namespace Go.Proofs.YteaidpbopgjleaaDoor
open Go Go.RowKit
set_option linter.unusedVariables false

/-- the first i of 32 bytes from p on, zeros behind -/
def prt (l : List Nat) (p i : Nat) : List Nat := (List.range 32).map fun j => if j < i then l.getD (p + j) 0 else 0
theorem prt_length (l : List Nat) (p i : Nat) : (prt l p i).length = 32 := by simp [prt]
theorem prt_zero (l : List Nat) (p : Nat) : prt l p 0 = List.replicate 32 0 := by
  unfold prt
  rw [List.eq_replicate_iff]
  exact ⟨by simp, fun b hb => by obtain ⟨j, _, rfl⟩ := List.mem_map.1 hb; rfl⟩
theorem prt_get (l : List Nat) (p i j : Nat) (hj : j < 32) : (prt l p i)[j]? = some (if j < i then l.getD (p + j) 0 else 0) := by
  unfold prt
  rw [List.getElem?_map, List.getElem?_range hj]
  rfl
theorem prt_step (l : List Nat) (p i : Nat) (hi : i < 32) : (prt l p i).set i (l.getD (p + i) 0) = prt l p (i + 1) := by
  apply List.ext_getElem?
  intro j
  by_cases hj : j < 32
  · rw [List.getElem?_set, prt_get _ _ _ _ hj, prt_get _ _ _ _ hj, prt_length]
    by_cases e : i = j
    · subst e
      rw [if_pos rfl, if_pos hi, if_pos (by omega)]
    · rw [if_neg e]
      by_cases h : j < i
      · rw [if_pos h, if_pos (by omega)]
      · rw [if_neg h, if_neg (by omega)]
  · rw [List.getElem?_eq_none (by rw [List.length_set, prt_length]; omega), List.getElem?_eq_none (by rw [prt_length]; omega)]
theorem prt_all (l : List Nat) (p : Nat) (h : p + 32 ≤ l.length) : prt l p 32 = (l.drop p).take 32 := by
  apply List.ext_getElem?
  intro j
  by_cases hj : j < 32
  · rw [prt_get _ _ _ _ hj, if_pos hj, List.getElem?_take_of_lt hj, List.getElem?_drop, List.getD_eq_getElem?_getD, List.getElem?_eq_getElem (by omega)]
    rfl
  · rw [List.getElem?_eq_none (by rw [prt_length]; omega), List.getElem?_eq_none (by simp only [List.length_take]; omega)]
theorem ownD_set {w : World} {b : Nat} {L : List Nat} (h : OwnD w b L) (i x : Nat) : OwnD (w.setCell ⟨b, i, none⟩ (.int .u8 (x : Int))) b (L.set i x) := by
  have h1 := heap_set h i (.int .u8 (x : Int))
  unfold OwnD
  rw [h1, List.setIfInBounds_toArray]
  simp [u8s, List.map_set]

set_option maxRecDepth 100000 in
set_option maxHeartbeats 2000000 in
theorem part_any (b o n c p : Nat) (l : List Nat) (w : World) (hb : Bs w (.slice (some ⟨b, o, none⟩) n c) l) (hp : p + 32 ≤ n) (hn : n ≤ 1000000) :
    Calls Tryd.prog 60 #[.slice (some ⟨b, o, none⟩) n c, .int .i64 (p : Int)] w fun e w' => e = .returned (.agg (u8s ((l.drop p).take 32)).toArray) ∧ Below w.heap.size w w' := by
  obtain ⟨w2, hw2⟩ : ∃ x, x = (w.alloc (.cells (u8s (List.replicate 32 0)).toArray 30)).alloc (.cells (u8s (List.replicate 32 0)).toArray 30) := ⟨_, rfl⟩
  have hb2 : Below w.heap.size w w2 := by rw [hw2]; exact ((Below.refl _ _).alloc (Nat.le_refl _) _).alloc (by simp) _
  have HR2 := hid (show OwnD w2 w.heap.size (List.replicate 32 0) from by
    rw [hw2]
    show ((w.alloc _).alloc _).heap[_]? = _
    rw [heap_alloc_old _ _ (by simp)]
    exact heap_new _ _)
  have hs : (w.alloc (.cells (u8s (List.replicate 32 0)).toArray 30)).heap.size = w.heap.size + 1 := by simp
  have HD2 := hid (show OwnD w2 (w.heap.size + 1) (prt l p 0) from by rw [prt_zero, hw2, ← hs]; exact heap_new _ _)
  have HB2 := hid hb2
  have HL := hid hb.len
  have HBS := hid hb
  have HPA := hid (show prt l p 32 = (l.drop p).take 32 from prt_all l p (by rw [← hb.len]; exact hp))
  have HST := hid (fun i (hi : i < 32) => prt_step l p i hi)
  clear hb2 hs hb
  obtain ⟨db, hdb⟩ : ∃ x, x = w.heap.size + 1 := ⟨_, rfl⟩
  rw [← hdb] at HD2
  have HDB := hid hdb
  have hdw : w.heap.size ≤ db ∧ w.heap.size ≠ db := by omega
  go_enter Tryd.func60, Tryd.ntmps60
  go_upto_region 3 with fail
  change Code.wp _ _ _ _ ((w.alloc (.cells (u8s (List.replicate 32 0)).toArray 30)).alloc (.cells (u8s (List.replicate 32 0)).toArray 30))
  rw [← hw2, ← hdb]
  clear hw2 hdb
  go_loopw [6] (fun iv wr => ∃ i : Nat, i ≤ 32 ∧ iv = .int .i64 i ∧ Hid (OwnD wr db (prt l p i)) ∧ Hid (OwnD wr w.heap.size (List.replicate 32 0)) ∧ Hid (Below w.heap.size w wr)) (fun iv _ => 32 - (intOf iv).toNat)
  case atStart => exact ⟨0, by omega, rfl, HD2, HR2, HB2⟩
  case round =>
    clear HD2 HR2 HB2
    obtain ⟨i, hi, rfl, HD, HR, HB⟩ := hrel
    by_cases hi32 : i < 32
    · have hI : (i : Int) < 32 := by omega
      obtain ⟨q, hq⟩ : ∃ q, q = p + i := ⟨_, rfl⟩
      have hqn : q < n := by omega
      have hc0 := HBS.out.cell q (by rw [← HL.out]; exact hqn)
      have c1 := (HB.out.cell (World.block_lt_of_cell? _ _ hc0)).trans hc0
      have g1 : wr.cell? ⟨db, i, none⟩ = some (.int .u8 0) := by
        rw [cell_of_heap HD.out, List.getElem?_toArray]
        unfold u8s
        rw [List.getElem?_map, prt_get _ _ _ _ hi32, if_neg (by omega)]
        rfl
      have f1 : wr.frozen? ⟨db, i, none⟩ = false := free_of_heap HD.out i
      have hst := HST.out i hi32
      rw [← hq] at hst
      have t1 : IntKind.i64.wrap ((p : Int) + (i : Int)) = (q : Int) := by rw [IntKind.wrap_i64]; omega
      have t2 : (p : Int) + (i : Int) = (q : Int) := by omega
      have HD5 := hid (hst ▸ ownD_set HD.out i (l.getD q 0))
      have HR5 := hid (show OwnD (wr.setCell ⟨db, i, none⟩ (.int .u8 ((l.getD q 0 : Nat) : Int))) w.heap.size (List.replicate 32 0) from (heap_setCell_other wr _ _ _ (by show w.heap.size ≠ db; exact hdw.2)).trans HR.out)
      have HB5 := hid (show Below w.heap.size w (wr.setCell ⟨db, i, none⟩ (.int .u8 ((l.getD q 0 : Nat) : Int))) from HB.out.setCell hdw.1 _)
      clear hc0 hst hq
      generalize l.getD q 0 = x at *
      go_wp2
      exact ⟨⟨i + 1, by omega, by go_num, HD5, HR5, HB5⟩, by simp [intOf]; omega⟩
    · obtain rfl : i = 32 := by omega
      have hI : ¬ (((32 : Nat) : Int) < 32) := by omega
      have hD := HD.out
      rw [HPA.out] at hD
      have hl32 : ((l.drop p).take 32).length = 32 := by rw [← HPA.out]; exact prt_length _ _ _
      generalize hE : (l.drop p).take 32 = E at *
      have HE := hid hE
      have HDE := hid hD
      have hl32' : (u8s E).length = 32 := by simp [u8s, hl32]
      have HIF := hid (show (Tryd.prog.info? 30).map (·.size) = some (u8s E).length from by rw [hl32']; kernel_rfl)
      have HIF2 := hid (show (Tryd.prog.info? 30).map (·.size) = some (u8s E).toArray.size from by rw [List.size_toArray, hl32']; kernel_rfl)
      have hz : (u8s (List.replicate 32 0)).length = 32 := by unfold u8s; rw [List.length_map, List.length_replicate]
      have HOLD := hid (show (u8s (List.replicate 32 0)).toArray.size = (u8s E).toArray.size from by rw [List.size_toArray, List.size_toArray, hl32', hz])
      have HONE := hid (show (u8s E).toArray.all (·.oneCell') = true from all_oneCell_toArray (u8s_oneH _))
      clear hD hE hl32 hl32' hz HPA
      go_wp2_with (first
        | (refine wpList_load_mid (by rfl) 30 (.tmp 5) (by rfl) db 0 (by rfl) (u8s E) _ (range_of_heapD HDE.out) Tryd.underlying30 rfl HIF.out ?_)
        | (refine wpList_store_row (by rfl) 30 (.tmp 4) (.tmp 19) (by rfl) w.heap.size _ (u8s E).toArray _ (by rfl) (by rfl) HR.out HIF2.out HOLD.out HONE.out ?_
           intro w8 hw8 hk8))
      have hres : (loadVar 30 ⟨w.heap.size, 0, none⟩).run Tryd.prog w8 = .ok (.agg (u8s E).toArray) w8 := run_loadVar_row _ _ 30 30 _ (0, 0) _ hw8 Tryd.underlying30 rfl HIF2.out
      exact bodyPost_ret (v := .agg (u8s E).toArray) (results_at Tryd.results60 rfl hres) rfl ⟨by rw [HE.out], HB.out.trans (hk8.below HB.out.size (Nat.le_refl _))⟩
end Go.Proofs.YteaidpbopgjleaaDoor
