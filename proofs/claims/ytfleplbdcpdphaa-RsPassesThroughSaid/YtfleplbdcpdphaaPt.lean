/-
  Points, and checkPoints: the error of a list of points.
-/
import Derived.Test.YtfleplbdcpdphaaPiece
import Derived.Test.YtfleplbdcpdphaaSize
import Derived.Deep.DeepCutAuto
namespace Go.Proofs.Ytfleplbdcpdphaa
open Go Go.RowKit
set_option linter.unusedVariables false

/-- the slice value v reads as points with these places and these values -/
def Pt (w : World) (v : Value) (X Y : List Nat) : Prop :=
  ∃ a c, v = .slice a X.length c ∧ Y.length = X.length ∧ (∀ i, X.getD i 0 < 256) ∧ (∀ i, Y.getD i 0 < 256) ∧
    (X ≠ [] → ∃ b o, a = some ⟨b, o, none⟩ ∧ ∀ i, i < X.length → w.cell? ⟨b, o + i * 2, none⟩ = some (.int .u8 ((X.getD i 0 : Nat) : Int)) ∧ w.cell? ⟨b, o + i * 2 + 1, none⟩ = some (.int .u8 ((Y.getD i 0 : Nat) : Int)))
theorem Pt.below {w w' : World} {v : Value} {X Y : List Nat} (h : Pt w v X Y) (k : Below w.heap.size w w') : Pt w' v X Y := by
  obtain ⟨a, c, h1, h2, h3, h4, h5⟩ := h
  refine ⟨a, c, h1, h2, h3, h4, fun hl => ?_⟩
  obtain ⟨b, o, ha, hc⟩ := h5 hl
  refine ⟨b, o, ha, fun i hi => ?_⟩
  have := hc i hi
  rw [k.cell (World.block_lt_of_cell? _ _ this.1), k.cell (World.block_lt_of_cell? _ _ this.2)]; exact this
theorem Pt.ltX {w : World} {v : Value} {X Y : List Nat} (h : Pt w v X Y) : ∀ i, X.getD i 0 < 256 := by
  obtain ⟨a, c, h1, h2, h3, h4, h5⟩ := h; exact h3
theorem Pt.ltY {w : World} {v : Value} {X Y : List Nat} (h : Pt w v X Y) : ∀ i, Y.getD i 0 < 256 := by
  obtain ⟨a, c, h1, h2, h3, h4, h5⟩ := h; exact h4
theorem Pt.len {w : World} {a : Option Addr} {n c : Nat} {X Y : List Nat} (h : Pt w (.slice a n c) X Y) : n = X.length ∧ Y.length = n := by
  obtain ⟨a', c', h1, h2, h3, h4, h5⟩ := h
  simp at h1
  exact ⟨h1.2.1, by rw [h2, h1.2.1]⟩
theorem Pt.addr {w : World} {a : Option Addr} {n c : Nat} {X Y : List Nat} (h : Pt w (.slice a n c) X Y) (hn : 0 < n) : ∃ b o, a = some ⟨b, o, none⟩ := by
  obtain ⟨a', c', h1, h2, h3, h4, h5⟩ := h
  simp at h1
  obtain ⟨b, o, ha, _⟩ := h5 (by intro e; rw [e] at h1; simp at h1; omega)
  exact ⟨b, o, h1.1.trans ha⟩
theorem Pt.cells {w : World} {b o n c : Nat} {X Y : List Nat} (h : Pt w (.slice (some ⟨b, o, none⟩) n c) X Y) (i : Nat) (hi : i < n) :
    w.cell? ⟨b, o + i * 2, none⟩ = some (.int .u8 ((X.getD i 0 : Nat) : Int)) ∧ w.cell? ⟨b, o + i * 2 + 1, none⟩ = some (.int .u8 ((Y.getD i 0 : Nat) : Int)) := by
  have hl := h.len
  obtain ⟨a', c', h1, h2, h3, h4, h5⟩ := h
  simp at h1
  obtain ⟨b', o', ha, hc⟩ := h5 (by intro e; rw [e] at hl; simp at hl; omega)
  rw [← h1.1] at ha
  simp at ha
  rw [ha.1, ha.2]
  exact hc i (by omega)
/-- the error of points at these places -/
def ptsE (X : List Nat) : Int := if X.length = 0 ∨ 256 < X.length then 2 else if X.Nodup then 0 else 7
/-- the flags of the first places -/
def fl6 (X : List Nat) (i : Nat) : Array Value := ((List.range 256).map fun v => Value.bool (decide (v ∈ X.take i))).toArray
theorem fl6_zero (X : List Nat) : fl6 X 0 = Array.replicate 256 (.bool false) := by
  apply Array.ext'
  rw [Array.toList_replicate, List.eq_replicate_iff]
  refine ⟨?_, fun b hb => ?_⟩
  · show ((List.range 256).map _).length = 256
    rw [List.length_map, List.length_range]
  · obtain ⟨x, _, rfl⟩ := List.mem_map.1 hb
    simp
theorem fl6_get (X : List Nat) (i v : Nat) (hv : v < 256) : (fl6 X i)[v]? = some (.bool (decide (v ∈ X.take i))) := by
  unfold fl6
  simp [List.getElem?_range hv]
theorem take_up (X : List Nat) (i : Nat) (hi : i < X.length) : X.take (i + 1) = X.take i ++ [X.getD i 0] := by
  rw [List.take_add_one, List.getD_eq_getElem?_getD, List.getElem?_eq_getElem hi]; rfl
theorem fl6_set (X : List Nat) (i : Nat) (hi : i < X.length) (hv : X.getD i 0 < 256) : (fl6 X i).setIfInBounds (X.getD i 0) (.bool true) = fl6 X (i + 1) := by
  apply Array.ext'
  unfold fl6
  rw [Array.toList_setIfInBounds, take_up X i hi]
  generalize X.getD i 0 = v at *
  apply List.ext_getElem?
  intro j
  rw [List.getElem?_set]
  by_cases e : v = j
  · subst e
    simp [hv]
  · rw [if_neg e]
    have e' : ¬ j = v := fun h => e h.symm
    by_cases hj : j < 256
    · simp [hj, e']
    · rw [List.getElem?_eq_none (by simp; omega), List.getElem?_eq_none (by simp; omega)]
theorem zero_fl6 (X : List Nat) : Try.zeroCells130 = fl6 X 0 := by
  rw [fl6_zero]
  kernel_rfl
/-- what the loop keeps -/
structure CkI (X : List Nat) (w wr : World) (i : Nat) : Prop where
  seen : wr.heap[w.heap.size]? = some (.cells (fl6 X i) 130 (0, 0))
  below : Below w.heap.size w wr
  clean : (X.take i).Nodup
theorem CkI.next {X : List Nat} {w wr : World} {i : Nat} (h : CkI X w wr i) (o : Obj) (hi : i < X.length) (hv : X.getD i 0 < 256) (hn : ¬ X.getD i 0 ∈ X.take i) : CkI X w ((wr.setCell ⟨w.heap.size, X.getD i 0, none⟩ (.bool true)).alloc o) (i + 1) := by
  refine ⟨heap_alloc ?_ o, (h.below.setCell (p := ⟨w.heap.size, X.getD i 0, none⟩) (Nat.le_refl _) _).alloc (by simp; exact h.below.size) o, ?_⟩
  · have h5 := heap_set h.seen (X.getD i 0) (.bool true)
    rwa [fl6_set X i hi hv] at h5
  · rw [take_up X i hi, List.nodup_append]
    refine ⟨h.clean, by simp, ?_⟩
    intro a ha b hb e
    simp at hb
    rw [e, hb] at ha
    exact hn ha
theorem CkI.stop {X : List Nat} {i n : Nat} (hi : i < X.length) (hn : X.getD i 0 ∈ X.take i) : ¬ X.Nodup := by
  intro h
  have h2 : (X.take (i + 1)).Nodup := h.sublist (List.take_sublist _ _)
  rw [take_up X i hi, List.nodup_append] at h2
  exact h2.2.2 _ hn (X.getD i 0) (by simp) rfl

set_option maxRecDepth 100000 in
set_option maxHeartbeats 2000000 in
theorem checkPoints_any (a : Option Addr) (n c : Nat) (X Y : List Nat) (w : World) (hp : Pt w (.slice a n c) X Y) (hn : n ≤ 100000) :
    Calls Try.prog 97 #[.slice a n c] w fun e w' => e = .returned (.int .i64 (ptsE X)) ∧ Below w.heap.size w w' := by
  have hnp := hp.len.1
  have HN := hid hnp
  have HP := hid hp
  by_cases h0 : n = 0 ∨ 256 < n
  · have hst : ptsE X = 2 := by unfold ptsE; rw [if_pos (by rw [← hnp]; exact h0)]
    have HST := hid hst
    clear hst hnp hp
    by_cases h1 : n = 0
    · subst h1
      clear h0
      go_enter Try.func97, Try.ntmps97
      go_wp2
      go_ret
      exact ⟨ret_int HST.out.symm, Below.refl _ _⟩
    · have h2 : 256 < n := by omega
      have b1 : ((n : Int) == 0) = false := by simp; omega
      have b2 : decide ((256 : Int) < n) = true := by simp; omega
      clear h0
      go_enter Try.func97, Try.ntmps97
      go_wp2
      go_ret
      exact ⟨ret_int HST.out.symm, Below.refl _ _⟩
  · have h1 : 0 < n := by omega
    have h2 : n ≤ 256 := by omega
    have b1 : ((n : Int) == 0) = false := by simp; omega
    have b2 : decide ((256 : Int) < n) = false := by simp; omega
    obtain ⟨b, o, rfl⟩ := hp.addr h1
    have h0 : CkI X w (w.alloc (.cells Try.zeroCells130 130)) 0 := ⟨by rw [zero_fl6 X]; exact heap_new _ _, (Below.refl _ _).alloc (Nat.le_refl _) _, by simp⟩
    have HINV := hid h0
    clear h0 hnp hp
    go_enter Try.func97, Try.ntmps97
    go_wp2
    clear b1 b2
    go_loopw [16] (fun iv wr => ∃ i : Nat, i ≤ n ∧ iv = .int .i64 i ∧ Hid (CkI X w wr i)) (fun iv _ => n - (intOf iv).toNat)
    case atStart => exact ⟨0, by omega, rfl, HINV⟩
    case round =>
      clear HINV
      obtain ⟨i, hi, rfl, HINV⟩ := hrel
      by_cases hlt : i < n
      · have HPr := HP.out.below HINV.out.below
        obtain ⟨q0, q1⟩ := HPr.cells i hlt
        have hv2 := HPr.ltX i
        have hsz : w.heap.size < wr.heap.size := lt_of_heap HINV.out.seen
        clear HPr
        have cv := cell_of_heap HINV.out.seen (X.getD i 0)
        rw [fl6_get _ _ _ hv2] at cv
        have fv := free_of_heap HINV.out.seen (X.getD i 0)
        have hbe := HINV.out.below
        by_cases hoc : X.getD i 0 ∈ X.take i
        · rw [decide_eq_true hoc] at cv
          have hst : ptsE X = 7 := by
            unfold ptsE
            rw [if_neg (by rw [← HN.out]; omega), if_neg (CkI.stop (n := n) (by rw [← HN.out]; exact hlt) hoc)]
          have HST := hid hst
          clear hst hoc
          generalize X.getD i 0 = x at *
          generalize Y.getD i 0 = y at *
          go_wp2
          go_ret
          exact ⟨ret_int HST.out.symm, hbe.alloc hbe.size _⟩
        · rw [decide_eq_false hoc] at cv
          have NX := hid (HINV.out.next (Obj.cells #[.int .u8 ((X.getD i 0 : Nat) : Int), .int .u8 ((Y.getD i 0 : Nat) : Int)] 72) (by rw [← HN.out]; exact hlt) hv2 hoc)
          clear hoc
          generalize X.getD i 0 = x at *
          generalize Y.getD i 0 = y at *
          go_wp2
          exact ⟨⟨i + 1, by omega, by go_num, NX⟩, by simp [intOf]; omega⟩
      · obtain rfl : i = n := by omega
        have hbe := HINV.out.below
        have hst : ptsE X = 0 := by
          unfold ptsE
          have h5 := HINV.out.clean
          rw [List.take_of_length_le (by rw [← HN.out]; exact Nat.le_refl _)] at h5
          rw [if_neg (by rw [← HN.out]; omega), if_pos h5]
        have HST := hid hst
        clear hst
        go_wp2
        go_ret
        exact ⟨ret_int HST.out.symm, hbe⟩
end Go.Proofs.Ytfleplbdcpdphaa
