/-
  Inverse.
-/
import Derived.Test.YtfleplbdcpdphaaRank
import Derived.Test.YtfleplbdcpdphaaShF
namespace Go.Proofs.Ytfleplbdcpdphaa
open Go Go.RowKit
set_option linter.unusedVariables false

/-- the matrix with the identity beside it -/
def bothM (M : Nat → Nat → Nat) (R : Nat) : Nat → Nat → Nat := fun i j => if j < R then M i j else if j = R + i then 1 else 0
def bothTo (M : Nat → Nat → Nat) (R k : Nat) : Nat → Nat → Nat := fun i j => if i < k then bothM M R i j else 0
/-- the first m cells of row r replaced -/
def setPart (M : Nat → Nat → Nat) (r m : Nat) (l : List Nat) : Nat → Nat → Nat := fun i j => if i = r ∧ j < m then l.getD j 0 else M i j
theorem both_step (M : Nat → Nat → Nat) (R k i j : Nat) : setM (setPart (bothTo M R k) k R (rowL R M k)) k (R + k) 1 i j = bothTo M R (k + 1) i j := by
  show (if i = k ∧ j = R + k then 1 else if i = k ∧ j < R then (rowL R M k).getD j 0 else if i < k then bothM M R i j else 0) = if i < k + 1 then bothM M R i j else 0
  by_cases e : i = k
  · subst e
    rw [if_pos (show i < i + 1 by omega)]
    unfold bothM
    by_cases h1 : j = R + i
    · rw [if_pos ⟨rfl, h1⟩, if_neg (show ¬ j < R by omega), if_pos h1]
    · rw [if_neg (fun h => h1 h.2)]
      by_cases h2 : j < R
      · rw [if_pos ⟨rfl, h2⟩, if_pos h2, rowL_getD M i h2]
      · rw [if_neg (fun h => h2 h.2), if_neg (Nat.lt_irrefl i), if_neg h2, if_neg h1]
  · rw [if_neg (fun h => e h.1), if_neg (fun h => e h.1)]
    by_cases h : i < k
    · rw [if_pos h, if_pos (show i < k + 1 by omega)]
    · rw [if_neg h, if_neg (show ¬ i < k + 1 by omega)]
theorem bothM_lt {M : Nat → Nat → Nat} (h : ∀ i j, M i j < 256) (R i j : Nat) : bothM M R i j < 256 := by
  unfold bothM
  split
  · exact h i j
  · split <;> omega
theorem part_splice {R C r m : Nat} (M : Nat → Nat → Nat) (hr : r < R) (l : List Nat) (hl : l.length = m) (hm : m ≤ C) :
    (u8s (flat R C M)).take (r * C) ++ u8s l ++ (u8s (flat R C M)).drop (r * C + (u8s l).length) = u8s (flat R C (setPart M r m l)) := by
  have hle := ix_le (C := C) hr
  have e : (flat R C M).take (r * C) ++ l ++ (flat R C M).drop (r * C + l.length) = flat R C (setPart M r m l) := by
    refine flat_of _ (by simp only [List.length_append, List.length_take, List.length_drop, flat_length]; omega) fun i j hi hj => ?_
    have hlen : ((flat R C M).take (r * C)).length = r * C := by simp only [List.length_take, flat_length]; omega
    rw [List.getD_eq_getElem?_getD]
    unfold setPart
    have hge : r * C + m ≤ i * C + j → (((flat R C M).take (r * C) ++ l ++ (flat R C M).drop (r * C + l.length))[i * C + j]?).getD 0 = M i j := fun h => by
      rw [List.getElem?_append_right (by rw [List.length_append, hlen]; omega), List.getElem?_drop]
      have h4 : r * C + l.length + (i * C + j - ((flat R C M).take (r * C) ++ l).length) = i * C + j := by rw [List.length_append, hlen]; omega
      rw [h4, ← List.getD_eq_getElem?_getD, flat_getD M hi hj]
    by_cases e : i = r
    · subst e
      by_cases hjm : j < m
      · rw [if_pos ⟨rfl, hjm⟩, List.getElem?_append_left (by rw [List.length_append, hlen]; omega), List.getElem?_append_right (by rw [hlen]; omega), hlen, Nat.add_sub_cancel_left, ← List.getD_eq_getElem?_getD]
      · rw [if_neg (fun h => hjm h.2)]
        exact hge (by omega)
    · rw [if_neg (fun h => e h.1)]
      rcases Nat.lt_or_gt_of_ne e with h | h
      · have h2 := ix_le (C := C) h
        have h3 : i * C + j < r * C := ix_lt h hj
        rw [List.getElem?_append_left (by rw [List.length_append, hlen]; omega), List.getElem?_append_left (by rw [hlen]; exact h3), List.getElem?_take_of_lt h3, ← List.getD_eq_getElem?_getD, flat_getD M hi hj]
      · have h2 := ix_le (C := C) h
        exact hge (by omega)
  rw [← e]
  simp [u8s, List.map_append, List.map_take, List.map_drop]
theorem step_copy_part {ops : Array Oper} {o : Oper} {a : Act} {w : World} {K : Act → World → Prop} {Q : Exit → Act → World → Prop} {E : Prop} (hgd : o.guard = none) (d s : Operand)
    (ho : o.op = .call { callee := .builtin .copy, args := #[d, s], argTypes := #[27, 27] }) (g R C r m dCap : Nat) (M : Nat → Nat → Nat) (hr : r < R) (hm1 : 1 ≤ m) (hm : m ≤ C)
    (hd : a.eval d = .slice (some ⟨g, r * C, none⟩) C dCap) (sa : Option Addr) (sCap : Nat) (hs : a.eval s = .slice sa m sCap) (hg : Own w g (flat R C M)) (l : List Nat) (hb : Bs w (.slice sa m sCap) l)
    (h : ∀ w', Own w' g (flat R C (setPart M r m l)) → Kept g w w' → K (a.put o.dst (goInt (m : Nat))) w') :
    if Region.wanted o (yielded ops a.tmps) = true then Oper.wp Try.prog o a w K Q else E := by
  have hw : Region.wanted o (yielded ops a.tmps) = true := by simp [Region.wanted, hgd]
  rw [if_pos hw]
  have hlen := hb.len
  have hle := ix_le (C := C) hr
  obtain ⟨b, o', rfl⟩ := hb.some (by intro e; rw [e] at hlen; simp at hlen; omega)
  have hsrc : ∀ j v, (u8s l)[j]? = some v → w.cell? ((⟨b, o', none⟩ : Addr).add j) = some v := fun j v hj => by
    have hjl : j < l.length := by have := (List.getElem?_eq_some_iff.1 hj).1; simpa [u8s] using this
    rw [add_none, hb.cell j hjl, ← hj]
    simp [u8s, List.getElem?_eq_getElem hjl]
  have hl2 : (u8s l).length = m := by simp [u8s, ← hlen]
  have hrun := run_copy_row (P := Try.prog) w 27 27 o.type 5 g (r * C) C dCap ⟨b, o', none⟩ m sCap (u8s (flat R C M)).toArray 5 (u8s l) Try.underlying27 size5 hg (by rw [hl2]; exact (Nat.min_eq_left hm).symm) hsrc (by rw [hl2]; simp [u8s, flat_length]; omega) (u8s_one l)
  rw [List.toList_toArray, part_splice M hr l hlen.symm hm, hl2] at hrun
  unfold Oper.wp
  simp [execOp, ho, resolve, invoke, builtin, hd, hs, hrun, Result.andThen]
  exact h _ (setRow_heap w g _ _ _ _ hg) ⟨rfl, rfl, rfl, by simp [World.setRow], fun k _ hk => setRow_other w g k _ hk⟩

/-- what the loops of Inverse keep -/
structure IInv (fb ob xb b rb R C R' C' n cap : Nat) (a : Option Addr) (M : Nat → Nat → Nat) (w wr : World) : Prop where
  o : OInv ob xb rb R C M wr
  bm : wr.heap[b]? = some (Obj.cells #[.int .i64 R', .int .i64 C', .slice a n cap] 52)
  built : Built wr fb
  kept : Kept fb w wr
  ne : fb ≠ ob ∧ b ≠ ob ∧ w.heap.size ≤ ob
theorem IInv.step {fb ob xb b rb R C R' C' n cap : Nat} {a : Option Addr} {M N : Nat → Nat → Nat} {w wr w2 w3 : World} (h : IInv fb ob xb b rb R C R' C' n cap a M w wr) (h1 : Below wr.heap.size wr w2) (h2 : Kept ob w2 w3) (ho : Own w3 ob (flat R C N)) : IInv fb ob xb b rb R C R' C' n cap a N w w3 := by
  obtain ⟨n1, n2, n3⟩ := h.ne
  have hs := h1.size
  have hk : ∀ q o, wr.heap[q]? = some o → q ≠ ob → w3.heap[q]? = some o := fun q o hq hne => by
    have hl := lt_of_heap hq
    exact (h2.block q (by omega) hne).trans ((h1.block q hl).trans hq)
  refine ⟨h.o.step h1 h2 ho, hk _ _ h.bm n2, hk _ _ h.built n1, ?_, h.ne⟩
  have h5 := h.kept.trans (Kept.of_below h1)
  exact ⟨h2.os.trans h5.os, h2.tape.trans h5.tape, h2.output.trans h5.output, Nat.le_trans h5.size h2.size, fun q hq hqb => (h2.block q (by have := h5.size; omega) (by omega)).trans (h5.block q hq hqb)⟩
theorem IInv.below {fb ob xb b rb R C R' C' n cap : Nat} {a : Option Addr} {M : Nat → Nat → Nat} {w wr w2 : World} (h : IInv fb ob xb b rb R C R' C' n cap a M w wr) (h1 : Below wr.heap.size wr w2) : IInv fb ob xb b rb R C R' C' n cap a M w w2 := h.step h1 (Kept.refl _ _) (h.o.out.below h1 h.o.out.lt)
theorem IInv.congr {fb ob xb b rb R C R' C' n cap : Nat} {a : Option Addr} {M N : Nat → Nat → Nat} {w wr : World} (h : IInv fb ob xb b rb R C R' C' n cap a M w wr) (he : ∀ i j, i < R → j < C → M i j = N i j) : IInv fb ob xb b rb R C R' C' n cap a N w wr := ⟨h.o.congr he, h.bm, h.built, h.kept, h.ne⟩
end Go.Proofs.Ytfleplbdcpdphaa
