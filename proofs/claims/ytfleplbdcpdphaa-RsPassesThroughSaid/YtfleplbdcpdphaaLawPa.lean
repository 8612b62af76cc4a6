/-
  The walk of the law that the polynomial through points passes through them.
-/
import Derived.Test.YtfleplbdcpdphaaLawIp
import Derived.Test.YtfleplbdcpdphaaEvz
namespace Go.Proofs.Ytfleplbdcpdphaa
open Go Go.RowKit
set_option linter.unusedVariables false

/-- the places, and the values there -/
def xsP (s n : Nat) : List Nat := (List.range n).map fun j => (s + j) % 256
def ysP (l : List Nat) (s n : Nat) : List Nat := (List.range n).map fun j => pval l ((s + j) % 256)
theorem xsP_length (s n : Nat) : (xsP s n).length = n := by simp [xsP]
theorem ysP_length (l : List Nat) (s n : Nat) : (ysP l s n).length = n := by simp [ysP]
theorem pval_lt {l : List Nat} (hl : ∀ i, l.getD i 0 < 256) (x : Nat) : pval l x < 256 := sx_lt _ (fun i => Gf.tm_lt _ _ (hl i)) _
theorem xsP_getD (s n i : Nat) : (xsP s n).getD i 0 = if i < n then (s + i) % 256 else 0 := by unfold xsP; rw [rangeF_getD]
theorem ysP_getD (l : List Nat) (s n i : Nat) : (ysP l s n).getD i 0 = if i < n then pval l ((s + i) % 256) else 0 := by unfold ysP; rw [rangeF_getD]
theorem xsP_lt (s n i : Nat) : (xsP s n).getD i 0 < 256 := by rw [xsP_getD]; split <;> omega
theorem ysP_lt {l : List Nat} (hl : ∀ i, l.getD i 0 < 256) (s n i : Nat) : (ysP l s n).getD i 0 < 256 := by
  rw [ysP_getD]
  split
  · exact pval_lt hl _
  · omega
theorem xsP_succ (s n : Nat) : xsP s n ++ [(s + n) % 256] = xsP s (n + 1) := by unfold xsP; rw [List.range_succ, List.map_append]; rfl
theorem ysP_succ (l : List Nat) (s n : Nat) : ysP l s n ++ [pval l ((s + n) % 256)] = ysP l s (n + 1) := by unfold ysP; rw [List.range_succ, List.map_append]; rfl
theorem xsP_nodup (s n : Nat) (hn : n ≤ 256) : (xsP s n).Nodup := by
  unfold xsP
  rw [List.nodup_iff_pairwise_ne, List.pairwise_map]
  refine List.Pairwise.imp_of_mem ?_ (List.nodup_iff_pairwise_ne.1 List.nodup_range)
  intro a b ha hb hne e
  have := List.mem_range.1 ha
  have := List.mem_range.1 hb
  exact hne (by omega)
theorem ptsE_xsP (s n : Nat) (h1 : 1 ≤ n) (h2 : n ≤ 256) : ptsE (xsP s n) = 0 := by
  unfold ptsE
  rw [xsP_length, if_neg (by omega), if_pos (xsP_nodup s n h2)]
theorem ip_at (X : List Nat) (hX : ∀ i, X.getD i 0 < 256) (hd : X.Nodup) (y : Nat → Nat) (hy : ∀ i, y i < 256) (n : Nat) (hn : n = X.length) (m : Nat) (hm : m < n) : pval ((List.range n).map (ipC X y)) (X.getD m 0) = y m := by
  subst hn
  have h1 := ipC_value X hX hd y hy (X.getD m 0) (hX m)
  rw [through_at X hd y hy m hm] at h1
  rw [← h1]
  unfold pval fv
  rw [List.length_map, List.length_range]
  exact sx_congr _ fun j hj => by rw [rangeF_getD, if_pos hj]
/-- interpolating the values of a polynomial gives it back -/
theorem ip_back (l : List Nat) (hl : ∀ i, l.getD i 0 < 256) (s n : Nat) (hn : n = l.length) (h2 : n ≤ 256) : (List.range n).map (ipC (xsP s n) fun i => (ysP l s n).getD i 0) = l := by
  have hy := ysP_lt hl s n
  have hX := xsP_lt s n
  have hd := xsP_nodup s n h2
  apply getD_ext'
  · rw [List.length_map, List.length_range, hn]
  · intro j
    rw [rangeF_getD]
    by_cases h : j < n
    · rw [if_pos h]
      refine fv_unique (xsP s n) hX hd (by rw [xsP_length]; exact h2) (ipC (xsP s n) fun i => (ysP l s n).getD i 0) (fun i => l.getD i 0) (fun i => ipC_lt _ _ hy i) hl (fun m hm => ?_) j (by rw [xsP_length]; exact h)
      rw [ipC_value _ hX hd _ hy _ (hX m), through_at _ hd _ hy m hm]
      rw [xsP_length] at hm
      rw [ysP_getD, if_pos hm, xsP_getD, if_pos hm, xsP_length, hn]
      rfl
    · rw [if_neg h, List.getD_eq_getElem?_getD, List.getElem?_eq_none (by omega)]
      rfl
/-- a row of points that may be written -/
def PBuf (w : World) (g : Nat) (X Y : List Nat) : Prop := ∃ cur : Array Value, w.heap[g]? = some (.cells cur 72 (0, 0)) ∧ X.length * 2 ≤ cur.size ∧ cur.toList.take (X.length * 2) = ptc X Y
theorem PBuf.lt {w : World} {g : Nat} {X Y : List Nat} (h : PBuf w g X Y) : g < w.heap.size := by obtain ⟨_, h1, _⟩ := h; exact lt_of_heap h1
theorem PBuf.of_same {w w' : World} {g : Nat} {X Y : List Nat} (h : PBuf w g X Y) (hs : w'.heap[g]? = w.heap[g]?) : PBuf w' g X Y := by
  obtain ⟨cur, h1, h2⟩ := h
  exact ⟨cur, hs.trans h1, h2⟩
theorem PBuf.free {w : World} {g : Nat} {X Y : List Nat} (h : PBuf w g X Y) (i : Nat) : w.frozen? ⟨g, i, none⟩ = false := by
  obtain ⟨cur, h1, _⟩ := h
  exact free_of_heap h1 i
theorem PBuf.cell {w : World} {g : Nat} {X Y : List Nat} (h : PBuf w g X Y) (hl : Y.length = X.length) (i : Nat) (hi : i < X.length) : w.cell? ⟨g, i * 2, none⟩ = some (.int .u8 ((X.getD i 0 : Nat) : Int)) ∧ w.cell? ⟨g, i * 2 + 1, none⟩ = some (.int .u8 ((Y.getD i 0 : Nat) : Int)) := by
  obtain ⟨cur, h1, h2, h3⟩ := h
  obtain ⟨g0, g1⟩ := ptc_get X Y hl i hi
  rw [cell_of_heap h1, cell_of_heap h1, ← Array.getElem?_toList, ← Array.getElem?_toList]
  rw [← h3] at g0 g1
  rw [List.getElem?_take_of_lt (by omega)] at g0 g1
  exact ⟨g0, g1⟩
theorem PBuf.pt {w : World} {g c : Nat} {X Y : List Nat} (h : PBuf w g X Y) (hl : Y.length = X.length) (hX : ∀ i, X.getD i 0 < 256) (hY : ∀ i, Y.getD i 0 < 256) : Pt w (.slice (some ⟨g, 0, none⟩) X.length c) X Y :=
  ⟨_, c, rfl, hl, hX, hY, fun _ => ⟨g, 0, rfl, fun i hi => by rw [Nat.zero_add]; exact h.cell hl i hi⟩⟩
theorem ptc_set0 : ∀ (X Y : List Nat) (v : Nat), Y.length = X.length → X ≠ [] → (ptc X Y).set 1 (.int .u8 ((v : Nat) : Int)) = ptc X (Y.set 0 v)
  | [], _, _, _, h => absurd rfl h
  | x :: X, [], _, h, _ => by simp at h
  | x :: X, y :: Y, v, _, _ => rfl
theorem PBuf.set0 {w : World} {g : Nat} {X Y : List Nat} (h : PBuf w g X Y) (hl : Y.length = X.length) (hne : X ≠ []) (v : Nat) : PBuf (w.setCell ⟨g, 1, none⟩ (.int .u8 ((v : Nat) : Int))) g X (Y.set 0 v) := by
  obtain ⟨cur, h1, h2, h3⟩ := h
  refine ⟨cur.setIfInBounds 1 (.int .u8 v), ?_, by simpa using h2, ?_⟩
  · have h5 : w.heap[g]? = some (.cells cur.toList.toArray 72 (0, 0)) := by simpa using h1
    have h6 := heap_set h5 1 (.int .u8 v)
    rw [h6]
  · rw [Array.toList_setIfInBounds, List.take_set, h3]
    exact ptc_set0 X Y v hl hne
theorem pbuf_of_owns {w : World} {base m : Nat} {v : Value} {X Y : List Nat} (h : w.ownsRow base 72 2 v m (ptc X Y)) (hm : m = X.length) (h0 : 0 < m) : ∃ g cap, v = .slice (some ⟨g, 0, none⟩) m cap ∧ base ≤ g ∧ PBuf w g X Y := by
  obtain ⟨h1, h2⟩ := h
  rcases h2 with ⟨_, h3⟩ | ⟨g, cap, cur, h3, hg, hh, hc, hx, hs, ht⟩
  · omega
  · exact ⟨g, cap, h3, hg, cur, hh, by rw [hs]; omega, by rw [← hm]; exact ht⟩
theorem field_ne {w : World} {fb g : Nat} {cur : Array Value} (hF : Fld w fb) (h : w.heap[g]? = some (.cells cur 72 (0, 0))) : g ≠ fb := by
  rintro rfl
  rcases hF with hF | hF
  · have : w.heap[g]? = _ := hF
    rw [h] at this
    simp at this
  · have : w.heap[g]? = _ := hF
    rw [h] at this
    simp at this
theorem set0_getD (l : List Nat) (v i : Nat) : (l.set 0 v).getD i 0 = if i = 0 ∧ 0 < l.length then v else l.getD i 0 := by
  rw [List.getD_eq_getElem?_getD, List.getD_eq_getElem?_getD, List.getElem?_set]
  by_cases h : 0 = i
  · subst h
    by_cases h2 : 0 < l.length
    · simp [h2]
    · simp [h2]
  · rw [if_neg h, if_neg (by omega)]

set_option maxRecDepth 100000 in
set_option maxHeartbeats 4000000 in
theorem passes_main (W : World) (a : Option Addr) (n c : Nat) (l : List Nat) (hl : Bs W (.slice a n c) l) (s : Nat) (hs : s < 256) (h1 : 1 ≤ n) (h2 : n ≤ 255) :
    Calls Try.prog 19 #[.slice a n c, .int .u8 s] W fun e w' => e = .returned (.bool true) ∧ Below W.heap.size W w' := by
  have b0 : ((n : Int) == 0) = false := by simp; omega
  have b1 : decide ((255 : Int) < (n : Int)) = false := by simp; omega
  obtain ⟨i0, hi, hz0, hz1, hz2⟩ := info_parts info_pt
  have HL := hid hl
  have HLN := hid hl.len
  have HLT := hid hl.lt
  clear hl
  go_enter Try.func19, Try.ntmps19
  go_wp2_with fail
  refine (newField_e2 _).mono ?_
  rintro e w1 ⟨fb, hfb, rfl, hfr, hb1⟩
  have HW1 := hid hb1
  have HF1 := hid (show Fld w1 fb from .inl hfr)
  have HO1 := hid (show w1.ownsRow W.heap.size 72 2 (.slice none 0 0) 0 (ptc (xsP s 0) (ysP l s 0)) from ⟨rfl, .inl ⟨rfl, rfl⟩⟩)
  clear hfr hb1 b0 b1
  go_wp2
  go_loopw [6, 7] (fun v iv wr => ∃ i : Nat, i ≤ n ∧ iv = .int .i64 i ∧ Hid (wr.ownsRow W.heap.size 72 2 v i (ptc (xsP s i) (ysP l s i))) ∧ Hid (Fld wr fb) ∧ Hid (Below W.heap.size W wr)) (fun _ iv _ => n - (intOf iv).toNat)
  case atStart => exact ⟨0, by omega, rfl, HO1, HF1, HW1⟩
  case round =>
    clear HO1 HF1 HW1
    obtain ⟨i, hi', rfl, HO, HF, HW⟩ := hrel
    by_cases hlt : i < n
    · have hx : ((s : Int) + (i : Int)) % 256 = (((s + i) % 256 : Nat) : Int) := by omega
      have hxl : (s + i) % 256 < 256 := by omega
      have HXS := hid (xsP_succ s i)
      have HYS := hid (ysP_succ l s i)
      generalize (s + i) % 256 = x at *
      have hfl := HF.out.lt
      have hlr := HL.out.below HW.out
      have hoff : Off fb (.slice a n c) := by
        rcases HL.out.addr with ⟨h0, a', c', hv⟩ | ⟨h0, b, o, c', hv⟩
        · exfalso; rw [← List.length_eq_zero_iff] at h0; have := HLN.out; omega
        · simp only [Value.slice.injEq] at hv
          obtain ⟨rfl, _, _⟩ := hv
          have := HL.out.cell 0 (by rw [← HLN.out]; omega)
          have := World.block_lt_of_cell? _ _ this
          show b ≠ fb
          simp only at this
          omega
      have HLR := hid hlr
      clear hlr
      go_wp2_with fail
      refine (Eval_any fb a n c l x hxl _ HF.out HLR.out hoff (by omega)).mono ?_
      rintro e w2 ⟨rfl, hB2, hk2⟩
      have hsz := HW.out.size
      have hW2 := HW.out.trans (hk2.below hsz hfb)
      have hO2 : w2.ownsRow W.heap.size 72 2 u6 i (ptc (xsP s i) (ysP l s i)) := by
        obtain ⟨k1, k2⟩ := HO.out
        refine ⟨k1, ?_⟩
        rcases k2 with h | ⟨g, cap, cur, e1, e2, e3, e4⟩
        · exact .inl h
        · exact .inr ⟨g, cap, cur, e1, e2, (hk2.block g (lt_of_heap e3) (field_ne HF.out e3)).trans e3, e4⟩
      have HO2 := hid (hO2.alloc (.cells #[.int .u8 ((x : Nat) : Int), .int .u8 ((pval l x : Nat) : Int)] 72))
      have HW2 := hid (hW2.alloc hW2.size (.cells #[.int .u8 ((x : Nat) : Int), .int .u8 ((pval l x : Nat) : Int)] 72))
      have HB2 := hid ((show Fld w2 fb from .inr hB2).alloc (.cells #[.int .u8 ((x : Nat) : Int), .int .u8 ((pval l x : Nat) : Int)] 72))
      have hs2 := hW2.size
      clear hk2 hB2 hO2 hW2
      go_wp2_with (refine wpList_append_own _ rfl (.tmp 32) (.tmp 39) _ rfl W.heap.size 72 i0 (.agg #[.int .u8 0, .int .u8 0]) 2 2 Try.underlying68 hi hz0 hz1 hz2 rfl (by decide) _ i (ptc (xsP s i) (ysP l s i)) rfl HO2.out ⟨w2.heap.size, 0, none⟩ 1 1 [.int .u8 ((x : Nat) : Int), .int .u8 ((pval l x : Nat) : Int)] rfl rfl (cells_of_new2 _ _ _ _) (fun u hu => by simp at hu; rcases hu with rfl | rfl <;> rfl) (by unfold maxLen; omega) (by omega) (by simp; omega) ?_)
      intro v' w6 hown6 hg6 _
      rw [ptc_snoc _ _ _ _ (by rw [xsP_length, ysP_length]), HXS.out, HYS.out] at hown6
      have HO6 := hid hown6
      have HW6 := hid (HW2.out.grown hg6 (by simp; omega) (fun q hq => (HO2.out.lt q hq).1))
      have hF6 : Fld w6 fb := by
        have hne : some fb ≠ u6.ownBlock := by
          rcases HO2.out.2 with ⟨e1, _⟩ | ⟨g, cap, cur, e1, e2, e3, e4⟩
          · rw [e1]; simp [Value.ownBlock]
          · rw [e1]
            have := field_ne HB2.out e3
            simp [Value.ownBlock]
            omega
        have e := hg6.block fb HB2.out.lt hne
        exact HB2.out.elim (fun h => .inl (e.trans h)) (fun h => .inr (e.trans h))
      have HF6 := hid hF6
      clear hown6 hg6 hF6
      go_wp2
      exact ⟨⟨i + 1, by omega, by go_num, HO6, HF6, HW6⟩, by simp [intOf]; omega⟩
    · obtain rfl : i = n := by omega
      have hf : i = (xsP s i).length := (xsP_length s i).symm
      obtain ⟨g, cap, rfl, hg, hPB⟩ := pbuf_of_owns HO.out hf (by omega)
      have hYX : (ysP l s i).length = (xsP s i).length := by rw [xsP_length, ysP_length]
      have hXL := xsP_lt s i
      have hYL := ysP_lt HLT.out s i
      have hgf : g ≠ fb := by obtain ⟨cur, h1, _⟩ := hPB; exact field_ne HF.out h1
      have hH := held_pt (fb := fb) (hPB.pt (c := cap) hYX hXL hYL) (fun ad h => by cases h; exact hgf)
      rw [xsP_length] at hH
      have HPB := hid hPB
      have HH := hid hH
      have HYX := hid hYX
      have HXL := hid hXL
      have HYL := hid hYL
      have HND := hid (xsP_nodup s i (by omega))
      have HXN := hid (xsP_length s i)
      have HPE := hid (ptsE_xsP s i h1 (by omega))
      have HBACK := hid (ip_back l HLT.out s i HLN.out (by omega))
      have hne0 : ((0 : Int) != 0) = false := rfl
      clear hPB hH hYX hXL hYL hf
      go_wp2_with fail
      refine (Interpolate_ok fb _ i cap (xsP s i) (ysP l s i) wr HF.out HH.out HPE.out).mono ?_
      rintro e w2 ⟨cb, hcb, rfl, hO2, hB2, hk2⟩
      rw [HBACK.out] at hO2
      have hW2 := HW.out.trans (hk2.below HW.out.size hfb)
      have hP2 := HPB.out.of_same (hk2.block g HPB.out.lt hgf)
      have hl2 := HL.out.below hW2
      have cv1 := conv_bs (show Bs w2 (.slice (some ⟨cb, 0, none⟩) i i) l from by
        have h5 := hO2.bs (fun v hv => by
          obtain ⟨j, hj, rfl⟩ := List.getElem_of_mem hv
          have := HLT.out j
          rwa [List.getD_eq_getElem?_getD, List.getElem?_eq_getElem hj] at this) i
        rw [← HLN.out] at h5
        exact h5)
      have cv2 := conv_bs hl2
      obtain ⟨p0, p1⟩ := hP2.cell HYX.out 0 (by rw [HXN.out]; omega)
      have p2 := hP2.free 1
      have hyl := HYL.out 0
      have hxo : bits .xor .u8 (((ysP l s i).getD 0 0 : Nat) : Int) 1 = (((ysP l s i).getD 0 0 ^^^ 1 : Nat) : Int) := u8_xor_nat _ 1 hyl (by omega)
      have hxlt : (ysP l s i).getD 0 0 ^^^ 1 < 256 := Nat.xor_lt_two_pow (n := 8) hyl (by omega)
      have hP3 := hP2.set0 HYX.out (by intro e; rw [← List.length_eq_zero_iff, HXN.out] at e; omega) ((ysP l s i).getD 0 0 ^^^ 1)
      have HP3 := hid hP3
      have HW3 := hid (hW2.setCell (p := ⟨g, 1, none⟩) (by show _ ≤ g; omega) (.int .u8 (((ysP l s i).getD 0 0 ^^^ 1 : Nat) : Int)))
      have HF3 := hid (show Fld (w2.setCell ⟨g, 1, none⟩ (.int .u8 (((ysP l s i).getD 0 0 ^^^ 1 : Nat) : Int))) fb from .inr ((Below.heap_setCell _ _ _ _ (fun e => hgf e.symm)).trans hB2))
      have HYX3 := hid (show ((ysP l s i).set 0 ((ysP l s i).getD 0 0 ^^^ 1)).length = (xsP s i).length from by rw [List.length_set]; exact HYX.out)
      have HYL3 := hid (show ∀ j, ((ysP l s i).set 0 ((ysP l s i).getD 0 0 ^^^ 1)).getD j 0 < 256 from fun j => by
        rw [set0_getD]
        split
        · exact hxlt
        · exact HYL.out j)
      clear hO2 hB2 hk2 hW2 hP2 hl2 hP3 hcb
      generalize hY3 : (ysP l s i).set 0 ((ysP l s i).getD 0 0 ^^^ 1) = Y3 at *
      clear hY3
      generalize (ysP l s i).getD 0 0 ^^^ 1 = y3 at *
      generalize (ysP l s i).getD 0 0 = y0 at *
      have HH3 := hid (show HeldPt fb (w2.setCell ⟨g, 1, none⟩ (.int .u8 ((y3 : Nat) : Int))) (.slice (some ⟨g, 0, none⟩) i cap) (xsP s i) Y3 from by
        have h5 := held_pt (fb := fb) (HP3.out.pt (c := cap) HYX3.out HXL.out HYL3.out) (fun ad h => by cases h; exact hgf)
        rw [HXN.out] at h5
        exact h5)
      have HIP := hid (fun m (hm : m < i) => ip_at (xsP s i) HXL.out HND.out (fun k => Y3.getD k 0) HYL3.out i HXN.out.symm m hm)
      have HLM := hid (ip_mem (xsP s i) (fun k => Y3.getD k 0) HYL3.out i)
      have HLL := hid (show ((List.range i).map (ipC (xsP s i) fun k => Y3.getD k 0)).length = i from by rw [List.length_map, List.length_range])
      go_wp2_with fail
      refine (Interpolate_ok fb _ i cap (xsP s i) Y3 _ HF3.out HH3.out HPE.out).mono ?_
      rintro e w4 ⟨cb4, hcb4, rfl, hO4, hB4, hk4⟩
      clear p0 p1 p2 cv1 cv2 hxo
      generalize hL4 : (List.range i).map (ipC (xsP s i) fun k => Y3.getD k 0) = L4 at *
      clear hL4
      have hfl3 := HF3.out.lt
      have HW4 := hid (HW3.out.trans (hk4.below HW3.out.size hfb))
      have HP4 := hid (HP3.out.of_same (hk4.block g HP3.out.lt hgf))
      have HO4 := hid hO4
      have HB4 := hid hB4
      have hcf : cb4 ≠ fb := by omega
      clear hO4 hB4 hk4 hcb4
      go_wp2
      go_loopw [11] (fun iv wr => ∃ j : Nat, j ≤ i ∧ iv = .int .i64 j ∧ Hid (Own wr cb4 L4) ∧ Hid (PBuf wr g (xsP s i) Y3) ∧ Hid (Built wr fb) ∧ Hid (Below W.heap.size W wr)) (fun iv _ => i - (intOf iv).toNat)
      case atStart => exact ⟨0, by omega, rfl, HO4, HP4, HB4, HW4⟩
      case round =>
        clear HO4 HP4 HB4 HW4
        obtain ⟨j, hj, rfl, HO4, HP4, HB4, HW4⟩ := hrel
        by_cases hlt : j < i
        · obtain ⟨p0, p1⟩ := HP4.out.cell HYX3.out j (by rw [HXN.out]; omega)
          have hxl := HXL.out j
          have HV := hid (HIP.out j hlt)
          generalize (xsP s i).getD j 0 = x at *
          generalize Y3.getD j 0 = y at *
          have hbs := HO4.out.bs HLM.out i
          rw [HLL.out] at hbs
          have HBS := hid hbs
          have HP0 := hid p0
          have HP1 := hid p1
          have hbb := World.block_lt_of_cell? _ _ p0
          clear hbs
          go_wp2
          go_region_held3 (fun w' => w'.cell? ⟨g, j * 2, none⟩ = some (.int .u8 ((x : Nat) : Int)) ∧ w'.cell? ⟨g, j * 2 + 1, none⟩ = some (.int .u8 ((y : Nat) : Int)))
            (first | exact HC5.out | exact ⟨HP0.out, HP1.out⟩)
            (first
              | (go_at_call 52
                 have hev := Eval_any fb (some ⟨cb4, 0, none⟩) i i L4 x hxl (wr.drewN 1) (show Fld (wr.drewN 1) fb from .inr HB4.out) (HBS.out.drewN 1) hcf (by omega)
                 rw [HV.out] at hev
                 refine hev.mono ?_
                 rintro e w5 ⟨rfl, hB5, hk5⟩
                 have HK5 := hid (((Kept.refl fb wr).drewN 1).trans hk5)
                 have HC5 := hid (show w5.cell? ⟨g, j * 2, none⟩ = some (.int .u8 ((x : Nat) : Int)) ∧ w5.cell? ⟨g, j * 2 + 1, none⟩ = some (.int .u8 ((y : Nat) : Int)) from ⟨(World.cell?_of_block (a := ⟨g, j * 2, none⟩) (HK5.out.block g hbb hgf)).trans HP0.out, (World.cell?_of_block (a := ⟨g, j * 2 + 1, none⟩) (HK5.out.block g hbb hgf)).trans HP1.out⟩)
                 have HB5 := hid hB5))
          all_goals
            have HO5 := hid (show Own w5 cb4 L4 from (HK5.out.block cb4 HO4.out.lt hcf).trans HO4.out)
            have HP5 := hid (HP4.out.of_same (HK5.out.block g HP4.out.lt hgf))
            have HW5 := hid (HW4.out.trans (HK5.out.below HW4.out.size hfb))
            clear p0 p1
            go_wp2
            exact ⟨⟨j + 1, by omega, by go_num, HO5, HP5, HB5, HW5⟩, by simp [intOf]; omega⟩
        · obtain rfl : j = i := by omega
          go_wp2_with fail
          refine (known_any _).mono ?_
          rintro e w5 ⟨rfl, hb5⟩
          go_wp2
          go_ret
          exact ⟨rfl, known_end HW4.out hb5⟩

set_option maxRecDepth 100000 in
theorem passes_walk (W : World) (a : Option Addr) (n c : Nat) (l : List Nat) (hl : Bs W (.slice a n c) l) (_hc : n ≤ c) (_hnil : a = none → c = 0) (x : Int) (hwx : (Lit.int .u8 x).wf = true) :
    Calls Try.prog 19 #[.slice a n c, .int .u8 x] W fun e w' => e = .returned (.bool true) ∧ Below W.heap.size W w' := by
  obtain ⟨s, rfl, hs⟩ := nat_of_u8 hwx
  by_cases h : 1 ≤ n ∧ n ≤ 255
  · exact passes_main W a n c l hl s hs h.1 h.2
  · by_cases h0 : n = 0
    · subst h0
      clear hl
      go_enter Try.func19, Try.ntmps19
      go_wp2_with fail
      refine (known_any _).mono ?_
      rintro e w5 ⟨rfl, hb5⟩
      go_wp2
      go_ret
      exact ⟨rfl, hb5⟩
    · have b0 : ((n : Int) == 0) = false := by simp; omega
      have b1 : decide ((255 : Int) < (n : Int)) = true := by simp; omega
      clear hl
      go_enter Try.func19, Try.ntmps19
      go_wp2_with fail
      refine (known_any _).mono ?_
      rintro e w5 ⟨rfl, hb5⟩
      go_wp2
      go_ret
      exact ⟨rfl, hb5⟩
end Go.Proofs.Ytfleplbdcpdphaa
