/-
  newLagrange: the scales of the places.
-/
import Derived.Test.YtafkjfpmjhfofaaDoorMul
import Derived.Test.YtafkjfpmjhfofaaDoorBytes
namespace Go.Proofs.YtafkjfpmjhfofaaDoor
open Go.RowKit

theorem xor_int (p a : Nat) (hp : p < 256) (ha : a < 256) : bits .xor .u8 (p : Int) (a : Int) = ((p ^^^ a : Nat) : Int) := u8_xor_nat p a hp ha
/-- the product of place i with the other places before j -/
def pnTo (l : List Nat) (i : Nat) : Nat → Nat
  | 0 => 1
  | j + 1 => if i ≠ j then Gf.tm (pnTo l i j) (l.getD i 0 ^^^ l.getD j 0) else pnTo l i j
def scale (l : List Nat) (i : Nat) : Nat := Gf.iv (pnTo l i l.length)
def scalesTo (l : List Nat) (k : Nat) : List Nat := (List.range l.length).map fun i => if i < k then scale l i else 0
def scales (l : List Nat) : List Nat := (List.range l.length).map (scale l)

theorem pnTo_lt (l : List Nat) (hl : ∀ i, l.getD i 0 < 256) (i : Nat) : ∀ j, pnTo l i j < 256
  | 0 => by show 1 < 256; omega
  | j + 1 => by
    unfold pnTo
    split
    · exact Gf.tm_lt _ _ (pnTo_lt l hl i j)
    · exact pnTo_lt l hl i j
theorem xor_ne {a b : Nat} (h : a ≠ b) : a ^^^ b ≠ 0 := fun e => h (by
  have : a ^^^ b ^^^ b = 0 ^^^ b := by rw [e]
  rwa [Nat.xor_assoc, Nat.xor_self, Nat.xor_zero, Nat.zero_xor] at this)
theorem nodup_getD {l : List Nat} (h : l.Nodup) {i j : Nat} (hi : i < l.length) (hj : j < l.length) (hij : i ≠ j) : l.getD i 0 ≠ l.getD j 0 := by
  rw [List.getD_eq_getElem?_getD, List.getD_eq_getElem?_getD, List.getElem?_eq_getElem hi, List.getElem?_eq_getElem hj]
  show l[i] ≠ l[j]
  rcases Nat.lt_or_gt_of_ne hij with h1 | h1
  · exact List.pairwise_iff_getElem.1 h i j hi hj h1
  · exact fun e => List.pairwise_iff_getElem.1 h j i hj hi h1 e.symm
theorem pnTo_pos (l : List Nat) (hl : ∀ i, l.getD i 0 < 256) (hd : l.Nodup) (i : Nat) (hi : i < l.length) : ∀ j, j ≤ l.length → pnTo l i j ≠ 0
  | 0, _ => by show 1 ≠ 0; omega
  | j + 1, hj => by
    unfold pnTo
    split
    · rename_i hij
      exact Gf.tm_pos _ _ (pnTo_lt l hl i j) (Gf.xor_lt (hl i) (hl j)) (pnTo_pos l hl hd i hi j (by omega)) (xor_ne (nodup_getD hd hi (by omega) hij))
    · exact pnTo_pos l hl hd i hi j (by omega)
theorem scalesTo_set (l : List Nat) (k : Nat) (_hk : k < l.length) : (scalesTo l k).set k (scale l k) = scalesTo l (k + 1) := by
  apply List.ext_getElem?
  intro i
  unfold scalesTo
  rw [List.getElem?_set]
  simp only [List.length_map, List.length_range, List.getElem?_map]
  by_cases h : k = i
  · subst h
    rw [if_pos rfl, if_pos (by omega), List.getElem?_range (by omega)]
    simp
  · rw [if_neg h]
    by_cases hi : i < l.length
    · rw [List.getElem?_range hi]
      simp only [Option.map_some]
      by_cases h2 : i < k
      · rw [if_pos h2, if_pos (by omega)]
      · rw [if_neg h2, if_neg (by omega)]
    · rw [List.getElem?_eq_none (by simp; omega)]; rfl
theorem scalesTo_zero (l : List Nat) : scalesTo l 0 = List.replicate l.length 0 := by
  apply List.ext_getElem?
  intro i
  unfold scalesTo
  by_cases hi : i < l.length
  · simp [hi]
  · rw [List.getElem?_eq_none (by simp; omega), List.getElem?_eq_none (by simp; omega)]
theorem scalesTo_all (l : List Nat) : scalesTo l l.length = scales l := by
  unfold scalesTo scales
  apply List.map_congr_left
  intro i hi
  rw [if_pos (List.mem_range.1 hi)]
theorem scalesTo_length (l : List Nat) (k : Nat) : (scalesTo l k).length = l.length := by simp [scalesTo]
theorem scales_length (l : List Nat) : (scales l).length = l.length := by simp [scales]
theorem scales_getD (l : List Nat) (i : Nat) (hi : i < l.length) : (scales l).getD i 0 = scale l i := by
  simp [scales, List.getElem?_map, List.getElem?_range hi]
theorem scales_lt (l : List Nat) : ∀ n ∈ scales l, n < 256 := by
  intro n hn
  unfold scales at hn
  obtain ⟨i, _, rfl⟩ := List.mem_map.1 hn
  exact Gf.iv_lt _

set_option maxRecDepth 100000 in
set_option maxHeartbeats 1000000 in
theorem newLagrange_any (fb : Nat) (b o c : Nat) (l : List Nat) (w : World) (hB : Built w fb) (hl : Bs w (.slice (some ⟨b, o, none⟩) l.length c) l) (hn : l.length ≤ 256) (hd : l.Nodup) :
    Calls Tryd.prog 85 #[.pointer (some ⟨fb, 0, none⟩), .slice (some ⟨b, o, none⟩) l.length c] w fun e w' => ∃ sb, w.heap.size ≤ sb ∧ e = .returned (.agg #[.pointer (some ⟨fb, 0, none⟩), .slice (some ⟨b, o, none⟩) l.length c, .slice (some ⟨sb, 0, none⟩) l.length l.length]) ∧ Own w' sb (scales l) ∧ Below w.heap.size w w' := by
  obtain ⟨n, hnl⟩ : ∃ n, n = l.length := ⟨_, rfl⟩
  have HN := hid hnl
  rw [← hnl] at hl hn ⊢
  clear hnl
  have hmk := mk_u8 n (by omega)
  have hlt := hl.lt
  have HL := hid hlt
  have HD := hid hd
  clear hlt hd
  have hbl : Below w.heap.size w ((w.alloc (Obj.cells #[Value.pointer none, Value.slice none 0 0, Value.slice none 0 0] 106)).alloc (zrow n)) := ((Below.refl _ _).alloc (Nat.le_refl _) _).alloc (by simp) _
  have hown : Own ((w.alloc (Obj.cells #[Value.pointer none, Value.slice none 0 0, Value.slice none 0 0] 106)).alloc (zrow n)) (w.heap.size + 1) (scalesTo l 0) := by
    rw [scalesTo_zero, ← HN.out]
    have := own_zrow (w.alloc (Obj.cells #[Value.pointer none, Value.slice none 0 0, Value.slice none 0 0] 106)) n
    rwa [World.size_alloc] at this
  have hres : ((w.alloc (Obj.cells #[Value.pointer none, Value.slice none 0 0, Value.slice none 0 0] 106)).alloc (zrow n)).heap[w.heap.size]? = some (Obj.cells #[Value.pointer none, Value.slice none 0 0, Value.slice none 0 0] 106) := heap_alloc (heap_new _ _) _
  have Hres := hid hres
  clear hres
  go_enter Tryd.func85, Tryd.ntmps85
  go_wp2
  clear hmk
  go_loopw [16] (fun i wr => ∃ k : Nat, k ≤ n ∧ i = .int .i64 k ∧ Own wr (w.heap.size + 1) (scalesTo l k) ∧ Below w.heap.size w wr ∧ Hid (wr.heap[w.heap.size]? = some (Obj.cells #[Value.pointer none, Value.slice none 0 0, Value.slice none 0 0] 106))) (fun i _ => n - (intOf i).toNat)
  case atStart => exact ⟨0, by omega, rfl, hown, hbl, Hres⟩
  case round =>
    clear hown hbl Hres
    obtain ⟨k, hk, rfl, hown, hbl, Hres⟩ := hrel
    obtain ⟨wo, rfl⟩ : ∃ wo : World, wo = wr := ⟨_, rfl⟩
    have hBo := hB.below hbl hB.lt
    have hlo := hl.below hbl
    by_cases hlt : k < n
    · have ck := hlo.cell k (by rw [← HN.out]; exact hlt)
      have hkl := HL.out k
      generalize hpk : l.getD k 0 = pk at *
      have HPK := hid hpk
      clear hpk
      go_wp2
      go_loopw [8, 9, 10, 23] (fun p _ _ j wr => ∃ m : Nat, m ≤ n ∧ j = .int .i64 m ∧ p = .int .u8 (pnTo l k m) ∧ ∃ q, Hid (wr = wo.drewN q)) (fun _ _ _ j _ => n - (intOf j).toNat)
      case atStart => exact ⟨0, by omega, rfl, rfl, 0, rfl⟩
      case round =>
        obtain ⟨m, hm, rfl, rfl, q, hw⟩ := hrel
        have hw' := hw.out
        subst hw'
        clear hw
        have hBo2 := hBo.drewN q
        have hlo2 := hlo.drewN q
        by_cases hlt2 : m < n
        · have cm := hlo2.cell m (by rw [← HN.out]; exact hlt2)
          have hml := HL.out m
          have hpl := pnTo_lt l HL.out k m
          by_cases hkm : k = m
          · have hb1 : ((k : Int) != (m : Int)) = false := by simp [hkm]
            have hst : pnTo l k (m + 1) = pnTo l k m := by
              show (if k ≠ m then _ else _) = _
              rw [if_neg (by simp [hkm])]
            have HS := hid hst
            clear hst hkm
            go_wp2
            go_roundw
            case rel => exact ⟨m + 1, by omega, by go_num, by rw [HS.out], q, hid rfl⟩
            case measure => simp [intOf]; omega
          · have hb1 : ((k : Int) != (m : Int)) = true := by simp; omega
            have hst : pnTo l k (m + 1) = Gf.tm (pnTo l k m) (pk ^^^ l.getD m 0) := by
              show (if k ≠ m then _ else _) = _
              rw [if_pos hkm, HPK.out]
            have hxi := xor_int pk _ hkl hml
            have hxl := Gf.xor_lt hkl hml
            have HS := hid hst
            clear hst hkm
            generalize l.getD m 0 = pm at *
            generalize pk ^^^ pm = xx at *
            generalize pnTo l k m = pp at *
            go_wp2_with (go_at_call 98; refine (mul_any fb pp xx hpl hxl _ hBo2).mono ?_; rintro e w' ⟨rfl, r, rfl⟩)
            go_roundw
            case rel => exact ⟨m + 1, by omega, by go_num, by rw [HS.out], q + r, hid rfl⟩
            case measure => simp [intOf]; omega
        · obtain rfl : m = n := by omega
          have hpl := pnTo_lt l HL.out k m
          have hpp := pnTo_pos l HL.out HD.out k (by rw [← HN.out]; exact hlt) m (by rw [← HN.out]; omega)
          have hsc : scale l k = Gf.iv (pnTo l k m) := by unfold scale; rw [← HN.out]
          have HSC := hid hsc
          clear hsc
          generalize pnTo l k m = pp at *
          have co := hown.cell k (by rw [scalesTo_length, ← HN.out]; exact hlt)
          have fo := hown.free k
          go_wp2_with (go_at_call 99; refine (inverse_any fb pp hpl hpp _ hBo2).mono ?_; rintro e w' ⟨rfl, r, rfl⟩)
          go_roundw
          case rel =>
            refine ⟨k + 1, by omega, by go_num, ?_, ?_, ?_⟩
            · have h5 := (hown.drewN (q + r)).set k (Gf.iv pp)
              rw [← HSC.out, scalesTo_set l k (by rw [← HN.out]; exact hlt)] at h5
              rw [← HSC.out]
              exact h5
            · exact (bel_drewN hbl _).setCell (by simp) _
            · exact (Below.heap_setCell _ _ _ _ (by simp)).trans Hres.out
          case measure => simp [intOf]; omega
    · obtain rfl : k = n := by omega
      have hres := Hres.out
      have r0 := cell_of_heap hres 0
      have r1 := cell_of_heap hres 1
      have r2 := cell_of_heap hres 2
      have g0 := free_of_heap hres 0
      have g1 := free_of_heap hres 1
      have g2 := free_of_heap hres 2
      clear hres
      go_wp2
      refine bodyPost_ret (v := .agg #[.pointer (some ⟨fb, 0, none⟩), .slice (some ⟨b, o, none⟩) k c, .slice (some ⟨w.heap.size + 1, 0, none⟩) k k]) (by simp [results, Tryd.results85, go_sem, r0, r1, r2]) rfl ⟨w.heap.size + 1, by omega, rfl, ?_, ?_⟩
      · have h5 := hown
        have h6 := scalesTo_all l
        rw [← HN.out] at h6
        rw [h6] at h5
        exact ((h5.setCell (by simp) _).setCell (by simp) _).setCell (by simp) _
      · exact ((hbl.setCell (by simp) _).setCell (by simp) _).setCell (by simp) _
theorem newLagrange_n (fb b o c n : Nat) (l : List Nat) (hnl : n = l.length) (w : World) (hB : Built w fb) (hl : Bs w (.slice (some ⟨b, o, none⟩) n c) l) (hn : n ≤ 256) (hd : l.Nodup) :
    Calls Tryd.prog 85 #[.pointer (some ⟨fb, 0, none⟩), .slice (some ⟨b, o, none⟩) n c] w fun e w' => ∃ sb, w.heap.size ≤ sb ∧ e = .returned (.agg #[.pointer (some ⟨fb, 0, none⟩), .slice (some ⟨b, o, none⟩) n c, .slice (some ⟨sb, 0, none⟩) n n]) ∧ Own w' sb (scales l) ∧ Below w.heap.size w w' := by
  subst hnl
  exact newLagrange_any fb b o c l w hB hl hn hd
end Go.Proofs.YtafkjfpmjhfofaaDoor
