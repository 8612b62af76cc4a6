/-
  piece: the bytes of any piece from k pieces.
-/
import Derived.Test.YtafkjfpmjhfofaaDoorSrc
namespace Go.Proofs.YtafkjfpmjhfofaaDoor
open Go.RowKit

/-- the sum of the first k values of f -/
def sx (f : Nat → Nat) : Nat → Nat | 0 => 0 | k + 1 => sx f k ^^^ f k
/-- the sum of the first k rows times their weights -/
def mixL (D : List (List Nat)) (ws : List Nat) (L k : Nat) : List Nat := (List.range L).map fun c => sx (fun i => Gf.tm (ws.getD i 0) ((D.getD i []).getD c 0)) k
theorem sx_lt (f : Nat → Nat) (h : ∀ i, f i < 256) : ∀ k, sx f k < 256
  | 0 => by show 0 < 256; omega
  | k + 1 => Gf.xor_lt (sx_lt f h k) (h k)
theorem sx_congr {f g : Nat → Nat} : ∀ k, (∀ i, i < k → f i = g i) → sx f k = sx g k
  | 0, _ => rfl
  | k + 1, h => by show sx f k ^^^ f k = sx g k ^^^ g k; rw [sx_congr k (fun i hi => h i (by omega)), h k (by omega)]
theorem mixL_length (D : List (List Nat)) (ws : List Nat) (L k : Nat) : (mixL D ws L k).length = L := by simp [mixL]
theorem mixL_getD (D : List (List Nat)) (ws : List Nat) (L k c : Nat) (hc : c < L) : (mixL D ws L k).getD c 0 = sx (fun i => Gf.tm (ws.getD i 0) ((D.getD i []).getD c 0)) k := by
  unfold mixL
  rw [List.getD_eq_getElem?_getD, List.getElem?_map, List.getElem?_range hc]; rfl
theorem mixL_zero (D : List (List Nat)) (ws : List Nat) (L : Nat) : mixL D ws L 0 = List.replicate L 0 := by
  apply List.ext_getElem?
  intro i
  unfold mixL
  by_cases hi : i < L
  · simp [hi, sx]
  · rw [List.getElem?_eq_none (by simp; omega), List.getElem?_eq_none (by simp; omega)]
theorem ext_getD {a b : List Nat} (h : a.length = b.length) (he : ∀ i, i < a.length → a.getD i 0 = b.getD i 0) : a = b := by
  apply List.ext_getElem?
  intro i
  by_cases hi : i < a.length
  · have := he i hi
    rw [List.getD_eq_getElem?_getD, List.getD_eq_getElem?_getD] at this
    rw [List.getElem?_eq_getElem hi, List.getElem?_eq_getElem (by omega)] at this ⊢
    exact congrArg some this
  · rw [List.getElem?_eq_none (by omega), List.getElem?_eq_none (by omega)]
theorem mixL_step (D : List (List Nat)) (ws : List Nat) (L k : Nat) : axTo (mixL D ws L k) 0 (D.getD k []) (ws.getD k 0) L = mixL D ws L (k + 1) := by
  apply ext_getD
  · rw [axTo_length, mixL_length, mixL_length]
  · intro i hi
    rw [axTo_length, mixL_length] at hi
    rw [axTo_getD _ _ _ _ _ (by rw [mixL_length]; omega), if_pos (by omega), mixL_getD _ _ _ _ _ hi, mixL_getD _ _ _ _ _ hi]
    rfl
theorem mixL_skip (D : List (List Nat)) (ws : List Nat) (L k : Nat) (h : ws.getD k 0 = 0) : mixL D ws L (k + 1) = mixL D ws L k := by
  unfold mixL
  apply List.map_congr_left
  intro c _
  show sx _ k ^^^ Gf.tm (ws.getD k 0) _ = _
  rw [h, Gf.tm_zero_left, Nat.xor_zero]
theorem mixL_lt (D : List (List Nat)) (ws : List Nat) (L k : Nat) (hw : ∀ i, ws.getD i 0 < 256) : ∀ n ∈ mixL D ws L k, n < 256 := by
  intro n hn
  unfold mixL at hn
  obtain ⟨c, _, rfl⟩ := List.mem_map.1 hn
  exact sx_lt _ (fun i => Gf.tm_lt _ _ (hw i)) k
theorem getD_lt {l : List Nat} (h : ∀ n ∈ l, n < 256) (i : Nat) : l.getD i 0 < 256 := by
  rw [List.getD_eq_getElem?_getD]
  by_cases hi : i < l.length
  · rw [List.getElem?_eq_getElem hi]; exact h _ (List.getElem_mem _)
  · rw [List.getElem?_eq_none (by omega)]; show 0 < 256; omega
/-- the cells of one piece -/
theorem Ps.cells {w : World} {b o k c : Nat} {ps : List (Int × Sl)} (h : Ps w (.slice (some ⟨b, o, none⟩) k c) ps) (i : Nat) (hi : i < ps.length) : w.cell? ⟨b, o + i * 2, none⟩ = some (.int .i64 ps[i].1) ∧ w.cell? ⟨b, o + i * 2 + 1, none⟩ = some (.slice ps[i].2.1 ps[i].2.2.1 ps[i].2.2.2) := by
  obtain ⟨a', c', h1, h3⟩ := h
  obtain ⟨b', o', ha, hc⟩ := h3 (by intro e; rw [e] at hi; exact absurd hi (Nat.not_lt_zero _))
  simp only [Value.slice.injEq] at h1
  obtain ⟨h4, _, _⟩ := h1
  rw [ha] at h4
  simp only [Option.some.injEq, Addr.mk.injEq, and_true] at h4
  obtain ⟨rfl, rfl⟩ := h4
  exact hc i hi

set_option maxRecDepth 100000 in
set_option maxHeartbeats 1000000 in
theorem piece_any (fb b o c pb po pc sb so sc k L x : Nat) (ps : List (Int × Sl)) (l : List Nat) (D : List (List Nat)) (w : World) (hB : Built w fb) (hp : Ps w (.slice (some ⟨b, o, none⟩) k c) ps) (hk1 : k ≠ 0) (hk : k ≤ 256) (hkp : k = ps.length) (hkl : k = l.length)
    (hD : ∀ i, (h : i < ps.length) → Bs w (.slice ps[i].2.1 ps[i].2.2.1 ps[i].2.2.2) (D.getD i []) ∧ (D.getD i []).length = L)
    (hl : Bs w (.slice (some ⟨pb, po, none⟩) k pc) l) (hs : Bs w (.slice (some ⟨sb, so, none⟩) k sc) (scales l)) (hx : x < 256) (hL : L ≤ 1000000) :
    Calls Tryd.prog 65 #[.agg #[.slice (some ⟨b, o, none⟩) k c, .pointer (some ⟨fb, 0, none⟩), .slice (some ⟨pb, po, none⟩) k pc, .slice (some ⟨sb, so, none⟩) k sc], .int .i64 x] w fun e w' => ∃ ob, w.heap.size ≤ ob ∧ e = .returned (.slice (some ⟨ob, 0, none⟩) L L) ∧ Own w' ob (mixL D (wts l (scales l) x) L k) ∧ Below w.heap.size w w' := by
  obtain ⟨a00, c00, g0⟩ : ∃ a0 c0, w.cell? ⟨b, o + 1, none⟩ = some (.slice a0 L c0) := by
    have h1 := (hp.cells 0 (by omega)).2
    have h2 := (hD 0 (by omega)).1.len
    rw [(hD 0 (by omega)).2] at h2
    rw [h2, Nat.zero_mul, Nat.add_zero] at h1
    exact ⟨_, _, h1⟩
  have HD := hid hD
  have HP := hid hp
  have HKP := hid hkp
  have HKL := hid hkl
  clear hD hp hkp hkl
  have hmk := mk_u8 L (by omega)
  have hbb := World.block_lt_of_cell? _ _ g0
  have g1 : ∀ o', (w.alloc o').cell? ⟨b, o + 1, none⟩ = some (.slice a00 L c00) := fun o' => by rw [World.cell?_alloc_past _ _ _ hbb]; exact g0
  have hb0 : Below w.heap.size w ((w.alloc (Obj.cells #[Value.slice (some ⟨b, o, none⟩) k c, Value.pointer (some ⟨fb, 0, none⟩), Value.slice (some ⟨pb, po, none⟩) k pc, Value.slice (some ⟨sb, so, none⟩) k sc] 108)).alloc (zrow L)) := ((Below.refl _ _).alloc (Nat.le_refl _) _).alloc (by simp) _
  have ho0 := own_zrow (w.alloc (Obj.cells #[Value.slice (some ⟨b, o, none⟩) k c, Value.pointer (some ⟨fb, 0, none⟩), Value.slice (some ⟨pb, po, none⟩) k pc, Value.slice (some ⟨sb, so, none⟩) k sc] 108)) L
  rw [World.size_alloc] at ho0
  have hbox : ((w.alloc (Obj.cells #[Value.slice (some ⟨b, o, none⟩) k c, Value.pointer (some ⟨fb, 0, none⟩), Value.slice (some ⟨pb, po, none⟩) k pc, Value.slice (some ⟨sb, so, none⟩) k sc] 108)).alloc (zrow L)).heap[w.heap.size]? = some (Obj.cells #[Value.slice (some ⟨b, o, none⟩) k c, Value.pointer (some ⟨fb, 0, none⟩), Value.slice (some ⟨pb, po, none⟩) k pc, Value.slice (some ⟨sb, so, none⟩) k sc] 108) := heap_alloc (heap_new _ _) _
  have HBOX := hid hbox
  clear hbox g0
  have hl1 := hl.below hb0
  have hs1 := hs.below hb0
  have hB1 := hB.below hb0 hB.lt
  have HWL := hid (fun i => getD_lt (wts_lt l (scales l) x) i)
  have hwn : (wts l (scales l) x).length = k := by rw [wts_length]; exact HKL.out.symm
  have HWN := hid hwn
  have HWA := hid (wts_lt l (scales l) x)
  clear hwn
  go_enter Tryd.func65, Tryd.ntmps65
  go_wp2_with fail
  refine (weights_n fb pb po pc sb so sc k l (scales l) x HKL.out hx _ hB1 hl1 hs1 hk).mono ?_
  rintro e w2 ⟨ob, hob, rfl, how, hb2⟩
  generalize hws : wts l (scales l) x = ws at *
  have HWS := hid hws
  clear hws
  generalize hw1 : (w.alloc (Obj.cells #[Value.slice (some ⟨b, o, none⟩) k c, Value.pointer (some ⟨fb, 0, none⟩), Value.slice (some ⟨pb, po, none⟩) k pc, Value.slice (some ⟨sb, so, none⟩) k sc] 108)).alloc (zrow L) = w1 at *
  clear hw1 g1 hmk hl1 hs1
  have hsz1 : w.heap.size + 1 < w1.heap.size := ho0.lt
  have ho2 := ho0.below hb2 hsz1
  have hB2 := hB1.below hb2 hB1.lt
  have hb3 : Below w.heap.size w w2 := hb0.trans (hb2.mono (by omega))
  have hbox2 := (hb2.block w.heap.size (by omega)).trans HBOX.out
  have HBOX2 := hid hbox2
  have hobs := hob
  clear hbox2 HBOX ho0 hb0 hb2 hB1 hob
  rw [← mixL_zero D ws L] at ho2
  have hobl := how.lt
  go_wp2
  go_loopw [6, 7, 21] (fun _ _ j wr => ∃ i : Nat, i ≤ k ∧ j = .int .i64 i ∧ Own wr (w.heap.size + 1) (mixL D ws L i) ∧ Below w.heap.size w wr ∧ Built wr fb ∧ Own wr ob ws ∧ Hid (wr.heap[w.heap.size]? = some (Obj.cells #[Value.slice (some ⟨b, o, none⟩) k c, Value.pointer (some ⟨fb, 0, none⟩), Value.slice (some ⟨pb, po, none⟩) k pc, Value.slice (some ⟨sb, so, none⟩) k sc] 108))) (fun _ _ j _ => k - (intOf j).toNat)
  case atStart => exact ⟨0, by omega, rfl, ho2, hb3, hB2, how, HBOX2⟩
  case round =>
    clear ho2 hb3 hB2 how HBOX2 hobl
    obtain ⟨i, hi, rfl, ho2, hb3, hB2, how, HBOX2⟩ := hrel
    by_cases hlt : i < k
    · have cw := how.cell i (by rw [HWN.out]; exact hlt)
      have hwl := HWL.out i
      generalize hwi : ws.getD i 0 = wi at *
      by_cases hw0 : wi = 0
      · have hb1 : ((wi : Int) != 0) = false := by simp [hw0]
        have hst := mixL_skip D ws L i (by rw [hwi, hw0])
        have HST := hid hst
        clear hst hw0 hwi
        go_wp2
        refine ⟨⟨i + 1, by omega, by go_num, ?_, hb3, hB2, how, HBOX2⟩, by simp [intOf]; omega⟩
        rw [HST.out]; exact ho2
      · have hb1 : ((wi : Int) != 0) = true := by simp; omega
        have hst := mixL_step D ws L i
        rw [hwi] at hst
        have HST := hid hst
        clear hst hw0 hwi
        have hcp := ((Ps.below HP.out hb3).cells i (by rw [← HKP.out]; exact hlt)).2
        have hdi := HD.out i (by rw [← HKP.out]; exact hlt)
        have hbd := hdi.1.below hb3
        have hlen := hdi.2
        have HD1 := hid hdi.1
        have hbl := hdi.1.len
        generalize ps[i].2.1 = da at *
        generalize ps[i].2.2.1 = dn at *
        generalize ps[i].2.2.2 = dc at *
        rw [hlen] at hbl
        subst hbl
        clear hdi
        have e0 : wr.cell? ⟨w.heap.size, 0, none⟩ = some (Value.slice (some ⟨b, o, none⟩) k c) := cell_of_heap HBOX2.out 0
        have e1 : wr.cell? ⟨w.heap.size, 1, none⟩ = some (Value.pointer (some ⟨fb, 0, none⟩)) := cell_of_heap HBOX2.out 1
        have HCP := hid hcp
        go_wp2
        refine region_quiet_tail 11 (by kernel_rfl) (by kernel_rfl) ?_
        simp only [List.take_succ_cons, List.take_zero, List.drop_succ_cons, List.drop_zero]
        repeat (quiet_step (fail))
        refine wpQuiet_nil ?_
        intro nq
        have hoff : 0 < dn → Off (w.heap.size + 1) (.slice da dn dc) := fun h => (HD1.out).off_ge (by intro e; rw [e] at hlen; simp at hlen; omega) (by omega)
        have hfs : fb ≠ w.heap.size + 1 := by have := hB.lt; omega
        go_wp2_with fail
        refine (addScaled_bs fb (w.heap.size + 1) 0 dn dn (mixL D ws dn i) da dc (D.getD i []) wi _ (hB2.drewN nq) (ho2.drewN nq) hfs (by rw [mixL_length]; omega) (hbd.drewN nq) hoff (by omega) hwl (fun j => getD_lt (mixL_lt D ws dn i HWL.out) j)).mono ?_
        rintro e w3 ⟨rfl, ho3, hk3⟩
        rw [HST.out] at ho3
        have hk4 : Kept (w.heap.size + 1) wr w3 := ⟨hk3.os, hk3.tape, hk3.output, hk3.size, hk3.block⟩
        have hszr : w.heap.size + 1 < wr.heap.size := ho2.lt
        go_wp2
        refine ⟨⟨i + 1, by omega, by go_num, ho3, ?_, ?_, ?_, ?_⟩, by simp [intOf]; omega⟩
        · exact hb3.trans (hk4.below (by omega) (by omega))
        · exact (hk4.block fb hB2.lt hfs).trans hB2
        · exact (hk4.block ob how.lt (by omega)).trans how
        · exact (hk4.block w.heap.size (by omega) (by omega)).trans HBOX2.out
    · obtain rfl : i = k := by omega
      go_wp2
      go_ret
      exact ⟨w.heap.size + 1, by omega, rfl, by rw [HWS.out]; exact ho2, hb3⟩
end Go.Proofs.YtafkjfpmjhfofaaDoor
