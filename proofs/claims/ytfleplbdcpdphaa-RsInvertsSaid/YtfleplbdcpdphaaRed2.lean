/-
  The reference's reduce: Gauss and Jordan's elimination over a table of rows.
-/
import Derived.Test.YtfleplbdcpdphaaRed
import Derived.Test.YtfleplbdcpdphaaMatO
import Derived.Test.YtfleplbdcpdphaaGj2
import Derived.Test.YtfleplbdcpdphaaQT
import Derived.BigQuiet
namespace Go.Proofs.Ytfleplbdcpdphaa
open Go Go.RowKit
set_option linter.unusedVariables false

/-- two matrices side by side -/
def joinM (M N : Nat → Nat → Nat) (C : Nat) : Nat → Nat → Nat := fun i j => if j < C then M i j else N i (j - C)
theorem joinM_lt {M N : Nat → Nat → Nat} (hM : ∀ i j, M i j < 256) (hN : ∀ i j, N i j < 256) (C i j : Nat) : joinM M N C i j < 256 := by
  unfold joinM
  split
  · exact hM _ _
  · exact hN _ _
theorem joinM_row (M N : Nat → Nat → Nat) (C Q i : Nat) : rowL C M i ++ rowL Q N i = (List.range (C + Q)).map (joinM M N C i) := by
  unfold rowL
  rw [List.range_add, List.map_append, List.map_map]
  congr 1
  · apply List.map_congr_left
    intro j hj
    have := List.mem_range.1 hj
    unfold joinM
    rw [if_pos this]
  · apply List.map_congr_left
    intro j hj
    unfold joinM
    show N i j = if C + j < C then M i (C + j) else N i (C + j - C)
    rw [if_neg (by omega), Nat.add_sub_cancel_left]
/-- row i with the multiple f of row r added in the first k places -/
def addTo (M : Nat → Nat → Nat) (i r f k : Nat) : Nat → Nat → Nat := fun a b => if a = i ∧ b < k then M a b ^^^ Gf.tm f (M r b) else M a b
theorem addTo_step (M : Nat → Nat → Nat) (i r f k : Nat) (h : r ≠ i) (a b : Nat) : setM (addTo M i r f k) i k (M i k ^^^ Gf.tm f (M r k)) a b = addTo M i r f (k + 1) a b := by
  unfold setM addTo
  by_cases e : a = i
  · by_cases e2 : b = k
    · subst e; subst e2; simp
    · by_cases e3 : b < k
      · simp [e, e2, e3, show b < k + 1 by omega]
      · simp [e, e2, e3, show ¬ b < k + 1 by omega]
  · simp [e]
theorem addTo_zero (M : Nat → Nat → Nat) (i r f a b : Nat) : addTo M i r f 0 a b = M a b := by unfold addTo; simp
theorem addTo_all (M : Nat → Nat → Nat) (i r f k a b : Nat) (hb : b < k) : addTo M i r f k a b = addRow M i f (M r) a b := by
  unfold addTo addRow
  by_cases e : a = i <;> simp [e, hb]
theorem addTo_at (M : Nat → Nat → Nat) (i r f k : Nat) : addTo M i r f k i k = M i k := by unfold addTo; simp
theorem addTo_other (M : Nat → Nat → Nat) (i r f k b : Nat) (h : r ≠ i) : addTo M i r f k r b = M r b := by unfold addTo; simp [h]
theorem clearTo_atR (M : Nat → Nat → Nat) (r c i b : Nat) : clearTo M r c i i b = M i b := by unfold clearTo; simp
theorem clearTo_piv (M : Nat → Nat → Nat) (r c i b : Nat) : clearTo M r c i r b = M r b := by unfold clearTo; simp
theorem piv_is (R : Nat) (M : Nat → Nat → Nat) (r c p : Nat) (hr : r ≤ R) (h1 : r ≤ p) (h2 : p ≤ R) (h3 : ∀ q, r ≤ q → q < p → M q c = 0) (h4 : p < R → M p c ≠ 0) : piv R M r c = p := by
  obtain ⟨g1, g2, g3, g4⟩ := piv_spec R M r c hr
  rcases Nat.lt_trichotomy (piv R M r c) p with h | h | h
  · exact absurd (h3 _ g1 h) (g4 (by omega))
  · exact h
  · exact absurd (g3 p h1 h) (h4 (by omega))
theorem gj_next (R : Nat) (J : Nat → Nat → Nat) (c p : Nat) (hp : piv R (gj R J c).1 (gj R J c).2 c = p) (h : p < R) :
    gj R J (c + 1) = (clearTo (scaleM (swapM (gj R J c).1 (gj R J c).2 p) (gj R J c).2 (Gf.iv ((gj R J c).1 p c))) (gj R J c).2 c R, (gj R J c).2 + 1) := by
  show gjS R (gj R J c) c = _
  unfold gjS
  rw [hp, if_neg (by omega)]
theorem gj_noneR (R : Nat) (J : Nat → Nat → Nat) (c : Nat) (hp : piv R (gj R J c).1 (gj R J c).2 c = R) : gj R J (c + 1) = gj R J c := by
  show gjS R (gj R J c) c = _
  unfold gjS
  rw [if_pos hp]
theorem bs_nil' (w : World) (a : Option Addr) (c : Nat) : Bs w (.slice a 0 c) [] := ⟨a, c, rfl, fun n hn => absurd hn List.not_mem_nil, fun e => absurd rfl e⟩
theorem rangeG_getD (n : Nat) (f : Nat → Nat) (j : Nat) : ((List.range n).map f).getD j 0 = if j < n then f j else 0 := by
  rw [List.getD_eq_getElem?_getD]
  by_cases h : j < n
  · rw [if_pos h, List.getElem?_map, List.getElem?_range h]; rfl
  · rw [if_neg h, List.getElem?_eq_none (by simpa using h)]; rfl
theorem slice_from (C Q Wd g cp : Nat) (m : Nat → Nat) (w : World) (hWd : Wd = C + Q) (hm : ∀ j, m j < 256) (hB : Buf w g cp ((List.range Wd).map m)) : ∃ sa sc, (∀ w', (Instr.sliceAt 27 (.slice (some ⟨g, 0, none⟩) Wd cp) (some (.int .i64 (C : Int))) none none).run Try.prog w' = .ok (.slice (some sa) Q sc) w') ∧ Bs w (.slice (some sa) Q sc) ((List.range Q).map fun j => m (C + j)) := by
  have hcap : Wd ≤ cp := by have := hB.cap_le; simpa using this
  have u1 : (0 : Int) ≤ (C : Int) := by omega
  have u2 : (C : Int) ≤ (Wd : Int) := by omega
  have u3 : Wd - C = Q := by omega
  by_cases h : cp = C
  · have hQ : Q = 0 := by omega
    subst hQ
    subst h
    refine ⟨⟨g, 0, none⟩, 0, fun w' => ?_, bs_nil' _ _ _⟩
    simp [go_sem, Try.underlying27, u2, u3]
  · refine ⟨⟨g, 0 + C, none⟩, cp - C, fun w' => ?_, ⟨_, cp - C, by rw [List.length_map, List.length_range], fun x hx => ?_, fun _ => ⟨g, 0 + C, rfl, fun i hi => ?_⟩⟩⟩
    · simp [go_sem, Try.underlying27, u1, u2, u3, h]
    · obtain ⟨j, _, rfl⟩ := List.mem_map.1 hx
      exact hm _
    · have hi2 : i < Q := by simpa using hi
      have h1 := hB.cell (C + i) (by simp; omega)
      rw [Nat.zero_add, h1, rangeG_getD, rangeG_getD, if_pos hi2, if_pos (by omega)]
theorem flat_more {R Q i : Nat} (F : Nat → Nat → Nat) (hi : i < R) : (flat R Q F).take (i * Q) ++ (List.range Q).map (F i) = (flat R Q F).take ((i + 1) * Q) := by
  rw [Nat.succ_mul, List.take_add]
  congr 1
  exact (rowL_flat F hi).symm
theorem info27 : (Try.prog.info? 27).map (fun i => (i.zero, i.size, i.bytes)) = some (some (.slice none 0 0), 1, 24) := by kernel_rfl
theorem made_sl (n : Nat) : madeCells #[.slice none 0 0] n = Array.replicate n (Value.slice none 0 0) := by
  apply Array.ext
  · simp [madeCells]
  · intro i h1 h2
    simp [madeCells, Nat.mod_one]
theorem mk_rows (n : Nat) (hn : n ≤ 100000) (w : World) : (Instr.makeSlice 134 (.int .i64 n) (.int .i64 n)).run Try.prog w = .ok (.slice (some ⟨w.heap.size, 0, none⟩) n n) (w.alloc (.cells (Array.replicate n (Value.slice none 0 0)) 27 (0, 0))) := by
  obtain ⟨i0, hi, hz0, hz1, hz2⟩ := info_parts info27
  have h := run_make (P := Try.prog) w 134 27 i0 (.slice none 0 0) Try.underlying134 hi hz0 .i64 .i64 n n (by omega) (by omega) (by rw [hz2]; omega) (by omega)
  rw [h, hz1]
  simp only [Int.toNat_natCast, Nat.mul_one, Value.cells, made_sl]
theorem keepRed {w1 w' : World} {b1 b2 tb : Nat} {x1 x2 x3 y1 y2 y3 : Value} {t1 t2 : TypeId} (h1 : w1.heap[b1]? = some (.cells #[x1, x2, x3] t1 (0, 0))) (h2 : w1.heap[b2]? = some (.cells #[y1, y2, y3] t2 (0, 0))) (hb : Below tb w1 w') (l1 : b1 < tb) (l2 : b2 < tb) :
    w'.cell? ⟨b1, 1, none⟩ = some x2 ∧ w'.cell? ⟨b1, 2, none⟩ = some x3 ∧ w'.cell? ⟨b2, 1, none⟩ = some y2 ∧ w'.cell? ⟨b2, 2, none⟩ = some y3 := by
  have k1 := (hb.block b1 l1).trans h1
  have k2 := (hb.block b2 l2).trans h2
  refine ⟨?_, ?_, ?_, ?_⟩
  · rw [cell_of_heap k1]; rfl
  · rw [cell_of_heap k1]; rfl
  · rw [cell_of_heap k2]; rfl
  · rw [cell_of_heap k2]; rfl

set_option maxRecDepth 100000 in
set_option maxHeartbeats 8000000 in
theorem reduce_ok (R C Q : Nat) (a b : Option Addr) (na nb ca cb : Nat) (A N : Nat → Nat → Nat) (r2 : Int) (w : World) (hR : 1 ≤ R) (hR2 : R ≤ 255) (hC : 1 ≤ C) (hC2 : C ≤ 255) (hQ2 : Q ≤ 255)
    (hna : na = R * C) (hnb : nb = R * Q) (hca : na ≤ ca) (hcb : nb ≤ cb) (hbn : (Q = 0 ∧ b = none ∧ nb = 0 ∧ cb = 0) ∨ 1 ≤ Q) (hAl : ∀ i j, A i j < 256) (hNl : ∀ i j, N i j < 256) (hA : Bs w (.slice a na ca) (flat R C A)) (hB : Bs w (.slice b nb cb) (flat R Q N)) :
    Calls Try.prog 104 #[.agg #[.int .i64 R, .int .i64 C, .slice a na ca], .agg #[.int .i64 r2, .int .i64 Q, .slice b nb cb]] w fun e w' =>
      ∃ oa oc, e = .returned (.tuple #[.int .i64 (gj R (joinM A N C) C).2, .agg #[.int .i64 R, .int .i64 Q, .slice oa (R * Q : Nat) oc]]) ∧ Bs w' (.slice oa (R * Q : Nat) oc) (flat R Q fun i j => (gj R (joinM A N C) C).1 i (C + j)) ∧ (∀ ad, oa = some ad → w.heap.size ≤ ad.block) ∧ Below w.heap.size w w' := by
  obtain ⟨ab, ao, rfl⟩ := hA.some (flat_ne hR hC)
  have hJl := joinM_lt hAl hNl C
  have HJL := hid hJl
  clear hAl hNl hJl
  obtain ⟨w1, hw1⟩ : ∃ w1, w1 = ((w.alloc (Obj.cells #[.int .i64 R, .int .i64 C, .slice (some ⟨ab, ao, none⟩) na ca] 52)).alloc (Obj.cells #[.int .i64 r2, .int .i64 Q, .slice b nb cb] 52)).alloc (Obj.cells #[.int .i64 0, .int .i64 0, .slice none 0 0] 52) := ⟨_, rfl⟩
  have hbel : Below w.heap.size w w1 := by rw [hw1]; exact (((Below.refl _ _).alloc (Nat.le_refl _) _).alloc (by simp) _).alloc (by simp; omega) _
  have h0 : w1.heap[w.heap.size]? = some (Obj.cells #[.int .i64 R, .int .i64 C, .slice (some ⟨ab, ao, none⟩) na ca] 52) := by rw [hw1]; exact heap_alloc (heap_alloc (heap_new _ _) _) _
  have h1 : w1.heap[w.heap.size + 1]? = some (Obj.cells #[.int .i64 r2, .int .i64 Q, .slice b nb cb] 52) := by
    rw [hw1]
    have h5 := heap_new (w.alloc (Obj.cells #[.int .i64 R, .int .i64 C, .slice (some ⟨ab, ao, none⟩) na ca] 52)) (Obj.cells #[.int .i64 r2, .int .i64 Q, .slice b nb cb] 52)
    rw [World.size_alloc] at h5
    exact heap_alloc h5 _
  have h2 : w1.heap[w.heap.size + 2]? = some (Obj.cells #[.int .i64 0, .int .i64 0, .slice none 0 0] 52) := by
    rw [hw1]
    have h5 := heap_new ((w.alloc (Obj.cells #[.int .i64 R, .int .i64 C, .slice (some ⟨ab, ao, none⟩) na ca] 52)).alloc (Obj.cells #[.int .i64 r2, .int .i64 Q, .slice b nb cb] 52)) (Obj.cells #[.int .i64 0, .int .i64 0, .slice none 0 0] 52)
    rw [World.size_alloc, World.size_alloc] at h5
    exact h5
  have hs1 : w1.heap.size = w.heap.size + 3 := by rw [hw1]; simp
  obtain ⟨c0, c1, c2, _, _, _⟩ := c3_of h0
  obtain ⟨d0, d1, d2, _, _, _⟩ := c3_of h1
  have H0 := hid h0
  have H1 := hid h1
  have H2 := hid h2
  have HS := hid hs1
  have HNA := hid hna
  have HNB := hid hnb
  have HA := hid hA
  have HB := hid hB
  have HBEL := hid hbel
  obtain ⟨Wd, hWd⟩ : ∃ Wd, Wd = C + Q := ⟨_, rfl⟩
  have hwd : (C : Int) + (Q : Int) = (Wd : Int) := by omega
  have HWD := hid hWd
  have hmk := mk_rows R (by omega)
  clear h0 h1 h2 hs1 hna hnb hA hB hbel hWd
  go_enter Try.func104, Try.ntmps104
  go_wp2_with fail
  rw [← hw1]
  clear hw1
  go_quiet (fail)
  obtain ⟨w2, hw2⟩ : ∃ w2, w2 = w1.drewN nq := ⟨_, rfl⟩
  rw [← hw2]
  have hb12 : Below w1.heap.size w1 w2 := by rw [hw2]; exact bel_drewN (Below.refl _ _) _
  have hs2 : w2.heap.size = w.heap.size + 3 := by rw [hw2]; exact HS.out
  clear hw2
  go_wp2
  obtain ⟨tb, htb⟩ : ∃ tb, tb = w.heap.size + 3 := ⟨_, rfl⟩
  have hb1 : w.heap.size < tb := by omega
  have hb2 : w.heap.size + 1 < tb := by omega
  have hb3 : w.heap.size + 2 < tb := by omega
  have HZ := hid (RowsI.zero tb R Wd (joinM A N C) (w2.alloc (.cells (Array.replicate R (Value.slice none 0 0)) 27 (0, 0))) (by rw [htb, ← hs2]; exact heap_new _ _))
  have HBZ := hid (show Below tb w1 (w2.alloc (.cells (Array.replicate R (Value.slice none 0 0)) 27 (0, 0))) from by
    have := hb12.alloc hb12.size (.cells (Array.replicate R (Value.slice none 0 0)) 27 (0, 0))
    rwa [show w1.heap.size = tb from by have := HS.out; omega] at this)
  rw [← htb]
  have HTB := hid htb
  clear hb12 htb
  go_loopw [9] (fun iv wr => ∃ (i : Nat) (g cp : Nat → Nat), i ≤ R ∧ iv = .int .i64 i ∧ Hid (RowsI tb R Wd i (joinM A N C) g cp wr) ∧ Hid (Below tb w1 wr)) (fun iv _ => R - (intOf iv).toNat)
  case atStart => exact ⟨0, _, _, by omega, rfl, HZ, HBZ⟩
  case round =>
    clear HZ HBZ
    obtain ⟨i, g, cp, hi, rfl, HR, HB1⟩ := hrel
    by_cases hlt : i < R
    · obtain ⟨p, hp⟩ : ∃ p, p = i * C := ⟨_, rfl⟩
      obtain ⟨q, hq⟩ : ∃ q, q = i * Q := ⟨_, rfl⟩
      obtain ⟨pe, hpe⟩ : ∃ p, p = (i + 1) * C := ⟨_, rfl⟩
      obtain ⟨qe, hqe⟩ : ∃ q, q = (i + 1) * Q := ⟨_, rfl⟩
      have m1 := mul_nat hp.symm
      have m2 := mul_nat hq.symm
      have m3 := mul_nat hpe.symm
      have m4 := mul_nat hqe.symm
      have e1 : pe = p + C := by rw [hpe, hp, Nat.succ_mul]
      have e2 : qe = q + Q := by rw [hqe, hq, Nat.succ_mul]
      have l1 : pe ≤ na := by rw [hpe, HNA.out]; exact Nat.mul_le_mul_right C hlt
      have l2 : qe ≤ nb := by rw [hqe, HNB.out]; exact Nat.mul_le_mul_right Q hlt
      have hra : Bs w (.slice (some ⟨ab, ao + p, none⟩) C (ca - p)) (rowL C A i) := by rw [hp]; exact HA.out.row i hlt _
      have HRA := hid hra
      rw [show ((i + 1 : Nat) : Int) = (i : Int) + 1 from rfl] at m3 m4
      have hK := fun w' hb => keepRed (w' := w') H0.out H1.out hb hb1 hb2
      have HK := hid hK
      have HP := hid hp
      have HQ := hid hq
      clear hra hK hp hq hpe hqe
      obtain ⟨k1, k2, k3, k4⟩ := HK.out wr HB1.out
      rcases hbn with ⟨h1, h2, h3, h4⟩ | hQ1
      · subst h2
        have HQ0 := hid h1
        subst h3
        subst h4
        have qz : q = 0 := by rw [HQ.out, h1, Nat.mul_zero]
        have qez : qe = 0 := by omega
        have u1 : (0 : Int) ≤ (p : Int) := by omega
        have u2 : (p : Int) ≤ (pe : Int) := by omega
        have u3 : (pe : Int) ≤ (ca : Int) := by omega
        have z1 : na ≤ 65025 := by rw [HNA.out]; exact Nat.mul_le_mul hR2 hC2
        have v0 : IntKind.i64.wrap ((i : Int) + 1) = (i : Int) + 1 := by rw [IntKind.wrap_i64]; omega
        have v1 : IntKind.i64.wrap (p : Int) = (p : Int) := by rw [IntKind.wrap_i64]; omega
        have v2 : IntKind.i64.wrap (pe : Int) = (pe : Int) := by rw [IntKind.wrap_i64]; omega
        have x1 : ¬ ca = p := by omega
        have x3 : pe - p = C := by omega
        have y1 : ∀ w, (Instr.sliceAt 27 (.slice (some ⟨ab, ao, none⟩) na ca) (some (.int .i64 (p : Int))) (some (.int .i64 (pe : Int))) none).run Try.prog w = .ok (.slice (some ⟨ab, ao + p, none⟩) C (ca - p)) w := by
          intro w
          simp [go_sem, Try.underlying27, u1, u2, u3, x1, x3]
        have y2 : ∀ w, (Instr.sliceAt 27 (.slice none 0 0) (some (.int .i64 (q : Int))) (some (.int .i64 (qe : Int))) none).run Try.prog w = .ok (.slice none 0 0) w := by
          intro w
          rw [qz, qez]
          simp [go_sem, Try.underlying27]
        have v3 : IntKind.i64.wrap (q : Int) = (q : Int) := by rw [IntKind.wrap_i64]; omega
        have v4 : IntKind.i64.wrap (qe : Int) = (qe : Int) := by rw [IntKind.wrap_i64]; omega
        have HRN := hid (show rowL Q N i = [] from by rw [h1]; rfl)
        have HC0 := hid (show C + 0 = Wd from by have := HWD.out; omega)
        have HO0 := hid (show (wr.alloc (.cells #[] 5)).ownsRow wr.heap.size 5 1 (.slice (some ⟨wr.heap.size, 0, none⟩) 0 0) 0 (u8s []) from ⟨rfl, .inr ⟨wr.heap.size, 0, #[], rfl, Nat.le_refl _, heap_new _ _, Nat.le_refl _, Nat.zero_le _, rfl, rfl⟩⟩)
        have hww : Below w.heap.size w wr := HBEL.out.trans (HB1.out.mono (by omega))
        have HRA2 := hid (HRA.out.below hww)
        have HT0 := hid (show wr.cell? ⟨tb, i, none⟩ = some (.slice none 0 0) from by rw [cell_of_heap HR.out.tab]; simp [hlt])
        clear hww
        clear u1 u2 u3 x1 x3 l1 l2 e1 e2 qz qez h1
        go_wp2
        go_region_held3 (fun w' => w'.cell? ⟨w.heap.size, 1, none⟩ = some (.int .i64 C) ∧ w'.cell? ⟨w.heap.size, 2, none⟩ = some (.slice (some ⟨ab, ao, none⟩) na ca) ∧ w'.cell? ⟨w.heap.size + 1, 1, none⟩ = some (.int .i64 Q) ∧ w'.cell? ⟨w.heap.size + 1, 2, none⟩ = some (.slice none 0 0))
          (first | with_reducible exact HK.out _ HB5.out | exact HK.out _ HB1.out | exact HK.out _ (bel_drewN HB1.out 1) | exact HK.out _ (bel_drewN (HB1.out.alloc (by have := HR.out.lt; omega) _) 1) | exact HK.out _ ((bel_drewN HB1.out 1).alloc (by have := HR.out.lt; exact Nat.le_of_lt this) _) | exact HK.out _ (HB1.out.trans (hbB.mono (by have := HR.out.lt; omega))) | exact HK.out _ (HB1.out.trans (hbA.mono (by have := HR.out.lt; omega))))
          (first
            | (refine step_own_more (by rfl) (.tmp 37) (.tmp 49) (by rfl) wr.heap.size 0 (.slice (some ⟨wr.heap.size, 0, none⟩) 0 0) [] (by rfl) HO0.out (some ⟨ab, ao + p, none⟩) C (ca - p) (rowL C A i) (by rfl) (by first | exact (HRA2.out.alloc _).drewN 1 | exact (HRA2.out.drewN 1).alloc _) (fun h => by cases h) (by omega) (by simp) ?_
               intro v50 wA hownA hgA
               have hbA : Below wr.heap.size wr wA := by first | exact (bel_drewN ((Below.refl _ _).alloc (Nat.le_refl _) (.cells #[] 5)) 1).grown hgA (by simp) (fun g hg => Nat.le_of_eq (Option.some.inj hg)) | exact ((bel_drewN (Below.refl _ _) 1).alloc (Nat.le_refl _) (.cells #[] 5)).grown hgA (by simp) (fun g hg => Nat.le_of_eq (Option.some.inj hg))
               rw [Nat.zero_add, List.nil_append] at hownA
               have HOA := hid hownA)
            | (refine step_own_more (by rfl) (.tmp 50) (.tmp 62) (by rfl) wr.heap.size C v50 (rowL C A i) (by rfl) HOA.out none 0 0 (rowL Q N i) (by rfl) (by rw [HRN.out]; exact bs_nil _) (fun _ => rfl) (by omega) (by exact hbA.size) ?_
               intro v63 wB hownB hgB
               rw [joinM_row, ← HWD.out, HC0.out] at hownB
               have hbB : Below wr.heap.size wr wB := hbA.grown hgB (by exact hbA.size) (fun g hg => (HOA.out.lt g hg).1)
               obtain ⟨gb, gc, rfl, hgb, hBF⟩ := buf_of_ownsR hownB (by omega)
               have HBF := hid hBF
               have HBB := hid hbB
               have HB5 := hid ((HB1.out.trans (hbB.mono (Nat.le_of_lt HR.out.lt))).setCell (p := ⟨tb, i, none⟩) (Nat.le_refl _) (.slice (some ⟨gb, 0, none⟩) Wd gc))
               have t0 := (hbB.cell (p := ⟨tb, i, none⟩) HR.out.lt).trans HT0.out
               have t1 : wB.frozen? ⟨tb, i, none⟩ = false := free_of_heap ((hbB.block tb HR.out.lt).trans HR.out.tab) i))
        all_goals
          have hM := HR.out.more hbB gb gc hgb HBF.out hlt
          have HM := hid hM
          clear hM t0 t1 hbB
          go_wp2
          go_roundw
          case rel => exact ⟨i + 1, _, _, by omega, by go_num, HM, HB5⟩
          case measure => simp [intOf]; omega
      · obtain ⟨bb, bo, rfl⟩ := HB.out.some (flat_ne hR hQ1)
        have hrb : Bs w (.slice (some ⟨bb, bo + q, none⟩) Q (cb - q)) (rowL Q N i) := by rw [HQ.out]; exact HB.out.row i hlt _
        have HRB := hid hrb
        have u1 : (0 : Int) ≤ (p : Int) := by omega
        have u2 : (p : Int) ≤ (pe : Int) := by omega
        have u3 : (pe : Int) ≤ (ca : Int) := by omega
        have u4 : (0 : Int) ≤ (q : Int) := by omega
        have u5 : (q : Int) ≤ (qe : Int) := by omega
        have u6 : (qe : Int) ≤ (cb : Int) := by omega
        have z1 : na ≤ 65025 := by rw [HNA.out]; exact Nat.mul_le_mul hR2 hC2
        have z2 : nb ≤ 65025 := by rw [HNB.out]; exact Nat.mul_le_mul hR2 hQ2
        have v0 : IntKind.i64.wrap ((i : Int) + 1) = (i : Int) + 1 := by rw [IntKind.wrap_i64]; omega
        have v1 : IntKind.i64.wrap (p : Int) = (p : Int) := by rw [IntKind.wrap_i64]; omega
        have v2 : IntKind.i64.wrap (pe : Int) = (pe : Int) := by rw [IntKind.wrap_i64]; omega
        have v3 : IntKind.i64.wrap (q : Int) = (q : Int) := by rw [IntKind.wrap_i64]; omega
        have v4 : IntKind.i64.wrap (qe : Int) = (qe : Int) := by rw [IntKind.wrap_i64]; omega
        have x1 : ¬ ca = p := by omega
        have x2 : ¬ cb = q := by omega
        have x3 : pe - p = C := by omega
        have x4 : qe - q = Q := by omega
        have y1 : ∀ w, (Instr.sliceAt 27 (.slice (some ⟨ab, ao, none⟩) na ca) (some (.int .i64 (p : Int))) (some (.int .i64 (pe : Int))) none).run Try.prog w = .ok (.slice (some ⟨ab, ao + p, none⟩) C (ca - p)) w := by
          intro w
          simp [go_sem, Try.underlying27, u1, u2, u3, x1, x3]
        have y2 : ∀ w, (Instr.sliceAt 27 (.slice (some ⟨bb, bo, none⟩) nb cb) (some (.int .i64 (q : Int))) (some (.int .i64 (qe : Int))) none).run Try.prog w = .ok (.slice (some ⟨bb, bo + q, none⟩) Q (cb - q)) w := by
          intro w
          simp [go_sem, Try.underlying27, u4, u5, u6, x2, x4]
        have HO0 := hid (show (wr.alloc (.cells #[] 5)).ownsRow wr.heap.size 5 1 (.slice (some ⟨wr.heap.size, 0, none⟩) 0 0) 0 (u8s []) from ⟨rfl, .inr ⟨wr.heap.size, 0, #[], rfl, Nat.le_refl _, heap_new _ _, Nat.le_refl _, Nat.zero_le _, rfl, rfl⟩⟩)
        have hww : Below w.heap.size w wr := HBEL.out.trans (HB1.out.mono (by omega))
        have HRA2 := hid (HRA.out.below hww)
        have HRB2 := hid (HRB.out.below hww)
        have HT0 := hid (show wr.cell? ⟨tb, i, none⟩ = some (.slice none 0 0) from by rw [cell_of_heap HR.out.tab]; simp [hlt])
        clear hww
        clear hrb u1 u2 u3 u4 u5 u6 x1 x2 x3 x4 l1 l2 e1 e2
        go_wp2
        go_region_held3 (fun w' => w'.cell? ⟨w.heap.size, 1, none⟩ = some (.int .i64 C) ∧ w'.cell? ⟨w.heap.size, 2, none⟩ = some (.slice (some ⟨ab, ao, none⟩) na ca) ∧ w'.cell? ⟨w.heap.size + 1, 1, none⟩ = some (.int .i64 Q) ∧ w'.cell? ⟨w.heap.size + 1, 2, none⟩ = some (.slice (some ⟨bb, bo, none⟩) nb cb))
          (first | with_reducible exact HK.out _ HB5.out | exact HK.out _ HB1.out | exact HK.out _ (bel_drewN HB1.out 1) | exact HK.out _ (bel_drewN (HB1.out.alloc (by have := HR.out.lt; omega) _) 1) | exact HK.out _ ((bel_drewN HB1.out 1).alloc (by have := HR.out.lt; exact Nat.le_of_lt this) _) | exact HK.out _ (HB1.out.trans (hbB.mono (by have := HR.out.lt; omega))) | exact HK.out _ (HB1.out.trans (hbA.mono (by have := HR.out.lt; omega))))
          (first
            | (refine step_own_more (by rfl) (.tmp 37) (.tmp 49) (by rfl) wr.heap.size 0 (.slice (some ⟨wr.heap.size, 0, none⟩) 0 0) [] (by rfl) HO0.out (some ⟨ab, ao + p, none⟩) C (ca - p) (rowL C A i) (by rfl) (by first | exact (HRA2.out.alloc _).drewN 1 | exact (HRA2.out.drewN 1).alloc _) (fun h => by cases h) (by omega) (by simp) ?_
               intro v50 wA hownA hgA
               have hbA : Below wr.heap.size wr wA := by first | exact (bel_drewN ((Below.refl _ _).alloc (Nat.le_refl _) (.cells #[] 5)) 1).grown hgA (by simp) (fun g hg => Nat.le_of_eq (Option.some.inj hg)) | exact ((bel_drewN (Below.refl _ _) 1).alloc (Nat.le_refl _) (.cells #[] 5)).grown hgA (by simp) (fun g hg => Nat.le_of_eq (Option.some.inj hg))
               rw [Nat.zero_add, List.nil_append] at hownA
               have HOA := hid hownA)
            | (refine step_own_more (by rfl) (.tmp 50) (.tmp 62) (by rfl) wr.heap.size C v50 (rowL C A i) (by rfl) HOA.out (some ⟨bb, bo + q, none⟩) Q (cb - q) (rowL Q N i) (by rfl) (HRB2.out.below hbA) (fun h => by cases h) (by omega) (by exact hbA.size) ?_
               intro v63 wB hownB hgB
               rw [joinM_row, ← HWD.out] at hownB
               have hbB : Below wr.heap.size wr wB := hbA.grown hgB (by exact hbA.size) (fun g hg => (HOA.out.lt g hg).1)
               obtain ⟨gb, gc, rfl, hgb, hBF⟩ := buf_of_ownsR hownB (by omega)
               have HBF := hid hBF
               have HBB := hid hbB
               have HB5 := hid ((HB1.out.trans (hbB.mono (Nat.le_of_lt HR.out.lt))).setCell (p := ⟨tb, i, none⟩) (Nat.le_refl _) (.slice (some ⟨gb, 0, none⟩) Wd gc))
               have t0 := (hbB.cell (p := ⟨tb, i, none⟩) HR.out.lt).trans HT0.out
               have t1 : wB.frozen? ⟨tb, i, none⟩ = false := free_of_heap ((hbB.block tb HR.out.lt).trans HR.out.tab) i))
        all_goals
          have hM := HR.out.more hbB gb gc hgb HBF.out hlt
          have HM := hid hM
          clear hM t0 t1 hbB
          go_wp2
          go_roundw
          case rel => exact ⟨i + 1, _, _, by omega, by go_num, HM, HB5⟩
          case measure => simp [intOf]; omega
    · obtain rfl : R = i := by omega
      clear hi hlt
      generalize hJ : joinM A N C = J at *
      have HJ := hid hJ
      clear hJ
      have HR0 := HR
      have HB0 := HB1
      clear HR HB1
      go_wp2
      go_loopw [10, 11] (fun rv cv wr => ∃ (c : Nat) (g cp : Nat → Nat), c ≤ C ∧ cv = .int .i64 c ∧ rv = .int .i64 ((gj R J c).2 : Nat) ∧ Hid (RowsI tb R Wd R (gj R J c).1 g cp wr) ∧ Hid (Below tb w1 wr)) (fun _ cv _ => C - (intOf cv).toNat)
      case atStart => exact ⟨0, g, cp, by omega, rfl, rfl, HR0, HB0⟩
      case round =>
        clear HR0 HB0
        obtain ⟨c, g, cp, hc, rfl, rfl, HR, HB1⟩ := hrel
        have hGl := gj_lt HJL.out R c
        obtain ⟨hrR, hrc⟩ := gj_le R J c
        have HN := hid (fun p (hp : piv R (gj R J c).1 (gj R J c).2 c = p) (h : p < R) => gj_next R J c p hp h)
        have HNo := hid (gj_noneR R J c)
        have HFull := hid (gj_full R J c)
        generalize hM : (gj R J c).1 = M at *
        generalize hrk : (gj R J c).2 = rk at *
        have HM := hid hM
        have HRK := hid hrk
        clear hM hrk
        obtain ⟨k1, k2, k3, k4⟩ := keepRed H0.out H1.out HB1.out hb1 hb2
        by_cases hcr : c < C ∧ rk < R
        · obtain ⟨hcc, hrr⟩ := hcr
          · go_wp2
            go_loop [12] (fun pv => ∃ p : Nat, rk ≤ p ∧ p ≤ R ∧ pv = .int .i64 p ∧ Hid (∀ q, rk ≤ q → q < p → M q c = 0)) (fun pv => R - (intOf pv).toNat)
            case atStart => exact ⟨rk, Nat.le_refl _, hrR, rfl, hid (fun q h1 h2 => by omega)⟩
            case round =>
              obtain ⟨p, hp1, hp2, rfl, HZ⟩ := hrel
              by_cases hpR : p < R
              · have t1 := HR.out.get p hpR hpR
                have t2 := HR.out.cell p c hpR (by have := HWD.out; omega)
                have hcw : c < Wd := by have := HWD.out; omega
                by_cases hz : M p c = 0
                · have q1 : (((M p c : Nat) : Int) == 0) = true := by simp [hz]
                  have HZ2 := hid (show ∀ q, rk ≤ q → q < p + 1 → M q c = 0 from fun q h1 h2 => by
                    by_cases e : q = p
                    · rw [e]; exact hz
                    · exact HZ.out q h1 (by omega))
                  clear hz
                  generalize M p c = x at *
                  go_wp2
                  exact ⟨⟨p + 1, by omega, by omega, by go_num, HZ2⟩, by simp [intOf]; omega⟩
                · have q1 : (((M p c : Nat) : Int) == 0) = false := by simp; omega
                  have HPV := hid (HN.out p (piv_is R M rk c p hrR hp1 hp2 HZ.out (fun _ => hz)) hpR)
                  have HXZ := hid hz
                  have hxl := hGl p c
                  have q2 : ((p : Int) == (R : Int)) = false := by simp; omega
                  have s0 := HR.out.get rk hrr hrr
                  have s1 := HR.out.tfree p
                  have s2 : (wr.setCell ⟨tb, p, none⟩ (.slice (some ⟨g rk, 0, none⟩) Wd (cp rk))).cell? ⟨tb, rk, none⟩ = some (.slice (some ⟨g rk, 0, none⟩) Wd (cp rk)) := by
                    have h6 := heap_set HR.out.tab p (.slice (some ⟨g rk, 0, none⟩) Wd (cp rk))
                    rw [cell_of_heap h6, List.setIfInBounds_toArray, map_set']
                    by_cases e : rk = p
                    · subst e; simp [hrr]
                    · simp [hrr, e]
                  have s3 : (wr.setCell ⟨tb, p, none⟩ (.slice (some ⟨g rk, 0, none⟩) Wd (cp rk))).frozen? ⟨tb, rk, none⟩ = false := free_of_heap (heap_set HR.out.tab p (.slice (some ⟨g rk, 0, none⟩) Wd (cp rk))) rk
                  have hsw := HR.out.swap rk p hrr hpR
                  have hsb := (HB1.out.setCell (p := ⟨tb, p, none⟩) (Nat.le_refl _) (.slice (some ⟨g rk, 0, none⟩) Wd (cp rk))).setCell (p := ⟨tb, rk, none⟩) (Nat.le_refl _) (.slice (some ⟨g p, 0, none⟩) Wd (cp p))
                  obtain ⟨w6, hw6⟩ : ∃ w6, w6 = (wr.setCell ⟨tb, p, none⟩ (.slice (some ⟨g rk, 0, none⟩) Wd (cp rk))).setCell ⟨tb, rk, none⟩ (.slice (some ⟨g p, 0, none⟩) Wd (cp p)) := ⟨_, rfl⟩
                  rw [← hw6] at hsw hsb
                  have hg6 : (fun i => if i = rk then g p else if i = p then g rk else g i) rk = g p := by simp
                  have hc6 : (fun i => if i = rk then cp p else if i = p then cp rk else cp i) rk = cp p := by simp
                  generalize (fun i => if i = rk then g p else if i = p then g rk else g i) = g6 at *
                  generalize (fun i => if i = rk then cp p else if i = p then cp rk else cp i) = cp6 at *
                  have hsl := swapM_lt hGl rk p
                  have u1 := hsw.cell rk c hrr hcw
                  rw [hg6, show swapM M rk p rk c = M p c from by simp [swapM]] at u1
                  rw [hw6] at u1
                  have HW6 := hid hw6
                  have HSW := hid hsw
                  have HSB := hid hsb
                  have HG6 := hid hg6
                  have HC6 := hid hc6
                  have HSL := hid hsl
                  clear hsw hsb hg6 hc6 hsl hz hGl hw6
                  generalize hM6 : swapM M rk p = M6 at *
                  generalize hx : M p c = x at *
                  clear hM6 hx
                  generalize g p = gp at *
                  generalize cp p = cpp at *
                  generalize g rk = gk at *
                  generalize cp rk = cpk at *
                  go_wp2_with fail
                  rw [← HW6.out]
                  refine (Over_nz x hxl HXZ.out _).mono ?_
                  rintro e w' ⟨rfl, rfl⟩
                  clear q1 q2 s0 s1 s2 s3 u1 t1 t2 HW6
                  have hil := Gf.iv_lt x
                  generalize Gf.iv x = s at *
                  have hsc0 : RowsI tb R Wd R (scTo M6 rk s 0) g6 cp6 w6 := HSW.out.congr fun a b _ _ => by unfold scTo; simp
                  have HSC := hid hsc0
                  clear hsc0
                  go_wp2
                  go_loopw [15] (fun jv wq => ∃ j : Nat, j ≤ Wd ∧ jv = .int .i64 j ∧ Hid (RowsI tb R Wd R (scTo M6 rk s j) g6 cp6 wq) ∧ Hid (Below tb w1 wq)) (fun jv _ => Wd - (intOf jv).toNat)
                  case atStart => exact ⟨0, by omega, rfl, HSC, HSB⟩
                  case round =>
                    clear HSC HSB
                    obtain ⟨j, hj, rfl, HSC, HSB⟩ := hrel
                    by_cases hjl : j < Wd
                    · have v1 := HSC.out.cell rk j hrr hjl
                      rw [scTo_at, HG6.out] at v1
                      have v2 := HSC.out.free rk j hrr
                      rw [HG6.out] at v2
                      have hml := HSL.out rk j
                      have hst := HSC.out.set rk j (Gf.tm (M6 rk j) s) hrr hjl
                      rw [HG6.out] at hst
                      have HST := hid (hst.congr fun a b _ _ => scTo_step M6 rk s j a b)
                      have HSB2 := hid (HSB.out.setCell (p := ⟨gp, j, none⟩) (by have := HSC.out.low rk hrr; rw [HG6.out] at this; exact Nat.le_of_lt this) (.int .u8 ((Gf.tm (M6 rk j) s : Nat) : Int)))
                      clear hst
                      generalize M6 rk j = y at *
                      go_wp2_with fail
                      refine (Times_any y s hml hil _).mono ?_
                      rintro e w' ⟨rfl, rfl⟩
                      go_wp2
                      exact ⟨⟨j + 1, by omega, by go_num, HST, HSB2⟩, by simp [intOf]; omega⟩
                    · obtain rfl : Wd = j := by omega
                      clear hj hjl
                      have h7 := HSC.out.congr fun a b _ hb => scTo_all M6 rk s a b hb
                      have hM7l := scaleM_lt HSL.out rk s
                      generalize hM7 : scaleM M6 rk s = M7 at *
                      have H7 := hid (h7.congr (N := clearTo M7 rk c 0) fun a b _ _ => (clearTo_zero M7 rk c a b).symm)
                      have HM7 := hid hM7
                      have HM7L := hid hM7l
                      clear h7 hM7 hM7l HSC
                      go_wp2
                      go_loopw [16] (fun iv wq => ∃ i : Nat, i ≤ R ∧ iv = .int .i64 i ∧ Hid (RowsI tb R Wd R (clearTo M7 rk c i) g6 cp6 wq) ∧ Hid (Below tb w1 wq)) (fun iv _ => R - (intOf iv).toNat)
                      case atStart => exact ⟨0, by omega, rfl, H7, HSB⟩
                      case round =>
                        clear H7 HSB
                        obtain ⟨i, hi, rfl, H7, HSB⟩ := hrel
                        by_cases hiR : i < R
                        · have v1 := H7.out.get i hiR hiR
                          have v2 := H7.out.cell i c hiR hcw
                          rw [clearTo_atR] at v2
                          by_cases hir : i = rk
                          · have q1 : ((i : Int) == (rk : Int)) = true := by simp [hir]
                            have HN7 := hid (H7.out.congr (N := clearTo M7 rk c (i + 1)) fun a b _ _ => by rw [hir]; exact (clearTo_skip M7 rk c a b).symm)
                            clear hir
                            generalize M7 i c = y at *
                            go_wp2
                            exact ⟨⟨i + 1, by omega, by go_num, HN7, HSB⟩, by simp [intOf]; omega⟩
                          · have q1 : ((i : Int) == (rk : Int)) = false := by simp; omega
                            by_cases hy0 : M7 i c = 0
                            · have q2 : (((M7 i c : Nat) : Int) == 0) = true := by simp [hy0]
                              have HN7 := hid (H7.out.congr (N := clearTo M7 rk c (i + 1)) fun a b _ _ => (clearTo_zeroF M7 rk c i hy0 a b).symm)
                              clear hy0
                              generalize M7 i c = y at *
                              go_wp2
                              exact ⟨⟨i + 1, by omega, by go_num, HN7, HSB⟩, by simp [intOf]; omega⟩
                            · have q2 : (((M7 i c : Nat) : Int) == 0) = false := by simp; omega
                              have hyl := HM7L.out i c
                              have HSTEP := hid (clearTo_step M7 rk c i hir)
                              have hnp : rk ≠ i := fun e => hir e.symm
                              clear hy0 hir
                              generalize hy : M7 i c = y at *
                              clear hy
                              have h8 := hid (H7.out.congr (N := addTo (clearTo M7 rk c i) i rk y 0) fun a b _ _ => (addTo_zero _ _ _ _ a b).symm)
                              have hKl : ∀ a b, clearTo M7 rk c i a b < 256 := clearTo_lt HM7L.out rk c i
                              have hK1 := hid (fun b => clearTo_piv M7 rk c i b)
                              generalize hK : clearTo M7 rk c i = K at *
                              have HKL := hid hKl
                              have HKE := hid hK
                              clear hK hKl
                              go_wp2
                              clear v1 v2 q1 q2
                              go_loopw [18] (fun jv wq => ∃ j : Nat, j ≤ Wd ∧ jv = .int .i64 j ∧ Hid (RowsI tb R Wd R (addTo K i rk y j) g6 cp6 wq) ∧ Hid (Below tb w1 wq)) (fun jv _ => Wd - (intOf jv).toNat)
                              case atStart => exact ⟨0, by omega, rfl, h8, HSB⟩
                              case round =>
                                clear h8 HSB H7
                                obtain ⟨j, hj, rfl, H8, HSB⟩ := hrel
                                by_cases hjl : j < Wd
                                · have v1 := H8.out.get i hiR hiR
                                  have v2 := H8.out.cell i j hiR hjl
                                  rw [addTo_at] at v2
                                  have v3 := H8.out.cell rk j hrr hjl
                                  rw [addTo_other _ _ _ _ _ _ hnp, HG6.out] at v3
                                  have v4 := H8.out.free i j hiR
                                  have hzl := HKL.out i j
                                  have hpl := HKL.out rk j
                                  have HST := hid (fun nq => ((H8.out.drewN nq).set i j (K i j ^^^ Gf.tm y (K rk j)) hiR hjl).congr fun a b _ _ => addTo_step K i rk y j hnp a b)
                                  have hlow := H8.out.low i hiR
                                  have hxo := u8_xor_nat (K i j) (Gf.tm y (K rk j)) hzl (Gf.tm_lt _ _ hyl)
                                  clear H8
                                  generalize K i j = z at *
                                  generalize K rk j = pz at *
                                  generalize g6 i = gi at *
                                  go_wp2
                                  refine region_quiet_tail 15 (by kernel_rfl) (by kernel_rfl) ?_
                                  simp only [List.take_succ_cons, List.take_zero, List.drop_succ_cons, List.drop_zero]
                                  repeat (quiet_step ((go_at_call 48; exact Calls.quiet_of_same ((Times_any y pz hyl hpl _).mono fun e w' h => ⟨h.1, h.2.symm⟩))))
                                  refine wpQuiet_nil ?_
                                  intro nq
                                  go_wp2
                                  exact ⟨⟨j + 1, by omega, by go_num, hid (HST.out nq), hid ((bel_drewN HSB.out nq).setCell (p := ⟨gi, j, none⟩) (Nat.le_of_lt hlow) _)⟩, by simp [intOf]; omega⟩
                                · obtain rfl : Wd = j := by omega
                                  have h9 := H8.out.congr (N := clearTo M7 rk c (i + 1)) fun a b _ hb => by
                                    rw [addTo_all _ _ _ _ _ _ _ hb, ← HSTEP.out, ← HKE.out]
                                    unfold addRow
                                    rw [HKE.out]
                                    by_cases e : a = i
                                    · rw [if_pos e, if_pos e, hK1.out]
                                    · rw [if_neg e, if_neg e]
                                  have H9 := hid h9
                                  clear h9 H8
                                  go_wp2
                                  exact ⟨⟨i + 1, by omega, by go_num, H9, HSB⟩, by simp [intOf]; omega⟩
                        · obtain rfl : R = i := by omega
                          have hne := HPV.out
                          have H10 := hid (show RowsI tb R Wd R (gj R J (c + 1)).1 g6 cp6 wr from by rw [hne]; exact H7.out)
                          have HR10 := hid (show ((gj R J (c + 1)).2 : Int) = (rk : Int) + 1 from by rw [hne]; rfl)
                          clear hne H7
                          go_wp2
                          exact ⟨⟨c + 1, g6, cp6, by omega, by go_num, by rw [HR10.out], H10, HSB⟩, by simp [intOf]; omega⟩
              · obtain rfl : R = p := by omega
                have q2 : ((R : Int) == (R : Int)) = true := by simp
                have hne := HNo.out (piv_is R M rk c R hrR hp1 hp2 HZ.out (fun h => by omega))
                have H10 := hid (show RowsI tb R Wd R (gj R J (c + 1)).1 g cp wr from by rw [hne, HM.out]; exact HR.out)
                have HR10 := hid (show ((gj R J (c + 1)).2 : Int) = (rk : Int) from by rw [hne, HRK.out])
                clear hne HR
                go_wp2
                exact ⟨⟨c + 1, g, cp, by omega, by go_num, by rw [HR10.out], H10, HB1⟩, by simp [intOf]; omega⟩
        · have hfin : gj R J C = gj R J c := by
            by_cases h : c = C
            · rw [h]
            · have h2 := HFull.out (by omega) (C - c)
              rwa [show c + (C - c) = C from by omega] at h2
          have HF1 := hid (show (gj R J C).1 = M from by rw [hfin]; exact HM.out)
          have HF2 := hid (show ((gj R J C).2 : Int) = (rk : Int) from by rw [hfin, HRK.out])
          clear hfin HN HNo HFull
          have hex : (¬ c < C) ∨ (c < C ∧ ¬ rk < R) := by omega
          rcases hex with hcc | ⟨hcc, hrr⟩
          all_goals
            obtain ⟨F, hF⟩ : ∃ F : Nat → Nat → Nat, F = fun i j => M i (C + j) := ⟨_, rfl⟩
            have HF := hid hF
            obtain ⟨wo, rfl⟩ : ∃ wo : World, wo = wr := ⟨_, rfl⟩
            have hgl : ∀ i, i < R → g i < wo.heap.size := fun i hi => (HR.out.row i hi).lt
            have HR5 := hid (HR.out.below ((Below.refl _ _).alloc (Nat.le_refl _) (.cells #[] 5)))
            have HB5 := hid (HB1.out.alloc (Nat.le_of_lt HR.out.lt) (.cells #[] 5))
            have hO5 : (wo.alloc (.cells #[] 5)).ownsRow wo.heap.size 5 1 (.slice (some ⟨wo.heap.size, 0, none⟩) 0 0) (0 * Q) (u8s ((flat R Q F).take (0 * Q))) := by
              rw [Nat.zero_mul]
              exact ⟨rfl, .inr ⟨wo.heap.size, 0, #[], rfl, Nat.le_refl _, heap_new _ _, Nat.le_refl _, Nat.zero_le _, rfl, rfl⟩⟩
            have HO5 := hid hO5
            have htw := HR.out.lt
            have hsz0 : wo.heap.size ≤ (wo.alloc (.cells #[] 5)).heap.size := by simp
            have HGL := hid hgl
            clear hF hO5 HR HB1 hgl
            go_wp2
            go_loopw [19, 20] (fun ov iv wq => ∃ i : Nat, i ≤ R ∧ iv = .int .i64 i ∧ Hid (wq.ownsRow wo.heap.size 5 1 ov (i * Q) (u8s ((flat R Q F).take (i * Q)))) ∧ Hid (RowsI tb R Wd R M g cp wq) ∧ Hid (Below tb w1 wq) ∧ wo.heap.size ≤ wq.heap.size) (fun _ iv _ => R - (intOf iv).toNat)
            case atStart => exact ⟨0, by omega, rfl, HO5, HR5, HB5, hsz0⟩
            case round =>
              clear HO5 HR5 HB5
              obtain ⟨i, hi, rfl, HO, HR, HB1, hsz⟩ := hrel
              obtain ⟨k1, k2, k3, k4⟩ := keepRed H0.out H1.out HB1.out hb1 hb2
              by_cases hiR : i < R
              · have v1 := HR.out.get i hiR hiR
                obtain ⟨sa, sc, hsl, hbs⟩ := slice_from C Q Wd (g i) (cp i) (M i) wr HWD.out (fun j => hGl i j) (HR.out.row i hiR)
                have HBS := hid hbs
                have HV1 := hid v1
                have HK1 := hid k1
                have hiq : i * Q + Q ≤ 65280 := by
                  have := Nat.mul_le_mul (show i ≤ 254 by omega) hQ2
                  omega
                have HIQ := hid hiq
                have HMORE := hid (flat_more (Q := Q) F hiR)
                have HFI := hid (show (List.range Q).map (fun j => M i (C + j)) = (List.range Q).map (F i) from by rw [HF.out])
                have hbw : w.heap.size < wo.heap.size := by omega
                clear hbs hiq k2 k3 k4
                generalize g i = gi at *
                generalize cp i = ci at *
                go_wp2
                go_region_held3 (fun w' => w'.cell? ⟨w.heap.size, 1, none⟩ = some (.int .i64 C) ∧ w'.cell? ⟨tb, i, none⟩ = some (.slice (some ⟨gi, 0, none⟩) Wd ci))
                  (first | exact ⟨HK1.out, HV1.out⟩ | exact ⟨(hb5.cell (p := ⟨w.heap.size, 1, none⟩) hbw).trans HK1.out, (hb5.cell (p := ⟨tb, i, none⟩) htw).trans HV1.out⟩)
                  (first
                    | (refine step_own_more (by rfl) (.tmp 176) (.tmp 183) (by rfl) wo.heap.size (i * Q) u19 ((flat R Q F).take (i * Q)) (by rfl) HO.out (some sa) Q sc ((List.range Q).map fun j => M i (C + j)) (by rfl) (HBS.out.drewN 1) (fun h => by cases h) (by have := HIQ.out; omega) hsz ?_
                       intro v5 w5 hown5 hg5
                       have hb5 : Below wo.heap.size wr w5 := (bel_drewN (Below.refl wo.heap.size wr) 1).grown hg5 hsz (fun q hq => (HO.out.lt q hq).1)
                       rw [HFI.out, HMORE.out, ← Nat.succ_mul] at hown5
                       have HO6 := hid hown5))
                all_goals
                  have HR6 := hid (HR.out.low_same htw HGL.out hb5.block)
                  have HB6 := hid (HB1.out.trans (hb5.mono (Nat.le_of_lt htw)))
                  have hs6 := Nat.le_trans hsz hb5.size
                  clear hb5 hown5 hg5 v1 k1 hsl
                  go_wp2
                  exact ⟨⟨i + 1, by omega, by go_num, HO6, HR6, HB6, hs6⟩, by simp [intOf]; omega⟩
              · obtain rfl : R = i := by omega
                have hlen : (flat R Q F).length = R * Q := flat_length _ _ _
                have ho := HO.out
                rw [List.take_of_length_le (by omega)] at ho
                have hFl : ∀ n ∈ flat R Q F, n < 256 := by
                  intro n hn
                  unfold flat at hn
                  obtain ⟨j, _, rfl⟩ := List.mem_map.1 hn
                  rw [HF.out]
                  exact hGl _ _
                obtain ⟨oa, oc, rfl, -, -, hBs, hlow⟩ := bs_of_owns ho hFl
                have e2 := (HB1.out.block _ hb3).trans H2.out
                obtain ⟨d0, d1, d2, f0, f1, f2⟩ := c3_of e2
                clear ho e2 hlen k1 k2 k4
                go_wp2
                refine region_quiet_tail 7 (by kernel_rfl) (by kernel_rfl) ?_
                simp only [List.take_succ_cons, List.take_zero, List.drop_succ_cons, List.drop_zero]
                repeat (quiet_step (fail))
                refine wpQuiet_nil ?_
                intro nq
                go_wp2
                have hoff : Off (w.heap.size + 2) (.slice oa (R * Q : Nat) oc) := by
                  cases oa with
                  | none => trivial
                  | some ad => show ad.block ≠ w.heap.size + 2; have h5 := (hlow ad rfl).1; omega
                have hww : Below w.heap.size w wr := HBEL.out.trans (HB1.out.mono (by omega))
                refine bodyPost_ret (v := .tuple #[.int .i64 rk, .agg #[.int .i64 R, .int .i64 Q, .slice oa (R * Q : Nat) oc]]) (by simp [results, Try.results104, go_sem, d0, d1, d2]) rfl ⟨oa, oc, ?_, ?_, ?_, ?_⟩
                · rw [HJ.out, HF2.out]
                · rw [HJ.out, HF1.out, ← HF.out]
                  exact (((hBs.drewN nq).set_off hoff _ _).set_off hoff _ _).set_off hoff _ _
                · intro ad h
                  have := (hlow ad h).1
                  omega
                · exact (((bel_drewN hww nq).setCell (p := ⟨w.heap.size + 2, 0, none⟩) (by simp) _).setCell (p := ⟨w.heap.size + 2, 1, none⟩) (by simp) _).setCell (p := ⟨w.heap.size + 2, 2, none⟩) (by simp) _
end Go.Proofs.Ytfleplbdcpdphaa
