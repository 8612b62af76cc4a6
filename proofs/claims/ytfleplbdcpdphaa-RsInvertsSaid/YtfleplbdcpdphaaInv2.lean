/-
  Inverse: the walk.
-/
import Derived.Test.YtfleplbdcpdphaaInv
namespace Go.Proofs.Ytfleplbdcpdphaa
open Go Go.RowKit
set_option linter.unusedVariables false

theorem bothTo_zero (M : Nat → Nat → Nat) (R i j : Nat) : bothTo M R 0 i j = 0 := by
  unfold bothTo
  rw [if_neg (Nat.not_lt_zero i)]
theorem Bs.step2 {w w2 w3 : World} {v : Value} {l : List Nat} {ob : Nat} (h : Bs w v l) (h1 : Below w.heap.size w w2) (h2 : Kept ob w2 w3) (hoff : Off ob v) : Bs w3 v l := (h.below h1).kept h2 hoff

theorem Buf.own {w : World} {g cap : Nat} {l : List Nat} (h : Buf w g cap l) (e : cap = l.length) : Own w g l := by
  obtain ⟨cur, h1, h2, h3, h4⟩ := h
  unfold Own
  rw [h1]
  have h5 : cur.toList = u8s l := by
    rw [← h4, List.take_of_length_le]
    rw [Array.length_toList, h2, e]
    exact Nat.le_refl _
  rw [← h5]
/-- the right half of a matrix, its first k rows -/
def rightTo (N : Nat → Nat → Nat) (R k : Nat) : Nat → Nat → Nat := fun i j => if i < k then N i (R + j) else 0
theorem rightTo_zero (N : Nat → Nat → Nat) (R i j : Nat) : rightTo N R 0 i j = 0 := by
  unfold rightTo
  rw [if_neg (Nat.not_lt_zero i)]
def rightRow (N : Nat → Nat → Nat) (R k : Nat) : List Nat := rowL R (fun i j => N i (R + j)) k
theorem rightTo_step (N : Nat → Nat → Nat) (R k i j : Nat) (hj : j < R) : setRowM (rightTo N R k) k (rightRow N R k) i j = rightTo N R (k + 1) i j := by
  show (if i = k then (rightRow N R k).getD j 0 else if i < k then N i (R + j) else 0) = if i < k + 1 then N i (R + j) else 0
  by_cases e : i = k
  · subst e
    rw [if_pos rfl, if_pos (Nat.lt_succ_self i)]
    exact rowL_getD _ i hj
  · rw [if_neg e]
    by_cases h : i < k
    · rw [if_pos h, if_pos (show i < k + 1 by omega)]
    · rw [if_neg h, if_neg (show ¬ i < k + 1 by omega)]
theorem bs_right {w : World} {b R D n cap : Nat} {N : Nat → Nat → Nat} (h : Bs w (.slice (some ⟨b, 0, none⟩) n cap) (flat R D N)) (r : Nat) (hr : r < R) (hD : D = R + R) (c : Nat) : Bs w (.slice (some ⟨b, r * D + R, none⟩) R c) (rightRow N R r) := by
  have hlt := h.lt
  have hle := ix_le (C := D) hr
  refine ⟨_, c, by rw [rightRow, rowL_length], fun x hx => ?_, fun _ => ⟨b, r * D + R, rfl, fun i hi => ?_⟩⟩
  · unfold rightRow rowL at hx
    obtain ⟨j, hj, rfl⟩ := List.mem_map.1 hx
    have := List.mem_range.1 hj
    show N r (R + j) < 256
    rw [← flat_getD N hr (show R + j < D by omega)]
    exact hlt _
  · rw [rightRow, rowL_length] at hi
    have h5 := h.cell (r * D + (R + i)) (by rw [flat_length]; exact ix_lt hr (by omega))
    rw [flat_getD N hr (by omega), Nat.zero_add] at h5
    rw [rightRow, rowL_getD (fun i j => N i (R + j)) r hi, Nat.add_assoc]
    exact h5

/-- what Inverse returns: G is the eliminated matrix and its rank -/
def InvRes (B R : Nat) (G : (Nat → Nat → Nat) × Nat) (e : Ending) (w' : World) : Prop :=
  if G.2 < R then MatRes B 0 0 [] 11 e w' else MatRes B R R (flat R R fun i j => G.1 i (R + j)) 0 e w'

set_option maxRecDepth 100000 in
set_option maxHeartbeats 2000000 in
theorem Inverse_ok (fb R n cap : Nat) (a : Option Addr) (M : Nat → Nat → Nat) (w : World) (hF : Fld w fb) (h1 : 1 ≤ R) (h2 : R ≤ 255) (hn : n = R * R) (hcap : n ≤ cap) (hMl : ∀ i j, M i j < 256) (hA : Bs w (.slice a n cap) (flat R R M)) (hoff : Off fb (.slice a n cap)) :
    Calls Try.prog 69 #[.pointer (some ⟨fb, 0, none⟩), .agg #[.int .i64 R, .int .i64 R, .slice a n cap]] w fun e w' => InvRes w.heap.size R (gj R (bothM M R) R) e w' ∧ Built w' fb ∧ Kept fb w w' := by
  have hnot : ∀ (x : Bool) (w : World), (Op.unary .not (.bool x)).run Try.prog w = .ok (.bool (!x)) w := fun _ _ => rfl
  have hoA : ∀ sb, w.heap.size ≤ sb → Off sb (.slice a n cap) := fun sb h => hA.off_ge (flat_ne h1 h1) h
  obtain ⟨ab, ao, rfl⟩ := hA.some (flat_ne h1 h1)
  obtain ⟨D, hD⟩ : ∃ D : Nat, D = R + R := ⟨_, rfl⟩
  have hz2 : 2 * (R : Int) = (D : Int) := by omega
  have HD := hid hD
  have hDR : R ≤ D := by omega
  have hD1 : 1 ≤ D := by omega
  have hD2 : D ≤ 510 := by omega
  have HOA := hid hoA
  have HN := hid hn
  have HML := hid hMl
  obtain ⟨G, hG⟩ : ∃ G, G = gj R (bothM M R) R := ⟨_, rfl⟩
  rw [← hG]
  have HG := hid hG
  clear hoA hn hMl hD hG
  obtain ⟨w1, hw1⟩ : ∃ w1, w1 = (w.alloc (Obj.cells #[.int .i64 R, .int .i64 R, .slice (some ⟨ab, ao, none⟩) n cap] 52)).alloc (Obj.cells #[.int .i64 0, .int .i64 0, .slice none 0 0] 52) := ⟨_, rfl⟩
  have hbel : Below w.heap.size w w1 := by rw [hw1]; exact ((Below.refl _ _).alloc (Nat.le_refl _) _).alloc (by simp) _
  have h0 : w1.heap[w.heap.size]? = some (Obj.cells #[.int .i64 R, .int .i64 R, .slice (some ⟨ab, ao, none⟩) n cap] 52) := by rw [hw1]; exact heap_alloc (heap_new _ _) _
  have h3 : w1.heap[w.heap.size + 1]? = some (Obj.cells #[.int .i64 0, .int .i64 0, .slice none 0 0] 52) := by
    rw [hw1]
    have h5 := heap_new (w.alloc (Obj.cells #[.int .i64 R, .int .i64 R, .slice (some ⟨ab, ao, none⟩) n cap] 52)) (Obj.cells #[.int .i64 0, .int .i64 0, .slice none 0 0] 52)
    rw [World.size_alloc] at h5
    exact h5
  have hs1 : w1.heap.size = w.heap.size + 2 := by rw [hw1]; simp
  have hF1 : Fld w1 fb := by rw [hw1]; exact (hF.alloc _).alloc _
  have hfb := hF.lt
  have HA1 := hid (hA.below hbel)
  obtain ⟨c0, c1, c2, _, _, _⟩ := c3_of h0
  have H0 := hid h0
  have H1 := hid h3
  have HS := hid hs1
  have HF1 := hid hF1
  clear h0 h3 hs1 hF hF1 hA
  go_enter Try.func69, Try.ntmps69
  go_wp2_with fail
  rw [← hw1]
  clear hw1
  refine (Valid_yes R R n _ cap h1 h2 h1 h2 HN.out _).mono ?_
  rintro e w2 ⟨rfl, hb2⟩
  have hF2 : Fld w2 fb := HF1.out.elim (fun h => .inl ((hb2.block _ HF1.out.lt).trans h)) (fun h => .inr ((hb2.block _ HF1.out.lt).trans h))
  have HA2 := hid (HA1.out.below hb2)
  have H02 := hid ((hb2.block _ (lt_of_heap H0.out)).trans H0.out)
  have H12 := hid ((hb2.block _ (lt_of_heap H1.out)).trans H1.out)
  have HW2 := hid (hbel.trans (hb2.mono hbel.size))
  clear c0 c1 c2
  obtain ⟨c0, c1, c2, _, _, _⟩ := c3_of H02.out
  clear hb2 hbel
  go_wp2_with fail
  refine (build_any fb _ hF2).mono ?_
  rintro e w4 ⟨rfl, hB4, hk4⟩
  clear c0 c1 c2
  have k0 := (hk4.block _ (lt_of_heap H02.out) (by omega)).trans H02.out
  have k1 := (hk4.block _ (lt_of_heap H12.out) (by omega)).trans H12.out
  have hA4 := HA2.out.kept hk4 hoff
  obtain ⟨a0, a1, a2, _, _, _⟩ := c3_of k0
  have K0 := hid k0
  have K1 := hid k1
  have HA4 := hid hA4
  have HB4 := hid hB4
  have HK4 := hid ((Kept.of_below HW2.out).trans hk4)
  clear k0 k1 hA4 hB4 hk4 hF2 HW2
  go_wp2_with fail
  refine (zeros_any R D (by omega) (by omega) _).mono ?_
  rintro e w5 ⟨ob, hob, rfl, ho5, hb5⟩
  clear a0 a1 a2
  have hsz1 := lt_of_heap K1.out
  have hsz5 := hb5.size
  have hofl := ho5.lt
  have hfbl := HB4.out.lt
  have hinv : IInv fb ob w5.heap.size w.heap.size (w.heap.size + 1) R D R R n cap (some ⟨ab, ao, none⟩) (bothTo M R 0) w (w5.alloc (Obj.cells #[.int .i64 R, .int .i64 D, .slice (some ⟨ob, 0, none⟩) (R * D : Nat) (R * D : Nat)] 52)) := by
    refine ⟨⟨?_, heap_alloc ((hb5.block _ hsz1).trans K1.out) _, heap_new _ _, by omega, by omega, by omega⟩, heap_alloc ((hb5.block _ (lt_of_heap K0.out)).trans K0.out) _, (HB4.out.below hb5 hfbl).alloc _, (HK4.out.trans (Kept.of_below hb5)).alloc _, by omega, by omega, by omega⟩
    rw [flat_congr (fun i j _ _ => bothTo_zero M R i j)]
    exact ho5.alloc _
  have HINV := hid hinv
  have HAI := hid ((HA4.out.below hb5).alloc (Obj.cells #[.int .i64 R, .int .i64 D, .slice (some ⟨ob, 0, none⟩) (R * D : Nat) (R * D : Nat)] 52))
  have hoff2 := HOA.out ob (by omega)
  have hRD : R * D ≤ 130050 := Nat.mul_le_mul h2 hD2
  have hlow : w.heap.size + 1 < ob := by omega
  clear hinv ho5 hb5 hofl HA4 HB4 HK4 K0 K1 HA2 H02 H12 HA1 H0 H1 HF1
  generalize hrd : R * D = rd at *
  have HRD := hid hrd
  clear hrd
  go_wp2
  go_loopw [33] (fun iv wr => ∃ i : Nat, i ≤ R ∧ iv = .int .i64 i ∧ Hid (IInv fb ob w5.heap.size w.heap.size (w.heap.size + 1) R D R R n cap (some ⟨ab, ao, none⟩) (bothTo M R i) w wr) ∧ Hid (Bs wr (.slice (some ⟨ab, ao, none⟩) n cap) (flat R R M))) (fun iv _ => R - (intOf iv).toNat)
  case atStart => exact ⟨0, by omega, rfl, HINV, HAI⟩
  case round =>
    clear HINV HAI
    obtain ⟨i, hi, rfl, HINV, HAI⟩ := hrel
    by_cases hlt : i < R
    · obtain ⟨a0, a1, a2, b0, b1, b2⟩ := keep66 HINV.out.bm (HRD.out ▸ HINV.out.o.bx)
      go_wp2_with fail
      go_region_held3 (fun w' => w'.cell? ⟨w.heap.size, 0, none⟩ = some (.int .i64 R) ∧ w'.cell? ⟨w.heap.size, 1, none⟩ = some (.int .i64 R) ∧ w'.cell? ⟨w.heap.size, 2, none⟩ = some (.slice (some ⟨ab, ao, none⟩) n cap) ∧ w'.cell? ⟨w5.heap.size, 0, none⟩ = some (.int .i64 R) ∧ w'.cell? ⟨w5.heap.size, 1, none⟩ = some (.int .i64 D) ∧ w'.cell? ⟨w5.heap.size, 2, none⟩ = some (.slice (some ⟨ob, 0, none⟩) rd rd))
        (first | with_reducible exact keep66 HINV.out.bm (HRD.out ▸ HINV.out.o.bx) | with_reducible exact keep66 K6.out.bm (HRD.out ▸ K6.out.o.bx) | with_reducible exact keep66 K7.out.bm (HRD.out ▸ K7.out.o.bx) | with_reducible exact keep66 K8.out.bm (HRD.out ▸ K8.out.o.bx) | exact keep66 HINV.out.bm (HRD.out ▸ HINV.out.o.bx))
        (first | (go_at_call_of 91 (Value.agg #[.int .i64 (R : Int), .int .i64 (D : Int), .slice (some ⟨ob, 0, none⟩) rd rd]); refine (row0_any R D i ob rd rd hlt hD1 (by omega) (by omega) HRD.out.symm (Nat.le_refl _) _).mono ?_; rintro e w6 ⟨rfl, hb6⟩; have K6 := hid (HINV.out.below (chainA hb6)); have A6 := hid (HAI.out.below (chainA hb6)))
               | (go_at_call_of 91 (Value.agg #[.int .i64 (R : Int), .int .i64 (R : Int), .slice (some ⟨ab, ao, none⟩) n cap]); refine (row_any R R i ab ao n cap hlt h1 (by omega) (by omega) HN.out hcap _).mono ?_; rintro e w7 ⟨rfl, hb7⟩; have K7 := hid (K6.out.below hb7); have A7 := hid (A6.out.below hb7))
               | (refine step_copy_part rfl (.tmp 38) (.tmp 41) rfl ob R D i R (rd - i * D) (bothTo M R i) hlt h1 hDR rfl _ _ rfl K7.out.o.out _ (A7.out.row i hlt _) ?_; intro w8 ho8 hk8; have K8 := hid (K7.out.step (Below.refl _ _) hk8 ho8); have A8 := hid (A7.out.step2 (Below.refl _ _) hk8 hoff2)))
      obtain ⟨_, _, _, b0, b1, b2⟩ := keep66 K8.out.bm (HRD.out ▸ K8.out.o.bx)
      go_wp2_with fail
      refine (row0_any R D i ob rd rd hlt hD1 (by omega) (by omega) HRD.out.symm (Nat.le_refl _) _).mono ?_
      rintro e w9 ⟨rfl, hb9⟩
      have hlt2 : R + i < D := by have := HD.out; omega
      have hI9 := K8.out.below hb9
      have co := hI9.o.out.cell (i * D + (R + i)) (by rw [flat_length]; exact ix_lt hlt hlt2)
      have fo := hI9.o.out.free (i * D + (R + i))
      have hst : IInv fb ob w5.heap.size w.heap.size (w.heap.size + 1) R D R R n cap (some ⟨ab, ao, none⟩) (bothTo M R (i + 1)) w (w9.setCell ⟨ob, i * D + (R + i), none⟩ (.int .u8 1)) := by
        refine hI9.step (Below.refl _ _) (Kept.setCell (p := ⟨ob, i * D + (R + i), none⟩) (Kept.refl ob w9) rfl _) ?_
        have h5 := hI9.o.out.set (i * D + (R + i)) 1
        rw [flat_set _ hlt hlt2, flat_congr (fun a b _ _ => both_step M R i a b)] at h5
        exact h5
      have HST := hid hst
      have HA9 := hid ((A8.out.below hb9).set_off hoff2 (i * D + (R + i)) (.int .u8 1))
      have hle := ix_le (C := D) hlt
      rw [HRD.out] at hle
      clear hst hI9 hb9 b0 b1 b2 K6 K7 K8 A6 A7 A8 HINV HAI
      generalize (flat R D (setPart (bothTo M R i) i R (rowL R M i))).getD (i * D + (R + i)) 0 = z at *
      generalize i * D = q at *
      go_wp2
      exact ⟨⟨i + 1, by omega, by go_num, HST, HA9⟩, by simp [intOf]; omega⟩
    · obtain rfl : i = R := by omega
      have hN := HINV.out.congr (N := bothM M i) fun x y hx _ => by unfold bothTo; rw [if_pos hx]
      have hb0 := hN.o.out.buf
      rw [flat_length, HRD.out] at hb0
      have HN2 := hid hN
      have HBF := hid hb0
      have HXB := hid (HRD.out ▸ hN.o.bx)
      obtain ⟨a0, a1, a2, _, _, _⟩ := c3_of HXB.out
      have hne := hN.ne.1
      have hBu := hN.built
      clear hN hb0 HINV
      go_wp2_with fail
      refine (reduce_any fb i D i ob rd rd (bothM M i) _ hBu HBF.out hne (by omega) hD1 (by omega) hDR HRD.out.symm (bothM_lt HML.out i)).mono ?_
      have hgl : ∀ x y, G.1 x y < 256 := by rw [HG.out]; exact gj_lt (bothM_lt HML.out i) i i
      rw [← HG.out]
      rintro e w6 ⟨rfl, hb6, hB6, hk6⟩
      have hsz6 := hk6.size
      have hk7 := HN2.out.kept
      have hx6 := (hk6.block _ (lt_of_heap HXB.out) (by have := HN2.out.o.low; omega)).trans HXB.out
      have hr6 := (hk6.block _ (lt_of_heap HN2.out.o.br) (by have := HN2.out.o.low; omega)).trans HN2.out.o.br
      have hkk : Kept fb w w6 := ⟨hk6.os.trans hk7.os, hk6.tape.trans hk7.tape, hk6.output.trans hk7.output, Nat.le_trans hk7.size hk6.size, fun q hq hqb => (hk6.block q (Nat.lt_of_lt_of_le hq hk7.size) (by omega)).trans (hk7.block q hq hqb)⟩
      have HX6 := hid hx6
      have HR6 := hid hr6
      have HKK := hid hkk
      have HB6 := hid hB6
      have HO6 := hid (hb6.own (by rw [flat_length, HRD.out]))
      have HGL := hid hgl
      clear hgl hkk hr6 hx6 hk7 hk6 hb6 hB6 HBF HXB HN2 a0 a1 a2
      by_cases hlk : G.2 < i
      · have hd : decide ((G.2 : Int) < (i : Int)) = true := by simp; omega
        obtain ⟨d0, d1, d2, f0, f1, f2⟩ := c3_of HR6.out
        go_wp2
        refine bodyPost_ret (v := .tuple #[.agg #[.int .i64 0, .int .i64 0, .slice none 0 0], .int .i64 11]) (by simp [results, Try.results69, go_sem, d0, d1, d2]) rfl ⟨?_, ?_, ?_⟩
        · unfold InvRes
          rw [if_pos hlk]
          exact ⟨none, 0, 0, rfl, bs_nil _, fun _ h => by cases h⟩
        · have hl := HB6.out.lt
          exact ((HB6.out.setCell (by simp; omega) _).setCell (by simp; omega) _).setCell (by simp; omega) _
        · exact ((HKK.out.setNew (by simp) _).setNew (by simp) _).setNew (by simp) _
      · have hd : decide ((G.2 : Int) < (i : Int)) = false := by simp; omega
        go_wp2_with fail
        refine (zeros_any i i (by omega) (by omega) _).mono ?_
        rintro e w7 ⟨oc, hoc, rfl, ho7, hb7⟩
        have hsz7 := hb7.size
        have hlr := lt_of_heap HR6.out
        have hlx := lt_of_heap HX6.out
        have hlb := HB6.out.lt
        have hlo := HO6.out.lt
        have hlc := ho7.lt
        have hinv : IInv fb oc w7.heap.size w5.heap.size (w.heap.size + 1) i i i D rd rd (some ⟨ob, 0, none⟩) (rightTo G.1 i 0) w (w7.alloc (Obj.cells #[.int .i64 i, .int .i64 i, .slice (some ⟨oc, 0, none⟩) (i * i : Nat) (i * i : Nat)] 52)) := by
          refine ⟨⟨?_, heap_alloc ((hb7.block _ hlr).trans HR6.out) _, heap_new _ _, by omega, by omega, by omega⟩, heap_alloc ((hb7.block _ hlx).trans HX6.out) _, (HB6.out.below hb7 hlb).alloc _, (HKK.out.trans (Kept.of_below hb7)).alloc _, by omega, by omega, by have := HKK.out.size; omega⟩
          rw [flat_congr (fun x y _ _ => rightTo_zero G.1 i x y)]
          exact ho7.alloc _
        have HINV := hid hinv
        have hbs := (HO6.out.bs (flat_lt HGL.out) rd)
        rw [flat_length, HRD.out] at hbs
        have HAI := hid ((hbs.below hb7).alloc (Obj.cells #[.int .i64 i, .int .i64 i, .slice (some ⟨oc, 0, none⟩) (i * i : Nat) (i * i : Nat)] 52))
        have hoff3 : Off oc (.slice (some ⟨ob, 0, none⟩) rd rd) := by show ob ≠ oc; omega
        have hii : i * i ≤ 65025 := Nat.mul_le_mul h2 h2
        have hoc1 : w.heap.size + 1 < oc := by omega
        clear hinv ho7 hb7 hbs HB6 HKK HX6 HR6 HO6
        generalize hrc : i * i = rc at *
        have HRC := hid hrc
        clear hrc
        go_wp2
        go_loopw [62] (fun iv wr => ∃ r : Nat, r ≤ i ∧ iv = .int .i64 r ∧ Hid (IInv fb oc w7.heap.size w5.heap.size (w.heap.size + 1) i i i D rd rd (some ⟨ob, 0, none⟩) (rightTo G.1 i r) w wr) ∧ Hid (Bs wr (.slice (some ⟨ob, 0, none⟩) rd rd) (flat i D G.1))) (fun iv _ => i - (intOf iv).toNat)
        case atStart => exact ⟨0, by omega, rfl, HINV, HAI⟩
        case round =>
          clear HINV HAI
          obtain ⟨r, hr, rfl, HINV, HAI⟩ := hrel
          by_cases hlt3 : r < i
          · obtain ⟨a0, a1, a2, b0, b1, b2⟩ := keep66 HINV.out.bm (HRC.out ▸ HINV.out.o.bx)
            have hle := ix_le (C := D) hlt3
            rw [HRD.out] at hle
            have hDs : D - i = i := by have := HD.out; omega
            go_wp2_with fail
            go_region_held3 (fun w' => w'.cell? ⟨w5.heap.size, 0, none⟩ = some (.int .i64 i) ∧ w'.cell? ⟨w5.heap.size, 1, none⟩ = some (.int .i64 D) ∧ w'.cell? ⟨w5.heap.size, 2, none⟩ = some (.slice (some ⟨ob, 0, none⟩) rd rd) ∧ w'.cell? ⟨w7.heap.size, 0, none⟩ = some (.int .i64 i) ∧ w'.cell? ⟨w7.heap.size, 1, none⟩ = some (.int .i64 i) ∧ w'.cell? ⟨w7.heap.size, 2, none⟩ = some (.slice (some ⟨oc, 0, none⟩) rc rc))
              (first | with_reducible exact keep66 HINV.out.bm (HRC.out ▸ HINV.out.o.bx) | with_reducible exact keep66 K6.out.bm (HRC.out ▸ K6.out.o.bx) | with_reducible exact keep66 K7.out.bm (HRC.out ▸ K7.out.o.bx) | with_reducible exact keep66 K8.out.bm (HRC.out ▸ K8.out.o.bx) | exact keep66 HINV.out.bm (HRC.out ▸ HINV.out.o.bx))
              (first | (go_at_call_of 91 (Value.agg #[.int .i64 (i : Int), .int .i64 (i : Int), .slice (some ⟨oc, 0, none⟩) rc rc]); refine (row0_any i i r oc rc rc hlt3 h1 (by omega) (by omega) HRC.out.symm (Nat.le_refl _) _).mono ?_; rintro e w8 ⟨rfl, hb8⟩; have K6 := hid (HINV.out.below (chainA hb8)); have A6 := hid (HAI.out.below (chainA hb8)))
                     | (go_at_call_of 91 (Value.agg #[.int .i64 (i : Int), .int .i64 (D : Int), .slice (some ⟨ob, 0, none⟩) rd rd]); refine (row0_any i D r ob rd rd hlt3 hD1 (by omega) (by omega) HRD.out.symm (Nat.le_refl _) _).mono ?_; rintro e w9 ⟨rfl, hb9⟩; have K7 := hid (K6.out.below hb9); have A7 := hid (A6.out.below hb9))
                     | (refine step_copy_row rfl (.tmp 67) (.tmp 72) rfl oc i i r (rc - r * i) (rightTo G.1 i r) hlt3 h1 rfl (some ⟨ob, r * D + i, none⟩) (rd - r * D - i) (by show (Value.slice _ _ _ : Value) = _; rw [if_neg (by have := HD.out; omega)]) K7.out.o.out _ (bs_right A7.out r hlt3 HD.out _) ?_; intro w10 ho10 hk10; have K8 := hid (K7.out.step (Below.refl _ _) hk10 ho10); have A8 := hid (A7.out.step2 (Below.refl _ _) hk10 hoff3)))
            have K9 := hid (K8.out.congr fun x y hx hy => rightTo_step G.1 i r x y hy)
            clear K6 K7 K8 A6 A7 a0 a1 a2 b0 b1 b2
            go_wp2
            exact ⟨⟨r + 1, by omega, by go_num, K9, A8⟩, by simp [intOf]; omega⟩
          · obtain rfl : r = i := by omega
            obtain ⟨a0, a1, a2, _, _, _⟩ := c3_of HINV.out.o.bx
            rw [HRC.out] at a2
            obtain ⟨d0, d1, d2, f0, f1, f2⟩ := c3_of HINV.out.o.br
            have hres := (HINV.out.o.congr (N := fun x y => G.1 x (r + y)) fun x y hx _ => by unfold rightTo; rw [if_pos hx]).res (fun x y => HGL.out x (r + y)) (B := w.heap.size) (by omega)
            rw [HRC.out] at hres
            have HRES := hid hres
            have HK9 := hid HINV.out.kept
            have HB9 := hid HINV.out.built
            have hlb9 := HINV.out.built.lt
            clear hres HINV HAI
            go_wp2
            refine bodyPost_ret (v := .tuple #[.agg #[.int .i64 r, .int .i64 r, .slice (some ⟨oc, 0, none⟩) rc rc], .int .i64 0]) (by simp [results, Try.results69, go_sem, d0, d1, d2]) rfl ⟨?_, ?_, ?_⟩
            · unfold InvRes
              rw [if_neg hlk]
              exact HRES.out
            · exact ((HB9.out.setCell (by simp; omega) _).setCell (by simp; omega) _).setCell (by simp; omega) _
            · exact ((HK9.out.setNew (by simp) _).setNew (by simp) _).setNew (by simp) _
end Go.Proofs.Ytfleplbdcpdphaa
