/-
  clearColumn and reduce.
-/
import Derived.Test.YtfleplbdcpdphaaGj
import Derived.Test.YtfleplbdcpdphaaRSplit
namespace Go.Proofs.Ytfleplbdcpdphaa
open Go Go.RowKit
set_option linter.unusedVariables false

def scTo (M : Nat → Nat → Nat) (r s k : Nat) : Nat → Nat → Nat := fun i j => if i = r ∧ j < k then Gf.tm (M r j) s else M i j
theorem scTo_at (M : Nat → Nat → Nat) (r s k i : Nat) : scTo M r s k i k = M i k := by
  unfold scTo
  rw [if_neg (by omega)]
theorem scTo_step (M : Nat → Nat → Nat) (r s k i j : Nat) : setM (scTo M r s k) r k (Gf.tm (M r k) s) i j = scTo M r s (k + 1) i j := by
  unfold setM scTo
  by_cases e : i = r ∧ j = k
  · obtain ⟨rfl, rfl⟩ := e
    rw [if_pos ⟨rfl, rfl⟩, if_pos ⟨rfl, by omega⟩]
  · rw [if_neg e]
    by_cases h : i = r ∧ j < k
    · rw [if_pos h, if_pos ⟨h.1, by omega⟩]
    · rw [if_neg h, if_neg (by omega)]
theorem scTo_all (M : Nat → Nat → Nat) (r s : Nat) {C : Nat} (i j : Nat) (hj : j < C) : scTo M r s C i j = scaleM M r s i j := by
  unfold scTo scaleM
  by_cases e : i = r
  · rw [if_pos ⟨e, hj⟩, if_pos e]
  · rw [if_neg (fun h => e h.1), if_neg e]
theorem clear_flat {R C r c i : Nat} (N : Nat → Nat → Nat) (hi : i < R) (hr : r < R) (hc : c < C) (hne : i ≠ r) :
    axTo (flat R C (clearTo N r c i)) (i * C) (((flat R C (clearTo N r c i)).drop (r * C)).take C) (N i c) C = flat R C (clearTo N r c (i + 1)) := by
  rw [rowL_flat _ hr, axTo_flat _ hi]
  refine flat_congr fun a b ha hb => ?_
  rw [← clearTo_step N r c i hne a b]
  show (if a = i then _ ^^^ Gf.tm _ ((rowL C (clearTo N r c i) r).getD b 0) else _) = (if a = i then _ else _)
  rw [rowL_getD _ _ hb, clearTo_row]

/-- what the loops of clearColumn and reduce keep -/
structure RInv (fb b cap bx R C n : Nat) (M : Nat → Nat → Nat) (w wr : World) : Prop where
  buf : Buf wr b cap (flat R C M)
  built : Built wr fb
  kept : Kept b w wr
  box : wr.heap[bx]? = some (Obj.cells #[.int .i64 R, .int .i64 C, .slice (some ⟨b, 0, none⟩) n cap] 52)
  ne : fb ≠ b ∧ bx ≠ b
theorem RInv.step {fb b cap bx R C n : Nat} {M N : Nat → Nat → Nat} {w wr w2 w3 : World} (h : RInv fb b cap bx R C n M w wr) (h1 : Below wr.heap.size wr w2) (h2 : Kept b w2 w3) (ho : Buf w3 b cap (flat R C N)) : RInv fb b cap bx R C n N w w3 := by
  obtain ⟨n1, n2⟩ := h.ne
  have hs := h1.size
  have hk : ∀ q o, wr.heap[q]? = some o → q ≠ b → w3.heap[q]? = some o := fun q o hq hne => by
    have hl := lt_of_heap hq
    exact (h2.block q (by omega) hne).trans ((h1.block q hl).trans hq)
  exact ⟨ho, hk _ _ h.built n1, (h.kept.trans (Kept.of_below h1)).trans h2, hk _ _ h.box n2, h.ne⟩
theorem RInv.below {fb b cap bx R C n : Nat} {M : Nat → Nat → Nat} {w wr w2 : World} (h : RInv fb b cap bx R C n M w wr) (h1 : Below wr.heap.size wr w2) : RInv fb b cap bx R C n M w w2 := h.step h1 (Kept.refl _ _) (h.buf.below h1)
theorem RInv.drewN {fb b cap bx R C n : Nat} {M : Nat → Nat → Nat} {w wr : World} (h : RInv fb b cap bx R C n M w wr) (q : Nat) : RInv fb b cap bx R C n M w (wr.drewN q) := h.step (Below.refl _ _) ((Kept.refl b wr).drewN q) (h.buf.drewN q)
theorem RInv.congr {fb b cap bx R C n : Nat} {M N : Nat → Nat → Nat} {w wr : World} (h : RInv fb b cap bx R C n M w wr) (he : ∀ i j, i < R → j < C → M i j = N i j) : RInv fb b cap bx R C n N w wr := ⟨by rw [← flat_congr he]; exact h.buf, h.built, h.kept, h.box, h.ne⟩
theorem RInv.keep {fb b cap bx R C n : Nat} {M : Nat → Nat → Nat} {w wr : World} (h : RInv fb b cap bx R C n M w wr) : wr.cell? ⟨bx, 0, none⟩ = some (.int .i64 R) ∧ wr.cell? ⟨bx, 1, none⟩ = some (.int .i64 C) ∧ wr.cell? ⟨bx, 2, none⟩ = some (.slice (some ⟨b, 0, none⟩) n cap) := by
  obtain ⟨a0, a1, a2, _, _, _⟩ := c3_of h.box
  exact ⟨a0, a1, a2⟩
theorem RInv.start {fb b cap R C n : Nat} {M : Nat → Nat → Nat} {w : World} (hO : Buf w b cap (flat R C M)) (hB : Built w fb) (hne : fb ≠ b) : RInv fb b cap w.heap.size R C n M w (w.alloc (Obj.cells #[.int .i64 R, .int .i64 C, .slice (some ⟨b, 0, none⟩) n cap] 52)) :=
  ⟨hO.below ((Below.refl _ _).alloc (Nat.le_refl _) _), hB.alloc _, (Kept.refl _ _).alloc _, heap_new _ _, hne, by have := hO.lt; omega⟩

set_option maxRecDepth 100000 in
set_option maxHeartbeats 2000000 in
theorem clearColumn_any (fb R C r c b n cap : Nat) (M : Nat → Nat → Nat) (w : World) (hB : Built w fb) (hO : Buf w b cap (flat R C M)) (hne : fb ≠ b) (hr : r < R) (hc : c < C) (hR : R ≤ 1000) (hC : C ≤ 1000) (hn : n = R * C) (hM0 : M r c ≠ 0) (hMl : ∀ i j, M i j < 256) :
    Calls Try.prog 112 #[.pointer (some ⟨fb, 0, none⟩), .agg #[.int .i64 R, .int .i64 C, .slice (some ⟨b, 0, none⟩) n cap], .int .i64 r, .int .i64 c] w fun e w' => e = .returned (.tuple #[]) ∧ Buf w' b cap (flat R C (clearTo (scaleM M r (Gf.iv (M r c))) r c R)) ∧ Kept b w w' := by
  have hcap := hO.cap_le
  rw [flat_length, ← hn] at hcap
  have HI := hid (RInv.start (n := n) hO hB hne)
  have hle := ix_le (C := C) hr
  rw [← hn] at hle
  have HN := hid hn
  have HML := hid hMl
  have hsl : Gf.iv (M r c) < 256 := Gf.iv_lt _
  clear hO hB hn
  obtain ⟨a0, a1, a2⟩ := HI.out.keep
  go_enter Try.func112, Try.ntmps112
  go_wp2_with fail
  refine (row0_any R C r b n cap hr (by omega) hC hR HN.out hcap _).mono ?_
  rintro e w2 ⟨rfl, hb2⟩
  have HI2 := hid (HI.out.below hb2)
  have co := HI2.out.buf.cell (r * C + c) (by rw [flat_length]; exact ix_lt hr hc)
  rw [flat_getD M hr hc] at co
  have hml := HML.out r c
  clear a0 a1 a2 hb2 HI
  go_wp2_with fail
  refine (inverse_any fb (M r c) hml hM0 _ HI2.out.built).mono ?_
  rintro e w3 ⟨rfl, q3, rfl⟩
  have HI3 := hid ((HI2.out.drewN q3).congr (N := scTo M r (Gf.iv (M r c)) 0) fun i j _ _ => by unfold scTo; rw [if_neg (by omega)])
  clear co HI2 hM0
  generalize hs : Gf.iv (M r c) = s at *
  have HS := hid hs
  clear hs hml
  go_wp2
  go_loopw [23] (fun iv wr => ∃ k : Nat, k ≤ C ∧ iv = .int .i64 k ∧ Hid (RInv fb b cap w.heap.size R C n (scTo M r s k) w wr)) (fun iv _ => C - (intOf iv).toNat)
  case atStart => exact ⟨0, by omega, rfl, HI3⟩
  case round =>
    clear HI3
    obtain ⟨k, hk, rfl, HI⟩ := hrel
    by_cases hlt : k < C
    · have co := HI.out.buf.cell (r * C + k) (by rw [flat_length]; exact ix_lt hr hlt)
      rw [flat_getD _ hr hlt, scTo_at] at co
      have hml := HML.out r k
      have HB := hid HI.out.built
      generalize hx : M r k = x at *
      have HX := hid hx
      clear hx
      go_wp2_with fail
      refine (mul_any fb x s hml hsl _ HB.out).mono ?_
      rintro e w4 ⟨rfl, q4, rfl⟩
      have HI4 := hid (HI.out.drewN q4)
      have co4 := HI4.out.buf.cell (r * C + k) (by rw [flat_length]; exact ix_lt hr hlt)
      have fo := HI4.out.buf.free (r * C + k)
      have hst : RInv fb b cap w.heap.size R C n (scTo M r s (k + 1)) w ((wr.drewN q4).setCell ⟨b, r * C + k, none⟩ (.int .u8 (Gf.tm x s : Nat))) := by
        refine HI4.out.step (Below.refl _ _) (Kept.setCell (p := ⟨b, r * C + k, none⟩) (Kept.refl b _) rfl _) ?_
        have h5 := HI4.out.buf.set (r * C + k) (Gf.tm x s) (by rw [flat_length]; exact ix_lt hr hlt)
        rw [flat_set _ hr hlt, ← HX.out, flat_congr (fun i j _ _ => scTo_step M r s k i j)] at h5
        rw [← HX.out]
        exact h5
      have HST := hid hst
      generalize (flat R C (scTo M r s k)).getD (r * C + k) 0 = z at *
      clear hst co HI HI4 HB
      go_wp2
      exact ⟨⟨k + 1, by omega, by go_num, HST⟩, by simp [intOf]; omega⟩
    · obtain rfl : k = C := by omega
      have HI5 := hid ((HI.out.congr (N := scaleM M r s) fun i j _ hj => scTo_all M r s i j hj).congr (N := clearTo (scaleM M r s) r c 0) fun i j _ _ => (clearTo_zero _ _ _ _ _).symm)
      obtain ⟨a0, a1, a2⟩ := HI5.out.keep
      have hNl : ∀ i j, scaleM M r s i j < 256 := scaleM_lt HML.out r s
      have HNL := hid hNl
      clear HI hNl
      generalize hN : scaleM M r s = N at *
      have HNE := hid hN
      clear hN
      go_wp2
      clear a0 a1 a2
      go_loopw [39] (fun iv wr => ∃ i : Nat, i ≤ R ∧ iv = .int .i64 i ∧ Hid (RInv fb b cap w.heap.size R k n (clearTo N r c i) w wr)) (fun iv _ => R - (intOf iv).toNat)
      case atStart => exact ⟨0, by omega, rfl, HI5⟩
      case round =>
        clear HI5
        obtain ⟨i, hi, rfl, HI⟩ := hrel
        by_cases hlt2 : i < R
        · by_cases hir : i = r
          · have hb1 : ((i : Int) != (r : Int)) = false := by simp [hir]
            have HN2 := hid (HI.out.congr (N := clearTo N r c (i + 1)) fun a d _ _ => by rw [hir, clearTo_skip])
            clear hir HI
            go_wp2
            exact ⟨⟨i + 1, by omega, by go_num, HN2⟩, by simp [intOf]; omega⟩
          · have hb1 : ((i : Int) != (r : Int)) = true := by simp; omega
            have hdis : i * k + k ≤ r * k ∨ r * k + k ≤ i * k := by
              rcases Nat.lt_or_gt_of_ne hir with h | h
              · exact .inl (ix_le h)
              · exact .inr (ix_le h)
            have HD := hid hdis
            have hil := ix_le (C := k) hlt2
            rw [← HN.out] at hil
            have HCL := hid (clear_flat N hlt2 hr hc hir)
            have hfl := HNL.out i c
            have hcell : ∀ W, RInv fb b cap w.heap.size R k n (clearTo N r c i) w W → W.cell? ⟨b, i * k + c, none⟩ = some (.int .u8 (N i c : Nat)) := fun W hW => by
              have h5 := hW.buf.cell (i * k + c) (by rw [flat_length]; exact ix_lt hlt2 hc)
              rwa [flat_getD _ hlt2 hc, clearTo_at] at h5
            have HCELL := hid hcell
            have hLl : ∀ q, (flat R k (clearTo N r c i)).getD q 0 < 256 := getD_lt (flat_lt (clearTo_lt HNL.out r c i))
            have HLL := hid hLl
            have hlen : (flat R k (clearTo N r c i)).length = n := by rw [flat_length]; exact HN.out.symm
            have HLEN := hid hlen
            have hne2 := HI.out.ne.1
            clear hir hdis hcell hLl hlen
            generalize N i c = f at *
            obtain ⟨e0, e1, e2⟩ := HI.out.keep
            go_wp2_with fail
            go_region_law (first | (go_simp; go_at_call 91; refine (row0_any R k i b n cap hlt2 (by omega) hC hR HN.out hcap _).mono ?_; rintro e wx ⟨rfl, hbx⟩; first | (have K7 := hid (K6.out.below hbx); have cc := HCELL.out _ K7.out) | (have K6 := hid (HI.out.below (chainA hbx)); obtain ⟨y0, y1, y2⟩ := K6.out.keep))
                                     | (go_simp; go_at_call 102; refine (addScaled_row fb b (i * k) (r * k) k (cap - i * k) (cap - r * k) cap (flat R k (clearTo N r c i)) f _ K7.out.built K7.out.buf hne2 (by rw [HLEN.out]; exact hil) (by rw [HLEN.out]; exact hle) HD.out (by omega) hfl HLL.out).mono ?_; rintro e w8 ⟨rfl, ho8, hk8⟩; rw [HCL.out] at ho8; have K8 := hid (K7.out.step (Below.refl _ _) hk8 ho8)))
            all_goals
              go_wp2
              exact ⟨⟨i + 1, by omega, by go_num, K8⟩, by simp [intOf]; omega⟩
        · obtain rfl : i = R := by omega
          go_wp2
          go_end0
          refine ⟨rfl, ?_, HI.out.kept⟩
          rw [HS.out, HNE.out]
          exact HI.out.buf
end Go.Proofs.Ytfleplbdcpdphaa
