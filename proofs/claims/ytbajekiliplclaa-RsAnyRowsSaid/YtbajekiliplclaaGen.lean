/-
  firstPlaces and Generator.
-/
import Derived.Test.YtbajekiliplclaaShF
namespace Go.Proofs.Ytbajekiliplclaa
open Go Go.RowKit
set_option linter.unusedVariables false

theorem range_snoc_set (n k : Nat) (_h : k < n) : (upTo n (fun i => i) k).set k k = upTo n (fun i => i) (k + 1) := upTo_set n (fun i => i) k
set_option maxRecDepth 100000 in
set_option maxHeartbeats 1000000 in
theorem firstPlaces_any (k : Nat) (hk : k ≤ 255) (w : World) :
    Calls Try.prog 89 #[.int .i64 k] w fun e w' => ∃ ob, w.heap.size ≤ ob ∧ e = .returned (.slice (some ⟨ob, 0, none⟩) k k) ∧ Own w' ob (List.range k) ∧ Below w.heap.size w w' := by
  have hmk := mk_u8 k (by omega)
  have ho := own_zrow w k
  rw [← upTo_zero k (fun i => i)] at ho
  have hb : Below w.heap.size w (w.alloc (zrow k)) := (Below.refl _ _).alloc (Nat.le_refl _) _
  have HO := hid ho
  have HB := hid hb
  clear ho hb
  go_enter Try.func89, Try.ntmps89
  go_wp2
  clear hmk
  go_loopw [8] (fun iv wr => ∃ i : Nat, i ≤ k ∧ iv = .int .i64 i ∧ Hid (Own wr w.heap.size (upTo k (fun i => i) i)) ∧ Hid (Below w.heap.size w wr)) (fun iv _ => k - (intOf iv).toNat)
  case atStart => exact ⟨0, by omega, rfl, HO, HB⟩
  case round =>
    clear HO HB
    obtain ⟨i, hi, rfl, HO, HB⟩ := hrel
    by_cases hlt : i < k
    · have co := HO.out.cell i (by rw [upTo_length]; exact hlt)
      have fo := HO.out.free i
      have hst := HO.out.set i i
      rw [range_snoc_set k i hlt] at hst
      have HST := hid hst
      have HB2 := hid (HB.out.setCell (p := ⟨w.heap.size, i, none⟩) (Nat.le_refl _) (.int .u8 (i : Nat)))
      clear hst HO HB
      generalize (upTo k (fun i => i) i).getD i 0 = z at *
      go_wp2
      exact ⟨⟨i + 1, by omega, by go_num, HST, HB2⟩, by simp [intOf]; omega⟩
    · obtain rfl : i = k := by omega
      go_wp2
      go_ret
      refine ⟨w.heap.size, Nat.le_refl _, rfl, ?_, HB.out⟩
      have h5 := HO.out
      rw [upTo_all, List.map_id'] at h5
      exact h5

/-- the generator matrix -/
def genM (k : Nat) : Nat → Nat → Nat := fun i j => (wts (List.range k) (scales (List.range k)) i).getD j 0
def genTo (k m : Nat) : Nat → Nat → Nat := fun i j => if i < m then genM k i j else 0
theorem genM_lt (k i j : Nat) : genM k i j < 256 := getD_lt (wts_lt _ _ _) j
theorem genTo_lt (k m i j : Nat) : genTo k m i j < 256 := by unfold genTo; split; exact genM_lt k i j; omega
theorem genTo_step (k m i j : Nat) : setRowM (genTo k m) m (wts (List.range k) (scales (List.range k)) m) i j = genTo k (m + 1) i j := by
  unfold setRowM genTo
  by_cases e : i = m
  · subst e
    rw [if_pos rfl, if_pos (by omega)]
    rfl
  · rw [if_neg e]
    by_cases h : i < m
    · rw [if_pos h, if_pos (by omega)]
    · rw [if_neg h, if_neg (by omega)]
/-- what the loop of Generator keeps -/
structure GInv (fb ob xb rb pb sb lb R k : Nat) (w wr : World) (i : Nat) : Prop where
  o : OInv ob xb rb R k (genTo k i) wr
  built : Built wr fb
  kept : Kept fb w wr
  places : Own wr pb (List.range k)
  scl : Own wr sb (scales (List.range k))
  box : wr.heap[lb]? = some (Obj.cells #[.pointer (some ⟨fb, 0, none⟩), .slice (some ⟨pb, 0, none⟩) k k, .slice (some ⟨sb, 0, none⟩) k k] 101)
  ne : fb ≠ ob ∧ pb ≠ ob ∧ sb ≠ ob ∧ lb ≠ ob ∧ w.heap.size ≤ ob
theorem GInv.step {fb ob xb rb pb sb lb R k : Nat} {w wr w2 w3 : World} {i i' : Nat} (h : GInv fb ob xb rb pb sb lb R k w wr i) (h1 : Below wr.heap.size wr w2) (h2 : Kept ob w2 w3) (ho : Own w3 ob (flat R k (genTo k i'))) : GInv fb ob xb rb pb sb lb R k w w3 i' := by
  obtain ⟨n1, n2, n3, n4, n5⟩ := h.ne
  have hs := h1.size
  have hk : ∀ q o, wr.heap[q]? = some o → q ≠ ob → w3.heap[q]? = some o := fun q o hq hne => by
    have hl := lt_of_heap hq
    exact (h2.block q (by omega) hne).trans ((h1.block q hl).trans hq)
  refine ⟨h.o.step h1 h2 ho, hk _ _ h.built n1, ?_, hk _ _ h.places n2, hk _ _ h.scl n3, hk _ _ h.box n4, h.ne⟩
  have h5 := h.kept.trans (Kept.of_below h1)
  exact ⟨h2.os.trans h5.os, h2.tape.trans h5.tape, h2.output.trans h5.output, Nat.le_trans h5.size h2.size, fun q hq hqb => (h2.block q (by have := h5.size; omega) (by omega)).trans (h5.block q hq hqb)⟩
theorem GInv.below {fb ob xb rb pb sb lb R k : Nat} {w wr w2 : World} {i : Nat} (h : GInv fb ob xb rb pb sb lb R k w wr i) (h1 : Below wr.heap.size wr w2) : GInv fb ob xb rb pb sb lb R k w w2 i := h.step h1 (Kept.refl _ _) (h.o.out.below h1 h.o.out.lt)

set_option maxRecDepth 100000 in
set_option maxHeartbeats 2000000 in
theorem Generator_ok (fb R k : Nat) (h1 : 1 ≤ k) (h2 : k ≤ R) (h3 : R ≤ 255) (w : World) (hF : Fld w fb) :
    Calls Try.prog 43 #[.pointer (some ⟨fb, 0, none⟩), .int .i64 k, .int .i64 R] w fun e w' => ∃ ob, w.heap.size ≤ ob ∧ e = .returned (.tuple #[.agg #[.int .i64 R, .int .i64 k, .slice (some ⟨ob, 0, none⟩) (R * k : Nat) (R * k : Nat)], .int .i64 0]) ∧ Own w' ob (flat R k (genM k)) ∧ Built w' fb ∧ Kept fb w w' := by
  have hnot : ∀ (x : Bool) (w : World), (Op.unary .not (.bool x)).run Try.prog w = .ok (.bool (!x)) w := fun _ _ => rfl
  obtain ⟨w1, hw1⟩ : ∃ w1, w1 = w.alloc (Obj.cells #[.int .i64 0, .int .i64 0, .slice none 0 0] 52) := ⟨_, rfl⟩
  have hbel : Below w.heap.size w w1 := by rw [hw1]; exact (Below.refl _ _).alloc (Nat.le_refl _) _
  have h0 : w1.heap[w.heap.size]? = some (Obj.cells #[.int .i64 0, .int .i64 0, .slice none 0 0] 52) := by rw [hw1]; exact heap_new _ _
  have hs1 : w1.heap.size = w.heap.size + 1 := by rw [hw1]; simp
  have hF1 : Fld w1 fb := by rw [hw1]; exact hF.alloc _
  have hfb := hF.lt
  have H0 := hid h0
  have HS := hid hs1
  have HF := hid hF1
  have hrl : ∀ n ∈ List.range k, n < 256 := fun x hx => by have := List.mem_range.1 hx; omega
  have HRL := hid hrl
  have HNOD := hid (List.nodup_range (n := k))
  have HLEN := hid (show k = (List.range k).length by rw [List.length_range])
  clear h0 hs1 hF hF1 hrl
  go_enter Try.func43, Try.ntmps43
  go_wp2_with fail
  rw [← hw1]
  clear hw1
  refine (valid_yes k R (by omega) (by omega) (by omega) _).mono ?_
  rintro e w' ⟨rfl, rfl⟩
  go_wp2_with fail
  refine (build_any fb _ HF.out).mono ?_
  rintro e w2 ⟨rfl, hB2, hk2⟩
  have hsk := hk2.size
  go_wp2_with fail
  refine (firstPlaces_any k (by omega) _).mono ?_
  rintro e w3 ⟨pb, hpb, rfl, hp3, hb3⟩
  have hB3 := hB2.below hb3 hB2.lt
  have hpl : Bs w3 (.slice (some ⟨pb, 0, none⟩) k k) (List.range k) := by
    have h5 := hp3.bs HRL.out k
    rwa [List.length_range] at h5
  have HPL := hid hpl
  clear hpl
  go_wp2_with fail
  refine (newLagrange_n fb pb 0 k k (List.range k) HLEN.out _ hB3 HPL.out (by omega) HNOD.out).mono ?_
  rintro e w4 ⟨sb, hsb, rfl, hs4, hb4⟩
  have hp4 := hp3.below hb4 hp3.lt
  have hB4 := hB3.below hb4 hB3.lt
  have hz3 := hb3.size
  have hz4 := hb4.size
  have k4 := (hb4.block _ (by rw [HS.out] at hsk; omega)).trans ((hb3.block _ (by rw [HS.out] at hsk; omega)).trans ((hk2.block _ (by rw [HS.out]; omega) (by omega)).trans H0.out))
  have hK4 : Kept fb w w4 := (((Kept.of_below hbel).trans hk2).trans (Kept.of_below hb3)).trans (Kept.of_below hb4)
  have K4 := hid k4
  have HK4 := hid hK4
  have HP4 := hid hp4
  have HS4 := hid hs4
  have HB4 := hid hB4
  have hpl4 := hp4.lt
  have hsl4 := hs4.lt
  have hfl4 := hB4.lt
  clear k4 hK4 hp4 hs4 hB4 hp3 hB3 hb3 hb4 hbel hk2 hB2
  go_wp2_with fail
  refine (zeros_any R k (by omega) (by omega) _).mono ?_
  rintro e w5 ⟨ob, hob, rfl, ho5, hb5⟩
  have hz5 := hb5.size
  rw [World.size_alloc] at hob
  have hinv : GInv fb ob w5.heap.size w.heap.size pb sb w4.heap.size R k w (w5.alloc (Obj.cells #[.int .i64 R, .int .i64 k, .slice (some ⟨ob, 0, none⟩) (R * k : Nat) (R * k : Nat)] 52)) 0 := by
    have hS := HS.out
    have hl := ho5.lt
    have hk : ∀ q o, w4.heap[q]? = some o → (w5.alloc (Obj.cells #[.int .i64 R, .int .i64 k, .slice (some ⟨ob, 0, none⟩) (R * k : Nat) (R * k : Nat)] 52)).heap[q]? = some o := fun q o hq => by
      have hlt := lt_of_heap hq
      exact heap_alloc ((hb5.block q (by simp; omega)).trans (heap_alloc hq _)) _
    refine ⟨⟨?_, hk _ _ K4.out, heap_new _ _, by omega, by omega, by omega⟩, hk _ _ HB4.out, ?_, hk _ _ HP4.out, hk _ _ HS4.out, ?_, by omega, by omega, by omega, by omega, by omega⟩
    · rw [flat_congr (fun i j _ _ => show genTo k 0 i j = 0 from by unfold genTo; rw [if_neg (by omega)])]
      exact ho5.alloc _
    · exact ((HK4.out.alloc _).trans (Kept.of_below hb5)).alloc _
    · exact heap_alloc ((hb5.block _ (by simp)).trans (heap_new _ _)) _
  have HINV := hid hinv
  have hnn : R * k ≤ 65025 := Nat.mul_le_mul h3 (show k ≤ 255 from by omega)
  have hlow : w.heap.size + 1 ≤ ob := by rw [← HS.out]; omega
  clear hinv hb5 ho5
  generalize hnc : R * k = nc at *
  have HNC := hid hnc
  clear hnc
  go_wp2
  go_loopw [29] (fun iv wr => ∃ i : Nat, i ≤ R ∧ iv = .int .i64 i ∧ Hid (GInv fb ob w5.heap.size w.heap.size pb sb w4.heap.size R k w wr i)) (fun iv _ => R - (intOf iv).toNat)
  case atStart => exact ⟨0, by omega, rfl, HINV⟩
  case round =>
    clear HINV
    obtain ⟨i, hi, rfl, HINV⟩ := hrel
    by_cases hlt : i < R
    · obtain ⟨a0, a1, a2, _, _, _⟩ := c3_of HINV.out.o.bx
      rw [HNC.out] at a2
      obtain ⟨b0, b1, b2, _, _, _⟩ := c3_of HINV.out.box
      have hwr : IntKind.u8.wrap (i : Int) = (i : Int) := by rw [IntKind.wrap_u8]; omega
      have hwt := fun W (hI : GInv fb ob w5.heap.size w.heap.size pb sb w4.heap.size R k w W i) => weights_n fb pb 0 k sb 0 k k (List.range k) (scales (List.range k)) i HLEN.out (by omega) W hI.built (by have h5 := hI.places.bs HRL.out k; rwa [List.length_range] at h5) (by have h5 := hI.scl.bs (scales_lt _) k; rwa [scales_length, List.length_range] at h5) (by omega)
      rw [← hwr] at hwt
      have HWT := hid hwt
      clear hwt hwr
      go_wp2_with fail
      go_region_held3 (fun w' => w'.cell? ⟨w5.heap.size, 0, none⟩ = some (.int .i64 R) ∧ w'.cell? ⟨w5.heap.size, 1, none⟩ = some (.int .i64 k) ∧ w'.cell? ⟨w5.heap.size, 2, none⟩ = some (.slice (some ⟨ob, 0, none⟩) nc nc) ∧ w'.cell? ⟨w4.heap.size, 0, none⟩ = some (.pointer (some ⟨fb, 0, none⟩)) ∧ w'.cell? ⟨w4.heap.size, 1, none⟩ = some (.slice (some ⟨pb, 0, none⟩) k k) ∧ w'.cell? ⟨w4.heap.size, 2, none⟩ = some (.slice (some ⟨sb, 0, none⟩) k k))
        (first | with_reducible exact keep66 (HNC.out ▸ HINV.out.o.bx) HINV.out.box | with_reducible exact keep66 (HNC.out ▸ HI6.out.o.bx) HI6.out.box | with_reducible exact keep66 (HNC.out ▸ HI7.out.o.bx) HI7.out.box | with_reducible exact keep66 (HNC.out ▸ HNX.out.o.bx) HNX.out.box | exact keep66 (HNC.out ▸ HINV.out.o.bx) HINV.out.box)
        (first | (go_at_call 91; refine (row0_any R k i ob nc nc hlt h1 (by omega) (by omega) HNC.out.symm (Nat.le_refl _) _).mono ?_; rintro e w6 ⟨rfl, hb6⟩; have HI6 := hid (HINV.out.below (chainA hb6)))
               | (go_at_call 92; refine (HWT.out _ HI6.out).mono ?_; rintro e w7 ⟨ob2, hob2, rfl, how, hb7⟩; have HI7 := hid (HI6.out.below hb7))
               | (refine step_copy_row rfl (.tmp 34) (.tmp 38) rfl ob R k i (nc - i * k) (genTo k i) hlt h1 rfl _ k rfl HI7.out.o.out (wts (List.range k) (scales (List.range k)) i) (by have h5 := how.bs (wts_lt _ _ _) k; rwa [wts_length, List.length_range] at h5) ?_; intro w8 ho8 hk8; rw [flat_congr (fun a b _ _ => genTo_step k i a b)] at ho8; have HNX := hid (HI7.out.step (Below.refl _ _) hk8 ho8)))
      go_wp2
      exact ⟨⟨i + 1, by omega, by go_num, HNX⟩, by simp [intOf]; omega⟩
    · obtain rfl : i = R := by omega
      obtain ⟨a0, a1, a2, _, _, _⟩ := c3_of HINV.out.o.bx
      rw [HNC.out] at a2
      obtain ⟨d0, d1, d2, f0, f1, f2⟩ := c3_of HINV.out.o.br
      have hinv := HINV.out.o.congr (N := genM k) fun a b ha _ => by unfold genTo; rw [if_pos ha]
      have hne := hinv.low.1
      go_wp2
      refine bodyPost_ret (v := .tuple #[.agg #[.int .i64 i, .int .i64 k, .slice (some ⟨ob, 0, none⟩) nc nc], .int .i64 0]) (by simp [results, Try.results43, go_sem, d0, d1, d2]) rfl ⟨ob, by omega, by rw [HNC.out], ?_, ?_, ?_⟩
      · exact ((hinv.out.setCell hne _).setCell hne _).setCell hne _
      · exact ((HINV.out.built.setCell (by simp; omega) _).setCell (by simp; omega) _).setCell (by simp; omega) _
      · exact ((HINV.out.kept.setNew (by simp) _).setNew (by simp) _).setNew (by simp) _
theorem Generator_bad (fb : Nat) (k t : Int) (h : ¬ (1 ≤ k ∧ k ≤ t ∧ t ≤ 255)) (w : World) :
    Calls Try.prog 43 #[.pointer (some ⟨fb, 0, none⟩), .int .i64 k, .int .i64 t] w fun e w' => MatRes w.heap.size 0 0 [] 2 e w' ∧ Below w.heap.size w w' := by
  have hnot : ∀ (x : Bool) (w : World), (Op.unary .not (.bool x)).run Try.prog w = .ok (.bool (!x)) w := fun _ _ => rfl
  have H := hid h
  clear h
  go_enter Try.func43, Try.ntmps43
  go_wp2_with fail
  refine (valid_no k t H.out _).mono ?_
  rintro e w' ⟨rfl, rfl⟩
  go_wp2
  refine bodyPost_ret (v := .tuple #[.agg #[.int .i64 0, .int .i64 0, .slice none 0 0], .int .i64 2]) (by simp [results, Try.results43, go_sem]) rfl ⟨⟨none, 0, 0, rfl, bs_nil _, fun _ h => by cases h⟩, ?_⟩
  first | exact (((Below.refl _ _).alloc (Nat.le_refl _) _).setCell (by simp) _ |>.setCell (by simp) _).setCell (by simp) _ | exact (Below.refl _ _).alloc (Nat.le_refl _) _
end Go.Proofs.Ytbajekiliplclaa
