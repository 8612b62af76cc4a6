/-
  The walk of the law that results share no memory.
-/
import Derived.Test.YtndkcabmaigneaaGen
import Derived.Test.YtndkcabmaigneaaLawL
namespace Go.Proofs.Ytndkcabmaigneaa
open Go Go.RowKit
set_option linter.unusedVariables false

/-- in w' all blocks of w but those in P are as they were -/
structure KeptX (P : Nat → Prop) (w w' : World) : Prop where
  os : w'.os = w.os
  tape : w'.tape = w.tape
  output : w'.output = w.output
  size : w.heap.size ≤ w'.heap.size
  block : ∀ k, k < w.heap.size → ¬ P k → w'.heap[k]? = w.heap[k]?
theorem KeptX.refl (P : Nat → Prop) (w : World) : KeptX P w w := ⟨rfl, rfl, rfl, Nat.le_refl _, fun _ _ _ => rfl⟩
theorem KeptX.setCell {P : Nat → Prop} {w w' : World} (h : KeptX P w w') {p : Addr} (hp : P p.block) (u : Value) : KeptX P w (w'.setCell p u) :=
  ⟨h.os, h.tape, h.output, by simpa using h.size, fun k hk hn => (Below.heap_setCell _ _ _ _ (fun e => hn (by rw [e]; exact hp))).trans (h.block k hk hn)⟩
theorem KeptX.heap {P : Nat → Prop} {w w' : World} (h : KeptX P w w') {b : Nat} {o : Obj} (hb : w.heap[b]? = some o) (hn : ¬ P b) : w'.heap[b]? = some o := (h.block b (lt_of_heap hb) hn).trans hb
theorem KeptX.below {P : Nat → Prop} {W w w' : World} (h : KeptX P w w') (hb : Below W.heap.size W w) (hn : ∀ b, b < W.heap.size → ¬ P b) : Below W.heap.size W w' :=
  ⟨h.os.trans hb.os, h.tape.trans hb.tape, h.output.trans hb.output, Nat.le_trans hb.size h.size, fun k hk => (h.block k (Nat.lt_of_lt_of_le hk hb.size) (hn k hk)).trans (hb.block k hk)⟩

/-- the rows of the pieces while they are written over: those before i are full of their number, and row i up to j -/
def Rows4 (w : World) (bf : Nat → Nat) (t L i j : Nat) : Prop :=
  ∀ q, q < t → ∃ l : List Nat, l.length = L ∧ Own w (bf q) l ∧ (q < i → l = List.replicate L (q + 1)) ∧ (q = i → ∀ c, c < j → l.getD c 0 = q + 1)
theorem Rows4.set {w : World} {bf : Nat → Nat} {t L i j : Nat} (h : Rows4 w bf t L i j) (hinj : ∀ a b, a < b → b < t → bf a ≠ bf b) (hi : i < t) (hj : j < L) (hL : i + 1 < 256) : Rows4 (w.setCell ⟨bf i, j, none⟩ (.int .u8 ((i + 1 : Nat) : Int))) bf t L i (j + 1) := by
  intro q hq
  obtain ⟨l, h1, h2, h3, h4⟩ := h q hq
  by_cases e : q = i
  · subst e
    refine ⟨l.set j (q + 1), by rw [List.length_set, h1], h2.set j (q + 1), fun h => by omega, fun _ c hc => ?_⟩
    rw [List.getD_eq_getElem?_getD, List.getElem?_set]
    by_cases e2 : j = c
    · rw [if_pos e2, if_pos (by omega)]; rfl
    · rw [if_neg e2, ← List.getD_eq_getElem?_getD]
      exact h4 rfl c (by omega)
  · refine ⟨l, h1, h2.setCell (p := ⟨bf i, j, none⟩) ?_ _, h3, fun h => absurd h e⟩
    show bf i ≠ bf q
    rcases Nat.lt_or_gt_of_ne e with h | h
    · exact fun e2 => hinj q i h hi e2.symm
    · exact hinj i q h hq
theorem Rows4.next {w : World} {bf : Nat → Nat} {t L i : Nat} (h : Rows4 w bf t L i L) : Rows4 w bf t L (i + 1) 0 := by
  intro q hq
  obtain ⟨l, h1, h2, h3, h4⟩ := h q hq
  refine ⟨l, h1, h2, fun hlt => ?_, fun _ c hc => absurd hc (Nat.not_lt_zero _)⟩
  by_cases e : q = i
  · refine ext_getD (by rw [h1, List.length_replicate]) fun c hc => ?_
    rw [h4 e c (by omega), List.getD_eq_getElem?_getD, List.getElem?_replicate, if_pos (by omega)]
    rfl
  · exact h3 (by omega)
theorem genM_one (k : Nat) (h : 1 ≤ k) : genM k 0 0 = 1 := by
  obtain ⟨k, rfl⟩ : ∃ m, k = m + 1 := ⟨k - 1, by omega⟩
  unfold genM wts
  rw [if_pos (List.mem_range.2 (by omega))]
  have h0 : (List.range (k + 1)).idxOf 0 = 0 := by rw [List.range_succ_eq_map]; rfl
  rw [h0, List.length_range, List.getD_eq_getElem?_getD, List.getElem?_set]
  simp
/-- where the writes go -/
def Wr (bf : Nat → Nat) (t ob : Nat) (b : Nat) : Prop := (∃ i, i < t ∧ b = bf i) ∨ b = ob

/-- what the writing loops keep -/
structure MemI (bf : Nat → Nat) (t L ob nc : Nat) (V wr : World) (i j : Nat) : Prop where
  kept : KeptX (Wr bf t ob) V wr
  rows : Rows4 wr bf t L i j
  cells : ∃ l : List Nat, l.length = nc ∧ Own wr ob l
theorem MemI.write {bf : Nat → Nat} {t L ob nc : Nat} {V wr : World} {i j : Nat} (h : MemI bf t L ob nc V wr i j) (hinj : ∀ a b, a < b → b < t → bf a ≠ bf b) (hi : i < t) (hj : j < L) (hL : i + 1 < 256) (hne : ∀ q, q < t → bf q ≠ ob) : MemI bf t L ob nc V (wr.setCell ⟨bf i, j, none⟩ (.int .u8 ((i : Int) + 1))) i (j + 1) := by
  obtain ⟨l, hl, ho⟩ := h.cells
  exact ⟨h.kept.setCell (p := ⟨bf i, j, none⟩) (.inl ⟨i, hi, rfl⟩) _, h.rows.set hinj hi hj hL, l, hl, ho.setCell (p := ⟨bf i, j, none⟩) (hne i hi) _⟩
theorem MemI.next {bf : Nat → Nat} {t L ob nc : Nat} {V wr : World} {i : Nat} (h : MemI bf t L ob nc V wr i L) : MemI bf t L ob nc V wr (i + 1) 0 := ⟨h.kept, h.rows.next, h.cells⟩

set_option maxRecDepth 100000 in
set_option maxHeartbeats 4000000 in
theorem memory_in (W : World) (k t : Nat) (h1 : 1 ≤ k) (h2 : k ≤ t) (h3 : t ≤ 30) (da : Option Addr) (n dc : Nat) (d : List Nat) (hd : Bs W (.slice da n dc) d) (hdn : da = none → dc = 0) (hn : n ≤ 2000) :
    Calls Try.prog 12 #[.int .i64 k, .int .i64 t, .slice da n dc] W fun e w' => e = .returned (.bool true) ∧ Below W.heap.size W w' := by
  have b1 : decide ((k : Int) < 1) = false := by simp; omega
  have b2 : decide ((t : Int) < (k : Int)) = false := by simp; omega
  have b3 : decide ((30 : Int) < (t : Int)) = false := by simp; omega
  have b4 : decide ((2000 : Int) < (n : Int)) = false := by simp; omega
  have hLb := plen_le k n h1
  have HD := hid hd
  have HDN := hid hdn
  have HDL := hid hd.lt
  clear hd hdn
  go_enter Try.func12, Try.ntmps12
  go_wp2_with fail
  refine (newField_any _).mono ?_
  rintro e w1 ⟨rfl, hfr, hb1⟩
  have hf1 := lt_of_heap hfr
  have HW1 := hid hb1
  -- the first encoding
  go_wp2_with (refine wpList_clone rfl (.tmp 45) (.tmp 46) rfl w1.heap.size rfl (heap_new w1 _) da n dc d rfl ((HD.out.below HW1.out).alloc _) HDN.out (by omega) ?_)
  intro a1 c1 w2 hd2 hnc2 hlow2 _ hk2
  have hB2 : Below w1.heap.size w1 w2 := ((Below.refl _ _).alloc (Nat.le_refl _) _).trans (hk2.below (by simp) (Nat.le_refl _))
  have hoff2 : Off W.heap.size (.slice a1 n c1) := off_low (fun ad h => (hlow2 ad h).1) hf1
  have hFr2 : Fresh w2 W.heap.size := (hB2.block _ hf1).trans hfr
  have hs2 := hB2.size
  clear hk2 hlow2 hfr hb1
  go_wp2_with fail
  refine (Encode_any W.heap.size k t a1 n c1 d _ (.inl hFr2) hd2 hoff2 hnc2 h1 h2 (by omega) (by omega)).mono ?_
  rintro e w3 ⟨g1, bf1, hg1, rfl, hp1, hB3, hk3⟩
  have hs3 := hk3.size
  have HW3 := hid ((known_end HW1.out hB2).trans (hk3.below (B := W.heap.size) (by have := HW1.out.size; omega) (Nat.le_refl _)))
  have HP1 := hid hp1
  have HB3 := hid hB3
  have hb1lt : ∀ i, i < t → w2.heap.size ≤ bf1 i ∧ bf1 i < w3.heap.size := fun i hi => ⟨hp1.low i hi, (hp1.row i hi).lt⟩
  have hg1l := hp1.own.lt
  have HBL := hid hb1lt
  clear hd2 hoff2 hFr2 hk3 hp1 hB3 hnc2 hB2 hb1lt
  -- the first generator
  go_wp2_with fail
  refine (Generator_ok W.heap.size t k h1 h2 (by omega) _ (.inr HB3.out)).mono ?_
  rintro e w4 ⟨o1, ho1, rfl, hO1, hB4, hk4⟩
  have hs4 := hk4.size
  have hO1l := hO1.lt
  have hB34 : Below w4.heap.size w4 (w4.alloc (Obj.cells #[.int .i64 t, .int .i64 k, .slice (some ⟨o1, 0, none⟩) (t * k : Nat) (t * k : Nat)] 52)) := (Below.refl _ _).alloc (Nat.le_refl _) _
  have hx1 : (w4.alloc (Obj.cells #[.int .i64 t, .int .i64 k, .slice (some ⟨o1, 0, none⟩) (t * k : Nat) (t * k : Nat)] 52)).heap[w4.heap.size]? = some (Obj.cells #[.int .i64 t, .int .i64 k, .slice (some ⟨o1, 0, none⟩) (t * k : Nat) (t * k : Nat)] 52) := heap_new _ _
  have hW4 : Below W.heap.size W (w4.alloc (Obj.cells #[.int .i64 t, .int .i64 k, .slice (some ⟨o1, 0, none⟩) (t * k : Nat) (t * k : Nat)] 52)) := (HW3.out.trans (hk4.below (B := W.heap.size) (by have := HW3.out.size; omega) (Nat.le_refl _))).trans (hB34.mono (by have := HW3.out.size; omega))
  have HP14 := hid ((HP1.out.kept hk4 (by omega) (by omega)).below hB34)
  have HO14 := hid (hO1.below hB34 hO1l)
  have HB4 := hid (hB4.below hB34 hB4.lt)
  have HX1 := hid hx1
  have HW4 := hid hW4
  have hnew := heap_new (w4.alloc (Obj.cells #[.int .i64 t, .int .i64 k, .slice (some ⟨o1, 0, none⟩) (t * k : Nat) (t * k : Nat)] 52)) (Obj.cells #[] 5)
  rw [World.size_alloc] at hnew
  have HNEW := hid hnew
  clear hk4 hB34 hx1 hO1 hB4 HP1 HB3 hW4 hnew
  go_wp2_with (refine wpList_clone rfl (.tmp 62) (.tmp 63) rfl (w4.heap.size + 1) rfl HNEW.out da n dc d rfl ((HD.out.below HW4.out).alloc _) HDN.out (by omega) ?_)
  intro a5 c5 w5 hd5 hnc5 hlow5 _ hk5
  have hs5 := hk5.size
  rw [World.size_alloc, World.size_alloc] at hs5
  have hB5 : Below (w4.alloc (Obj.cells #[.int .i64 t, .int .i64 k, .slice (some ⟨o1, 0, none⟩) (t * k : Nat) (t * k : Nat)] 52)).heap.size (w4.alloc (Obj.cells #[.int .i64 t, .int .i64 k, .slice (some ⟨o1, 0, none⟩) (t * k : Nat) (t * k : Nat)] 52)) w5 := ((Below.refl _ _).alloc (Nat.le_refl _) _).trans (hk5.below (by simp) (by simp))
  have hoff5 : Off W.heap.size (.slice a5 n c5) := off_low (fun ad h => (hlow5 ad h).1) (by have := HW3.out.size; omega)
  have hp15 := HP14.out.below hB5
  have hO15 := HO14.out.below hB5 HO14.out.lt
  have hBu5 := HB4.out.below hB5 HB4.out.lt
  have hx15 := (hB5.block _ (lt_of_heap HX1.out)).trans HX1.out
  have HW5 := hid (known_end HW4.out hB5)
  have HP15 := hid hp15
  have HO15 := hid hO15
  have HX15 := hid hx15
  clear hk5 hlow5 hB5 HP14 HO14 HX1 HB4 HNEW hp15 hO15 hx15
  go_wp2_with fail
  refine (Encode_any W.heap.size k t a5 n c5 d _ (.inr hBu5) hd5 hoff5 hnc5 h1 h2 (by omega) (by omega)).mono ?_
  rintro e w6 ⟨g2, bf2, hg2, rfl, hp26, hB6, hk6⟩
  have hs6 := hk6.size
  have HW6 := hid (HW5.out.trans (hk6.below (B := W.heap.size) (by have := HW5.out.size; omega) (Nat.le_refl _)))
  have HP16 := hid (HP15.out.kept hk6 (by omega) (by omega))
  have HO16 := hid ((hk6.block o1 HO15.out.lt (by omega)).trans HO15.out)
  have HX16 := hid ((hk6.block w4.heap.size (lt_of_heap HX15.out) (by omega)).trans HX15.out)
  have HP26 := hid hp26
  have HB6 := hid hB6
  have hg2l := hp26.own.lt
  clear hd5 hoff5 hnc5 hk6 hp26 hB6 HP15 HO15 HX15 hBu5
  go_wp2_with fail
  refine (Generator_ok W.heap.size t k h1 h2 (by omega) _ (.inr HB6.out)).mono ?_
  rintro e w7 ⟨o2, ho2, rfl, hO2, hB7, hk7⟩
  have hs7 := hk7.size
  have hO2l := hO2.lt
  have hB78 : Below w7.heap.size w7 (w7.alloc (Obj.cells #[.int .i64 t, .int .i64 k, .slice (some ⟨o2, 0, none⟩) (t * k : Nat) (t * k : Nat)] 52)) := (Below.refl _ _).alloc (Nat.le_refl _) _
  have HW8 := hid ((HW6.out.trans (hk7.below (B := W.heap.size) (by have := HW6.out.size; omega) (Nat.le_refl _))).trans (hB78.mono (by have := HW6.out.size; omega)))
  have HP18 := hid ((HP16.out.kept hk7 (by omega) (by omega)).below hB78)
  have HP28 := hid ((HP26.out.kept hk7 (by omega) (by omega)).below hB78)
  have HO18 := hid (heap_alloc ((hk7.block o1 (lt_of_heap HO16.out) (by omega)).trans HO16.out) (Obj.cells #[.int .i64 t, .int .i64 k, .slice (some ⟨o2, 0, none⟩) (t * k : Nat) (t * k : Nat)] 52))
  have HX18 := hid (heap_alloc ((hk7.block w4.heap.size (lt_of_heap HX16.out) (by omega)).trans HX16.out) (Obj.cells #[.int .i64 t, .int .i64 k, .slice (some ⟨o2, 0, none⟩) (t * k : Nat) (t * k : Nat)] 52))
  have HO28 := hid (hO2.below hB78 hO2l)
  have HX28 := hid (heap_new w7 (Obj.cells #[.int .i64 t, .int .i64 k, .slice (some ⟨o2, 0, none⟩) (t * k : Nat) (t * k : Nat)] 52))
  have HB8 := hid (hB7.below hB78 hB7.lt)
  have hsV : (w7.alloc (Obj.cells #[.int .i64 t, .int .i64 k, .slice (some ⟨o2, 0, none⟩) (t * k : Nat) (t * k : Nat)] 52)).heap.size = w7.heap.size + 1 := by simp
  clear hk7 hB78 hO2 hB7 HP16 HP26 HO16 HX16 HB6
  generalize hV : w7.alloc (Obj.cells #[.int .i64 t, .int .i64 k, .slice (some ⟨o2, 0, none⟩) (t * k : Nat) (t * k : Nat)] 52) = V at *
  have HVE := hid hV
  clear hV
  have hWX : ∀ b, (∀ i, i < t → b ≠ bf1 i) → b ≠ o1 → ¬ Wr bf1 t o1 b := fun b h5 h6 h7 => by
    rcases h7 with ⟨i, hi, rfl⟩ | rfl
    · exact h5 i hi rfl
    · exact h6 rfl
  have HWX := hid hWX
  have hhi : ∀ b, w6.heap.size ≤ b → ¬ Wr bf1 t o1 b := fun b hb => hWX b (fun i hi => by have := HBL.out i hi; omega) (by omega)
  have hlo : ∀ b, b < w2.heap.size → ¬ Wr bf1 t o1 b := fun b hb => hWX b (fun i hi => by have := HBL.out i hi; omega) (by omega)
  have HHI := hid hhi
  have HLO := hid hlo
  have HNC := hid (show t * k ≤ 900 from Nat.mul_le_mul h3 (show k ≤ 30 from by omega))
  have HSV := hid hsV
  have HG1 := hid (hWX g1 (fun i hi e => HP18.out.notb i hi e.symm) (by omega))
  have HXX := hid (hWX w4.heap.size (fun i hi => by have := HBL.out i hi; omega) (by omega))
  have hmi : MemI bf1 t (plen k n) o1 (t * k) V V 0 0 := ⟨KeptX.refl _ _, fun q hq => ⟨_, by have := HP18.out.row q hq; exact encP_length d k (plen k n) q, HP18.out.row q hq, fun h => absurd h (Nat.not_lt_zero _), fun _ c hc => absurd hc (Nat.not_lt_zero _)⟩, _, flat_length t k (genM k), HO18.out⟩
  have HMI := hid hmi
  clear hWX hhi hlo hmi hsV
  generalize hL : plen k n = L at *
  have HLE := hid hL
  clear hL
  generalize hnc : t * k = nc at *
  have HNCE := hid hnc
  have hnc9 : nc ≤ 900 := HNC.out
  clear hnc
  go_wp2_with fail
  rw [HVE.out]
  go_loopw [16] (fun iv wr => ∃ i : Nat, i ≤ t ∧ iv = .int .i64 i ∧ Hid (MemI bf1 t L o1 nc V wr i 0)) (fun iv _ => t - (intOf iv).toNat)
  case atStart => exact ⟨0, by omega, rfl, HMI⟩
  case round =>
    clear HMI
    obtain ⟨i, hi, rfl, HMI⟩ := hrel
    by_cases hlt : i < t
    · go_wp2
      go_loopw [17] (fun jv wr => ∃ j : Nat, j ≤ L ∧ jv = .int .i64 j ∧ Hid (MemI bf1 t L o1 nc V wr i j)) (fun jv _ => L - (intOf jv).toNat)
      case atStart => exact ⟨0, by omega, rfl, HMI⟩
      case round =>
        clear HMI
        obtain ⟨j, hj, rfl, HMI⟩ := hrel
        have hpo : POwn wr g1 (mkps bf1 L t t) := HMI.out.kept.heap HP18.out.own HG1.out
        have e1 := hpo.cell1 i (by rw [mkps_length]; exact hlt)
        rw [mkps_get _ _ _ _ _ _ hlt] at e1
        clear hpo
        by_cases hlt2 : j < L
        · obtain ⟨l, hl1, hl2, _, _⟩ := HMI.out.rows i hlt
          have co := hl2.cell j (by rw [hl1]; exact hlt2)
          have fo := hl2.free j
          have hst : MemI bf1 t L o1 nc V (wr.setCell ⟨bf1 i, j, none⟩ (.int .u8 ((i : Int) + 1))) i (j + 1) := HMI.out.write (fun a b hab hb => HP18.out.inj a b hab hb) hlt hlt2 (by omega) (fun q hq => by have := HBL.out q hq; omega)
          have HST := hid hst
          generalize l.getD j 0 = z at *
          clear hst hl1 hl2 HMI
          go_wp2
          exact ⟨⟨j + 1, by omega, by go_num, HST⟩, by simp [intOf]; omega⟩
        · obtain rfl : j = L := by omega
          have HN := hid HMI.out.next
          clear HMI
          go_wp2
          exact ⟨⟨i + 1, by omega, by go_num, HN⟩, by simp [intOf]; omega⟩
    · obtain rfl : i = t := by omega
      as_aux_lemma =>
        go_wp2
        go_loop [18] (fun iv => ∃ q : Nat, q ≤ i ∧ iv = .int .i64 q) (fun iv => i - (intOf iv).toNat)
        case atStart => exact ⟨0, by omega, rfl⟩
        case round =>
          obtain ⟨q, hq, rfl⟩ := hrel
          by_cases hlt2 : q < i
          · go_wp2
            go_loop [19] (fun jv => ∃ j : Nat, j ≤ L ∧ jv = .int .i64 j) (fun jv => L - (intOf jv).toNat)
            case atStart => exact ⟨0, by omega, rfl⟩
            case round =>
              obtain ⟨j, hj, rfl⟩ := hrel
              have hpo : POwn wr g1 (mkps bf1 L i i) := HMI.out.kept.heap HP18.out.own HG1.out
              have e1 := hpo.cell1 q (by rw [mkps_length]; exact hlt2)
              rw [mkps_get _ _ _ _ _ _ hlt2] at e1
              clear hpo
              by_cases hlt3 : j < L
              · obtain ⟨l, hl1, hl2, hl3, _⟩ := HMI.out.rows q hlt2
                have co := hl2.cell j (by rw [hl1]; exact hlt3)
                rw [hl3 hlt2, List.getD_eq_getElem?_getD, List.getElem?_replicate, if_pos hlt3] at co
                have co2 : wr.cell? ⟨bf1 q, j, none⟩ = some (.int .u8 ((q : Int) + 1)) := co
                clear co hl1 hl2 hl3
                go_wp2
                exact ⟨⟨j + 1, by omega, by go_num⟩, by simp [intOf]; omega⟩
              · obtain rfl : j = L := by omega
                go_wp2
                exact ⟨⟨q + 1, by omega, by go_num⟩, by simp [intOf]; omega⟩
          · obtain rfl : q = i := by omega
            as_aux_lemma =>
              go_wp2
              go_loopw [20] (fun iv wr => ∃ p : Nat, p ≤ nc ∧ iv = .int .i64 p ∧ Hid (KeptX (Wr bf1 q o1) V wr) ∧ Hid (∃ l : List Nat, l.length = nc ∧ Own wr o1 l)) (fun iv _ => nc - (intOf iv).toNat)
              case atStart => exact ⟨0, by omega, rfl, HMI.out.kept, HMI.out.cells⟩
              case round =>
                clear HMI
                obtain ⟨p, hp, rfl, HK, HC⟩ := hrel
                obtain ⟨x0, x1, x2, _, _, _⟩ := c3_of (HK.out.heap HX18.out HXX.out)
                by_cases hlt4 : p < nc
                · obtain ⟨l, hl1, hl2⟩ := HC.out
                  have co := hl2.cell p (by omega)
                  have fo := hl2.free p
                  have HK2 := hid (HK.out.setCell (p := ⟨o1, p, none⟩) (.inr rfl) (.int .u8 0))
                  have hc2 : ∃ l' : List Nat, l'.length = nc ∧ Own (wr.setCell ⟨o1, p, none⟩ (.int .u8 0)) o1 l' := ⟨l.set p 0, by rw [List.length_set]; exact hl1, hl2.set p 0⟩
                  have HC2 := hid hc2
                  generalize l.getD p 0 = z at *
                  clear hc2 hl1 hl2 HK HC
                  go_wp2
                  exact ⟨⟨p + 1, by omega, by go_num, HK2, HC2⟩, by simp [intOf]; omega⟩
                · obtain rfl : p = nc := by omega
                  have HWr := hid (HK.out.below HW8.out (fun b hb => HLO.out b (by have := HW1.out.size; omega)))
                  have hBr : Built wr W.heap.size := HK.out.heap HB8.out (HLO.out _ (by omega))
                  have hp2 : Pcs wr g2 w5.heap.size q L bf2 (encP d k L) := ⟨HK.out.heap HP28.out.own (HWX.out _ (fun i hi => by have := HBL.out i hi; omega) (by omega)), fun a ha => HK.out.heap (HP28.out.row a ha) (HWX.out _ (fun i hi => by have := HBL.out i hi; have := HP28.out.low a ha; omega) (by have := HP28.out.low a ha; omega)), HP28.out.low, HP28.out.inj, HP28.out.notb⟩
                  have hO2r : Own wr o2 (flat q k (genM k)) := HK.out.heap HO28.out (HHI.out _ (by omega))
                  have hX2r := HK.out.heap HX28.out (HHI.out w7.heap.size (by omega))
                  have HBR := hid hBr
                  have HP2 := hid hp2
                  have HO2 := hid hO2r
                  have HX2 := hid hX2r
                  clear hBr hp2 hO2r hX2r HC HK
                  as_aux_lemma =>
                    go_wp2_with (refine wpList_clone rfl (.tmp 144) (.tmp 145) rfl wr.heap.size rfl (heap_new wr _) da n dc d rfl ((HD.out.below HWr.out).alloc _) HDN.out (by omega) ?_)
                    intro a9 c9 w9 hd9 hnc9 hlow9 _ hk9
                    have hB9 : Below wr.heap.size wr w9 := ((Below.refl _ _).alloc (Nat.le_refl _) _).trans (hk9.below (by simp) (Nat.le_refl _))
                    have hfr := HBR.out.lt
                    have hs9 := hB9.size
                    have hoff9 : Off W.heap.size (.slice a9 n c9) := off_low (fun ad h => (hlow9 ad h).1) hfr
                    have hBu9 := HBR.out.below hB9 hfr
                    have hp29 := HP2.out.below hB9
                    have hO29 := HO2.out.below hB9 HO2.out.lt
                    have hX29 := (hB9.block _ (lt_of_heap HX2.out)).trans HX2.out
                    have hW9 := known_end HWr.out hB9
                    have HP29 := hid hp29
                    have HO29 := hid hO29
                    have HX29 := hid hX29
                    have HW9 := hid hW9
                    clear hk9 hlow9 hp29 hO29 hX29 hW9 hB9 HP2 HO2 HX2 HBR
                    go_wp2_with fail
                    refine (Encode_any W.heap.size k q a9 n c9 d _ (.inr hBu9) hd9 hoff9 hnc9 h1 h2 (by omega) (by omega)).mono ?_
                    rw [HLE.out]
                    rintro e w10 ⟨g3, bf3, hg3, rfl, hp3, hB10, hk10⟩
                    have hp210 := HP29.out.kept hk10 (by omega) (by omega)
                    have hO210 := (hk10.block o2 (lt_of_heap HO29.out) (by omega)).trans HO29.out
                    have hX210 := (hk10.block w7.heap.size (lt_of_heap HX29.out) (by omega)).trans HX29.out
                    have hW10 := HW9.out.trans (hk10.below (B := W.heap.size) (by have := HW9.out.size; omega) (Nat.le_refl _))
                    have hps2 := hp210.own.ps q q (by rw [mkps_length])
                    have hps3 := hp3.own.ps q q (by rw [mkps_length])
                    have hsame := same_yes (some ⟨g2, 0, none⟩) (some ⟨g3, 0, none⟩) q q q (mkps bf2 L q q) (mkps bf3 L q q) (fun i => encP d k L i) w10 hps2 hps3 (by omega) (fun i h h' => by
                        have hi : i < q := by rwa [mkps_length] at h
                        rw [mkps_get _ _ _ _ _ h hi, mkps_get _ _ _ _ _ h' hi])
                      (fun i h => by
                        have hi : i < q := by rwa [mkps_length] at h
                        rw [mkps_get _ _ _ _ _ h hi]
                        exact row_bs HDL.out (hp210.row i hi))
                      (fun i h => by
                        have hi : i < q := by rwa [mkps_length] at h
                        rw [mkps_get _ _ _ _ _ h hi]
                        exact row_bs HDL.out (hp3.row i hi))
                    have HO210 := hid hO210
                    have HX210 := hid hX210
                    have HW10 := hid hW10
                    have HSAME := hid hsame
                    clear hp210 hO210 hX210 hW10 hps2 hps3 hsame hp3 hB10 hk10 hd9 hoff9 hBu9
                    go_wp2_with fail
                    refine HSAME.out.mono ?_
                    rintro e w11 ⟨rfl, hb11⟩
                    have hX211 := (hb11.block _ (lt_of_heap HX210.out)).trans HX210.out
                    have hO211 : Own w11 o2 (flat q k (genM k)) := (hb11.block _ (lt_of_heap HO210.out)).trans HO210.out
                    have HX211 := hid hX211
                    have HO211 := hid hO211
                    have HW11 := hid (known_end HW10.out hb11)
                    obtain ⟨x0, x1, x2, _, _, _⟩ := c3_of hX211
                    clear hX211 hO211 hb11
                    go_wp2_with fail
                    refine (Valid_yes q k p _ p (by omega) (by omega) h1 (by omega) HNCE.out.symm _).mono ?_
                    rintro e w12 ⟨rfl, hb12⟩
                    clear x0 x1 x2
                    obtain ⟨x0, x1, x2, _, _, _⟩ := c3_of ((hb12.block _ (lt_of_heap HX211.out)).trans HX211.out)
                    have co := (HO211.out.below hb12 HO211.out.lt).cell (0 * k + 0) (by rw [flat_length]; exact ix_lt (by omega) (by omega))
                    rw [flat_getD _ (by omega) (by omega), genM_one k h1, Nat.zero_mul, Nat.add_zero] at co
                    have hnc0 : 0 < p := by rw [← HNCE.out]; exact Nat.mul_pos (by omega) (by omega)
                    have HW12 := hid (known_end HW11.out hb12)
                    go_wp2_with fail
                    refine (known_any _).mono ?_
                    rintro e0 w13 ⟨rfl, hb13⟩
                    go_wp2
                    go_ret
                    exact ⟨rfl, known_end HW12.out hb13⟩
end Go.Proofs.Ytndkcabmaigneaa
