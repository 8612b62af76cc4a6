/-
  Identity, Vandermonde, Generator: the matrices of the code.
-/
import Derived.Test.YtfleplbdcpdphaaSel
import Derived.Test.YtfleplbdcpdphaaLawM2
namespace Go.Proofs.Ytfleplbdcpdphaa
open Go Go.RowKit
set_option linter.unusedVariables false

/-- what a loop that fills a new matrix keeps: its cells, the result's box, the matrix's box -/
structure OInv (ob xb rb R C : Nat) (M : Nat → Nat → Nat) (wr : World) : Prop where
  out : Own wr ob (flat R C M)
  br : wr.heap[rb]? = some (Obj.cells #[.int .i64 0, .int .i64 0, .slice none 0 0] 52)
  bx : wr.heap[xb]? = some (Obj.cells #[.int .i64 R, .int .i64 C, .slice (some ⟨ob, 0, none⟩) (R * C : Nat) (R * C : Nat)] 52)
  low : rb ≠ ob ∧ xb ≠ ob ∧ rb ≠ xb
theorem OInv.step {ob xb rb R C : Nat} {M N : Nat → Nat → Nat} {wr w2 w3 : World} (h : OInv ob xb rb R C M wr) (h1 : Below wr.heap.size wr w2) (h2 : Kept ob w2 w3) (ho : Own w3 ob (flat R C N)) : OInv ob xb rb R C N w3 := by
  obtain ⟨n1, n2, n3⟩ := h.low
  have hs := h1.size
  have hk : ∀ q o, wr.heap[q]? = some o → q ≠ ob → w3.heap[q]? = some o := fun q o hq hne => by
    have hl := lt_of_heap hq
    exact (h2.block q (by omega) hne).trans ((h1.block q hl).trans hq)
  exact ⟨ho, hk _ _ h.br n1, hk _ _ h.bx n2, h.low⟩
theorem OInv.below {ob xb rb R C : Nat} {M : Nat → Nat → Nat} {wr w2 : World} (h : OInv ob xb rb R C M wr) (h1 : Below wr.heap.size wr w2) : OInv ob xb rb R C M w2 := h.step h1 (Kept.refl _ _) (h.out.below h1 h.out.lt)
theorem OInv.congr {ob xb rb R C : Nat} {M N : Nat → Nat → Nat} {wr : World} (h : OInv ob xb rb R C M wr) (he : ∀ i j, i < R → j < C → M i j = N i j) : OInv ob xb rb R C N wr := ⟨by rw [← flat_congr he]; exact h.out, h.br, h.bx, h.low⟩

/-- the result of such a function -/
theorem OInv.res {ob xb rb R C : Nat} {M : Nat → Nat → Nat} {wr : World} {B : Nat} (h : OInv ob xb rb R C M wr) (hM : ∀ i j, M i j < 256) (hB : B ≤ ob) :
    MatRes B R C (flat R C M) 0 (.returned (.tuple #[.agg #[.int .i64 R, .int .i64 C, .slice (some ⟨ob, 0, none⟩) (R * C : Nat) (R * C : Nat)], .int .i64 0])) (((wr.setCell ⟨rb, 0, none⟩ (.int .i64 R)).setCell ⟨rb, 1, none⟩ (.int .i64 C)).setCell ⟨rb, 2, none⟩ (.slice (some ⟨ob, 0, none⟩) (R * C : Nat) (R * C : Nat))) := by
  refine ⟨_, _, _, rfl, ?_, fun ad h => by cases h; exact hB⟩
  have hne := h.low.1
  have h5 := (((h.out.setCell (p := ⟨rb, 0, none⟩) hne (.int .i64 R)).setCell (p := ⟨rb, 1, none⟩) hne (.int .i64 C)).setCell (p := ⟨rb, 2, none⟩) hne (.slice (some ⟨ob, 0, none⟩) (R * C : Nat) (R * C : Nat))).bs (flat_lt hM) (R * C)
  rw [flat_length] at h5
  exact h5

def idTo (k : Nat) : Nat → Nat → Nat := fun i j => if i = j ∧ i < k then 1 else 0
def idM : Nat → Nat → Nat := fun i j => if i = j then 1 else 0
theorem idTo_lt (k i j : Nat) : idTo k i j < 256 := by unfold idTo; split <;> omega
theorem idM_lt (i j : Nat) : idM i j < 256 := by unfold idM; split <;> omega
theorem idTo_step (k i j : Nat) : setM (idTo k) k k 1 i j = idTo (k + 1) i j := by
  unfold setM idTo
  by_cases e : i = k ∧ j = k
  · rw [if_pos e, if_pos (by omega)]
  · rw [if_neg e]
    by_cases h : i = j ∧ i < k
    · rw [if_pos h, if_pos (by omega)]
    · rw [if_neg h, if_neg (by omega)]

set_option maxRecDepth 100000 in
set_option maxHeartbeats 1000000 in
theorem Identity_ok (n : Nat) (h1 : 1 ≤ n) (h2 : n ≤ 255) (w : World) :
    Calls Try.prog 56 #[.int .i64 n] w fun e w' => MatRes w.heap.size n n (flat n n idM) 0 e w' ∧ Below w.heap.size w w' := by
  have hnot : ∀ (x : Bool) (w : World), (Op.unary .not (.bool x)).run Try.prog w = .ok (.bool (!x)) w := fun _ _ => rfl
  obtain ⟨w1, hw1⟩ : ∃ w1, w1 = w.alloc (Obj.cells #[.int .i64 0, .int .i64 0, .slice none 0 0] 52) := ⟨_, rfl⟩
  have hbel : Below w.heap.size w w1 := by rw [hw1]; exact (Below.refl _ _).alloc (Nat.le_refl _) _
  have h0 : w1.heap[w.heap.size]? = some (Obj.cells #[.int .i64 0, .int .i64 0, .slice none 0 0] 52) := by rw [hw1]; exact heap_new _ _
  have hs1 : w1.heap.size = w.heap.size + 1 := by rw [hw1]; simp
  have H0 := hid h0
  have HS := hid hs1
  clear h0 hs1
  go_enter Try.func56, Try.ntmps56
  go_wp2_with fail
  rw [← hw1]
  clear hw1
  refine (inRange_yes n (by omega) (by omega) _).mono ?_
  rintro e w' ⟨rfl, rfl⟩
  go_wp2_with fail
  refine (zeros_any n n (by omega) (by omega) _).mono ?_
  rintro e w2 ⟨ob, hob, rfl, ho2, hb2⟩
  have hinv : OInv ob w2.heap.size w.heap.size n n (idTo 0) (w2.alloc (Obj.cells #[.int .i64 n, .int .i64 n, .slice (some ⟨ob, 0, none⟩) (n * n : Nat) (n * n : Nat)] 52)) := by
    have hS := HS.out
    have hl := ho2.lt
    refine ⟨?_, heap_alloc ((hb2.block _ (by omega)).trans H0.out) _, heap_new _ _, by omega, by omega, by have := hb2.size; omega⟩
    rw [flat_congr (fun i j _ _ => show idTo 0 i j = 0 from by unfold idTo; rw [if_neg (by omega)])]
    exact ho2.alloc _
  have HINV := hid hinv
  have HW := hid ((known_end hbel hb2).alloc (known_end hbel hb2).size (Obj.cells #[.int .i64 n, .int .i64 n, .slice (some ⟨ob, 0, none⟩) (n * n : Nat) (n * n : Nat)] 52))
  have hlow : w.heap.size + 1 ≤ ob := by rw [← HS.out]; exact hob
  have hnn : n * n ≤ 65025 := Nat.mul_le_mul h2 h2
  clear hinv hbel hb2 ho2 hob
  generalize hnc : n * n = nc at *
  have HNC := hid hnc
  clear hnc
  go_wp2
  go_loopw [14] (fun iv wr => ∃ i : Nat, i ≤ n ∧ iv = .int .i64 i ∧ Hid (OInv ob w2.heap.size w.heap.size n n (idTo i) wr) ∧ Hid (Below w.heap.size w wr)) (fun iv _ => n - (intOf iv).toNat)
  case atStart => exact ⟨0, by omega, rfl, HINV, HW⟩
  case round =>
    clear HINV HW
    obtain ⟨i, hi, rfl, HINV, HW⟩ := hrel
    by_cases hlt : i < n
    · obtain ⟨a0, a1, a2, _, _, _⟩ := c3_of HINV.out.bx
      rw [HNC.out] at a2
      go_wp2_with fail
      refine (row0_any n n i ob nc nc hlt h1 (by omega) (by omega) HNC.out.symm (Nat.le_refl _) _).mono ?_
      rintro e w6 ⟨rfl, hb6⟩
      have hinv6 := HINV.out.below hb6
      have co := hinv6.out.cell (i * n + i) (by rw [flat_length]; exact ix_lt hlt hlt)
      have fo := hinv6.out.free (i * n + i)
      have hst : OInv ob w2.heap.size w.heap.size n n (idTo (i + 1)) (w6.setCell ⟨ob, i * n + i, none⟩ (.int .u8 1)) := by
        refine hinv6.step (Below.refl _ _) (Kept.setCell (p := ⟨ob, i * n + i, none⟩) (Kept.refl ob w6) rfl _) ?_
        have h5 := hinv6.out.set (i * n + i) 1
        rw [flat_set _ hlt hlt, flat_congr (fun a b _ _ => idTo_step i a b)] at h5
        exact h5
      have HST := hid hst
      have HW6 := hid ((known_end HW.out hb6).setCell (p := ⟨ob, i * n + i, none⟩) (by show w.heap.size ≤ ob; omega) (.int .u8 1))
      have hle := ix_le (C := n) hlt
      rw [HNC.out] at hle
      clear hst hinv6 hb6 a0 a1 a2 HINV HW
      generalize (flat n n (idTo i)).getD (i * n + i) 0 = z at *
      generalize i * n = q at *
      go_wp2
      exact ⟨⟨i + 1, by omega, by go_num, HST, HW6⟩, by simp [intOf]; omega⟩
    · obtain rfl : i = n := by omega
      obtain ⟨a0, a1, a2, _, _, _⟩ := c3_of HINV.out.bx
      rw [HNC.out] at a2
      obtain ⟨d0, d1, d2, f0, f1, f2⟩ := c3_of HINV.out.br
      have hres := (HINV.out.congr (N := idM) fun a b ha _ => by unfold idTo idM; by_cases e : a = b <;> simp [e]; omega).res idM_lt (B := w.heap.size) (by omega)
      rw [HNC.out] at hres
      have HRES := hid hres
      clear hres
      go_wp2
      refine bodyPost_ret (v := .tuple #[.agg #[.int .i64 i, .int .i64 i, .slice (some ⟨ob, 0, none⟩) nc nc], .int .i64 0]) (by simp [results, Try.results56, go_sem, d0, d1, d2]) rfl ⟨HRES.out, ?_⟩
      exact ((HW.out.setCell (by simp) _).setCell (by simp) _).setCell (by simp) _
theorem Identity_bad (n : Int) (h : ¬ (1 ≤ n ∧ n ≤ 255)) (w : World) :
    Calls Try.prog 56 #[.int .i64 n] w fun e w' => MatRes w.heap.size 0 0 [] 2 e w' ∧ Below w.heap.size w w' := by
  have hnot : ∀ (x : Bool) (w : World), (Op.unary .not (.bool x)).run Try.prog w = .ok (.bool (!x)) w := fun _ _ => rfl
  have H := hid h
  clear h
  go_enter Try.func56, Try.ntmps56
  go_wp2_with fail
  refine (inRange_no n H.out _).mono ?_
  rintro e w' ⟨rfl, rfl⟩
  go_wp2
  refine bodyPost_ret (v := .tuple #[.agg #[.int .i64 0, .int .i64 0, .slice none 0 0], .int .i64 2]) (by simp [results, Try.results56, go_sem]) rfl ⟨⟨none, 0, 0, rfl, bs_nil _, fun _ h => by cases h⟩, ?_⟩
  first | exact (((Below.refl _ _).alloc (Nat.le_refl _) _).setCell (by simp) _ |>.setCell (by simp) _).setCell (by simp) _ | exact (Below.refl _ _).alloc (Nat.le_refl _) _

/-- the powers of the row numbers -/
def vdM : Nat → Nat → Nat := fun r c => Gf.pw r c
/-- the rows before r, and the first c of row r -/
def vdTo (r c : Nat) : Nat → Nat → Nat := fun i j => if i < r ∨ (i = r ∧ j < c) then Gf.pw i j else 0
theorem vdTo_step (r c i j : Nat) : setM (vdTo r c) r c (Gf.pw r c) i j = vdTo r (c + 1) i j := by
  unfold setM vdTo
  by_cases e : i = r ∧ j = c
  · obtain ⟨rfl, rfl⟩ := e
    rw [if_pos ⟨rfl, rfl⟩, if_pos (by omega)]
  · rw [if_neg e]
    by_cases h : i < r ∨ (i = r ∧ j < c)
    · rw [if_pos h, if_pos (by omega)]
    · rw [if_neg h, if_neg (by omega)]
theorem vdTo_row {C : Nat} (r i j : Nat) (hj : j < C) : vdTo r C i j = vdTo (r + 1) 0 i j := by
  unfold vdTo
  by_cases h : i < r ∨ (i = r ∧ j < C)
  · rw [if_pos h, if_pos (by omega)]
  · rw [if_neg h, if_neg (by omega)]

set_option maxRecDepth 100000 in
set_option maxHeartbeats 1000000 in
theorem Vandermonde_ok (fb R C : Nat) (h1 : 1 ≤ R) (h2 : R ≤ 255) (h3 : 1 ≤ C) (h4 : C ≤ 255) (w : World) (hF : Fld w fb) :
    Calls Try.prog 61 #[.pointer (some ⟨fb, 0, none⟩), .int .i64 R, .int .i64 C] w fun e w' => ∃ ob, w.heap.size ≤ ob ∧ e = .returned (.tuple #[.agg #[.int .i64 R, .int .i64 C, .slice (some ⟨ob, 0, none⟩) (R * C : Nat) (R * C : Nat)], .int .i64 0]) ∧ Own w' ob (flat R C fun r c => if r < R then vdM r c else 0) ∧ Built w' fb ∧ Kept fb w w' := by
  have hnot : ∀ (x : Bool) (w : World), (Op.unary .not (.bool x)).run Try.prog w = .ok (.bool (!x)) w := fun _ _ => rfl
  obtain ⟨w1, hw1⟩ : ∃ w1, w1 = w.alloc (Obj.cells #[.int .i64 0, .int .i64 0, .slice none 0 0] 52) := ⟨_, rfl⟩
  have hbel : Below w.heap.size w w1 := by rw [hw1]; exact (Below.refl _ _).alloc (Nat.le_refl _) _
  have h0 : w1.heap[w.heap.size]? = some (Obj.cells #[.int .i64 0, .int .i64 0, .slice none 0 0] 52) := by rw [hw1]; exact heap_new _ _
  have hs1 : w1.heap.size = w.heap.size + 1 := by rw [hw1]; simp
  have hF1 : Fld w1 fb := by rw [hw1]; exact hF.alloc _
  have hfb := hF.lt
  have H0 := hid h0
  have HS := hid hs1
  have HF := hid hF1
  clear h0 hs1 hF hF1
  go_enter Try.func61, Try.ntmps61
  go_wp2_with fail
  rw [← hw1]
  clear hw1
  refine (inRange_yes R (by omega) (by omega) _).mono ?_
  rintro e w' ⟨rfl, rfl⟩
  go_wp2_with fail
  refine (inRange_yes C (by omega) (by omega) _).mono ?_
  rintro e w' ⟨rfl, rfl⟩
  go_wp2_with fail
  refine (build_any fb _ HF.out).mono ?_
  rintro e w2 ⟨rfl, hB2, hk2⟩
  have hsk := hk2.size
  go_wp2_with fail
  refine (zeros_any R C (by omega) (by omega) _).mono ?_
  rintro e w3 ⟨ob, hob, rfl, ho3, hb3⟩
  have hlow : w.heap.size + 1 ≤ ob := by rw [← HS.out]; omega
  have hinv : OInv ob w3.heap.size w.heap.size R C (vdTo 0 0) (w3.alloc (Obj.cells #[.int .i64 R, .int .i64 C, .slice (some ⟨ob, 0, none⟩) (R * C : Nat) (R * C : Nat)] 52)) := by
    have hS := HS.out
    have hl := ho3.lt
    refine ⟨?_, heap_alloc ((hb3.block _ (by omega)).trans ((hk2.block _ (by omega) (by omega)).trans H0.out)) _, heap_new _ _, by omega, by omega, by have := hb3.size; omega⟩
    rw [flat_congr (fun i j _ _ => show vdTo 0 0 i j = 0 from by unfold vdTo; rw [if_neg (by omega)])]
    exact ho3.alloc _
  have HINV := hid hinv
  have HB := hid ((hB2.below hb3 hB2.lt).alloc (Obj.cells #[.int .i64 R, .int .i64 C, .slice (some ⟨ob, 0, none⟩) (R * C : Nat) (R * C : Nat)] 52))
  have HK := hid ((((Kept.of_below hbel).trans hk2).trans (Kept.of_below hb3)).alloc (Obj.cells #[.int .i64 R, .int .i64 C, .slice (some ⟨ob, 0, none⟩) (R * C : Nat) (R * C : Nat)] 52))
  have hnn : R * C ≤ 65025 := Nat.mul_le_mul h2 h4
  clear hinv hbel hb3 ho3 hk2 hB2
  generalize hnc : R * C = nc at *
  have HNC := hid hnc
  clear hnc
  go_wp2
  go_loopw [29] (fun iv wr => ∃ r : Nat, r ≤ R ∧ iv = .int .i64 r ∧ Hid (OInv ob w3.heap.size w.heap.size R C (vdTo r 0) wr) ∧ Hid (Built wr fb) ∧ Hid (Kept fb w wr)) (fun iv _ => R - (intOf iv).toNat)
  case atStart => exact ⟨0, by omega, rfl, HINV, HB, HK⟩
  case round =>
    clear HINV HB HK
    obtain ⟨r, hr, rfl, HINV, HB, HK⟩ := hrel
    by_cases hlt : r < R
    · go_wp2
      go_loopw [33] (fun jv wr => ∃ c : Nat, c ≤ C ∧ jv = .int .i64 c ∧ Hid (OInv ob w3.heap.size w.heap.size R C (vdTo r c) wr) ∧ Hid (Built wr fb) ∧ Hid (Kept fb w wr)) (fun jv _ => C - (intOf jv).toNat)
      case atStart => exact ⟨0, by omega, rfl, HINV, HB, HK⟩
      case round =>
        clear HINV HB HK
        obtain ⟨c, hc, rfl, HINV, HB, HK⟩ := hrel
        by_cases hlt2 : c < C
        · obtain ⟨a0, a1, a2, _, _, _⟩ := c3_of HINV.out.bx
          rw [HNC.out] at a2
          go_wp2_with fail
          refine (row0_any R C r ob nc nc hlt h3 (by omega) (by omega) HNC.out.symm (Nat.le_refl _) _).mono ?_
          rintro e w6 ⟨rfl, hb6⟩
          have hinv6 := HINV.out.below hb6
          have hB6 := HB.out.below hb6 HB.out.lt
          have hpw := power_any fb r (c : Int) (by omega) w6 hB6
          rw [Int.toNat_natCast] at hpw
          have hle := ix_le (C := C) hlt
          rw [HNC.out] at hle
          have HK6 := hid (HK.out.trans (Kept.of_below hb6))
          have HI6 := hid hinv6
          have HB6 := hid hB6
          clear hinv6 hb6 a0 a1 a2 HINV HB HK hB6
          go_wp2_with fail
          refine hpw.mono ?_
          rintro e w7 ⟨rfl, nq, rfl⟩
          have hinv7 := HI6.out.step (Below.refl _ _) ((Kept.refl ob w6).drewN nq) (HI6.out.out.drewN nq)
          have co := hinv7.out.cell (r * C + c) (by rw [flat_length]; exact ix_lt hlt hlt2)
          have fo := hinv7.out.free (r * C + c)
          have hst : OInv ob w3.heap.size w.heap.size R C (vdTo r (c + 1)) ((w6.drewN nq).setCell ⟨ob, r * C + c, none⟩ (.int .u8 (Gf.pw r c : Nat))) := by
            refine hinv7.step (Below.refl _ _) (Kept.setCell (p := ⟨ob, r * C + c, none⟩) (Kept.refl ob _) rfl _) ?_
            have h5 := hinv7.out.set (r * C + c) (Gf.pw r c)
            rw [flat_set _ hlt hlt2, flat_congr (fun a b _ _ => vdTo_step r c a b)] at h5
            exact h5
          have HST := hid hst
          have HB7 := hid ((HB6.out.drewN nq).setCell (p := ⟨ob, r * C + c, none⟩) (by show ob ≠ fb; omega) (.int .u8 (Gf.pw r c : Nat)))
          have HK7 := hid ((HK6.out.drewN nq).setNew (p := ⟨ob, r * C + c, none⟩) (by show w.heap.size ≤ ob; omega) (.int .u8 (Gf.pw r c : Nat)))
          clear hst hinv7 hpw
          generalize (flat R C (vdTo r c)).getD (r * C + c) 0 = z at *
          generalize Gf.pw r c = y at *
          generalize r * C = q at *
          go_wp2
          exact ⟨⟨c + 1, by omega, by go_num, HST, HB7, HK7⟩, by simp [intOf]; omega⟩
        · obtain rfl : c = C := by omega
          have HN := hid (HINV.out.congr (N := vdTo (r + 1) 0) fun a b _ hb => vdTo_row r a b hb)
          clear HINV
          go_wp2
          exact ⟨⟨r + 1, by omega, by go_num, HN, HB, HK⟩, by simp [intOf]; omega⟩
    · obtain rfl : r = R := by omega
      obtain ⟨a0, a1, a2, _, _, _⟩ := c3_of HINV.out.bx
      rw [HNC.out] at a2
      obtain ⟨d0, d1, d2, f0, f1, f2⟩ := c3_of HINV.out.br
      have hinv := HINV.out.congr (N := fun i j => if i < r then vdM i j else 0) fun a b ha _ => by unfold vdTo vdM; rw [if_pos (by omega), if_pos ha]
      have hne := hinv.low.1
      go_wp2
      refine bodyPost_ret (v := .tuple #[.agg #[.int .i64 r, .int .i64 C, .slice (some ⟨ob, 0, none⟩) nc nc], .int .i64 0]) (by simp [results, Try.results61, go_sem, d0, d1, d2]) rfl ⟨ob, by omega, by rw [HNC.out], ?_, ?_, ?_⟩
      · exact ((hinv.out.setCell hne _).setCell hne _).setCell hne _
      · exact ((HB.out.setCell (by simp; omega) _).setCell (by simp; omega) _).setCell (by simp; omega) _
      · exact ((HK.out.setNew (by simp) _).setNew (by simp) _).setNew (by simp) _
theorem Vandermonde_bad (fb : Nat) (r c : Int) (h : ¬ (1 ≤ r ∧ r ≤ 255 ∧ 1 ≤ c ∧ c ≤ 255)) (w : World) :
    Calls Try.prog 61 #[.pointer (some ⟨fb, 0, none⟩), .int .i64 r, .int .i64 c] w fun e w' => MatRes w.heap.size 0 0 [] 2 e w' ∧ Below w.heap.size w w' := by
  have hnot : ∀ (x : Bool) (w : World), (Op.unary .not (.bool x)).run Try.prog w = .ok (.bool (!x)) w := fun _ _ => rfl
  by_cases h1 : 1 ≤ r ∧ r ≤ 255
  · have h2 : ¬ (1 ≤ c ∧ c ≤ 255) := fun h2 => h ⟨h1.1, h1.2, h2⟩
    have H1 := hid h1
    have H2 := hid h2
    clear h h1 h2
    go_enter Try.func61, Try.ntmps61
    go_wp2_with fail
    refine (inRange_yes r H1.out.1 H1.out.2 _).mono ?_
    rintro e w' ⟨rfl, rfl⟩
    go_wp2_with fail
    refine (inRange_no c H2.out _).mono ?_
    rintro e w' ⟨rfl, rfl⟩
    go_wp2
    refine bodyPost_ret (v := .tuple #[.agg #[.int .i64 0, .int .i64 0, .slice none 0 0], .int .i64 2]) (by simp [results, Try.results61, go_sem]) rfl ⟨⟨none, 0, 0, rfl, bs_nil _, fun _ h => by cases h⟩, ?_⟩
    first | exact (((Below.refl _ _).alloc (Nat.le_refl _) _).setCell (by simp) _ |>.setCell (by simp) _).setCell (by simp) _ | exact (Below.refl _ _).alloc (Nat.le_refl _) _
  · have H1 := hid h1
    clear h h1
    go_enter Try.func61, Try.ntmps61
    go_wp2_with fail
    refine (inRange_no r H1.out _).mono ?_
    rintro e w' ⟨rfl, rfl⟩
    go_wp2
    refine bodyPost_ret (v := .tuple #[.agg #[.int .i64 0, .int .i64 0, .slice none 0 0], .int .i64 2]) (by simp [results, Try.results61, go_sem]) rfl ⟨⟨none, 0, 0, rfl, bs_nil _, fun _ h => by cases h⟩, ?_⟩
    first | exact (((Below.refl _ _).alloc (Nat.le_refl _) _).setCell (by simp) _ |>.setCell (by simp) _).setCell (by simp) _ | exact (Below.refl _ _).alloc (Nat.le_refl _) _
end Go.Proofs.Ytfleplbdcpdphaa
