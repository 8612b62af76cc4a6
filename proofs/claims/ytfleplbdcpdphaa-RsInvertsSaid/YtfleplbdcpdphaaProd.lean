/-
  Product: the product of two matrices.
-/
import Derived.Test.YtfleplbdcpdphaaMatO
import Derived.Test.YtfleplbdcpdphaaRSplit
import Derived.Test.YtfleplbdcpdphaaOnce
namespace Go.Proofs.Ytfleplbdcpdphaa
open Go Go.RowKit
set_option linter.unusedVariables false

theorem Off.ne {b : Nat} {a : Addr} {n c : Nat} (h : Off b (.slice (some a) n c)) : a.block ≠ b := h
theorem c3_at {w w' : World} {b B : Nat} {x y z : Value} {t : TypeId} (h : w.heap[b]? = some (.cells #[x, y, z] t (0, 0))) (k : Below B w w') (hb : b < B) : C3 w' b x y z := c3_of ((k.block b hb).trans h)
theorem row0_any (R C r b n cap : Nat) (hr : r < R) (hC : 1 ≤ C) (hC2 : C ≤ 1000) (hR : R ≤ 1000) (hn : n = R * C) (hcap : n ≤ cap) (w : World) :
    Calls Try.prog 91 #[.agg #[.int .i64 R, .int .i64 C, .slice (some ⟨b, 0, none⟩) n cap], .int .i64 r] w fun e w' => e = .returned (.slice (some ⟨b, r * C, none⟩) C (cap - r * C)) ∧ Below w.heap.size w w' := by
  have h := row_any R C r b 0 n cap hr hC hC2 hR hn hcap w
  rwa [Nat.zero_add] at h
/-- a row of a matrix as bytes -/
theorem Bs.row {w : World} {b o R C n cap : Nat} {M : Nat → Nat → Nat} (h : Bs w (.slice (some ⟨b, o, none⟩) n cap) (flat R C M)) (r : Nat) (hr : r < R) (c : Nat) : Bs w (.slice (some ⟨b, o + r * C, none⟩) C c) (rowL C M r) := by
  have hlt := h.lt
  have hle := ix_le (C := C) hr
  refine ⟨_, c, by rw [rowL_length], fun x hx => ?_, fun _ => ⟨b, o + r * C, rfl, fun i hi => ?_⟩⟩
  · unfold rowL at hx
    obtain ⟨j, hj, rfl⟩ := List.mem_map.1 hx
    rw [← flat_getD M hr (List.mem_range.1 hj)]
    exact hlt _
  · rw [rowL_length] at hi
    rw [rowL_getD M r hi, ← flat_getD M hr hi, Nat.add_assoc]
    exact h.cell _ (by rw [flat_length]; exact ix_lt hr hi)

theorem flat_ne {R C : Nat} {M : Nat → Nat → Nat} (h1 : 1 ≤ R) (h2 : 1 ≤ C) : flat R C M ≠ [] := by
  intro e
  have h := flat_length R C M
  rw [e] at h
  have := Nat.mul_le_mul h1 h2
  simp at h
  omega
theorem Bs.some {w : World} {a : Option Addr} {n c : Nat} {l : List Nat} (h : Bs w (.slice a n c) l) (hl : l ≠ []) : ∃ b o, a = some ⟨b, o, none⟩ := by
  rcases h.addr with ⟨h0, _⟩ | ⟨_, b, o, c', hv⟩
  · exact absurd h0 hl
  · simp only [Value.slice.injEq] at hv
    exact ⟨b, o, hv.1⟩
/-- what the loops of Product keep -/
structure PInv (fb ob B xb R K C : Nat) (a b : Option Addr) (na nb ca cb : Nat) (A M : Nat → Nat → Nat) (w wr : World) (r i : Nat) : Prop where
  built : Built wr fb
  out : Own wr ob (flat R C (prodAt A M K r i))
  ba : wr.heap[B]? = some (Obj.cells #[.int .i64 R, .int .i64 K, .slice a na ca] 52)
  bb : wr.heap[B + 1]? = some (Obj.cells #[.int .i64 K, .int .i64 C, .slice b nb cb] 52)
  br : wr.heap[B + 2]? = some (Obj.cells #[.int .i64 0, .int .i64 0, .slice none 0 0] 52)
  bx : wr.heap[xb]? = some (Obj.cells #[.int .i64 R, .int .i64 C, .slice (some ⟨ob, 0, none⟩) (R * C : Nat) (R * C : Nat)] 52)
  fa : Bs wr (.slice a na ca) (flat R K A)
  fm : Bs wr (.slice b nb cb) (flat K C M)
  offa : Off ob (.slice a na ca)
  offb : Off ob (.slice b nb cb)
  kept : Kept fb w wr
  ne : fb ≠ ob ∧ B + 2 < ob ∧ xb ≠ ob ∧ w.heap.size ≤ ob
theorem PInv.step {fb ob B xb R K C : Nat} {a b : Option Addr} {na nb ca cb : Nat} {A M : Nat → Nat → Nat} {w wr w2 w3 : World} {r i r' i' : Nat} (h : PInv fb ob B xb R K C a b na nb ca cb A M w wr r i) (h1 : Below wr.heap.size wr w2) (h2 : Kept ob w2 w3) (ho : Own w3 ob (flat R C (prodAt A M K r' i'))) :
    PInv fb ob B xb R K C a b na nb ca cb A M w w3 r' i' := by
  obtain ⟨n1, n2, n3, n4⟩ := h.ne
  have hs := h1.size
  have hk : ∀ q o, wr.heap[q]? = some o → q ≠ ob → w3.heap[q]? = some o := fun q o hq hne => by
    have hl := lt_of_heap hq
    exact (h2.block q (by omega) hne).trans ((h1.block q hl).trans hq)
  refine ⟨hk fb _ h.built n1, ho, hk _ _ h.ba (by omega), hk _ _ h.bb (by omega), hk _ _ h.br (by omega), hk _ _ h.bx n3, (h.fa.below h1).kept h2 h.offa, (h.fm.below h1).kept h2 h.offb, h.offa, h.offb, ?_, h.ne⟩
  have h5 := h.kept.trans (Kept.of_below h1)
  exact ⟨h2.os.trans h5.os, h2.tape.trans h5.tape, h2.output.trans h5.output, Nat.le_trans h5.size h2.size, fun k hk hkb => (h2.block k (by have := h5.size; omega) (by omega)).trans (h5.block k hk hkb)⟩
theorem PInv.next {fb ob B xb R K C : Nat} {a b : Option Addr} {na nb ca cb : Nat} {A M : Nat → Nat → Nat} {w wr : World} {r : Nat} (h : PInv fb ob B xb R K C a b na nb ca cb A M w wr r K) : PInv fb ob B xb R K C a b na nb ca cb A M w wr (r + 1) 0 :=
  h.step (Below.refl _ _) (Kept.refl _ _) (by rw [← flat_congr (fun i j _ _ => prodAt_next A M K r i j)]; exact h.out)
theorem prodAt_all (A M : Nat → Nat → Nat) (K : Nat) {R : Nat} (i j : Nat) (hi : i < R) : prodAt A M K R 0 i j = prodTo A M K i j := by
  unfold prodAt
  rw [if_pos hi]
theorem prod_step_flat {R C r K i : Nat} (A M : Nat → Nat → Nat) (hr : r < R) : axTo (flat R C (prodAt A M K r i)) (r * C) (rowL C M i) (A r i) C = flat R C (prodAt A M K r (i + 1)) := by
  rw [axTo_flat _ hr]
  refine flat_congr fun a b ha hb => ?_
  rw [← prodAt_step]
  show (if a = r then _ ^^^ Gf.tm _ ((rowL C M i).getD b 0) else _) = (if a = r then _ else _)
  rw [rowL_getD M i hb]
theorem keep66 {w : World} {b b' : Nat} {x y z x' y' z' : Value} {t t' : TypeId} (h : w.heap[b]? = some (.cells #[x, y, z] t (0, 0))) (h' : w.heap[b']? = some (.cells #[x', y', z'] t' (0, 0))) :
    w.cell? ⟨b, 0, none⟩ = some x ∧ w.cell? ⟨b, 1, none⟩ = some y ∧ w.cell? ⟨b, 2, none⟩ = some z ∧ w.cell? ⟨b', 0, none⟩ = some x' ∧ w.cell? ⟨b', 1, none⟩ = some y' ∧ w.cell? ⟨b', 2, none⟩ = some z' := by
  obtain ⟨a0, a1, a2, _, _, _⟩ := c3_of h
  obtain ⟨b0, b1, b2, _, _, _⟩ := c3_of h'
  exact ⟨a0, a1, a2, b0, b1, b2⟩
theorem PInv.below {fb ob B xb R K C : Nat} {a b : Option Addr} {na nb ca cb : Nat} {A M : Nat → Nat → Nat} {w wr w2 : World} {r i : Nat} (h : PInv fb ob B xb R K C a b na nb ca cb A M w wr r i) (h1 : Below wr.heap.size wr w2) :
    PInv fb ob B xb R K C a b na nb ca cb A M w w2 r i := h.step h1 (Kept.refl _ _) (h.out.below h1 h.out.lt)

set_option maxRecDepth 100000 in
set_option maxHeartbeats 1000000 in
theorem Product_ok (fb R K C : Nat) (a b : Option Addr) (na nb ca cb : Nat) (A M : Nat → Nat → Nat) (w : World) (hF : Fld w fb) (hR : 1 ≤ R) (hR2 : R ≤ 255) (hK : 1 ≤ K) (hK2 : K ≤ 255) (hC : 1 ≤ C) (hC2 : C ≤ 255)
    (hna : na = R * K) (hnb : nb = K * C) (hca : na ≤ ca) (hcb : nb ≤ cb) (hAl : ∀ i j, A i j < 256) (hA : Bs w (.slice a na ca) (flat R K A)) (hM : Bs w (.slice b nb cb) (flat K C M)) (oA : Off fb (.slice a na ca)) (oM : Off fb (.slice b nb cb)) :
    Calls Try.prog 67 #[.pointer (some ⟨fb, 0, none⟩), .agg #[.int .i64 R, .int .i64 K, .slice a na ca], .agg #[.int .i64 K, .int .i64 C, .slice b nb cb]] w fun e w' => ∃ ob, w.heap.size ≤ ob ∧ e = .returned (.tuple #[.agg #[.int .i64 R, .int .i64 C, .slice (some ⟨ob, 0, none⟩) (R * C : Nat) (R * C : Nat)], .int .i64 0]) ∧ Own w' ob (flat R C (prodTo A M K)) ∧ Built w' fb ∧ Kept fb w w' := by
  have hnot : ∀ (x : Bool) (w : World), (Op.unary .not (.bool x)).run Try.prog w = .ok (.bool (!x)) w := fun _ _ => rfl
  have hoA : ∀ sb, w.heap.size ≤ sb → Off sb (.slice a na ca) := fun sb h => hA.off_ge (flat_ne hR hK) h
  have hoM : ∀ sb, w.heap.size ≤ sb → Off sb (.slice b nb cb) := fun sb h => hM.off_ge (flat_ne hK hC) h
  obtain ⟨ab, ao, rfl⟩ := hA.some (flat_ne hR hK)
  obtain ⟨bb, bo, rfl⟩ := hM.some (flat_ne hK hC)
  have HOA := hid hoA
  have HOM := hid hoM
  have HALT := hid hAl
  clear hoA hoM hAl
  obtain ⟨w1, hw1⟩ : ∃ w1, w1 = ((w.alloc (Obj.cells #[.int .i64 R, .int .i64 K, .slice (some ⟨ab, ao, none⟩) na ca] 52)).alloc (Obj.cells #[.int .i64 K, .int .i64 C, .slice (some ⟨bb, bo, none⟩) nb cb] 52)).alloc (Obj.cells #[.int .i64 0, .int .i64 0, .slice none 0 0] 52) := ⟨_, rfl⟩
  have hbel : Below w.heap.size w w1 := by rw [hw1]; exact (((Below.refl _ _).alloc (Nat.le_refl _) _).alloc (by simp) _).alloc (by simp; omega) _
  have h0 : w1.heap[w.heap.size]? = some (Obj.cells #[.int .i64 R, .int .i64 K, .slice (some ⟨ab, ao, none⟩) na ca] 52) := by rw [hw1]; exact heap_alloc (heap_alloc (heap_new _ _) _) _
  have h1 : w1.heap[w.heap.size + 1]? = some (Obj.cells #[.int .i64 K, .int .i64 C, .slice (some ⟨bb, bo, none⟩) nb cb] 52) := by
    rw [hw1]
    have h5 := heap_new (w.alloc (Obj.cells #[.int .i64 R, .int .i64 K, .slice (some ⟨ab, ao, none⟩) na ca] 52)) (Obj.cells #[.int .i64 K, .int .i64 C, .slice (some ⟨bb, bo, none⟩) nb cb] 52)
    rw [World.size_alloc] at h5
    exact heap_alloc h5 _
  have h2 : w1.heap[w.heap.size + 2]? = some (Obj.cells #[.int .i64 0, .int .i64 0, .slice none 0 0] 52) := by
    rw [hw1]
    have h5 := heap_new ((w.alloc (Obj.cells #[.int .i64 R, .int .i64 K, .slice (some ⟨ab, ao, none⟩) na ca] 52)).alloc (Obj.cells #[.int .i64 K, .int .i64 C, .slice (some ⟨bb, bo, none⟩) nb cb] 52)) (Obj.cells #[.int .i64 0, .int .i64 0, .slice none 0 0] 52)
    rw [World.size_alloc, World.size_alloc] at h5
    exact h5
  have hs1 : w1.heap.size = w.heap.size + 3 := by rw [hw1]; simp
  have hF1 : Fld w1 fb := by rw [hw1]; exact ((hF.alloc _).alloc _).alloc _
  have hfb := hF.lt
  have hA1 := hA.below hbel
  have hM1 := hM.below hbel
  obtain ⟨c0, c1, c2, _, _, _⟩ := c3_of h0
  have H0 := hid h0
  have H1 := hid h1
  have H2 := hid h2
  have HS := hid hs1
  have HNA := hid hna
  have HNB := hid hnb
  have HF := hid hF1
  clear h0 h1 h2 hs1 hna hnb hF hF1 hA hM
  go_enter Try.func67, Try.ntmps67
  go_wp2_with fail
  rw [← hw1]
  clear hw1
  refine (Valid_yes R K na _ ca hR hR2 hK hK2 HNA.out _).mono ?_
  rintro e w2 ⟨rfl, hb2⟩
  clear c0 c1 c2
  obtain ⟨c0, c1, c2, _, _, _⟩ := c3_at H1.out hb2 (by rw [HS.out]; omega)
  go_wp2_with fail
  refine (Valid_yes K C nb _ cb hK hK2 hC hC2 HNB.out _).mono ?_
  rintro e w3 ⟨rfl, hb3⟩
  clear c0 c1 c2
  have hb13 := hb2.trans (hb3.mono hb2.size)
  have hsz2 := hb2.size
  have hsz3 := hb3.size
  have hF3 : Fld w3 fb := by
    have h5 := hb13.block fb (by have := HF.out.lt; exact this)
    exact HF.out.elim (fun h => .inl (h5.trans h)) (fun h => .inr (h5.trans h))
  obtain ⟨a0, a1, a2, _, _, _⟩ := c3_at H0.out hb13 (by rw [HS.out]; omega)
  obtain ⟨b0, b1, b2, _, _, _⟩ := c3_at H1.out hb13 (by rw [HS.out]; omega)
  go_wp2_with fail
  refine (build_any fb _ hF3).mono ?_
  rintro e w4 ⟨rfl, hB4, hk4⟩
  clear a0 a1 a2 b0 b1 b2
  have k0 := (hk4.block _ (by rw [HS.out] at hsz2; omega) (by omega)).trans ((hb13.block _ (by rw [HS.out]; omega)).trans H0.out)
  have k1 := (hk4.block _ (by rw [HS.out] at hsz2; omega) (by omega)).trans ((hb13.block _ (by rw [HS.out]; omega)).trans H1.out)
  have k2 := (hk4.block _ (by rw [HS.out] at hsz2; omega) (by omega)).trans ((hb13.block _ (by rw [HS.out]; omega)).trans H2.out)
  obtain ⟨a0, a1, a2, _, _, _⟩ := c3_of k0
  obtain ⟨b0, b1, b2, _, _, _⟩ := c3_of k1
  have K0 := hid k0
  have K1 := hid k1
  have K2 := hid k2
  clear k0 k1 k2
  go_wp2_with fail
  refine (zeros_any R C (by omega) (by omega) _).mono ?_
  rintro e w5 ⟨ob, hob, rfl, ho5, hb5⟩
  clear a0 a1 a2 b0 b1 b2
  have hsz4 := hk4.size
  have hsz5 := hb5.size
  have hofl := ho5.lt
  have hB45 := hB4.lt
  have hinv : PInv fb ob w.heap.size w5.heap.size R K C (some ⟨ab, ao, none⟩) (some ⟨bb, bo, none⟩) na nb ca cb A M w (w5.alloc (Obj.cells #[.int .i64 R, .int .i64 C, .slice (some ⟨ob, 0, none⟩) (R * C : Nat) (R * C : Nat)] 52)) 0 0 := by
    have hS := HS.out
    have hkw : Kept fb w w5 := (Kept.of_below (hbel.trans (hb13.mono hbel.size))).trans (hk4.trans (Kept.of_below hb5))
    refine ⟨(hB4.below hb5 hB45).alloc _, ?_, heap_alloc ((hb5.block _ (by omega)).trans K0.out) _, heap_alloc ((hb5.block _ (by omega)).trans K1.out) _, heap_alloc ((hb5.block _ (by omega)).trans K2.out) _, heap_new _ _, ?_, ?_, ?_, ?_, hkw.alloc _, ⟨by omega, by omega, by omega, by omega⟩⟩
    · rw [flat_congr (fun i j _ _ => prodAt_zero A M K i j)]
      exact ho5.alloc _
    · exact ((((hA1.below hb13).kept hk4 oA).below hb5).alloc _)
    · exact ((((hM1.below hb13).kept hk4 oM).below hb5).alloc _)
    · exact HOA.out _ (by omega)
    · exact HOM.out _ (by omega)
  have HINV := hid hinv
  have hRC : R * C ≤ 65025 := Nat.mul_le_mul hR2 hC2
  have hx := hinv.bx
  obtain ⟨a0, a1, a2, _, _, _⟩ := c3_of hinv.ba
  clear hinv ho5 hb5 hA1 hM1 hbel hb13 hF3 hB4 hB45 hk4 hb2 hb3 hofl hx
  generalize hrc : R * C = rc at *
  have HRC := hid hrc
  clear hrc
  go_wp2
  go_loopw [39] (fun iv wr => ∃ r : Nat, r ≤ R ∧ iv = .int .i64 r ∧ Hid (PInv fb ob w.heap.size w5.heap.size R K C (some ⟨ab, ao, none⟩) (some ⟨bb, bo, none⟩) na nb ca cb A M w wr r 0)) (fun iv _ => R - (intOf iv).toNat)
  case atStart => exact ⟨0, by omega, rfl, HINV⟩
  case round =>
    clear HINV a0 a1 a2
    obtain ⟨r, hr, rfl, HINV⟩ := hrel
    by_cases hlt : r < R
    · obtain ⟨a0, a1, a2, _, _, _⟩ := c3_of HINV.out.ba
      go_wp2_with fail
      refine (row_any R K r ab ao na ca hlt hK (by omega) (by omega) HNA.out hca _).mono ?_
      rintro e w6 ⟨rfl, hb6⟩
      have hinv6 := HINV.out.below hb6
      have HINV6 := hid hinv6
      have hcapK : na = R * K := HNA.out
      clear HINV hinv6 hb6 a0 a1 a2 hcapK
      go_wp2
      go_loopw [46] (fun iv wr => ∃ i : Nat, i ≤ K ∧ iv = .int .i64 i ∧ Hid (PInv fb ob w.heap.size w5.heap.size R K C (some ⟨ab, ao, none⟩) (some ⟨bb, bo, none⟩) na nb ca cb A M w wr r i)) (fun iv _ => K - (intOf iv).toNat)
      case atStart => exact ⟨0, by omega, rfl, HINV6⟩
      case round =>
        clear HINV6
        obtain ⟨i, hi, rfl, HINV⟩ := hrel
        by_cases hlt2 : i < K
        · have hra := HINV.out.fa.row r hlt (ca - r * K)
          have ca0 := hra.cell i (by rw [rowL_length]; exact hlt2)
          rw [rowL_getD A r hlt2] at ca0
          have hAl := HALT.out r i
          obtain ⟨a0, a1, a2, _, _, _⟩ := c3_of HINV.out.bb
          obtain ⟨b0, b1, b2, _, _, _⟩ := c3_of HINV.out.bx
          rw [HRC.out] at b2
          generalize hf : A r i = f at *
          have HFI := hid hf
          have hfs : fb ≠ ob := HINV.out.ne.1
          clear hra hf
          go_wp2_with fail
          go_region_held3 (fun w' => w'.cell? ⟨w.heap.size + 1, 0, none⟩ = some (.int .i64 K) ∧ w'.cell? ⟨w.heap.size + 1, 1, none⟩ = some (.int .i64 C) ∧ w'.cell? ⟨w.heap.size + 1, 2, none⟩ = some (.slice (some ⟨bb, bo, none⟩) nb cb) ∧ w'.cell? ⟨w5.heap.size, 0, none⟩ = some (.int .i64 R) ∧ w'.cell? ⟨w5.heap.size, 1, none⟩ = some (.int .i64 C) ∧ w'.cell? ⟨w5.heap.size, 2, none⟩ = some (.slice (some ⟨ob, 0, none⟩) rc rc))
            (first | exact keep66 HINV.out.bb (HRC.out ▸ HINV.out.bx) | exact keep66 (HINV.out.below (chainA hb6)).bb (HRC.out ▸ (HINV.out.below (chainA hb6)).bx) | exact keep66 (HINV.out.below (chainB hb6 hb7)).bb (HRC.out ▸ (HINV.out.below (chainB hb6 hb7)).bx) | exact keep66 HST.out.bb (HRC.out ▸ HST.out.bx))
            (first | (go_at_call_of 91 (Value.int .i64 (r : Int)); refine (row0_any R C r ob rc rc hlt hC (by omega) (by omega) HRC.out.symm (Nat.le_refl _) _).mono ?_; rintro e w6 ⟨rfl, hb6⟩)
                   | (go_at_call_of 91 (Value.int .i64 (i : Int)); refine (row_any K C i bb bo nb cb hlt2 hC (by omega) (by omega) HNB.out hcb _).mono ?_; rintro e w7 ⟨rfl, hb7⟩)
                   | (go_at_call 102; refine (addScaled_bs fb ob (r * C) C (rc - r * C) (flat R C (prodAt A M K r i)) (some ⟨bb, bo + i * C, none⟩) (cb - i * C) (rowL C M i) f _ (HINV.out.below (chainB hb6 hb7)).built (HINV.out.below (chainB hb6 hb7)).out hfs (by rw [flat_length]; exact ix_le hlt) ((HINV.out.below (chainB hb6 hb7)).fm.row i hlt2 _) (fun _ => HINV.out.offb) (by omega) hAl (getD_lt (flat_lt (prodAt_lt HALT.out M K r i))) ).mono ?_; rintro e w8 ⟨rfl, ho8, hk8⟩; rw [← HFI.out, prod_step_flat A M hlt] at ho8; have HST := hid (HINV.out.step (chainB hb6 hb7) hk8 ho8)))
          go_wp2
          exact ⟨⟨i + 1, by omega, by go_num, HST⟩, by simp [intOf]; omega⟩
        · obtain rfl : i = K := by omega
          have hnx := HINV.out.next
          have HN := hid hnx
          clear hnx HINV
          go_wp2
          exact ⟨⟨r + 1, by omega, by go_num, HN⟩, by simp [intOf]; omega⟩
    · obtain rfl : r = R := by omega
      obtain ⟨a0, a1, a2, _, _, _⟩ := c3_of HINV.out.bx
      rw [HRC.out] at a2
      obtain ⟨d0, d1, d2, f0, f1, f2⟩ := c3_of HINV.out.br
      have hfin := HINV.out
      have hout := hfin.out
      rw [flat_congr (fun i j hi _ => prodAt_all A M K i j hi)] at hout
      go_wp2_with fail
      refine bodyPost_ret (v := .tuple #[.agg #[.int .i64 r, .int .i64 C, .slice (some ⟨ob, 0, none⟩) rc rc], .int .i64 0]) (by simp [results, Try.results67, go_sem, d0, d1, d2]) rfl ⟨ob, hfin.ne.2.2.2, by rw [HRC.out], ?_, ?_, ?_⟩
      · exact ((hout.setCell (by have := hfin.ne.2.1; simp; omega) _).setCell (by have := hfin.ne.2.1; simp; omega) _).setCell (by have := hfin.ne.2.1; simp; omega) _
      · exact ((hfin.built.setCell (by simp; omega) _).setCell (by simp; omega) _).setCell (by simp; omega) _
      · exact ((hfin.kept.setNew (by simp; omega) _).setNew (by simp; omega) _).setNew (by simp; omega) _
end Go.Proofs.Ytfleplbdcpdphaa
