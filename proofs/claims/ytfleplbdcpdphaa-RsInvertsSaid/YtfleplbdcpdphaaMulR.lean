/-
  The reference's Multiply: the product of two matrices.
-/
import Derived.Test.YtfleplbdcpdphaaProd
namespace Go.Proofs.Ytfleplbdcpdphaa
open Go Go.RowKit
set_option linter.unusedVariables false

/-- the product where all cells before (i, j) are whole, and cell (i, j) has its sum over the first l factors -/
def mulAt (A B : Nat → Nat → Nat) (K i j l : Nat) : Nat → Nat → Nat := fun a b => if a < i ∨ (a = i ∧ b < j) then prodTo A B K a b else if a = i ∧ b = j then prodTo A B l a b else 0
theorem mulAt_zero (A B : Nat → Nat → Nat) (K a b : Nat) : mulAt A B K 0 0 0 a b = 0 := by
  unfold mulAt
  rw [if_neg (by omega)]
  split <;> rfl
theorem mulAt_self (A B : Nat → Nat → Nat) (K i j l : Nat) : mulAt A B K i j l i j = prodTo A B l i j := by
  unfold mulAt
  rw [if_neg (by omega), if_pos ⟨rfl, rfl⟩]
theorem mulAt_step (A B : Nat → Nat → Nat) (K i j l a b : Nat) : setM (mulAt A B K i j l) i j (prodTo A B l i j ^^^ Gf.tm (A i l) (B l j)) a b = mulAt A B K i j (l + 1) a b := by
  unfold setM
  by_cases e : a = i ∧ b = j
  · obtain ⟨rfl, rfl⟩ := e
    rw [if_pos ⟨rfl, rfl⟩, mulAt_self]
    rfl
  · rw [if_neg e]
    unfold mulAt
    by_cases h : a < i ∨ (a = i ∧ b < j)
    · rw [if_pos h, if_pos h]
    · rw [if_neg h, if_neg h, if_neg e, if_neg e]
theorem mulAt_cell (A B : Nat → Nat → Nat) (K i j a b : Nat) : mulAt A B K i j K a b = mulAt A B K i (j + 1) 0 a b := by
  unfold mulAt
  by_cases h : a < i ∨ (a = i ∧ b < j)
  · rw [if_pos h, if_pos (by omega)]
  · rw [if_neg h]
    by_cases e : a = i ∧ b = j
    · rw [if_pos e, if_pos (by omega)]
    · rw [if_neg e, if_neg (by omega)]
      split <;> rfl
theorem mulAt_row (A B : Nat → Nat → Nat) (K : Nat) {C : Nat} (i a b : Nat) (hb : b < C) : mulAt A B K i C 0 a b = mulAt A B K (i + 1) 0 0 a b := by
  unfold mulAt
  by_cases h : a < i ∨ (a = i ∧ b < C)
  · rw [if_pos h, if_pos (by omega)]
  · rw [if_neg h, if_neg (by omega), if_neg (by omega)]
    split <;> rfl
theorem mulAt_all (A B : Nat → Nat → Nat) (K : Nat) {R : Nat} (a b : Nat) (ha : a < R) : mulAt A B K R 0 0 a b = prodTo A B K a b := by
  unfold mulAt
  rw [if_pos (by omega)]

/-- what the loops of Multiply keep -/
structure MInv (ob R K C : Nat) (a b : Option Addr) (na nb ca cb : Nat) (A M : Nat → Nat → Nat) (w wr : World) (i j l : Nat) : Prop where
  out : Own wr ob (flat R C (mulAt A M K i j l))
  ba : wr.heap[w.heap.size]? = some (Obj.cells #[.int .i64 R, .int .i64 K, .slice a na ca] 52)
  bb : wr.heap[w.heap.size + 1]? = some (Obj.cells #[.int .i64 K, .int .i64 C, .slice b nb cb] 52)
  br : wr.heap[w.heap.size + 2]? = some (Obj.cells #[.int .i64 0, .int .i64 0, .slice none 0 0] 52)
  below : Below w.heap.size w wr
  low : w.heap.size + 2 < ob
theorem MInv.step {ob R K C : Nat} {a b : Option Addr} {na nb ca cb : Nat} {A M : Nat → Nat → Nat} {w wr w3 : World} {i j l i' j' l' : Nat} (h : MInv ob R K C a b na nb ca cb A M w wr i j l) (h2 : Kept ob wr w3) (ho : Own w3 ob (flat R C (mulAt A M K i' j' l'))) :
    MInv ob R K C a b na nb ca cb A M w w3 i' j' l' := by
  have n1 := h.low
  have hk : ∀ q o, wr.heap[q]? = some o → q ≠ ob → w3.heap[q]? = some o := fun q o hq hne => (h2.block q (lt_of_heap hq) hne).trans hq
  exact ⟨ho, hk _ _ h.ba (by omega), hk _ _ h.bb (by omega), hk _ _ h.br (by omega), h.below.trans (h2.below h.below.size (by omega)), n1⟩

set_option maxRecDepth 100000 in
set_option maxHeartbeats 2000000 in
theorem Multiply_ok (R K C : Nat) (a b : Option Addr) (na nb ca cb : Nat) (A M : Nat → Nat → Nat) (w : World) (hR : 1 ≤ R) (hR2 : R ≤ 255) (hK : 1 ≤ K) (hK2 : K ≤ 255) (hC : 1 ≤ C) (hC2 : C ≤ 255)
    (hna : na = R * K) (hnb : nb = K * C) (hAl : ∀ i j, A i j < 256) (hMl : ∀ i j, M i j < 256) (hA : Bs w (.slice a na ca) (flat R K A)) (hM : Bs w (.slice b nb cb) (flat K C M)) :
    Calls Try.prog 68 #[.agg #[.int .i64 R, .int .i64 K, .slice a na ca], .agg #[.int .i64 K, .int .i64 C, .slice b nb cb]] w fun e w' => ∃ ob, w.heap.size ≤ ob ∧ e = .returned (.tuple #[.agg #[.int .i64 R, .int .i64 C, .slice (some ⟨ob, 0, none⟩) (R * C : Nat) (R * C : Nat)], .int .i64 0]) ∧ Own w' ob (flat R C (prodTo A M K)) ∧ Below w.heap.size w w' := by
  have hnot : ∀ (x : Bool) (w : World), (Op.unary .not (.bool x)).run Try.prog w = .ok (.bool (!x)) w := fun _ _ => rfl
  obtain ⟨ab, ao, rfl⟩ := hA.some (flat_ne hR hK)
  obtain ⟨bb, bo, rfl⟩ := hM.some (flat_ne hK hC)
  have HALT := hid hAl
  have HMLT := hid hMl
  clear hAl hMl
  obtain ⟨w1, hw1⟩ : ∃ w1, w1 = ((w.alloc (Obj.cells #[.int .i64 R, .int .i64 K, .slice (some ⟨ab, ao, none⟩) na ca] 52)).alloc (Obj.cells #[.int .i64 K, .int .i64 C, .slice (some ⟨bb, bo, none⟩) nb cb] 52)).alloc (Obj.cells #[.int .i64 0, .int .i64 0, .slice none 0 0] 52) := ⟨_, rfl⟩
  have hbel : Below w.heap.size w w1 := by rw [hw1]; exact (((Below.refl _ _).alloc (Nat.le_refl _) _).alloc (by simp) _).alloc (by simp; omega) _
  have h0 : w1.heap[w.heap.size]? = some (Obj.cells #[.int .i64 R, .int .i64 K, .slice (some ⟨ab, ao, none⟩) na ca] 52) := by rw [hw1]; exact heap_alloc (heap_alloc (heap_new _ _) _) _
  have h1 : w1.heap[w.heap.size + 1]? = some (Obj.cells #[.int .i64 K, .int .i64 C, .slice (some ⟨bb, bo, none⟩) nb cb] 52) := by
    rw [hw1]
    have h5 := heap_new (w.alloc (Obj.cells #[.int .i64 R, .int .i64 K, .slice (some ⟨ab, ao, none⟩) na ca] 52)) (Obj.cells #[.int .i64 K, .int .i64 C, .slice (some ⟨bb, bo, none⟩) nb cb] 52)
    rw [World.size_alloc] at h5
    exact heap_alloc h5 _
  have h2 : w1.heap[w.heap.size + 2]? = some (Obj.cells #[.int .i64 0, .int .i64 0, .slice none 0 0] 52) := by
    rw [hw1]
    have h5 := heap_new ((w.alloc (Obj.cells #[.int .i64 R, .int .i64 K, .slice (some ⟨ab, ao, none⟩) na ca] 52)).alloc (Obj.cells #[.int .i64 K, .int .i64 C, .slice (some ⟨bb, bo, none⟩) nb cb] 52)) (Obj.cells #[.int .i64 0, .int .i64 0, .slice none 0 0] 52)
    rw [World.size_alloc, World.size_alloc] at h5
    exact h5
  have hs1 : w1.heap.size = w.heap.size + 3 := by rw [hw1]; simp
  obtain ⟨c0, c1, c2, _, _, _⟩ := c3_of h0
  have H0 := hid h0
  have H1 := hid h1
  have H2 := hid h2
  have HS := hid hs1
  have HNA := hid hna
  have HNB := hid hnb
  have HA := hid hA
  have HM := hid hM
  clear h0 h1 h2 hs1 hna hnb hA hM
  go_enter Try.func68, Try.ntmps68
  go_wp2_with fail
  rw [← hw1]
  clear hw1
  refine (Good_yes R K na _ ca hR hR2 hK hK2 HNA.out _).mono ?_
  rintro e w2 ⟨rfl, hb2⟩
  clear c0 c1 c2
  obtain ⟨c0, c1, c2, _, _, _⟩ := c3_at H1.out hb2 (by rw [HS.out]; omega)
  go_wp2_with fail
  refine (Good_yes K C nb _ cb hK hK2 hC hC2 HNB.out _).mono ?_
  rintro e w3 ⟨rfl, hb3⟩
  clear c0 c1 c2
  have hb13 := hb2.trans (hb3.mono hb2.size)
  have hsz2 := hb2.size
  have hsz3 := hb3.size
  have k0 := (hb13.block _ (by rw [HS.out]; omega)).trans H0.out
  have k1 := (hb13.block _ (by rw [HS.out]; omega)).trans H1.out
  have k2 := (hb13.block _ (by rw [HS.out]; omega)).trans H2.out
  obtain ⟨a0, a1, a2, _, _, _⟩ := c3_of k0
  obtain ⟨b0, b1, b2, _, _, _⟩ := c3_of k1
  have hRC : R * C ≤ 65025 := Nat.mul_le_mul hR2 hC2
  have hz := mul_nat (r := R) (c := C) rfl
  have hinv : MInv w3.heap.size R K C (some ⟨ab, ao, none⟩) (some ⟨bb, bo, none⟩) na nb ca cb A M w (w3.alloc (zrow (R * C))) 0 0 0 := by
    have hS := HS.out
    refine ⟨?_, heap_alloc k0 _, heap_alloc k1 _, heap_alloc k2 _, (hbel.trans (hb13.mono hbel.size)).alloc (by have := hbel.size; omega) _, by omega⟩
    have h5 := own_zrow w3 (R * C)
    rw [flat_zero, flat_congr (fun i j _ _ => (mulAt_zero A M K i j).symm)] at h5
    exact h5
  have HINV := hid hinv
  clear hinv k0 k1 k2 hbel hb13 hb2 hb3
  generalize hrc : R * C = rc at *
  have HRC := hid hrc
  clear hrc
  have hmk := mk_u8 rc (by omega)
  go_wp2
  clear hmk a0 a1 a2 b0 b1 b2
  go_loopw [7] (fun iv wr => ∃ i : Nat, i ≤ R ∧ iv = .int .i64 i ∧ Hid (MInv w3.heap.size R K C (some ⟨ab, ao, none⟩) (some ⟨bb, bo, none⟩) na nb ca cb A M w wr i 0 0)) (fun iv _ => R - (intOf iv).toNat)
  case atStart => exact ⟨0, by omega, rfl, HINV⟩
  case round =>
    clear HINV
    obtain ⟨i, hi, rfl, HINV⟩ := hrel
    by_cases hlt : i < R
    · obtain ⟨a0, a1, a2, _, _, _⟩ := c3_of HINV.out.ba
      go_wp2
      clear a0 a1 a2
      go_loopw [8] (fun jv wr => ∃ j : Nat, j ≤ C ∧ jv = .int .i64 j ∧ Hid (MInv w3.heap.size R K C (some ⟨ab, ao, none⟩) (some ⟨bb, bo, none⟩) na nb ca cb A M w wr i j 0)) (fun jv _ => C - (intOf jv).toNat)
      case atStart => exact ⟨0, by omega, rfl, HINV⟩
      case round =>
        clear HINV
        obtain ⟨j, hj, rfl, HINV⟩ := hrel
        by_cases hlt2 : j < C
        · obtain ⟨b0, b1, b2, _, _, _⟩ := c3_of HINV.out.bb
          go_wp2
          clear b0 b1 b2
          go_loopw [9] (fun lv wr => ∃ l : Nat, l ≤ K ∧ lv = .int .i64 l ∧ Hid (MInv w3.heap.size R K C (some ⟨ab, ao, none⟩) (some ⟨bb, bo, none⟩) na nb ca cb A M w wr i j l)) (fun lv _ => K - (intOf lv).toNat)
          case atStart => exact ⟨0, by omega, rfl, HINV⟩
          case round =>
            clear HINV
            obtain ⟨l, hl, rfl, HINV⟩ := hrel
            obtain ⟨a0, a1, a2, _, _, _⟩ := c3_of HINV.out.ba
            by_cases hlt3 : l < K
            · obtain ⟨b0, b1, b2, _, _, _⟩ := c3_of HINV.out.bb
              have hb := HINV.out.below
              have ca1 := (HA.out.below hb).cell (i * K + l) (by rw [flat_length]; exact ix_lt hlt hlt3)
              have cb1 := (HM.out.below hb).cell (l * C + j) (by rw [flat_length]; exact ix_lt hlt3 hlt2)
              rw [flat_getD A hlt hlt3] at ca1
              rw [flat_getD M hlt3 hlt2] at cb1
              have co := HINV.out.out.cell (i * C + j) (by rw [flat_length]; exact ix_lt hlt hlt2)
              have fo := HINV.out.out.free (i * C + j)
              rw [flat_getD _ hlt hlt2, mulAt_self] at co
              have l1 := HALT.out i l
              have l2 := HMLT.out l j
              have l3 := prodTo_lt HALT.out M l i j
              have hx := u8_xor_nat (prodTo A M l i j) (Gf.tm (A i l) (M l j)) l3 (Gf.tm_lt _ _ l1)
              have p1 := ix_lt hlt hlt3
              have p2 := ix_lt hlt3 hlt2
              have p3 := ix_lt hlt hlt2
              have hst : ∀ nq, MInv w3.heap.size R K C (some ⟨ab, ao, none⟩) (some ⟨bb, bo, none⟩) na nb ca cb A M w ((wr.drewN nq).setCell ⟨w3.heap.size, i * C + j, none⟩ (.int .u8 ((prodTo A M l i j ^^^ Gf.tm (A i l) (M l j) : Nat) : Int))) i j (l + 1) := fun nq => by
                refine HINV.out.step (Kept.setCell (p := ⟨w3.heap.size, i * C + j, none⟩) ((Kept.refl w3.heap.size wr).drewN nq) rfl _) ?_
                have h5 := (HINV.out.out.drewN nq).set (i * C + j) (prodTo A M l i j ^^^ Gf.tm (A i l) (M l j))
                rw [flat_set _ hlt hlt2, flat_congr (fun a b _ _ => mulAt_step A M K i j l a b)] at h5
                exact h5
              have HST := hid hst
              have m1 := mul_nat (r := i) (c := K) rfl
              have m2 := mul_nat (r := l) (c := C) rfl
              have m3 := mul_nat (r := i) (c := C) rfl
              rw [← HNA.out] at p1
              rw [← HNB.out] at p2
              rw [HRC.out] at p3
              have hna2 : na ≤ 65025 := by rw [HNA.out]; exact Nat.mul_le_mul hR2 hK2
              have hnb2 : nb ≤ 65025 := by rw [HNB.out]; exact Nat.mul_le_mul hK2 hC2
              clear hst hb
              generalize A i l = x at *
              generalize M l j = y at *
              generalize prodTo A M l i j = z at *
              have n1 : IntKind.i64.wrap (((i * K : Nat) : Int) + (l : Int)) = ((i * K + l : Nat) : Int) := by rw [IntKind.wrap_i64]; omega
              have n2 : IntKind.i64.wrap (((l * C : Nat) : Int) + (j : Int)) = ((l * C + j : Nat) : Int) := by rw [IntKind.wrap_i64]; omega
              have n3 : IntKind.i64.wrap (((i * C : Nat) : Int) + (j : Int)) = ((i * C + j : Nat) : Int) := by rw [IntKind.wrap_i64]; omega
              have q1 : IntKind.i64.wrap ((i * K : Nat) : Int) = ((i * K : Nat) : Int) := by rw [IntKind.wrap_i64]; omega
              have q2 : IntKind.i64.wrap ((l * C : Nat) : Int) = ((l * C : Nat) : Int) := by rw [IntKind.wrap_i64]; omega
              have q3 : IntKind.i64.wrap ((i * C : Nat) : Int) = ((i * C : Nat) : Int) := by rw [IntKind.wrap_i64]; omega
              generalize i * K + l = i1 at *
              generalize l * C + j = i2 at *
              generalize i * C + j = i3 at *
              generalize i * K = z1 at *
              generalize l * C = z2 at *
              generalize i * C = z3 at *
              go_wp2
              refine region_quiet_tail 32 (by kernel_rfl) (by kernel_rfl) ?_
              simp only [List.take_succ_cons, List.take_zero, List.drop_succ_cons, List.drop_zero]
              repeat (quiet_step ((go_at_call 48; exact Calls.quiet_of_same ((Times_any x y l1 l2 _).mono fun e w' h => ⟨h.1, h.2.symm⟩))))
              refine wpQuiet_nil ?_
              intro nq
              go_wp2
              exact ⟨⟨l + 1, by omega, by go_num, HST.out nq⟩, by simp [intOf]; omega⟩
            · obtain rfl : l = K := by omega
              have hnx := HINV.out.step (Kept.refl _ _) (by rw [← flat_congr (fun a b _ _ => mulAt_cell A M l i j a b)]; exact HINV.out.out)
              have HN := hid hnx
              clear hnx HINV
              go_wp2
              exact ⟨⟨j + 1, by omega, by go_num, HN⟩, by simp [intOf]; omega⟩
        · obtain rfl : j = C := by omega
          obtain ⟨b0, b1, b2, _, _, _⟩ := c3_of HINV.out.bb
          have hnx := HINV.out.step (Kept.refl _ _) (by rw [← flat_congr (fun a b _ hb => mulAt_row A M K i a b hb)]; exact HINV.out.out)
          have HN := hid hnx
          clear hnx HINV
          go_wp2
          exact ⟨⟨i + 1, by omega, by go_num, HN⟩, by simp [intOf]; omega⟩
    · obtain rfl : i = R := by omega
      obtain ⟨a0, a1, a2, _, _, _⟩ := c3_of HINV.out.ba
      obtain ⟨b0, b1, b2, _, _, _⟩ := c3_of HINV.out.bb
      obtain ⟨d0, d1, d2, f0, f1, f2⟩ := c3_of HINV.out.br
      have hfin := HINV.out
      have hout := hfin.out
      rw [flat_congr (fun a b ha _ => mulAt_all A M K a b ha)] at hout
      go_wp2_with fail
      refine bodyPost_ret (v := .tuple #[.agg #[.int .i64 i, .int .i64 C, .slice (some ⟨w3.heap.size, 0, none⟩) rc rc], .int .i64 0]) (by simp [results, Try.results68, go_sem, d0, d1, d2]) rfl ⟨w3.heap.size, by have := hfin.low; omega, by rw [HRC.out], ?_, ?_⟩
      · exact ((hout.setCell (by have := hfin.low; simp; omega) _).setCell (by have := hfin.low; simp; omega) _).setCell (by have := hfin.low; simp; omega) _
      · exact ((hfin.below.setCell (by simp; omega) _).setCell (by simp; omega) _).setCell (by simp; omega) _
end Go.Proofs.Ytfleplbdcpdphaa
