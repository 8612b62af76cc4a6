/-
  The reference's by and without: a polynomial times x - r, and divided by it.
-/
import Derived.Test.YtfleplbdcpdphaaAddQ
import Derived.Test.YtfleplbdcpdphaaRefF
namespace Go.Proofs.Ytfleplbdcpdphaa
open Go Go.RowKit
set_option linter.unusedVariables false

/-- the first i coefficients -/
def cut (P : List Nat) (i j : Nat) : Nat := if j < i then P.getD j 0 else 0
def byTo (n : Nat) (P : List Nat) (r i : Nat) : List Nat := (List.range (n + 1)).map (ml (cut P i) r)
theorem rangeF_getD (n : Nat) (f : Nat → Nat) (j : Nat) : ((List.range n).map f).getD j 0 = if j < n then f j else 0 := by
  rw [List.getD_eq_getElem?_getD, List.getElem?_map]
  by_cases h : j < n
  · rw [List.getElem?_range h, if_pos h]; rfl
  · rw [List.getElem?_eq_none (by simp; omega), if_neg h]; rfl
theorem getD_ext' {l m : List Nat} (hl : l.length = m.length) (h : ∀ j, l.getD j 0 = m.getD j 0) : l = m := by
  apply List.ext_getElem hl
  intro i h1 h2
  have h3 := h i
  rwa [List.getD_eq_getElem?_getD, List.getD_eq_getElem?_getD, List.getElem?_eq_getElem h1, List.getElem?_eq_getElem h2] at h3
theorem byTo_length (n : Nat) (P : List Nat) (r i : Nat) : (byTo n P r i).length = n + 1 := by simp [byTo]
theorem byTo_getD (n : Nat) (P : List Nat) (r i j : Nat) : (byTo n P r i).getD j 0 = if j < n + 1 then ml (cut P i) r j else 0 := rangeF_getD _ _ _
theorem cut_lt (P : List Nat) (hP : ∀ i, P.getD i 0 < 256) (i j : Nat) : cut P i j < 256 := by
  unfold cut
  split
  · exact hP j
  · omega
theorem byTo_zero (n : Nat) (P : List Nat) (r : Nat) : byTo n P r 0 = List.replicate (n + 1) 0 := by
  apply getD_ext'
  · simp [byTo_length]
  · intro j
    rw [byTo_getD]
    have e : ml (cut P 0) r j = 0 := by
      cases j with
      | zero => show Gf.tm (cut P 0 0) r = 0; rw [show cut P 0 0 = 0 from rfl, Gf.tm_zero_left]
      | succ j => show cut P 0 j ^^^ Gf.tm (cut P 0 (j + 1)) r = 0; rw [show cut P 0 j = 0 from rfl, show cut P 0 (j + 1) = 0 from rfl, Gf.tm_zero_left]; rfl
    rw [e, ite_self, List.getD_eq_getElem?_getD, List.getElem?_replicate]
    split <;> rfl
theorem byTo_all (n : Nat) (P : List Nat) (r : Nat) (hn : P.length = n) : byTo n P r n = (List.range (n + 1)).map (ml (cf P) r) := by
  have e : cut P n = cf P := by
    funext j
    unfold cut cf
    split
    · rfl
    · rw [List.getD_eq_getElem?_getD, List.getElem?_eq_none (by omega)]; rfl
  unfold byTo
  rw [e]
theorem ml_up (P : List Nat) (r i : Nat) : ml (cut P i) r (i + 1) = 0 ∧ ml (cut P (i + 1)) r (i + 1) = P.getD i 0 ∧ ml (cut P (i + 1)) r i = ml (cut P i) r i ^^^ Gf.tm (P.getD i 0) r ∧ ∀ j, j ≠ i → j ≠ i + 1 → ml (cut P (i + 1)) r j = ml (cut P i) r j := by
  have c1 : cut P i i = 0 := by unfold cut; rw [if_neg (by omega)]
  have c2 : cut P i (i + 1) = 0 := by unfold cut; rw [if_neg (by omega)]
  have c3 : cut P (i + 1) i = P.getD i 0 := by unfold cut; rw [if_pos (by omega)]
  have c4 : cut P (i + 1) (i + 1) = 0 := by unfold cut; rw [if_neg (by omega)]
  have c5 : ∀ j, j ≠ i → cut P (i + 1) j = cut P i j := fun j hj => by
    unfold cut
    by_cases h : j < i
    · rw [if_pos h, if_pos (by omega)]
    · rw [if_neg h, if_neg (by omega)]
  refine ⟨?_, ?_, ?_, ?_⟩
  · show cut P i i ^^^ Gf.tm (cut P i (i + 1)) r = 0
    rw [c1, c2, Gf.tm_zero_left]; rfl
  · show cut P (i + 1) i ^^^ Gf.tm (cut P (i + 1) (i + 1)) r = _
    rw [c3, c4, Gf.tm_zero_left, Nat.xor_zero]
  · cases i with
    | zero =>
      show Gf.tm (cut P 1 0) r = Gf.tm (cut P 0 0) r ^^^ _
      rw [c3, c1, Gf.tm_zero_left, Nat.zero_xor]
    | succ k =>
      show cut P (k + 1 + 1) k ^^^ Gf.tm (cut P (k + 1 + 1) (k + 1)) r = (cut P (k + 1) k ^^^ Gf.tm (cut P (k + 1) (k + 1)) r) ^^^ _
      rw [c3, c1, c5 k (by omega), Gf.tm_zero_left, Nat.xor_zero]
  · intro j h1 h2
    cases j with
    | zero => show Gf.tm (cut P (i + 1) 0) r = Gf.tm (cut P i 0) r; rw [c5 0 h1]
    | succ k => show cut P (i + 1) k ^^^ Gf.tm (cut P (i + 1) (k + 1)) r = cut P i k ^^^ Gf.tm (cut P i (k + 1)) r; rw [c5 k (by omega), c5 (k + 1) h1]
theorem byTo_step (n : Nat) (P : List Nat) (r i : Nat) (hi : i < n) : ((byTo n P r i).set (i + 1) (0 ^^^ P.getD i 0)).set i ((byTo n P r i).getD i 0 ^^^ Gf.tm (P.getD i 0) r) = byTo n P r (i + 1) := by
  obtain ⟨h1, h2, h3, h4⟩ := ml_up P r i
  apply getD_ext'
  · simp [byTo_length]
  · intro j
    rw [set_getD _ _ _ _ (by simp [byTo_length]; omega), set_getD _ _ _ _ (by simp [byTo_length]; omega), byTo_getD, byTo_getD, byTo_getD]
    by_cases e : j = i
    · subst e; rw [if_pos rfl, if_pos (by omega), if_pos (by omega), h3]
    · rw [if_neg e]
      by_cases e2 : j = i + 1
      · subst e2; rw [if_pos rfl, if_pos (by omega), h2, Nat.zero_xor]
      · rw [if_neg e2, h4 j e e2]

set_option maxRecDepth 100000 in
set_option maxHeartbeats 2000000 in
theorem by_any (a : Option Addr) (n c : Nat) (P : List Nat) (r : Nat) (w : World) (hP : Bs w (.slice a n c) P) (hn : n ≤ 1000) (hr : r < 256) :
    Calls Try.prog 100 #[.slice a n c, .int .u8 r] w fun e w' => ∃ qb, w.heap.size ≤ qb ∧ e = .returned (.slice (some ⟨qb, 0, none⟩) (n + 1) (n + 1)) ∧ Own w' qb (byTo n P r n) ∧ Below w.heap.size w w' := by
  have HPL := hid hP.len
  have HP := hid hP
  clear hP
  obtain ⟨N, hN⟩ : ∃ N, N = n + 1 := ⟨_, rfl⟩
  rw [← hN]
  have hmk := mk_u8 N (by omega)
  rw [show ((N : Nat) : Int) = (n : Int) + 1 from by omega] at hmk
  have ho := own_zrow w N
  rw [hN, ← byTo_zero n P r, ← hN] at ho
  have hb : Below w.heap.size w (w.alloc (zrow N)) := (Below.refl _ _).alloc (Nat.le_refl _) _
  have HN := hid hN
  clear hN
  go_enter Try.func100, Try.ntmps100
  go_wp2
  clear hmk
  go_loopw [6] (fun iv wr => ∃ i : Nat, i ≤ n ∧ iv = .int .i64 i ∧ Own wr w.heap.size (byTo n P r i) ∧ Below w.heap.size w wr) (fun iv _ => n - (intOf iv).toNat)
  case atStart => exact ⟨0, by omega, rfl, ho, hb⟩
  case round =>
    clear ho hb
    obtain ⟨i, hi, rfl, ho, hb⟩ := hrel
    by_cases hlt : i < n
    · have hPr := HP.out.below hb
      rcases hPr.addr with ⟨h0, _⟩ | ⟨h0, b, o, c', hv⟩
      · exfalso; have := HPL.out; rw [h0] at this; simp at this; omega
      · simp only [Value.slice.injEq] at hv
        obtain ⟨rfl, hnn, hcc⟩ := hv
        clear hnn hcc h0
        have cp := hPr.cell i (by rw [← HPL.out]; exact hlt)
        have hy := hPr.lt i
        have c1 := ho.cell (i + 1) (by rw [byTo_length]; omega)
        have z1 : (byTo n P r i).getD (i + 1) 0 = 0 := by rw [byTo_getD, if_pos (by omega), (ml_up P r i).1]
        have f1 := ho.free (i + 1)
        have hst : ((byTo n P r i).set (i + 1) ((byTo n P r i).getD (i + 1) 0 ^^^ P.getD i 0)).set i ((byTo n P r i).getD i 0 ^^^ Gf.tm (P.getD i 0) r) = byTo n P r (i + 1) := by
          rw [z1]
          exact byTo_step n P r i hlt
        have h2 : ((byTo n P r i).set (i + 1) ((byTo n P r i).getD (i + 1) 0 ^^^ P.getD i 0)).getD i 0 = (byTo n P r i).getD i 0 := by
          rw [set_getD _ _ _ _ (by rw [byTo_length]; omega), if_neg (by omega)]
        have hz : (byTo n P r i).getD i 0 < 256 := by
          rw [byTo_getD]
          split
          · exact ml_lt (cut_lt P HP.out.lt i) r i
          · omega
        have hv : (byTo n P r i).getD (i + 1) 0 < 256 := by rw [z1]; omega
        clear z1
        generalize (byTo n P r i).getD (i + 1) 0 = v at *
        generalize (byTo n P r i).getD i 0 = z at *
        have HST := hid hst
        have H2 := hid h2
        clear hst h2
        obtain ⟨y, hyy⟩ : ∃ y, y = P.getD i 0 := ⟨_, rfl⟩
        rw [← hyy] at cp hy HST H2
        have HYY := hid hyy
        clear hyy
        have hx1 := u8_xor_nat v y hv hy
        have HO := hid ho
        have HBB := hid hb
        obtain ⟨i1, hi1⟩ : ∃ i1, i1 = i + 1 := ⟨_, rfl⟩
        have t3 : IntKind.i64.wrap ((i : Int) + 1) = (i1 : Int) := by rw [IntKind.wrap_i64]; omega
        have hi3 : i1 < N := by have := HN.out; omega
        rw [← hi1] at c1 f1
        have HI1 := hid hi1
        clear ho hb hi1
        go_wp2
        refine region_quiet_tail 11 (by kernel_rfl) (by kernel_rfl) ?_
        simp only [List.take_succ_cons, List.take_zero, List.drop_succ_cons, List.drop_zero]
        repeat (quiet_step (fail))
        refine wpQuiet_nil ?_
        intro n1
        go_wp2_with fail
        have ho2 := (HO.out.drewN n1).set i1 (v ^^^ y)
        have hb2 : Below w.heap.size w ((wr.drewN n1).setCell ⟨w.heap.size, i1, none⟩ (.int .u8 ((v ^^^ y : Nat) : Int))) := (bel_drewN HBB.out n1).setCell (p := ⟨w.heap.size, i1, none⟩) (Nat.le_refl _) _
        clear cp c1 f1 hPr t3
        generalize (wr.drewN n1).setCell ⟨w.heap.size, i1, none⟩ (.int .u8 ((v ^^^ y : Nat) : Int)) = w2 at *
        rw [HI1.out] at ho2
        have cp := (HP.out.below hb2).cell i (by rw [← HPL.out]; exact hlt)
        rw [← HYY.out] at cp
        have cs := ho2.cell i (by rw [List.length_set, byTo_length]; omega)
        rw [H2.out] at cs
        have fs := ho2.free i
        have hx2 := u8_xor_nat z (Gf.tm y r) hz (Gf.tm_lt _ _ hy)
        have hi2 : i < N := by have := HN.out; omega
        go_wp2
        refine region_quiet_tail 12 (by kernel_rfl) (by kernel_rfl) ?_
        simp only [List.take_succ_cons, List.take_zero, List.drop_succ_cons, List.drop_zero]
        repeat (quiet_step ((go_at_call 48; exact Calls.quiet_of_same ((Times_any y r hy hr _).mono fun e w' h => ⟨h.1, h.2.symm⟩))))
        refine wpQuiet_nil ?_
        intro nq2
        go_wp2
        refine ⟨⟨i + 1, by omega, by go_num, ?_, ?_⟩, by simp [intOf] <;> omega⟩
        · rw [← HST.out]
          exact (ho2.drewN nq2).set i _
        · exact (bel_drewN hb2 nq2).setCell (Nat.le_refl _) _
    · obtain rfl : i = n := by omega
      go_wp2
      go_ret
      exact ⟨w.heap.size, Nat.le_refl _, rfl, ho, hb⟩

def woTo (n : Nat) (P : List Nat) (r m : Nat) : List Nat := (List.range n).map fun j => if n - m ≤ j then quo (cf P) r n (n - j) else 0
theorem woTo_length (n : Nat) (P : List Nat) (r m : Nat) : (woTo n P r m).length = n := by simp [woTo]
theorem woTo_zero (n : Nat) (P : List Nat) (r : Nat) : woTo n P r 0 = List.replicate n 0 := by
  apply getD_ext'
  · simp [woTo_length]
  · intro j
    unfold woTo
    rw [rangeF_getD, List.getD_eq_getElem?_getD, List.getElem?_replicate]
    by_cases h : j < n
    · rw [if_pos h, if_neg (by omega), if_pos h]; rfl
    · rw [if_neg h, if_neg h]; rfl
theorem woTo_all (n : Nat) (P : List Nat) (r : Nat) : woTo n P r n = (List.range n).map fun j => quo (cf P) r n (n - j) := by
  unfold woTo
  apply List.map_congr_left
  intro j _
  rw [if_pos (by omega)]
theorem woTo_step (n : Nat) (P : List Nat) (r m q : Nat) (hq : q + 1 + m = n) : (woTo n P r m).set q (quo (cf P) r n (m + 1)) = woTo n P r (m + 1) := by
  apply getD_ext'
  · simp [woTo_length]
  · intro j
    rw [set_getD _ _ _ _ (by rw [woTo_length]; omega)]
    unfold woTo
    rw [rangeF_getD, rangeF_getD]
    by_cases e : j = q
    · subst e; rw [if_pos rfl, if_pos (by omega), if_pos (by omega), show n - j = m + 1 from by omega]
    · rw [if_neg e]
      by_cases h : j < n
      · rw [if_pos h, if_pos h]
        by_cases h2 : n - m ≤ j
        · rw [if_pos h2, if_pos (by omega)]
        · rw [if_neg h2, if_neg (by omega)]
      · rw [if_neg h, if_neg h]

set_option maxRecDepth 100000 in
set_option maxHeartbeats 2000000 in
theorem without_any (b o pn n c : Nat) (P : List Nat) (r : Nat) (w : World) (hP : Bs w (.slice (some ⟨b, o, none⟩) pn c) P) (hpn : pn = n + 1) (hn : n ≤ 1000) (hr : r < 256) :
    Calls Try.prog 101 #[.slice (some ⟨b, o, none⟩) pn c, .int .u8 r] w fun e w' => ∃ qb, w.heap.size ≤ qb ∧ e = .returned (.slice (some ⟨qb, 0, none⟩) n n) ∧ Own w' qb (woTo n P r n) ∧ Below w.heap.size w w' := by
  have HPL := hid hP.len
  have HP := hid hP
  clear hP
  have hmk := mk_u8 n (by omega)
  rw [show ((n : Nat) : Int) = (pn : Int) - 1 from by omega] at hmk
  have ho := own_zrow w n
  rw [← woTo_zero n P r] at ho
  have hb : Below w.heap.size w (w.alloc (zrow n)) := (Below.refl _ _).alloc (Nat.le_refl _) _
  have HPN := hid hpn
  have t0 : IntKind.i64.wrap ((pn : Int) - 1) = (pn : Int) - 1 := by rw [IntKind.wrap_i64]; omega
  have hq : ∀ m, quo (cf P) r n m < 256 := quo_lt (fun j => HP.out.lt j) r n
  have HQ := hid hq
  clear hpn hq
  go_enter Try.func101, Try.ntmps101
  go_wp2
  clear hmk
  go_loopw [6, 7] (fun cv iv wr => ∃ m : Nat, m ≤ n ∧ cv = .int .u8 ((quo (cf P) r n m : Nat) : Int) ∧ iv = .int .i64 ((pn : Int) - 1 - m) ∧ Own wr w.heap.size (woTo n P r m) ∧ Below w.heap.size w wr) (fun _ iv _ => (intOf iv).toNat)
  case atStart => exact ⟨0, by omega, rfl, by go_num, ho, hb⟩
  case round =>
    clear ho hb
    obtain ⟨m, hm, rfl, rfl, ho, hb⟩ := hrel
    by_cases hlt : m < n
    · obtain ⟨j, hj⟩ : ∃ j : Nat, j + m = n := ⟨n - m, by omega⟩
      obtain ⟨q, hq⟩ : ∃ q : Nat, q + 1 = j := ⟨j - 1, by omega⟩
      have e1 : (pn : Int) - 1 - m = (j : Nat) := by have := HPN.out; omega
      rw [e1]
      clear e1
      have hPr := HP.out.below hb
      have hjp : j < pn := by have := HPN.out; omega
      have cp := hPr.cell j (by rw [← HPL.out]; exact hjp)
      have cs := ho.cell q (by rw [woTo_length]; omega)
      have fs := ho.free q
      have hqn : q < n := by omega
      have t1 : IntKind.i64.wrap ((j : Int) - 1) = (q : Int) := by rw [IntKind.wrap_i64]; omega
      have hst := hid (woTo_step n P r m q (by omega))
      have hqs : quo (cf P) r n (m + 1) = P.getD j 0 ^^^ Gf.tm (quo (cf P) r n m) r := by
        show cf P (n - m) ^^^ _ = _
        rw [show n - m = j from by omega]; rfl
      have HQS := hid hqs
      have hc := HQ.out m
      have hy := HP.out.lt j
      clear hqs
      generalize hcc : quo (cf P) r n m = cc at *
      generalize hyy : P.getD j 0 = y at *
      clear hcc hyy
      have hx := u8_xor_nat y (Gf.tm cc r) hy (Gf.tm_lt _ _ hc)
      have hj0 : 0 < j := by omega
      generalize (woTo n P r m).getD q 0 = z at *
      have HOO := hid ho
      have HBB := hid hb
      have HR : 0 < 1 := by omega
      clear ho hb hPr
      go_wp2
      go_quiet ((go_at_call 48; exact Calls.quiet_of_same ((Times_any cc r hc hr _).mono fun e w' h => ⟨h.1, h.2.symm⟩)))
      go_wp2
      refine ⟨⟨m + 1, by omega, by rw [HQS.out], ?_, ?_, ?_⟩, by simp [intOf] <;> omega⟩
      · have := HPN.out
        congr 1; omega
      · rw [← hst.out, HQS.out]
        exact (HOO.out.drewN nq).set q _
      · exact (bel_drewN HBB.out nq).setCell (Nat.le_refl _) _
    · obtain rfl : m = n := by omega
      have e1 : (pn : Int) - 1 - m = 0 := by have := HPN.out; omega
      rw [e1]
      go_wp2
      go_ret
      exact ⟨w.heap.size, Nat.le_refl _, rfl, ho, hb⟩
end Go.Proofs.Ytfleplbdcpdphaa
