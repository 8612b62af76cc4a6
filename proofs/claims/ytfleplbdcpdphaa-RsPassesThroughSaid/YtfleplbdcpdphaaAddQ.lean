/-
  addQuotient: a row of bytes plus a multiple of the quotient of a polynomial and x - r.
-/
import Derived.Test.YtfleplbdcpdphaaIntM
import Derived.Test.YtfleplbdcpdphaaAdd
import Derived.Test.YtfleplbdcpdphaaQT
import Derived.BigQuiet
import Derived.Deep.DeepCutAuto
namespace Go.Proofs.Ytfleplbdcpdphaa
open Go Go.RowKit
set_option linter.unusedVariables false

/-- the coefficients of a list -/
def cf (P : List Nat) (j : Nat) : Nat := P.getD j 0
/-- the sum after m rounds from the top -/
def aqTo (S P : List Nat) (r s n : Nat) : Nat → List Nat
  | 0 => S
  | m + 1 => (aqTo S P r s n m).set (n - 1 - m) ((aqTo S P r s n m).getD (n - 1 - m) 0 ^^^ Gf.tm s (quo (cf P) r n (m + 1)))
theorem aqTo_length (S P : List Nat) (r s n : Nat) : ∀ m, (aqTo S P r s n m).length = S.length
  | 0 => rfl
  | m + 1 => by unfold aqTo; rw [List.length_set, aqTo_length S P r s n m]
theorem set_getD (l : List Nat) (i v j : Nat) (hi : i < l.length) : (l.set i v).getD j 0 = if j = i then v else l.getD j 0 := by
  rw [List.getD_eq_getElem?_getD, List.getElem?_set]
  by_cases e : i = j
  · subst e; rw [if_pos rfl, if_pos hi, if_pos rfl]; rfl
  · rw [if_neg e, if_neg (fun h => e h.symm), ← List.getD_eq_getElem?_getD]
theorem aqTo_getD (S P : List Nat) (r s n : Nat) (hn : S.length = n) : ∀ m, m ≤ n → ∀ j, (aqTo S P r s n m).getD j 0 = if n - m ≤ j ∧ j < n then S.getD j 0 ^^^ Gf.tm s (quo (cf P) r n (n - j)) else S.getD j 0
  | 0, _, j => by rw [if_neg (by omega)]; rfl
  | m + 1, hm, j => by
    have hl := aqTo_length S P r s n m
    unfold aqTo
    rw [set_getD _ _ _ _ (by rw [hl]; omega), aqTo_getD S P r s n hn m (by omega), aqTo_getD S P r s n hn m (by omega)]
    by_cases e : j = n - 1 - m
    · subst e
      rw [if_pos rfl, if_neg (by omega), if_pos (by omega), show n - (n - 1 - m) = m + 1 from by omega]
    · rw [if_neg e]
      by_cases h : n - m ≤ j ∧ j < n
      · rw [if_pos h, if_pos (by omega)]
      · rw [if_neg h, if_neg (by omega)]
theorem quo_lt {p : Nat → Nat} (hp : ∀ j, p j < 256) (r n : Nat) : ∀ m, quo p r n m < 256
  | 0 => by show 0 < 256; omega
  | m + 1 => Gf.xor_lt (hp _) (Gf.tm_lt _ _ (quo_lt hp r n m))

set_option maxRecDepth 100000 in
set_option maxHeartbeats 2000000 in
theorem addQuotient_any (fb sb n sc : Nat) (S P : List Nat) (b o pn pc : Nat) (r s : Nat) (w : World) (hB : Built w fb) (hS : Own w sb S) (hfs : fb ≠ sb) (hSn : S.length = n) (hP : Bs w (.slice (some ⟨b, o, none⟩) pn pc) P) (hpn : n < pn) (ho : b ≠ sb) (hn : pn ≤ 1000) (hr : r < 256) (hs : s < 256) (hS2 : ∀ i, S.getD i 0 < 256) :
    Calls Try.prog 99 #[.pointer (some ⟨fb, 0, none⟩), .slice (some ⟨sb, 0, none⟩) n sc, .slice (some ⟨b, o, none⟩) pn pc, .int .u8 r, .int .u8 s] w fun e w' => e = .returned (.tuple #[]) ∧ Own w' sb (aqTo S P r s n n) ∧ Kept sb w w' := by
  have hPl := hP.len
  have HPL := hid hPl
  have HP := hid hP
  have HSN := hid hSn
  have HS2 := hid hS2
  have hq : ∀ m, quo (cf P) r n m < 256 := quo_lt (fun j => hP.lt j) r n
  have HQ := hid hq
  clear hPl hP hSn hS2 hq
  go_enter Try.func99, Try.ntmps99
  go_wp2
  go_loopw [10, 11] (fun cv iv wr => ∃ m : Nat, m ≤ n ∧ cv = .int .u8 ((quo (cf P) r n m : Nat) : Int) ∧ iv = .int .i64 ((n : Int) - 1 - m) ∧ Own wr sb (aqTo S P r s n m) ∧ Kept sb w wr) (fun _ iv _ => (intOf iv + 1).toNat)
  case atStart => exact ⟨0, by omega, rfl, by go_num, hS, Kept.refl _ _⟩
  case round =>
    obtain ⟨m, hm, rfl, rfl, hown, hkept⟩ := hrel
    have hBr : Built wr fb := (hkept.block fb hB.lt hfs).trans hB
    by_cases hlt : m < n
    · obtain ⟨q, hq⟩ : ∃ q : Nat, q + m + 1 = n := ⟨n - 1 - m, by omega⟩
      have e1 : (n : Int) - 1 - m = (q : Nat) := by omega
      rw [e1]
      have hPr := HP.out.kept hkept ho
      have cp := hPr.cell (q + 1) (by rw [← HPL.out]; omega)
      have cs := hown.cell q (by rw [aqTo_length, HSN.out]; omega)
      have fs := hown.free q
      have hst : aqTo S P r s n (m + 1) = (aqTo S P r s n m).set (n - 1 - m) ((aqTo S P r s n m).getD (n - 1 - m) 0 ^^^ Gf.tm s (quo (cf P) r n (m + 1))) := rfl
      have hqs : quo (cf P) r n (m + 1) = cf P (n - m) ^^^ Gf.tm (quo (cf P) r n m) r := rfl
      rw [show n - 1 - m = q from by omega] at hst
      rw [show n - m = q + 1 from by omega] at hqs
      have hz : (aqTo S P r s n m).getD q 0 < 256 := by
        rw [aqTo_getD S P r s n HSN.out m (by omega)]
        split
        · exact Gf.xor_lt (HS2.out _) (Gf.tm_lt _ _ hs)
        · exact HS2.out _
      have hy := HP.out.lt (q + 1)
      have hc := HQ.out m
      have hc2 := HQ.out (m + 1)
      rw [hqs] at hst
      have HC2 : Hid (quo (cf P) r n (m + 1) = P.getD (q + 1) 0 ^^^ Gf.tm (quo (cf P) r n m) r) := hid hqs
      rw [HC2.out] at hc2
      have HST := hid hst
      clear hst hqs e1
      unfold cf at *
      generalize hz2 : (aqTo S P r s n m).getD q 0 = z at *
      generalize hy2 : P.getD (q + 1) 0 = y at *
      generalize hc3 : quo (fun j => P.getD j 0) r n m = c at *
      clear hz2 hy2 hc3
      have hx1 := u8_xor_nat y (Gf.tm c r) hy (Gf.tm_lt _ _ hc)
      generalize hd : y ^^^ Gf.tm c r = d at *
      clear hd
      have hx2 := u8_xor_nat z (Gf.tm s d) hz (Gf.tm_lt _ _ hs)
      go_wp2
      go_quiet ((go_at_call 94; exact Calls.quiet_of (mul_any fb c r hc hr _ (by first | exact hBr | exact hBr.drewN _))))
      have hBq := hBr.drewN nq
      have hkq := hkept.drewN nq
      have hoq := hown.drewN nq
      have cq : (wr.drewN nq).cell? ⟨sb, q, none⟩ = some (.int .u8 (z : Int)) := cs
      have fq : (wr.drewN nq).frozen? ⟨sb, q, none⟩ = false := fs
      clear cs fs hown hkept hBr cp hPr
      generalize wr.drewN nq = wq at *
      have hqn : q < n := by omega
      go_wp2
      refine region_quiet_tail 10 (by kernel_rfl) (by kernel_rfl) ?_
      simp only [List.take_succ_cons, List.take_zero, List.drop_succ_cons, List.drop_zero]
      repeat (quiet_step ((go_at_call 94; exact Calls.quiet_of (mul_any fb s d hs hc2 _ (by first | exact hBq | exact hBq.drewN _)))))
      refine wpQuiet_nil ?_
      intro nq2
      go_wp2
      refine ⟨⟨m + 1, by omega, by rw [HC2.out], by go_num, ?_, ?_⟩, by simp [intOf] <;> omega⟩
      · rw [HST.out]
        exact (hoq.drewN nq2).set q _
      · exact (hkq.drewN nq2).setCell rfl _
    · obtain rfl : m = n := by omega
      go_wp2
      go_end0
      exact ⟨rfl, hown, hkept⟩
end Go.Proofs.Ytfleplbdcpdphaa
