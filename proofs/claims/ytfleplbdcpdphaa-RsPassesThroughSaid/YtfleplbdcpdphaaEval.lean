/-
  Eval and the reference's At: the value of a polynomial.
-/
import Derived.Test.YtfleplbdcpdphaaPiece
import Derived.Test.YtfleplbdcpdphaaOnce
import Derived.Test.YtfleplbdcpdphaaRefF
namespace Go.Proofs.Ytfleplbdcpdphaa
open Go.RowKit

/-- the value at x -/
def pval (l : List Nat) (x : Nat) : Nat := sx (fun i => Gf.tm (l.getD i 0) (Gf.pw x i)) l.length
/-- Horner's rule, k steps -/
def evTo (l : List Nat) (x : Nat) : Nat → Nat
  | 0 => 0
  | k + 1 => Gf.tm (evTo l x k) x ^^^ l.getD (l.length - 1 - k) 0
theorem evTo_lt (l : List Nat) (hl : ∀ i, l.getD i 0 < 256) (x : Nat) : ∀ k, evTo l x k < 256
  | 0 => by show 0 < 256; omega
  | k + 1 => Gf.xor_lt (Gf.tm_lt _ _ (evTo_lt l hl x k)) (hl _)
theorem sx_tm (f : Nat → Nat) (hf : ∀ i, f i < 256) (x : Nat) : ∀ k, Gf.tm (sx f k) x = sx (fun i => Gf.tm (f i) x) k
  | 0 => Gf.tm_zero_left x
  | k + 1 => by
    show Gf.tm (sx f k ^^^ f k) x = _
    rw [Gf.tm_xor_left _ _ _ (sx_lt f hf k) (hf k), sx_tm f hf x k]; rfl
theorem sx_shift (f : Nat → Nat) : ∀ k, sx f (k + 1) = f 0 ^^^ sx (fun i => f (i + 1)) k
  | 0 => by show 0 ^^^ f 0 = f 0 ^^^ 0; rw [Nat.zero_xor, Nat.xor_zero]
  | k + 1 => by
    show sx f (k + 1) ^^^ f (k + 1) = _
    rw [sx_shift f k, Nat.xor_assoc]; rfl
theorem evTo_sum (l : List Nat) (hl : ∀ i, l.getD i 0 < 256) (x : Nat) (hx : x < 256) : ∀ k, k ≤ l.length → evTo l x k = sx (fun j => Gf.tm (l.getD (l.length - k + j) 0) (Gf.pw x j)) k
  | 0, _ => rfl
  | k + 1, hk => by
    have ih := evTo_sum l hl x hx k (by omega)
    show Gf.tm (evTo l x k) x ^^^ _ = _
    rw [ih, sx_tm _ (fun i => Gf.tm_lt _ _ (hl _)), sx_shift, Nat.xor_comm]
    congr 1
    · show _ = Gf.tm _ 1
      rw [Gf.tm_one_right _ (hl _)]
      congr 1; omega
    · apply sx_congr
      intro i _
      show Gf.tm (Gf.tm _ (Gf.pw x i)) x = Gf.tm _ (Gf.tm (Gf.pw x i) x)
      rw [Gf.tm_assoc _ _ _ (hl _) (Gf.pw_lt x hx i) hx]
      congr 2; omega
theorem evTo_all (l : List Nat) (hl : ∀ i, l.getD i 0 < 256) (x : Nat) (hx : x < 256) : evTo l x l.length = pval l x := by
  rw [evTo_sum l hl x hx _ (Nat.le_refl _)]
  unfold pval
  apply sx_congr
  intro i _
  rw [Nat.sub_self, Nat.zero_add]

set_option maxRecDepth 100000 in
set_option maxHeartbeats 1000000 in
theorem Eval_any (fb : Nat) (a : Option Addr) (n c : Nat) (l : List Nat) (x : Nat) (hx : x < 256) (w : World) (hF : Fld w fb) (hl : Bs w (.slice a n c) l) (ho : Off fb (.slice a n c)) (hn : n ≤ 1000000) :
    Calls Try.prog 52 #[.pointer (some ⟨fb, 0, none⟩), .slice a n c, .int .u8 x] w fun e w' => e = .returned (.int .u8 (pval l x)) ∧ Built w' fb ∧ Kept fb w w' := by
  have hnl := hl.len
  have HNL := hid hnl
  have HF := hid hF
  have HLT := hid hl.lt
  have hall := evTo_all l hl.lt x hx
  have HALL := hid hall
  clear hnl hF hall
  go_enter Try.func52, Try.ntmps52
  go_wp2_with fail
  refine (build_any fb _ HF.out).mono ?_
  rintro e0 w1 ⟨rfl, hB, hk⟩
  have hl1 := hl.kept hk ho
  go_wp2
  go_loopw [7, 8, 15] (fun v _ iv wr => ∃ k : Nat, k ≤ n ∧ iv = .int .i64 k ∧ v = .int .u8 (evTo l x k) ∧ ∃ q, Hid (wr = w1.drewN q)) (fun _ _ iv _ => n - (intOf iv).toNat)
  case atStart => exact ⟨0, by omega, rfl, rfl, 0, rfl⟩
  case round =>
    obtain ⟨k, hk', rfl, rfl, q, hw⟩ := hrel
    have hBq : Built wr fb := by rw [hw.out]; exact hB.drewN q
    have hlq : Bs wr (.slice a n c) l := by rw [hw.out]; exact hl1.drewN q
    by_cases hlt : k < n
    · rcases hl1.addr with ⟨h0, _⟩ | ⟨h0, b, o, c', hv⟩
      · exfalso; have := HNL.out; rw [h0] at this; simp at this; omega
      · simp only [Value.slice.injEq] at hv
        obtain ⟨rfl, hnn, hcc⟩ := hv
        clear hcc
        have hc := hlq.cell (n - 1 - k) (by rw [← HNL.out]; omega)
        have hvl := evTo_lt l HLT.out x k
        have hcl := HLT.out (n - 1 - k)
        have hst : evTo l x (k + 1) = Gf.tm (evTo l x k) x ^^^ l.getD (n - 1 - k) 0 := by
          show _ ^^^ l.getD (l.length - 1 - k) 0 = _
          rw [← HNL.out]
        have hxo := u8_xor_nat (Gf.tm (evTo l x k) x) (l.getD (n - 1 - k) 0) (Gf.tm_lt _ _ hvl) hcl
        rw [← hst] at hxo
        clear hst h0 hnn
        generalize hvn : evTo l x (k + 1) = vn at *
        have HVN := hid hvn
        clear hvn
        generalize evTo l x k = v at *
        generalize l.getD (n - 1 - k) 0 = cv at *
        have t1 : IntKind.i64.wrap ((n : Int) - 1) = (n : Int) - 1 := by rw [IntKind.wrap_i64]; omega
        have t2 : IntKind.i64.wrap ((n : Int) - 1 - (k : Int)) = ((n - 1 - k : Nat) : Int) := by rw [IntKind.wrap_i64]; omega
        have hjn : n - 1 - k < n := by omega
        generalize hj : n - 1 - k = j at *
        clear hj
        go_wp2
        go_quiet ((go_at_call 94; exact Calls.quiet_of (mul_any fb v x hvl hx _ (hBq.drewN _))))
        go_wp2
        refine ⟨⟨k + 1, by omega, by go_num, by rw [HVN.out], q + nq, hid (by rw [hw.out, World.drewN_drewN])⟩, by simp [intOf]; omega⟩
    · obtain rfl : k = n := by omega
      go_wp2
      go_ret
      exact ⟨by rw [← HALL.out, ← HNL.out]; rfl, hBq, by rw [hw.out]; exact hk.drewN q⟩

/-- the sum of At after k coefficients -/
def atTo (l : List Nat) (x k : Nat) : Nat := sx (fun i => Gf.tm (l.getD i 0) (Gf.pw x i)) k

set_option maxRecDepth 100000 in
set_option maxHeartbeats 1000000 in
theorem At_any (a : Option Addr) (n c : Nat) (l : List Nat) (x : Nat) (hx : x < 256) (w : World) (hl : Bs w (.slice a n c) l) (hn : n ≤ 1000000) :
    Calls Try.prog 53 #[.slice a n c, .int .u8 x] w fun e w' => e = .returned (.int .u8 (pval l x)) ∧ w = w' := by
  have hnl := hl.len
  have HNL := hid hnl
  have HLT := hid hl.lt
  clear hnl
  go_enter Try.func53, Try.ntmps53
  go_wp2
  go_loop [5, 6, 7] (fun v p iv => ∃ k : Nat, k ≤ n ∧ iv = .int .i64 k ∧ v = .int .u8 (atTo l x k) ∧ p = .int .u8 (Gf.pw x k)) (fun _ _ iv => n - (intOf iv).toNat)
  case atStart => exact ⟨0, by omega, rfl, rfl, rfl⟩
  case round =>
    obtain ⟨k, hk, rfl, rfl, rfl⟩ := hrel
    by_cases hlt : k < n
    · rcases hl.addr with ⟨h0, _⟩ | ⟨h0, b, o, c', hv⟩
      · exfalso; have := HNL.out; rw [h0] at this; simp at this; omega
      · simp only [Value.slice.injEq] at hv
        obtain ⟨rfl, hnn, hcc⟩ := hv
        clear hcc
        have hc := hl.cell k (by rw [← HNL.out]; omega)
        have hcl := HLT.out k
        have hpl := Gf.pw_lt x hx k
        have hvl : atTo l x k < 256 := sx_lt _ (fun i => Gf.tm_lt _ _ (HLT.out i)) k
        have hst : atTo l x (k + 1) = atTo l x k ^^^ Gf.tm (l.getD k 0) (Gf.pw x k) := rfl
        have hsp : Gf.pw x (k + 1) = Gf.tm (Gf.pw x k) x := rfl
        have HST := hid hst
        have HSP := hid hsp
        clear hst hsp h0 hnn
        generalize atTo l x k = v at *
        generalize Gf.pw x k = p at *
        generalize l.getD k 0 = cv at *
        have hxo := u8_xor_nat v (Gf.tm cv p) hvl (Gf.tm_lt _ _ hcl)
        go_wp2_with fail
        refine (Times_any cv p hcl hpl _).mono ?_
        rintro e0 w' ⟨rfl, rfl⟩
        go_wp2_with fail
        refine (Times_any p x hpl hx _).mono ?_
        rintro e0 w' ⟨rfl, rfl⟩
        go_wp2
        exact ⟨⟨k + 1, by omega, by go_num, by rw [HST.out, ← hxo], by rw [HSP.out]⟩, by simp [intOf]; omega⟩
    · obtain rfl : k = n := by omega
      go_wp2
      go_ret
      exact ⟨by unfold pval; rw [← HNL.out]; rfl, rfl⟩
end Go.Proofs.Ytfleplbdcpdphaa
