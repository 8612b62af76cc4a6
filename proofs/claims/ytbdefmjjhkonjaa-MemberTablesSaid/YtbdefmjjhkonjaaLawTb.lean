/-
  MemberTables, walked.
-/
import Derived.Test.YtbdefmjjhkonjaaRmg
import Derived.Test.YtbdefmjjhkonjaaMgM
namespace Go.Proofs.Ytbdefmjjhkonjaa
open Go Go.RowKit
set_option linter.unusedVariables false

theorem mTab_len (A B : List Ent) : (mTab A B).length ≤ A.length := by
  unfold mTab
  split
  · rw [mrg_length]; exact Nat.le_refl _
  · simp
theorem Merge3 (a1 : Option Addr) (n1 c1 : Nat) (A : List Ent) (a2 : Option Addr) (n2 c2 : Nat) (B : List Ent) (w : World) (ht1 : Tb w (.slice a1 n1 c1) A) (ht2 : Tb w (.slice a2 n2 c2) B) (h1 : n1 ≤ 100000) (h2 : n2 ≤ 100000) :
    Calls Try.prog 19 #[.slice a1 n1 c1, .slice a2 n2 c2] w fun e w' => ∃ a' c', e = .returned (.tuple #[.slice a' (mTab A B).length c', .int .i64 (mErr A B)]) ∧ Tb w' (.slice a' (mTab A B).length c') (mTab A B) ∧ Below w.heap.size w w' := by
  refine (Merge_any a1 n1 c1 A a2 n2 c2 B w ht1 ht2 h1 h2).mono ?_
  rintro e w' ⟨v, rfl, ho, hb'⟩
  obtain ⟨ht, _⟩ := tb_of_owns ho
  have ht2 := ht
  obtain ⟨a', c', rfl, _⟩ := ht2
  exact ⟨a', c', rfl, ht, hb'⟩
theorem RMerge3 (a1 : Option Addr) (n1 c1 : Nat) (A : List Ent) (a2 : Option Addr) (n2 c2 : Nat) (B : List Ent) (w : World) (ht1 : Tb w (.slice a1 n1 c1) A) (ht2 : Tb w (.slice a2 n2 c2) B) (h1 : n1 ≤ 100000) (h2 : n2 ≤ 100000) :
    Calls Try.prog 20 #[.slice a1 n1 c1, .slice a2 n2 c2] w fun e w' => ∃ a' c', e = .returned (.tuple #[.slice a' (mTab A B).length c', .int .i64 (mErr A B)]) ∧ Tb w' (.slice a' (mTab A B).length c') (mTab A B) ∧ Below w.heap.size w w' := by
  refine (RMerge_any a1 n1 c1 A a2 n2 c2 B w ht1 ht2 h1 h2).mono ?_
  rintro e w' ⟨v, rfl, ho, hb'⟩
  obtain ⟨ht, _⟩ := tb_of_owns ho
  have ht2 := ht
  obtain ⟨a', c', rfl, _⟩ := ht2
  exact ⟨a', c', rfl, ht, hb'⟩
theorem Live3 (a : Option Addr) (n c : Nat) (L : List Ent) (w : World) (ht : Tb w (.slice a n c) L) (hn : n ≤ 100000) :
    Calls Try.prog 25 #[.slice a n c] w fun e w' => ∃ a' c', e = .returned (.slice a' (liveL L n).length c') ∧ Il w' a' (liveL L n) ∧ Below w.heap.size w w' := by
  refine (Live_any a n c L w ht hn).mono ?_
  rintro e w' ⟨v, rfl, ho, hb⟩
  obtain ⟨a', c', rfl, hi⟩ := il_of_owns ho
  exact ⟨a', c', rfl, hi, hb⟩
theorem RLive3 (a : Option Addr) (n c : Nat) (L : List Ent) (w : World) (ht : Tb w (.slice a n c) L) (hn : n ≤ 100000) :
    Calls Try.prog 26 #[.slice a n c] w fun e w' => ∃ a' c', e = .returned (.slice a' (liveL L n).length c') ∧ Il w' a' (liveL L n) ∧ Below w.heap.size w w' := by
  refine (RLive_any a n c L w ht hn).mono ?_
  rintro e w' ⟨v, rfl, ho, hb⟩
  obtain ⟨a', c', rfl, hi⟩ := il_of_owns ho
  exact ⟨a', c', rfl, hi, hb⟩
theorem same_self (a1 : Option Addr) (n c1 : Nat) (L : List Ent) (a2 : Option Addr) (c2 : Nat) (w : World) (ht1 : Tb w (.slice a1 n c1) L) (ht2 : Tb w (.slice a2 n c2) L) (hn : n ≤ 100000) :
    Calls Try.prog 21 #[.slice a1 n c1, .slice a2 n c2] w fun e w' => e = .returned (.bool true) ∧ ∃ q, w' = w.drewN q := by
  have h := SameTable_any a1 n c1 L a2 n c2 L w ht1 ht2 hn
  rw [show decide (L = L) = true from decide_eq_true rfl] at h
  exact h

set_option maxRecDepth 100000 in
set_option maxHeartbeats 4000000 in
theorem tables_walk (HK : ∀ wx : World, Calls Try.prog 17 #[] wx fun e w' => e = .returned (.bool true) ∧ Below wx.heap.size wx w') (a : Option Addr) (na ca : Nat) (A : List Ent) (b : Option Addr) (nb cb : Nat) (B : List Ent) (w : World)
    (hA : Tb w (.slice a na ca) A) (hB : Tb w (.slice b nb cb) B) (ha : na ≤ 8796093022208) (hb : nb ≤ 8796093022208) :
    Calls Try.prog 3 #[.slice a na ca, .slice b nb cb] w fun e w' => e = .returned (.bool true) ∧ Below w.heap.size w w' := by
  have TA := hid hA
  have TB := hid hB
  have lA := hid hA.len
  clear hA hB
  by_cases h1 : 40 < na
  · go_enter Try.func3, Try.ntmps3
    go_wp2_with fail
    refine (HK _).mono ?_
    rintro e w1 ⟨rfl, hb1⟩
    go_wp2
    go_ret
    exact ⟨rfl, hb1⟩
  by_cases h2 : 40 < nb
  · go_enter Try.func3, Try.ntmps3
    go_wp2_with fail
    refine (HK _).mono ?_
    rintro e w1 ⟨rfl, hb1⟩
    go_wp2
    go_ret
    exact ⟨rfl, hb1⟩
  have hk : (mTab A B).length ≤ 100000 := by have := mTab_len A B; have := lA.out; omega
  have hlv : (liveL A na).length ≤ 100000 := by have := liveL_len A na; omega
  go_enter Try.func3, Try.ntmps3
  go_wp2_with fail
  with_reducible refine (own2 a na ca A _ TA.out (by omega)).mono ?_
  rintro e w1 ⟨ax, cx, rfl, ht, hf, hb1⟩
  have TX := hid ht
  have TA := hid (TA.out.below hb1)
  have TB := hid (TB.out.below hb1)
  have HB := hid hb1
  clear ht hf hb1
  go_wp2_with fail
  with_reducible refine (own2 b nb cb B _ TB.out (by omega)).mono ?_
  rintro e w2 ⟨ay, cy, rfl, ht, hf, hb1⟩
  have TY := hid ht
  have TA := hid (TA.out.below hb1)
  have TB := hid (TB.out.below hb1)
  have TX := hid (TX.out.below hb1)
  have HB := hid (HB.out.trans (hb1.mono HB.out.size))
  clear ht hf hb1
  go_wp2_with fail
  with_reducible refine (Merge3 ax na cx A ay nb cy B _ TX.out TY.out (by omega) (by omega)).mono ?_
  rintro e w3 ⟨at_, ct, rfl, ht, hb1⟩
  have TT := hid ht
  have TA := hid (TA.out.below hb1)
  have TB := hid (TB.out.below hb1)
  have TX := hid (TX.out.below hb1)
  have TY := hid (TY.out.below hb1)
  have HB := hid (HB.out.trans (hb1.mono HB.out.size))
  clear ht hb1
  go_wp2_with fail
  with_reducible refine (RMerge3 a na ca A b nb cb B _ TA.out TB.out (by omega) (by omega)).mono ?_
  rintro e w4 ⟨au, cu, rfl, ht, hb1⟩
  have TU := hid ht
  have TA := hid (TA.out.below hb1)
  have TB := hid (TB.out.below hb1)
  have TX := hid (TX.out.below hb1)
  have TY := hid (TY.out.below hb1)
  have TT := hid (TT.out.below hb1)
  have HB := hid (HB.out.trans (hb1.mono HB.out.size))
  clear ht hb1
  generalize (mTab A B).length = k at *
  go_wp2_with fail
  with_reducible refine (same_self at_ k ct (mTab A B) au cu _ TT.out TU.out hk).mono ?_
  rintro e w5 ⟨rfl, q5, hw5⟩
  have hb1 : Below w4.heap.size w4 w5 := by rw [hw5]; exact bel_drewN (Below.refl _ _) q5
  have TA := hid (TA.out.below hb1)
  have TB := hid (TB.out.below hb1)
  have TX := hid (TX.out.below hb1)
  have TY := hid (TY.out.below hb1)
  have HB := hid (HB.out.trans (hb1.mono HB.out.size))
  clear hb1 hw5 TT TU hk
  go_wp2_with fail
  with_reducible refine (Valid_any ax na cx A _ TX.out (by omega)).mono ?_
  rintro e w6 ⟨rfl, hb1⟩
  have TA := hid (TA.out.below hb1)
  have TB := hid (TB.out.below hb1)
  have TX := hid (TX.out.below hb1)
  have TY := hid (TY.out.below hb1)
  have HB := hid (HB.out.trans (hb1.mono HB.out.size))
  clear hb1
  go_wp2_with fail
  with_reducible refine (RValid_any a na ca A _ TA.out (by omega)).mono ?_
  rintro e w7 ⟨rfl, hb1⟩
  have TA := hid (TA.out.below hb1)
  have TB := hid (TB.out.below hb1)
  have TX := hid (TX.out.below hb1)
  have TY := hid (TY.out.below hb1)
  have HB := hid (HB.out.trans (hb1.mono HB.out.size))
  clear hb1
  have hvv : (vld A == vld A) = true := by simp
  generalize vld A = va at *
  go_wp2_with fail
  with_reducible refine (Live3 ax na cx A _ TX.out (by omega)).mono ?_
  rintro e w8 ⟨al, cl, rfl, hi, hb1⟩
  have I1 := hid hi
  have TA := hid (TA.out.below hb1)
  have TB := hid (TB.out.below hb1)
  have TX := hid (TX.out.below hb1)
  have TY := hid (TY.out.below hb1)
  have HB := hid (HB.out.trans (hb1.mono HB.out.size))
  clear hb1 hi
  go_wp2_with fail
  with_reducible refine (RLive3 a na ca A _ TA.out (by omega)).mono ?_
  rintro e w9 ⟨am, cm, rfl, hi, hb1⟩
  have I2 := hid hi
  have I1 := hid (I1.out.below hb1)
  have TA := hid (TA.out.below hb1)
  have TB := hid (TB.out.below hb1)
  have TX := hid (TX.out.below hb1)
  have TY := hid (TY.out.below hb1)
  have HB := hid (HB.out.trans (hb1.mono HB.out.size))
  clear hb1 hi
  go_wp2_with fail
  with_reducible refine (sameInts_same al am cl cm (liveL A na) _ I1.out I2.out hlv).mono ?_
  rintro e w10 ⟨rfl, q10, hw10⟩
  have hb1 : Below w9.heap.size w9 w10 := by rw [hw10]; exact bel_drewN (Below.refl _ _) q10
  have TA := hid (TA.out.below hb1)
  have TB := hid (TB.out.below hb1)
  have TX := hid (TX.out.below hb1)
  have TY := hid (TY.out.below hb1)
  have HB := hid (HB.out.trans (hb1.mono HB.out.size))
  clear hb1 hw10 I1 I2 hlv
  go_wp2_with fail
  with_reducible refine (same_self ax na cx A a ca _ TX.out TA.out (by omega)).mono ?_
  rintro e w11 ⟨rfl, q11, hw11⟩
  have hb1 : Below w10.heap.size w10 w11 := by rw [hw11]; exact bel_drewN (Below.refl _ _) q11
  have TB := hid (TB.out.below hb1)
  have TY := hid (TY.out.below hb1)
  have HB := hid (HB.out.trans (hb1.mono HB.out.size))
  clear hb1 hw11
  go_wp2_with fail
  with_reducible refine (same_self ay nb cy B b cb _ TY.out TB.out (by omega)).mono ?_
  rintro e w12 ⟨rfl, q12, hw12⟩
  have hb1 : Below w11.heap.size w11 w12 := by rw [hw12]; exact bel_drewN (Below.refl _ _) q12
  have HB := hid (HB.out.trans (hb1.mono HB.out.size))
  clear hb1 hw12
  go_wp2_with fail
  with_reducible refine (HK _).mono ?_
  rintro e w13 ⟨rfl, hb1⟩
  have HB := hid (HB.out.trans (hb1.mono HB.out.size))
  go_wp2
  go_ret
  exact ⟨rfl, HB.out⟩
end Go.Proofs.Ytbdefmjjhkonjaa
