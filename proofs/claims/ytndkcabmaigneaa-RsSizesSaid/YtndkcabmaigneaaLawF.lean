/-
  The walks of the laws about the field.
-/
import Derived.Test.YtndkcabmaigneaaKnown
import Derived.Test.YtndkcabmaigneaaRefF
namespace Go.Proofs.Ytndkcabmaigneaa
open Go.RowKit

set_option maxRecDepth 100000 in
set_option maxHeartbeats 1000000 in
theorem sizes_walk (k : Int) (_ : (Lit.int .i64 k).wf = true) (n : Int) (_ : (Lit.int .i64 n).wf = true) (w : World) :
    Calls Try.prog 3 #[.int .i64 k, .int .i64 n] w fun e w' => e = .returned (.bool true) ∧ Below w.heap.size w w' := by
  by_cases h : 1 ≤ k ∧ k ≤ 255 ∧ 0 ≤ n ∧ n ≤ 8192
  · obtain ⟨h1, h2, h3, h4⟩ := h
    obtain ⟨k, rfl⟩ : ∃ m : Nat, k = m := ⟨k.toNat, by omega⟩
    obtain ⟨n, rfl⟩ : ∃ m : Nat, n = m := ⟨n.toNat, by omega⟩
    have hb : ((plen k n : Int) == (plen k n : Int)) = true := by simp
    go_enter Try.func3, Try.ntmps3
    go_wp2_with (first | (go_at_call 26; refine (size_ok k n (by omega) (by omega) (by omega) _).mono ?_; rintro e w' ⟨rfl, rfl⟩) | (go_at_call 27; refine (length_ok k n (by omega) (by omega) (by omega) _).mono ?_; rintro e w' ⟨rfl, rfl⟩) | (go_at_call 28; refine (known_any _).mono ?_; rintro e w' ⟨rfl, hb⟩))
    go_ret
    exact ⟨rfl, hb⟩
  · go_enter Try.func3, Try.ntmps3
    have H := hid h
    clear h
    go_wp2_with (first | (go_at_call 26; refine (size_bad k n H.out _).mono ?_; rintro e w' ⟨rfl, rfl⟩) | (go_at_call 27; refine (length_bad k n H.out _).mono ?_; rintro e w' ⟨rfl, rfl⟩) | (go_at_call 28; refine (known_any _).mono ?_; rintro e w' ⟨rfl, hb⟩))
    go_ret
    exact ⟨rfl, hb⟩

theorem u8_nat {a : Int} (h : (Lit.int .u8 a).wf = true) : ∃ n : Nat, a = n ∧ n < 256 := by
  simp [Lit.wf] at h
  have e1 : IntKind.u8.min = 0 := rfl
  have e2 : IntKind.u8.max = 255 := rfl
  exact ⟨a.toNat, by omega, by omega⟩

set_option maxRecDepth 100000 in
set_option maxHeartbeats 1000000 in
theorem powers_walk (a : Int) (ha : (Lit.int .u8 a).wf = true) (e : Int) (_ : (Lit.int .i64 e).wf = true) (w : World) :
    Calls Try.prog 15 #[.int .u8 a, .int .i64 e] w fun e w' => e = .returned (.bool true) ∧ Below w.heap.size w w' := by
  obtain ⟨x, rfl, hx⟩ := u8_nat ha
  clear ha
  go_enter Try.func15, Try.ntmps15
  go_wp2_with fail
  refine (newField_any _).mono ?_
  rintro e0 w1 ⟨rfl, hfr, hb1⟩
  have hk0 : w.heap.size ≤ w1.heap.size := hb1.size
  generalize hfb : w.heap.size = fb at *
  have HFB := hid hfb
  clear hfb
  go_wp2_with fail
  refine (Pow_any fb x e hx _ (.inl hfr)).mono ?_
  rintro e0 w2 ⟨rfl, hB2, hk2⟩
  go_wp2_with fail
  refine (Power_any x e hx _).mono ?_
  rintro e0 w' ⟨rfl, rfl⟩
  have hbel : Below fb w w2 := hb1.trans (hk2.below hk0 (Nat.le_refl _))
  go_wp2_with fail
  refine (known_any _).mono ?_
  rintro e0 w3 ⟨rfl, hb3⟩
  go_wp2
  go_ret
  exact ⟨rfl, by rw [HFB.out]; exact hbel.trans (hb3.mono (by have := hbel.size; rw [← HFB.out]; exact this))⟩

theorem Mul_at (fb x y r : Nat) (w : World) (hx : x < 256) (hy : y < 256) (hB : Built w fb) (hr : Gf.tm x y = r) :
    Calls Try.prog 47 #[.pointer (some ⟨fb, 0, none⟩), .int .u8 x, .int .u8 y] w fun e w' => e = .returned (.int .u8 r) ∧ Built w' fb ∧ Kept fb w w' := by
  subst hr
  exact Mul_any fb x y hx hy w (.inr hB)
theorem add_at (x y r : Nat) (w : World) (hx : x < 256) (hy : y < 256) (hr : x ^^^ y = r) :
    Calls Try.prog 42 #[.int .u8 x, .int .u8 y] w fun e w' => e = .returned (.int .u8 r) ∧ w = w' := by
  subst hr
  exact add_any x y hx hy w
theorem Div_at (fb x y r : Nat) (w : World) (hx : x < 256) (hy : y < 256) (y0 : y ≠ 0) (hB : Built w fb) (hr : Gf.tm x (Gf.iv y) = r) :
    Calls Try.prog 46 #[.pointer (some ⟨fb, 0, none⟩), .int .u8 x, .int .u8 y] w fun e w' => e = .returned (.tuple #[.int .u8 r, .int .i64 0]) ∧ Built w' fb ∧ Kept fb w w' := by
  subst hr
  exact Div_any fb x y hx hy y0 w (.inr hB)

set_option maxRecDepth 100000 in
set_option maxHeartbeats 2000000 in
theorem field_walk (a : Int) (ha : (Lit.int .u8 a).wf = true) (b : Int) (hb : (Lit.int .u8 b).wf = true) (c : Int) (hc : (Lit.int .u8 c).wf = true) (w : World) :
    Calls Try.prog 14 #[.int .u8 a, .int .u8 b, .int .u8 c] w fun e w' => e = .returned (.bool true) ∧ Below w.heap.size w w' := by
  obtain ⟨x, rfl, hx⟩ := u8_nat ha
  obtain ⟨y, rfl, hy⟩ := u8_nat hb
  obtain ⟨z, rfl, hz⟩ := u8_nat hc
  clear ha hb hc
  have lxy := Gf.tm_lt x y hx
  have lyz := Gf.tm_lt y z hy
  have lxz := Gf.tm_lt x z hx
  have e1 := hid (Gf.tm_comm y x hy hx)
  have e2 := hid (Gf.tm_assoc x y z hx hy hz)
  have e3 := hid (Gf.tm_one_right x hx)
  have e4 := hid (Gf.tm_zero_right x)
  have e5 := hid (Gf.tm_xor_right x y z hx hy hz)
  have lx5 := Gf.xor_lt hy hz
  generalize hq : Gf.tm x (Gf.tm y z) = q at *
  have hql : q < 256 := by rw [← hq]; exact Gf.tm_lt _ _ hx
  have HQ := hid hq
  clear hq
  have hdiv : y ≠ 0 → Gf.tm (Gf.tm x y) (Gf.iv y) = x := fun h => by
    rw [Gf.tm_assoc _ _ _ hx hy (Gf.iv_lt y), Gf.tm_iv y hy h, Gf.tm_one_right x hx]
  have hpos : y ≠ 0 → x ≠ 0 → Gf.tm x y ≠ 0 := fun h1 h2 => Gf.tm_pos x y hx hy h2 h1
  generalize hp : Gf.tm x y = p at *
  have HP := hid hp
  clear hp
  have HD := hid hdiv
  have HPOS := hid hpos
  clear hdiv hpos
  go_enter Try.func14, Try.ntmps14
  go_wp2_with fail
  refine (newField_any _).mono ?_
  rintro e0 w1 ⟨rfl, hfr, hb1⟩
  have hk0 : w.heap.size ≤ w1.heap.size := hb1.size
  generalize hfb : w.heap.size = fb at *
  have HFB := hid hfb
  clear hfb
  go_wp2_with fail
  refine (Mul_any fb x y hx hy _ (.inl hfr)).mono ?_
  rw [HP.out]
  rintro e0 w2 ⟨rfl, hB, hk⟩
  go_wp2_with fail
  refine (Mul_at fb y x p _ hy hx hB e1.out).mono ?_
  rintro e0 w3 ⟨rfl, hB3, hk3⟩
  go_wp2_with fail
  refine (Mul_at fb x y p _ hx hy hB3 HP.out).mono ?_
  rintro e0 w4 ⟨rfl, hB4, hk4⟩
  go_wp2_with fail
  refine (Mul_at fb p z q _ lxy hz hB4 e2.out).mono ?_
  rintro e0 w5 ⟨rfl, hB5, hk5⟩
  go_wp2_with fail
  refine (Mul_any fb y z hy hz _ (.inr hB5)).mono ?_
  rintro e0 w6 ⟨rfl, hB6, hk6⟩
  go_wp2_with fail
  refine (Mul_at fb x _ q _ hx lyz hB6 HQ.out).mono ?_
  rintro e0 w7 ⟨rfl, hB7, hk7⟩
  go_wp2_with fail
  refine (Mul_at fb x 1 x _ hx (by omega) hB7 e3.out).mono ?_
  rintro e0 w8 ⟨rfl, hB8, hk8⟩
  go_wp2_with fail
  refine (Mul_at fb x 0 0 _ hx (by omega) hB8 e4.out).mono ?_
  rintro e0 w9 ⟨rfl, hB9, hk9⟩
  go_wp2_with fail
  refine (add_any y z hy hz _).mono ?_
  rintro e0 w' ⟨rfl, rfl⟩
  go_wp2_with fail
  refine (Mul_any fb x _ hx lx5 _ (.inr hB9)).mono ?_
  rintro e0 w10 ⟨rfl, hB10, hk10⟩
  go_wp2_with fail
  refine (Mul_at fb x y p _ hx hy hB10 HP.out).mono ?_
  rintro e0 w11 ⟨rfl, hB11, hk11⟩
  go_wp2_with fail
  refine (Mul_any fb x z hx hz _ (.inr hB11)).mono ?_
  rintro e0 w12 ⟨rfl, hB12, hk12⟩
  go_wp2_with fail
  refine (add_at p _ (Gf.tm x (y ^^^ z)) _ lxy lxz e5.out.symm).mono ?_
  rintro e0 w' ⟨rfl, rfl⟩
  have hbel : Below fb w w12 := hb1.trans (((((((((((hk.trans hk3).trans hk4).trans hk5).trans hk6).trans hk7).trans hk8).trans hk9).trans hk10).trans hk11).trans hk12).below hk0 (Nat.le_refl _))
  clear hk hk3 hk4 hk5 hk6 hk7 hk8 hk9 hk10 hk11 hk12 hB hB3 hB4 hB5 hB6 hB7 hB8 hB9 hB10 hB11 hb1
  generalize Gf.tm x (y ^^^ z) = s at *
  by_cases hy0 : y = 0
  · have t1 : ((y : Int) == 0) = true := by simp [hy0]
    have HY := hid hy0
    clear hy0
    go_wp2_with fail
    refine (known_any _).mono ?_
    rintro e0 w13 ⟨rfl, hb13⟩
    go_wp2
    go_ret
    exact ⟨rfl, by rw [HFB.out]; exact hbel.trans (hb13.mono (by have := hbel.size; rw [← HFB.out]; exact this))⟩
  · have t1 : ((y : Int) == 0) = false := by simp; omega
    go_wp2_with fail
    refine (Mul_at fb x y p _ hx hy hB12 HP.out).mono ?_
    rintro e0 w13 ⟨rfl, hB13, hk13⟩
    go_wp2_with fail
    refine (Div_at fb p y x _ lxy hy hy0 hB13 (HD.out hy0)).mono ?_
    rintro e0 w14 ⟨rfl, hB14, hk14⟩
    by_cases hx0 : x = 0
    · have t2 : ((x : Int) == 0) = true := by simp [hx0]
      have HX := hid hx0
      clear hx0
      have hbel2 : Below fb w w14 := hbel.trans ((hk13.trans hk14).below (by have := hbel.size; rw [← HFB.out]; exact this) (Nat.le_refl _))
      clear hbel hk13 hk14 hB13 hB12
      go_wp2_with fail
      refine (known_any _).mono ?_
      rintro e0 w15 ⟨rfl, hb15⟩
      go_wp2
      go_ret
      exact ⟨rfl, by rw [HFB.out]; exact hbel2.trans (hb15.mono (by have := hbel2.size; rw [← HFB.out]; exact this))⟩
    · have t2 : ((x : Int) == 0) = false := by simp; omega
      have hp0 := HPOS.out hy0 hx0
      have t3 : ((p : Int) != 0) = true := by simp; omega
      go_wp2_with fail
      refine (Mul_at fb x y p _ hx hy hB14 HP.out).mono ?_
      rintro e0 w15 ⟨rfl, hB15, hk15⟩
      have hbel2 : Below fb w w15 := hbel.trans (((hk13.trans hk14).trans hk15).below (by have := hbel.size; rw [← HFB.out]; exact this) (Nat.le_refl _))
      clear hbel hk13 hk14 hk15 hB13 hB12 hB14
      go_wp2_with fail
      refine (known_any _).mono ?_
      rintro e0 w16 ⟨rfl, hb16⟩
      go_wp2
      go_ret
      exact ⟨rfl, by rw [HFB.out]; exact hbel2.trans (hb16.mono (by have := hbel2.size; rw [← HFB.out]; exact this))⟩

theorem Inv_both (b x i : Nat) (e : Int) (hx : x < 256) (w : World) (h : Fld w b) (hi : (if x = 0 then 0 else Gf.iv x) = i) (he : (if x = 0 then (2 : Int) else 0) = e) :
    Calls Try.prog 45 #[.pointer (some ⟨b, 0, none⟩), .int .u8 x] w fun e' w' => e' = .returned (.tuple #[.int .u8 i, .int .i64 e]) ∧ Fld w' b ∧ Kept b w w' := by
  by_cases h0 : x = 0
  · rw [if_pos h0] at hi he
    subst hi; subst he; subst h0
    exact (Inv_zero b w).mono fun e' w' ⟨h1, h2⟩ => ⟨h1, by rw [← h2]; exact h, by rw [← h2]; exact Kept.refl _ _⟩
  · rw [if_neg h0] at hi he
    subst hi; subst he
    exact (Inv_any b x hx h0 w h).mono fun e' w' ⟨h1, h2, h3⟩ => ⟨h1, .inr h2, h3⟩
theorem Div_both (b x y q : Nat) (e : Int) (hx : x < 256) (hy : y < 256) (w : World) (h : Fld w b) (hi : (if y = 0 then 0 else Gf.tm x (Gf.iv y)) = q) (he : (if y = 0 then (2 : Int) else 0) = e) :
    Calls Try.prog 46 #[.pointer (some ⟨b, 0, none⟩), .int .u8 x, .int .u8 y] w fun e' w' => e' = .returned (.tuple #[.int .u8 q, .int .i64 e]) ∧ Fld w' b ∧ Kept b w w' := by
  by_cases h0 : y = 0
  · rw [if_pos h0] at hi he
    subst hi; subst he; subst h0
    exact (Div_zero b x w).mono fun e' w' ⟨h1, h2⟩ => ⟨h1, by rw [← h2]; exact h, by rw [← h2]; exact Kept.refl _ _⟩
  · rw [if_neg h0] at hi he
    subst hi; subst he
    exact (Div_any b x y hx hy h0 w h).mono fun e' w' ⟨h1, h2, h3⟩ => ⟨h1, .inr h2, h3⟩
theorem Over_at (x r : Nat) (hx : x < 256) (hr : (if x = 0 then 0 else Gf.iv x) = r) (w : World) :
    Calls Try.prog 49 #[.int .u8 x] w fun e w' => e = .returned (.int .u8 r) ∧ w = w' := by
  subst hr
  exact Over_any x hx w
theorem Times_at (x y r : Nat) (hx : x < 256) (hy : y < 256) (hr : Gf.tm x y = r) (w : World) :
    Calls Try.prog 48 #[.int .u8 x, .int .u8 y] w fun e w' => e = .returned (.int .u8 r) ∧ w = w' := by
  subst hr
  exact Times_any x y hx hy w

set_option maxRecDepth 100000 in
set_option maxHeartbeats 2000000 in
/-- RsMultiplies, its tests decided -/
theorem mult_core (x y i o q : Nat) (e g : Int) (hx : x < 256) (hy : y < 256) (w : World) (hi : Hid ((if x = 0 then 0 else Gf.iv x) = i)) (he : Hid ((if x = 0 then (2 : Int) else 0) = e)) (ho : Hid ((if y = 0 then 0 else Gf.iv y) = o)) (hq : Hid ((if y = 0 then 0 else Gf.tm x (Gf.iv y)) = q)) (hg : Hid ((if y = 0 then (2 : Int) else 0) = g)) (hq2 : Hid (Gf.tm x o = q)) (hol : o < 256)
    (b1 b2 : Bool) (t1 : (e == 0) = b1) (t2 : ((x : Int) != 0) = b1) (t3 : (g == 0) = b2) (t4 : ((y : Int) != 0) = b2) (t5 : (e == 2) = !b1) (t6 : (g == 2) = !b2) :
    Calls Try.prog 13 #[.int .u8 x, .int .u8 y] w fun e w' => e = .returned (.bool true) ∧ Below w.heap.size w w' := by
  have hxor := hid (u8_xor_nat x y hx hy)
  go_enter Try.func13, Try.ntmps13
  go_wp2_with fail
  refine (newField_any _).mono ?_
  rintro e0 w1 ⟨rfl, hfr, hb1⟩
  have hk0 : w.heap.size ≤ w1.heap.size := hb1.size
  generalize hfb : w.heap.size = fb at *
  have HFB := hid hfb
  clear hfb
  go_wp2_with fail
  refine (Inv_both fb x i e hx _ (.inl hfr) hi.out he.out).mono ?_
  rintro e0 w2 ⟨rfl, hF2, hk2⟩
  go_wp2_with fail
  refine (Div_both fb x y q g hx hy _ hF2 hq.out hg.out).mono ?_
  rintro e0 w3 ⟨rfl, hF3, hk3⟩
  go_wp2_with fail
  refine (add_any x y hx hy _).mono ?_
  rw [← hxor.out]
  rintro e0 w' ⟨rfl, rfl⟩
  go_wp2_with fail
  refine (Mul_any fb x y hx hy _ hF3).mono ?_
  rintro e0 w4 ⟨rfl, hB4, hk4⟩
  go_wp2_with fail
  refine (Times_any x y hx hy _).mono ?_
  rintro e0 w' ⟨rfl, rfl⟩
  go_wp2_with fail
  refine (Over_at x i hx hi.out _).mono ?_
  rintro e0 w' ⟨rfl, rfl⟩
  have hbel : Below fb w w4 := hb1.trans (((hk2.trans hk3).trans hk4).below hk0 (Nat.le_refl _))
  clear hb1 hk2 hk3 hk4 hF2 hF3 hB4 hfr
  cases b1 <;> cases b2
  all_goals
    go_wp2_with fail
    refine (Over_at y o hy ho.out _).mono ?_
    rintro e0 w' ⟨rfl, rfl⟩
    go_wp2_with fail
    refine (Times_at x o q hx hol hq2.out _).mono ?_
    rintro e0 w' ⟨rfl, rfl⟩
    go_wp2_with fail
    refine (known_any _).mono ?_
    rintro e0 w5 ⟨rfl, hb5⟩
    go_wp2
    go_ret
    exact ⟨rfl, by rw [HFB.out]; exact hbel.trans (hb5.mono (by have := hbel.size; rw [← HFB.out]; exact this))⟩
theorem multiplies_walk (a : Int) (ha : (Lit.int .u8 a).wf = true) (b : Int) (hb : (Lit.int .u8 b).wf = true) (w : World) :
    Calls Try.prog 13 #[.int .u8 a, .int .u8 b] w fun e w' => e = .returned (.bool true) ∧ Below w.heap.size w w' := by
  obtain ⟨x, rfl, hx⟩ := u8_nat ha
  obtain ⟨y, rfl, hy⟩ := u8_nat hb
  refine mult_core x y _ _ _ _ _ hx hy w (hid rfl) (hid rfl) (hid rfl) (hid rfl) (hid rfl) ?_ ?_ (decide (x ≠ 0)) (decide (y ≠ 0)) ?_ ?_ ?_ ?_ ?_ ?_
  · show Gf.tm x (if y = 0 then 0 else Gf.iv y) = if y = 0 then 0 else Gf.tm x (Gf.iv y)
    split
    · exact Gf.tm_zero_right x
    · rfl
  · split
    · omega
    · exact Gf.iv_lt y
  · by_cases h : x = 0 <;> simp [h]
  · by_cases h : x = 0 <;> simp [h]
  · by_cases h : y = 0 <;> simp [h]
  · by_cases h : y = 0 <;> simp [h]
  · by_cases h : x = 0 <;> simp [h]
  · by_cases h : y = 0 <;> simp [h]

theorem u16_nat {a : Int} (h : (Lit.int .u16 a).wf = true) : ∃ n : Nat, a = n ∧ n < 65536 := by
  simp [Lit.wf] at h
  have e1 : IntKind.u16.min = 0 := rfl
  have e2 : IntKind.u16.max = 65535 := rfl
  exact ⟨a.toNat, by omega, by omega⟩
theorem Pow_at (b x n r : Nat) (hx : x < 256) (w : World) (h : Fld w b) (hr : Gf.pw x n = r) :
    Calls Try.prog 50 #[.pointer (some ⟨b, 0, none⟩), .int .u8 x, .int .i64 n] w fun e w' => e = .returned (.int .u8 r) ∧ Built w' b ∧ Kept b w w' := by
  subst hr
  exact Pow_any b x n hx w h
theorem pw_add (x : Nat) (hx : x < 256) (m : Nat) : ∀ n, Gf.pw x (m + n) = Gf.tm (Gf.pw x m) (Gf.pw x n)
  | 0 => by rw [Nat.add_zero]; exact (Gf.tm_one_right _ (Gf.pw_lt x hx m)).symm
  | n + 1 => by
    show Gf.tm (Gf.pw x (m + n)) x = Gf.tm (Gf.pw x m) (Gf.tm (Gf.pw x n) x)
    rw [pw_add x hx m n, Gf.tm_assoc _ _ _ (Gf.pw_lt x hx m) (Gf.pw_lt x hx n) hx]
theorem pw_two : ∀ k, Gf.pw 2 k = Gf.E k
  | 0 => rfl
  | k + 1 => by
    have h := Gf.tm_dbl 1 (Gf.E k) (by omega)
    rw [Gf.tm_one _ (Gf.E_lt k)] at h
    show Gf.tm (Gf.pw 2 k) 2 = Gf.dbl (Gf.E k)
    rw [pw_two k, Gf.tm_comm _ 2 (Gf.E_lt k) (by omega)]
    exact h

set_option maxRecDepth 100000 in
set_option maxHeartbeats 2000000 in
theorem exponents_walk (a : Int) (ha : (Lit.int .u8 a).wf = true) (m : Int) (hm : (Lit.int .u16 m).wf = true) (n : Int) (hn : (Lit.int .u16 n).wf = true) (w : World) :
    Calls Try.prog 16 #[.int .u8 a, .int .u16 m, .int .u16 n] w fun e w' => e = .returned (.bool true) ∧ Below w.heap.size w w' := by
  obtain ⟨x, rfl, hx⟩ := u8_nat ha
  obtain ⟨m, rfl, hm⟩ := u16_nat hm
  obtain ⟨n, rfl, hn⟩ := u16_nat hn
  clear ha
  have hadd := pw_add x hx m n
  generalize hs : Gf.pw x (m + n) = s at *
  have HS := hid hs
  have HADD := hid hadd
  clear hs hadd
  have hpm := Gf.pw_lt x hx m
  have hpn := Gf.pw_lt x hx n
  have hmn : ((m : Int) + (n : Int)) = ((m + n : Nat) : Int) := rfl
  have HMN := hid hmn
  clear hmn
  go_enter Try.func16, Try.ntmps16
  go_wp2_with fail
  refine (newField_any _).mono ?_
  rintro e0 w1 ⟨rfl, hfr, hb1⟩
  have hk0 : w.heap.size ≤ w1.heap.size := hb1.size
  generalize hfb : w.heap.size = fb at *
  have HFB := hid hfb
  clear hfb
  go_wp2_with fail
  rw [HMN.out]
  refine (Pow_at fb x (m + n) s hx _ (.inl hfr) HS.out).mono ?_
  rintro e0 w2 ⟨rfl, hB2, hk2⟩
  go_wp2_with fail
  refine (Pow_any fb x m hx _ (.inr hB2)).mono ?_
  rw [Int.toNat_natCast]
  rintro e0 w3 ⟨rfl, hB3, hk3⟩
  go_wp2_with fail
  refine (Pow_any fb x n hx _ (.inr hB3)).mono ?_
  rw [Int.toNat_natCast]
  rintro e0 w4 ⟨rfl, hB4, hk4⟩
  go_wp2_with fail
  refine (Mul_at fb _ _ s _ hpm hpn hB4 HADD.out.symm).mono ?_
  rintro e0 w5 ⟨rfl, hB5, hk5⟩
  have hbel : Below fb w w5 := hb1.trans ((((hk2.trans hk3).trans hk4).trans hk5).below hk0 (Nat.le_refl _))
  clear hb1 hk2 hk3 hk4 hk5 hB2 hB3 hB4 hfr
  have hL : x ≠ 0 → Gf.E (Gf.L x) = x ∧ Gf.L x < 255 := fun h => ⟨Gf.E_L x hx h, Gf.L_lt x hx⟩
  have HL := hid hL
  clear hL
  go_wp2
  go_loopw [8] (fun iv wr => ∃ k : Nat, k ≤ 255 ∧ iv = .int .i64 k ∧ Hid (x ≠ 0 → k ≤ Gf.L x) ∧ Built wr fb ∧ Below fb w wr) (fun iv _ => 255 - (intOf iv).toNat)
  case atStart => exact ⟨0, by omega, rfl, fun _ => by omega, hB5, hbel⟩
  case round =>
    clear hbel hB5
    obtain ⟨k, hk, rfl, HK, hBr, hbel⟩ := hrel
    have hsz : w.heap.size ≤ wr.heap.size := hbel.size
    by_cases hlt : k < 255
    · have hEl := Gf.E_lt k
      have hEp := Gf.E_pos k
      have hp2 := hid (pw_two k)
      by_cases hx2 : Gf.E k = x
      · have hx0 : x ≠ 0 := by rw [← hx2]; exact hEp
        have t1 : ((x : Int) != 0) = true := by simp; omega
        have HX2 := hid hx2
        clear hx2 hx0 hEp
        go_wp2_with fail
        refine (Pow_at fb 2 k x (by omega) _ (.inr hBr) (by rw [hp2.out, HX2.out])).mono ?_
        rintro e0 w6 ⟨rfl, hB6, hk6⟩
        go_wp2_with fail
        refine (known_any _).mono ?_
        rintro e0 w7 ⟨rfl, hb7⟩
        go_wp2
        go_ret
        have hbel2 : Below fb w w6 := hbel.trans (hk6.below (by rw [← HFB.out]; exact hsz) (Nat.le_refl _))
        exact ⟨rfl, by rw [HFB.out]; exact hbel2.trans (hb7.mono (by have := hbel2.size; rw [← HFB.out]; exact this))⟩
      · have t1 : ((Gf.E k : Int) == (x : Int)) = false := by simp; omega
        have hnext : x ≠ 0 → k + 1 ≤ Gf.L x := fun h0 => by
          have h1 := HK.out h0
          have h2 := (HL.out h0).1
          by_cases e : k = Gf.L x
          · rw [← e] at h2; exact absurd h2 hx2
          · omega
        have HN := hid hnext
        clear hnext hx2 hEp
        go_wp2_with fail
        refine (Pow_at fb 2 k (Gf.E k) (by omega) _ (.inr hBr) hp2.out).mono ?_
        rintro e0 w6 ⟨rfl, hB6, hk6⟩
        go_wp2
        exact ⟨⟨k + 1, by omega, by go_num, HN, hB6, hbel.trans (hk6.below (by rw [← HFB.out]; exact hsz) (Nat.le_refl _))⟩, by simp [intOf]; omega⟩
    · have hx0 : x = 0 := by
        by_cases e : x = 0
        · exact e
        · have h1 := HK.out e
          have h2 := (HL.out e).2
          omega
      have t1 : ((x : Int) == 0) = true := by simp [hx0]
      have HX := hid hx0
      clear hx0
      go_wp2_with fail
      refine (known_any _).mono ?_
      rintro e0 w7 ⟨rfl, hb7⟩
      go_wp2
      go_ret
      exact ⟨rfl, by rw [HFB.out]; exact hbel.trans (hb7.mono (by rw [← HFB.out]; exact hsz))⟩
end Go.Proofs.Ytndkcabmaigneaa
