/-
  The reference's Times, Over and Power.
-/
import Derived.Test.YtafkjfpmjhfofaaDoorMul
namespace Go.Proofs.YtafkjfpmjhfofaaDoor
open Go.RowKit

theorem testk : ∀ y : Nat, y < 256 → ∀ k : Nat, k < 8 → ((y &&& (2 ^ k % 256)) != 0) = y.testBit k := by decide +kernel
theorem bitk (y k : Nat) (hy : y < 256) (hk : k < 8) : (bits .and .u8 (y : Int) (2 ^ k % 256) != 0) = y.testBit k := by
  have e : ((2 : Int) ^ k % 256) = ((2 ^ k % 256 : Nat) : Int) := by simp
  rw [e, u8_and_nat y _ hy (by omega), ← testk y hy k hk]
  generalize (y &&& (2 ^ k % 256)) = z
  rw [Bool.eq_iff_iff]; simp
theorem hi128 (a : Nat) (ha : a < 256) : (bits .and .u8 (a : Int) 128 != 0) = decide (128 ≤ a) := by
  rw [and128 a ha]
  by_cases h : a < 128
  · rw [and128_lo a ha h, decide_eq_false (by omega)]; rfl
  · rw [and128_hi a ha (by omega), decide_eq_true (by omega)]; rfl

set_option maxRecDepth 100000 in
/-- Times -/
theorem Times_any (x y : Nat) (hx : x < 256) (hy : y < 256) (w : World) :
    Calls Tryd.prog 88 #[.int .u8 x, .int .u8 y] w fun e w' => e = .returned (.int .u8 (Gf.tm x y)) ∧ w = w' := by
  go_enter Tryd.func88, Tryd.ntmps88
  go_wp2
  go_loop [0, 5, 6] (fun a p i => ∃ k : Nat, k ≤ 8 ∧ i = .int .i64 k ∧ p = .int .u8 (Gf.tmTo x y k).1 ∧ a = .int .u8 (Gf.tmTo x y k).2) (fun _ _ i => 8 - (intOf i).toNat)
  case atStart => exact ⟨0, by omega, rfl, rfl, rfl⟩
  case round =>
    obtain ⟨k, hk, rfl, rfl, rfl⟩ := hrel
    by_cases hlt : k < 8
    · obtain ⟨h1, h2⟩ := Gf.tmTo_lt x y hx k
      have hs : Gf.tmTo x y (k + 1) = Gf.tmStep y k (Gf.tmTo x y k) := rfl
      have HS := hid hs
      clear hs
      generalize Gf.tmTo x y k = s at *
      obtain ⟨p, a⟩ := s
      have hb := bitk y k hy hlt
      have hh := hi128 a h2
      have hx1 := hid (u8_xor_nat p a h1 h2)
      by_cases ha : a < 128
      · have hd := hid (dbl_lo a ha)
        rw [decide_eq_false (by omega)] at hh
        cases ht : y.testBit k
        · rw [ht] at hb
          have HT := hid ht
          clear ht
          go_wp2
          exact ⟨⟨k + 1, by omega, by go_num, by rw [HS.out]; simp [Gf.tmStep, HT.out], by rw [HS.out, hd.out]; rfl⟩, by simp [intOf]; omega⟩
        · rw [ht] at hb
          have HT := hid ht
          clear ht
          go_wp2
          exact ⟨⟨k + 1, by omega, by go_num, by rw [HS.out, hx1.out]; simp [Gf.tmStep, HT.out], by rw [HS.out, hd.out]; rfl⟩, by simp [intOf]; omega⟩
      · have hd := hid (dbl_hi a h2 ha)
        rw [decide_eq_true (by omega)] at hh
        cases ht : y.testBit k
        · rw [ht] at hb
          have HT := hid ht
          clear ht
          go_wp2
          exact ⟨⟨k + 1, by omega, by go_num, by rw [HS.out]; simp [Gf.tmStep, HT.out], by rw [HS.out, hd.out]; rfl⟩, by simp [intOf]; omega⟩
        · rw [ht] at hb
          have HT := hid ht
          clear ht
          go_wp2
          exact ⟨⟨k + 1, by omega, by go_num, by rw [HS.out, hx1.out]; simp [Gf.tmStep, HT.out], by rw [HS.out, hd.out]; rfl⟩, by simp [intOf]; omega⟩
    · obtain rfl : k = 8 := by omega
      go_wp2
      go_ret
      exact ⟨rfl, rfl⟩

/-- the least number from i on whose product with x is 1, looked for below 256 -/
theorem over_spec (x : Nat) (hx : x < 256) (k : Nat) (hk : k < 256) (h : Gf.tm x k = 1) : k = Gf.iv x := Gf.iv_unique x k hx hk h
theorem bool_one (n : Nat) : ((n : Int) == 1) = decide (n = 1) := by rw [Bool.eq_iff_iff]; simp; omega

set_option maxRecDepth 100000 in
/-- Over -/
theorem Over_any (x : Nat) (hx : x < 256) (w : World) :
    Calls Tryd.prog 89 #[.int .u8 x] w fun e w' => e = .returned (.int .u8 (if x = 0 then 0 else Gf.iv x : Nat)) ∧ w = w' := by
  obtain ⟨r, hr⟩ : ∃ r : Nat, r = if x = 0 then 0 else Gf.iv x := ⟨_, rfl⟩
  rw [← hr]
  have hex : x ≠ 0 → Gf.tm x r = 1 ∧ r < 256 ∧ 1 ≤ r := fun h0 => by
    rw [if_neg h0] at hr; subst hr
    exact ⟨Gf.tm_iv x hx h0, Gf.iv_lt x, by have := Gf.iv_pos x; omega⟩
  have HR := hid hr
  have HX := hid hex
  clear hr hex
  go_enter Tryd.func89, Tryd.ntmps89
  go_wp2
  go_loop [3] (fun i => ∃ k : Nat, 1 ≤ k ∧ k ≤ 256 ∧ i = .int .i64 k ∧ (x ≠ 0 → k ≤ r)) (fun i => 256 - (intOf i).toNat)
  case atStart => exact ⟨1, by omega, by omega, rfl, fun h => (HX.out h).2.2⟩
  case round =>
    obtain ⟨k, hk1, hk, rfl, hkr⟩ := hrel
    have HK := hid hkr
    clear hkr
    by_cases hlt : k < 256
    · have hbo := bool_one (Gf.tm x k)
      by_cases h1 : Gf.tm x k = 1
      · rw [decide_eq_true h1] at hbo
        have x0 : x ≠ 0 := by rintro rfl; rw [Gf.tm_zero_left] at h1; omega
        have hkv : k = r := by
          have := HR.out; rw [if_neg x0] at this; rw [this]; exact over_spec x hx k hlt h1
        have HV := hid hkv
        clear hkv h1
        go_wp2_with (go_at_call 88; refine (Times_any x k hx hlt _).mono ?_; rintro e w' ⟨rfl, rfl⟩)
        go_ret
        exact ⟨ret_int (by rw [HV.out]), rfl⟩
      · rw [decide_eq_false h1] at hbo
        have hnext : x ≠ 0 → k + 1 ≤ r := fun x0 => by
          have h2 := HK.out x0
          have h3 := (HX.out x0).1
          by_cases e : k = r
          · rw [e] at h1; exact absurd h3 h1
          · omega
        have HN := hid hnext
        clear hnext h1
        go_wp2_with (go_at_call 88; refine (Times_any x k hx hlt _).mono ?_; rintro e w' ⟨rfl, rfl⟩)
        exact ⟨⟨k + 1, by omega, by omega, by go_num, HN.out⟩, by simp [intOf]; omega⟩
    · have x0 : x = 0 := by
        by_cases e : x = 0
        · exact e
        · have h1 := HK.out e; have h2 := (HX.out e).2.1; omega
      have hr0 : r = 0 := by have := HR.out; rwa [if_pos x0] at this
      have H0 := hid hr0
      clear hr0 x0
      go_wp2
      go_ret
      exact ⟨ret_int (by rw [H0.out]; rfl), rfl⟩
end Go.Proofs.YtafkjfpmjhfofaaDoor
