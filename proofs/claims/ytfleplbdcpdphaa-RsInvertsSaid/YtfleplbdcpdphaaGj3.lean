/-
  reduce: the elimination of the first columns.
-/
import Derived.Test.YtfleplbdcpdphaaGj2
namespace Go.Proofs.Ytfleplbdcpdphaa
open Go Go.RowKit
set_option linter.unusedVariables false

set_option maxRecDepth 100000 in
set_option maxHeartbeats 2000000 in
theorem reduce_any (fb R C cols b n cap : Nat) (M : Nat → Nat → Nat) (w : World) (hB : Built w fb) (hO : Buf w b cap (flat R C M)) (hne : fb ≠ b) (hR : R ≤ 1000) (hC1 : 1 ≤ C) (hC : C ≤ 1000) (hcols : cols ≤ C) (hn : n = R * C) (hMl : ∀ i j, M i j < 256) :
    Calls Try.prog 103 #[.pointer (some ⟨fb, 0, none⟩), .agg #[.int .i64 R, .int .i64 C, .slice (some ⟨b, 0, none⟩) n cap], .int .i64 cols] w fun e w' => e = .returned (.int .i64 (gj R M cols).2) ∧ Buf w' b cap (flat R C (gj R M cols).1) ∧ Built w' fb ∧ Kept b w w' := by
  have hcap := hO.cap_le
  rw [flat_length, ← hn] at hcap
  have HI := hid (RInv.start (n := n) hO hB hne)
  have HN := hid hn
  have HML := hid hMl
  clear hO hB hn hMl
  go_enter Try.func103, Try.ntmps103
  go_wp2
  go_loopw [7, 11] (fun kv iv wr => ∃ c : Nat, c ≤ cols ∧ iv = .int .i64 c ∧ kv = .int .i64 ((gj R M c).2 : Nat) ∧ Hid (RInv fb b cap w.heap.size R C n (gj R M c).1 w wr)) (fun _ iv _ => cols - (intOf iv).toNat)
  case atStart => exact ⟨0, by omega, rfl, rfl, HI⟩
  case round =>
    clear HI
    obtain ⟨c, hc, rfl, rfl, HI⟩ := hrel
    obtain ⟨hk1, hk2⟩ := gj_le R M c
    by_cases hlt : c < cols
    · obtain ⟨p, hp⟩ : ∃ p, piv R (gj R M c).1 (gj R M c).2 c = p := ⟨_, rfl⟩
      obtain ⟨p1, p2, p3, p4⟩ := piv_spec R (gj R M c).1 (gj R M c).2 c hk1
      rw [hp] at p1 p2 p3 p4
      have hgl := gj_lt HML.out R c
      have HP := hid hp
      have HP4 := hid p4
      have HGL := hid hgl
      obtain ⟨a0, a1, a2⟩ := HI.out.keep
      have hfp := findPivot_any R C b n cap (gj R M c).2 c p (gj R M c).1 wr HI.out.buf hR hC1 hC HN.out hk1 (by omega) hgl hp
      have HFP := hid hfp
      clear hp p3 p4 hgl hfp
      by_cases hpR : p < R
      · have hnext := gj_some R M c p HP.out hpR
        have HNX := hid hnext
        have hM0 := HP4.out hpR
        rw [if_pos hpR] at HFP
        clear hnext
        generalize hG : (gj R M c).1 = G at *
        generalize hK : (gj R M c).2 = k at *
        have HG := hid hG
        have HK := hid hK
        clear hG hK
        have hkR : k < R := by omega
        go_wp2_with fail
        refine HFP.out.mono ?_
        rintro e w2 ⟨rfl, hb2⟩
        have HI2 := hid (HI.out.below hb2)
        clear a0 a1 a2 hb2 HFP
        have hd : decide ((p : Int) < 0) = false := by simp
        have hsw : swapM G k p k c = G p c := by unfold swapM; rw [if_pos rfl]
        have hsl : ∀ i j, swapM G k p i j < 256 := swapM_lt HGL.out k p
        have HSW := hid hsw
        have HSL := hid hsl
        have HM0 := hid hM0
        clear hsw hsl hM0
        go_wp2_with fail
        go_region_held3 (fun w' => w'.cell? ⟨w.heap.size, 0, none⟩ = some (.int .i64 R) ∧ w'.cell? ⟨w.heap.size, 1, none⟩ = some (.int .i64 C) ∧ w'.cell? ⟨w.heap.size, 2, none⟩ = some (.slice (some ⟨b, 0, none⟩) n cap))
          (first | with_reducible exact HI2.out.keep | with_reducible exact K6.out.keep | with_reducible exact K7.out.keep | with_reducible exact K8.out.keep | exact HI2.out.keep)
          (first | (go_at_call_of 91 (Value.int .i64 (k : Int)); refine (row0_any R C k b n cap hkR hC1 hC hR HN.out hcap _).mono ?_; rintro e w6 ⟨rfl, hb6⟩; have K6 := hid (HI2.out.below (chainA hb6)))
                 | (go_at_call_of 91 (Value.int .i64 (p : Int)); refine (row0_any R C p b n cap hpR hC1 hC hR HN.out hcap _).mono ?_; rintro e w7 ⟨rfl, hb7⟩; have K7 := hid (K6.out.below hb7))
                 | (go_at_call 111; refine (swap_any R C b cap k p (cap - k * C) (cap - p * C) G _ K7.out.buf hkR hpR hR hC).mono ?_; rintro e w8 ⟨rfl, ho8, hk8⟩; have K8 := hid (K7.out.step (Below.refl _ _) hk8 ho8)))
        obtain ⟨a0, a1, a2⟩ := K8.out.keep
        go_wp2_with fail
        refine (clearColumn_any fb R C k c b n cap (swapM G k p) _ K8.out.built K8.out.buf K8.out.ne.1 hkR (by omega) hR hC HN.out (by rw [HSW.out]; exact HM0.out) HSL.out).mono ?_
        rw [HSW.out]
        rintro e w9 ⟨rfl, ho9, hk9⟩
        have K9 := hid (K8.out.step (Below.refl _ _) hk9 ho9)
        clear a0 a1 a2 ho9 hk9
        go_wp2
        exact ⟨⟨c + 1, by omega, by go_num, by rw [HNX.out]; go_num, by rw [HNX.out]; exact K9⟩, by simp [intOf]; omega⟩
      · obtain rfl : p = R := by omega
        have hnext := gj_none p M c HP.out
        have HNX := hid hnext
        rw [if_neg (Nat.lt_irrefl p)] at HFP
        clear hnext
        generalize hG : (gj p M c).1 = G at *
        generalize hK : (gj p M c).2 = k at *
        have HG := hid hG
        have HK := hid hK
        clear hG hK
        go_wp2_with fail
        refine HFP.out.mono ?_
        rintro e w2 ⟨rfl, hb2⟩
        have HI2 := hid (HI.out.below hb2)
        go_wp2
        exact ⟨⟨c + 1, by omega, by go_num, by rw [HNX.out, HK.out], by rw [HNX.out, HG.out]; exact HI2⟩, by simp [intOf]; omega⟩
    · obtain rfl : c = cols := by omega
      go_wp2
      go_ret
      exact ⟨rfl, HI.out.buf, HI.out.built, HI.out.kept⟩
end Go.Proofs.Ytfleplbdcpdphaa
