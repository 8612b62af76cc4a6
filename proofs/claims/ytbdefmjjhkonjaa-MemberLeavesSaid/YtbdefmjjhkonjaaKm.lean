/-
  known: the few calls that every statement of chapter 5 ends with.
-/
import Derived.Test.YtbdefmjjhkonjaaTk
namespace Go.Proofs.Ytbdefmjjhkonjaa
open Go Go.RowKit
set_option linter.unusedVariables false

def L0 : List Ent := [(5, 1), (0, 0), (0, 0)]
def T0 : List Ent := [(6, 2), (0, 0), (1, 1)]
theorem L0_set : (List.replicate 3 ((0, 0) : Ent)).set 0 (5, 1) = L0 := rfl
theorem L0_live : ∀ i, ((gd L0 i).2 == 2) = false
  | 0 => rfl
  | 1 => rfl
  | 2 => rfl
  | n + 3 => rfl
theorem T0_ok : vld T0 = true := by kernel_rfl
theorem lrn_known : lrn 0 1 T0 L0 [0, 0, 0] 0 3 = ([(5, 1), (0, 0), (1, 1)], [0, 0, 0], 6) := by decide
theorem live_known : liveL [(5, 1), (0, 0), (1, 1)] 3 = [0, 2] := by decide
theorem jn_known : jn (3, 3) (4, 1) = (4, 1) := by decide

theorem fld_known (w : World) : (Instr.field 36 (.agg #[.int .u64 4, .int .u8 1]) 0).run Try.prog w = .ok (.int .u64 4) w := by kernel_rfl
set_option maxRecDepth 100000 in
set_option maxHeartbeats 2000000 in
theorem known_m (w : World) : Calls Try.prog 17 #[] w fun e w' => e = .returned (.bool true) ∧ Below w.heap.size w w' := by
  have HN := hid (show Calls Try.prog 34 #[.int .i64 0, .int .i64 3, .int .u64 5] w _ from New_ok 0 3 5 w (by decide) (by decide) (by decide) (by decide))
  have HJ := hid (fun wx => show Calls Try.prog 28 #[.agg #[.int .u64 3, .int .u8 3], .agg #[.int .u64 4, .int .u8 1]] wx (fun e w' => e = .returned (.agg #[.int .u64 4, .int .u8 1]) ∧ Below wx.heap.size wx w') from by have h := Join_any 3 3 4 1 wx; rw [jn_known] at h; exact h)
  have hfl := fld_known
  go_enter Try.func17, Try.ntmps17
  go_wp2_with fail
  refine HN.out.mono ?_
  rintro e w1 ⟨mb, tb, sb, rfl, hM, hmb, htb, hsb, hb1⟩
  rw [L0_set] at hM
  have HM1 := hid hM
  have HB1 := hid hb1
  clear hM hb1 HN
  go_wp2_with fail
  refine (HJ.out _).mono ?_
  rintro e w2 ⟨rfl, hb2⟩
  have HM2 := hid (HM1.out.below hb2)
  have HB2 := hid (HB1.out.trans (hb2.mono HB1.out.size))
  clear HJ HM1 HB1 hb2
  go_wp2_with fail
  have HT := hid (show Calls Try.prog 36 #[.pointer (some ⟨mb, 0, none⟩), .int .u64 0] w2 _ from Tick_first (n := 3) (me := 0) 0 0 0 0 w2 HM2.out (by decide) (by decide) (by decide) (by decide) (by decide) (by decide) L0_live rfl)
  refine HT.out.mono ?_
  rintro e w3 ⟨g, c, v, pv', rfl, hG3, hO3, hM3, hg3, hH3⟩
  have hb2s := HB2.out.size
  have HM3 := hid (show Mc w3 mb tb sb 3 0 L0 [0, 0, 0] 1 pv' 1 1 0 from hM3)
  have HB3 := hid (HB2.out.trans (hH3.below hb2s (fun b hb => by simp at hb; omega)))
  have HG3 := hid (show MsgAt w3 g 1 0 1 1 0 0 v rest0 from hG3)
  obtain ⟨vb, vc, rfl, hvb1, hvb2⟩ := hO3.form (by decide)
  obtain ⟨x0, x1, x2, x3, x4, x5, x6⟩ := HG3.out.cells
  clear hG3 hO3 hM3 hH3 HM2 HB2 HT
  go_upto_region 7 with fail
  go_wp2_with fail
  have hE : (((((Try.zeroCells56.setIfInBounds 0 (.int .u8 1)).setIfInBounds 1 (.int .i64 2)).setIfInBounds 3 (.int .u64 9)).setIfInBounds 4 (.int .i64 2)).setIfInBounds 6 (.slice (some ⟨w3.heap.size, 0, none⟩) 3 3)) = (msg 1 2 0 9 2 0 (.slice (some ⟨w3.heap.size, 0, none⟩) 3 3) rest0).toArray := by kernel_rfl
  rw [hE]
  clear hE x0 x1 x2 x3 x4 x5 x6
  have hb4 : Below w3.heap.size w3 (w3.alloc (.cells (ecl T0).toArray 36)) := (Below.refl _ _).alloc (Nat.le_refl _) _
  have HM4 := hid (HM3.out.below hb4)
  have HB4 := hid (HB3.out.trans (hb4.mono HB3.out.size))
  have hr4 : Row (w3.alloc (.cells (ecl T0).toArray 36)) w3.heap.size T0 := heap_new _ _
  have HT4 := hid (hr4.tb 3 (by decide))
  have h3s := HB3.out.size
  have hmb3 := lt_of_heap HM3.out.m
  have htb3 := HM3.out.t.lt
  have hsb3 := lt_of_heap HM3.out.s
  change Calls _ _ _ (w3.alloc (.cells (ecl T0).toArray 36)) _
  obtain ⟨w4, hw4⟩ : ∃ y, y = w3.alloc (.cells (ecl T0).toArray 36) := ⟨_, rfl⟩
  rw [← hw4] at HM4 HB4 HT4 ⊢
  clear hw4 hb4 hr4 HM3 HB3 HG3
  obtain ⟨tv, htv⟩ : ∃ x, x = w3.heap.size := ⟨_, rfl⟩
  rw [← htv] at HT4 ⊢
  have HC := hid (show Clear [mb, tb, sb] (.slice (some ⟨tv, 0, none⟩) 3 3) from by show tv ∉ _; rw [htv]; simp; omega)
  clear htv hmb3 htb3 hsb3
  have hrc := Receive_ping (n := 3) (me := 0) 2 2 9 0 (some ⟨tv, 0, none⟩) 3 rest0 T0 w4 HM4.out HT4.out HC.out T0_ok (by decide) (by decide) (by decide) (by decide) (by decide) (by decide) rest0_length rfl
  rw [lrn_known] at hrc
  have HRC := hid (show Calls Try.prog 58 #[.pointer (some ⟨mb, 0, none⟩), .agg (msg 1 2 0 9 2 0 (.slice (some ⟨tv, 0, none⟩) 3 3) rest0).toArray] w4 _ from hrc)
  clear hrc
  refine HRC.out.mono ?_
  rintro e w5 ⟨gb, v2, rfl, hM5, hG5, hO5, hg5, hH5⟩
  have HM5 := hid (show Mc w5 mb tb sb 3 0 [(5, 1), (0, 0), (1, 1)] [0, 0, 0] 1 pv' 1 1 6 from hM5)
  have HB5 := hid (HB4.out.trans (hH5.below HB4.out.size (fun b hb => by simp at hb; omega)))
  have HG5 := hid (show MsgAt w5 gb 2 0 2 9 2 0 v2 rest0 from hG5)
  obtain ⟨x0, x1, x2, x3, x4, x5, x6⟩ := HG5.out.cells
  have HCH := hid (Challenge_any w5 HM5.out)
  have HLV := hid (MLive_any w5 HM5.out (by decide))
  rw [live_known] at HLV
  clear hM5 hG5 hO5 hg5 hH5 HM4 HB4 HT4 HC HRC
  go_wp2_with fail
  refine HCH.out.mono ?_
  rintro e w6 ⟨rfl, hw6⟩
  subst hw6
  clear HCH
  go_wp2_with fail
  refine HLV.out.mono ?_
  rintro e w7 ⟨v7, rfl, hO7, hb7⟩
  obtain ⟨lb, lc, rfl, _, _⟩ := hO7.form (by decide)
  have HM7 := hid (HM5.out.below hb7)
  have HB7 := hid (HB5.out.trans (hb7.mono HB5.out.size))
  have HCL := hid (Clock_any w7 HM7.out)
  clear hO7 hb7 HLV HM5 HB5 HG5
  go_wp2_with fail
  refine HCL.out.mono ?_
  rintro e w8 ⟨rfl, hw8⟩
  subst hw8
  clear HCL
  go_wp2
  go_ret
  exact ⟨rfl, HB7.out⟩
end Go.Proofs.Ytbdefmjjhkonjaa
