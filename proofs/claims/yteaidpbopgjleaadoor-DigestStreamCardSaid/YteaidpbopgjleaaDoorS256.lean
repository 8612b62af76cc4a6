/-
  NewHash, SHA256.
-/
import Derived.Test.YteaidpbopgjleaaDoorSum
namespace Go.Proofs.YteaidpbopgjleaaDoor
open Go Go.RowKit
set_option linter.unusedVariables false

theorem list8 (l : List Nat) (h : l.length = 8) : l = [l.getD 0 0, l.getD 1 0, l.getD 2 0, l.getD 3 0, l.getD 4 0, l.getD 5 0, l.getD 6 0, l.getD 7 0] := by
  match l, h with
  | [a, b, c, d, e, f, g, k], _ => rfl
set_option maxRecDepth 100000 in
set_option maxHeartbeats 2000000 in
theorem NewHash_any (KC SH : List Nat) (w : World) (V : Vars w KC SH) :
    Calls Tryd.prog 10 #[] w fun e w' => e = .returned (.pointer (some ⟨w.heap.size, 0, none⟩)) ∧ MsgAt w' w.heap.size KC SH [] ∧ Below w.heap.size w w' := by
  have g : ∀ i, i < 8 → w.cell? ⟨0, i, none⟩ = some (.int .u32 ((SH.getD i 0 : Nat) : Int)) := fun i hi => by
    have h1 : i < SH.length := by rw [V.sl]; exact hi
    have h2 := V.start i (.int .u32 ((SH.getD i 0 : Nat) : Int)) (by simp [u32s, h1])
    rwa [Nat.zero_add] at h2
  have hc : hcells SH (List.replicate 64 0) 0 = hcells [SH.getD 0 0, SH.getD 1 0, SH.getD 2 0, SH.getD 3 0, SH.getD 4 0, SH.getD 5 0, SH.getD 6 0, SH.getD 7 0] (List.replicate 64 0) 0 := by rw [← list8 SH V.sl]
  have hm : MsgAt (w.alloc (.cells (hcells SH (List.replicate 64 0) 0).toArray 82)) w.heap.size KC SH [] :=
    ⟨SH, List.replicate 64 0, ⟨heap_new _ _, V.sl, by simp, V.so, fun i => by rw [zeros_getD]; decide⟩, rfl, fun j hj => absurd hj (Nat.not_lt_zero _)⟩
  rw [hc] at hm
  have HM := hid hm
  have g0 := g 0 (by omega)
  have g1 := g 1 (by omega)
  have g2 := g 2 (by omega)
  have g3 := g 3 (by omega)
  have g4 := g 4 (by omega)
  have g5 := g 5 (by omega)
  have g6 := g 6 (by omega)
  have g7 := g 7 (by omega)
  clear g hc hm V
  generalize SH.getD 0 0 = x0 at *
  generalize SH.getD 1 0 = x1 at *
  generalize SH.getD 2 0 = x2 at *
  generalize SH.getD 3 0 = x3 at *
  generalize SH.getD 4 0 = x4 at *
  generalize SH.getD 5 0 = x5 at *
  generalize SH.getD 6 0 = x6 at *
  generalize SH.getD 7 0 = x7 at *
  go_enter Tryd.func10, Tryd.ntmps10
  go_wp2
  go_ret
  exact ⟨rfl, HM.out, (Below.refl _ _).alloc (Nat.le_refl _) _⟩
theorem dig_length (KC SH m : List Nat) : (dig KC SH m).length = 32 := digL_length _

set_option maxRecDepth 100000 in
set_option maxHeartbeats 1000000 in
theorem SHA256_any (a : Option Addr) (n c : Nat) (KC SH l : List Nat) (w : World) (V : Vars w KC SH) (hl : Bs w (.slice a n c) l) (hc : n ≤ c) (hsz : n ≤ 900000000) :
    Calls Tryd.prog 14 #[.slice a n c] w fun e w' => e = .returned (.agg (u8s (dig KC SH l)).toArray) ∧ Below w.heap.size w w' := by
  have HV := hid V
  have HL := hid hl
  have hn := hl.len
  have HN := hid hn
  obtain ⟨w1, hw1⟩ : ∃ w1, w1 = w.alloc (.cells (u8s (List.replicate 32 0)).toArray 30) := ⟨_, rfl⟩
  have hb1 : Below w.heap.size w w1 := by rw [hw1]; exact (Below.refl _ _).alloc (Nat.le_refl _) _
  have HR1 := hid (show OwnD w1 w.heap.size (List.replicate 32 0) from by rw [hw1]; exact heap_new _ _)
  have hs1 : w1.heap.size = w.heap.size + 1 := by rw [hw1]; simp
  have HB1 := hid hb1
  have HV1 := hid (V.below hb1)
  have hvlt := V.lt
  clear V hl hb1 hn
  go_enter Tryd.func14, Tryd.ntmps14
  go_wp2_with fail
  change Calls _ _ _ (w.alloc (.cells (u8s (List.replicate 32 0)).toArray 30)) _
  rw [← hw1]
  clear hw1
  refine (NewHash_any KC SH w1 HV1.out).mono ?_
  rintro e w2 ⟨rfl, hM2, hb2⟩
  have HM2 := hid hM2
  have HR2 := hid ((hb2.block w.heap.size (by omega)).trans HR1.out)
  have HB2 := hid (HB1.out.trans (hb2.mono HB1.out.size))
  have HV2 := hid (HV1.out.below hb2)
  obtain ⟨hb, hhb⟩ : ∃ hb, hb = w1.heap.size := ⟨_, rfl⟩
  rw [← hhb] at HM2 ⊢
  have HHB := hid hhb
  have h4 : hb = w.heap.size + 1 := by omega
  have HS1 := hid hs1
  clear hM2 hb2 hhb hs1
  have hbl := HL.out.below HB2.out
  have hoff : 0 < n → Off hb (.slice a n c) := fun h0 => by
    rcases HL.out.addr with ⟨h1, _⟩ | ⟨h1, b, o, c', hv⟩
    · have := HN.out; rw [h1] at this; simp at this; omega
    · simp only [Value.slice.injEq] at hv
      obtain ⟨rfl, _, _⟩ := hv
      have h1 := HL.out.cell 0 (by rw [← HN.out]; exact h0)
      have h2 := World.block_lt_of_cell? _ _ h1
      show b ≠ hb
      simp only at h2
      omega
  have HBL := hid hbl
  have HOF := hid hoff
  clear hbl hoff
  have q3 : 2 ≤ hb := by omega
  have qh : w.heap.size ≤ hb := by omega
  have qn : w.heap.size ≠ hb := by omega
  have q4 : ([] : List Nat).length + n ≤ 1000000000 := by rw [List.length_nil, Nat.zero_add]; exact Nat.le_trans hsz (by decide)
  have HQ := hid (Write_gen hb n c a KC SH [] l w2 HM2.out HV2.out q3 HBL.out hc HOF.out q4)
  clear q4
  have H4 := hid h4
  clear h4
  go_wp2_with fail
  refine HQ.out.mono ?_
  clear HQ
  rintro e w3 ⟨rfl, hM3, hk3⟩
  rw [List.nil_append] at hM3
  have HM3 := hid hM3
  have HR3 := hid ((hk3.block w.heap.size (lt_of_heap HR2.out) qn).trans HR2.out)
  have HV3 := hid (HV2.out.kept hk3 q3)
  have HB3 := hid (HB2.out.trans (hk3.below HB2.out.size qh))
  clear hM3 hk3
  go_wp2_with fail
  refine (Sum_any hb KC SH l w3 HM3.out HV3.out q3 (by rw [← HN.out]; exact hsz)).mono ?_
  rintro e w4 ⟨rfl, hb4⟩
  have HR4 := hid ((hb4.block w.heap.size (lt_of_heap HR3.out)).trans HR3.out)
  have hbe := HB3.out.trans (hb4.mono HB3.out.size)
  have hl32 := dig_length KC SH l
  generalize hD : dig KC SH l = D at *
  have HD := hid (fun (_ : Unit) => hD)
  have hl32' : (u8s D).length = 32 := by simp [u8s, hl32]
  have HIF2 := hid (show (Tryd.prog.info? 30).map (·.size) = some (u8s D).toArray.size from by rw [List.size_toArray, hl32']; kernel_rfl)
  have HOLD := hid (show (u8s (List.replicate 32 0)).toArray.size = (u8s D).toArray.size from by rw [List.size_toArray, List.size_toArray, hl32']; rfl)
  have HONE := hid (show (u8s D).toArray.all (·.oneCell') = true from all_oneCell_toArray (u8s_oneH _))
  clear hD hb4 hl32 hl32'
  go_wp2_with (refine wpList_store_row (by rfl) 30 (.tmp 2) (.tmp 9) (by rfl) w.heap.size _ (u8s D).toArray _ (by rfl) (by rfl) HR4.out HIF2.out HOLD.out HONE.out ?_
               intro w8 hw8 hk8)
  have hres : (loadVar 30 ⟨w.heap.size, 0, none⟩).run Tryd.prog w8 = .ok (.agg (u8s D).toArray) w8 := run_loadVar_row _ _ 30 30 _ (0, 0) _ hw8 Tryd.underlying30 rfl HIF2.out
  refine bodyPost_ret (v := .agg (u8s D).toArray) (results_at Tryd.results14 rfl hres) rfl ⟨by first | rfl | rw [HD.out ()], ?_⟩
  exact hbe.trans (hk8.below hbe.size (Nat.le_refl _))
end Go.Proofs.YteaidpbopgjleaaDoor
