/-
  PieceDigest.
-/
import Derived.Test.YtafkjfpmjhfofaaDoorS2
namespace Go.Proofs.YtafkjfpmjhfofaaDoor
open Go Go.RowKit
set_option linter.unusedVariables false

set_option maxRecDepth 100000 in
set_option maxHeartbeats 1000000 in
theorem PieceDigest_any (x : Nat) (hx : x < 65536) (a : Option Addr) (n c : Nat) (KC SH l : List Nat) (w : World) (V : Vars w KC SH) (hl : Bs w (.slice a n c) l) (hc : n ≤ c) (hsz : n ≤ 800000000) :
    Calls Tryd.prog 18 #[.int .i64 (x : Int), .slice a n c] w fun e w' => e = .returned (.agg (u8s (dig KC SH ([x / 256, x % 256] ++ l))).toArray) ∧ Below w.heap.size w w' := by
  have HV := hid V
  have HL := hid hl
  have hn := hl.len
  have HN := hid hn
  obtain ⟨w1, hw1⟩ : ∃ w1, w1 = w.alloc (.cells (u8s (List.replicate 32 0)).toArray 24) := ⟨_, rfl⟩
  have hb1 : Below w.heap.size w w1 := by rw [hw1]; exact (Below.refl _ _).alloc (Nat.le_refl _) _
  have HR1 := hid (show OwnD w1 w.heap.size (List.replicate 32 0) from by rw [hw1]; exact heap_new _ _)
  have hs1 : w1.heap.size = w.heap.size + 1 := by rw [hw1]; simp
  have HB1 := hid hb1
  have HV1 := hid (V.below hb1)
  have hvlt := V.lt
  clear V hl hb1 hn
  go_enter Tryd.func18, Tryd.ntmps18
  go_wp2_with fail
  change Calls _ _ _ (w.alloc (.cells (u8s (List.replicate 32 0)).toArray 24)) _
  rw [← hw1]
  clear hw1
  refine (NewHash_any KC SH w1 HV1.out).mono ?_
  rintro e w2 ⟨rfl, hM2, hb2⟩
  have HM2 := hid hM2
  have HR2 := hid ((hb2.block w.heap.size (by omega)).trans HR1.out)
  have HB2 := hid (HB1.out.trans (hb2.mono HB1.out.size))
  have HV2 := hid (HV1.out.below hb2)
  obtain ⟨hb, hhb⟩ : ∃ hb, hb = w1.heap.size := ⟨_, rfl⟩
  rw [← hhb] at HM2 ⊢
  have HHB := hid hhb
  have h4 : hb = w.heap.size + 1 := by omega
  have HS1 := hid hs1
  clear hM2 hb2 hhb hs1
  have hbl := HL.out.below HB2.out
  have hoff : 0 < n → Off hb (.slice a n c) := fun h0 => by
    rcases HL.out.addr with ⟨h1, _⟩ | ⟨h1, b, o, c', hv⟩
    · have := HN.out; rw [h1] at this; simp at this; omega
    · simp only [Value.slice.injEq] at hv
      obtain ⟨rfl, _, _⟩ := hv
      have h1 := HL.out.cell 0 (by rw [← HN.out]; exact h0)
      have h2 := World.block_lt_of_cell? _ _ h1
      show b ≠ hb
      simp only at h2
      omega
  have HBL := hid hbl
  have HOF := hid hoff
  clear hbl hoff
  have q3 : 3 ≤ hb := by omega
  have qh : w.heap.size ≤ hb := by omega
  have qn : w.heap.size ≠ hb := by omega
  have H4 := hid h4
  clear h4
  have u1 : IntKind.u16.wrap (x : Int) = (x : Int) := by rw [IntKind.wrap_u16]; omega
  have u2 : IntKind.u8.wrap ((x : Int) / 256) = ((x / 256 : Nat) : Int) := by rw [IntKind.wrap_u8]; omega
  have u3 : IntKind.u8.wrap (x : Int) = ((x % 256 : Nat) : Int) := by rw [IntKind.wrap_u8]; omega
  have p1 : x / 256 < 256 := by omega
  have p2 : x % 256 < 256 := by omega
  obtain ⟨xh, hxh⟩ : ∃ y, y = x / 256 := ⟨_, rfl⟩
  obtain ⟨xl, hxl⟩ : ∃ y, y = x % 256 := ⟨_, rfl⟩
  rw [← hxh] at u2 p1
  rw [← hxl] at u3 p2
  have HXH := hid (fun (_ : Unit) => hxh)
  have HXL := hid (fun (_ : Unit) => hxl)
  clear hxh hxl
  have hq2 : ∀ z ∈ [xh, xl], z < 256 := fun z hz => by
    simp only [List.mem_cons, List.not_mem_nil, or_false] at hz
    rcases hz with rfl | rfl
    · exact p1
    · exact p2
  have hhb2 : hb < w2.heap.size := by obtain ⟨_, _, H, _⟩ := HM2.out; exact H.lt
  obtain ⟨w5, hw5⟩ : ∃ w5, w5 = w2.alloc (.cells (u8s [xh, xl]).toArray 5) := ⟨_, rfl⟩
  have hb5 : Below w2.heap.size w2 w5 := by rw [hw5]; exact (Below.refl _ _).alloc (Nat.le_refl _) _
  have M5 := HM2.out.same (hb5.block hb hhb2)
  have V5 := HV2.out.below hb5
  have HR5 := hid ((hb5.block w.heap.size (lt_of_heap HR2.out)).trans HR2.out)
  have BS5 : Bs w5 (.slice (some ⟨w2.heap.size, 0, none⟩) 2 2) [xh, xl] := by rw [hw5]; exact Own.bs (l := [xh, xl]) (heap_new _ _) hq2 2
  have HQ := hid (Write_gen hb 2 2 (some ⟨w2.heap.size, 0, none⟩) KC SH [] [xh, xl] w5 M5 V5 q3 BS5 (Nat.le_refl _) (fun _ => by show w2.heap.size ≠ hb; omega) (by simp))
  have HBL5 := hid (HBL.out.below hb5)
  have HB5 := hid (HB2.out.trans (hb5.mono HB2.out.size))
  have HV5 := hid V5
  have HW5 := hid (fun (_ : Unit) => hw5)
  clear M5 V5 BS5 hb5 hhb2
  go_wp2_with fail
  change Calls _ _ _ (w2.alloc (.cells (u8s [xh, xl]).toArray 5)) _
  rw [← HW5.out ()]
  refine HQ.out.mono ?_
  clear HQ
  rintro e w6 ⟨rfl, hM6, hk6⟩
  rw [List.nil_append] at hM6
  have HM6 := hid hM6
  have HR6 := hid ((hk6.block w.heap.size (lt_of_heap HR5.out) qn).trans HR5.out)
  have HV6 := hid (HV5.out.kept hk6 q3)
  have HB6 := hid (HB5.out.trans (hk6.below HB5.out.size qh))
  have HBL6 := hid (show Bs w6 (.slice a n c) l from by
    by_cases h0 : 0 < n
    · exact HBL5.out.kept hk6 (HOF.out h0)
    · have hl0 : l = [] := List.length_eq_zero_iff.1 (by have := HN.out; omega)
      have hn0 : n = 0 := by omega
      rw [hl0, hn0]
      exact bs_nilH _ _ _)
  have HQ := hid (Write_gen hb n c a KC SH [xh, xl] l w6 HM6.out HV6.out q3 HBL6.out hc HOF.out (by simp; omega))
  clear hM6 hk6
  go_wp2_with fail
  refine HQ.out.mono ?_
  clear HQ
  rintro e w3 ⟨rfl, hM3, hk3⟩
  have HM3 := hid hM3
  have HR3 := hid ((hk3.block w.heap.size (lt_of_heap HR6.out) qn).trans HR6.out)
  have HV3 := hid (HV6.out.kept hk3 q3)
  have HB3 := hid (HB6.out.trans (hk3.below HB6.out.size qh))
  clear hM3 hk3
  go_wp2_with fail
  refine (Sum_any hb KC SH ([xh, xl] ++ l) w3 HM3.out HV3.out q3 (by have := HN.out; simp; omega)).mono ?_
  rintro e w4 ⟨rfl, hb4⟩
  have HR4 := hid ((hb4.block w.heap.size (lt_of_heap HR3.out)).trans HR3.out)
  have hbe := HB3.out.trans (hb4.mono HB3.out.size)
  have hl32 := dig_length KC SH ([xh, xl] ++ l)
  generalize hD : dig KC SH ([xh, xl] ++ l) = D at *
  have HD := hid (fun (_ : Unit) => hD)
  have hl32' : (u8s D).length = 32 := by simp [u8s, hl32]
  have HIF2 := hid (show (Tryd.prog.info? 24).map (·.size) = some (u8s D).toArray.size from by rw [List.size_toArray, hl32']; kernel_rfl)
  have HOLD := hid (show (u8s (List.replicate 32 0)).toArray.size = (u8s D).toArray.size from by rw [List.size_toArray, List.size_toArray, hl32']; rfl)
  have HONE := hid (show (u8s D).toArray.all (·.oneCell') = true from all_oneCell_toArray (u8s_oneH _))
  clear hD hb4 hl32 hl32'
  go_wp2_with (refine wpList_store_row (by rfl) 24 (.tmp 4) (.tmp 22) (by rfl) w.heap.size _ (u8s D).toArray _ (by rfl) (by rfl) HR4.out HIF2.out HOLD.out HONE.out ?_
               intro w8 hw8 hk8)
  have hres : (loadVar 24 ⟨w.heap.size, 0, none⟩).run Tryd.prog w8 = .ok (.agg (u8s D).toArray) w8 := run_loadVar_row _ _ 24 24 _ (0, 0) _ hw8 Tryd.underlying24 rfl HIF2.out
  refine bodyPost_ret (v := .agg (u8s D).toArray) (results_at Tryd.results18 rfl hres) rfl ⟨by rw [← HXH.out (), ← HXL.out ()]; exact congrArg (fun z => Ending.returned (.agg (u8s z).toArray)) (HD.out ()).symm, ?_⟩
  exact hbe.trans (hk8.below hbe.size (Nat.le_refl _))
end Go.Proofs.YtafkjfpmjhfofaaDoor
