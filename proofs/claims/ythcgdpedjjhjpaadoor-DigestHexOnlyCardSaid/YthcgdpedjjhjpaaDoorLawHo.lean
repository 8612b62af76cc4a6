/-
  DigestHexOnly: the walk.
-/
import Derived.Test.YthcgdpedjjhjpaaDoorKnw
import Derived.Test.YthcgdpedjjhjpaaDoorPh
namespace Go.Proofs.YthcgdpedjjhjpaaDoor
open Go Go.RowKit
set_option linter.unusedVariables false

theorem bstr_nums (S : ByteArray) : bstr (nums S) = S := by
  unfold bstr nums
  rw [List.map_map]
  have e : (UInt8.ofNat ∘ UInt8.toNat : UInt8 → UInt8) = id := by
    funext c
    simp
  rw [e, List.map_id]
theorem phR_bad (s : List Nat) (h : (phR s).2 ≠ 0) : (phR s).1 = List.replicate 32 0 := by
  unfold phR at h ⊢
  split
  · rfl
  · split
    · rfl
    · split
      · rename_i h1 h2 h3
        rw [if_neg h1, if_neg h2, if_pos h3] at h
        exact absurd rfl h
      · rfl
theorem phR_good (s : List Nat) (h : (phR s).2 = 0) : s.length = 64 ∧ (∀ t, t < 64 → hv (s.getD t 0) < 16) ∧ (phR s).1 = pdL s 64 := by
  unfold phR at h ⊢
  by_cases h1 : s.length < 64
  · rw [if_pos h1] at h; exact absurd h (by decide)
  · by_cases h2 : 64 < s.length
    · rw [if_neg h1, if_pos h2] at h; exact absurd h (by decide)
    · by_cases h3 : phOk s = true
      · rw [if_neg h1, if_neg h2, if_pos h3]
        exact ⟨by omega, (phOk_iff s).1 h3, rfl⟩
      · rw [if_neg h1, if_neg h2, if_neg h3] at h; exact absurd h (by decide)
theorem hex_back (S : ByteArray) (h : (phR (nums S)).2 = 0) : bstr (hexL (phR (nums S)).1 32) = S := by
  obtain ⟨h1, h2, h3⟩ := phR_good _ h
  rw [h3, hexL_pd _ h2 h1 32 (by omega), List.take_of_length_le (by omega), bstr_nums]
theorem eql_zero (w : World) : (Op.equalIn 10000 52 (.agg (u8s (List.replicate 32 0)).toArray) (.agg (u8s (List.replicate 32 0)).toArray)).run Tryd.prog w = .ok true w := by kernel_rfl

set_option maxRecDepth 100000 in
set_option maxHeartbeats 2000000 in
theorem hexonly_walk (w : World) (V : Vars w shaRound shaStart) (S : ByteArray) (hS : S.size ≤ maxLen) :
    Calls Tryd.prog 21 #[.string S] w fun e w' => e = .returned (.bool true) ∧ Below w.heap.size w w' := by
  have HK := hid (fun (wx : World) (b : Below w.heap.size w wx) => known_dg wx (V.below b))
  clear V
  by_cases h1 : 200 < S.size
  · have hI : 200 < (S.size : Int) := by omega
    go_enter Tryd.func21, Tryd.ntmps21
    go_wp2_with fail
    refine (HK.out w (Below.refl _ _)).mono ?_
    rintro e w2 ⟨rfl, hb2⟩
    go_wp2
    go_ret
    exact ⟨rfl, hb2⟩
  have hI : ¬ 200 < (S.size : Int) := by omega
  have HPH := hid (ParseHex_any S (by omega) w)
  have hl32 := phR_length (nums S)
  have hlt := phR_lt (nums S)
  have hbad := phR_bad (nums S)
  have hgood := hex_back S
  obtain ⟨D, hD⟩ : ∃ x, x = (phR (nums S)).1 := ⟨_, rfl⟩
  obtain ⟨r, hr⟩ : ∃ x, x = (phR (nums S)).2 := ⟨_, rfl⟩
  rw [← hD, ← hr] at HPH
  rw [← hD] at hl32 hlt
  rw [← hD, ← hr] at hbad hgood
  have HIF := hid (show (Tryd.prog.info? 52).map (·.size) = some (u8s D).length from by rw [show (u8s D).length = 32 from by simp [u8s, hl32]]; kernel_rfl)
  have HIF2 := hid (show (Tryd.prog.info? 52).map (·.size) = some (u8s D).toArray.size from by rw [List.size_toArray, show (u8s D).length = 32 from by simp [u8s, hl32]]; kernel_rfl)
  have HOLD := hid (show (u8s (List.replicate 32 0)).toArray.size = (u8s D).toArray.size from by rw [List.size_toArray, List.size_toArray]; simp [u8s, hl32])
  have HONE := hid (show (u8s D).toArray.all (·.oneCell') = true from all_oneCell_toArray (u8s_oneH _))
  have HHEX := hid (fun wx => Hex_any D hl32 (fun i => by
    rw [List.getD_eq_getElem?_getD]
    by_cases h : i < D.length
    · rw [List.getElem?_eq_getElem h]; exact hlt _ (List.getElem_mem _)
    · rw [List.getElem?_eq_none (by omega)]; decide) wx)
  have HG := hid hgood
  have HBD := hid hbad
  clear hD hr hl32 hlt hgood hbad h1
  go_enter Tryd.func21, Tryd.ntmps21
  go_wp2_with fail
  refine HPH.out.mono ?_
  clear HPH
  rintro e w1 ⟨rfl, hb1⟩
  have HB1 := hid hb1
  obtain ⟨w2, hw2⟩ : ∃ x, x = w1.alloc (.cells (u8s (List.replicate 32 0)).toArray 52) := ⟨_, rfl⟩
  have hb2 : Below w1.heap.size w1 w2 := by rw [hw2]; exact (Below.refl _ _).alloc (Nat.le_refl _) _
  have HR2 := hid (show w2.heap[w1.heap.size]? = some (.cells (u8s (List.replicate 32 0)).toArray 52 (0, 0)) from by rw [hw2]; exact heap_new _ _)
  have HB2 := hid (HB1.out.trans (hb2.mono HB1.out.size))
  have hs1 := HB1.out.size
  clear hb1 hb2
  by_cases he : r = 0
  · subst he
    have hst := HG.out rfl
    go_wp2_with (first
      | (refine wpList_store_row (by rfl) 52 (.tmp 3) (.tmp 12) (by rfl) w1.heap.size (u8s (List.replicate 32 0)).toArray (u8s D).toArray 52 (by rfl) (by rfl) (by rw [hw2] at HR2; exact HR2.out) HIF2.out HOLD.out HONE.out ?_
         intro w8 hw8 hk8)
      | (refine wpList_load_mid (by rfl) 52 (.tmp 3) (by rfl) w1.heap.size 0 (by rfl) (u8s D) _ (range_of_heap hw8) Tryd.underlying52 rfl HIF.out ?_))
    have hk8 : Kept w1.heap.size w2 w8 := by rw [hw2]; exact hk8
    have HB8 := hid (HB2.out.trans (hk8.below HB2.out.size hs1))
    have HX := HHEX.out w8
    rw [hst] at HX
    refine HX.mono ?_
    clear HX HHEX hk8 hw8 hw2 HR2
    rintro e w9 ⟨rfl, hb9⟩
    have HB9 := hid (HB8.out.trans (hb9.mono HB8.out.size))
    clear hb9 hst
    go_wp2_with fail
    refine (HK.out w9 HB9.out).mono ?_
    rintro e w10 ⟨rfl, hb10⟩
    have HB10 := hid (HB9.out.trans (hb10.mono HB9.out.size))
    clear hb10
    go_wp2
    go_ret
    exact ⟨rfl, HB10.out⟩
  · have hz := HBD.out he
    have g1 : (r != 0) = true := by rw [bne_iff_ne]; exact he
    have g2 : (r == 0) = false := by rw [beq_eq_false_iff_ne]; exact he
    have heq := fun wx => (show (Op.equalIn 10000 52 (.agg (u8s D).toArray) (.agg (u8s (List.replicate 32 0)).toArray)).run Tryd.prog wx = .ok true wx from by rw [hz]; exact eql_zero wx)
    obtain ⟨Z, hZ⟩ : ∃ x, x = (u8s (List.replicate 32 0)).toArray := ⟨_, rfl⟩
    have heqZ := fun wx => (show (Op.equalIn 10000 52 (.agg (u8s D).toArray) (.agg #[.int .u8 0, .int .u8 0, .int .u8 0, .int .u8 0, .int .u8 0, .int .u8 0, .int .u8 0, .int .u8 0, .int .u8 0, .int .u8 0, .int .u8 0, .int .u8 0, .int .u8 0, .int .u8 0, .int .u8 0, .int .u8 0, .int .u8 0, .int .u8 0, .int .u8 0, .int .u8 0, .int .u8 0, .int .u8 0, .int .u8 0, .int .u8 0, .int .u8 0, .int .u8 0, .int .u8 0, .int .u8 0, .int .u8 0, .int .u8 0, .int .u8 0, .int .u8 0])).run Tryd.prog wx = .ok true wx from heq wx)
    clear heq hZ hz he
    go_wp2_with (first
      | (refine wpList_store_row (by rfl) 52 (.tmp 3) (.tmp 12) (by rfl) w1.heap.size (u8s (List.replicate 32 0)).toArray (u8s D).toArray 52 (by rfl) (by rfl) (by rw [hw2] at HR2; exact HR2.out) HIF2.out HOLD.out HONE.out ?_
         intro w8 hw8 hk8)
      | (refine wpList_load_mid (by rfl) 52 (.tmp 3) (by rfl) w1.heap.size 0 (by rfl) (u8s D) _ (range_of_heap hw8) Tryd.underlying52 rfl HIF.out ?_))
    have hk8 : Kept w1.heap.size w2 w8 := by rw [hw2]; exact hk8
    have HB8 := hid (HB2.out.trans (hk8.below HB2.out.size hs1))
    refine (HK.out w8 HB8.out).mono ?_
    clear HHEX hk8 hw8 hw2 HR2
    rintro e w10 ⟨rfl, hb10⟩
    have HB10 := hid (HB8.out.trans (hb10.mono HB8.out.size))
    clear hb10
    go_wp2
    go_ret
    exact ⟨rfl, HB10.out⟩
end Go.Proofs.YthcgdpedjjhjpaaDoor
