/-
  DigestDecodes: the walk.
-/
import Derived.Test.YteaidpbopgjleaaDoorOfB
import Derived.Test.YteaidpbopgjleaaDoorKnw
namespace Go.Proofs.YteaidpbopgjleaaDoor
open Go Go.RowKit
set_option linter.unusedVariables false

def DecS (w : World) (err k n t s : Int) (od : List Nat) (m : Nat) (D : List (List Nat)) (e : Ending) (w' : World) : Prop :=
  ∃ a c, e = .returned (.tuple #[.agg (mcells k n t s od (.slice a m c)).toArray, .int .i64 err]) ∧ Dgs w' a m c D ∧ Below w.heap.size w w'
theorem decS_bad {w w' : World} {err : Int} {e : Ending} (h : DcBad w err e w') : DecS w err 0 0 0 0 (List.replicate 32 0) 0 [] e w' :=
  ⟨none, 0, h.1, ⟨⟨none, 0, rfl, fun d hd => absurd hd List.not_mem_nil, fun e => absurd rfl e⟩, Nat.le_refl _, fun _ => rfl⟩, h.2⟩
/-- the decoder and the reference answer alike -/
theorem both_any (l : List Nat) (hl : ∀ i, l.getD i 0 < 256) (hn : l.length ≤ 20000) : ∃ (err k n t s : Int) (od : List Nat) (m : Nat) (D : List (List Nat)), od.length = 32 ∧ m ≤ 255 ∧
    (∀ a q c w, Bs w (.slice a q c) l → (a = none → c = 0) → Calls Tryd.prog 31 #[.slice a q c] w fun e w' => DecS w err k n t s od m D e w') ∧
    (∀ a q c w, Bs w (.slice a q c) l → Calls Tryd.prog 33 #[.slice a q c] w fun e w' => DecS w err k n t s od m D e w') := by
  by_cases h7 : l.length < 7
  · refine ⟨4, 0, 0, 0, 0, List.replicate 32 0, 0, [], List.length_replicate, by omega, fun a q c w hb hnil => ?_, fun a q c w hb => ?_⟩
    · exact (dec_short a q c w (by have := hb.len; omega)).mono fun e w' h => decS_bad h
    · exact (ofb_short a q c w (by have := hb.len; omega)).mono fun e w' h => decS_bad h
  · obtain ⟨b0, b1, b2, b3, b4, b5, b6, r, rfl⟩ := list7 l (by omega)
    have h4 : b4 < 256 := by simpa using hl 4
    have hof : ∀ a q c w, Bs w (.slice a q c) (b0 :: b1 :: b2 :: b3 :: b4 :: b5 :: b6 :: r) → Calls Tryd.prog 33 #[.slice a q c] w fun e w' => OfTo w b0 b1 b2 b3 b4 b5 b6 r e w' := fun a q c w hb => by
      have hlen := hb.len
      rcases hb.addr with ⟨h0, _⟩ | ⟨_, b, o', c', hv⟩
      · simp at h0
      · simp only [Value.slice.injEq] at hv
        obtain ⟨rfl, _, _⟩ := hv
        exact ofb_long b o' q c b0 b1 b2 b3 b4 b5 b6 r w hb (by omega)
    by_cases he : decErr b0 b1 b2 b3 b4 b5 b6 r = 0
    · refine ⟨0, b2, b3, b4, ((b5 * 256 + b6 : Nat) : Int), dJ r 0, b4, (List.range b4).map fun j => dJ r (j + 1), dJ_length _ _, by omega, fun a q c w hb hnil => ?_, fun a q c w hb => ?_⟩
      · have hlen := hb.len
        refine (dec_long a q c b0 b1 b2 b3 b4 b5 b6 r w hb hnil (by omega)).mono fun e w' h => ?_
        obtain ⟨gd, h1, h2, h3, h4⟩ := h.2 he
        exact ⟨some ⟨gd, 0, none⟩, b4, h2, ⟨h3, Nat.le_refl _, fun e => by cases e⟩, h4⟩
      · refine (hof a q c w hb).mono fun e w' h => ?_
        obtain ⟨gd, cp, h1, h2, h3, h4⟩ := h.2 he
        exact ⟨some ⟨gd, 0, none⟩, cp, h2, h3, h4⟩
    · refine ⟨decErr b0 b1 b2 b3 b4 b5 b6 r, 0, 0, 0, 0, List.replicate 32 0, 0, [], List.length_replicate, by omega, fun a q c w hb hnil => ?_, fun a q c w hb => ?_⟩
      · have hlen := hb.len
        exact (dec_long a q c b0 b1 b2 b3 b4 b5 b6 r w hb hnil (by omega)).mono fun e w' h => decS_bad (h.1 he)
      · exact (hof a q c w hb).mono fun e w' h => decS_bad (h.1 he)

set_option maxRecDepth 100000 in
set_option maxHeartbeats 4000000 in
theorem decodes_walk (w : World) (V : Vars w shaRound shaStart) (ba : Option Addr) (bn bc : Nat) (bl : List Nat) (hb : Bs w (.slice ba bn bc) bl) (hbc : bn ≤ bc) (hbn : ba = none → bc = 0) :
    Calls Tryd.prog 8 #[.slice ba bn bc] w fun e w' => e = .returned (.bool true) ∧ Below w.heap.size w w' := by
  have HK := hid (fun (wx : World) (b : Below w.heap.size w wx) => known_dg wx (V.below b))
  have hlen := hb.len
  have hlt := hb.lt
  have HBB := hid hb
  have HBN := hid hbn
  by_cases hbig : (20000 : Int) < (bn : Int)
  case pos => as_aux_lemma =>
    clear hlen hlt hbn hb
    go_enter Tryd.func8, Tryd.ntmps8
    go_wp2_with fail
    refine (HK.out w (Below.refl _ _)).mono ?_
    rintro e w9 ⟨rfl, hb9⟩
    have HB9 := hid hb9
    clear hb9
    go_wp2
    go_ret
    exact ⟨rfl, HB9.out⟩
  obtain ⟨err, k, n, t, s, od, m, D, hod, hm, hD1, hD2⟩ := both_any bl hlt (by omega)
  have HD1 := hid hD1
  have HD2 := hid hD2
  have HO := hid hod
  have hb20 : bn ≤ 20000 := by omega
  clear hlen hlt hb hbn V hD1 hD2 hod
  go_enter Tryd.func8, Tryd.ntmps8
  have HCL := hid (hid (HBB.out.alloc (.cells #[] 5)))
  go_wp2_with (refine wpList_cloneB (by rfl) (.tmp 12) (.tmp 13) (by rfl) w.heap.size (by rfl) (heap_new _ _) ba bn bc bl (by rfl) HCL.out.out HBN.out (by omega) ?_
               intro a5 c5 w5 hb5 hc5 hw5 hn5 hk5 hown5)
  have HB5 := hid (((Below.refl w.heap.size w).alloc (Nat.le_refl _) (.cells #[] 5)).trans (hk5.below (by simp) (Nat.le_refl _)))
  have HQ := hid (HD1.out a5 bn c5 w5 hb5 hn5)
  clear hb5 hc5 hw5 hn5 hk5 hown5 HD1
  refine HQ.out.mono ?_
  clear HQ
  rintro e w6 ⟨a6, c6, rfl, hd6, hb6⟩
  have HB6 := hid (HB5.out.trans (hb6.mono HB5.out.size))
  have HDG6 := hid hd6
  have HML6 := hid (mcells_length k n t s od (.slice a6 m c6) HO.out)
  have HON6 := hid (mcells_one k n t s od a6 m c6)
  obtain ⟨M6, hM6⟩ : ∃ q, q = mcells k n t s od (.slice a6 m c6) := ⟨_, rfl⟩
  rw [← hM6] at HML6 HON6 ⊢
  have HM6 := hid hM6
  have HIF6 := hid (show (Tryd.prog.info? 62).map (·.size) = some M6.length from by rw [HML6.out]; kernel_rfl)
  have HIF6b := hid (show (Tryd.prog.info? 62).map (·.size) = some M6.toArray.size from by rw [List.size_toArray, HML6.out]; kernel_rfl)
  have HSZ6 := hid (show mz.size = M6.toArray.size from by rw [mz_size]; rw [List.size_toArray, HML6.out])
  have HNW := hid (show (w6.alloc (.cells mz 62)).heap[w6.heap.size]? = some (.cells mz 62 (0, 0)) from heap_new _ _)
  have HBK := hid (fun (w7 : World) (k7 : Kept w6.heap.size (w6.alloc (.cells mz 62)) w7) => (show Below w6.heap.size w6 w7 from ((Below.refl _ _).alloc (Nat.le_refl _) _).trans (k7.below (by simp) (Nat.le_refl _))))
  clear hM6 hd6 hb6 HB5 HCL
  go_wp2_with (refine wpList_store_row (by rfl) 62 (.tmp 3) (.tmp 16) (by rfl) w6.heap.size mz M6.toArray 62 (by rfl) (by rfl) HNW.out HIF6b.out HSZ6.out HON6.out ?_
               intro w7 hw7 hk7
               have HB7 := hid (HBK.out w7 hk7)
               have HR7 := hid (range_of_heapD hw7)
               clear hk7 hw7)
  have HW7 := hid (HB6.out.trans (HB7.out.mono HB6.out.size))
  obtain ⟨p6, hp6⟩ : ∃ q, q = w6.heap.size := ⟨_, rfl⟩
  have HDG7 := hid (HDG6.out.below HB7.out)
  rw [← hp6] at HR7 ⊢
  clear hp6 HDG6 HNW HBK HB7 HB6
  refine (HD2.out ba bn bc w7 (HBB.out.below HW7.out)).mono ?_
  rintro e w8 ⟨a8, c8, rfl, hd8, hb8⟩
  have HW8 := hid (HW7.out.trans (hb8.mono HW7.out.size))
  have HDG8 := hid (HDG7.out.below hb8)
  have HDH8 := hid hd8
  have HR8 := hid (range_below HR7.out hb8)
  have HML8 := hid (mcells_length k n t s od (.slice a8 m c8) HO.out)
  have HON8 := hid (mcells_one k n t s od a8 m c8)
  obtain ⟨M8, hM8⟩ : ∃ q, q = mcells k n t s od (.slice a8 m c8) := ⟨_, rfl⟩
  rw [← hM8] at HML8 HON8 ⊢
  have HM8 := hid hM8
  have HIF8 := hid (show (Tryd.prog.info? 62).map (·.size) = some M8.length from by rw [HML8.out]; kernel_rfl)
  have HIF8b := hid (show (Tryd.prog.info? 62).map (·.size) = some M8.toArray.size from by rw [List.size_toArray, HML8.out]; kernel_rfl)
  have HSZ8 := hid (show mz.size = M8.toArray.size from by rw [mz_size]; rw [List.size_toArray, HML8.out])
  have HNW := hid (show (w8.alloc (.cells mz 62)).heap[w8.heap.size]? = some (.cells mz 62 (0, 0)) from heap_new _ _)
  have HBK := hid (fun (w9 : World) (k9 : Kept w8.heap.size (w8.alloc (.cells mz 62)) w9) => (show Below w8.heap.size w8 w9 from ((Below.refl _ _).alloc (Nat.le_refl _) _).trans (k9.below (by simp) (Nat.le_refl _))))
  have HSM := hid (fun (wy : World) (b : Below w8.heap.size w8 wy) => (show Calls Tryd.prog 32 #[.agg M6.toArray, .agg M8.toArray] wy (fun e w' => e = .returned (.bool true) ∧ Below wy.heap.size wy w') from by
    rw [HM6.out, HM8.out]
    exact same_man k n t s od a6 a8 m c6 c8 D wy HO.out (HDG8.out.below b) (HDH8.out.below b) (by omega)))
  clear hM8 hd8 hb8 HR7 HDG7 HW7 HD2
  go_wp2_with (first
    | (refine wpList_store_row (by rfl) 62 (.tmp 5) (.tmp 21) (by rfl) w8.heap.size mz M8.toArray 62 (by rfl) (by rfl) HNW.out HIF8b.out HSZ8.out HON8.out ?_
       intro w9 hw9 hk9
       have HB9 := hid (HBK.out w9 hk9)
       have HW9 := hid (HW8.out.trans (HB9.out.mono HW8.out.size))
       have HR9 := hid (range_of_heapD hw9)
       have HS9 := hid (range_below HR8.out HB9.out)
       clear hk9 hw9)
    | (refine wpList_load_wantD (by rfl) 62 (.tmp 3) (by rfl) p6 0 (by rfl) M6 _ HS9.out Tryd.underlying62 rfl HIF6.out ?_)
    | (refine wpList_load_wantD (by rfl) 62 (.tmp 5) (by rfl) w8.heap.size 0 (by rfl) M8 _ HR9.out Tryd.underlying62 rfl HIF8.out ?_))
  refine (HSM.out w9 HB9.out).mono ?_
  rintro e wa ⟨rfl, hba⟩
  have HWA := hid (HW9.out.trans (hba.mono HW9.out.size))
  clear hba
  go_wp2_with fail
  refine (HK.out wa HWA.out).mono ?_
  rintro e wz ⟨rfl, hbz⟩
  have HBZ := hid (HWA.out.trans (hbz.mono HWA.out.size))
  clear hbz
  go_wp2
  go_ret
  exact ⟨rfl, HBZ.out⟩
end Go.Proofs.YteaidpbopgjleaaDoor
