/-
  DigestSums.
-/
import Derived.Test.YtafkjfpmjhfofaaDoorSlow
import Derived.Test.YtafkjfpmjhfofaaDoorRva
import Derived.Test.YtafkjfpmjhfofaaDoorKnw
import Derived.Deep.DeepCutAuto
namespace Go.Proofs.YtafkjfpmjhfofaaDoor
open Go Go.RowKit
set_option linter.unusedVariables false

set_option maxRecDepth 100000 in
set_option maxHeartbeats 4000000 in
theorem sums_walk (w : World) (V : Vars w shaRound shaStart) (R : Rnds w) (a : Option Addr) (n c : Nat) (l : List Nat) (hb : Bs w (.slice a n c) l) (hc : n ≤ c) (hn : a = none → c = 0) :
    Calls Tryd.prog 10 #[.slice a n c] w fun e w' => e = .returned (.bool true) ∧ Below w.heap.size w w' := by
  have HK := hid (fun (wx : World) (b : Below w.heap.size w wx) => known_dg wx (V.below b))
  have HV := hid V
  have HR := hid R
  have HBS := hid hb
  have HN := hid hn
  clear V R hb hn
  by_cases h2 : 20000 < n
  · as_aux_lemma =>
    have hI : 20000 < (n : Int) := by omega
    go_enter Tryd.func10, Tryd.ntmps10
    go_wp2_with fail
    refine (HK.out w (Below.refl _ _)).mono ?_
    rintro e w3 ⟨rfl, hb3⟩
    have HB3 := hid hb3
    go_wp2
    go_ret
    exact ⟨rfl, HB3.out⟩
  have hI : ¬ 20000 < (n : Int) := by omega
  as_aux_lemma =>
    go_enter Tryd.func10, Tryd.ntmps10
    go_upto_region 3 with fail
    go_wp2_with (refine wpList_clone (by rfl) (.tmp 8) (.tmp 9) (by rfl) w.heap.size (by rfl) (heap_new w _) a n c l (by rfl) (HBS.out.alloc _) HN.out (by omega) ?_
                 intro a3 c3 w3 hb3 hc3 hlow3 hn3 hk3
                 have HB3 := hid (show Below w.heap.size w w3 from (((Below.refl w.heap.size w).alloc (Nat.le_refl _) (.cells #[] 5))).trans (hk3.below (by simp) (Nat.le_refl _)))
                 have HS3 := hid hb3
                 have HC3 := hid hc3
                 have HN3 := hid hn3
                 clear hb3 hc3 hlow3 hn3 hk3)
    have hW := fun (wx : World) (b : Below w3.heap.size w3 wx) => (show Below w.heap.size w wx from HB3.out.trans (b.mono HB3.out.size))
    have hDG := dig_length shaRound shaStart l
    have HKP := hid (show ∀ wx, Below w3.heap.size w3 wx → Below w3.heap.size w3 wx ∧ (convert 22 9 (.slice a3 n c3)).run Tryd.prog wx = .ok (.string (bstr l)) wx ∧ (convert 22 9 (.slice a n c)).run Tryd.prog wx = .ok (.string (bstr l)) wx from fun wx b => ⟨b, conv_bs (HS3.out.below b), conv_bs (HBS.out.below (hW wx b))⟩)
    have HSH := hid (fun (wx : World) (b : Below w3.heap.size w3 wx) => (SHA256_any a3 n c3 shaRound shaStart l wx (HV.out.below (hW wx b)) (HS3.out.below b) HC3.out (by omega)).mono (fun e w' h => (show e = .returned (.agg (u8s (dig shaRound shaStart l)).toArray) ∧ Below w3.heap.size w3 w' from ⟨h.1, b.trans (h.2.mono b.size)⟩)))
    have HRS := hid (fun (wx : World) (b : Below w3.heap.size w3 wx) => (rsum_any l a n c wx (HR.out.below (hW wx b)) (HBS.out.below (hW wx b)) HN.out (by omega)).mono (fun e w' h => (show e = .returned (.agg (u8s (dig shaRound shaStart l)).toArray) ∧ Below w3.heap.size w3 w' from ⟨h.1, b.trans (h.2.mono b.size)⟩)))
    have HSL := hid (fun (wx : World) (b : Below w3.heap.size w3 wx) => (rslow_any l a n c wx (HBS.out.below (hW wx b)) HN.out (by omega)).mono (fun e w' h => (show e = .returned (.agg (u8s (dig shaRound shaStart l)).toArray) ∧ Below w3.heap.size w3 w' from ⟨h.1, b.trans (h.2.mono b.size)⟩)))
    have HCC := hid (fun (wx : World) (b : Below w3.heap.size w3 wx) => (CRC32C_any a3 n c3 l wx (HS3.out.below b) (by omega)).mono (fun e w' h => (show e = .returned (.int .u32 ((crc l : Nat) : Int)) ∧ Below w3.heap.size w3 w' from ⟨h.1, by rw [← h.2]; exact b⟩)))
    have HRC := hid (fun (wx : World) (b : Below w3.heap.size w3 wx) => (rcrc_any a n c l wx (HBS.out.below (hW wx b)) (by omega)).mono (fun e w' h => (show e = .returned (.int .u32 ((crc l : Nat) : Int)) ∧ Below w3.heap.size w3 w' from ⟨h.1, by rw [← h.2]; exact b⟩)))
    have HK3 := hid (fun (wx : World) (b : Below w3.heap.size w3 wx) => (HK.out wx (hW wx b)).mono (fun e w' h => (show e = .returned (.bool true) ∧ Below w3.heap.size w3 w' from ⟨h.1, b.trans (h.2.mono b.size)⟩)))
    generalize bstr l = SX at HKP
    generalize crc l = CR at HCC HRC
    generalize dig shaRound shaStart l = DG at HSH HRS HSL hDG
    have e1 := fun wy => eql_any DG DG hDG hDG wy
    simp only [decide_true] at e1
    clear hW hDG
    refine (HSH.out _ (Below.refl _ _)).mono ?_
    rintro e w10 ⟨rfl, hbx⟩
    have HX10 := hid hbx
    clear hbx
    go_wp2_with fail
    refine (HRS.out _ HX10.out).mono ?_
    rintro e w11 ⟨rfl, hbx⟩
    have HX11 := hid hbx
    clear hbx
    go_wp2_with fail
    refine (HSL.out _ HX11.out).mono ?_
    rintro e w12 ⟨rfl, hbx⟩
    have HX12 := hid hbx
    clear hbx
    go_wp2_with fail
    refine (HRS.out _ HX12.out).mono ?_
    rintro e w13 ⟨rfl, hbx⟩
    have HX13 := hid hbx
    clear hbx
    go_wp2_with fail
    refine (HCC.out _ HX13.out).mono ?_
    rintro e w14 ⟨rfl, hbx⟩
    have HX14 := hid hbx
    clear hbx
    go_wp2_with fail
    refine (HRC.out _ HX14.out).mono ?_
    rintro e w15 ⟨rfl, hbx⟩
    have HX15 := hid hbx
    clear hbx
    obtain ⟨-, cv1, cv2⟩ := HKP.out w15 HX15.out
    clear HKP
    go_wp2_with fail
    refine (HK3.out _ HX15.out).mono ?_
    rintro e w16 ⟨rfl, hbx⟩
    have HX16 := hid hbx
    clear hbx
    go_wp2
    go_ret
    exact ⟨rfl, HB3.out.trans (HX16.out.mono HB3.out.size)⟩
end Go.Proofs.YtafkjfpmjhfofaaDoor
