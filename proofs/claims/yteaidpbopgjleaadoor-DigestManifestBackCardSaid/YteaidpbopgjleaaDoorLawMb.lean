/-
  A manifest's bytes and back. · DigestManifestBack: the walk.
-/
import Derived.Test.YteaidpbopgjleaaDoorOwSm
import Derived.Test.YteaidpbopgjleaaDoorKnw
import Derived.Deep.DeepCutAuto
namespace Go.Proofs.YteaidpbopgjleaaDoor
open Go Go.RowKit
set_option linter.unusedVariables false

theorem drop_len (a b : List Nat) (i : Nat) : (a ++ b).drop (a.length + i) = b.drop i := by rw [← List.drop_drop, List.drop_left]
theorem flat_get : ∀ (D : List (List Nat)) (j : Nat), (∀ d ∈ D, d.length = 32) → j < D.length → (D.flatten.drop (32 * j)).take 32 = D.getD j []
  | d :: r, 0, h, _ => by
    rw [Nat.mul_zero, List.drop_zero, List.flatten_cons, List.take_left' (h d List.mem_cons_self)]
    rfl
  | d :: r, j + 1, h, hj => by
    rw [List.flatten_cons, show 32 * (j + 1) = d.length + 32 * j from by rw [h d List.mem_cons_self]; omega, drop_len]
    rw [List.getD_cons_succ]
    exact flat_get r j (fun x hx => h x (List.mem_cons_of_mem _ hx)) (by simpa using hj)
theorem flat_len : ∀ (D : List (List Nat)), (∀ d ∈ D, d.length = 32) → D.flatten.length = 32 * D.length
  | [], _ => rfl
  | d :: r, h => by
    rw [List.flatten_cons, List.length_append, flat_len r (fun x hx => h x (List.mem_cons_of_mem _ hx)), h d List.mem_cons_self, List.length_cons]
    omega
theorem chunk_flat (r : List Nat) : ∀ T, 32 * T ≤ r.length → (((List.range T).map fun j => (r.drop (32 * j)).take 32).flatten) = r.take (32 * T)
  | 0, _ => rfl
  | T + 1, h => by
    rw [List.range_succ, List.map_append, List.flatten_append, chunk_flat r T (by omega)]
    simp only [List.map_cons, List.map_nil, List.flatten_cons, List.flatten_nil, List.append_nil]
    rw [show 32 * (T + 1) = 32 * T + 32 from by omega, List.take_add]
theorem encTo_list (k n t s : Nat) (od : List Nat) (D : List (List Nat)) (hD : D.length = t) : encTo k n t s od D t = 77 :: 1 :: k :: n :: t :: s / 256 :: s % 256 :: (od ++ D.flatten) := by
  unfold encTo encHead
  rw [← hD, List.take_length]
  simp
theorem dec_od (od : List Nat) (D : List (List Nat)) (ho : od.length = 32) : dJ (od ++ D.flatten) 0 = od := by
  rw [dJ_ok _ 0 (by rw [List.length_append]; omega), Nat.mul_zero, List.drop_zero, List.take_left' ho]
theorem dec_D (od : List Nat) (D : List (List Nat)) (ho : od.length = 32) (h : ∀ d ∈ D, d.length = 32) : ((List.range D.length).map fun j => dJ (od ++ D.flatten) (j + 1)) = D := by
  have hfl := flat_len D h
  apply List.ext_getElem (by simp)
  intro i h1 h2
  simp only [List.length_map, List.length_range] at h1
  rw [List.getElem_map, List.getElem_range, dJ_ok _ (i + 1) (by rw [List.length_append, hfl, ho]; omega), show 32 * (i + 1) = od.length + 32 * i from by omega, drop_len, flat_get D i h h1, List.getD_eq_getElem?_getD, List.getElem?_eq_getElem h1]
  rfl
theorem enc_back (r : List Nat) (K N T b5 b6 : Nat) (h5 : b5 < 256) (h6 : b6 < 256) (hr : r.length = 32 * (T + 1)) : encTo K N T (b5 * 256 + b6) (dJ r 0) ((List.range T).map fun j => dJ r (j + 1)) T = 77 :: 1 :: K :: N :: T :: b5 :: b6 :: r := by
  rw [encTo_list _ _ _ _ _ _ (by simp), show (b5 * 256 + b6) / 256 = b5 from by omega, show (b5 * 256 + b6) % 256 = b6 from by omega]
  congr 7
  have e : ((List.range T).map fun j => dJ r (j + 1)) = (List.range T).map fun j => ((r.drop 32).drop (32 * j)).take 32 := by
    apply List.map_congr_left
    intro j hj
    have hj := List.mem_range.1 hj
    rw [dJ_ok r (j + 1) (by omega), List.drop_drop, show 32 * (j + 1) = 32 + 32 * j from by omega]
  rw [e, chunk_flat _ T (by rw [List.length_drop]; omega), dJ_ok r 0 (by omega), Nat.mul_zero, List.drop_zero, List.take_of_length_le (l := r.drop 32) (by rw [List.length_drop]; omega), List.take_append_drop]
end Go.Proofs.YteaidpbopgjleaaDoor

namespace Go.Proofs.YteaidpbopgjleaaDoor
open Go Go.RowKit
set_option linter.unusedVariables false

theorem bs_len_lt {w : World} {a : Option Addr} {n c : Nat} {l : List Nat} (h : Bs w (.slice a n c) l) : ∀ i, l.getD i 0 < 256 := h.lt
/-- what a manifest's bytes are read as -/
theorem dec_enc (a : Option Addr) (c k n t s : Nat) (od : List Nat) (D : List (List Nat)) (w : World) (ho : od.length = 32) (hD : ∀ d ∈ D, d.length = 32) (hDt : D.length = t) (hv : vnB k n t (s : Int) = true)
    (hb : Bs w (.slice a (7 + 32 * (1 + t)) c) (encTo k n t s od D t)) (hnil : a = none → c = 0) (ht : t ≤ 255) :
    Calls Tryd.prog 31 #[.slice a (7 + 32 * (1 + t)) c] w fun e w' => ∃ gd, w.heap.size ≤ gd ∧ e = .returned (.tuple #[.agg (mcells k n t (s : Int) od (.slice (some ⟨gd, 0, none⟩) t t)).toArray, .int .i64 0]) ∧ Dgs w' (some ⟨gd, 0, none⟩) t t D ∧ Below w.heap.size w w' := by
  rw [encTo_list _ _ _ _ _ _ hDt] at hb
  have hfl := flat_len D hD
  have hr : (od ++ D.flatten).length = 32 * (t + 1) := by rw [List.length_append, hfl, ho, hDt]; omega
  have hs : s / 256 * 256 + s % 256 = s := by omega
  have he : decErr 77 1 k n t (s / 256) (s % 256) (od ++ D.flatten) = 0 := by
    unfold decErr
    rw [if_neg (by simp), hs, hv, if_neg (by decide)]
    exact finJ_eq _ _ hr
  refine (dec_long a _ c 77 1 k n t (s / 256) (s % 256) (od ++ D.flatten) w hb hnil (by omega)).mono ?_
  intro e w' h
  obtain ⟨gd, h1, h2, h3, h4⟩ := h.2 he
  rw [hs, dec_od od D ho] at h2
  have h5 := dec_D od D ho hD
  rw [hDt] at h5
  rw [h5] at h3
  exact ⟨gd, h1, h2, ⟨h3, Nat.le_refl _, fun e => by cases e⟩, h4⟩
/-- any bytes are refused, or read as a manifest that has just these bytes -/
def DecAny (w : World) (l : List Nat) (e : Ending) (w' : World) : Prop :=
  (∃ v err, err ≠ 0 ∧ v.size = 37 ∧ v.all (·.oneCell') = true ∧ e = .returned (.tuple #[.agg v, .int .i64 err]) ∧ Below w.heap.size w w') ∨
  (∃ (K N T S gd : Nat) (od : List Nat) (D : List (List Nat)), e = .returned (.tuple #[.agg (mcells K N T S od (.slice (some ⟨gd, 0, none⟩) T T)).toArray, .int .i64 0]) ∧ od.length = 32 ∧ (∀ x ∈ od, x < 256) ∧ vnB K N T S = true ∧ D.length = T ∧ Dgs w' (some ⟨gd, 0, none⟩) T T D ∧ encTo K N T S od D T = l ∧ Below w.heap.size w w')
theorem dec_any (a : Option Addr) (n c : Nat) (l : List Nat) (w : World) (hb : Bs w (.slice a n c) l) (hnil : a = none → c = 0) (hn : n ≤ 1000000000) :
    Calls Tryd.prog 31 #[.slice a n c] w fun e w' => DecAny w l e w' := by
  have hlen := hb.len
  have hlt := hb.lt
  by_cases h7 : n < 7
  · exact (dec_short a n c w h7).mono fun e w' h => .inl ⟨mz, 4, by decide, mz_size, mz_one, h.1, h.2⟩
  · obtain ⟨b0, b1, b2, b3, b4, b5, b6, r, rfl⟩ := list7 l (by omega)
    refine (dec_long a n c b0 b1 b2 b3 b4 b5 b6 r w hb hnil hn).mono fun e w' h => ?_
    by_cases he : decErr b0 b1 b2 b3 b4 b5 b6 r = 0
    · right
      obtain ⟨gd, h1, h2, h3, h4⟩ := h.2 he
      have h5 := hlt 5
      have h6 := hlt 6
      simp only [List.getD_cons_zero, List.getD_cons_succ] at h5 h6
      unfold decErr at he
      by_cases hm : b0 = 77 ∧ b1 = 1
      · rw [if_neg (fun h => h hm)] at he
        cases hv : vnB b2 b3 b4 ((b5 * 256 + b6 : Nat) : Int) with
        | false => rw [hv, if_pos rfl] at he; exact absurd he (by decide)
        | true =>
          rw [hv, if_neg (by decide)] at he
          have hr : r.length = 32 * (b4 + 1) := by
            rcases Nat.lt_trichotomy r.length (32 * (b4 + 1)) with h | h | h
            · rw [finJ_short r b4 h] at he; exact absurd he (by decide)
            · exact h
            · rw [finJ_long r b4 h] at he; exact absurd he (by decide)
          have hrl : ∀ i, r.getD i 0 < 256 := fun i => by have h := hlt (i + 7); simpa using h
          refine ⟨b2, b3, b4, b5 * 256 + b6, gd, dJ r 0, (List.range b4).map fun j => dJ r (j + 1), h2, dJ_length _ _, dJ_lt r hrl 0, hv, by simp, ⟨h3, Nat.le_refl _, fun e => by cases e⟩, ?_, h4⟩
          rw [enc_back r b2 b3 b4 b5 b6 h5 h6 hr, hm.1, hm.2]
      · rw [if_pos hm] at he; exact absurd he (by decide)
    · left
      exact ⟨mz, _, he, mz_size, mz_one, (h.1 he).1, (h.1 he).2⟩

set_option maxRecDepth 100000 in
set_option maxHeartbeats 4000000 in
theorem mback_walk (w : World) (V : Vars w shaRound shaStart) (k n t s : Int) (od : List Nat) (a : Option Addr) (m c : Nat) (D : List (List Nat)) (ho : od.length = 32) (hol : ∀ y ∈ od, y < 256) (hD : Dgs w a m c D)
    (ba : Option Addr) (bn bc : Nat) (bl : List Nat) (hb : Bs w (.slice ba bn bc) bl) (hbc : bn ≤ bc) (hbn : ba = none → bc = 0) :
    Calls Tryd.prog 7 #[.agg (mcells k n t s od (.slice a m c)).toArray, .slice ba bn bc] w fun e w' => e = .returned (.bool true) ∧ Below w.heap.size w w' := by
  have HK := hid (fun (wx : World) (b : Below w.heap.size w wx) => known_dg wx (V.below b))
  obtain ⟨w1, hw1⟩ : ∃ y, y = w.alloc (.cells (mcells k n t s od (.slice a m c)).toArray 62) := ⟨_, rfl⟩
  have HB1 := hid (show Below w.heap.size w w1 from by rw [hw1]; exact (Below.refl _ _).alloc (Nat.le_refl _) _)
  have HM1 := hid (show ManAt w1 w.heap.size k n t s od (.slice a m c) from by rw [hw1]; exact heap_new _ _)
  have HD := hid hD
  have HBB := hid hb
  have HO := hid ho
  have HOL := hid hol
  have HBN := hid hbn
  have HML := hid (mcells_length k n t s od (.slice a m c) ho)
  have HIF := hid (show (Tryd.prog.info? 62).map (·.size) = some (mcells k n t s od (.slice a m c)).length from by rw [HML.out]; kernel_rfl)
  have HLN := hid hD.len
  have HBL := hid hb.len
  have c36 := (HM1.out.c ho).2.2.2.2
  have hlt1 : w.heap.size < w1.heap.size := lt_of_heap HM1.out
  clear V hD hb ho hol hbn
  by_cases h400 : 400 < m
  · as_aux_lemma =>
    have hI : 400 < (m : Int) := by omega
    go_enter Tryd.func7, Tryd.ntmps7
    go_upto_region 1 with fail
    change Code.wp _ _ _ _ (w.alloc (.cells (mcells k n t s od (.slice a m c)).toArray 62))
    rw [← hw1]
    clear hw1
    go_wp2_with fail
    refine (HK.out w1 HB1.out).mono ?_
    rintro e w2 ⟨rfl, hb2⟩
    have HB2 := hid (HB1.out.trans (hb2.mono HB1.out.size))
    go_wp2
    go_ret
    exact ⟨rfl, HB2.out⟩
  have hI : ¬ 400 < (m : Int) := by omega
  by_cases h20 : 20000 < bn
  · as_aux_lemma =>
    have hJ : 20000 < (bn : Int) := by omega
    go_enter Tryd.func7, Tryd.ntmps7
    go_upto_region 1 with fail
    change Code.wp _ _ _ _ (w.alloc (.cells (mcells k n t s od (.slice a m c)).toArray 62))
    rw [← hw1]
    clear hw1
    go_wp2_with fail
    refine (HK.out w1 HB1.out).mono ?_
    rintro e w2 ⟨rfl, hb2⟩
    have HB2 := hid (HB1.out.trans (hb2.mono HB1.out.size))
    go_wp2
    go_ret
    exact ⟨rfl, HB2.out⟩
  have hJ : ¬ 20000 < (bn : Int) := by omega
  have HOW := hid (fun (wx : World) (b : Below w1.heap.size w1 wx) => own_man k n t s od a m c D wx HO.out ((HD.out.below HB1.out).below b) (by omega))
  have HRM := hid (fun (wx : World) (b : Below w1.heap.size w1 wx) => (show wx.rangeAt w.heap.size 0 (mcells k n t s od (.slice a m c)) from range_of_heapD ((b.block _ hlt1).trans HM1.out)))
  go_enter Tryd.func7, Tryd.ntmps7
  go_upto_region 1 with fail
  change Code.wp _ _ _ _ (w.alloc (.cells (mcells k n t s od (.slice a m c)).toArray 62))
  rw [← hw1]
  clear hw1
  go_wp2_with (refine wpList_load_mid (by rfl) 62 (.tmp 2) (by rfl) w.heap.size 0 (by rfl) (mcells k n t s od (.slice a m c)) _ (HRM.out w1 (Below.refl _ _)) Tryd.underlying62 rfl HIF.out ?_)
  refine (HOW.out w1 (Below.refl _ _)).mono ?_
  rintro e w2 ⟨a2, c2, rfl, hd2, hb2⟩
  have HB2 := hid hb2
  clear hd2 hb2
  go_wp2_with fail
  refine (CheckManifest_any k n t s od a2 m c2 HO.out w2).mono ?_
  rintro e w3 ⟨rfl, hb3⟩
  have HB3 := hid (HB2.out.trans (hb3.mono HB2.out.size))
  clear hb3 HB2
  go_upto_if 26 with fail
  go_cut [5] (fun _ wx => Hid (Below w1.heap.size w1 wx))
  case first => as_aux_lemma =>
    by_cases hv : manB k n t s m = true
    case neg =>
      have hE : (manE k n t s m == 0) = false := by unfold manE; rw [if_neg hv]; decide
      clear hv
      go_wp2_with fail
      go_meet
      exact HB3
    have hE : (manE k n t s m == 0) = true := by unfold manE; rw [if_pos hv]; decide
    have hnum : 1 ≤ k ∧ k ≤ n ∧ n ≤ t ∧ t ≤ 255 ∧ 0 ≤ s ∧ s ≤ 8192 ∧ (m : Int) = t ∧ vnB k n t s = true := by
      have hv2 := hv
      unfold manB at hv2
      rw [Bool.and_eq_true] at hv2
      have hv3 := hv2.1
      unfold vnB vcB at hv3
      simp only [Bool.and_eq_true, decide_eq_true_eq] at hv3
      have hv4 : (m : Int) = t := by simpa using hv2.2
      exact ⟨hv3.1.1, hv3.1.2.1, hv3.1.2.2.1, hv3.1.2.2.2, hv3.2.1, hv3.2.2, hv4, hv2.1⟩
    obtain ⟨h1, h2, h3, h4, h5, h6, h7, h8⟩ := hnum
    obtain ⟨k, rfl⟩ : ∃ q : Nat, k = (q : Int) := ⟨k.toNat, by omega⟩
    obtain ⟨n, rfl⟩ : ∃ q : Nat, n = (q : Int) := ⟨n.toNat, by omega⟩
    obtain ⟨t, rfl⟩ : ∃ q : Nat, t = (q : Int) := ⟨t.toNat, by omega⟩
    obtain ⟨s, rfl⟩ : ∃ q : Nat, s = (q : Int) := ⟨s.toNat, by omega⟩
    obtain rfl : m = t := by omega
    have HMB := hid (show manB k n m s D.length = true from by rw [← HLN.out]; exact hv)
    have HVN := hid h8
    have hm255 : m ≤ 255 := by omega
    clear hv h1 h2 h3 h4 h5 h6 h7 h8
    go_wp2_with (refine wpList_load_mid (by rfl) 62 (.tmp 2) (by rfl) w.heap.size 0 (by rfl) (mcells k n m s od (.slice a m c)) _ (HRM.out w3 HB3.out) Tryd.underlying62 rfl HIF.out ?_)
    refine (HOW.out w3 HB3.out).mono ?_
    rintro e w4 ⟨a4, c4, rfl, hd4, hb4⟩
    have HB4 := hid (HB3.out.trans (hb4.mono HB3.out.size))
    have HEN := hid (EncodeM_any k n m s od D (.slice a4 m c4) HO.out HOL.out w4 hd4.at_ HMB.out)
    clear hd4 hb4
    go_wp2_with fail
    refine HEN.out.mono ?_
    clear HEN
    rintro e w5 ⟨u, rfl, wx, ⟨au, cu, rfl, hcu, hbu, hnu, hfu, hbel⟩, hbx⟩
    have HB5 := hid (HB4.out.trans ((hbx.trans (hbel.mono hbx.size)).mono HB4.out.size))
    have HDC := hid (dec_enc au cu k n m s od D w5 HO.out (HD.out.l32) HLN.out.symm HVN.out hbu hnu hm255)
    clear hcu hbu hnu hfu hbel hbx
    obtain ⟨L, hL⟩ : ∃ q, q = 7 + 32 * (1 + m) := ⟨_, rfl⟩
    rw [← hL] at HDC ⊢
    clear hL
    go_wp2_with fail
    refine HDC.out.mono ?_
    clear HDC
    rintro e w6 ⟨gd, hgd, rfl, hd6, hb6⟩
    have HB6 := hid (HB5.out.trans (hb6.mono HB5.out.size))
    have HML6 := hid (mcells_length k n m s od (.slice (some ⟨gd, 0, none⟩) m m) HO.out)
    have HON6 := hid (mcells_one k n m s od (some ⟨gd, 0, none⟩) m m)
    have HSM := hid (fun (wy : World) (b : Below w6.heap.size w6 wy) => same_man k n m s od a (some ⟨gd, 0, none⟩) m c m D wy HO.out ((HD.out.below HB1.out).below (HB6.out.trans (b.mono HB6.out.size))) (hd6.below b) (by omega))
    obtain ⟨M6, hM6⟩ : ∃ q, q = mcells k n m s od (.slice (some ⟨gd, 0, none⟩) m m) := ⟨_, rfl⟩
    rw [← hM6] at HML6 HON6 HSM ⊢
    have HIF6 := hid (show (Tryd.prog.info? 62).map (·.size) = some M6.length from by rw [HML6.out]; kernel_rfl)
    have HIF6b := hid (show (Tryd.prog.info? 62).map (·.size) = some M6.toArray.size from by rw [List.size_toArray, HML6.out]; kernel_rfl)
    have HSZ6 := hid (show mz.size = M6.toArray.size from by rw [mz_size]; rw [List.size_toArray, HML6.out])
    have HNW := hid (show (w6.alloc (.cells mz 62)).heap[w6.heap.size]? = some (.cells mz 62 (0, 0)) from heap_new _ _)
    have HBK := hid (fun (w7 : World) (k7 : Kept w6.heap.size (w6.alloc (.cells mz 62)) w7) => (show Below w6.heap.size w6 w7 from ((Below.refl _ _).alloc (Nat.le_refl _) _).trans (k7.below (by simp) (Nat.le_refl _))))
    clear hM6 hd6 hb6 hgd
    go_wp2_with (first
      | (refine wpList_store_row (by rfl) 62 (.tmp 7) (.tmp 36) (by rfl) w6.heap.size mz M6.toArray 62 (by rfl) (by rfl) HNW.out HIF6b.out HSZ6.out HON6.out ?_
         intro w7 hw7 hk7
         have HB7 := hid (HBK.out w7 hk7)
         have HW7 := hid (HB6.out.trans (HB7.out.mono HB6.out.size))
         have HR7 := hid (range_of_heapD hw7)
         clear hk7)
      | (refine wpList_load_wantD (by rfl) 62 (.tmp 2) (by rfl) w.heap.size 0 (by rfl) (mcells k n m s od (.slice a m c)) _ (HRM.out w7 HW7.out) Tryd.underlying62 rfl HIF.out ?_)
      | (refine wpList_load_wantD (by rfl) 62 (.tmp 7) (by rfl) w6.heap.size 0 (by rfl) M6 _ HR7.out Tryd.underlying62 rfl HIF6.out ?_))
    refine (HSM.out w7 HB7.out).mono ?_
    rintro e w8 ⟨rfl, hb8⟩
    have HB8 := hid (HW7.out.trans (hb8.mono HW7.out.size))
    clear hb8 hw7
    go_wp2_with fail
    go_meet
    exact HB8
  case rest =>
    clear HB3
    have HBC := hcut
    clear hcut
    have HCL := hid (hid (((HBB.out.below HB1.out).below HBC.out).alloc (.cells #[] 5)))
    go_wp2_with (refine wpList_cloneB (by rfl) (.tmp 51) (.tmp 52) (by rfl) wc.heap.size (by rfl) (heap_new _ _) ba bn bc bl (by rfl) HCL.out.out HBN.out (by omega) ?_
                 intro a5 c5 w5 hb5 hc5 hw5 hn5 hk5 hown5)
    have HB5 := hid (HBC.out.trans ((((Below.refl wc.heap.size wc).alloc (Nat.le_refl _) (.cells #[] 5)).trans (hk5.below (by simp) (Nat.le_refl _))).mono HBC.out.size))
    have HDC := hid (dec_any a5 bn c5 bl w5 hb5 hn5 (by omega))
    clear hb5 hc5 hw5 hn5 hk5 hown5
    refine HDC.out.mono ?_
    clear HDC
    intro e w6 hp
    have HNW := hid (show (w6.alloc (.cells mz 62)).heap[w6.heap.size]? = some (.cells mz 62 (0, 0)) from heap_new _ _)
    have HBK := hid (fun (w7 : World) (k7 : Kept w6.heap.size (w6.alloc (.cells mz 62)) w7) => (show Below w6.heap.size w6 w7 from ((Below.refl _ _).alloc (Nat.le_refl _) _).trans (k7.below (by simp) (Nat.le_refl _))))
    rcases hp with ⟨v, err, he, hvs, hvo, rfl, hb6⟩ | ⟨K, N, T, S, gd, od', D', rfl, ho', hol', hvn, hDT, hd6, heq, hb6⟩
    · as_aux_lemma =>
      have hE : (err != 0) = true := by rw [bne_iff_ne]; exact he
      have HB6 := hid (HB5.out.trans (hb6.mono HB5.out.size))
      have HIF6b := hid (show (Tryd.prog.info? 62).map (·.size) = some v.size from by rw [hvs]; kernel_rfl)
      have HSZ6 := hid (show mz.size = v.size from by rw [mz_size, hvs])
      have HVO := hid hvo
      clear hb6 hvs hvo he
      go_wp2_with (refine wpList_store_row (by rfl) 62 (.tmp 9) (.tmp 55) (by rfl) w6.heap.size mz v 62 (by rfl) (by rfl) HNW.out HIF6b.out HSZ6.out HVO.out ?_
                   intro w7 hw7 hk7
                   have HB7 := hid (HBK.out w7 hk7)
                   clear hk7 hw7)
      have HW7 := hid (HB1.out.trans ((HB6.out.trans (HB7.out.mono HB6.out.size)).mono HB1.out.size))
      refine (HK.out w7 HW7.out).mono ?_
      rintro e w8 ⟨rfl, hb8⟩
      have HB8 := hid (HW7.out.trans (hb8.mono HW7.out.size))
      clear hb8
      go_wp2
      go_ret
      exact ⟨rfl, HB8.out⟩
    · as_aux_lemma =>
      have HB6 := hid (HB5.out.trans (hb6.mono HB5.out.size))
      have hmb : manB K N T S D'.length = true := by unfold manB; rw [hvn, hDT]; simp
      have hT255 : T ≤ 255 := by
        unfold vnB vcB at hvn
        simp only [Bool.and_eq_true, decide_eq_true_eq] at hvn
        omega
      have HML6 := hid (mcells_length K N T S od' (.slice (some ⟨gd, 0, none⟩) T T) ho')
      have HON6 := hid (mcells_one K N T S od' (some ⟨gd, 0, none⟩) T T)
      have HEN := hid (fun (wy : World) (b : Below w6.heap.size w6 wy) => EncodeM_any K N T S od' D' (.slice (some ⟨gd, 0, none⟩) T T) ho' hol' wy (hd6.below b).at_ hmb)
      have HCK := hid (fun (wy : World) => CheckManifest_any (K : Int) (N : Int) (T : Int) (S : Int) od' (some ⟨gd, 0, none⟩) T T ho' wy)
      have hme : manE K N T S T = 0 := by unfold manE; rw [if_pos (by rw [hDT] at hmb; exact hmb)]
      rw [hme] at HCK
      rw [heq] at HEN
      obtain ⟨M6, hM6⟩ : ∃ q, q = mcells K N T S od' (.slice (some ⟨gd, 0, none⟩) T T) := ⟨_, rfl⟩
      rw [← hM6] at HML6 HON6 HEN HCK ⊢
      have HIF6 := hid (show (Tryd.prog.info? 62).map (·.size) = some M6.length from by rw [HML6.out]; kernel_rfl)
      have HIF6b := hid (show (Tryd.prog.info? 62).map (·.size) = some M6.toArray.size from by rw [List.size_toArray, HML6.out]; kernel_rfl)
      have HSZ6 := hid (show mz.size = M6.toArray.size from by rw [mz_size]; rw [List.size_toArray, HML6.out])
      obtain ⟨L, hL⟩ : ∃ q, q = 7 + 32 * (1 + T) := ⟨_, rfl⟩
      rw [← hL] at HEN
      clear hM6 hd6 hb6 hme hmb hvn heq hDT ho' hol' hL
      go_wp2_with (first
        | (refine wpList_store_row (by rfl) 62 (.tmp 9) (.tmp 55) (by rfl) w6.heap.size mz M6.toArray 62 (by rfl) (by rfl) HNW.out HIF6b.out HSZ6.out HON6.out ?_
           intro w7 hw7 hk7
           have HB7 := hid (HBK.out w7 hk7)
           have HR7 := hid (range_of_heapD hw7)
           have HH7 := hid (lt_of_heap hw7)
           clear hk7 hw7)
        | (refine wpList_load_mid (by rfl) 62 (.tmp 9) (by rfl) w6.heap.size 0 (by rfl) M6 _ HR7.out Tryd.underlying62 rfl HIF6.out ?_))
      refine (HEN.out w7 HB7.out).mono ?_
      clear HEN
      rintro e w8 ⟨u, rfl, wx, ⟨au, cu, rfl, hcu, hbu, hnu, hfu, hbel⟩, hbx⟩
      have hb78 := hbx.trans (hbel.mono hbx.size)
      have HR8 := hid (range_below HR7.out hb78)
      have HW8 := hid (HB1.out.trans (((HB6.out.trans (HB7.out.mono HB6.out.size)).trans (hb78.mono (by have := HB7.out.size; have := HB6.out.size; omega))).mono HB1.out.size))
      have HBU := hid hbu
      clear hcu hbu hnu hfu hbel hbx hb78
      go_wp2_with (refine wpList_load_mid (by rfl) 62 (.tmp 9) (by rfl) w6.heap.size 0 (by rfl) M6 _ HR8.out Tryd.underlying62 rfl HIF6.out ?_)
      refine (HCK.out w8).mono ?_
      rintro e w9 ⟨rfl, hb9⟩
      have HW9 := hid (HW8.out.trans (hb9.mono HW8.out.size))
      have hcv1 := conv_bs (HBU.out.below hb9)
      have hcv2 := conv_bs (HBB.out.below HW9.out)
      clear hb9
      generalize bstr bl = Z at *
      go_wp2_with fail
      refine (HK.out w9 HW9.out).mono ?_
      rintro e wz ⟨rfl, hbz⟩
      have HBZ := hid (HW9.out.trans (hbz.mono HW9.out.size))
      clear hbz
      go_wp2
      go_ret
      exact ⟨rfl, HBZ.out⟩
end Go.Proofs.YteaidpbopgjleaaDoor
