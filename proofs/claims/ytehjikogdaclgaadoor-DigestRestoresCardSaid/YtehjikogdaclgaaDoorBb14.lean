/-
  PieceDigest of any index. · Two digests are compared. · CheckPiece of digest and of the reference. · checkPieces of package digest: the error of a list of pieces, by a set of the numbers that have occurred. · What a checked list of pieces gives; the object that pieces determine, as a list.
-/
import Derived.Test.YtehjikogdaclgaaDoorBb6
import Derived.Test.YtehjikogdaclgaaDoorBb5
import Derived.Test.YtehjikogdaclgaaDoorBb12
import Derived.Test.YtehjikogdaclgaaDoorBb13
import Derived.Test.YtehjikogdaclgaaDoorBb11
import Derived.Test.YtehjikogdaclgaaDoorBb10
import Derived.BigQuiet
import Derived.Test.YtehjikogdaclgaaDoorBb4
namespace Go.Proofs.YtehjikogdaclgaaDoor
open Go Go.RowKit
set_option linter.unusedVariables false

set_option maxRecDepth 100000 in
set_option maxHeartbeats 1000000 in
theorem PieceDigest_all (i : Int) (a : Option Addr) (n c : Nat) (KC SH l : List Nat) (w : World) (V : Vars w KC SH) (hl : Bs w (.slice a n c) l) (hc : n ≤ c) (hsz : n ≤ 800000000) :
    Calls Tryd.prog 33 #[.int .i64 i, .slice a n c] w fun e w' => e = .returned (.agg (u8s (dig KC SH ([(i % 65536).toNat / 256, (i % 65536).toNat % 256] ++ l))).toArray) ∧ Below w.heap.size w w' := by
  obtain ⟨x, hxi⟩ : ∃ x : Nat, x = (i % 65536).toNat := ⟨_, rfl⟩
  have hx : x < 65536 := by omega
  rw [← hxi]
  have HV := hid V
  have HL := hid hl
  have hn := hl.len
  have HN := hid hn
  obtain ⟨w1, hw1⟩ : ∃ w1, w1 = w.alloc (.cells (u8s (List.replicate 32 0)).toArray 24) := ⟨_, rfl⟩
  have hb1 : Below w.heap.size w w1 := by rw [hw1]; exact (Below.refl _ _).alloc (Nat.le_refl _) _
  have HR1 := hid (show OwnD w1 w.heap.size (List.replicate 32 0) from by rw [hw1]; exact heap_new _ _)
  have hs1 : w1.heap.size = w.heap.size + 1 := by rw [hw1]; simp
  have HB1 := hid hb1
  have HV1 := hid (V.below hb1)
  have hvlt := V.lt
  clear V hl hb1 hn
  go_enter Tryd.func33, Tryd.ntmps33
  go_wp2_with fail
  change Calls _ _ _ (w.alloc (.cells (u8s (List.replicate 32 0)).toArray 24)) _
  rw [← hw1]
  clear hw1
  refine (NewHash_any KC SH w1 HV1.out).mono ?_
  rintro e w2 ⟨rfl, hM2, hb2⟩
  have HM2 := hid hM2
  have HR2 := hid ((hb2.block w.heap.size (by omega)).trans HR1.out)
  have HB2 := hid (HB1.out.trans (hb2.mono HB1.out.size))
  have HV2 := hid (HV1.out.below hb2)
  obtain ⟨hb, hhb⟩ : ∃ hb, hb = w1.heap.size := ⟨_, rfl⟩
  rw [← hhb] at HM2 ⊢
  have HHB := hid hhb
  have h4 : hb = w.heap.size + 1 := by omega
  have HS1 := hid hs1
  clear hM2 hb2 hhb hs1
  have hbl := HL.out.below HB2.out
  have hoff : 0 < n → Off hb (.slice a n c) := fun h0 => by
    rcases HL.out.addr with ⟨h1, _⟩ | ⟨h1, b, o, c', hv⟩
    · have := HN.out; rw [h1] at this; simp at this; omega
    · simp only [Value.slice.injEq] at hv
      obtain ⟨rfl, _, _⟩ := hv
      have h1 := HL.out.cell 0 (by rw [← HN.out]; exact h0)
      have h2 := World.block_lt_of_cell? _ _ h1
      show b ≠ hb
      simp only at h2
      omega
  have HBL := hid hbl
  have HOF := hid hoff
  clear hbl hoff
  have q3 : 3 ≤ hb := by omega
  have qh : w.heap.size ≤ hb := by omega
  have qn : w.heap.size ≠ hb := by omega
  have H4 := hid h4
  clear h4
  have u1 : IntKind.u16.wrap i = (x : Int) := by rw [IntKind.wrap_u16]; omega
  clear hxi
  have u2 : IntKind.u8.wrap ((x : Int) / 256) = ((x / 256 : Nat) : Int) := by rw [IntKind.wrap_u8]; omega
  have u3 : IntKind.u8.wrap (x : Int) = ((x % 256 : Nat) : Int) := by rw [IntKind.wrap_u8]; omega
  have p1 : x / 256 < 256 := by omega
  have p2 : x % 256 < 256 := by omega
  obtain ⟨xh, hxh⟩ : ∃ y, y = x / 256 := ⟨_, rfl⟩
  obtain ⟨xl, hxl⟩ : ∃ y, y = x % 256 := ⟨_, rfl⟩
  rw [← hxh] at u2 p1
  rw [← hxl] at u3 p2
  have HXH := hid (fun (_ : Unit) => hxh)
  have HXL := hid (fun (_ : Unit) => hxl)
  clear hxh hxl
  have hq2 : ∀ z ∈ [xh, xl], z < 256 := fun z hz => by
    simp only [List.mem_cons, List.not_mem_nil, or_false] at hz
    rcases hz with rfl | rfl
    · exact p1
    · exact p2
  have hhb2 : hb < w2.heap.size := by obtain ⟨_, _, H, _⟩ := HM2.out; exact H.lt
  obtain ⟨w5, hw5⟩ : ∃ w5, w5 = w2.alloc (.cells (u8s [xh, xl]).toArray 5) := ⟨_, rfl⟩
  have hb5 : Below w2.heap.size w2 w5 := by rw [hw5]; exact (Below.refl _ _).alloc (Nat.le_refl _) _
  have M5 := HM2.out.same (hb5.block hb hhb2)
  have V5 := HV2.out.below hb5
  have HR5 := hid ((hb5.block w.heap.size (lt_of_heap HR2.out)).trans HR2.out)
  have BS5 : Bs w5 (.slice (some ⟨w2.heap.size, 0, none⟩) 2 2) [xh, xl] := by rw [hw5]; exact Own.bs (l := [xh, xl]) (heap_new _ _) hq2 2
  have HQ := hid (Write_gen hb 2 2 (some ⟨w2.heap.size, 0, none⟩) KC SH [] [xh, xl] w5 M5 V5 q3 BS5 (Nat.le_refl _) (fun _ => by show w2.heap.size ≠ hb; omega) (by simp))
  have HBL5 := hid (HBL.out.below hb5)
  have HB5 := hid (HB2.out.trans (hb5.mono HB2.out.size))
  have HV5 := hid V5
  have HW5 := hid (fun (_ : Unit) => hw5)
  clear M5 V5 BS5 hb5 hhb2
  go_wp2_with fail
  change Calls _ _ _ (w2.alloc (.cells (u8s [xh, xl]).toArray 5)) _
  rw [← HW5.out ()]
  refine HQ.out.mono ?_
  clear HQ
  rintro e w6 ⟨rfl, hM6, hk6⟩
  rw [List.nil_append] at hM6
  have HM6 := hid hM6
  have HR6 := hid ((hk6.block w.heap.size (lt_of_heap HR5.out) qn).trans HR5.out)
  have HV6 := hid (HV5.out.kept hk6 q3)
  have HB6 := hid (HB5.out.trans (hk6.below HB5.out.size qh))
  have HBL6 := hid (show Bs w6 (.slice a n c) l from by
    by_cases h0 : 0 < n
    · exact HBL5.out.kept hk6 (HOF.out h0)
    · have hl0 : l = [] := List.length_eq_zero_iff.1 (by have := HN.out; omega)
      have hn0 : n = 0 := by omega
      rw [hl0, hn0]
      exact bs_nilH _ _ _)
  have HQ := hid (Write_gen hb n c a KC SH [xh, xl] l w6 HM6.out HV6.out q3 HBL6.out hc HOF.out (by simp; omega))
  clear hM6 hk6
  go_wp2_with fail
  refine HQ.out.mono ?_
  clear HQ
  rintro e w3 ⟨rfl, hM3, hk3⟩
  have HM3 := hid hM3
  have HR3 := hid ((hk3.block w.heap.size (lt_of_heap HR6.out) qn).trans HR6.out)
  have HV3 := hid (HV6.out.kept hk3 q3)
  have HB3 := hid (HB6.out.trans (hk3.below HB6.out.size qh))
  clear hM3 hk3
  go_wp2_with fail
  refine (Sum_any hb KC SH ([xh, xl] ++ l) w3 HM3.out HV3.out q3 (by have := HN.out; simp; omega)).mono ?_
  rintro e w4 ⟨rfl, hb4⟩
  have HR4 := hid ((hb4.block w.heap.size (lt_of_heap HR3.out)).trans HR3.out)
  have hbe := HB3.out.trans (hb4.mono HB3.out.size)
  have hl32 := dig_length KC SH ([xh, xl] ++ l)
  generalize hD : dig KC SH ([xh, xl] ++ l) = D at *
  have HD := hid (fun (_ : Unit) => hD)
  have hl32' : (u8s D).length = 32 := by simp [u8s, hl32]
  have HIF2 := hid (show (Tryd.prog.info? 24).map (·.size) = some (u8s D).toArray.size from by rw [List.size_toArray, hl32']; kernel_rfl)
  have HOLD := hid (show (u8s (List.replicate 32 0)).toArray.size = (u8s D).toArray.size from by rw [List.size_toArray, List.size_toArray, hl32']; rfl)
  have HONE := hid (show (u8s D).toArray.all (·.oneCell') = true from all_oneCell_toArray (u8s_oneH _))
  clear hD hb4 hl32 hl32'
  go_wp2_with (refine wpList_store_row (by rfl) 24 (.tmp 4) (.tmp 22) (by rfl) w.heap.size _ (u8s D).toArray _ (by rfl) (by rfl) HR4.out HIF2.out HOLD.out HONE.out ?_
               intro w8 hw8 hk8)
  have hres : (loadVar 24 ⟨w.heap.size, 0, none⟩).run Tryd.prog w8 = .ok (.agg (u8s D).toArray) w8 := run_loadVar_row _ _ 24 24 _ (0, 0) _ hw8 Tryd.underlying24 rfl HIF2.out
  refine bodyPost_ret (v := .agg (u8s D).toArray) (results_at Tryd.results33 rfl hres) rfl ⟨by rw [← HXH.out (), ← HXL.out ()]; exact congrArg (fun z => Ending.returned (.agg (u8s z).toArray)) (HD.out ()).symm, ?_⟩
  exact hbe.trans (hk8.below hbe.size (Nat.le_refl _))
end Go.Proofs.YtehjikogdaclgaaDoor

namespace Go.Proofs.YtehjikogdaclgaaDoor
open Go Go.RowKit
set_option linter.unusedVariables false

/-- what CheckPiece answers -/
def cpE (k n t s : Int) (m : Nat) (D : List (List Nat)) (x : Int) (pl : List Nat) : Int :=
  if manB k n t s m = true then
    (if x < 0 ∨ t ≤ x then 2 else if pl.length ≠ plen k.toNat s.toNat then 10 else if dig shaRound shaStart ([hi8 x, lo8 x] ++ pl) ≠ D.getD x.toNat [] then 20 else 0)
  else 2
theorem pdg_all (i : Int) (a : Option Addr) (n c : Nat) (l : List Nat) (w : World) (V : Vars w shaRound shaStart) (hl : Bs w (.slice a n c) l) (hc : n ≤ c) (hn : a = none → c = 0) (hsz : n ≤ 800000000) :
    Calls Tryd.prog 33 #[.int .i64 i, .slice a n c] w fun e w' => e = .returned (.agg (u8s (dig shaRound shaStart ([hi8 i, lo8 i] ++ l))).toArray) ∧ Below w.heap.size w w' := by
  have e1 : hi8 i = (i % 65536).toNat / 256 := by unfold hi8; omega
  have e2 : lo8 i = (i % 65536).toNat % 256 := by unfold lo8; omega
  rw [e1, e2]
  exact PieceDigest_all i a n c shaRound shaStart l w V hl hc hsz
theorem refd_all (i : Int) (a : Option Addr) (n c : Nat) (l : List Nat) (w : World) (V : Rnds w) (hl : Bs w (.slice a n c) l) (hc : n ≤ c) (hn : a = none → c = 0) (hsz : n ≤ 800000000) :
    Calls Tryd.prog 35 #[.int .i64 i, .slice a n c] w fun e w' => e = .returned (.agg (u8s (dig shaRound shaStart ([hi8 i, lo8 i] ++ l))).toArray) ∧ Below w.heap.size w w' :=
  ofp_any i l a n c w V hl hn hsz

set_option maxRecDepth 100000 in
set_option maxHeartbeats 4000000 in
theorem chp_any (w : World) (V : Vars w shaRound shaStart) (k n t s : Int) (od : List Nat) (a : Option Addr) (m c : Nat) (D : List (List Nat)) (ho : od.length = 32) (hD : Dgs w a m c D) (x : Int) (pa : Option Addr) (pn pc : Nat) (pl : List Nat) (hp : Bs w (.slice pa pn pc) pl) (hpc : pn ≤ pc) (hpn : pa = none → pc = 0) (hsz : pn ≤ 800000000) :
    Calls Tryd.prog 19 #[.agg (mcells k n t s od (.slice a m c)).toArray, .agg #[.int .i64 x, .slice pa pn pc]] w fun e w' => e = .returned (.int .i64 (cpE k n t s m D x pl)) ∧ Below w.heap.size w w' := by
  obtain ⟨w2, hw2⟩ : ∃ y, y = (w.alloc (.cells (mcells k n t s od (.slice a m c)).toArray 27)).alloc (.cells #[.int .i64 x, .slice pa pn pc] 44) := ⟨_, rfl⟩
  have hs1 : (w.alloc (.cells (mcells k n t s od (.slice a m c)).toArray 27)).heap.size = w.heap.size + 1 := by simp
  have hb2 : Below w.heap.size w w2 := by rw [hw2]; exact ((Below.refl _ _).alloc (Nat.le_refl _) _).alloc (by simp) _
  have hM : ManAt w2 w.heap.size k n t s od (.slice a m c) := by
    rw [hw2]
    exact (heap_alloc_old _ _ (by simp)).trans (heap_new _ _)
  have hQ : w2.heap[w.heap.size + 1]? = some (.cells #[.int .i64 x, .slice pa pn pc] 44 (0, 0)) := by rw [hw2, ← hs1]; exact heap_new _ _
  have HB := hid hb2
  have HRA := hid (range_of_heapI hM)
  have HIF := hid (show (Tryd.prog.info? 27).map (·.size) = some (mcells k n t s od (.slice a m c)).length from by rw [mcells_length _ _ _ _ _ _ ho]; kernel_rfl)
  have HE := hid (fun wx => CheckManifest_any k n t s od a m c ho wx)
  have HC := hid (fun (wx : World) (b : Below w2.heap.size w2 wx) => (show wx.cell? ⟨w.heap.size, 0, none⟩ = some (.int .i64 k) ∧ wx.cell? ⟨w.heap.size, 2, none⟩ = some (.int .i64 t) ∧ wx.cell? ⟨w.heap.size, 3, none⟩ = some (.int .i64 s) ∧ wx.cell? ⟨w.heap.size, 36, none⟩ = some (.slice a m c) ∧ wx.cell? ⟨w.heap.size + 1, 0, none⟩ = some (.int .i64 x) ∧ wx.cell? ⟨w.heap.size + 1, 1, none⟩ = some (.slice pa pn pc) from by
    have h0 : ManAt wx w.heap.size k n t s od (.slice a m c) := (b.block _ (lt_of_heap hM)).trans hM
    have h1 := h0.c ho
    have h2 := (b.block _ (lt_of_heap hQ)).trans hQ
    exact ⟨h1.1, h1.2.2.1, h1.2.2.2.1, h1.2.2.2.2, by rw [cell_of_heap h2]; rfl, by rw [cell_of_heap h2]; rfl⟩))
  have HDD := hid hD
  have HPP := hid hp
  have HVV := hid V
  clear hs1 hb2 hM hQ ho hD hp V
  cases hv : manB k n t s m with
  | false =>
    as_aux_lemma =>
      have HR := hid (show cpE k n t s m D x pl = 2 from by unfold cpE; rw [hv]; rfl)
      have hme : manE k n t s m = 2 := by unfold manE; rw [hv]; rfl
      rw [hme] at HE
      clear hv hme
      go_enter Tryd.func19, Tryd.ntmps19
      go_upto_region 1 with fail
      change Code.wp _ _ _ _ ((w.alloc (.cells (mcells k n t s od (.slice a m c)).toArray 27)).alloc (.cells #[.int .i64 x, .slice pa pn pc] 44))
      rw [← hw2]
      clear hw2
      go_wp2_with (refine wpList_load_mid (by rfl) 27 (.tmp 2) (by rfl) w.heap.size 0 (by rfl) (mcells k n t s od (.slice a m c)) _ HRA.out Tryd.underlying27 rfl HIF.out ?_)
      refine (HE.out w2).mono ?_
      rintro e w3 ⟨rfl, hb3⟩
      obtain ⟨c0, c2, c3, c36, p0, p1⟩ := HC.out w3 hb3
      have HB3 := hid (HB.out.trans (hb3.mono HB.out.size))
      go_wp2
      go_ret
      exact ⟨by rw [HR.out]; all_goals rfl, HB3.out⟩
  | true =>
    have hnum : 1 ≤ k ∧ k ≤ n ∧ n ≤ t ∧ t ≤ 255 ∧ 0 ≤ s ∧ s ≤ 8192 ∧ (m : Int) = t := by
      have hok := hv
      unfold manB vnB vcB at hok
      simp only [Bool.and_eq_true, decide_eq_true_eq] at hok
      omega
    have hme : manE k n t s m = 0 := by unfold manE; rw [hv]; rfl
    rw [hme] at HE
    have HU := hid (show cpE k n t s m D x pl = (if x < 0 ∨ t ≤ x then 2 else if pl.length ≠ plen k.toNat s.toNat then 10 else if dig shaRound shaStart ([hi8 x, lo8 x] ++ pl) ≠ D.getD x.toNat [] then 20 else 0) from by unfold cpE; rw [if_pos hv])
    clear hme hv
    by_cases hx0 : x < 0
    · as_aux_lemma =>
      have HR := hid (show cpE k n t s m D x pl = 2 from by rw [HU.out, if_pos (.inl hx0)])
      clear hnum
      go_enter Tryd.func19, Tryd.ntmps19
      go_upto_region 1 with fail
      change Code.wp _ _ _ _ ((w.alloc (.cells (mcells k n t s od (.slice a m c)).toArray 27)).alloc (.cells #[.int .i64 x, .slice pa pn pc] 44))
      rw [← hw2]
      clear hw2
      go_wp2_with (refine wpList_load_mid (by rfl) 27 (.tmp 2) (by rfl) w.heap.size 0 (by rfl) (mcells k n t s od (.slice a m c)) _ HRA.out Tryd.underlying27 rfl HIF.out ?_)
      refine (HE.out w2).mono ?_
      rintro e w3 ⟨rfl, hb3⟩
      obtain ⟨c0, c2, c3, c36, p0, p1⟩ := HC.out w3 hb3
      have HB3 := hid (HB.out.trans (hb3.mono HB.out.size))
      go_wp2
      go_ret
      exact ⟨by rw [HR.out]; all_goals rfl, HB3.out⟩
    by_cases hxt : t ≤ x
    · as_aux_lemma =>
      have HR := hid (show cpE k n t s m D x pl = 2 from by rw [HU.out, if_pos (.inr hxt)])
      clear hnum
      go_enter Tryd.func19, Tryd.ntmps19
      go_upto_region 1 with fail
      change Code.wp _ _ _ _ ((w.alloc (.cells (mcells k n t s od (.slice a m c)).toArray 27)).alloc (.cells #[.int .i64 x, .slice pa pn pc] 44))
      rw [← hw2]
      clear hw2
      go_wp2_with (refine wpList_load_mid (by rfl) 27 (.tmp 2) (by rfl) w.heap.size 0 (by rfl) (mcells k n t s od (.slice a m c)) _ HRA.out Tryd.underlying27 rfl HIF.out ?_)
      refine (HE.out w2).mono ?_
      rintro e w3 ⟨rfl, hb3⟩
      obtain ⟨c0, c2, c3, c36, p0, p1⟩ := HC.out w3 hb3
      have HB3 := hid (HB.out.trans (hb3.mono HB.out.size))
      go_wp2
      go_ret
      exact ⟨by rw [HR.out]; all_goals rfl, HB3.out⟩
    have hor : ¬ (x < 0 ∨ t ≤ x) := by omega
    have HSZ := hid (fun wx => size_ok k.toNat s.toNat (by omega) (by omega) (by omega) wx)
    rw [show ((k.toNat : Nat) : Int) = k from by omega, show ((s.toNat : Nat) : Int) = s from by omega] at HSZ
    have HPL := hid HPP.out.len
    by_cases hln : pl.length ≠ plen k.toNat s.toNat
    · as_aux_lemma =>
      have HR := hid (show cpE k n t s m D x pl = 10 from by rw [HU.out, if_neg hor, if_pos hln])
      have nq : ((pn : Int) != ((plen k.toNat s.toNat : Nat) : Int)) = true := by have := HPL.out; rw [bne_iff_ne]; omega
      clear hnum hor hln
      go_enter Tryd.func19, Tryd.ntmps19
      go_upto_region 1 with fail
      change Code.wp _ _ _ _ ((w.alloc (.cells (mcells k n t s od (.slice a m c)).toArray 27)).alloc (.cells #[.int .i64 x, .slice pa pn pc] 44))
      rw [← hw2]
      clear hw2
      go_wp2_with (refine wpList_load_mid (by rfl) 27 (.tmp 2) (by rfl) w.heap.size 0 (by rfl) (mcells k n t s od (.slice a m c)) _ HRA.out Tryd.underlying27 rfl HIF.out ?_)
      refine (HE.out w2).mono ?_
      rintro e w3 ⟨rfl, hb3⟩
      obtain ⟨c0, c2, c3, c36, p0, p1⟩ := HC.out w3 hb3
      have HB3 := hid (HB.out.trans (hb3.mono HB.out.size))
      clear hb3
      go_wp2_with fail
      refine (HSZ.out w3).mono ?_
      rintro e w4 ⟨rfl, rfl⟩
      go_wp2
      go_ret
      exact ⟨by rw [HR.out]; all_goals rfl, HB3.out⟩
    obtain ⟨i, hi⟩ : ∃ i : Nat, x = (i : Int) := ⟨x.toNat, by omega⟩
    have him : i < D.length := by have := HDD.out.len; omega
    obtain ⟨b, o', ha, hrg⟩ : ∃ b o', a = some ⟨b, o', none⟩ ∧ ∀ j, j < D.length → w.rangeAt b (o' + j * 32) (u8s (D.getD j [])) := by
      obtain ⟨a', c', h1, h2, h3⟩ := HDD.out.at_
      obtain ⟨b, o', e, h4⟩ := h3 (fun h => by rw [h] at him; simp at him)
      simp only [Value.slice.injEq] at h1
      exact ⟨b, o', h1.1.trans e, h4⟩
    have nq : ((pn : Int) != ((plen k.toNat s.toNat : Nat) : Int)) = false := by have := HPL.out; rw [bne_eq_false_iff_eq]; omega
    have hl32 : (D.getD i []).length = 32 := by
      rw [List.getD_eq_getElem?_getD, List.getElem?_eq_getElem him]
      exact HDD.out.l32 _ (List.getElem_mem _)
    have HRG := hid (hrg i him)
    obtain ⟨Y, hY⟩ : ∃ Y, Y = dig shaRound shaStart ([hi8 x, lo8 x] ++ pl) := ⟨_, rfl⟩
    have hY32 : Y.length = 32 := by rw [hY]; exact dig_length _ _ _
    obtain ⟨Z, hZ⟩ : ∃ Z, Z = D.getD i [] := ⟨_, rfl⟩
    rw [← hZ] at HRG hl32
    have HEQ := hid (fun wx => eql_any Y Z hY32 hl32 wx)
    have HIFZ := hid (show (Tryd.prog.info? 24).map (·.size) = some (u8s Z).length from by simp only [u8s, List.length_map, hl32]; kernel_rfl)
    have HFIN := hid (show cpE k n t s m D x pl = if Y ≠ Z then 20 else 0 from by rw [HU.out, if_neg hor, if_neg hln, ← hY, hZ, hi]; rfl)
    have HPD := hid (fun (wx : World) (b : Below w.heap.size w wx) => pdg_all x pa pn pc pl wx (HVV.out.below b) (HPP.out.below b) hpc hpn hsz)
    rw [← hY] at HPD
    have hmi : (i : Int) < (m : Int) := by have := HDD.out.len; omega
    have hxt2 : ¬ t ≤ (i : Int) := by omega
    have hx02 : ¬ (i : Int) < 0 := by omega
    subst hi
    subst ha
    clear hnum hor hln hxt hx0 HU hrg him hY hZ hY32 hl32
    have hfin : ∀ (q : Bool), q = decide (Y = Z) → (if Y ≠ Z then (20 : Int) else 0) = if q then 0 else 20 := by
      rintro q rfl
      by_cases h : Y = Z
      · rw [if_neg (by simpa using h), decide_eq_true h]; rfl
      · rw [if_pos h, decide_eq_false h]; rfl
    generalize hq : decide (Y = Z) = q at *
    have HFN := hid (HFIN.out.trans (hfin q rfl))
    clear hfin HFIN hq
    obtain ⟨x, hx⟩ : ∃ x : Int, x = (i : Int) := ⟨_, rfl⟩
    cases q
    all_goals as_aux_lemma =>
      rw [HFN.out]
      rw [hx] at *
      clear hx
      go_enter Tryd.func19, Tryd.ntmps19
      go_upto_region 1 with fail
      change Code.wp _ _ _ _ ((w.alloc (.cells (mcells k n t s od (.slice (some ⟨b, o', none⟩) m c)).toArray 27)).alloc (.cells #[.int .i64 (i : Int), .slice pa pn pc] 44))
      rw [← hw2]
      clear hw2
      go_wp2_with (refine wpList_load_mid (by rfl) 27 (.tmp 2) (by rfl) w.heap.size 0 (by rfl) (mcells k n t s od (.slice (some ⟨b, o', none⟩) m c)) _ HRA.out Tryd.underlying27 rfl HIF.out ?_)
      refine (HE.out w2).mono ?_
      rintro e w3 ⟨rfl, hb3⟩
      obtain ⟨c0, c2, c3, c36, p0, p1⟩ := HC.out w3 hb3
      have HB3 := hid (HB.out.trans (hb3.mono HB.out.size))
      clear hb3
      go_wp2_with fail
      refine (HSZ.out w3).mono ?_
      rintro e w4 ⟨rfl, rfl⟩

      have hne : Nonempty (Cls fun w' => Below w3.heap.size w3 w') := ⟨⟨w3, Below.refl _ _⟩⟩
      have q0 : ∀ p : Cls (fun w' => Below w3.heap.size w3 w'), p.w.cell? ⟨w.heap.size + 1, 0, none⟩ = some (.int .i64 (i : Int)) := fun p => (p.h.cell (World.block_lt_of_cell? _ _ p0)).trans p0
      have q1 : ∀ p : Cls (fun w' => Below w3.heap.size w3 w'), p.w.cell? ⟨w.heap.size + 1, 1, none⟩ = some (.slice pa pn pc) := fun p => (p.h.cell (World.block_lt_of_cell? _ _ p1)).trans p1
      have q2 : ∀ p : Cls (fun w' => Below w3.heap.size w3 w'), p.w.cell? ⟨w.heap.size, 36, none⟩ = some (.slice (some ⟨b, o', none⟩) m c) := fun p => (p.h.cell (World.block_lt_of_cell? _ _ c36)).trans c36
      have HPQ := hid (fun (p : Cls (fun w' => Below w3.heap.size w3 w')) => HPD.out p.w (HB3.out.trans (p.h.mono HB3.out.size)))
      have HRQ := hid (fun (p : Cls (fun w' => Below w3.heap.size w3 w')) => range_below HRG.out (HB3.out.trans (p.h.mono HB3.out.size)))
      have e1 := fun wx => HEQ.out wx
      have hi0 : (0 : Int) ≤ (i : Int) := by omega
      go_upto_region 9 with fail
      refine wp_region_class_lit (G := fun w' => Below w3.heap.size w3 w') (by kernel_rfl) (by kernel_rfl) (bel_drewN (Below.refl _ _) 1) ?_
      iterate 10 (go_big_quiet_step ((go_at_call 33; exact Calls.cls (HPQ.out _))))
      refine wpQuiet_load_cls (by rfl) 24 (.tmp 45) (by rfl) b (o' + i * 32) (by rfl) (u8s Z) _ HRQ.out Tryd.underlying24 rfl HIFZ.out ?_
      rintro _ rfl
      try simp only [Act.put, List.setIfInBounds_toArray, List.set_cons_zero, List.set_cons_succ]
      repeat (go_big_quiet_step ((go_at_call 33; exact Calls.cls (HPQ.out _))))
      refine wpQuiet_nil ?_
      rintro _ ⟨p, rfl⟩
      have HBF := hid (HB3.out.trans (p.h.mono HB3.out.size))
      go_wp2
      go_ret
      exact ⟨rfl, HBF.out⟩

set_option maxRecDepth 100000 in
set_option maxHeartbeats 4000000 in
theorem rchp_any (w : World) (V : Rnds w) (k n t s : Int) (od : List Nat) (a : Option Addr) (m c : Nat) (D : List (List Nat)) (ho : od.length = 32) (hD : Dgs w a m c D) (x : Int) (pa : Option Addr) (pn pc : Nat) (pl : List Nat) (hp : Bs w (.slice pa pn pc) pl) (hpc : pn ≤ pc) (hpn : pa = none → pc = 0) (hsz : pn ≤ 800000000) :
    Calls Tryd.prog 55 #[.agg (mcells k n t s od (.slice a m c)).toArray, .agg #[.int .i64 x, .slice pa pn pc]] w fun e w' => e = .returned (.int .i64 (cpE k n t s m D x pl)) ∧ Below w.heap.size w w' := by
  obtain ⟨w2, hw2⟩ : ∃ y, y = (w.alloc (.cells (mcells k n t s od (.slice a m c)).toArray 27)).alloc (.cells #[.int .i64 x, .slice pa pn pc] 44) := ⟨_, rfl⟩
  have hs1 : (w.alloc (.cells (mcells k n t s od (.slice a m c)).toArray 27)).heap.size = w.heap.size + 1 := by simp
  have hb2 : Below w.heap.size w w2 := by rw [hw2]; exact ((Below.refl _ _).alloc (Nat.le_refl _) _).alloc (by simp) _
  have hM : ManAt w2 w.heap.size k n t s od (.slice a m c) := by
    rw [hw2]
    exact (heap_alloc_old _ _ (by simp)).trans (heap_new _ _)
  have hQ : w2.heap[w.heap.size + 1]? = some (.cells #[.int .i64 x, .slice pa pn pc] 44 (0, 0)) := by rw [hw2, ← hs1]; exact heap_new _ _
  have HB := hid hb2
  have HRA := hid (range_of_heapI hM)
  have HIF := hid (show (Tryd.prog.info? 27).map (·.size) = some (mcells k n t s od (.slice a m c)).length from by rw [mcells_length _ _ _ _ _ _ ho]; kernel_rfl)
  have HE := hid (fun wx => valid_any k n t s od a m c ho wx)
  have HC := hid (fun (wx : World) (b : Below w2.heap.size w2 wx) => (show wx.cell? ⟨w.heap.size, 0, none⟩ = some (.int .i64 k) ∧ wx.cell? ⟨w.heap.size, 2, none⟩ = some (.int .i64 t) ∧ wx.cell? ⟨w.heap.size, 3, none⟩ = some (.int .i64 s) ∧ wx.cell? ⟨w.heap.size, 36, none⟩ = some (.slice a m c) ∧ wx.cell? ⟨w.heap.size + 1, 0, none⟩ = some (.int .i64 x) ∧ wx.cell? ⟨w.heap.size + 1, 1, none⟩ = some (.slice pa pn pc) from by
    have h0 : ManAt wx w.heap.size k n t s od (.slice a m c) := (b.block _ (lt_of_heap hM)).trans hM
    have h1 := h0.c ho
    have h2 := (b.block _ (lt_of_heap hQ)).trans hQ
    exact ⟨h1.1, h1.2.2.1, h1.2.2.2.1, h1.2.2.2.2, by rw [cell_of_heap h2]; rfl, by rw [cell_of_heap h2]; rfl⟩))
  have HDD := hid hD
  have HPP := hid hp
  have HVV := hid V
  clear hs1 hb2 hM hQ ho hD hp V
  cases hv : manB k n t s m with
  | false =>
    as_aux_lemma =>
      have HR := hid (show cpE k n t s m D x pl = 2 from by unfold cpE; rw [hv]; rfl)
      have hme : manB k n t s m = false := by exact hv
      rw [hme] at HE
      clear hv hme
      go_enter Tryd.func55, Tryd.ntmps55
      go_upto_region 1 with fail
      change Code.wp _ _ _ _ ((w.alloc (.cells (mcells k n t s od (.slice a m c)).toArray 27)).alloc (.cells #[.int .i64 x, .slice pa pn pc] 44))
      rw [← hw2]
      clear hw2
      go_wp2_with (refine wpList_load_mid (by rfl) 27 (.tmp 2) (by rfl) w.heap.size 0 (by rfl) (mcells k n t s od (.slice a m c)) _ HRA.out Tryd.underlying27 rfl HIF.out ?_)
      refine (HE.out w2).mono ?_
      rintro e w3 ⟨rfl, hb3⟩
      obtain ⟨c0, c2, c3, c36, p0, p1⟩ := HC.out w3 hb3
      have HB3 := hid (HB.out.trans (hb3.mono HB.out.size))
      go_wp2
      go_ret
      exact ⟨by rw [HR.out]; all_goals rfl, HB3.out⟩
  | true =>
    have hnum : 1 ≤ k ∧ k ≤ n ∧ n ≤ t ∧ t ≤ 255 ∧ 0 ≤ s ∧ s ≤ 8192 ∧ (m : Int) = t := by
      have hok := hv
      unfold manB vnB vcB at hok
      simp only [Bool.and_eq_true, decide_eq_true_eq] at hok
      omega
    have hme : manB k n t s m = true := by exact hv
    rw [hme] at HE
    have HU := hid (show cpE k n t s m D x pl = (if x < 0 ∨ t ≤ x then 2 else if pl.length ≠ plen k.toNat s.toNat then 10 else if dig shaRound shaStart ([hi8 x, lo8 x] ++ pl) ≠ D.getD x.toNat [] then 20 else 0) from by unfold cpE; rw [if_pos hv])
    clear hme hv
    by_cases hx0 : x < 0
    · as_aux_lemma =>
      have HR := hid (show cpE k n t s m D x pl = 2 from by rw [HU.out, if_pos (.inl hx0)])
      clear hnum
      go_enter Tryd.func55, Tryd.ntmps55
      go_upto_region 1 with fail
      change Code.wp _ _ _ _ ((w.alloc (.cells (mcells k n t s od (.slice a m c)).toArray 27)).alloc (.cells #[.int .i64 x, .slice pa pn pc] 44))
      rw [← hw2]
      clear hw2
      go_wp2_with (refine wpList_load_mid (by rfl) 27 (.tmp 2) (by rfl) w.heap.size 0 (by rfl) (mcells k n t s od (.slice a m c)) _ HRA.out Tryd.underlying27 rfl HIF.out ?_)
      refine (HE.out w2).mono ?_
      rintro e w3 ⟨rfl, hb3⟩
      obtain ⟨c0, c2, c3, c36, p0, p1⟩ := HC.out w3 hb3
      have HB3 := hid (HB.out.trans (hb3.mono HB.out.size))
      go_wp2
      go_ret
      exact ⟨by rw [HR.out]; all_goals rfl, HB3.out⟩
    by_cases hxt : t ≤ x
    · as_aux_lemma =>
      have HR := hid (show cpE k n t s m D x pl = 2 from by rw [HU.out, if_pos (.inr hxt)])
      clear hnum
      go_enter Tryd.func55, Tryd.ntmps55
      go_upto_region 1 with fail
      change Code.wp _ _ _ _ ((w.alloc (.cells (mcells k n t s od (.slice a m c)).toArray 27)).alloc (.cells #[.int .i64 x, .slice pa pn pc] 44))
      rw [← hw2]
      clear hw2
      go_wp2_with (refine wpList_load_mid (by rfl) 27 (.tmp 2) (by rfl) w.heap.size 0 (by rfl) (mcells k n t s od (.slice a m c)) _ HRA.out Tryd.underlying27 rfl HIF.out ?_)
      refine (HE.out w2).mono ?_
      rintro e w3 ⟨rfl, hb3⟩
      obtain ⟨c0, c2, c3, c36, p0, p1⟩ := HC.out w3 hb3
      have HB3 := hid (HB.out.trans (hb3.mono HB.out.size))
      go_wp2
      go_ret
      exact ⟨by rw [HR.out]; all_goals rfl, HB3.out⟩
    have hor : ¬ (x < 0 ∨ t ≤ x) := by omega
    have HSZ := hid (fun wx => length_ok k.toNat s.toNat (by omega) (by omega) (by omega) wx)
    rw [show ((k.toNat : Nat) : Int) = k from by omega, show ((s.toNat : Nat) : Int) = s from by omega] at HSZ
    have HPL := hid HPP.out.len
    by_cases hln : pl.length ≠ plen k.toNat s.toNat
    · as_aux_lemma =>
      have HR := hid (show cpE k n t s m D x pl = 10 from by rw [HU.out, if_neg hor, if_pos hln])
      have nq : ((pn : Int) != ((plen k.toNat s.toNat : Nat) : Int)) = true := by have := HPL.out; rw [bne_iff_ne]; omega
      clear hnum hor hln
      go_enter Tryd.func55, Tryd.ntmps55
      go_upto_region 1 with fail
      change Code.wp _ _ _ _ ((w.alloc (.cells (mcells k n t s od (.slice a m c)).toArray 27)).alloc (.cells #[.int .i64 x, .slice pa pn pc] 44))
      rw [← hw2]
      clear hw2
      go_wp2_with (refine wpList_load_mid (by rfl) 27 (.tmp 2) (by rfl) w.heap.size 0 (by rfl) (mcells k n t s od (.slice a m c)) _ HRA.out Tryd.underlying27 rfl HIF.out ?_)
      refine (HE.out w2).mono ?_
      rintro e w3 ⟨rfl, hb3⟩
      obtain ⟨c0, c2, c3, c36, p0, p1⟩ := HC.out w3 hb3
      have HB3 := hid (HB.out.trans (hb3.mono HB.out.size))
      clear hb3
      go_wp2_with fail
      refine (HSZ.out w3).mono ?_
      rintro e w4 ⟨rfl, rfl⟩
      go_wp2
      go_ret
      exact ⟨by rw [HR.out]; all_goals rfl, HB3.out⟩
    obtain ⟨i, hi⟩ : ∃ i : Nat, x = (i : Int) := ⟨x.toNat, by omega⟩
    have him : i < D.length := by have := HDD.out.len; omega
    obtain ⟨b, o', ha, hrg⟩ : ∃ b o', a = some ⟨b, o', none⟩ ∧ ∀ j, j < D.length → w.rangeAt b (o' + j * 32) (u8s (D.getD j [])) := by
      obtain ⟨a', c', h1, h2, h3⟩ := HDD.out.at_
      obtain ⟨b, o', e, h4⟩ := h3 (fun h => by rw [h] at him; simp at him)
      simp only [Value.slice.injEq] at h1
      exact ⟨b, o', h1.1.trans e, h4⟩
    have nq : ((pn : Int) != ((plen k.toNat s.toNat : Nat) : Int)) = false := by have := HPL.out; rw [bne_eq_false_iff_eq]; omega
    have hl32 : (D.getD i []).length = 32 := by
      rw [List.getD_eq_getElem?_getD, List.getElem?_eq_getElem him]
      exact HDD.out.l32 _ (List.getElem_mem _)
    have HRG := hid (hrg i him)
    obtain ⟨Y, hY⟩ : ∃ Y, Y = dig shaRound shaStart ([hi8 x, lo8 x] ++ pl) := ⟨_, rfl⟩
    have hY32 : Y.length = 32 := by rw [hY]; exact dig_length _ _ _
    obtain ⟨Z, hZ⟩ : ∃ Z, Z = D.getD i [] := ⟨_, rfl⟩
    rw [← hZ] at HRG hl32
    have HEQ := hid (fun wx => eql_any Y Z hY32 hl32 wx)
    have HIFZ := hid (show (Tryd.prog.info? 24).map (·.size) = some (u8s Z).length from by simp only [u8s, List.length_map, hl32]; kernel_rfl)
    have HFIN := hid (show cpE k n t s m D x pl = if Y ≠ Z then 20 else 0 from by rw [HU.out, if_neg hor, if_neg hln, ← hY, hZ, hi]; rfl)
    have HPD := hid (fun (wx : World) (b : Below w.heap.size w wx) => refd_all x pa pn pc pl wx (HVV.out.below b) (HPP.out.below b) hpc hpn hsz)
    rw [← hY] at HPD
    have hmi : (i : Int) < (m : Int) := by have := HDD.out.len; omega
    have hxt2 : ¬ t ≤ (i : Int) := by omega
    have hx02 : ¬ (i : Int) < 0 := by omega
    subst hi
    subst ha
    clear hnum hor hln hxt hx0 HU hrg him hY hZ hY32 hl32
    have hfin : ∀ (q : Bool), q = decide (Y = Z) → (if Y ≠ Z then (20 : Int) else 0) = if q then 0 else 20 := by
      rintro q rfl
      by_cases h : Y = Z
      · rw [if_neg (by simpa using h), decide_eq_true h]; rfl
      · rw [if_pos h, decide_eq_false h]; rfl
    generalize hq : decide (Y = Z) = q at *
    have HFN := hid (HFIN.out.trans (hfin q rfl))
    clear hfin HFIN hq
    obtain ⟨x, hx⟩ : ∃ x : Int, x = (i : Int) := ⟨_, rfl⟩
    cases q
    all_goals as_aux_lemma =>
      rw [HFN.out]
      rw [hx] at *
      clear hx
      go_enter Tryd.func55, Tryd.ntmps55
      go_upto_region 1 with fail
      change Code.wp _ _ _ _ ((w.alloc (.cells (mcells k n t s od (.slice (some ⟨b, o', none⟩) m c)).toArray 27)).alloc (.cells #[.int .i64 (i : Int), .slice pa pn pc] 44))
      rw [← hw2]
      clear hw2
      go_wp2_with (refine wpList_load_mid (by rfl) 27 (.tmp 2) (by rfl) w.heap.size 0 (by rfl) (mcells k n t s od (.slice (some ⟨b, o', none⟩) m c)) _ HRA.out Tryd.underlying27 rfl HIF.out ?_)
      refine (HE.out w2).mono ?_
      rintro e w3 ⟨rfl, hb3⟩
      obtain ⟨c0, c2, c3, c36, p0, p1⟩ := HC.out w3 hb3
      have HB3 := hid (HB.out.trans (hb3.mono HB.out.size))
      clear hb3
      go_wp2_with fail
      refine (HSZ.out w3).mono ?_
      rintro e w4 ⟨rfl, rfl⟩

      have hne : Nonempty (Cls fun w' => Below w3.heap.size w3 w') := ⟨⟨w3, Below.refl _ _⟩⟩
      have q0 : ∀ p : Cls (fun w' => Below w3.heap.size w3 w'), p.w.cell? ⟨w.heap.size + 1, 0, none⟩ = some (.int .i64 (i : Int)) := fun p => (p.h.cell (World.block_lt_of_cell? _ _ p0)).trans p0
      have q1 : ∀ p : Cls (fun w' => Below w3.heap.size w3 w'), p.w.cell? ⟨w.heap.size + 1, 1, none⟩ = some (.slice pa pn pc) := fun p => (p.h.cell (World.block_lt_of_cell? _ _ p1)).trans p1
      have q2 : ∀ p : Cls (fun w' => Below w3.heap.size w3 w'), p.w.cell? ⟨w.heap.size, 36, none⟩ = some (.slice (some ⟨b, o', none⟩) m c) := fun p => (p.h.cell (World.block_lt_of_cell? _ _ c36)).trans c36
      have HPQ := hid (fun (p : Cls (fun w' => Below w3.heap.size w3 w')) => HPD.out p.w (HB3.out.trans (p.h.mono HB3.out.size)))
      have HRQ := hid (fun (p : Cls (fun w' => Below w3.heap.size w3 w')) => range_below HRG.out (HB3.out.trans (p.h.mono HB3.out.size)))
      have e1 := fun wx => HEQ.out wx
      have hi0 : (0 : Int) ≤ (i : Int) := by omega
      go_upto_region 6 with fail
      refine wp_region_class_lit (G := fun w' => Below w3.heap.size w3 w') (by kernel_rfl) (by kernel_rfl) (bel_drewN (Below.refl _ _) 1) ?_
      iterate 10 (go_big_quiet_step ((go_at_call 35; exact Calls.cls (HPQ.out _))))
      refine wpQuiet_load_cls (by rfl) 24 (.tmp 44) (by rfl) b (o' + i * 32) (by rfl) (u8s Z) _ HRQ.out Tryd.underlying24 rfl HIFZ.out ?_
      rintro _ rfl
      try simp only [Act.put, List.setIfInBounds_toArray, List.set_cons_zero, List.set_cons_succ]
      repeat (go_big_quiet_step ((go_at_call 35; exact Calls.cls (HPQ.out _))))
      refine wpQuiet_nil ?_
      rintro _ ⟨p, rfl⟩
      have HBF := hid (HB3.out.trans (p.h.mono HB3.out.size))
      go_wp2
      go_ret
      exact ⟨rfl, HBF.out⟩

end Go.Proofs.YtehjikogdaclgaaDoor

namespace Go.Proofs.YtehjikogdaclgaaDoor
open Go Go.RowKit
open Go.Maps (Keyed)
set_option linter.unusedVariables false

/-- the error of piece i, ce its own -/
def dStep (idx ce : Nat → Int) (i : Nat) : Int := if ce i = 0 then (if occ idx i (idx i) = true then 7 else 0) else ce i
/-- the first error of the first pieces, or 0 -/
def dTo (idx ce : Nat → Int) : Nat → Int
  | 0 => 0
  | i + 1 => if dTo idx ce i = 0 then dStep idx ce i else dTo idx ce i
/-- the error of n pieces of which k are needed -/
def dAll (k : Int) (idx ce : Nat → Int) (n : Nat) : Int := if dTo idx ce n = 0 then (if (n : Int) < k then 12 else 0) else dTo idx ce n
theorem dTo_stop {idx ce : Nat → Int} {i : Nat} (h : dTo idx ce i = 0) (h2 : dStep idx ce i ≠ 0) : ∀ n, i < n → dTo idx ce n = dStep idx ce i
  | 0, hn => absurd hn (Nat.not_lt_zero i)
  | n + 1, hn => by
    unfold dTo
    by_cases e : i = n
    · subst e; rw [if_pos h]
    · rw [dTo_stop h h2 n (by omega), if_neg h2]
theorem dAll_stop {k : Int} {idx ce : Nat → Int} {i n : Nat} (h : dTo idx ce i = 0) (h2 : dStep idx ce i ≠ 0) (hn : i < n) : dAll k idx ce n = dStep idx ce i := by
  unfold dAll
  rw [dTo_stop h h2 n hn, if_neg h2]
theorem dTo_next {idx ce : Nat → Int} {i : Nat} (h : dTo idx ce i = 0) (h2 : dStep idx ce i = 0) : dTo idx ce (i + 1) = 0 := by
  unfold dTo
  rw [if_pos h, h2]
/-- pieces whose bytes may be read -/
def PDat (w : World) (ps : List (Int × Sl)) (D : Nat → List Nat) : Prop := ∀ i, (h : i < ps.length) → Bs w (.slice ps[i].2.1 ps[i].2.2.1 ps[i].2.2.2) (D i) ∧ ps[i].2.2.1 ≤ ps[i].2.2.2 ∧ (ps[i].2.1 = none → ps[i].2.2.2 = 0) ∧ ps[i].2.2.1 ≤ 800000000
theorem PDat.below {w w' : World} {ps : List (Int × Sl)} {D : Nat → List Nat} (h : PDat w ps D) (b : Below w.heap.size w w') : PDat w' ps D := fun i hi => ⟨(h i hi).1.below b, (h i hi).2⟩

theorem cp_zero {k n t s : Int} {m : Nat} {D : List (List Nat)} {x : Int} {pl : List Nat} (h : cpE k n t s m D x pl = 0) :
    manB k n t s m = true ∧ 0 ≤ x ∧ x < t ∧ t ≤ 255 ∧ pl.length = plen k.toNat s.toNat ∧ dig shaRound shaStart ([hi8 x, lo8 x] ++ pl) = D.getD x.toNat [] := by
  unfold cpE at h
  split at h
  case isFalse => exact absurd h (by decide)
  case isTrue hm =>
  split at h
  case isTrue => exact absurd h (by decide)
  case isFalse h1 =>
  split at h
  case isTrue => exact absurd h (by decide)
  case isFalse h2 =>
  split at h
  case isTrue => exact absurd h (by decide)
  case isFalse h3 =>
  have hok := hm
  unfold manB vnB vcB at hok
  simp only [Bool.and_eq_true, decide_eq_true_eq] at hok
  exact ⟨hm, by omega, by omega, by omega, by simpa using h2, by simpa using h3⟩
/-- what the loop keeps -/
structure CkpI (idx ce : Nat → Int) (w0 wr : World) (mb i : Nat) : Prop where
  map : wr.ownsMap Tryd.prog 3 (plainElem (H := Unit) Tryd.prog 4) mb i (seenD idx i)
  kept : Kept mb w0 wr
  clean : dTo idx ce i = 0
theorem zeroBS (w : World) : (zeroValue 4).run Tryd.prog w = .ok (.bool false) w := by kernel_rfl

set_option maxRecDepth 100000 in
set_option maxHeartbeats 4000000 in
theorem ckp_any (w : World) (V : Vars w shaRound shaStart) (k n t s : Int) (od : List Nat) (a : Option Addr) (m c : Nat) (D : List (List Nat)) (ho : od.length = 32) (hD : Dgs w a m c D) (pa : Option Addr) (pn pc : Nat) (ps : List (Int × Sl)) (Dd : Nat → List Nat) (hp : Ps w (.slice pa pn pc) ps) (hd : PDat w ps Dd) (hpn : pn ≤ 100000) :
    Calls Tryd.prog 27 #[.agg (mcells k n t s od (.slice a m c)).toArray, .slice pa pn pc] w fun e w' => e = .returned (.int .i64 (dAll k (pidx ps) (fun i => cpE k n t s m D (pidx ps i) (Dd i)) pn)) ∧ Below w.heap.size w w' := by
  have hmm := @run_makeMap Tryd.prog
  obtain ⟨ce, hce⟩ : ∃ ce : Nat → Int, ce = fun i => cpE k n t s m D (pidx ps i) (Dd i) := ⟨_, rfl⟩
  have HCE := hid hce
  rw [← hce]
  obtain ⟨w1, hw1⟩ : ∃ y, y = w.alloc (.cells (mcells k n t s od (.slice a m c)).toArray 27) := ⟨_, rfl⟩
  have hs1 : w1.heap.size = w.heap.size + 1 := by rw [hw1]; simp
  obtain ⟨mb, hmb⟩ : ∃ y, y = w1.heap.size := ⟨_, rfl⟩
  obtain ⟨w0, hw0⟩ : ∃ y, y = w1.alloc (.map #[] 0) := ⟨_, rfl⟩
  have HB0 := hid (show Below w.heap.size w w0 from by rw [hw0, hw1]; exact ((Below.refl _ _).alloc (Nat.le_refl _) _).alloc (by simp) _)
  have hM : ManAt w0 w.heap.size k n t s od (.slice a m c) := by rw [hw0, hw1]; exact (heap_alloc_old _ _ (by simp)).trans (heap_new _ _)
  have HM := hid hM
  have hmlt : mb < w0.heap.size := by rw [hw0, hmb]; simp
  have hmne : w.heap.size < mb := by omega
  have HI0 := hid (show CkpI (pidx ps) ce w0 w0 mb 0 from ⟨by rw [hw0, hmb]; exact World.ownsMap_made _ _ _ _, Kept.refl _ _, rfl⟩)
  have HIF := hid (show (Tryd.prog.info? 27).map (·.size) = some (mcells k n t s od (.slice a m c)).length from by rw [mcells_length _ _ _ _ _ _ ho]; kernel_rfl)
  have HO := hid ho
  have HV := hid V
  have HDD := hid hD
  have HP := hid hp
  have HD := hid hd
  have HN := hid (show pn = ps.length from by obtain ⟨_, _, h, _⟩ := hp; simp at h; exact h.2.1)
  have hm1 : mb = w.heap.size + 1 := by omega
  clear hce hM ho V hD hp hd
  go_enter Tryd.func27, Tryd.ntmps27
  go_upto_region 2 with fail
  change Code.wp _ _ _ _ ((w.alloc (.cells (mcells k n t s od (.slice a m c)).toArray 27)).alloc (.map #[] 0))
  rw [← hw1, ← hw0]
  clear hw1 hw0 hmm hs1 hmb
  subst hm1
  go_wp2
  go_loopw [12] (fun iv wr => ∃ i : Nat, i ≤ pn ∧ iv = .int .i64 i ∧ Hid (CkpI (pidx ps) ce w0 wr (w.heap.size + 1) i)) (fun iv _ => pn - (intOf iv).toNat)
  case atStart => exact ⟨0, by omega, rfl, HI0⟩
  case round =>
    clear HI0
    obtain ⟨i, hi, rfl, HINV⟩ := hrel
    have HBr := hid (HB0.out.trans (HINV.out.kept.below HB0.out.size (by omega)))
    by_cases hlt : i < pn
    · have HPr := HP.out.below HBr.out
      obtain ⟨b, o, rfl⟩ : ∃ b o, pa = some ⟨b, o, none⟩ := by
        obtain ⟨a', c', h1, h3⟩ := HPr
        obtain ⟨b, o, ha, _⟩ := h3 (by intro e; rw [e] at HN; have := HN.out; simp at this; omega)
        simp at h1
        exact ⟨b, o, h1.1.trans ha⟩
      have hil : i < ps.length := by rw [← HN.out]; exact hlt
      obtain ⟨q0, q1⟩ := HPr.cells i hil
      obtain ⟨hbs, hcap, hnil, hsz⟩ := HD.out i hil
      rw [pidx_at] at q0
      have HDi := hid hbs
      have HNi := hid hnil
      clear HPr hbs hnil
      generalize hdx : pidx ps i = x at *
      generalize (ps[i]'_).2.1 = da at *
      generalize (ps[i]'_).2.2.1 = dn at *
      generalize (ps[i]'_).2.2.2 = dc at *
      have HX := hid hdx
      clear hdx
      obtain ⟨wq, hwq⟩ : ∃ y, y = wr.alloc (.cells #[.int .i64 x, .slice da dn dc] 44) := ⟨_, rfl⟩
      have hpb : wq.heap[wr.heap.size]? = some (.cells #[.int .i64 x, .slice da dn dc] 44 (0, 0)) := by rw [hwq]; exact heap_new _ _
      have HQK := hid (show Kept (w.heap.size + 1) w0 wq from by rw [hwq]; exact HINV.out.kept.alloc _)
      have HMAP := hid (show wq.ownsMap Tryd.prog 3 (plainElem (H := Unit) Tryd.prog 4) (w.heap.size + 1) i (seenD (pidx ps) i) from by rw [hwq]; exact HINV.out.map.alloc _)
      have HBq := hid (HB0.out.trans (HQK.out.below HB0.out.size (by omega)))
      have HRA := hid (range_of_heapI ((HQK.out.block _ (lt_of_heap HM.out) (by omega)).trans HM.out))
      have HCL := hid HINV.out.clean
      have p0 : wq.cell? ⟨wr.heap.size, 0, none⟩ = some (.int .i64 x) := by rw [cell_of_heap hpb]; rfl
      have p1 : wq.cell? ⟨wr.heap.size, 1, none⟩ = some (.slice da dn dc) := by rw [cell_of_heap hpb]; rfl
      have HPB := hid hpb
      have HCK := hid ((chp_any wq (HV.out.below HBq.out) k n t s od a m c D HO.out (HDD.out.below HBq.out) x da dn dc (Dd i) (HDi.out.below HBq.out) hcap HNi.out hsz).mono (fun e w' h => (show e = .returned (.int .i64 (ce i)) ∧ Below wq.heap.size wq w' from ⟨by rw [h.1, HCE.out]; exact congrArg (fun y => Ending.returned (.int .i64 (cpE k n t s m D y (Dd i)))) HX.out.symm, h.2⟩)))
      clear hpb
      go_upto_region 5 with fail
      change Code.wp _ _ _ _ (wr.alloc (.cells #[.int .i64 x, .slice da dn dc] 44))
      rw [← hwq]
      clear hwq q0 q1 HINV
      by_cases hc0 : ce i = 0
      · rw [hc0] at HCK
        have HC0 := hid hc0
        clear hc0
        go_wp2_with (refine wpList_load_mid (by rfl) 27 (.tmp 2) (by rfl) w.heap.size 0 (by rfl) (mcells k n t s od (.slice a m c)) _ HRA.out Tryd.underlying27 rfl HIF.out ?_)
        refine HCK.out.mono ?_
        rintro e w3 ⟨rfl, hb3⟩
        have h3k : Kept (w.heap.size + 1) w0 w3 := HQK.out.trans (Kept.of_below hb3)
        have HK3 := hid h3k
        have HB3 := hid (HB0.out.trans (h3k.below HB0.out.size (by omega)))
        have p0 := (hb3.cell (p := ⟨wr.heap.size, 0, none⟩) (lt_of_heap HPB.out)).trans p0
        have HMAP3 := hid (show w3.ownsMap Tryd.prog 3 (plainElem (H := Unit) Tryd.prog 4) (w.heap.size + 1) i (seenD (pidx ps) i) from HMAP.out.kept (row := none) ⟨hb3.os, hb3.tape, hb3.output, hb3.size, fun q hq _ => hb3.block q hq⟩ (by simp))
        have hz := cp_zero (show cpE k n t s m D (pidx ps i) (Dd i) = 0 from (congrFun HCE.out i).symm.trans HC0.out)
        rw [HX.out] at hz
        obtain ⟨_, hx0, hxt, ht, _, _⟩ := hz
        have hwf : (Lit.int .i64 x).wf = true := by simp [Lit.wf, IntKind.min, IntKind.max, IntKind.signed, IntKind.bits]; omega
        have hkey : keyOf Tryd.prog 3 (.int .i64 x) = some (.int .i64 x) := Maps.keyOf_int_mk Tryd.underlying3 hwf
        have HKEY := hid hkey
        clear hb3 h3k hkey hwf p1 HPB HQK HMAP HBq HRA HCK
        by_cases hoc : occ (pidx ps) i x = true
        · have HST := hid (show dAll k (pidx ps) ce pn = 7 from by
            have h2 : dStep (pidx ps) ce i = 7 := by unfold dStep; rw [if_pos HC0.out, HX.out, if_pos hoc]
            rw [dAll_stop HCL.out (by rw [h2]; decide) hlt, h2])
          have HOC := hid hoc
          clear hoc
          go_wp2_with (at_lookup; refine wpList_lookup_own_boolS _ rfl (.tmp 22) (.tmp 24) 94 rfl 3 4 keyed_intS Tryd.underlying94 Tryd.underlying4 (zeroBS _) (w.heap.size + 1) i _ rfl HMAP3.out _ _ rfl HKEY.out ?_; intro cc hat; obtain rfl : cc = true := by (rw [seenD_at, HOC.out] at hat; simpa using hat.symm))
          go_ret
          exact ⟨ret_int HST.out.symm, HB3.out⟩
        · have hoc : occ (pidx ps) i x = false := by simpa using hoc
          have HOC := hid hoc
          have HNX := hid (show dTo (pidx ps) ce (i + 1) = 0 from dTo_next HCL.out (by unfold dStep; rw [if_pos HC0.out, HX.out, if_neg (by rw [hoc]; decide)]))
          clear hoc
          go_wp2_with (first
            | (at_lookup; refine wpList_lookup_own_boolS _ rfl (.tmp 22) (.tmp 24) 94 rfl 3 4 keyed_intS Tryd.underlying94 Tryd.underlying4 (zeroBS _) (w.heap.size + 1) i _ rfl HMAP3.out _ _ rfl HKEY.out ?_; intro cc hat; obtain rfl : cc = false := by (rw [seenD_at, HOC.out] at hat; simpa using hat.symm))
            | (at_mapUpdate; refine wpList_mapUpdate_own _ rfl (.tmp 26) (.tmp 28) _ 94 rfl 3 4 keyed_intS Tryd.underlying94 _ (w.heap.size + 1) i _ rfl HMAP3.out (by unfold maxLen; omega) _ _ _ rfl rfl HKEY.out _ [] (plainElem_bool Tryd.underlying4 true) ?_; intro w4 hown4 hgrow4; have HI4 := hid (show CkpI (pidx ps) ce w0 w4 (w.heap.size + 1) (i + 1) from ⟨by rw [← HX.out] at hown4; exact hown4, HK3.out.trans ⟨hgrow4.os, hgrow4.tape, hgrow4.output, hgrow4.size, fun q hq hne => hgrow4.block q hq (by intro e; exact hne (Option.some.inj e))⟩, HNX.out⟩); clear hown4 hgrow4))
          exact ⟨⟨i + 1, by omega, by go_num, HI4⟩, by simp [intOf]; omega⟩
      · have HST := hid (show dAll k (pidx ps) ce pn = ce i from by
          have h2 : dStep (pidx ps) ce i = ce i := by unfold dStep; rw [if_neg hc0]
          rw [dAll_stop HCL.out (by rw [h2]; exact hc0) hlt, h2])
        have b1 : (ce i != 0) = true := by simpa using hc0
        clear hc0
        generalize ce i = E at HST b1 HCK
        go_wp2_with (refine wpList_load_mid (by rfl) 27 (.tmp 2) (by rfl) w.heap.size 0 (by rfl) (mcells k n t s od (.slice a m c)) _ HRA.out Tryd.underlying27 rfl HIF.out ?_)
        refine HCK.out.mono ?_
        rintro e w3 ⟨rfl, hb3⟩
        have HB3 := hid (HBq.out.trans (hb3.mono HBq.out.size))
        clear hb3
        go_wp2
        go_ret
        exact ⟨ret_int HST.out.symm, HB3.out⟩
    · obtain rfl : i = pn := by omega
      have HMr := (HINV.out.kept.block _ (lt_of_heap HM.out) (by omega)).trans HM.out
      have c0 : wr.cell? ⟨w.heap.size, 0, none⟩ = some (.int .i64 k) := (show ManAt wr w.heap.size k n t s od (.slice a m c) from HMr).c HO.out |>.1
      clear HMr
      by_cases hk : (i : Int) < k
      · have HST := hid (show dAll k (pidx ps) ce i = 12 from by unfold dAll; rw [if_pos HINV.out.clean, if_pos hk])
        go_wp2
        go_ret
        exact ⟨ret_int HST.out.symm, HBr.out⟩
      · have HST := hid (show dAll k (pidx ps) ce i = 0 from by unfold dAll; rw [if_pos HINV.out.clean, if_neg hk])
        go_wp2
        go_ret
        exact ⟨ret_int HST.out.symm, HBr.out⟩
end Go.Proofs.YtehjikogdaclgaaDoor

namespace Go.Proofs.YtehjikogdaclgaaDoor
open Go Go.RowKit
set_option linter.unusedVariables false

theorem chkTo_all {t : Int} {idx ce : Nat → Int} : ∀ {n : Nat}, chkTo t idx ce n = 0 → ∀ i, i < n → stepE t idx ce i = 0
  | 0, _, i, hi => absurd hi (Nat.not_lt_zero i)
  | n + 1, h, i, hi => by
    unfold chkTo at h
    by_cases h0 : chkTo t idx ce n = 0
    · rw [if_pos h0] at h
      by_cases e : i = n
      · rw [e]; exact h
      · exact chkTo_all h0 i (by omega)
    · rw [if_neg h0] at h
      exact absurd h h0
/-- what a checked list gives -/
structure Fit (k t : Int) (idx ce : Nat → Int) (n : Nat) : Prop where
  few : k ≤ n
  lo : ∀ i, i < n → 0 ≤ idx i
  hi : ∀ i, i < n → idx i < t
  ne : ∀ j i, j < i → i < n → idx j ≠ idx i
  ok : ∀ i, i < n → ce i = 0
theorem fit_of {k t : Int} {idx ce : Nat → Int} {n : Nat} (h : chkAll k t idx ce n = 0) : Fit k t idx ce n := by
  unfold chkAll at h
  by_cases h0 : chkTo t idx ce n = 0
  · rw [if_pos h0] at h
    have hk : k ≤ n := by
      by_cases e : (n : Int) < k
      · rw [if_pos e] at h; omega
      · omega
    have hs : ∀ i, i < n → ¬ (idx i < 0 ∨ t ≤ idx i) ∧ occ idx i (idx i) ≠ true ∧ ce i = 0 := fun i hi => by
      have h2 := chkTo_all h0 i hi
      unfold stepE at h2
      by_cases e1 : idx i < 0 ∨ t ≤ idx i
      · rw [if_pos e1] at h2; omega
      · rw [if_neg e1] at h2
        by_cases e2 : occ idx i (idx i) = true
        · rw [if_pos e2] at h2; omega
        · rw [if_neg e2] at h2
          exact ⟨e1, e2, h2⟩
    exact ⟨hk, fun i hi => by have := (hs i hi).1; omega, fun i hi => by have := (hs i hi).1; omega, fun j i hj hi e => (hs i hi).2.1 ((occ_iff _ _ _).2 ⟨j, hj, e⟩), fun i hi => (hs i hi).2.2⟩
  · rw [if_neg h0] at h
    exact absurd h h0
/-- the numbers of the first k pieces -/
def places (ps : List (Int × Sl)) (k : Nat) : List Nat := (List.range k).map fun i => (pidx ps i).toNat
theorem places_length (ps : List (Int × Sl)) (k : Nat) : (places ps k).length = k := by simp [places]
theorem places_getD (ps : List (Int × Sl)) (k i : Nat) (h : i < k) : (places ps k).getD i 0 = (pidx ps i).toNat := by
  unfold places
  rw [List.getD_eq_getElem?_getD, List.getElem?_map, List.getElem?_range h]; rfl
theorem places_lt {ps : List (Int × Sl)} {k n : Nat} {t : Int} {ce : Nat → Int} (h : Fit k t (pidx ps) ce n) (ht : t ≤ 255) : ∀ x ∈ places ps k, x < 256 := fun x hx => by
  obtain ⟨i, hi, rfl⟩ := List.mem_map.1 hx
  have hi := List.mem_range.1 hi
  have h1 := h.few
  have h2 := h.hi i (by omega)
  omega
theorem places_nodup {ps : List (Int × Sl)} {k n : Nat} {t : Int} {ce : Nat → Int} (h : Fit k t (pidx ps) ce n) : (places ps k).Nodup := by
  have h1 := h.few
  unfold places
  rw [List.nodup_iff_pairwise_ne, List.pairwise_map]
  refine (List.pairwise_lt_range (n := k)).imp_of_mem fun {a b} ha hb hab e => ?_
  have hb := List.mem_range.1 hb
  have ha := List.mem_range.1 ha
  have h2 := h.lo a (by omega)
  have h3 := h.lo b (by omega)
  exact h.ne a b hab (by omega) (by omega)
theorem Ps.take {w : World} {a : Option Addr} {n c k : Nat} {ps : List (Int × Sl)} (h : Ps w (.slice a n c) ps) (hk : k ≤ n) : Ps w (.slice a k c) (ps.take k) := by
  obtain ⟨a', c', h1, h3⟩ := h
  simp only [Value.slice.injEq] at h1
  obtain ⟨rfl, rfl, rfl⟩ := h1
  refine ⟨a, c, by rw [List.length_take, Nat.min_eq_left hk], fun hne => ?_⟩
  have hk0 : k ≠ 0 := fun e => hne (by rw [e]; rfl)
  obtain ⟨b, o, ha, hc⟩ := h3 (by intro e; rw [e] at hk; simp at hk; omega)
  refine ⟨b, o, ha, fun i hi => ?_⟩
  have hi2 : i < ps.length := by rw [List.length_take] at hi; omega
  rw [List.getElem_take]
  exact hc i hi2
/-- the byte of the object at p -/
def joinF (D : List (List Nat)) (l : List Nat) (L k p : Nat) : Nat := (mixL D (wts l (scales l) (p / L)) L k).getD (p % L) 0
/-- the object -/
def joinL (D : List (List Nat)) (l : List Nat) (L k size : Nat) : List Nat := (List.range size).map (joinF D l L k)
theorem splice_upTo (n : Nat) (f : Nat → Nat) (q : Nat) (P : List Nat) (hq : q + P.length ≤ n) (hf : ∀ c, c < P.length → f (q + c) = P.getD c 0) : splice (u8s (upTo n f q)) q (u8s P) = u8s (upTo n f (q + P.length)) := by
  apply List.ext_getElem?
  intro c
  have hl1 : ((u8s (upTo n f q)).take q).length = q := by simp [u8s, upTo]; omega
  unfold splice
  by_cases h1 : c < q
  · rw [List.getElem?_append_left (by rw [hl1]; exact h1), List.getElem?_take_of_lt h1]
    unfold u8s upTo
    rw [List.getElem?_map, List.getElem?_map, List.getElem?_map, List.getElem?_map]
    by_cases h2 : c < n
    · rw [List.getElem?_range h2]
      simp only [Option.map_some]
      rw [if_pos h1, if_pos (by omega)]
    · omega
  · rw [List.getElem?_append_right (by rw [hl1]; omega), hl1]
    by_cases h2 : c < q + P.length
    · have h3 : c - q < P.length := by omega
      rw [List.getElem?_append_left (by simp [u8s]; omega)]
      unfold u8s upTo
      rw [List.getElem?_map, List.getElem?_map, List.getElem?_map, List.getElem?_range (by omega), List.getElem?_eq_getElem h3]
      simp only [Option.map_some]
      have h4 := hf (c - q) h3
      rw [show q + (c - q) = c from by omega, List.getD_eq_getElem?_getD, List.getElem?_eq_getElem h3] at h4
      rw [if_pos h2, h4]
      rfl
    · rw [List.getElem?_append_right (by simp [u8s]; omega), List.getElem?_drop]
      have e : q + (u8s P).length + (c - q - (u8s P).length) = c := by simp [u8s]; omega
      rw [e]
      unfold u8s upTo
      rw [List.getElem?_map, List.getElem?_map, List.getElem?_map, List.getElem?_map]
      by_cases h4 : c < n
      · rw [List.getElem?_range h4]
        simp only [Option.map_some]
        rw [if_neg h1, if_neg h2]
      · rw [List.getElem?_eq_none (by simp; omega)]
        rfl
theorem u8s_oneC (l : List Nat) : ∀ v ∈ u8s l, v.oneCell' = true := by
  intro v hv
  unfold u8s at hv
  obtain ⟨x, _, rfl⟩ := List.mem_map.1 hv
  rfl
theorem joinF_at (D : List (List Nat)) (l : List Nat) (L k i c : Nat) (hc : c < L) : joinF D l L k (i * L + c) = (mixL D (wts l (scales l) i) L k).getD c 0 := by
  unfold joinF
  have h1 : (i * L + c) / L = i := by
    rw [Nat.mul_comm, Nat.mul_add_div (by omega), Nat.div_eq_of_lt hc, Nat.add_zero]
  have h2 : (i * L + c) % L = c := by
    rw [Nat.mul_comm, Nat.mul_add_mod, Nat.mod_eq_of_lt hc]
  rw [h1, h2]
end Go.Proofs.YtehjikogdaclgaaDoor
