/-
  PieceDigest of any index. · Two digests are compared. · CheckPiece of digest and of the reference.
-/
import Derived.Test.YtafkjfpmjhfofaaDoorS2
import Derived.Test.YtafkjfpmjhfofaaDoorBuf
import Derived.ChangeKeysEq
import Derived.Test.YtafkjfpmjhfofaaDoorRva
import Derived.Test.YtafkjfpmjhfofaaDoorRsha
import Derived.Test.YtafkjfpmjhfofaaDoorOwMn
import Derived.Test.YtafkjfpmjhfofaaDoorSizeR
import Derived.BigQuiet
namespace Go.Proofs.YtafkjfpmjhfofaaDoor
open Go Go.RowKit
set_option linter.unusedVariables false

set_option maxRecDepth 100000 in
set_option maxHeartbeats 1000000 in
theorem PieceDigest_all (i : Int) (a : Option Addr) (n c : Nat) (KC SH l : List Nat) (w : World) (V : Vars w KC SH) (hl : Bs w (.slice a n c) l) (hc : n ≤ c) (hsz : n ≤ 800000000) :
    Calls Tryd.prog 18 #[.int .i64 i, .slice a n c] w fun e w' => e = .returned (.agg (u8s (dig KC SH ([(i % 65536).toNat / 256, (i % 65536).toNat % 256] ++ l))).toArray) ∧ Below w.heap.size w w' := by
  obtain ⟨x, hxi⟩ : ∃ x : Nat, x = (i % 65536).toNat := ⟨_, rfl⟩
  have hx : x < 65536 := by omega
  rw [← hxi]
  have HV := hid V
  have HL := hid hl
  have hn := hl.len
  have HN := hid hn
  obtain ⟨w1, hw1⟩ : ∃ w1, w1 = w.alloc (.cells (u8s (List.replicate 32 0)).toArray 24) := ⟨_, rfl⟩
  have hb1 : Below w.heap.size w w1 := by rw [hw1]; exact (Below.refl _ _).alloc (Nat.le_refl _) _
  have HR1 := hid (show OwnD w1 w.heap.size (List.replicate 32 0) from by rw [hw1]; exact heap_new _ _)
  have hs1 : w1.heap.size = w.heap.size + 1 := by rw [hw1]; simp
  have HB1 := hid hb1
  have HV1 := hid (V.below hb1)
  have hvlt := V.lt
  clear V hl hb1 hn
  go_enter Tryd.func18, Tryd.ntmps18
  go_wp2_with fail
  change Calls _ _ _ (w.alloc (.cells (u8s (List.replicate 32 0)).toArray 24)) _
  rw [← hw1]
  clear hw1
  refine (NewHash_any KC SH w1 HV1.out).mono ?_
  rintro e w2 ⟨rfl, hM2, hb2⟩
  have HM2 := hid hM2
  have HR2 := hid ((hb2.block w.heap.size (by omega)).trans HR1.out)
  have HB2 := hid (HB1.out.trans (hb2.mono HB1.out.size))
  have HV2 := hid (HV1.out.below hb2)
  obtain ⟨hb, hhb⟩ : ∃ hb, hb = w1.heap.size := ⟨_, rfl⟩
  rw [← hhb] at HM2 ⊢
  have HHB := hid hhb
  have h4 : hb = w.heap.size + 1 := by omega
  have HS1 := hid hs1
  clear hM2 hb2 hhb hs1
  have hbl := HL.out.below HB2.out
  have hoff : 0 < n → Off hb (.slice a n c) := fun h0 => by
    rcases HL.out.addr with ⟨h1, _⟩ | ⟨h1, b, o, c', hv⟩
    · have := HN.out; rw [h1] at this; simp at this; omega
    · simp only [Value.slice.injEq] at hv
      obtain ⟨rfl, _, _⟩ := hv
      have h1 := HL.out.cell 0 (by rw [← HN.out]; exact h0)
      have h2 := World.block_lt_of_cell? _ _ h1
      show b ≠ hb
      simp only at h2
      omega
  have HBL := hid hbl
  have HOF := hid hoff
  clear hbl hoff
  have q3 : 3 ≤ hb := by omega
  have qh : w.heap.size ≤ hb := by omega
  have qn : w.heap.size ≠ hb := by omega
  have H4 := hid h4
  clear h4
  have u1 : IntKind.u16.wrap i = (x : Int) := by rw [IntKind.wrap_u16]; omega
  clear hxi
  have u2 : IntKind.u8.wrap ((x : Int) / 256) = ((x / 256 : Nat) : Int) := by rw [IntKind.wrap_u8]; omega
  have u3 : IntKind.u8.wrap (x : Int) = ((x % 256 : Nat) : Int) := by rw [IntKind.wrap_u8]; omega
  have p1 : x / 256 < 256 := by omega
  have p2 : x % 256 < 256 := by omega
  obtain ⟨xh, hxh⟩ : ∃ y, y = x / 256 := ⟨_, rfl⟩
  obtain ⟨xl, hxl⟩ : ∃ y, y = x % 256 := ⟨_, rfl⟩
  rw [← hxh] at u2 p1
  rw [← hxl] at u3 p2
  have HXH := hid (fun (_ : Unit) => hxh)
  have HXL := hid (fun (_ : Unit) => hxl)
  clear hxh hxl
  have hq2 : ∀ z ∈ [xh, xl], z < 256 := fun z hz => by
    simp only [List.mem_cons, List.not_mem_nil, or_false] at hz
    rcases hz with rfl | rfl
    · exact p1
    · exact p2
  have hhb2 : hb < w2.heap.size := by obtain ⟨_, _, H, _⟩ := HM2.out; exact H.lt
  obtain ⟨w5, hw5⟩ : ∃ w5, w5 = w2.alloc (.cells (u8s [xh, xl]).toArray 5) := ⟨_, rfl⟩
  have hb5 : Below w2.heap.size w2 w5 := by rw [hw5]; exact (Below.refl _ _).alloc (Nat.le_refl _) _
  have M5 := HM2.out.same (hb5.block hb hhb2)
  have V5 := HV2.out.below hb5
  have HR5 := hid ((hb5.block w.heap.size (lt_of_heap HR2.out)).trans HR2.out)
  have BS5 : Bs w5 (.slice (some ⟨w2.heap.size, 0, none⟩) 2 2) [xh, xl] := by rw [hw5]; exact Own.bs (l := [xh, xl]) (heap_new _ _) hq2 2
  have HQ := hid (Write_gen hb 2 2 (some ⟨w2.heap.size, 0, none⟩) KC SH [] [xh, xl] w5 M5 V5 q3 BS5 (Nat.le_refl _) (fun _ => by show w2.heap.size ≠ hb; omega) (by simp))
  have HBL5 := hid (HBL.out.below hb5)
  have HB5 := hid (HB2.out.trans (hb5.mono HB2.out.size))
  have HV5 := hid V5
  have HW5 := hid (fun (_ : Unit) => hw5)
  clear M5 V5 BS5 hb5 hhb2
  go_wp2_with fail
  change Calls _ _ _ (w2.alloc (.cells (u8s [xh, xl]).toArray 5)) _
  rw [← HW5.out ()]
  refine HQ.out.mono ?_
  clear HQ
  rintro e w6 ⟨rfl, hM6, hk6⟩
  rw [List.nil_append] at hM6
  have HM6 := hid hM6
  have HR6 := hid ((hk6.block w.heap.size (lt_of_heap HR5.out) qn).trans HR5.out)
  have HV6 := hid (HV5.out.kept hk6 q3)
  have HB6 := hid (HB5.out.trans (hk6.below HB5.out.size qh))
  have HBL6 := hid (show Bs w6 (.slice a n c) l from by
    by_cases h0 : 0 < n
    · exact HBL5.out.kept hk6 (HOF.out h0)
    · have hl0 : l = [] := List.length_eq_zero_iff.1 (by have := HN.out; omega)
      have hn0 : n = 0 := by omega
      rw [hl0, hn0]
      exact bs_nilH _ _ _)
  have HQ := hid (Write_gen hb n c a KC SH [xh, xl] l w6 HM6.out HV6.out q3 HBL6.out hc HOF.out (by simp; omega))
  clear hM6 hk6
  go_wp2_with fail
  refine HQ.out.mono ?_
  clear HQ
  rintro e w3 ⟨rfl, hM3, hk3⟩
  have HM3 := hid hM3
  have HR3 := hid ((hk3.block w.heap.size (lt_of_heap HR6.out) qn).trans HR6.out)
  have HV3 := hid (HV6.out.kept hk3 q3)
  have HB3 := hid (HB6.out.trans (hk3.below HB6.out.size qh))
  clear hM3 hk3
  go_wp2_with fail
  refine (Sum_any hb KC SH ([xh, xl] ++ l) w3 HM3.out HV3.out q3 (by have := HN.out; simp; omega)).mono ?_
  rintro e w4 ⟨rfl, hb4⟩
  have HR4 := hid ((hb4.block w.heap.size (lt_of_heap HR3.out)).trans HR3.out)
  have hbe := HB3.out.trans (hb4.mono HB3.out.size)
  have hl32 := dig_length KC SH ([xh, xl] ++ l)
  generalize hD : dig KC SH ([xh, xl] ++ l) = D at *
  have HD := hid (fun (_ : Unit) => hD)
  have hl32' : (u8s D).length = 32 := by simp [u8s, hl32]
  have HIF2 := hid (show (Tryd.prog.info? 24).map (·.size) = some (u8s D).toArray.size from by rw [List.size_toArray, hl32']; kernel_rfl)
  have HOLD := hid (show (u8s (List.replicate 32 0)).toArray.size = (u8s D).toArray.size from by rw [List.size_toArray, List.size_toArray, hl32']; rfl)
  have HONE := hid (show (u8s D).toArray.all (·.oneCell') = true from all_oneCell_toArray (u8s_oneH _))
  clear hD hb4 hl32 hl32'
  go_wp2_with (refine wpList_store_row (by rfl) 24 (.tmp 4) (.tmp 22) (by rfl) w.heap.size _ (u8s D).toArray _ (by rfl) (by rfl) HR4.out HIF2.out HOLD.out HONE.out ?_
               intro w8 hw8 hk8)
  have hres : (loadVar 24 ⟨w.heap.size, 0, none⟩).run Tryd.prog w8 = .ok (.agg (u8s D).toArray) w8 := run_loadVar_row _ _ 24 24 _ (0, 0) _ hw8 Tryd.underlying24 rfl HIF2.out
  refine bodyPost_ret (v := .agg (u8s D).toArray) (results_at Tryd.results18 rfl hres) rfl ⟨by rw [← HXH.out (), ← HXL.out ()]; exact congrArg (fun z => Ending.returned (.agg (u8s z).toArray)) (HD.out ()).symm, ?_⟩
  exact hbe.trans (hk8.below hbe.size (Nat.le_refl _))
end Go.Proofs.YtafkjfpmjhfofaaDoor

namespace Go.Proofs.YtafkjfpmjhfofaaDoor
open Go Go.RowKit
set_option linter.unusedVariables false

theorem eqItems_any (d : Nat) (l r : List Nat) (w : World) : ∀ is : List Nat, (∀ i ∈ is, i < l.length ∧ i < r.length) → (Op.eqItems (d + 1) 5 1 (u8s l).toArray (u8s r).toArray is).run Tryd.prog w = .ok (is.all fun i => l.getD i 0 == r.getD i 0) w
  | [], _ => by simp [Op.eqItems]
  | i :: is, h => by
    obtain ⟨hi, hj⟩ := h i (by simp)
    have hg : (u8s l).toArray[i * 1]? = some (.int .u8 ((l.getD i 0 : Nat) : Int)) := by
      simp [u8s, hi]
    have hg' : (u8s r).toArray[i * 1]? = some (.int .u8 ((r.getD i 0 : Nat) : Int)) := by
      simp [u8s, hj]
    have hp := run_part_plain (P := Tryd.prog) w (e := 5) (by kernel_rfl) hg
    have hp' := run_part_plain (P := Tryd.prog) w (e := 5) (by kernel_rfl) hg'
    have he := run_equalIn_int (P := Tryd.prog) w d 5 .u8 .u8 ((l.getD i 0 : Nat) : Int) ((r.getD i 0 : Nat) : Int) Tryd.underlying5
    have ih := eqItems_any d l r w is (fun j hj => h j (by simp [hj]))
    by_cases hlr : l.getD i 0 = r.getD i 0
    · have e1 : ((((l.getD i 0 : Nat) : Int)) == ((r.getD i 0 : Nat) : Int)) = true := by rw [hlr]; simp
      have e2 : (l.getD i 0 == r.getD i 0) = true := by rw [hlr]; simp
      rw [List.all_cons, e2, Bool.true_and]
      simp only [Op.eqItems, Sem.run_bind, hp, hp', he, e1, Result.andThen_ok, Bool.not_true, Bool.false_eq_true, if_false, ih]
    · have e1 : ((((l.getD i 0 : Nat) : Int)) == ((r.getD i 0 : Nat) : Int)) = false := by rw [beq_eq_false_iff_ne]; omega
      have e2 : (l.getD i 0 == r.getD i 0) = false := by rw [beq_eq_false_iff_ne]; exact hlr
      rw [List.all_cons, e2, Bool.false_and]
      simp only [Op.eqItems, Sem.run_bind, hp, hp', he, e1, Result.andThen_ok, Bool.not_false, if_true, Sem.run_pure]
theorem all_range_eq (l r : List Nat) (h : l.length = 32) (h' : r.length = 32) : ((List.range 32).all fun i => l.getD i 0 == r.getD i 0) = decide (l = r) := by
  by_cases hlr : l = r
  · subst hlr
    simp
  · rw [decide_eq_false hlr]
    cases hb : ((List.range 32).all fun i => l.getD i 0 == r.getD i 0) with
    | false => rfl
    | true =>
      refine absurd ?_ hlr
      refine List.ext_getElem (h.trans h'.symm) fun i h1 h2 => ?_
      have h3 := List.all_eq_true.1 hb i (List.mem_range.2 (by omega))
      have h4 := eq_of_beq h3
      rw [List.getD_eq_getElem?_getD, List.getD_eq_getElem?_getD, List.getElem?_eq_getElem h1, List.getElem?_eq_getElem h2] at h4
      exact h4
theorem eql_any (l r : List Nat) (h : l.length = 32) (h' : r.length = 32) (w : World) : (Op.equalIn 10000 24 (.agg (u8s l).toArray) (.agg (u8s r).toArray)).run Tryd.prog w = .ok (decide (l = r)) w := by
  have hi0 : (Tryd.prog.info? 5).map (·.size) = some 1 := by kernel_rfl
  obtain ⟨i, hi, _⟩ := Option.map_eq_some_iff.1 hi0
  have hc : Tryd.prog.cellsOf 5 = 1 := by kernel_rfl
  rw [show (10000 : Nat) = 9999 + 1 from rfl, run_equalIn_array w 9999 _ _ Tryd.underlying24 hi, hc]
  rw [← all_range_eq l r h h']
  exact eqItems_any 9998 l r w (List.range 32) fun j hj => by
    have h9 : j < 32 := List.mem_range.1 hj
    omega
end Go.Proofs.YtafkjfpmjhfofaaDoor

namespace Go.Proofs.YtafkjfpmjhfofaaDoor
open Go Go.RowKit
set_option linter.unusedVariables false

/-- what CheckPiece answers -/
def cpE (k n t s : Int) (m : Nat) (D : List (List Nat)) (x : Int) (pl : List Nat) : Int :=
  if manB k n t s m = true then
    (if x < 0 ∨ t ≤ x then 2 else if pl.length ≠ plen k.toNat s.toNat then 10 else if dig shaRound shaStart ([hi8 x, lo8 x] ++ pl) ≠ D.getD x.toNat [] then 20 else 0)
  else 2
theorem pdg_all (i : Int) (a : Option Addr) (n c : Nat) (l : List Nat) (w : World) (V : Vars w shaRound shaStart) (hl : Bs w (.slice a n c) l) (hc : n ≤ c) (hn : a = none → c = 0) (hsz : n ≤ 800000000) :
    Calls Tryd.prog 18 #[.int .i64 i, .slice a n c] w fun e w' => e = .returned (.agg (u8s (dig shaRound shaStart ([hi8 i, lo8 i] ++ l))).toArray) ∧ Below w.heap.size w w' := by
  have e1 : hi8 i = (i % 65536).toNat / 256 := by unfold hi8; omega
  have e2 : lo8 i = (i % 65536).toNat % 256 := by unfold lo8; omega
  rw [e1, e2]
  exact PieceDigest_all i a n c shaRound shaStart l w V hl hc hsz
theorem refd_all (i : Int) (a : Option Addr) (n c : Nat) (l : List Nat) (w : World) (V : Rnds w) (hl : Bs w (.slice a n c) l) (hc : n ≤ c) (hn : a = none → c = 0) (hsz : n ≤ 800000000) :
    Calls Tryd.prog 19 #[.int .i64 i, .slice a n c] w fun e w' => e = .returned (.agg (u8s (dig shaRound shaStart ([hi8 i, lo8 i] ++ l))).toArray) ∧ Below w.heap.size w w' :=
  ofp_any i l a n c w V hl hn hsz

set_option maxRecDepth 100000 in
set_option maxHeartbeats 4000000 in
theorem chp_any (w : World) (V : Vars w shaRound shaStart) (k n t s : Int) (od : List Nat) (a : Option Addr) (m c : Nat) (D : List (List Nat)) (ho : od.length = 32) (hD : Dgs w a m c D) (x : Int) (pa : Option Addr) (pn pc : Nat) (pl : List Nat) (hp : Bs w (.slice pa pn pc) pl) (hpc : pn ≤ pc) (hpn : pa = none → pc = 0) (hsz : pn ≤ 800000000) :
    Calls Tryd.prog 20 #[.agg (mcells k n t s od (.slice a m c)).toArray, .agg #[.int .i64 x, .slice pa pn pc]] w fun e w' => e = .returned (.int .i64 (cpE k n t s m D x pl)) ∧ Below w.heap.size w w' := by
  obtain ⟨w2, hw2⟩ : ∃ y, y = (w.alloc (.cells (mcells k n t s od (.slice a m c)).toArray 27)).alloc (.cells #[.int .i64 x, .slice pa pn pc] 43) := ⟨_, rfl⟩
  have hs1 : (w.alloc (.cells (mcells k n t s od (.slice a m c)).toArray 27)).heap.size = w.heap.size + 1 := by simp
  have hb2 : Below w.heap.size w w2 := by rw [hw2]; exact ((Below.refl _ _).alloc (Nat.le_refl _) _).alloc (by simp) _
  have hM : ManAt w2 w.heap.size k n t s od (.slice a m c) := by
    rw [hw2]
    exact (heap_alloc_old _ _ (by simp)).trans (heap_new _ _)
  have hQ : w2.heap[w.heap.size + 1]? = some (.cells #[.int .i64 x, .slice pa pn pc] 43 (0, 0)) := by rw [hw2, ← hs1]; exact heap_new _ _
  have HB := hid hb2
  have HRA := hid (range_of_heapI hM)
  have HIF := hid (show (Tryd.prog.info? 27).map (·.size) = some (mcells k n t s od (.slice a m c)).length from by rw [mcells_length _ _ _ _ _ _ ho]; kernel_rfl)
  have HE := hid (fun wx => CheckManifest_any k n t s od a m c ho wx)
  have HC := hid (fun (wx : World) (b : Below w2.heap.size w2 wx) => (show wx.cell? ⟨w.heap.size, 0, none⟩ = some (.int .i64 k) ∧ wx.cell? ⟨w.heap.size, 2, none⟩ = some (.int .i64 t) ∧ wx.cell? ⟨w.heap.size, 3, none⟩ = some (.int .i64 s) ∧ wx.cell? ⟨w.heap.size, 36, none⟩ = some (.slice a m c) ∧ wx.cell? ⟨w.heap.size + 1, 0, none⟩ = some (.int .i64 x) ∧ wx.cell? ⟨w.heap.size + 1, 1, none⟩ = some (.slice pa pn pc) from by
    have h0 : ManAt wx w.heap.size k n t s od (.slice a m c) := (b.block _ (lt_of_heap hM)).trans hM
    have h1 := h0.c ho
    have h2 := (b.block _ (lt_of_heap hQ)).trans hQ
    exact ⟨h1.1, h1.2.2.1, h1.2.2.2.1, h1.2.2.2.2, by rw [cell_of_heap h2]; rfl, by rw [cell_of_heap h2]; rfl⟩))
  have HDD := hid hD
  have HPP := hid hp
  have HVV := hid V
  clear hs1 hb2 hM hQ ho hD hp V
  cases hv : manB k n t s m with
  | false =>
    as_aux_lemma =>
      have HR := hid (show cpE k n t s m D x pl = 2 from by unfold cpE; rw [hv]; rfl)
      have hme : manE k n t s m = 2 := by unfold manE; rw [hv]; rfl
      rw [hme] at HE
      clear hv hme
      go_enter Tryd.func20, Tryd.ntmps20
      go_upto_region 1 with fail
      change Code.wp _ _ _ _ ((w.alloc (.cells (mcells k n t s od (.slice a m c)).toArray 27)).alloc (.cells #[.int .i64 x, .slice pa pn pc] 43))
      rw [← hw2]
      clear hw2
      go_wp2_with (refine wpList_load_mid (by rfl) 27 (.tmp 2) (by rfl) w.heap.size 0 (by rfl) (mcells k n t s od (.slice a m c)) _ HRA.out Tryd.underlying27 rfl HIF.out ?_)
      refine (HE.out w2).mono ?_
      rintro e w3 ⟨rfl, hb3⟩
      obtain ⟨c0, c2, c3, c36, p0, p1⟩ := HC.out w3 hb3
      have HB3 := hid (HB.out.trans (hb3.mono HB.out.size))
      go_wp2
      go_ret
      exact ⟨by rw [HR.out]; all_goals rfl, HB3.out⟩
  | true =>
    have hnum : 1 ≤ k ∧ k ≤ n ∧ n ≤ t ∧ t ≤ 255 ∧ 0 ≤ s ∧ s ≤ 8192 ∧ (m : Int) = t := by
      have hok := hv
      unfold manB vnB vcB at hok
      simp only [Bool.and_eq_true, decide_eq_true_eq] at hok
      omega
    have hme : manE k n t s m = 0 := by unfold manE; rw [hv]; rfl
    rw [hme] at HE
    have HU := hid (show cpE k n t s m D x pl = (if x < 0 ∨ t ≤ x then 2 else if pl.length ≠ plen k.toNat s.toNat then 10 else if dig shaRound shaStart ([hi8 x, lo8 x] ++ pl) ≠ D.getD x.toNat [] then 20 else 0) from by unfold cpE; rw [if_pos hv])
    clear hme hv
    by_cases hx0 : x < 0
    · as_aux_lemma =>
      have HR := hid (show cpE k n t s m D x pl = 2 from by rw [HU.out, if_pos (.inl hx0)])
      clear hnum
      go_enter Tryd.func20, Tryd.ntmps20
      go_upto_region 1 with fail
      change Code.wp _ _ _ _ ((w.alloc (.cells (mcells k n t s od (.slice a m c)).toArray 27)).alloc (.cells #[.int .i64 x, .slice pa pn pc] 43))
      rw [← hw2]
      clear hw2
      go_wp2_with (refine wpList_load_mid (by rfl) 27 (.tmp 2) (by rfl) w.heap.size 0 (by rfl) (mcells k n t s od (.slice a m c)) _ HRA.out Tryd.underlying27 rfl HIF.out ?_)
      refine (HE.out w2).mono ?_
      rintro e w3 ⟨rfl, hb3⟩
      obtain ⟨c0, c2, c3, c36, p0, p1⟩ := HC.out w3 hb3
      have HB3 := hid (HB.out.trans (hb3.mono HB.out.size))
      go_wp2
      go_ret
      exact ⟨by rw [HR.out]; all_goals rfl, HB3.out⟩
    by_cases hxt : t ≤ x
    · as_aux_lemma =>
      have HR := hid (show cpE k n t s m D x pl = 2 from by rw [HU.out, if_pos (.inr hxt)])
      clear hnum
      go_enter Tryd.func20, Tryd.ntmps20
      go_upto_region 1 with fail
      change Code.wp _ _ _ _ ((w.alloc (.cells (mcells k n t s od (.slice a m c)).toArray 27)).alloc (.cells #[.int .i64 x, .slice pa pn pc] 43))
      rw [← hw2]
      clear hw2
      go_wp2_with (refine wpList_load_mid (by rfl) 27 (.tmp 2) (by rfl) w.heap.size 0 (by rfl) (mcells k n t s od (.slice a m c)) _ HRA.out Tryd.underlying27 rfl HIF.out ?_)
      refine (HE.out w2).mono ?_
      rintro e w3 ⟨rfl, hb3⟩
      obtain ⟨c0, c2, c3, c36, p0, p1⟩ := HC.out w3 hb3
      have HB3 := hid (HB.out.trans (hb3.mono HB.out.size))
      go_wp2
      go_ret
      exact ⟨by rw [HR.out]; all_goals rfl, HB3.out⟩
    have hor : ¬ (x < 0 ∨ t ≤ x) := by omega
    have HSZ := hid (fun wx => size_ok k.toNat s.toNat (by omega) (by omega) (by omega) wx)
    rw [show ((k.toNat : Nat) : Int) = k from by omega, show ((s.toNat : Nat) : Int) = s from by omega] at HSZ
    have HPL := hid HPP.out.len
    by_cases hln : pl.length ≠ plen k.toNat s.toNat
    · as_aux_lemma =>
      have HR := hid (show cpE k n t s m D x pl = 10 from by rw [HU.out, if_neg hor, if_pos hln])
      have nq : ((pn : Int) != ((plen k.toNat s.toNat : Nat) : Int)) = true := by have := HPL.out; rw [bne_iff_ne]; omega
      clear hnum hor hln
      go_enter Tryd.func20, Tryd.ntmps20
      go_upto_region 1 with fail
      change Code.wp _ _ _ _ ((w.alloc (.cells (mcells k n t s od (.slice a m c)).toArray 27)).alloc (.cells #[.int .i64 x, .slice pa pn pc] 43))
      rw [← hw2]
      clear hw2
      go_wp2_with (refine wpList_load_mid (by rfl) 27 (.tmp 2) (by rfl) w.heap.size 0 (by rfl) (mcells k n t s od (.slice a m c)) _ HRA.out Tryd.underlying27 rfl HIF.out ?_)
      refine (HE.out w2).mono ?_
      rintro e w3 ⟨rfl, hb3⟩
      obtain ⟨c0, c2, c3, c36, p0, p1⟩ := HC.out w3 hb3
      have HB3 := hid (HB.out.trans (hb3.mono HB.out.size))
      clear hb3
      go_wp2_with fail
      refine (HSZ.out w3).mono ?_
      rintro e w4 ⟨rfl, rfl⟩
      go_wp2
      go_ret
      exact ⟨by rw [HR.out]; all_goals rfl, HB3.out⟩
    obtain ⟨i, hi⟩ : ∃ i : Nat, x = (i : Int) := ⟨x.toNat, by omega⟩
    have him : i < D.length := by have := HDD.out.len; omega
    obtain ⟨b, o', ha, hrg⟩ : ∃ b o', a = some ⟨b, o', none⟩ ∧ ∀ j, j < D.length → w.rangeAt b (o' + j * 32) (u8s (D.getD j [])) := by
      obtain ⟨a', c', h1, h2, h3⟩ := HDD.out.at_
      obtain ⟨b, o', e, h4⟩ := h3 (fun h => by rw [h] at him; simp at him)
      simp only [Value.slice.injEq] at h1
      exact ⟨b, o', h1.1.trans e, h4⟩
    have nq : ((pn : Int) != ((plen k.toNat s.toNat : Nat) : Int)) = false := by have := HPL.out; rw [bne_eq_false_iff_eq]; omega
    have hl32 : (D.getD i []).length = 32 := by
      rw [List.getD_eq_getElem?_getD, List.getElem?_eq_getElem him]
      exact HDD.out.l32 _ (List.getElem_mem _)
    have HRG := hid (hrg i him)
    obtain ⟨Y, hY⟩ : ∃ Y, Y = dig shaRound shaStart ([hi8 x, lo8 x] ++ pl) := ⟨_, rfl⟩
    have hY32 : Y.length = 32 := by rw [hY]; exact dig_length _ _ _
    obtain ⟨Z, hZ⟩ : ∃ Z, Z = D.getD i [] := ⟨_, rfl⟩
    rw [← hZ] at HRG hl32
    have HEQ := hid (fun wx => eql_any Y Z hY32 hl32 wx)
    have HIFZ := hid (show (Tryd.prog.info? 24).map (·.size) = some (u8s Z).length from by simp only [u8s, List.length_map, hl32]; kernel_rfl)
    have HFIN := hid (show cpE k n t s m D x pl = if Y ≠ Z then 20 else 0 from by rw [HU.out, if_neg hor, if_neg hln, ← hY, hZ, hi]; rfl)
    have HPD := hid (fun (wx : World) (b : Below w.heap.size w wx) => pdg_all x pa pn pc pl wx (HVV.out.below b) (HPP.out.below b) hpc hpn hsz)
    rw [← hY] at HPD
    have hmi : (i : Int) < (m : Int) := by have := HDD.out.len; omega
    have hxt2 : ¬ t ≤ (i : Int) := by omega
    have hx02 : ¬ (i : Int) < 0 := by omega
    subst hi
    subst ha
    clear hnum hor hln hxt hx0 HU hrg him hY hZ hY32 hl32
    have hfin : ∀ (q : Bool), q = decide (Y = Z) → (if Y ≠ Z then (20 : Int) else 0) = if q then 0 else 20 := by
      rintro q rfl
      by_cases h : Y = Z
      · rw [if_neg (by simpa using h), decide_eq_true h]; rfl
      · rw [if_pos h, decide_eq_false h]; rfl
    generalize hq : decide (Y = Z) = q at *
    have HFN := hid (HFIN.out.trans (hfin q rfl))
    clear hfin HFIN hq
    obtain ⟨x, hx⟩ : ∃ x : Int, x = (i : Int) := ⟨_, rfl⟩
    cases q
    all_goals as_aux_lemma =>
      rw [HFN.out]
      rw [hx] at *
      clear hx
      go_enter Tryd.func20, Tryd.ntmps20
      go_upto_region 1 with fail
      change Code.wp _ _ _ _ ((w.alloc (.cells (mcells k n t s od (.slice (some ⟨b, o', none⟩) m c)).toArray 27)).alloc (.cells #[.int .i64 (i : Int), .slice pa pn pc] 43))
      rw [← hw2]
      clear hw2
      go_wp2_with (refine wpList_load_mid (by rfl) 27 (.tmp 2) (by rfl) w.heap.size 0 (by rfl) (mcells k n t s od (.slice (some ⟨b, o', none⟩) m c)) _ HRA.out Tryd.underlying27 rfl HIF.out ?_)
      refine (HE.out w2).mono ?_
      rintro e w3 ⟨rfl, hb3⟩
      obtain ⟨c0, c2, c3, c36, p0, p1⟩ := HC.out w3 hb3
      have HB3 := hid (HB.out.trans (hb3.mono HB.out.size))
      clear hb3
      go_wp2_with fail
      refine (HSZ.out w3).mono ?_
      rintro e w4 ⟨rfl, rfl⟩

      have hne : Nonempty (Cls fun w' => Below w3.heap.size w3 w') := ⟨⟨w3, Below.refl _ _⟩⟩
      have q0 : ∀ p : Cls (fun w' => Below w3.heap.size w3 w'), p.w.cell? ⟨w.heap.size + 1, 0, none⟩ = some (.int .i64 (i : Int)) := fun p => (p.h.cell (World.block_lt_of_cell? _ _ p0)).trans p0
      have q1 : ∀ p : Cls (fun w' => Below w3.heap.size w3 w'), p.w.cell? ⟨w.heap.size + 1, 1, none⟩ = some (.slice pa pn pc) := fun p => (p.h.cell (World.block_lt_of_cell? _ _ p1)).trans p1
      have q2 : ∀ p : Cls (fun w' => Below w3.heap.size w3 w'), p.w.cell? ⟨w.heap.size, 36, none⟩ = some (.slice (some ⟨b, o', none⟩) m c) := fun p => (p.h.cell (World.block_lt_of_cell? _ _ c36)).trans c36
      have HPQ := hid (fun (p : Cls (fun w' => Below w3.heap.size w3 w')) => HPD.out p.w (HB3.out.trans (p.h.mono HB3.out.size)))
      have HRQ := hid (fun (p : Cls (fun w' => Below w3.heap.size w3 w')) => range_below HRG.out (HB3.out.trans (p.h.mono HB3.out.size)))
      have e1 := fun wx => HEQ.out wx
      have hi0 : (0 : Int) ≤ (i : Int) := by omega
      go_upto_region 9 with fail
      refine wp_region_class_lit (G := fun w' => Below w3.heap.size w3 w') (by kernel_rfl) (by kernel_rfl) (bel_drewN (Below.refl _ _) 1) ?_
      iterate 10 (go_big_quiet_step ((go_at_call 18; exact Calls.cls (HPQ.out _))))
      refine wpQuiet_load_cls (by rfl) 24 (.tmp 45) (by rfl) b (o' + i * 32) (by rfl) (u8s Z) _ HRQ.out Tryd.underlying24 rfl HIFZ.out ?_
      rintro _ rfl
      try simp only [Act.put, List.setIfInBounds_toArray, List.set_cons_zero, List.set_cons_succ]
      repeat (go_big_quiet_step ((go_at_call 18; exact Calls.cls (HPQ.out _))))
      refine wpQuiet_nil ?_
      rintro _ ⟨p, rfl⟩
      have HBF := hid (HB3.out.trans (p.h.mono HB3.out.size))
      go_wp2
      go_ret
      exact ⟨rfl, HBF.out⟩

set_option maxRecDepth 100000 in
set_option maxHeartbeats 4000000 in
theorem rchp_any (w : World) (V : Rnds w) (k n t s : Int) (od : List Nat) (a : Option Addr) (m c : Nat) (D : List (List Nat)) (ho : od.length = 32) (hD : Dgs w a m c D) (x : Int) (pa : Option Addr) (pn pc : Nat) (pl : List Nat) (hp : Bs w (.slice pa pn pc) pl) (hpc : pn ≤ pc) (hpn : pa = none → pc = 0) (hsz : pn ≤ 800000000) :
    Calls Tryd.prog 22 #[.agg (mcells k n t s od (.slice a m c)).toArray, .agg #[.int .i64 x, .slice pa pn pc]] w fun e w' => e = .returned (.int .i64 (cpE k n t s m D x pl)) ∧ Below w.heap.size w w' := by
  obtain ⟨w2, hw2⟩ : ∃ y, y = (w.alloc (.cells (mcells k n t s od (.slice a m c)).toArray 27)).alloc (.cells #[.int .i64 x, .slice pa pn pc] 43) := ⟨_, rfl⟩
  have hs1 : (w.alloc (.cells (mcells k n t s od (.slice a m c)).toArray 27)).heap.size = w.heap.size + 1 := by simp
  have hb2 : Below w.heap.size w w2 := by rw [hw2]; exact ((Below.refl _ _).alloc (Nat.le_refl _) _).alloc (by simp) _
  have hM : ManAt w2 w.heap.size k n t s od (.slice a m c) := by
    rw [hw2]
    exact (heap_alloc_old _ _ (by simp)).trans (heap_new _ _)
  have hQ : w2.heap[w.heap.size + 1]? = some (.cells #[.int .i64 x, .slice pa pn pc] 43 (0, 0)) := by rw [hw2, ← hs1]; exact heap_new _ _
  have HB := hid hb2
  have HRA := hid (range_of_heapI hM)
  have HIF := hid (show (Tryd.prog.info? 27).map (·.size) = some (mcells k n t s od (.slice a m c)).length from by rw [mcells_length _ _ _ _ _ _ ho]; kernel_rfl)
  have HE := hid (fun wx => valid_any k n t s od a m c ho wx)
  have HC := hid (fun (wx : World) (b : Below w2.heap.size w2 wx) => (show wx.cell? ⟨w.heap.size, 0, none⟩ = some (.int .i64 k) ∧ wx.cell? ⟨w.heap.size, 2, none⟩ = some (.int .i64 t) ∧ wx.cell? ⟨w.heap.size, 3, none⟩ = some (.int .i64 s) ∧ wx.cell? ⟨w.heap.size, 36, none⟩ = some (.slice a m c) ∧ wx.cell? ⟨w.heap.size + 1, 0, none⟩ = some (.int .i64 x) ∧ wx.cell? ⟨w.heap.size + 1, 1, none⟩ = some (.slice pa pn pc) from by
    have h0 : ManAt wx w.heap.size k n t s od (.slice a m c) := (b.block _ (lt_of_heap hM)).trans hM
    have h1 := h0.c ho
    have h2 := (b.block _ (lt_of_heap hQ)).trans hQ
    exact ⟨h1.1, h1.2.2.1, h1.2.2.2.1, h1.2.2.2.2, by rw [cell_of_heap h2]; rfl, by rw [cell_of_heap h2]; rfl⟩))
  have HDD := hid hD
  have HPP := hid hp
  have HVV := hid V
  clear hs1 hb2 hM hQ ho hD hp V
  cases hv : manB k n t s m with
  | false =>
    as_aux_lemma =>
      have HR := hid (show cpE k n t s m D x pl = 2 from by unfold cpE; rw [hv]; rfl)
      have hme : manB k n t s m = false := by exact hv
      rw [hme] at HE
      clear hv hme
      go_enter Tryd.func22, Tryd.ntmps22
      go_upto_region 1 with fail
      change Code.wp _ _ _ _ ((w.alloc (.cells (mcells k n t s od (.slice a m c)).toArray 27)).alloc (.cells #[.int .i64 x, .slice pa pn pc] 43))
      rw [← hw2]
      clear hw2
      go_wp2_with (refine wpList_load_mid (by rfl) 27 (.tmp 2) (by rfl) w.heap.size 0 (by rfl) (mcells k n t s od (.slice a m c)) _ HRA.out Tryd.underlying27 rfl HIF.out ?_)
      refine (HE.out w2).mono ?_
      rintro e w3 ⟨rfl, hb3⟩
      obtain ⟨c0, c2, c3, c36, p0, p1⟩ := HC.out w3 hb3
      have HB3 := hid (HB.out.trans (hb3.mono HB.out.size))
      go_wp2
      go_ret
      exact ⟨by rw [HR.out]; all_goals rfl, HB3.out⟩
  | true =>
    have hnum : 1 ≤ k ∧ k ≤ n ∧ n ≤ t ∧ t ≤ 255 ∧ 0 ≤ s ∧ s ≤ 8192 ∧ (m : Int) = t := by
      have hok := hv
      unfold manB vnB vcB at hok
      simp only [Bool.and_eq_true, decide_eq_true_eq] at hok
      omega
    have hme : manB k n t s m = true := by exact hv
    rw [hme] at HE
    have HU := hid (show cpE k n t s m D x pl = (if x < 0 ∨ t ≤ x then 2 else if pl.length ≠ plen k.toNat s.toNat then 10 else if dig shaRound shaStart ([hi8 x, lo8 x] ++ pl) ≠ D.getD x.toNat [] then 20 else 0) from by unfold cpE; rw [if_pos hv])
    clear hme hv
    by_cases hx0 : x < 0
    · as_aux_lemma =>
      have HR := hid (show cpE k n t s m D x pl = 2 from by rw [HU.out, if_pos (.inl hx0)])
      clear hnum
      go_enter Tryd.func22, Tryd.ntmps22
      go_upto_region 1 with fail
      change Code.wp _ _ _ _ ((w.alloc (.cells (mcells k n t s od (.slice a m c)).toArray 27)).alloc (.cells #[.int .i64 x, .slice pa pn pc] 43))
      rw [← hw2]
      clear hw2
      go_wp2_with (refine wpList_load_mid (by rfl) 27 (.tmp 2) (by rfl) w.heap.size 0 (by rfl) (mcells k n t s od (.slice a m c)) _ HRA.out Tryd.underlying27 rfl HIF.out ?_)
      refine (HE.out w2).mono ?_
      rintro e w3 ⟨rfl, hb3⟩
      obtain ⟨c0, c2, c3, c36, p0, p1⟩ := HC.out w3 hb3
      have HB3 := hid (HB.out.trans (hb3.mono HB.out.size))
      go_wp2
      go_ret
      exact ⟨by rw [HR.out]; all_goals rfl, HB3.out⟩
    by_cases hxt : t ≤ x
    · as_aux_lemma =>
      have HR := hid (show cpE k n t s m D x pl = 2 from by rw [HU.out, if_pos (.inr hxt)])
      clear hnum
      go_enter Tryd.func22, Tryd.ntmps22
      go_upto_region 1 with fail
      change Code.wp _ _ _ _ ((w.alloc (.cells (mcells k n t s od (.slice a m c)).toArray 27)).alloc (.cells #[.int .i64 x, .slice pa pn pc] 43))
      rw [← hw2]
      clear hw2
      go_wp2_with (refine wpList_load_mid (by rfl) 27 (.tmp 2) (by rfl) w.heap.size 0 (by rfl) (mcells k n t s od (.slice a m c)) _ HRA.out Tryd.underlying27 rfl HIF.out ?_)
      refine (HE.out w2).mono ?_
      rintro e w3 ⟨rfl, hb3⟩
      obtain ⟨c0, c2, c3, c36, p0, p1⟩ := HC.out w3 hb3
      have HB3 := hid (HB.out.trans (hb3.mono HB.out.size))
      go_wp2
      go_ret
      exact ⟨by rw [HR.out]; all_goals rfl, HB3.out⟩
    have hor : ¬ (x < 0 ∨ t ≤ x) := by omega
    have HSZ := hid (fun wx => length_ok k.toNat s.toNat (by omega) (by omega) (by omega) wx)
    rw [show ((k.toNat : Nat) : Int) = k from by omega, show ((s.toNat : Nat) : Int) = s from by omega] at HSZ
    have HPL := hid HPP.out.len
    by_cases hln : pl.length ≠ plen k.toNat s.toNat
    · as_aux_lemma =>
      have HR := hid (show cpE k n t s m D x pl = 10 from by rw [HU.out, if_neg hor, if_pos hln])
      have nq : ((pn : Int) != ((plen k.toNat s.toNat : Nat) : Int)) = true := by have := HPL.out; rw [bne_iff_ne]; omega
      clear hnum hor hln
      go_enter Tryd.func22, Tryd.ntmps22
      go_upto_region 1 with fail
      change Code.wp _ _ _ _ ((w.alloc (.cells (mcells k n t s od (.slice a m c)).toArray 27)).alloc (.cells #[.int .i64 x, .slice pa pn pc] 43))
      rw [← hw2]
      clear hw2
      go_wp2_with (refine wpList_load_mid (by rfl) 27 (.tmp 2) (by rfl) w.heap.size 0 (by rfl) (mcells k n t s od (.slice a m c)) _ HRA.out Tryd.underlying27 rfl HIF.out ?_)
      refine (HE.out w2).mono ?_
      rintro e w3 ⟨rfl, hb3⟩
      obtain ⟨c0, c2, c3, c36, p0, p1⟩ := HC.out w3 hb3
      have HB3 := hid (HB.out.trans (hb3.mono HB.out.size))
      clear hb3
      go_wp2_with fail
      refine (HSZ.out w3).mono ?_
      rintro e w4 ⟨rfl, rfl⟩
      go_wp2
      go_ret
      exact ⟨by rw [HR.out]; all_goals rfl, HB3.out⟩
    obtain ⟨i, hi⟩ : ∃ i : Nat, x = (i : Int) := ⟨x.toNat, by omega⟩
    have him : i < D.length := by have := HDD.out.len; omega
    obtain ⟨b, o', ha, hrg⟩ : ∃ b o', a = some ⟨b, o', none⟩ ∧ ∀ j, j < D.length → w.rangeAt b (o' + j * 32) (u8s (D.getD j [])) := by
      obtain ⟨a', c', h1, h2, h3⟩ := HDD.out.at_
      obtain ⟨b, o', e, h4⟩ := h3 (fun h => by rw [h] at him; simp at him)
      simp only [Value.slice.injEq] at h1
      exact ⟨b, o', h1.1.trans e, h4⟩
    have nq : ((pn : Int) != ((plen k.toNat s.toNat : Nat) : Int)) = false := by have := HPL.out; rw [bne_eq_false_iff_eq]; omega
    have hl32 : (D.getD i []).length = 32 := by
      rw [List.getD_eq_getElem?_getD, List.getElem?_eq_getElem him]
      exact HDD.out.l32 _ (List.getElem_mem _)
    have HRG := hid (hrg i him)
    obtain ⟨Y, hY⟩ : ∃ Y, Y = dig shaRound shaStart ([hi8 x, lo8 x] ++ pl) := ⟨_, rfl⟩
    have hY32 : Y.length = 32 := by rw [hY]; exact dig_length _ _ _
    obtain ⟨Z, hZ⟩ : ∃ Z, Z = D.getD i [] := ⟨_, rfl⟩
    rw [← hZ] at HRG hl32
    have HEQ := hid (fun wx => eql_any Y Z hY32 hl32 wx)
    have HIFZ := hid (show (Tryd.prog.info? 24).map (·.size) = some (u8s Z).length from by simp only [u8s, List.length_map, hl32]; kernel_rfl)
    have HFIN := hid (show cpE k n t s m D x pl = if Y ≠ Z then 20 else 0 from by rw [HU.out, if_neg hor, if_neg hln, ← hY, hZ, hi]; rfl)
    have HPD := hid (fun (wx : World) (b : Below w.heap.size w wx) => refd_all x pa pn pc pl wx (HVV.out.below b) (HPP.out.below b) hpc hpn hsz)
    rw [← hY] at HPD
    have hmi : (i : Int) < (m : Int) := by have := HDD.out.len; omega
    have hxt2 : ¬ t ≤ (i : Int) := by omega
    have hx02 : ¬ (i : Int) < 0 := by omega
    subst hi
    subst ha
    clear hnum hor hln hxt hx0 HU hrg him hY hZ hY32 hl32
    have hfin : ∀ (q : Bool), q = decide (Y = Z) → (if Y ≠ Z then (20 : Int) else 0) = if q then 0 else 20 := by
      rintro q rfl
      by_cases h : Y = Z
      · rw [if_neg (by simpa using h), decide_eq_true h]; rfl
      · rw [if_pos h, decide_eq_false h]; rfl
    generalize hq : decide (Y = Z) = q at *
    have HFN := hid (HFIN.out.trans (hfin q rfl))
    clear hfin HFIN hq
    obtain ⟨x, hx⟩ : ∃ x : Int, x = (i : Int) := ⟨_, rfl⟩
    cases q
    all_goals as_aux_lemma =>
      rw [HFN.out]
      rw [hx] at *
      clear hx
      go_enter Tryd.func22, Tryd.ntmps22
      go_upto_region 1 with fail
      change Code.wp _ _ _ _ ((w.alloc (.cells (mcells k n t s od (.slice (some ⟨b, o', none⟩) m c)).toArray 27)).alloc (.cells #[.int .i64 (i : Int), .slice pa pn pc] 43))
      rw [← hw2]
      clear hw2
      go_wp2_with (refine wpList_load_mid (by rfl) 27 (.tmp 2) (by rfl) w.heap.size 0 (by rfl) (mcells k n t s od (.slice (some ⟨b, o', none⟩) m c)) _ HRA.out Tryd.underlying27 rfl HIF.out ?_)
      refine (HE.out w2).mono ?_
      rintro e w3 ⟨rfl, hb3⟩
      obtain ⟨c0, c2, c3, c36, p0, p1⟩ := HC.out w3 hb3
      have HB3 := hid (HB.out.trans (hb3.mono HB.out.size))
      clear hb3
      go_wp2_with fail
      refine (HSZ.out w3).mono ?_
      rintro e w4 ⟨rfl, rfl⟩

      have hne : Nonempty (Cls fun w' => Below w3.heap.size w3 w') := ⟨⟨w3, Below.refl _ _⟩⟩
      have q0 : ∀ p : Cls (fun w' => Below w3.heap.size w3 w'), p.w.cell? ⟨w.heap.size + 1, 0, none⟩ = some (.int .i64 (i : Int)) := fun p => (p.h.cell (World.block_lt_of_cell? _ _ p0)).trans p0
      have q1 : ∀ p : Cls (fun w' => Below w3.heap.size w3 w'), p.w.cell? ⟨w.heap.size + 1, 1, none⟩ = some (.slice pa pn pc) := fun p => (p.h.cell (World.block_lt_of_cell? _ _ p1)).trans p1
      have q2 : ∀ p : Cls (fun w' => Below w3.heap.size w3 w'), p.w.cell? ⟨w.heap.size, 36, none⟩ = some (.slice (some ⟨b, o', none⟩) m c) := fun p => (p.h.cell (World.block_lt_of_cell? _ _ c36)).trans c36
      have HPQ := hid (fun (p : Cls (fun w' => Below w3.heap.size w3 w')) => HPD.out p.w (HB3.out.trans (p.h.mono HB3.out.size)))
      have HRQ := hid (fun (p : Cls (fun w' => Below w3.heap.size w3 w')) => range_below HRG.out (HB3.out.trans (p.h.mono HB3.out.size)))
      have e1 := fun wx => HEQ.out wx
      have hi0 : (0 : Int) ≤ (i : Int) := by omega
      go_upto_region 6 with fail
      refine wp_region_class_lit (G := fun w' => Below w3.heap.size w3 w') (by kernel_rfl) (by kernel_rfl) (bel_drewN (Below.refl _ _) 1) ?_
      iterate 10 (go_big_quiet_step ((go_at_call 19; exact Calls.cls (HPQ.out _))))
      refine wpQuiet_load_cls (by rfl) 24 (.tmp 44) (by rfl) b (o' + i * 32) (by rfl) (u8s Z) _ HRQ.out Tryd.underlying24 rfl HIFZ.out ?_
      rintro _ rfl
      try simp only [Act.put, List.setIfInBounds_toArray, List.set_cons_zero, List.set_cons_succ]
      repeat (go_big_quiet_step ((go_at_call 19; exact Calls.cls (HPQ.out _))))
      refine wpQuiet_nil ?_
      rintro _ ⟨p, rfl⟩
      have HBF := hid (HB3.out.trans (p.h.mono HB3.out.size))
      go_wp2
      go_ret
      exact ⟨rfl, HBF.out⟩

end Go.Proofs.YtafkjfpmjhfofaaDoor
