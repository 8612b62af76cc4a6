/-
  known: the few calls that every statement of chapter 7 ends with.
-/
import Derived.Test.YtjgiiciniplbnaaGreatDoorKa8
import Derived.Test.YtjgiiciniplbnaaGreatDoorKa5
namespace Go.Proofs.YtjgiiciniplbnaaGreatDoor
open Go Go.RowKit Go.Lib Go.Sort
set_option linter.unusedVariables false

theorem Cl1.belowK {w w' : World} {cb ob ib : Nat} {kl : Lit} {p : Nat} {t : Int} (h : Cl1 w cb ob ib kl p t) (hb : Below w.heap.size w w') : Cl1 w' cb ob ib kl p t :=
  ⟨(hb.block _ (lt_of_heap h.blk)).trans h.blk, ownsMap_below h.out hb, ownsMap_below h.inn hb, h.ne1, h.ne2, h.ne3⟩
theorem dgAt_one {w : World} {gd : Nat} {KC SH l : List Nat} {k L : Nat} (h : ∀ j, j < 1 → w.rangeAt gd (j * 32) (u8s (pdg KC SH l k L j))) : DgAt w (.slice (some ⟨gd, 0, none⟩) 1 1) [pdg KC SH l k L 0] := by
  refine ⟨_, 1, rfl, fun d hd => ?_, fun _ => ⟨gd, 0, rfl, fun j hj => ?_⟩⟩
  · simp only [List.mem_cons, List.not_mem_nil, or_false] at hd
    subst hd
    exact ⟨dig_length _ _ _, digL_lt ()⟩
  · simp only [List.length_cons, List.length_nil] at hj
    rw [Nat.zero_add]
    obtain rfl : j = 0 := by omega
    exact h 0 (by omega)
theorem cp_one (l : List Nat) : cpE ((1 : Nat) : Int) ((1 : Nat) : Int) ((1 : Nat) : Int) ((1 : Nat) : Int) 1 [pdg shaRound shaStart l 1 1 0] 0 (encP l 1 1 0) = 0 := by
  have h2 : ¬ ((encP l 1 1 0).length ≠ plen ((1 : Nat) : Int).toNat ((1 : Nat) : Int).toNat) := by rw [encM_length]; exact fun h => h rfl
  have h3 : ¬ (dig shaRound shaStart ([hi8 0, lo8 0] ++ encP l 1 1 0) ≠ [pdg shaRound shaStart l 1 1 0].getD (0 : Int).toNat []) := fun h => h rfl
  unfold cpE
  rw [if_pos (by decide), if_neg (by decide), if_neg h2, if_neg h3]
theorem is_i64 (w : World) (l : List Int) (hl : ∀ n ∈ l, (Lit.int .i64 n).wf = true) : Is (w.alloc (.cells (i64z l).toArray 3)) (.slice (some ⟨w.heap.size, 0, none⟩) l.length l.length) l := is_of_ownZ (heap_new _ _) hl
set_option maxRecDepth 100000 in
set_option maxHeartbeats 8000000 in
theorem known_pl (w : World) (V : Vars w shaRound shaStart) :
    Calls Tryz.prog 22 #[] w fun e w' => e = .returned (.bool true) ∧ Below w.heap.size w w' := by
  have hvlt := V.lt
  obtain ⟨q0, q1, q2, T⟩ := three
  have HT := hid T
  obtain ⟨kl, hkl⟩ := key_dig id1 id1_length id1_lt
  have HKL := hid hkl
  have HV := hid V
  have HIF := hid (show (Tryz.prog.info? 23).map (·.size) = some (u8s id1).length from by rw [show (u8s id1).length = 32 from rfl]; kernel_rfl)
  have HIFS := hid (show (Tryz.prog.info? 23).map (·.size) = some (u8s id1).toArray.size from by rw [show (u8s id1).toArray.size = 32 from rfl]; kernel_rfl)
  have HONE := hid (show (u8s id1).toArray.all (·.oneCell') = true from all_oneCell_toArray (u8s_oneH _))
  have HBG := hid built_id1
  have HRK := hid (fun (wx : World) (v : Vars wx shaRound shaStart) => Ranking_any id1 id1_length id1_lt 3 wx v)
  have hq012 : ∀ n ∈ [(0 : Int), 1, 2], (Lit.int .i64 n).wf = true := by decide
  have HD1 := hid (fun (wx : World) (b : Below w.heap.size w wx) (sb : Nat) (c : Nat) (hi : Is wx (.slice (some ⟨sb, 0, none⟩) 3 c) [0, 1, 2]) => Duty_any id1 id1_length id1_lt 1 (some ⟨sb, 0, none⟩) 3 c [0, 1, 2] 3 false false wx (HV.out.below b) hi (by omega))
  have HD2 := hid (fun (wx : World) (b : Below w.heap.size w wx) (sb : Nat) (c : Nat) (hi : Is wx (.slice (some ⟨sb, 0, none⟩) 3 c) [0, 1, 2]) => Duty_any id1 id1_length id1_lt 3 (some ⟨sb, 0, none⟩) 3 c [0, 1, 2] 3 true false wx (HV.out.below b) hi (by omega))
  rw [duty1 T] at HD1
  rw [duty2 T] at HD2
  have HI3 := hid (fun (wx : World) => is_i64 wx [0, 1, 2] hq012)
  rw [T.eq] at HRK
  obtain ⟨OB, hOB⟩ : ∃ y, y = u8s id1 := ⟨_, rfl⟩
  have HOB := hid hOB
  rw [← hOB] at HIF HIFS HONE HBG HRK HD1 HD2 HKL
  clear V hkl T hOB hq012
  have HIZ := hid (show ((u8s (List.replicate 32 0)).toArray : Array Value).size = OB.toArray.size from by rw [HOB.out]; rfl)
  go_enter Tryz.func22, Tryz.ntmps22
  go_wp2_with (first
    | (refine wpList_build1 (by rfl) 23 (.const (.int .u8 1)) (by rfl) (by rfl) HBG.out ?_)
    | (refine wpList_store_row (by rfl) 23 (.tmp 1) (.tmp 10) (by rfl) w.heap.size _ OB.toArray 23 (by rfl) (by rfl) (heap_new _ _) HIFS.out HIZ.out HONE.out ?_
       intro w1 hd1 hk1
       have HO1 := hid hd1
       have HR1 := hid (range_of_heap hd1)
       have HB1 := hid (show Below w.heap.size w w1 from ((Below.refl _ _).alloc (Nat.le_refl _) _).trans (hk1.below (by simp) (Nat.le_refl _)))
       clear hd1 hk1)
    | (refine wpList_load_mid (by rfl) 23 (.tmp 1) (by rfl) w.heap.size 0 (by rfl) OB _ HR1.out Tryz.underlying23 rfl HIF.out ?_))
  refine (HRK.out w1 (HV.out.below HB1.out)).mono ?_
  rintro e w2 ⟨pb, rfl, hoi2, hle2, hb2⟩
  have HOI2 := hid hoi2
  have HO2 := hid ((hb2.block _ (lt_of_heap HO1.out)).trans HO1.out)
  have HB2 := hid (HB1.out.trans (hb2.mono HB1.out.size))
  have HR2 := hid (range_of_heap HO2.out)
  have HPB := hid hle2
  obtain ⟨w3, hw3⟩ : ∃ y, y = w2.alloc (.cells (i64z [0, 1, 2]).toArray 3) := ⟨_, rfl⟩
  have hb23 : Below w2.heap.size w2 w3 := by rw [hw3]; exact (Below.refl _ _).alloc (Nat.le_refl _) _
  have HIS3 := hid (show Is w3 (.slice (some ⟨w2.heap.size, 0, none⟩) 3 3) [0, 1, 2] from by rw [hw3]; exact HI3.out w2)
  have HB3 := hid (HB2.out.trans (hb23.mono HB2.out.size))
  have HB23 := hid hb23
  have HW3 := hid hw3
  clear hoi2 hle2 hb2 hw3 hb23
  have hnq : ((3 : Int) != (3 : Int)) = false := rfl
  go_wp2_with (refine wpList_load_wantP (by rfl) 23 (.tmp 1) (by rfl) w.heap.size 0 (by rfl) OB _ HR2.out Tryz.underlying23 rfl HIF.out ?_)
  change Calls _ _ _ (w2.alloc (.cells (i64z [0, 1, 2]).toArray 3)) _
  rw [← HW3.out]
  refine (HD1.out w3 HB3.out w2.heap.size 3 HIS3.out).mono ?_
  rintro e w4 ⟨rfl, hb4⟩
  have HB4 := hid (HB3.out.trans (hb4.mono HB3.out.size))
  have HB24 := hid (HB23.out.trans (hb4.mono HB23.out.size))
  have HR4 := hid (range_below HR2.out HB24.out)
  obtain ⟨w5, hw5⟩ : ∃ y, y = w4.alloc (.cells (i64z [0, 1, 2]).toArray 3) := ⟨_, rfl⟩
  have hb45 : Below w4.heap.size w4 w5 := by rw [hw5]; exact (Below.refl _ _).alloc (Nat.le_refl _) _
  have HIS5 := hid (show Is w5 (.slice (some ⟨w4.heap.size, 0, none⟩) 3 3) [0, 1, 2] from by rw [hw5]; exact HI3.out w4)
  have HB5 := hid (HB4.out.trans (hb45.mono HB4.out.size))
  have HB25 := hid (HB24.out.trans (hb45.mono HB24.out.size))
  have HW5 := hid hw5
  clear hb4 hw5 hb45
  go_wp2_with (refine wpList_load_wantP (by rfl) 23 (.tmp 1) (by rfl) w.heap.size 0 (by rfl) OB _ HR4.out Tryz.underlying23 rfl HIF.out ?_)
  change Calls _ _ _ (w4.alloc (.cells (i64z [0, 1, 2]).toArray 3)) _
  rw [← HW5.out]
  refine (HD2.out w5 HB5.out w4.heap.size 3 HIS5.out).mono ?_
  rintro e w6 ⟨rfl, hb6⟩
  have HB6 := hid (HB5.out.trans (hb6.mono HB5.out.size))
  have HB26 := hid (HB25.out.trans (hb6.mono HB25.out.size))
  clear hb6
  go_wp2_with fail
  refine (NewClaims_any w6).mono ?_
  rintro e w7 ⟨rfl, hc7, hb7⟩
  have HC7 := hid hc7
  have HB7 := hid (HB6.out.trans (hb7.mono HB6.out.size))
  have HB27 := hid (HB26.out.trans (hb7.mono HB26.out.size))
  have HO7 := hid ((HB27.out.block _ (lt_of_heap HO2.out)).trans HO2.out)
  have HOI7 := hid (HOI2.out.below HB27.out)
  obtain ⟨ob, hob⟩ : ∃ y, y = w6.heap.size := ⟨_, rfl⟩
  obtain ⟨cb, hcb⟩ : ∃ y, y = w6.heap.size + 1 := ⟨_, rfl⟩
  rw [← hcb, ← hob] at HC7
  have hpbl : pb < w2.heap.size := lt_of_heap HOI2.out
  have hwl : w.heap.size < w2.heap.size := lt_of_heap HO2.out
  have hn1 : w.heap.size ≠ ob := by have := HB26.out.size; omega
  have hn2 : pb ≠ ob := by have := HB26.out.size; omega
  have hob2 : w2.heap.size ≤ ob := by have := HB26.out.size; omega
  have HN1 := hid hn1
  have HN2 := hid hn2
  have HOBL := hid hob2
  have HKP := hid (show ∀ wx, Kept ob w7 wx → (loadVar 23 ⟨w.heap.size, 0, none⟩).run Tryz.prog wx = .ok (.agg OB.toArray) wx ∧ wx.cell? ⟨pb, 0, none⟩ = some (.int .i64 (q0 : Int)) from fun wx k => ⟨run_loadVar_mid (P := Tryz.prog) wx w.heap.size 0 23 OB _ (range_of_heap ((k.block _ (lt_of_heap HO7.out) HN1.out).trans HO7.out)) Tryz.underlying23 rfl HIF.out, by
    have h : OwnI wx pb [q0, q1, q2] := (k.block _ (lt_of_heap HOI7.out) HN2.out).trans HOI7.out
    exact h.cell 0 (by simp)⟩)
  have HNT := hid (Note_first id1 id1_length kl (by rw [← HOB.out]; exact HKL.out) q0 (by have := HT.out.lt0; omega) 5 (by decide) (by decide) cb ob w7.drew ⟨HC7.out.1, HC7.out.2.1.drew, HC7.out.2.2⟩)
  rw [← HOB.out] at HNT
  have HOBE := hid hob
  have HCBE := hid hcb
  clear hb7 hc7 hpbl hwl hn1 hn2 hob2 hob hcb
  go_upto_region 6 with fail
  rw [← HCBE.out]
  refine wp_region_held_drew (S := (fun wx => (loadVar 23 ⟨w.heap.size, 0, none⟩).run Tryz.prog wx = .ok (.agg OB.toArray) wx ∧ wx.cell? ⟨pb, 0, none⟩ = some (.int .i64 (q0 : Int)))) (by kernel_rfl) (HKP.out _ ((Kept.refl ob w7).drewN 1)) (fun hHeld => ?_)
  refine wpAnyH_take (i := 0) (oi := { dst := some 29, op := Op.move (Operand.tmp 3), type := 40, pos := "law.go:21", after := #[], guard := none }) (v := ?_) rfl (by kernel_rfl) (by kernel_rfl) (by kernel_rfl) (fun _ _ _ h => h) (Or.inl ⟨by rfl, ?hy⟩) hHeld ?_
  case hy => (intro w hSw; (try dsimp only at hSw); obtain ⟨_, _⟩ := hSw; go_simp; all_goals (with_reducible rfl))
  try simp only [Act.put, List.setIfInBounds_toArray, List.set_cons_zero, List.set_cons_succ]
  refine wpAnyH_take (i := 1) (oi := { dst := some 30, op := Op.load 23 (Operand.tmp 1), type := 23, pos := "law.go:21", after := #[], guard := none }) (v := .agg OB.toArray) rfl (by kernel_rfl) (by kernel_rfl) (by kernel_rfl) (fun _ _ _ h => h) (Or.inl ⟨by rfl, ?hy⟩) hHeld ?_
  case hy => (intro w hSw; exact run_load_opP hSw.1)
  try simp only [Act.put, List.setIfInBounds_toArray, List.set_cons_zero, List.set_cons_succ]
  refine wpAnyH_take (i := 2) (oi := { dst := some 31, op := Op.move (Operand.tmp 2), type := 27, pos := "law.go:21", after := #[], guard := none }) (v := ?_) rfl (by kernel_rfl) (by kernel_rfl) (by kernel_rfl) (fun _ _ _ h => h) (Or.inl ⟨by rfl, ?hy⟩) hHeld ?_
  case hy => (intro w hSw; (try dsimp only at hSw); obtain ⟨_, _⟩ := hSw; go_simp; all_goals (with_reducible rfl))
  try simp only [Act.put, List.setIfInBounds_toArray, List.set_cons_zero, List.set_cons_succ]
  refine wpAnyH_take (i := 3) (oi := { dst := some 32, op := Op.indexAddr 27 (Operand.tmp 31) (Operand.const (Value.int IntKind.i64 0)), type := 0, pos := "law.go:21", after := #[{ on := 2, ground := Ground.data }], guard := none }) (v := ?_) rfl (by kernel_rfl) (by kernel_rfl) (by kernel_rfl) (fun _ _ _ h => h) (Or.inl ⟨by rfl, ?hy⟩) hHeld ?_
  case hy => (intro w hSw; (try dsimp only at hSw); obtain ⟨_, _⟩ := hSw; go_simp; all_goals (with_reducible rfl))
  try simp only [Act.put, List.setIfInBounds_toArray, List.set_cons_zero, List.set_cons_succ]
  refine wpAnyH_take (i := 4) (oi := { dst := some 33, op := Op.load 3 (Operand.tmp 32), type := 3, pos := "law.go:21", after := #[{ on := 3, ground := Ground.data }], guard := none }) (v := ?_) rfl (by kernel_rfl) (by kernel_rfl) (by kernel_rfl) (fun _ _ _ h => h) (Or.inl ⟨by rfl, ?hy⟩) hHeld ?_
  case hy => (intro w hSw; (try dsimp only at hSw); obtain ⟨_, _⟩ := hSw; go_simp; all_goals (with_reducible rfl))
  try simp only [Act.put, List.setIfInBounds_toArray, List.set_cons_zero, List.set_cons_succ]
  refine wpAnyH_ready (rs := [5]) (by kernel_rfl) (by simp) ?_
  refine AllReadyH.cons (o := { dst := some 34, op := Op.call { callee := Callee.value (Operand.func 33), args := #[Operand.tmp 29, Operand.tmp 30, Operand.tmp 33, Operand.const (Value.int IntKind.u64 5)], argTypes := #[40, 23, 3, 43] }, type := 0, pos := "law.go:21", after := #[{ on := 0, ground := Ground.data }, { on := 1, ground := Ground.data }, { on := 4, ground := Ground.data }], guard := none }) rfl (fun K hK => ?_) AllReadyH.nil
  go_simp
  refine HNT.out.mono ?_
  rintro e w8 ⟨rfl, ib, hc8, hib8, hk8⟩
  have HC8 := hid hc8
  have HK8 := hid (((Kept.refl ob w7).drewN 1).trans hk8)
  clear hc8 hib8 hk8
  clear hHeld
  go_wp2_with fail
  refine hK.out _ _ (HKP.out _ HK8.out) (fun hHeld => ?_)
  clear hK K
  try simp only [Act.put, List.setIfInBounds_toArray, List.set_cons_zero, List.set_cons_succ]
  refine wpAnyH_done (by kernel_rfl) ?_ _
  have HO8 := hid ((HK8.out.block _ (lt_of_heap HO7.out) HN1.out).trans HO7.out)
  have HOI8 := hid (show OwnI w8 pb [q0, q1, q2] from (HK8.out.block _ (lt_of_heap HOI7.out) HN2.out).trans HOI7.out)
  have HBo := hid (show w.heap.size ≤ ob from Nat.le_trans HB2.out.size HOBL.out)
  have HB8 := hid (HB7.out.trans (HK8.out.below HB7.out.size HBo.out))
  have HV8 := hid (HV.out.below HB8.out)
  have HLT3 := hid (show ∀ x ∈ [q0, q1, q2], x < 1000000 from by
    have h0 := HT.out.lt0
    have h1 := HT.out.lt1
    have h2 := HT.out.lt2
    intro x hx
    simp only [List.mem_cons, List.not_mem_nil, or_false] at hx
    omega)
  have HL3 := hid (show ∀ wx, OwnI wx pb [q0, q1, q2] → Is wx (.slice (some ⟨pb, 0, none⟩) 3 3) (lz q0 q1 q2) ∧ Is wx (.slice (some ⟨pb, 0, none⟩) 2 3) [(q0 : Int), (q1 : Int)] from fun wx h => ⟨is_of_own h 3 3 (by simp) HLT3.out, is_of_own h 2 3 (by simp) HLT3.out⟩)
  have HNI := hid (show ∀ wx, Is wx (.slice none 0 0) [] from fun wx => ⟨none, 0, rfl, (fun n hn => by cases hn), fun h => absurd rfl h⟩)
  have hqp := HT.out
  have h0 := hqp.lt0
  have HBK1 := hid (fun (p : Cls fun w' => Below w8.heap.size w8 w') => Blocked_one id1 id1_length id1_lt kl (by rw [← HOB.out]; exact HKL.out) q0 (by omega) 5 (by decide) (by decide) cb ob ib q1 16 (by decide) (by decide) (some ⟨pb, 0, none⟩) 3 3 (lz q0 q1 q2) none 0 0 [] p.w (HV8.out.below p.h) (HC8.out.belowK p.h) (HL3.out p.w (HOI8.out.below p.h)).1 (by omega) (HNI.out p.w) (by omega))
  have HBK2 := hid (fun (p : Cls fun w' => Below w8.heap.size w8 w') => Blocked_one id1 id1_length id1_lt kl (by rw [← HOB.out]; exact HKL.out) q0 (by omega) 5 (by decide) (by decide) cb ob ib q1 17 (by decide) (by decide) (some ⟨pb, 0, none⟩) 3 3 (lz q0 q1 q2) none 0 0 [] p.w (HV8.out.below p.h) (HC8.out.belowK p.h) (HL3.out p.w (HOI8.out.below p.h)).1 (by omega) (HNI.out p.w) (by omega))
  have HCV := hid (fun (p : Cls fun w' => Below w8.heap.size w8 w') => Covered_any id1 id1_length id1_lt q2 2 (some ⟨pb, 0, none⟩) 2 3 [(q0 : Int), (q1 : Int)] p.w (HV8.out.below p.h) (HL3.out p.w (HOI8.out.below p.h)).2 (by omega))
  have HS0 := hid (fun (p : Cls fun w' => Below w8.heap.size w8 w') => Score_any id1 id1_length id1_lt 0 p.w (HV8.out.below p.h))
  have HS1 := hid (fun (p : Cls fun w' => Below w8.heap.size w8 w') => Score_any id1 id1_length id1_lt 1 p.w (HV8.out.below p.h))
  rw [blk16 hqp] at HBK1
  rw [blk17 hqp] at HBK2
  rw [cov3 hqp] at HCV
  have hse : decide (scL id1 0 = scL id1 1) = false := by
    have h := score_ne
    rw [beq_eq_false_iff_ne] at h
    exact decide_eq_false h
  have e1 := fun wx => eql_any (scL id1 0) (scL id1 1) (scL_length _ _) (scL_length _ _) wx
  rw [hse] at e1
  rw [← HOB.out] at HBK1 HBK2 HCV HS0 HS1
  generalize scL id1 0 = S0 at *
  generalize scL id1 1 = S1 at *
  have hne : Nonempty (Cls fun w' => Below w8.heap.size w8 w') := ⟨⟨w8, Below.refl _ _⟩⟩
  have qc0 : ∀ p : Cls (fun w' => Below w8.heap.size w8 w'), p.w.cell? ⟨pb, 0, none⟩ = some (.int .i64 (q0 : Int)) := fun p => (HOI8.out.below p.h).cell 0 (by simp)
  have qc1 : ∀ p : Cls (fun w' => Below w8.heap.size w8 w'), p.w.cell? ⟨pb, 1, none⟩ = some (.int .i64 (q1 : Int)) := fun p => (HOI8.out.below p.h).cell 1 (by simp)
  have qc2 : ∀ p : Cls (fun w' => Below w8.heap.size w8 w'), p.w.cell? ⟨pb, 2, none⟩ = some (.int .i64 (q2 : Int)) := fun p => (HOI8.out.below p.h).cell 2 (by simp)
  have hup := fun wx => uptoI pb 0 3 3 2 (by omega) wx
  have HRQ := hid (fun (p : Cls fun w' => Below w8.heap.size w8 w') => range_below (range_of_heap HO8.out) p.h)
  clear hse h0 hqp
  go_upto_region 7 with fail
  refine wp_region_class_lit (G := fun w' => Below w8.heap.size w8 w') (by kernel_rfl) (by kernel_rfl) (bel_drewN (Below.refl _ _) 1) ?_
  iterate 1 (go_big_quiet_step (fail))
  refine wpQuiet_load_cls (by rfl) 23 (.tmp 1) (by rfl) w.heap.size 0 (by rfl) OB _ HRQ.out Tryz.underlying23 rfl HIF.out ?_
  rintro _ rfl
  try simp only [Act.put, List.setIfInBounds_toArray, List.set_cons_zero, List.set_cons_succ]
  iterate 4 (go_big_quiet_step (fail))
  go_big_quiet_step ((go_at_call 39; exact Calls.cls (HBK1.out _)))
  iterate 3 (go_big_quiet_step (fail))
  refine wpQuiet_load_clsW (by rfl) 23 (.tmp 1) (by rfl) w.heap.size 0 (by rfl) OB _ HRQ.out Tryz.underlying23 rfl HIF.out ?_
  rintro _ rfl
  try simp only [Act.put, List.setIfInBounds_toArray, List.set_cons_zero, List.set_cons_succ]
  iterate 4 (go_big_quiet_step (fail))
  go_big_quiet_step ((go_at_call 39; exact Calls.cls (HBK2.out _)))
  iterate 2 (go_big_quiet_step (fail))
  refine wpQuiet_load_clsW (by rfl) 23 (.tmp 1) (by rfl) w.heap.size 0 (by rfl) OB _ HRQ.out Tryz.underlying23 rfl HIF.out ?_
  rintro _ rfl
  try simp only [Act.put, List.setIfInBounds_toArray, List.set_cons_zero, List.set_cons_succ]
  iterate 5 (go_big_quiet_step (fail))
  go_big_quiet_step ((go_at_call 30; exact Calls.cls (HCV.out _)))
  iterate 3 (go_big_quiet_step (fail))
  refine wpQuiet_load_clsW (by rfl) 23 (.tmp 1) (by rfl) w.heap.size 0 (by rfl) OB _ HRQ.out Tryz.underlying23 rfl HIF.out ?_
  rintro _ rfl
  try simp only [Act.put, List.setIfInBounds_toArray, List.set_cons_zero, List.set_cons_succ]
  go_big_quiet_step ((go_at_call 15; exact Calls.cls (HS0.out _)))
  refine wpQuiet_load_clsW (by rfl) 23 (.tmp 1) (by rfl) w.heap.size 0 (by rfl) OB _ HRQ.out Tryz.underlying23 rfl HIF.out ?_
  rintro _ rfl
  try simp only [Act.put, List.setIfInBounds_toArray, List.set_cons_zero, List.set_cons_succ]
  go_big_quiet_step ((go_at_call 15; exact Calls.cls (HS1.out _)))
  iterate 2 (go_big_quiet_step (fail))
  refine wpQuiet_nil ?_
  rintro w9 ⟨p9, hp9⟩
  have hb9 : Below w8.heap.size w8 w9 := by rw [hp9]; exact p9.h
  have HB9 := hid (HB8.out.trans (hb9.mono HB8.out.size))
  clear hp9 p9 hb9 e1 HBK1 HBK2 HCV HS0 HS1 qc0 qc1 qc2 HRQ hup hne
  go_wp2_with fail
  refine (newField_any w9).mono ?_
  rintro e w10 ⟨rfl, hF10, hb10⟩
  obtain ⟨fb, hfb⟩ : ∃ y, y = w9.heap.size := ⟨_, rfl⟩
  rw [← hfb] at hF10 ⊢
  have hfw : w.heap.size ≤ fb := by rw [hfb]; exact HB9.out.size
  have HB10 := hid (HB9.out.trans (hb10.mono HB9.out.size))
  have HF10 := hid hF10
  have HFB := hid hfb
  clear hb10 hfb hF10
  obtain ⟨w11, hw11⟩ : ∃ y, y = w10.alloc (.cells (u8s [120]).toArray 5 (1, 2)) := ⟨_, rfl⟩
  have hb11 : Below w10.heap.size w10 w11 := by rw [hw11]; exact (Below.refl _ _).alloc (Nat.le_refl _) _
  have HBS11 := hid (show Bs w11 (.slice (some ⟨w10.heap.size, 0, none⟩) 1 1) [120] from by rw [hw11]; exact bs_mark w10 [120] (by decide) _ _ 1)
  have HF11 := hid (show Fld w11 fb from .inl ((hb11.block fb (lt_of_heap HF10.out)).trans HF10.out))
  have hf10 : fb < w10.heap.size := lt_of_heap HF10.out
  have HB11 := hid (HB10.out.trans (hb11.mono HB10.out.size))
  have HV11 := hid (HV.out.below HB11.out)
  have HMK := hid (Make_any fb 1 1 1 1 1 (some ⟨w10.heap.size, 0, none⟩) shaRound shaStart [120] w11 HF11.out HV11.out HBS11.out (by show w10.heap.size ≠ fb; omega) (Nat.le_refl _) (by decide) (by decide) (by decide) (by decide) (by decide) (by omega))
  have HW11 := hid hw11
  clear hb11 hw11
  have kc := fun (w : World) (C : Array Value) (n c : Nat) => Lib.run_convert_bytes_const (P := Tryz.prog) w 66 5 C n c Tryz.underlying66 Tryz.underlying5
  go_wp2_with fail
  change Calls _ _ _ (w10.alloc (.cells (u8s [120]).toArray 5 (1, 2))) _
  rw [← HW11.out]
  clear HW11
  refine HMK.out.mono ?_
  clear HMK
  rintro e w12 ⟨rb, mb, g, gd, bf, N, rfl, R⟩
  have HB12 := hid (HB11.out.trans (R.kept.below HB11.out.size hfw))
  have HV12 := hid (HV.out.below HB12.out)
  have hdl2 := dig_length shaRound shaStart [120]
  have HLT2 := hid (show ∀ x ∈ dig shaRound shaStart [120], x < 256 from digL_lt ())
  have hpl : plen 1 1 = 1 := rfl
  rw [hpl] at R
  have HDG := hid (show DgAt w12 (.slice (some ⟨gd, 0, none⟩) 1 1) [pdg shaRound shaStart [120] 1 1 0] from dgAt_one R.rng)
  have HROW := hid (R.pcs.row 0 (by decide))
  have HPO := hid R.pcs.own
  have HPW := hid (show ∀ n ∈ encP [120] 1 1 0, n < 256 from encM_lt _ (by intro i; cases i <;> simp) _ _ _)
  have HPLN := hid (show (encP [120] 1 1 0).length = 1 from encM_length _ _ _ _)
  have HCE := hid (cp_one [120])
  have HGDL := hid R.gdl
  have HBFL := hid (R.pcs.low 0 (by decide))
  generalize pdg shaRound shaStart [120] 1 1 0 = d0 at *
  generalize encP [120] 1 1 0 = E0 at *
  generalize dig shaRound shaStart [120] = od at *
  have HPC := hid (show w12.heap[g]? = some (.cells #[.int .i64 0, .slice (some ⟨bf 0, 0, none⟩) 1 1] 68 (0, 0)) from HPO.out)
  have HPB := hid (show Bs w12 (.slice (some ⟨bf 0, 0, none⟩) 1 1) E0 from by
    have h := HROW.out.bs HPW.out 1
    rw [HPLN.out] at h
    exact h)
  have HDS := hid (show Dgs w12 (some ⟨gd, 0, none⟩) 1 1 [d0] from ⟨HDG.out, Nat.le_refl _, fun h => by cases h⟩)
  have HML := hid (mcells_length ((1 : Nat) : Int) ((1 : Nat) : Int) ((1 : Nat) : Int) ((1 : Nat) : Int) od (.slice (some ⟨gd, 0, none⟩) 1 1) hdl2)
  have HON := hid (mcells_one ((1 : Nat) : Int) ((1 : Nat) : Int) ((1 : Nat) : Int) ((1 : Nat) : Int) od (some ⟨gd, 0, none⟩) 1 1)
  have HOD := hid hdl2
  have HIDC := hid (fun (wx : World) (b : Below w12.heap.size w12 wx) => id_ok 1 1 1 1 od [d0] (.slice (some ⟨gd, 0, none⟩) 1 1) hdl2 HLT2.out wx (HV12.out.below b) (HDS.out.below b).at_ (by rfl))
  have HIL := hid (dig_length shaRound shaStart (encTo 1 1 1 1 od [d0] 1))
  have HCPC := hid (fun (wx : World) (b : Below w12.heap.size w12 wx) => chp_any wx (HV12.out.below b) ((1 : Nat) : Int) ((1 : Nat) : Int) ((1 : Nat) : Int) ((1 : Nat) : Int) od (some ⟨gd, 0, none⟩) 1 1 [d0] hdl2 (HDS.out.below b) 0 (some ⟨bf 0, 0, none⟩) 1 1 E0 (HPB.out.below b) (Nat.le_refl _) (fun h => by cases h) (by decide))
  rw [HCE.out] at HCPC
  generalize dig shaRound shaStart (encTo 1 1 1 1 od [d0] 1) = idv at *
  obtain ⟨M, hM⟩ : ∃ y, y = mcells ((1 : Nat) : Int) ((1 : Nat) : Int) ((1 : Nat) : Int) ((1 : Nat) : Int) od (.slice (some ⟨gd, 0, none⟩) 1 1) := ⟨_, rfl⟩
  rw [← hM] at HML HON HIDC HCPC ⊢
  have HME := hid hM
  have HIFM := hid (show (Tryz.prog.info? 62).map (·.size) = some M.length from by rw [HML.out]; kernel_rfl)
  have HIFM2 := hid (show (Tryz.prog.info? 62).map (·.size) = some M.toArray.size from by rw [List.size_toArray, HML.out]; kernel_rfl)
  have HSZM := hid (show mz.size = M.toArray.size from by rw [show M.toArray.size = 37 from by rw [List.size_toArray, HML.out]]; rfl)
  have HIFI := hid (show (Tryz.prog.info? 23).map (·.size) = some (u8s idv).length from by rw [show (u8s idv).length = 32 from by simp [u8s, HIL.out]]; kernel_rfl)
  have HIFI2 := hid (show (Tryz.prog.info? 23).map (·.size) = some (u8s idv).toArray.size from by rw [show (u8s idv).toArray.size = 32 from by simp [u8s, HIL.out]]; kernel_rfl)
  have HONI := hid (show (u8s idv).toArray.all (·.oneCell') = true from all_oneCell_toArray (u8s_oneH _))
  have HSZI := hid (show ((u8s (List.replicate 32 0)).toArray : Array Value).size = (u8s idv).toArray.size from by simp [u8s, HIL.out])
  clear hM hdl2 R N kc hpl hf10
  go_wp2_with (first
    | (refine wpList_store_row (by rfl) 62 (.tmp 4) (.tmp 74) (by rfl) w12.heap.size mz M.toArray 62 (by rfl) (by rfl) (heap_new w12 _) HIFM2.out HSZM.out HON.out ?_
       intro w14 hw14 hk14
       have HW14 := hid hw14
       have HB14 := hid (show Below w12.heap.size w12 w14 from ((Below.refl _ _).alloc (Nat.le_refl _) _).trans (hk14.below (by simp) (Nat.le_refl _)))
       have HRM14 := hid (range_of_heap hw14)
       clear hw14 hk14)
    | (refine wpList_load_mid (by rfl) 62 (.tmp 4) (by rfl) w12.heap.size 0 (by rfl) M _ HRM14.out Tryz.underlying62 rfl HIFM.out ?_))
  refine (HIDC.out w14 HB14.out).mono ?_
  rintro e w15 ⟨rfl, hb15⟩
  have HB15 := hid (HB14.out.trans (hb15.mono HB14.out.size))
  have HW15 := hid ((hb15.block _ (lt_of_heap HW14.out)).trans HW14.out)
  clear hb15
  go_wp2_with (first
    | (refine wpList_store_row (by rfl) 23 (.tmp 7) (.tmp 80) (by rfl) w15.heap.size _ (u8s idv).toArray 23 (by rfl) (by rfl) (heap_new w15 _) HIFI2.out HSZI.out HONI.out ?_
       intro w16 hw16 hk16
       have HRI16 := hid (range_of_heap hw16)
       have HB1516 := hid (show Below w15.heap.size w15 w16 from ((Below.refl _ _).alloc (Nat.le_refl _) _).trans (hk16.below (by simp) (Nat.le_refl _)))
       clear hw16 hk16)
    | (refine wpList_load_mid (by rfl) 23 (.tmp 7) (by rfl) w15.heap.size 0 (by rfl) (u8s idv) _ HRI16.out Tryz.underlying23 rfl HIFI.out ?_))
  refine (NewGather_any idv HIL.out w16).mono ?_
  rintro e w17 ⟨rfl, hg17, hb17⟩
  have HB16 := hid (HB15.out.trans (HB1516.out.mono HB15.out.size))
  have HB17 := hid (HB16.out.trans (hb17.mono HB16.out.size))
  have HW17 := hid (((HB1516.out.trans (hb17.mono HB1516.out.size)).block _ (lt_of_heap HW15.out)).trans HW15.out)
  obtain ⟨gb, hgb⟩ : ∃ y, y = w16.heap.size + 1 := ⟨_, rfl⟩
  have HGBE := hid hgb
  rw [← hgb] at hg17
  have HG17 := hid hg17
  have hgl : w12.heap.size < gb := by have := HB16.out.size; omega
  have HGL := hid hgl
  have HPC17 := hid ((HB17.out.block _ (lt_of_heap HPC.out)).trans HPC.out)
  have hg12 : g < w12.heap.size := lt_of_heap HPC.out
  have hbf12 : bf 0 < w12.heap.size := HROW.out.lt
  have HNG := hid (show g ≠ gb from by omega)
  have HNB := hid (show bf 0 ≠ gb from by omega)
  have HNM := hid (show w12.heap.size ≠ gb from by omega)
  have HKP2 := hid (show ∀ wx, Kept gb w17 wx → (loadVar 62 ⟨w12.heap.size, 0, none⟩).run Tryz.prog wx = .ok (.agg M.toArray) wx ∧ wx.cell? ⟨g, 0, none⟩ = some (.int .i64 0) ∧ wx.cell? ⟨g, 1, none⟩ = some (.slice (some ⟨bf 0, 0, none⟩) 1 1) from fun wx k => ⟨run_loadVar_mid (P := Tryz.prog) wx w12.heap.size 0 62 M _ (range_of_heap ((k.block _ (lt_of_heap HW17.out) HNM.out).trans HW17.out)) Tryz.underlying62 rfl HIFM.out, by
    have h := (k.block _ (lt_of_heap HPC17.out) HNG.out).trans HPC17.out
    exact ⟨by rw [cell_of_heap h]; rfl, by rw [cell_of_heap h]; rfl⟩⟩)
  have HB17d := hid (show Below w12.heap.size w12 w17.drew from bel_drewN HB17.out 1)
  have HG17d := hid (show GthAt w17.drew gb idv mz0 (.slice none 0 0) from HG17.out.below (bel_drewN (Below.refl _ _) 1))
  have HCHK := hid (fun (wx : World) (b : Below w17.drew.heap.size w17.drew wx) => check_any gb idv HIL.out 0 0 0 0 (List.replicate 32 0) (.slice none 0 0) mz0_length none 0 0 (by decide) (fun _ => 0) (fun _ => by decide) (fun _ => .int .i64 0) wx (HG17d.out.below b) (fun i hi => absurd hi (Nat.not_lt_zero i)) M HML.out 0 (some ⟨bf 0, 0, none⟩) 1 1 idv HIL.out 0 0
    (fun wy by_ => HIDC.out wy ((HB17d.out.trans (b.mono HB17d.out.size)).trans (by_.mono (Nat.le_trans HB17d.out.size b.size))))
    (fun wy by_ => HCPC.out wy ((HB17d.out.trans (b.mono HB17d.out.size)).trans (by_.mono (Nat.le_trans HB17d.out.size b.size)))))
  have hgk : gchk 0 (decide (idv = idv)) 0 (((List.range 0).map fun _ => (0 : Int)).contains 0) (decide (0 < 0) && decide ((0 : Int) ≤ ((0 : Nat) : Int))) = 0 := by simp [gchk]
  rw [hgk] at HCHK
  have HOF := hid (show _ from Offer_first gb idv HIL.out ((1 : Nat) : Int) ((1 : Nat) : Int) ((1 : Nat) : Int) ((1 : Nat) : Int) od HOD.out (some ⟨gd, 0, none⟩) 1 1 [d0] w17.drew (HDS.out.below HB17d.out) (by decide) 0 (some ⟨bf 0, 0, none⟩) 1 1 E0 (HPB.out.below HB17d.out) (fun h => by cases h) (by decide) HNB.out HG17d.out (by rw [← HME.out]; exact HCHK.out))
  rw [← HME.out] at HOF
  have hcl : Below w.heap.size w w17 := HB12.out.trans (HB17.out.mono HB12.out.size)
  have HB017 := hid hcl
  clear hcl hgk hgl hg12 hbf12 hb17 hg17 hgb
  go_upto_region 12 with fail
  rw [← HGBE.out]
  refine wp_region_held_drew (S := (fun wx => (loadVar 62 ⟨w12.heap.size, 0, none⟩).run Tryz.prog wx = .ok (.agg M.toArray) wx ∧ wx.cell? ⟨g, 0, none⟩ = some (.int .i64 0) ∧ wx.cell? ⟨g, 1, none⟩ = some (.slice (some ⟨bf 0, 0, none⟩) 1 1))) (by kernel_rfl) (HKP2.out _ ((Kept.refl gb w17).drewN 1)) (fun hHeld => ?_)
  refine wpAnyH_take (i := 0) (oi := { dst := some 84, op := Op.move (Operand.tmp 6), type := 73, pos := "law.go:28", after := #[], guard := none }) (v := ?_) rfl (by kernel_rfl) (by kernel_rfl) (by kernel_rfl) (fun _ _ _ h => h) (Or.inl ⟨by rfl, ?hy⟩) hHeld ?_
  case hy => (intro w hSw; (try dsimp only at hSw); obtain ⟨_, _, _⟩ := hSw; go_simp; all_goals (with_reducible rfl))
  try simp only [Act.put, List.setIfInBounds_toArray, List.set_cons_zero, List.set_cons_succ]
  refine wpAnyH_take (i := 1) (oi := { dst := some 85, op := Op.binOp BinOp.eql 73 (Operand.tmp 84) (Operand.const (Value.int IntKind.i64 0)) 73, type := 4, pos := "law.go:28", after := #[{ on := 0, ground := Ground.data }], guard := none }) (v := ?_) rfl (by kernel_rfl) (by kernel_rfl) (by kernel_rfl) (fun _ _ _ h => h) (Or.inl ⟨by rfl, ?hy⟩) hHeld ?_
  case hy => (intro w hSw; (try dsimp only at hSw); obtain ⟨_, _, _⟩ := hSw; go_simp; all_goals (with_reducible rfl))
  try simp only [Act.put, List.setIfInBounds_toArray, List.set_cons_zero, List.set_cons_succ]
  refine wpAnyH_take (i := 2) (oi := { dst := some 86, op := Op.move (Operand.tmp 85), type := 4, pos := "law.go:28", after := #[{ on := 1, ground := Ground.data }], guard := none }) (v := ?_) rfl (by kernel_rfl) (by kernel_rfl) (by kernel_rfl) (fun _ _ _ h => h) (Or.inl ⟨by rfl, ?hy⟩) hHeld ?_
  case hy => (intro w hSw; (try dsimp only at hSw); obtain ⟨_, _, _⟩ := hSw; go_simp; all_goals (with_reducible rfl))
  try simp only [Act.put, List.setIfInBounds_toArray, List.set_cons_zero, List.set_cons_succ]
  refine wpAnyH_take (i := 3) (oi := { dst := some 87, op := Op.move (Operand.tmp 5), type := 63, pos := "law.go:28", after := #[{ on := 2, ground := Ground.guard }], guard := some (2, true) }) (v := ?_) rfl (by kernel_rfl) (by kernel_rfl) (by kernel_rfl) (fun _ _ _ h => h) (Or.inl ⟨by rfl, ?hy⟩) hHeld ?_
  case hy => (intro w hSw; (try dsimp only at hSw); obtain ⟨_, _, _⟩ := hSw; go_simp; all_goals (with_reducible rfl))
  try simp only [Act.put, List.setIfInBounds_toArray, List.set_cons_zero, List.set_cons_succ]
  refine wpAnyH_take (i := 4) (oi := { dst := some 88, op := Op.call { callee := Callee.builtin Builtin.len, args := #[Operand.tmp 87], argTypes := #[63] }, type := 3, pos := "law.go:28", after := #[{ on := 3, ground := Ground.data }, { on := 2, ground := Ground.guard }], guard := some (2, true) }) (v := ?_) rfl (by kernel_rfl) (by kernel_rfl) (by kernel_rfl) (fun _ _ _ h => h) (Or.inl ⟨by rfl, ?hy⟩) hHeld ?_
  case hy => (intro w hSw; (try dsimp only at hSw); obtain ⟨_, _, _⟩ := hSw; go_simp; all_goals (with_reducible rfl))
  try simp only [Act.put, List.setIfInBounds_toArray, List.set_cons_zero, List.set_cons_succ]
  refine wpAnyH_take (i := 5) (oi := { dst := some 89, op := Op.binOp BinOp.eql 3 (Operand.tmp 88) (Operand.const (Value.int IntKind.i64 1)) 3, type := 4, pos := "law.go:28", after := #[{ on := 4, ground := Ground.data }, { on := 2, ground := Ground.guard }], guard := some (2, true) }) (v := ?_) rfl (by kernel_rfl) (by kernel_rfl) (by kernel_rfl) (fun _ _ _ h => h) (Or.inl ⟨by rfl, ?hy⟩) hHeld ?_
  case hy => (intro w hSw; (try dsimp only at hSw); obtain ⟨_, _, _⟩ := hSw; go_simp; all_goals (with_reducible rfl))
  try simp only [Act.put, List.setIfInBounds_toArray, List.set_cons_zero, List.set_cons_succ]
  refine wpAnyH_take (i := 6) (oi := { dst := some 90, op := Op.pick (Operand.tmp 86) (Operand.tmp 89) (Operand.const (Value.bool false)), type := 4, pos := "law.go:28", after := #[{ on := 2, ground := Ground.data }, { on := 5, ground := Ground.data }], guard := none }) (v := ?_) rfl (by kernel_rfl) (by kernel_rfl) (by kernel_rfl) (fun _ _ _ h => h) (Or.inl ⟨by rfl, ?hy⟩) hHeld ?_
  case hy => (intro w hSw; (try dsimp only at hSw); obtain ⟨_, _, _⟩ := hSw; go_simp; all_goals (with_reducible rfl))
  try simp only [Act.put, List.setIfInBounds_toArray, List.set_cons_zero, List.set_cons_succ]
  refine wpAnyH_take (i := 7) (oi := { dst := some 91, op := Op.move (Operand.tmp 90), type := 4, pos := "law.go:28", after := #[{ on := 6, ground := Ground.data }, { on := 2, ground := Ground.chain }], guard := none }) (v := ?_) rfl (by kernel_rfl) (by kernel_rfl) (by kernel_rfl) (fun _ _ _ h => h) (Or.inl ⟨by rfl, ?hy⟩) hHeld ?_
  case hy => (intro w hSw; (try dsimp only at hSw); obtain ⟨_, _, _⟩ := hSw; go_simp; all_goals (with_reducible rfl))
  try simp only [Act.put, List.setIfInBounds_toArray, List.set_cons_zero, List.set_cons_succ]
  refine wpAnyH_take (i := 8) (oi := { dst := some 92, op := Op.move (Operand.tmp 9), type := 58, pos := "law.go:28", after := #[{ on := 7, ground := Ground.guard }], guard := some (7, true) }) (v := ?_) rfl (by kernel_rfl) (by kernel_rfl) (by kernel_rfl) (fun _ _ _ h => h) (Or.inl ⟨by rfl, ?hy⟩) hHeld ?_
  case hy => (intro w hSw; (try dsimp only at hSw); obtain ⟨_, _, _⟩ := hSw; go_simp; all_goals (with_reducible rfl))
  try simp only [Act.put, List.setIfInBounds_toArray, List.set_cons_zero, List.set_cons_succ]
  refine wpAnyH_take (i := 9) (oi := { dst := some 93, op := Op.load 62 (Operand.tmp 4), type := 62, pos := "law.go:28", after := #[{ on := 7, ground := Ground.guard }], guard := some (7, true) }) (v := .agg M.toArray) rfl (by kernel_rfl) (by kernel_rfl) (by kernel_rfl) (fun _ _ _ h => h) (Or.inl ⟨by rfl, ?hy⟩) hHeld ?_
  case hy => (intro w hSw; exact run_load_opP hSw.1)
  try simp only [Act.put, List.setIfInBounds_toArray, List.set_cons_zero, List.set_cons_succ]
  refine wpAnyH_take (i := 10) (oi := { dst := some 94, op := Op.move (Operand.tmp 5), type := 63, pos := "law.go:28", after := #[{ on := 7, ground := Ground.guard }], guard := some (7, true) }) (v := ?_) rfl (by kernel_rfl) (by kernel_rfl) (by kernel_rfl) (fun _ _ _ h => h) (Or.inl ⟨by rfl, ?hy⟩) hHeld ?_
  case hy => (intro w hSw; (try dsimp only at hSw); obtain ⟨_, _, _⟩ := hSw; go_simp; all_goals (with_reducible rfl))
  try simp only [Act.put, List.setIfInBounds_toArray, List.set_cons_zero, List.set_cons_succ]
  refine wpAnyH_take (i := 11) (oi := { dst := some 95, op := Op.indexAddr 63 (Operand.tmp 94) (Operand.const (Value.int IntKind.i64 0)), type := 0, pos := "law.go:28", after := #[{ on := 10, ground := Ground.data }, { on := 7, ground := Ground.guard }], guard := some (7, true) }) (v := ?_) rfl (by kernel_rfl) (by kernel_rfl) (by kernel_rfl) (fun _ _ _ h => h) (Or.inl ⟨by rfl, ?hy⟩) hHeld ?_
  case hy => (intro w hSw; (try dsimp only at hSw); obtain ⟨_, _, _⟩ := hSw; go_simp; all_goals (with_reducible rfl))
  try simp only [Act.put, List.setIfInBounds_toArray, List.set_cons_zero, List.set_cons_succ]
  refine wpAnyH_take (i := 12) (oi := { dst := some 96, op := Op.load 68 (Operand.tmp 95), type := 68, pos := "law.go:28", after := #[{ on := 11, ground := Ground.data }, { on := 7, ground := Ground.guard }], guard := some (7, true) }) (v := ?_) rfl (by kernel_rfl) (by kernel_rfl) (by kernel_rfl) (fun _ _ _ h => h) (Or.inl ⟨by rfl, ?hy⟩) hHeld ?_
  case hy => (intro w hSw; (try dsimp only at hSw); obtain ⟨_, _, _⟩ := hSw; go_simp; all_goals (with_reducible rfl))
  try simp only [Act.put, List.setIfInBounds_toArray, List.set_cons_zero, List.set_cons_succ]
  refine wpAnyH_ready (rs := [13]) (by kernel_rfl) (by simp) ?_
  refine AllReadyH.cons (o := { dst := some 97, op := Op.call { callee := Callee.value (Operand.func 44), args := #[Operand.tmp 92, Operand.tmp 93, Operand.tmp 96], argTypes := #[58, 62, 68] }, type := 73, pos := "law.go:28", after := #[{ on := 8, ground := Ground.data }, { on := 9, ground := Ground.data }, { on := 12, ground := Ground.data }, { on := 7, ground := Ground.chain }, { on := 7, ground := Ground.guard }], guard := some (7, true) }) rfl (fun K hK => ?_) AllReadyH.nil
  go_simp
  refine HOF.out.mono ?_
  rintro e w18 ⟨rfl, a18, c18, a5, c5, rb18, cap18, hg18, r0, r1, hrb18, hk18⟩
  have HG18 := hid hg18
  have HK18 := hid (((Kept.refl gb w17).drewN 1).trans hk18)
  have hM18 := mcells_length ((1 : Nat) : Int) ((1 : Nat) : Int) ((1 : Nat) : Int) ((1 : Nat) : Int) od (.slice a18 1 c18) HOD.out
  have hrd := Ready_any gb idv HIL.out ((1 : Nat) : Int) ((1 : Nat) : Int) ((1 : Nat) : Int) ((1 : Nat) : Int) od (.slice a18 1 c18) hM18 (some ⟨rb18, 0, none⟩) 1 cap18 w18 hg18
  rw [show (decide (0 < 1) && decide (((1 : Nat) : Int) ≤ ((1 : Nat) : Int))) = true from by decide] at hrd
  have HRDY := hid hrd
  have HIND := hid (fun (wx : World) (b : Below w18.heap.size w18 wx) => Indices_any gb idv HIL.out (mcells ((1 : Nat) : Int) ((1 : Nat) : Int) ((1 : Nat) : Int) ((1 : Nat) : Int) od (.slice a18 1 c18)) hM18 (some ⟨rb18, 0, none⟩) 1 cap18 (by decide) (fun _ => 0) (fun _ => .slice a5 1 c5) wx (HG18.out.below b) (fun i hi => by
    obtain rfl : i = 0 := by omega
    exact ⟨rb18, 0, rfl, (b.cell (World.block_lt_of_cell? _ _ r0)).trans r0, (b.cell (World.block_lt_of_cell? _ _ r1)).trans r1, rfl⟩))
  clear hg18 hk18 hrd hM18 hrb18
  clear hHeld
  go_wp2_with fail
  refine hK.out _ _ (HKP2.out _ HK18.out) (fun hHeld => ?_)
  clear hK K
  try simp only [Act.put, List.setIfInBounds_toArray, List.set_cons_zero, List.set_cons_succ]
  refine wpAnyH_take (i := 14) (oi := { dst := some 98, op := Op.binOp BinOp.eql 73 (Operand.tmp 97) (Operand.const (Value.int IntKind.i64 0)) 73, type := 4, pos := "law.go:28", after := #[{ on := 13, ground := Ground.data }, { on := 7, ground := Ground.guard }], guard := some (7, true) }) (v := ?_) rfl (by kernel_rfl) (by kernel_rfl) (by kernel_rfl) (fun _ _ _ h => h) (Or.inl ⟨by rfl, ?hy⟩) hHeld ?_
  case hy => (intro w hSw; (try dsimp only at hSw); obtain ⟨_, _, _⟩ := hSw; go_simp; all_goals (with_reducible rfl))
  try simp only [Act.put, List.setIfInBounds_toArray, List.set_cons_zero, List.set_cons_succ]
  refine wpAnyH_take (i := 15) (oi := { dst := some 99, op := Op.pick (Operand.tmp 91) (Operand.tmp 98) (Operand.const (Value.bool false)), type := 4, pos := "law.go:28", after := #[{ on := 7, ground := Ground.data }, { on := 14, ground := Ground.data }], guard := none }) (v := ?_) rfl (by kernel_rfl) (by kernel_rfl) (by kernel_rfl) (fun _ _ _ h => h) (Or.inl ⟨by rfl, ?hy⟩) hHeld ?_
  case hy => (intro w hSw; (try dsimp only at hSw); obtain ⟨_, _, _⟩ := hSw; go_simp; all_goals (with_reducible rfl))
  try simp only [Act.put, List.setIfInBounds_toArray, List.set_cons_zero, List.set_cons_succ]
  refine wpAnyH_take (i := 16) (oi := { dst := some 100, op := Op.move (Operand.tmp 99), type := 4, pos := "law.go:28", after := #[{ on := 15, ground := Ground.data }, { on := 13, ground := Ground.chain }], guard := none }) (v := ?_) rfl (by kernel_rfl) (by kernel_rfl) (by kernel_rfl) (fun _ _ _ h => h) (Or.inl ⟨by rfl, ?hy⟩) hHeld ?_
  case hy => (intro w hSw; (try dsimp only at hSw); obtain ⟨_, _, _⟩ := hSw; go_simp; all_goals (with_reducible rfl))
  try simp only [Act.put, List.setIfInBounds_toArray, List.set_cons_zero, List.set_cons_succ]
  refine wpAnyH_take (i := 17) (oi := { dst := some 101, op := Op.move (Operand.tmp 9), type := 58, pos := "law.go:28", after := #[{ on := 16, ground := Ground.guard }], guard := some (16, true) }) (v := ?_) rfl (by kernel_rfl) (by kernel_rfl) (by kernel_rfl) (fun _ _ _ h => h) (Or.inl ⟨by rfl, ?hy⟩) hHeld ?_
  case hy => (intro w hSw; (try dsimp only at hSw); obtain ⟨_, _, _⟩ := hSw; go_simp; all_goals (with_reducible rfl))
  try simp only [Act.put, List.setIfInBounds_toArray, List.set_cons_zero, List.set_cons_succ]
  refine wpAnyH_ready (rs := [18]) (by kernel_rfl) (by simp) ?_
  refine AllReadyH.cons (o := { dst := some 102, op := Op.call { callee := Callee.value (Operand.func 47), args := #[Operand.tmp 101], argTypes := #[58] }, type := 4, pos := "law.go:28", after := #[{ on := 17, ground := Ground.data }, { on := 16, ground := Ground.chain }, { on := 16, ground := Ground.guard }], guard := some (16, true) }) rfl (fun K hK => ?_) AllReadyH.nil
  go_simp
  refine HRDY.out.mono ?_
  rintro e w19 ⟨rfl, hb19⟩
  have HB19 := hid hb19
  have HK19 := hid (HK18.out.trans (Kept.of_below (b := gb) hb19))
  clear hb19
  clear hHeld
  go_wp2_with fail
  refine hK.out _ _ (HKP2.out _ HK19.out) (fun hHeld => ?_)
  clear hK K
  try simp only [Act.put, List.setIfInBounds_toArray, List.set_cons_zero, List.set_cons_succ]
  refine wpAnyH_take (i := 19) (oi := { dst := some 103, op := Op.pick (Operand.tmp 100) (Operand.tmp 102) (Operand.const (Value.bool false)), type := 4, pos := "law.go:28", after := #[{ on := 16, ground := Ground.data }, { on := 18, ground := Ground.data }], guard := none }) (v := ?_) rfl (by kernel_rfl) (by kernel_rfl) (by kernel_rfl) (fun _ _ _ h => h) (Or.inl ⟨by rfl, ?hy⟩) hHeld ?_
  case hy => (intro w hSw; (try dsimp only at hSw); obtain ⟨_, _, _⟩ := hSw; go_simp; all_goals (with_reducible rfl))
  try simp only [Act.put, List.setIfInBounds_toArray, List.set_cons_zero, List.set_cons_succ]
  refine wpAnyH_take (i := 20) (oi := { dst := some 104, op := Op.move (Operand.tmp 103), type := 4, pos := "law.go:28", after := #[{ on := 19, ground := Ground.data }, { on := 18, ground := Ground.chain }], guard := none }) (v := ?_) rfl (by kernel_rfl) (by kernel_rfl) (by kernel_rfl) (fun _ _ _ h => h) (Or.inl ⟨by rfl, ?hy⟩) hHeld ?_
  case hy => (intro w hSw; (try dsimp only at hSw); obtain ⟨_, _, _⟩ := hSw; go_simp; all_goals (with_reducible rfl))
  try simp only [Act.put, List.setIfInBounds_toArray, List.set_cons_zero, List.set_cons_succ]
  refine wpAnyH_take (i := 21) (oi := { dst := some 105, op := Op.move (Operand.tmp 9), type := 58, pos := "law.go:28", after := #[{ on := 20, ground := Ground.guard }], guard := some (20, true) }) (v := ?_) rfl (by kernel_rfl) (by kernel_rfl) (by kernel_rfl) (fun _ _ _ h => h) (Or.inl ⟨by rfl, ?hy⟩) hHeld ?_
  case hy => (intro w hSw; (try dsimp only at hSw); obtain ⟨_, _, _⟩ := hSw; go_simp; all_goals (with_reducible rfl))
  try simp only [Act.put, List.setIfInBounds_toArray, List.set_cons_zero, List.set_cons_succ]
  refine wpAnyH_ready (rs := [22]) (by kernel_rfl) (by simp) ?_
  refine AllReadyH.cons (o := { dst := some 106, op := Op.call { callee := Callee.value (Operand.func 50), args := #[Operand.tmp 105], argTypes := #[58] }, type := 27, pos := "law.go:28", after := #[{ on := 21, ground := Ground.data }, { on := 20, ground := Ground.chain }, { on := 20, ground := Ground.guard }], guard := some (20, true) }) rfl (fun K hK => ?_) AllReadyH.nil
  go_simp
  refine (HIND.out w19 HB19.out).mono ?_
  rintro e w20 ⟨ib20, rfl, hoz, hle, hb20⟩
  have HK20 := hid (HK19.out.trans (Kept.of_below (b := gb) hb20))
  clear hb20 hoz hle
  clear hHeld
  go_wp2_with fail
  refine hK.out _ _ (HKP2.out _ HK20.out) (fun hHeld => ?_)
  clear hK K
  try simp only [Act.put, List.setIfInBounds_toArray, List.set_cons_zero, List.set_cons_succ]
  refine wpAnyH_take (i := 23) (oi := { dst := some 107, op := Op.call { callee := Callee.builtin Builtin.len, args := #[Operand.tmp 106], argTypes := #[27] }, type := 3, pos := "law.go:28", after := #[{ on := 22, ground := Ground.data }, { on := 20, ground := Ground.guard }], guard := some (20, true) }) (v := ?_) rfl (by kernel_rfl) (by kernel_rfl) (by kernel_rfl) (fun _ _ _ h => h) (Or.inl ⟨by rfl, ?hy⟩) hHeld ?_
  case hy => (intro w hSw; (try dsimp only at hSw); obtain ⟨_, _, _⟩ := hSw; go_simp; all_goals (with_reducible rfl))
  try simp only [Act.put, List.setIfInBounds_toArray, List.set_cons_zero, List.set_cons_succ]
  refine wpAnyH_take (i := 24) (oi := { dst := some 108, op := Op.binOp BinOp.eql 3 (Operand.tmp 107) (Operand.const (Value.int IntKind.i64 1)) 3, type := 4, pos := "law.go:28", after := #[{ on := 23, ground := Ground.data }, { on := 20, ground := Ground.guard }], guard := some (20, true) }) (v := ?_) rfl (by kernel_rfl) (by kernel_rfl) (by kernel_rfl) (fun _ _ _ h => h) (Or.inl ⟨by rfl, ?hy⟩) hHeld ?_
  case hy => (intro w hSw; (try dsimp only at hSw); obtain ⟨_, _, _⟩ := hSw; go_simp; all_goals (with_reducible rfl))
  try simp only [Act.put, List.setIfInBounds_toArray, List.set_cons_zero, List.set_cons_succ]
  refine wpAnyH_take (i := 25) (oi := { dst := some 109, op := Op.pick (Operand.tmp 104) (Operand.tmp 108) (Operand.const (Value.bool false)), type := 4, pos := "law.go:28", after := #[{ on := 20, ground := Ground.data }, { on := 24, ground := Ground.data }], guard := none }) (v := ?_) rfl (by kernel_rfl) (by kernel_rfl) (by kernel_rfl) (fun _ _ _ h => h) (Or.inl ⟨by rfl, ?hy⟩) hHeld ?_
  case hy => (intro w hSw; (try dsimp only at hSw); obtain ⟨_, _, _⟩ := hSw; go_simp; all_goals (with_reducible rfl))
  try simp only [Act.put, List.setIfInBounds_toArray, List.set_cons_zero, List.set_cons_succ]
  refine wpAnyH_take (i := 26) (oi := { dst := some 0, op := Op.assign (Operand.tmp 109), type := 4, pos := "law.go:28", after := #[{ on := 25, ground := Ground.data }, { on := 22, ground := Ground.chain }, { on := 0, ground := Ground.phase }, { on := 1, ground := Ground.phase }, { on := 2, ground := Ground.phase }, { on := 3, ground := Ground.phase }, { on := 4, ground := Ground.phase }, { on := 5, ground := Ground.phase }, { on := 6, ground := Ground.phase }, { on := 7, ground := Ground.phase }, { on := 8, ground := Ground.phase }, { on := 9, ground := Ground.phase }, { on := 10, ground := Ground.phase }, { on := 11, ground := Ground.phase }, { on := 12, ground := Ground.phase }, { on := 13, ground := Ground.phase }, { on := 14, ground := Ground.phase }, { on := 15, ground := Ground.phase }, { on := 16, ground := Ground.phase }, { on := 17, ground := Ground.phase }, { on := 18, ground := Ground.phase }, { on := 19, ground := Ground.phase }, { on := 20, ground := Ground.phase }, { on := 21, ground := Ground.phase }, { on := 22, ground := Ground.phase }, { on := 23, ground := Ground.phase }, { on := 24, ground := Ground.phase }, { on := 25, ground := Ground.phase }], guard := none }) (v := ?_) rfl (by kernel_rfl) (by kernel_rfl) (by kernel_rfl) (fun _ _ _ h => h) (Or.inl ⟨by rfl, ?hy⟩) hHeld ?_
  case hy => (intro w hSw; (try dsimp only at hSw); obtain ⟨_, _, _⟩ := hSw; go_simp; all_goals (with_reducible rfl))
  try simp only [Act.put, List.setIfInBounds_toArray, List.set_cons_zero]
  refine wpAnyH_done (by kernel_rfl) ?_ _
  go_wp2
  go_ret
  exact ⟨rfl, HB017.out.trans (HK20.out.below HB017.out.size (Nat.le_trans HB12.out.size (Nat.le_of_lt HGL.out)))⟩
end Go.Proofs.YtjgiiciniplbnaaGreatDoor
