/-
  compress: a chunk taken into the state.
-/
import Derived.Test.YtafkjfpmjhfofaaDoorSch
namespace Go.Proofs.YtafkjfpmjhfofaaDoor
open Go Go.RowKit
set_option linter.unusedVariables false

/-- the two listed variables hold what the program's text lays -/
structure Vars (w : World) (KC SH : List Nat) : Prop where
  start : w.rangeAt 1 0 (u32s SH)
  rc : w.rangeAt 2 0 (u32s KC)
  lt : 2 < w.heap.size
  kl : KC.length = 64
  sl : SH.length = 8
  ko : ∀ i, KC.getD i 0 < 4294967296
  so : ∀ i, SH.getD i 0 < 4294967296
theorem Vars.same {w w' : World} {KC SH : List Nat} (V : Vars w KC SH) (h1 : w'.heap[1]? = w.heap[1]?) (h2 : w'.heap[2]? = w.heap[2]?) (hs : w.heap.size ≤ w'.heap.size) : Vars w' KC SH :=
  ⟨fun j v hj => (World.cell?_of_block (a := ⟨1, 0 + j, none⟩) h1).trans (V.start j v hj), fun j v hj => (World.cell?_of_block (a := ⟨2, 0 + j, none⟩) h2).trans (V.rc j v hj), Nat.lt_of_lt_of_le V.lt hs, V.kl, V.sl, V.ko, V.so⟩
theorem Vars.below {w w' : World} {KC SH : List Nat} (V : Vars w KC SH) (hb : Below w.heap.size w w') : Vars w' KC SH := V.same (hb.block 1 (by have := V.lt; omega)) (hb.block 2 (by have := V.lt; omega)) hb.size
theorem Vars.kept {w w' : World} {KC SH : List Nat} {b : Nat} (V : Vars w KC SH) (k : Kept b w w') (h : 3 ≤ b) : Vars w' KC SH := V.same (k.block 1 (by have := V.lt; omega) (by omega)) (k.block 2 (by have := V.lt; omega) (by omega)) k.size
theorem HashAt.set_word {w : World} {hb : Nat} {h c : List Nat} {size : Nat} (H : HashAt w hb h c size) (i n : Nat) (hi : i < 8) (hn : n < 4294967296) : HashAt (w.setCell ⟨hb, i, none⟩ (.int .u32 ((n : Nat) : Int))) hb (h.set i n) c size := by
  have h1 := heap_set H.at_ i (.int .u32 n)
  refine ⟨?_, by rw [List.length_set]; exact H.hl, H.cl, fun j => ?_, H.co⟩
  · rw [h1]
    have h2 : i < (u32s h).length := by rw [u32s_length, H.hl]; exact hi
    unfold hcells
    rw [List.setIfInBounds_toArray, List.set_append_left _ _ h2]
    simp [u32s, List.map_set]
  · rw [List.getD_eq_getElem?_getD, List.getElem?_set]
    split
    · split
      · exact hn
      · decide
    · rw [← List.getD_eq_getElem?_getD]; exact H.ho j
theorem HashAt.free {w : World} {hb : Nat} {h c : List Nat} {size : Nat} (H : HashAt w hb h c size) (i : Nat) : w.frozen? ⟨hb, i, none⟩ = false := free_of_heap H.at_ i
theorem cmpTo_length (K : Nat → Nat) (h : List Nat) (c : Nat → Nat) (i : Nat) : (cmpTo K h c i).length = 8 := by simp [cmpTo]
theorem cmpTo_getD (K : Nat → Nat) (h : List Nat) (c : Nat → Nat) (i j : Nat) (hj : j < 8) : (cmpTo K h c i).getD j 0 = if j < i then ad (h.getD j 0) ((rnd (stOf h) K (fun t => (schL c 48).getD t 0) 64).list.getD j 0) else h.getD j 0 := by
  unfold cmpTo
  rw [List.getD_eq_getElem?_getD, List.getElem?_map, List.getElem?_range hj]
  rfl
theorem cmpTo_zero (K : Nat → Nat) (h : List Nat) (c : Nat → Nat) (hl : h.length = 8) : cmpTo K h c 0 = h := by
  refine getD_ext2 (by rw [cmpTo_length, hl]) fun j hj => ?_
  rw [cmpTo_length] at hj
  rw [cmpTo_getD _ _ _ _ _ hj, if_neg (by omega)]
theorem set_getD2 (l : List Nat) (i v j : Nat) (hi : i < l.length) : (l.set i v).getD j 0 = if j = i then v else l.getD j 0 := by
  rw [List.getD_eq_getElem?_getD, List.getD_eq_getElem?_getD, List.getElem?_set]
  by_cases h : i = j
  · subst h; simp [hi]
  · rw [if_neg h, if_neg (fun e => h e.symm)]
theorem cmpTo_step (K : Nat → Nat) (h : List Nat) (c : Nat → Nat) (i v : Nat) (hi : i < 8) (hv : v = (rnd (stOf h) K (fun t => (schL c 48).getD t 0) 64).list.getD i 0) : (cmpTo K h c i).set i (ad (h.getD i 0) v) = cmpTo K h c (i + 1) := by
  refine getD_ext2 (by rw [List.length_set, cmpTo_length, cmpTo_length]) fun j hj => ?_
  rw [List.length_set, cmpTo_length] at hj
  rw [set_getD2 _ _ _ _ (by rw [cmpTo_length]; exact hi), cmpTo_getD _ _ _ _ _ hj, cmpTo_getD _ _ _ _ _ hj]
  by_cases e : j = i
  · rw [if_pos e, if_pos (by omega), hv, e]
  · rw [if_neg e]
    by_cases h2 : j < i
    · rw [if_pos h2, if_pos (by omega)]
    · rw [if_neg h2, if_neg (by omega)]
theorem idx8 (a b c d e f g k : Int) (i : Nat) (hi : i < 8) (w : World) : (Instr.index 100 (.agg #[.int .u32 a, .int .u32 b, .int .u32 c, .int .u32 d, .int .u32 e, .int .u32 f, .int .u32 g, .int .u32 k]) (.int .i64 (i : Int))).run Tryd.prog w = .ok (.int .u32 ([a, b, c, d, e, f, g, k].getD i 0)) w := by
  have h : i = 0 ∨ i = 1 ∨ i = 2 ∨ i = 3 ∨ i = 4 ∨ i = 5 ∨ i = 6 ∨ i = 7 := by omega
  rcases h with rfl | rfl | rfl | rfl | rfl | rfl | rfl | rfl <;> simp [Instr.index, run_underlying Tryd.underlying100, go_sem]

set_option maxRecDepth 100000 in
set_option maxHeartbeats 4000000 in
theorem compress_any (hb size : Nat) (h c KC SH : List Nat) (w : World) (H : HashAt w hb h c size) (V : Vars w KC SH) (h3 : 3 ≤ hb) :
    Calls Tryd.prog 70 #[.pointer (some ⟨hb, 0, none⟩)] w fun e w' => e = .returned (.tuple #[]) ∧ HashAt w' hb (cmp (fun i => KC.getD i 0) h (fun j => c.getD j 0)) c size ∧ Kept hb w w' := by
  have HH := hid H
  have HV := hid V
  have hsched := schedule_any hb size h c w H
  have HSC := hid hsched
  clear hsched H V
  go_enter Tryd.func70, Tryd.ntmps70
  go_wp2_with fail
  refine HSC.out.mono ?_
  rintro e w2 ⟨rfl, hb2⟩
  have hsl : (schL (fun j => c.getD j 0) 48).length = 64 := schL_length _ 48
  have hwl := schL_lt (c := fun j => c.getD j 0) HH.out.co 48
  generalize hL : schL (fun j => c.getD j 0) 48 = L at *
  have HL := hid (fun (_ : Unit) => hL)
  have H2 := hid (HH.out.same (hb2.block hb HH.out.lt))
  have V2 := hid (HV.out.below hb2)
  have hsz : (u32s L).length = 64 := by rw [u32s_length, hsl]
  have HIF := hid (show (Tryd.prog.info? 99).map (·.size) = some (u32s L).toArray.size from by rw [List.size_toArray, hsz]; kernel_rfl)
  have HB2 := hid hb2
  clear hL hb2 HSC
  have HNW := hid (show (w2.alloc (.cells (u32s (List.replicate 64 0)).toArray 99)).heap[w2.heap.size]? = some (.cells (u32s (List.replicate 64 0)).toArray 99 (0, 0)) from heap_new w2 _)
  have HOLD := hid (show (u32s (List.replicate 64 0)).toArray.size = (u32s L).toArray.size from by rw [List.size_toArray, List.size_toArray, u32s_length, List.length_replicate, hsz])
  clear hsz
  go_wp2_with (refine wpList_store_row (by rfl) 99 (.tmp 2) (.tmp 21) (by rfl) w2.heap.size (u32s (List.replicate 64 0)).toArray (u32s L).toArray 99 (by rfl) (by rfl) HNW.out HIF.out HOLD.out (u32s_one L) ?_
               intro w5 hw5 hk5)
  have hk25 : Kept w2.heap.size w2 w5 := (Kept.of_below ((Below.refl _ _).alloc (Nat.le_refl _) (.cells (u32s (List.replicate 64 0)).toArray 99))).trans hk5
  have hbl : hb < w2.heap.size := Nat.lt_of_lt_of_le HH.out.lt HB2.out.size
  have H5 := hid (H2.out.same (hk25.block hb hbl (by omega)))
  have V5 := hid (V2.out.same (hk25.block 1 (by have := V2.out.lt; omega) (by have := V2.out.lt; omega)) (hk25.block 2 (by have := V2.out.lt; omega) (by have := V2.out.lt; omega)) hk25.size)
  have HO5 := hid (show OwnW w5 w2.heap.size L from hw5)
  have HB5 := hid (HB2.out.trans (hk25.below HB2.out.size (by have := HB2.out.size; omega)))
  have g0 := H5.out.word 0 (by omega)
  have g1 := H5.out.word 1 (by omega)
  have g2 := H5.out.word 2 (by omega)
  have g3 := H5.out.word 3 (by omega)
  have g4 := H5.out.word 4 (by omega)
  have g5 := H5.out.word 5 (by omega)
  have g6 := H5.out.word 6 (by omega)
  have g7 := H5.out.word 7 (by omega)
  have hk5' := hid hk5
  obtain ⟨s0, hs0⟩ : ∃ s, s = stOf h := ⟨_, rfl⟩
  have hok0 : s0.Ok := by rw [hs0]; exact stOf_ok HH.out.ho
  rw [show h.getD 0 0 = s0.a from by rw [hs0]; rfl] at g0
  rw [show h.getD 1 0 = s0.b from by rw [hs0]; rfl] at g1
  rw [show h.getD 2 0 = s0.c from by rw [hs0]; rfl] at g2
  rw [show h.getD 3 0 = s0.d from by rw [hs0]; rfl] at g3
  rw [show h.getD 4 0 = s0.e from by rw [hs0]; rfl] at g4
  rw [show h.getD 5 0 = s0.f from by rw [hs0]; rfl] at g5
  rw [show h.getD 6 0 = s0.g from by rw [hs0]; rfl] at g6
  rw [show h.getD 7 0 = s0.h from by rw [hs0]; rfl] at g7
  have HS0 := hid (fun (_ : Unit) => hs0)
  have HIFK := hid (show (Tryd.prog.info? 99).map (·.size) = some (u32s KC).length from by rw [u32s_length, HV.out.kl]; kernel_rfl)
  clear hw5 hk5 hk25 hs0 HNW HOLD HIF
  go_quiet (fail)
  obtain ⟨w6, hw6⟩ : ∃ w6, w6 = w5.drewN nq := ⟨_, rfl⟩
  have HO6 := hid (show OwnW w6 w2.heap.size L from by rw [hw6]; exact HO5.out)
  have H6 := hid (show HashAt w6 hb h c size from H5.out.same (by rw [hw6]; rfl))
  have V6 := hid (show Vars w6 KC SH from V5.out.same (by rw [hw6]; rfl) (by rw [hw6]; rfl) (by rw [hw6]; exact Nat.le_refl _))
  have HB6 := hid (show Below w.heap.size w w6 from by rw [hw6]; exact bel_drewN HB5.out _)
  rw [← hw6]
  clear g0 g1 g2 g3 g4 g5 g6 g7 hw6 HO5 H5 V5 HB5
  go_wp2_with (refine wpList_load_mid (by rfl) 99 (.global 2) (by rfl) 2 0 (by rfl) (u32s KC) _ V6.out.rc Tryd.underlying99 rfl HIFK.out ?_)
  obtain ⟨KF, hKF⟩ : ∃ KF : Nat → Nat, KF = fun i => KC.getD i 0 := ⟨_, rfl⟩
  obtain ⟨WF, hWF⟩ : ∃ WF : Nat → Nat, WF = fun t => L.getD t 0 := ⟨_, rfl⟩
  have HKF := hid hKF
  have HWF := hid hWF
  clear hKF hWF
  go_loop [3, 4, 5, 6, 7, 8, 9, 10, 63] (fun va vb vc vd ve vf vg vh iv => ∃ t : Nat, t ≤ 64 ∧ iv = .int .i64 t ∧ va = .int .u32 ((rnd s0 KF WF t).a : Nat) ∧ vb = .int .u32 ((rnd s0 KF WF t).b : Nat) ∧ vc = .int .u32 ((rnd s0 KF WF t).c : Nat) ∧ vd = .int .u32 ((rnd s0 KF WF t).d : Nat) ∧ ve = .int .u32 ((rnd s0 KF WF t).e : Nat) ∧ vf = .int .u32 ((rnd s0 KF WF t).f : Nat) ∧ vg = .int .u32 ((rnd s0 KF WF t).g : Nat) ∧ vh = .int .u32 ((rnd s0 KF WF t).h : Nat)) (fun _ _ _ _ _ _ _ _ iv => 64 - (intOf iv).toNat)
  case atStart => exact ⟨0, by omega, rfl, rfl, rfl, rfl, rfl, rfl, rfl, rfl, rfl⟩
  case round =>
    obtain ⟨t, ht, rfl, rfl, rfl, rfl, rfl, rfl, rfl, rfl, rfl⟩ := hrel
    have hok := rnd_ok hok0 KF WF t
    by_cases ht64 : t < 64
    · have hT : (t : Int) < 64 := by omega
      have hst1 : rnd s0 KF WF (t + 1) = (rnd s0 KF WF t).step (KF t) (WF t) := rfl
      have hstep := hid (fun (_ : Unit) => hst1)
      clear hst1
      generalize rnd s0 KF WF t = S at *
      obtain ⟨a, b, c1, d, e, f, g, k1⟩ := S
      have oa := hok.a
      have ob := hok.b
      have oc := hok.c
      have od := hok.d
      have oe := hok.e
      have of := hok.f
      have og := hok.g
      have oh := hok.h
      simp only at oa ob oc od oe of og oh
      clear hok
      have cw := HO6.out.cell t (by rw [hsl]; exact ht64)
      have hwx : WF t < 4294967296 := by
        rw [HWF.out]
        show L.getD t 0 < _
        rw [List.getD_eq_getElem?_getD, List.getElem?_eq_getElem (by omega)]
        exact hwl _ (List.getElem_mem _)
      have hkx : KF t < 4294967296 := by rw [HKF.out]; exact HV.out.ko t
      rw [show L.getD t 0 = WF t from by rw [HWF.out]] at cw
      have hix : (u32s KC)[t]? = some (.int .u32 ((KF t : Nat) : Int)) := by
        have h9 : t < KC.length := by rw [HV.out.kl]; exact ht64
        rw [HKF.out]
        simp [u32s, h9]
      have hidx : (Instr.index 99 (.agg (u32s KC).toArray) (.int .i64 (t : Int))).run Tryd.prog w6 = .ok (.int .u32 ((KF t : Nat) : Int)) w6 := by
        simp [Instr.index, run_underlying Tryd.underlying99, ht64, hix, go_sem]
      generalize WF t = x at *
      generalize KF t = kc at *
      have HSTA := hid (fun (_ : Unit) => (St.step_a ⟨a, b, c1, d, e, f, g, k1⟩ kc x))
      have HSTE := hid (fun (_ : Unit) => (St.step_e ⟨a, b, c1, d, e, f, g, k1⟩ kc x))
      simp only at HSTA HSTE
      obtain ⟨r1, hr1⟩ : ∃ r, r = rot e 26 := ⟨_, rfl⟩
      obtain ⟨r2, hr2⟩ : ∃ r, r = rot e 21 := ⟨_, rfl⟩
      obtain ⟨r3, hr3⟩ : ∃ r, r = rot e 7 := ⟨_, rfl⟩
      obtain ⟨r4, hr4⟩ : ∃ r, r = rot a 30 := ⟨_, rfl⟩
      obtain ⟨r5, hr5⟩ : ∃ r, r = rot a 19 := ⟨_, rfl⟩
      obtain ⟨r6, hr6⟩ : ∃ r, r = rot a 10 := ⟨_, rfl⟩
      have l1 : r1 < 4294967296 := by rw [hr1]; exact rot_lt oe _
      have l2 : r2 < 4294967296 := by rw [hr2]; exact rot_lt oe _
      have l3 : r3 < 4294967296 := by rw [hr3]; exact rot_lt oe _
      have l4 : r4 < 4294967296 := by rw [hr4]; exact rot_lt oa _
      have l5 : r5 < 4294967296 := by rw [hr5]; exact rot_lt oa _
      have l6 : r6 < 4294967296 := by rw [hr6]; exact rot_lt oa _
      obtain ⟨r12, h12⟩ : ∃ r, r = r1 ^^^ r2 := ⟨_, rfl⟩
      obtain ⟨r45, h45⟩ : ∃ r, r = r4 ^^^ r5 := ⟨_, rfl⟩
      have l12 : r12 < 4294967296 := by rw [h12]; exact xor_lt32 l1 l2
      have l45 : r45 < 4294967296 := by rw [h45]; exact xor_lt32 l4 l5
      obtain ⟨Ez, hEz⟩ : ∃ r, r = bsE e := ⟨_, rfl⟩
      obtain ⟨Az, hAz⟩ : ∃ r, r = bsA a := ⟨_, rfl⟩
      obtain ⟨Cz, hCz⟩ : ∃ r, r = chs e f g := ⟨_, rfl⟩
      obtain ⟨Mz, hMz⟩ : ∃ r, r = maj a b c1 := ⟨_, rfl⟩
      obtain ⟨n1, hn1⟩ : ∃ r, r = e &&& f := ⟨_, rfl⟩
      obtain ⟨ne, hne⟩ : ∃ r, r = 4294967295 ^^^ e := ⟨_, rfl⟩
      obtain ⟨n2, hn2⟩ : ∃ r, r = ne &&& g := ⟨_, rfl⟩
      obtain ⟨m1, hm1⟩ : ∃ r, r = a &&& b := ⟨_, rfl⟩
      obtain ⟨m2, hm2⟩ : ∃ r, r = a &&& c1 := ⟨_, rfl⟩
      obtain ⟨m3, hm3⟩ : ∃ r, r = b &&& c1 := ⟨_, rfl⟩
      obtain ⟨m12, hm12⟩ : ∃ r, r = m1 ^^^ m2 := ⟨_, rfl⟩
      have ln1 : n1 < 4294967296 := by rw [hn1]; exact and_lt32 oe _
      have lne : ne < 4294967296 := by rw [hne]; exact xor_lt32 (by omega) oe
      have ln2 : n2 < 4294967296 := by rw [hn2]; exact and_lt32 lne _
      have lm1 : m1 < 4294967296 := by rw [hm1]; exact and_lt32 oa _
      have lm2 : m2 < 4294967296 := by rw [hm2]; exact and_lt32 oa _
      have lm3 : m3 < 4294967296 := by rw [hm3]; exact and_lt32 ob _
      have lm12 : m12 < 4294967296 := by rw [hm12]; exact xor_lt32 lm1 lm2
      have e1 : bits .xor .u32 (r1 : Int) (r2 : Int) = (r12 : Int) := by rw [h12]; exact u32_xor_nat r1 r2 l1 l2
      have e2 : bits .xor .u32 (r12 : Int) (r3 : Int) = (Ez : Int) := by rw [u32_xor_nat r12 r3 l12 l3, hEz, h12, hr1, hr2, hr3]; rfl
      have e3 : bits .xor .u32 (r4 : Int) (r5 : Int) = (r45 : Int) := by rw [h45]; exact u32_xor_nat r4 r5 l4 l5
      have e4 : bits .xor .u32 (r45 : Int) (r6 : Int) = (Az : Int) := by rw [u32_xor_nat r45 r6 l45 l6, hAz, h45, hr4, hr5, hr6]; rfl
      have e5 : bits .and .u32 (e : Int) (f : Int) = (n1 : Int) := by rw [hn1]; exact u32_and_nat e f oe of
      have e6 : bits .xor .u32 IntKind.u32.max (e : Int) = (ne : Int) := by rw [hne]; exact u32_xor_nat 4294967295 e (by omega) oe
      have e7 : bits .and .u32 (ne : Int) (g : Int) = (n2 : Int) := by rw [hn2]; exact u32_and_nat ne g lne og
      have e8 : bits .xor .u32 (n1 : Int) (n2 : Int) = (Cz : Int) := by rw [u32_xor_nat n1 n2 ln1 ln2, hCz, hn1, hn2, hne]; rfl
      have e9 : bits .and .u32 (a : Int) (b : Int) = (m1 : Int) := by rw [hm1]; exact u32_and_nat a b oa ob
      have e10 : bits .and .u32 (a : Int) (c1 : Int) = (m2 : Int) := by rw [hm2]; exact u32_and_nat a c1 oa oc
      have e11 : bits .and .u32 (b : Int) (c1 : Int) = (m3 : Int) := by rw [hm3]; exact u32_and_nat b c1 ob oc
      have e12 : bits .xor .u32 (m1 : Int) (m2 : Int) = (m12 : Int) := by rw [hm12]; exact u32_xor_nat m1 m2 lm1 lm2
      have e13 : bits .xor .u32 (m12 : Int) (m3 : Int) = (Mz : Int) := by rw [u32_xor_nat m12 m3 lm12 lm3, hMz, hm12, hm1, hm2, hm3]; rfl
      rw [← hEz, ← hAz, ← hCz, ← hMz] at HSTA
      rw [← hEz, ← hCz] at HSTE
      have R1 := hid (fun w => rot_any e 26 (-6) (by kernel_rfl) (by omega) (by omega) oe w)
      have R2 := hid (fun w => rot_any e 21 (-11) (by kernel_rfl) (by omega) (by omega) oe w)
      have R3 := hid (fun w => rot_any e 7 (-25) (by kernel_rfl) (by omega) (by omega) oe w)
      have R4 := hid (fun w => rot_any a 30 (-2) (by kernel_rfl) (by omega) (by omega) oa w)
      have R5 := hid (fun w => rot_any a 19 (-13) (by kernel_rfl) (by omega) (by omega) oa w)
      have R6 := hid (fun w => rot_any a 10 (-22) (by kernel_rfl) (by omega) (by omega) oa w)
      rw [← hr1] at R1
      rw [← hr2] at R2
      rw [← hr3] at R3
      rw [← hr4] at R4
      rw [← hr5] at R5
      rw [← hr6] at R6
      clear hr1 hr2 hr3 hr4 hr5 hr6 h12 h45 hEz hAz hCz hMz hn1 hne hn2 hm1 hm2 hm3 hm12
      go_wp2_with fail
      refine (R1.out _).mono ?_
      rintro e9 w' ⟨rfl, rfl⟩
      go_wp2_with fail
      refine (R2.out _).mono ?_
      rintro e9 w' ⟨rfl, rfl⟩
      go_wp2_with fail
      refine (R3.out _).mono ?_
      rintro e9 w' ⟨rfl, rfl⟩
      go_wp2_with fail
      refine (R4.out _).mono ?_
      rintro e9 w' ⟨rfl, rfl⟩
      go_wp2_with fail
      refine (R5.out _).mono ?_
      rintro e9 w' ⟨rfl, rfl⟩
      go_wp2_with fail
      refine (R6.out _).mono ?_
      rintro e9 w' ⟨rfl, rfl⟩
      go_wp2_with fail
      go_round
      case rel =>
        have hs9 := hstep.out ()
        refine ⟨t + 1, by omega, by go_num, ?_, by rw [hs9]; rfl, by rw [hs9]; rfl, by rw [hs9]; rfl, ?_, by rw [hs9]; rfl, by rw [hs9]; rfl, by rw [hs9]; rfl⟩
        · rw [hs9, HSTA.out ()]
          exact congrArg (Value.int IntKind.u32) (by omega)
        · rw [hs9, HSTE.out ()]
          exact congrArg (Value.int IntKind.u32) (by omega)
      case measure => simp [intOf]; omega
    · have ht' : t = 64 := by omega
      have hT : ¬ ((t : Int) < 64) := by omega
      obtain ⟨S, hS⟩ : ∃ S, S = rnd s0 KF WF t := ⟨_, rfl⟩
      have hlist := hid (fun (_ : Unit) => (show S.list = (rnd (stOf h) (fun i => KC.getD i 0) (fun t => (schL (fun j => c.getD j 0) 48).getD t 0) 64).list from by rw [hS, HS0.out (), HKF.out, HWF.out, HL.out (), ht']))
      rw [← hS] at hok ⊢
      clear hS ht'
      obtain ⟨a, b, c1, d, e, f, g, k1⟩ := S
      have oa := hok.a
      have ob := hok.b
      have oc := hok.c
      have od := hok.d
      have oe := hok.e
      have of := hok.f
      have og := hok.g
      have oh := hok.h
      simp only at oa ob oc od oe of og oh
      have hvl : ∀ j, (St.list ⟨a, b, c1, d, e, f, g, k1⟩).getD j 0 < 4294967296 := by
        intro j
        unfold St.list
        match j with
        | 0 => exact oa
        | 1 => exact ob
        | 2 => exact oc
        | 3 => exact od
        | 4 => exact oe
        | 5 => exact of
        | 6 => exact og
        | 7 => exact oh
        | j + 8 => show ([] : List Nat).getD j 0 < _; rw [List.getD_nil]; decide
      clear hok
      have H7 := hid (show HashAt w6 hb (cmpTo (fun i => KC.getD i 0) h (fun j => c.getD j 0) 0) c size from by rw [cmpTo_zero _ _ _ HH.out.hl]; exact H6.out)
      have HK7 := hid (Kept.of_below (b := hb) HB6.out)
      have hsc : ∀ j, j < 8 → [(a : Int), b, c1, d, e, f, g, k1].getD j 0 = (((St.list ⟨a, b, c1, d, e, f, g, k1⟩).getD j 0 : Nat) : Int) := fun j hj => by
        have h : j = 0 ∨ j = 1 ∨ j = 2 ∨ j = 3 ∨ j = 4 ∨ j = 5 ∨ j = 6 ∨ j = 7 := by omega
        rcases h with rfl | rfl | rfl | rfl | rfl | rfl | rfl | rfl <;> rfl
      have HSCC := hid hsc
      clear hsc H6
      go_wp2
      go_loopw [137] (fun iv wr => ∃ i : Nat, i ≤ 8 ∧ iv = .int .i64 i ∧ Hid (HashAt wr hb (cmpTo (fun i => KC.getD i 0) h (fun j => c.getD j 0) i) c size) ∧ Hid (Kept hb w wr)) (fun iv _ => 8 - (intOf iv).toNat)
      case atStart => exact ⟨0, by omega, rfl, H7, HK7⟩
      case round =>
        clear H7 HK7
        obtain ⟨i, hi, rfl, H7, HK7⟩ := hrel
        by_cases hi8 : i < 8
        · have hI : (i : Int) < 8 := by omega
          have c1' := H7.out.word i hi8
          rw [cmpTo_getD _ _ _ _ _ hi8, if_neg (by omega)] at c1'
          have f1 := H7.out.free i
          have hidx := fun w' => idx8 (a : Int) b c1 d e f g k1 i hi8 w'
          rw [HSCC.out i hi8] at hidx
          have hvv := hvl i
          have hlv := congrArg (fun l => l.getD i 0) (hlist.out ())
          generalize (St.list ⟨a, b, c1, d, e, f, g, k1⟩).getD i 0 = v at *
          have hst := fun nq => (show HashAt (wr.drewN nq) hb _ c size from H7.out.same rfl).set_word i (ad (h.getD i 0) v) hi8 (ad_lt _ _)
          rw [cmpTo_step _ _ _ _ _ hi8 hlv] at hst
          have HST := hid hst
          have hpl := HH.out.ho i
          clear hst hlv
          generalize h.getD i 0 = p at *
          have hadd : IntKind.u32.wrap ((p : Int) + (v : Int)) = ((ad p v : Nat) : Int) := by rw [IntKind.wrap_u32']; unfold ad; omega
          go_wp2
          refine region_quiet_tail 11 (by kernel_rfl) (by kernel_rfl) ?_
          simp only [List.take_succ_cons, List.take_zero, List.drop_succ_cons, List.drop_zero]
          repeat (quiet_step (fail))
          refine wpQuiet_nil ?_
          intro nq
          go_wp2
          exact ⟨⟨i + 1, by omega, by go_num, hid (HST.out nq), hid ((HK7.out.drewN nq).setCell (p := ⟨hb, i, none⟩) rfl _)⟩, by simp [intOf]; omega⟩
        · obtain rfl : i = 8 := by omega
          go_wp2
          go_end0
          exact ⟨rfl, H7.out, HK7.out⟩
end Go.Proofs.YtafkjfpmjhfofaaDoor
