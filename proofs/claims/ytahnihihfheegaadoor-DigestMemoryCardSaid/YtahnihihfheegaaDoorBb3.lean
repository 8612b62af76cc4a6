/-
  compress: a chunk taken into the state. · The inner functions of the field over its tables: doubling, mul, inverse, power. · newLagrange: the scales of the places. · weights: the weight of each place in the value at x; bytes.IndexByte over bytes that read as a list. · addScaled: a row of bytes plus a multiple of another one.
-/
import Derived.Test.YtahnihihfheegaaDoorBb2
import Derived.Test.YtahnihihfheegaaDoorBb1
import Derived.Deep.QuietTactic
import Derived.BigQuiet
import Derived.Outline
import Derived.Deep.RegionWith
import Derived.Lib.BytesEntry
import Derived.Deep.RegionHeld3
namespace Go.Proofs.YtahnihihfheegaaDoor
open Go Go.RowKit
set_option linter.unusedVariables false

/-- the two listed variables hold what the program's text lays -/
structure Vars (w : World) (KC SH : List Nat) : Prop where
  start : w.rangeAt 1 0 (u32s SH)
  rc : w.rangeAt 2 0 (u32s KC)
  lt : 2 < w.heap.size
  kl : KC.length = 64
  sl : SH.length = 8
  ko : ∀ i, KC.getD i 0 < 4294967296
  so : ∀ i, SH.getD i 0 < 4294967296
theorem Vars.same {w w' : World} {KC SH : List Nat} (V : Vars w KC SH) (h1 : w'.heap[1]? = w.heap[1]?) (h2 : w'.heap[2]? = w.heap[2]?) (hs : w.heap.size ≤ w'.heap.size) : Vars w' KC SH :=
  ⟨fun j v hj => (World.cell?_of_block (a := ⟨1, 0 + j, none⟩) h1).trans (V.start j v hj), fun j v hj => (World.cell?_of_block (a := ⟨2, 0 + j, none⟩) h2).trans (V.rc j v hj), Nat.lt_of_lt_of_le V.lt hs, V.kl, V.sl, V.ko, V.so⟩
theorem Vars.below {w w' : World} {KC SH : List Nat} (V : Vars w KC SH) (hb : Below w.heap.size w w') : Vars w' KC SH := V.same (hb.block 1 (by have := V.lt; omega)) (hb.block 2 (by have := V.lt; omega)) hb.size
theorem Vars.kept {w w' : World} {KC SH : List Nat} {b : Nat} (V : Vars w KC SH) (k : Kept b w w') (h : 3 ≤ b) : Vars w' KC SH := V.same (k.block 1 (by have := V.lt; omega) (by omega)) (k.block 2 (by have := V.lt; omega) (by omega)) k.size
theorem HashAt.set_word {w : World} {hb : Nat} {h c : List Nat} {size : Nat} (H : HashAt w hb h c size) (i n : Nat) (hi : i < 8) (hn : n < 4294967296) : HashAt (w.setCell ⟨hb, i, none⟩ (.int .u32 ((n : Nat) : Int))) hb (h.set i n) c size := by
  have h1 := heap_set H.at_ i (.int .u32 n)
  refine ⟨?_, by rw [List.length_set]; exact H.hl, H.cl, fun j => ?_, H.co⟩
  · rw [h1]
    have h2 : i < (u32s h).length := by rw [u32s_length, H.hl]; exact hi
    unfold hcells
    rw [List.setIfInBounds_toArray, List.set_append_left _ _ h2]
    simp [u32s, List.map_set]
  · rw [List.getD_eq_getElem?_getD, List.getElem?_set]
    split
    · split
      · exact hn
      · decide
    · rw [← List.getD_eq_getElem?_getD]; exact H.ho j
theorem HashAt.free {w : World} {hb : Nat} {h c : List Nat} {size : Nat} (H : HashAt w hb h c size) (i : Nat) : w.frozen? ⟨hb, i, none⟩ = false := free_of_heap H.at_ i
theorem cmpTo_length (K : Nat → Nat) (h : List Nat) (c : Nat → Nat) (i : Nat) : (cmpTo K h c i).length = 8 := by simp [cmpTo]
theorem cmpTo_getD (K : Nat → Nat) (h : List Nat) (c : Nat → Nat) (i j : Nat) (hj : j < 8) : (cmpTo K h c i).getD j 0 = if j < i then ad (h.getD j 0) ((rnd (stOf h) K (fun t => (schL c 48).getD t 0) 64).list.getD j 0) else h.getD j 0 := by
  unfold cmpTo
  rw [List.getD_eq_getElem?_getD, List.getElem?_map, List.getElem?_range hj]
  rfl
theorem cmpTo_zero (K : Nat → Nat) (h : List Nat) (c : Nat → Nat) (hl : h.length = 8) : cmpTo K h c 0 = h := by
  refine getD_ext2 (by rw [cmpTo_length, hl]) fun j hj => ?_
  rw [cmpTo_length] at hj
  rw [cmpTo_getD _ _ _ _ _ hj, if_neg (by omega)]
theorem set_getD2 (l : List Nat) (i v j : Nat) (hi : i < l.length) : (l.set i v).getD j 0 = if j = i then v else l.getD j 0 := by
  rw [List.getD_eq_getElem?_getD, List.getD_eq_getElem?_getD, List.getElem?_set]
  by_cases h : i = j
  · subst h; simp [hi]
  · rw [if_neg h, if_neg (fun e => h e.symm)]
theorem cmpTo_step (K : Nat → Nat) (h : List Nat) (c : Nat → Nat) (i v : Nat) (hi : i < 8) (hv : v = (rnd (stOf h) K (fun t => (schL c 48).getD t 0) 64).list.getD i 0) : (cmpTo K h c i).set i (ad (h.getD i 0) v) = cmpTo K h c (i + 1) := by
  refine getD_ext2 (by rw [List.length_set, cmpTo_length, cmpTo_length]) fun j hj => ?_
  rw [List.length_set, cmpTo_length] at hj
  rw [set_getD2 _ _ _ _ (by rw [cmpTo_length]; exact hi), cmpTo_getD _ _ _ _ _ hj, cmpTo_getD _ _ _ _ _ hj]
  by_cases e : j = i
  · rw [if_pos e, if_pos (by omega), hv, e]
  · rw [if_neg e]
    by_cases h2 : j < i
    · rw [if_pos h2, if_pos (by omega)]
    · rw [if_neg h2, if_neg (by omega)]
theorem idx8 (a b c d e f g k : Int) (i : Nat) (hi : i < 8) (w : World) : (Instr.index 108 (.agg #[.int .u32 a, .int .u32 b, .int .u32 c, .int .u32 d, .int .u32 e, .int .u32 f, .int .u32 g, .int .u32 k]) (.int .i64 (i : Int))).run Tryd.prog w = .ok (.int .u32 ([a, b, c, d, e, f, g, k].getD i 0)) w := by
  have h : i = 0 ∨ i = 1 ∨ i = 2 ∨ i = 3 ∨ i = 4 ∨ i = 5 ∨ i = 6 ∨ i = 7 := by omega
  rcases h with rfl | rfl | rfl | rfl | rfl | rfl | rfl | rfl <;> simp [Instr.index, run_underlying Tryd.underlying108, go_sem]

set_option maxRecDepth 100000 in
set_option maxHeartbeats 4000000 in
theorem compress_any (hb size : Nat) (h c KC SH : List Nat) (w : World) (H : HashAt w hb h c size) (V : Vars w KC SH) (h3 : 3 ≤ hb) :
    Calls Tryd.prog 62 #[.pointer (some ⟨hb, 0, none⟩)] w fun e w' => e = .returned (.tuple #[]) ∧ HashAt w' hb (cmp (fun i => KC.getD i 0) h (fun j => c.getD j 0)) c size ∧ Kept hb w w' := by
  have HH := hid H
  have HV := hid V
  have hsched := schedule_any hb size h c w H
  have HSC := hid hsched
  clear hsched H V
  go_enter Tryd.func62, Tryd.ntmps62
  go_wp2_with fail
  refine HSC.out.mono ?_
  rintro e w2 ⟨rfl, hb2⟩
  have hsl : (schL (fun j => c.getD j 0) 48).length = 64 := schL_length _ 48
  have hwl := schL_lt (c := fun j => c.getD j 0) HH.out.co 48
  generalize hL : schL (fun j => c.getD j 0) 48 = L at *
  have HL := hid (fun (_ : Unit) => hL)
  have H2 := hid (HH.out.same (hb2.block hb HH.out.lt))
  have V2 := hid (HV.out.below hb2)
  have hsz : (u32s L).length = 64 := by rw [u32s_length, hsl]
  have HIF := hid (show (Tryd.prog.info? 107).map (·.size) = some (u32s L).toArray.size from by rw [List.size_toArray, hsz]; kernel_rfl)
  have HB2 := hid hb2
  clear hL hb2 HSC
  have HNW := hid (show (w2.alloc (.cells (u32s (List.replicate 64 0)).toArray 107)).heap[w2.heap.size]? = some (.cells (u32s (List.replicate 64 0)).toArray 107 (0, 0)) from heap_new w2 _)
  have HOLD := hid (show (u32s (List.replicate 64 0)).toArray.size = (u32s L).toArray.size from by rw [List.size_toArray, List.size_toArray, u32s_length, List.length_replicate, hsz])
  clear hsz
  go_wp2_with (refine wpList_store_row (by rfl) 107 (.tmp 2) (.tmp 21) (by rfl) w2.heap.size (u32s (List.replicate 64 0)).toArray (u32s L).toArray 107 (by rfl) (by rfl) HNW.out HIF.out HOLD.out (u32s_one L) ?_
               intro w5 hw5 hk5)
  have hk25 : Kept w2.heap.size w2 w5 := (Kept.of_below ((Below.refl _ _).alloc (Nat.le_refl _) (.cells (u32s (List.replicate 64 0)).toArray 107))).trans hk5
  have hbl : hb < w2.heap.size := Nat.lt_of_lt_of_le HH.out.lt HB2.out.size
  have H5 := hid (H2.out.same (hk25.block hb hbl (by omega)))
  have V5 := hid (V2.out.same (hk25.block 1 (by have := V2.out.lt; omega) (by have := V2.out.lt; omega)) (hk25.block 2 (by have := V2.out.lt; omega) (by have := V2.out.lt; omega)) hk25.size)
  have HO5 := hid (show OwnW w5 w2.heap.size L from hw5)
  have HB5 := hid (HB2.out.trans (hk25.below HB2.out.size (by have := HB2.out.size; omega)))
  have g0 := H5.out.word 0 (by omega)
  have g1 := H5.out.word 1 (by omega)
  have g2 := H5.out.word 2 (by omega)
  have g3 := H5.out.word 3 (by omega)
  have g4 := H5.out.word 4 (by omega)
  have g5 := H5.out.word 5 (by omega)
  have g6 := H5.out.word 6 (by omega)
  have g7 := H5.out.word 7 (by omega)
  have hk5' := hid hk5
  obtain ⟨s0, hs0⟩ : ∃ s, s = stOf h := ⟨_, rfl⟩
  have hok0 : s0.Ok := by rw [hs0]; exact stOf_ok HH.out.ho
  rw [show h.getD 0 0 = s0.a from by rw [hs0]; rfl] at g0
  rw [show h.getD 1 0 = s0.b from by rw [hs0]; rfl] at g1
  rw [show h.getD 2 0 = s0.c from by rw [hs0]; rfl] at g2
  rw [show h.getD 3 0 = s0.d from by rw [hs0]; rfl] at g3
  rw [show h.getD 4 0 = s0.e from by rw [hs0]; rfl] at g4
  rw [show h.getD 5 0 = s0.f from by rw [hs0]; rfl] at g5
  rw [show h.getD 6 0 = s0.g from by rw [hs0]; rfl] at g6
  rw [show h.getD 7 0 = s0.h from by rw [hs0]; rfl] at g7
  have HS0 := hid (fun (_ : Unit) => hs0)
  have HIFK := hid (show (Tryd.prog.info? 107).map (·.size) = some (u32s KC).length from by rw [u32s_length, HV.out.kl]; kernel_rfl)
  clear hw5 hk5 hk25 hs0 HNW HOLD HIF
  go_quiet (fail)
  obtain ⟨w6, hw6⟩ : ∃ w6, w6 = w5.drewN nq := ⟨_, rfl⟩
  have HO6 := hid (show OwnW w6 w2.heap.size L from by rw [hw6]; exact HO5.out)
  have H6 := hid (show HashAt w6 hb h c size from H5.out.same (by rw [hw6]; rfl))
  have V6 := hid (show Vars w6 KC SH from V5.out.same (by rw [hw6]; rfl) (by rw [hw6]; rfl) (by rw [hw6]; exact Nat.le_refl _))
  have HB6 := hid (show Below w.heap.size w w6 from by rw [hw6]; exact bel_drewN HB5.out _)
  rw [← hw6]
  clear g0 g1 g2 g3 g4 g5 g6 g7 hw6 HO5 H5 V5 HB5
  go_wp2_with (refine wpList_load_mid (by rfl) 107 (.global 2) (by rfl) 2 0 (by rfl) (u32s KC) _ V6.out.rc Tryd.underlying107 rfl HIFK.out ?_)
  obtain ⟨KF, hKF⟩ : ∃ KF : Nat → Nat, KF = fun i => KC.getD i 0 := ⟨_, rfl⟩
  obtain ⟨WF, hWF⟩ : ∃ WF : Nat → Nat, WF = fun t => L.getD t 0 := ⟨_, rfl⟩
  have HKF := hid hKF
  have HWF := hid hWF
  clear hKF hWF
  go_loop [3, 4, 5, 6, 7, 8, 9, 10, 63] (fun va vb vc vd ve vf vg vh iv => ∃ t : Nat, t ≤ 64 ∧ iv = .int .i64 t ∧ va = .int .u32 ((rnd s0 KF WF t).a : Nat) ∧ vb = .int .u32 ((rnd s0 KF WF t).b : Nat) ∧ vc = .int .u32 ((rnd s0 KF WF t).c : Nat) ∧ vd = .int .u32 ((rnd s0 KF WF t).d : Nat) ∧ ve = .int .u32 ((rnd s0 KF WF t).e : Nat) ∧ vf = .int .u32 ((rnd s0 KF WF t).f : Nat) ∧ vg = .int .u32 ((rnd s0 KF WF t).g : Nat) ∧ vh = .int .u32 ((rnd s0 KF WF t).h : Nat)) (fun _ _ _ _ _ _ _ _ iv => 64 - (intOf iv).toNat)
  case atStart => exact ⟨0, by omega, rfl, rfl, rfl, rfl, rfl, rfl, rfl, rfl, rfl⟩
  case round =>
    obtain ⟨t, ht, rfl, rfl, rfl, rfl, rfl, rfl, rfl, rfl, rfl⟩ := hrel
    have hok := rnd_ok hok0 KF WF t
    by_cases ht64 : t < 64
    · have hT : (t : Int) < 64 := by omega
      have hst1 : rnd s0 KF WF (t + 1) = (rnd s0 KF WF t).step (KF t) (WF t) := rfl
      have hstep := hid (fun (_ : Unit) => hst1)
      clear hst1
      generalize rnd s0 KF WF t = S at *
      obtain ⟨a, b, c1, d, e, f, g, k1⟩ := S
      have oa := hok.a
      have ob := hok.b
      have oc := hok.c
      have od := hok.d
      have oe := hok.e
      have of := hok.f
      have og := hok.g
      have oh := hok.h
      simp only at oa ob oc od oe of og oh
      clear hok
      have cw := HO6.out.cell t (by rw [hsl]; exact ht64)
      have hwx : WF t < 4294967296 := by
        rw [HWF.out]
        show L.getD t 0 < _
        rw [List.getD_eq_getElem?_getD, List.getElem?_eq_getElem (by omega)]
        exact hwl _ (List.getElem_mem _)
      have hkx : KF t < 4294967296 := by rw [HKF.out]; exact HV.out.ko t
      rw [show L.getD t 0 = WF t from by rw [HWF.out]] at cw
      have hix : (u32s KC)[t]? = some (.int .u32 ((KF t : Nat) : Int)) := by
        have h9 : t < KC.length := by rw [HV.out.kl]; exact ht64
        rw [HKF.out]
        simp [u32s, h9]
      have hidx : (Instr.index 107 (.agg (u32s KC).toArray) (.int .i64 (t : Int))).run Tryd.prog w6 = .ok (.int .u32 ((KF t : Nat) : Int)) w6 := by
        simp [Instr.index, run_underlying Tryd.underlying107, ht64, hix, go_sem]
      generalize WF t = x at *
      generalize KF t = kc at *
      have HSTA := hid (fun (_ : Unit) => (St.step_a ⟨a, b, c1, d, e, f, g, k1⟩ kc x))
      have HSTE := hid (fun (_ : Unit) => (St.step_e ⟨a, b, c1, d, e, f, g, k1⟩ kc x))
      simp only at HSTA HSTE
      obtain ⟨r1, hr1⟩ : ∃ r, r = rot e 26 := ⟨_, rfl⟩
      obtain ⟨r2, hr2⟩ : ∃ r, r = rot e 21 := ⟨_, rfl⟩
      obtain ⟨r3, hr3⟩ : ∃ r, r = rot e 7 := ⟨_, rfl⟩
      obtain ⟨r4, hr4⟩ : ∃ r, r = rot a 30 := ⟨_, rfl⟩
      obtain ⟨r5, hr5⟩ : ∃ r, r = rot a 19 := ⟨_, rfl⟩
      obtain ⟨r6, hr6⟩ : ∃ r, r = rot a 10 := ⟨_, rfl⟩
      have l1 : r1 < 4294967296 := by rw [hr1]; exact rot_lt oe _
      have l2 : r2 < 4294967296 := by rw [hr2]; exact rot_lt oe _
      have l3 : r3 < 4294967296 := by rw [hr3]; exact rot_lt oe _
      have l4 : r4 < 4294967296 := by rw [hr4]; exact rot_lt oa _
      have l5 : r5 < 4294967296 := by rw [hr5]; exact rot_lt oa _
      have l6 : r6 < 4294967296 := by rw [hr6]; exact rot_lt oa _
      obtain ⟨r12, h12⟩ : ∃ r, r = r1 ^^^ r2 := ⟨_, rfl⟩
      obtain ⟨r45, h45⟩ : ∃ r, r = r4 ^^^ r5 := ⟨_, rfl⟩
      have l12 : r12 < 4294967296 := by rw [h12]; exact xor_lt32 l1 l2
      have l45 : r45 < 4294967296 := by rw [h45]; exact xor_lt32 l4 l5
      obtain ⟨Ez, hEz⟩ : ∃ r, r = bsE e := ⟨_, rfl⟩
      obtain ⟨Az, hAz⟩ : ∃ r, r = bsA a := ⟨_, rfl⟩
      obtain ⟨Cz, hCz⟩ : ∃ r, r = chs e f g := ⟨_, rfl⟩
      obtain ⟨Mz, hMz⟩ : ∃ r, r = maj a b c1 := ⟨_, rfl⟩
      obtain ⟨n1, hn1⟩ : ∃ r, r = e &&& f := ⟨_, rfl⟩
      obtain ⟨ne, hne⟩ : ∃ r, r = 4294967295 ^^^ e := ⟨_, rfl⟩
      obtain ⟨n2, hn2⟩ : ∃ r, r = ne &&& g := ⟨_, rfl⟩
      obtain ⟨m1, hm1⟩ : ∃ r, r = a &&& b := ⟨_, rfl⟩
      obtain ⟨m2, hm2⟩ : ∃ r, r = a &&& c1 := ⟨_, rfl⟩
      obtain ⟨m3, hm3⟩ : ∃ r, r = b &&& c1 := ⟨_, rfl⟩
      obtain ⟨m12, hm12⟩ : ∃ r, r = m1 ^^^ m2 := ⟨_, rfl⟩
      have ln1 : n1 < 4294967296 := by rw [hn1]; exact and_lt32 oe _
      have lne : ne < 4294967296 := by rw [hne]; exact xor_lt32 (by omega) oe
      have ln2 : n2 < 4294967296 := by rw [hn2]; exact and_lt32 lne _
      have lm1 : m1 < 4294967296 := by rw [hm1]; exact and_lt32 oa _
      have lm2 : m2 < 4294967296 := by rw [hm2]; exact and_lt32 oa _
      have lm3 : m3 < 4294967296 := by rw [hm3]; exact and_lt32 ob _
      have lm12 : m12 < 4294967296 := by rw [hm12]; exact xor_lt32 lm1 lm2
      have e1 : bits .xor .u32 (r1 : Int) (r2 : Int) = (r12 : Int) := by rw [h12]; exact u32_xor_nat r1 r2 l1 l2
      have e2 : bits .xor .u32 (r12 : Int) (r3 : Int) = (Ez : Int) := by rw [u32_xor_nat r12 r3 l12 l3, hEz, h12, hr1, hr2, hr3]; rfl
      have e3 : bits .xor .u32 (r4 : Int) (r5 : Int) = (r45 : Int) := by rw [h45]; exact u32_xor_nat r4 r5 l4 l5
      have e4 : bits .xor .u32 (r45 : Int) (r6 : Int) = (Az : Int) := by rw [u32_xor_nat r45 r6 l45 l6, hAz, h45, hr4, hr5, hr6]; rfl
      have e5 : bits .and .u32 (e : Int) (f : Int) = (n1 : Int) := by rw [hn1]; exact u32_and_nat e f oe of
      have e6 : bits .xor .u32 IntKind.u32.max (e : Int) = (ne : Int) := by rw [hne]; exact u32_xor_nat 4294967295 e (by omega) oe
      have e7 : bits .and .u32 (ne : Int) (g : Int) = (n2 : Int) := by rw [hn2]; exact u32_and_nat ne g lne og
      have e8 : bits .xor .u32 (n1 : Int) (n2 : Int) = (Cz : Int) := by rw [u32_xor_nat n1 n2 ln1 ln2, hCz, hn1, hn2, hne]; rfl
      have e9 : bits .and .u32 (a : Int) (b : Int) = (m1 : Int) := by rw [hm1]; exact u32_and_nat a b oa ob
      have e10 : bits .and .u32 (a : Int) (c1 : Int) = (m2 : Int) := by rw [hm2]; exact u32_and_nat a c1 oa oc
      have e11 : bits .and .u32 (b : Int) (c1 : Int) = (m3 : Int) := by rw [hm3]; exact u32_and_nat b c1 ob oc
      have e12 : bits .xor .u32 (m1 : Int) (m2 : Int) = (m12 : Int) := by rw [hm12]; exact u32_xor_nat m1 m2 lm1 lm2
      have e13 : bits .xor .u32 (m12 : Int) (m3 : Int) = (Mz : Int) := by rw [u32_xor_nat m12 m3 lm12 lm3, hMz, hm12, hm1, hm2, hm3]; rfl
      rw [← hEz, ← hAz, ← hCz, ← hMz] at HSTA
      rw [← hEz, ← hCz] at HSTE
      have R1 := hid (fun w => rot_any e 26 (-6) (by kernel_rfl) (by omega) (by omega) oe w)
      have R2 := hid (fun w => rot_any e 21 (-11) (by kernel_rfl) (by omega) (by omega) oe w)
      have R3 := hid (fun w => rot_any e 7 (-25) (by kernel_rfl) (by omega) (by omega) oe w)
      have R4 := hid (fun w => rot_any a 30 (-2) (by kernel_rfl) (by omega) (by omega) oa w)
      have R5 := hid (fun w => rot_any a 19 (-13) (by kernel_rfl) (by omega) (by omega) oa w)
      have R6 := hid (fun w => rot_any a 10 (-22) (by kernel_rfl) (by omega) (by omega) oa w)
      rw [← hr1] at R1
      rw [← hr2] at R2
      rw [← hr3] at R3
      rw [← hr4] at R4
      rw [← hr5] at R5
      rw [← hr6] at R6
      clear hr1 hr2 hr3 hr4 hr5 hr6 h12 h45 hEz hAz hCz hMz hn1 hne hn2 hm1 hm2 hm3 hm12
      go_wp2_with fail
      refine (R1.out _).mono ?_
      rintro e9 w' ⟨rfl, rfl⟩
      go_wp2_with fail
      refine (R2.out _).mono ?_
      rintro e9 w' ⟨rfl, rfl⟩
      go_wp2_with fail
      refine (R3.out _).mono ?_
      rintro e9 w' ⟨rfl, rfl⟩
      go_wp2_with fail
      refine (R4.out _).mono ?_
      rintro e9 w' ⟨rfl, rfl⟩
      go_wp2_with fail
      refine (R5.out _).mono ?_
      rintro e9 w' ⟨rfl, rfl⟩
      go_wp2_with fail
      refine (R6.out _).mono ?_
      rintro e9 w' ⟨rfl, rfl⟩
      go_wp2_with fail
      go_round
      case rel =>
        have hs9 := hstep.out ()
        refine ⟨t + 1, by omega, by go_num, ?_, by rw [hs9]; rfl, by rw [hs9]; rfl, by rw [hs9]; rfl, ?_, by rw [hs9]; rfl, by rw [hs9]; rfl, by rw [hs9]; rfl⟩
        · rw [hs9, HSTA.out ()]
          exact congrArg (Value.int IntKind.u32) (by omega)
        · rw [hs9, HSTE.out ()]
          exact congrArg (Value.int IntKind.u32) (by omega)
      case measure => simp [intOf]; omega
    · have ht' : t = 64 := by omega
      have hT : ¬ ((t : Int) < 64) := by omega
      obtain ⟨S, hS⟩ : ∃ S, S = rnd s0 KF WF t := ⟨_, rfl⟩
      have hlist := hid (fun (_ : Unit) => (show S.list = (rnd (stOf h) (fun i => KC.getD i 0) (fun t => (schL (fun j => c.getD j 0) 48).getD t 0) 64).list from by rw [hS, HS0.out (), HKF.out, HWF.out, HL.out (), ht']))
      rw [← hS] at hok ⊢
      clear hS ht'
      obtain ⟨a, b, c1, d, e, f, g, k1⟩ := S
      have oa := hok.a
      have ob := hok.b
      have oc := hok.c
      have od := hok.d
      have oe := hok.e
      have of := hok.f
      have og := hok.g
      have oh := hok.h
      simp only at oa ob oc od oe of og oh
      have hvl : ∀ j, (St.list ⟨a, b, c1, d, e, f, g, k1⟩).getD j 0 < 4294967296 := by
        intro j
        unfold St.list
        match j with
        | 0 => exact oa
        | 1 => exact ob
        | 2 => exact oc
        | 3 => exact od
        | 4 => exact oe
        | 5 => exact of
        | 6 => exact og
        | 7 => exact oh
        | j + 8 => show ([] : List Nat).getD j 0 < _; rw [List.getD_nil]; decide
      clear hok
      have H7 := hid (show HashAt w6 hb (cmpTo (fun i => KC.getD i 0) h (fun j => c.getD j 0) 0) c size from by rw [cmpTo_zero _ _ _ HH.out.hl]; exact H6.out)
      have HK7 := hid (Kept.of_below (b := hb) HB6.out)
      have hsc : ∀ j, j < 8 → [(a : Int), b, c1, d, e, f, g, k1].getD j 0 = (((St.list ⟨a, b, c1, d, e, f, g, k1⟩).getD j 0 : Nat) : Int) := fun j hj => by
        have h : j = 0 ∨ j = 1 ∨ j = 2 ∨ j = 3 ∨ j = 4 ∨ j = 5 ∨ j = 6 ∨ j = 7 := by omega
        rcases h with rfl | rfl | rfl | rfl | rfl | rfl | rfl | rfl <;> rfl
      have HSCC := hid hsc
      clear hsc H6
      go_wp2
      go_loopw [137] (fun iv wr => ∃ i : Nat, i ≤ 8 ∧ iv = .int .i64 i ∧ Hid (HashAt wr hb (cmpTo (fun i => KC.getD i 0) h (fun j => c.getD j 0) i) c size) ∧ Hid (Kept hb w wr)) (fun iv _ => 8 - (intOf iv).toNat)
      case atStart => exact ⟨0, by omega, rfl, H7, HK7⟩
      case round =>
        clear H7 HK7
        obtain ⟨i, hi, rfl, H7, HK7⟩ := hrel
        by_cases hi8 : i < 8
        · have hI : (i : Int) < 8 := by omega
          have c1' := H7.out.word i hi8
          rw [cmpTo_getD _ _ _ _ _ hi8, if_neg (by omega)] at c1'
          have f1 := H7.out.free i
          have hidx := fun w' => idx8 (a : Int) b c1 d e f g k1 i hi8 w'
          rw [HSCC.out i hi8] at hidx
          have hvv := hvl i
          have hlv := congrArg (fun l => l.getD i 0) (hlist.out ())
          generalize (St.list ⟨a, b, c1, d, e, f, g, k1⟩).getD i 0 = v at *
          have hst := fun nq => (show HashAt (wr.drewN nq) hb _ c size from H7.out.same rfl).set_word i (ad (h.getD i 0) v) hi8 (ad_lt _ _)
          rw [cmpTo_step _ _ _ _ _ hi8 hlv] at hst
          have HST := hid hst
          have hpl := HH.out.ho i
          clear hst hlv
          generalize h.getD i 0 = p at *
          have hadd : IntKind.u32.wrap ((p : Int) + (v : Int)) = ((ad p v : Nat) : Int) := by rw [IntKind.wrap_u32']; unfold ad; omega
          go_wp2
          refine region_quiet_tail 11 (by kernel_rfl) (by kernel_rfl) ?_
          simp only [List.take_succ_cons, List.take_zero, List.drop_succ_cons, List.drop_zero]
          repeat (quiet_step (fail))
          refine wpQuiet_nil ?_
          intro nq
          go_wp2
          exact ⟨⟨i + 1, by omega, by go_num, hid (HST.out nq), hid ((HK7.out.drewN nq).setCell (p := ⟨hb, i, none⟩) rfl _)⟩, by simp [intOf]; omega⟩
        · obtain rfl : i = 8 := by omega
          go_wp2
          go_end0
          exact ⟨rfl, H7.out, HK7.out⟩
end Go.Proofs.YtahnihihfheegaaDoor

namespace Go.Proofs.YtahnihihfheegaaDoor
open Go.RowKit

theorem ret_int {k : IntKind} {a b : Int} (h : a = b) : Ending.returned (.int k a) = .returned (.int k b) := by rw [h]

theorem and128 (a : Nat) (ha : a < 256) : bits .and .u8 (a : Int) 128 = ((a &&& 128 : Nat) : Int) := u8_and_nat a 128 ha (by omega)
theorem and128_lo : ∀ a : Nat, a < 256 → a < 128 → a &&& 128 = 0 := by decide +kernel
theorem and128_hi : ∀ a : Nat, a < 256 → 128 ≤ a → a &&& 128 = 128 := by decide +kernel

theorem dbl_lo (a : Nat) (h : a < 128) : ((a : Int) * 2) = (Gf.dbl a : Int) := by unfold Gf.dbl; rw [if_pos h]; omega
theorem dbl_hi (a : Nat) (ha : a < 256) (h : ¬ a < 128) : bits .xor .u8 ((a : Int) * 2 % 256) 29 = (Gf.dbl a : Int) := by
  unfold Gf.dbl
  rw [if_neg h, show ((a : Int) * 2 % 256) = ((2 * a - 256 : Nat) : Int) from by omega]
  exact u8_xor_nat _ 29 (by omega) (by omega)
/-- double -/
theorem double_any (a : Nat) (ha : a < 256) (w : World) :
    Calls Tryd.prog 81 #[.int .u8 a] w fun e w' => e = .returned (.int .u8 (Gf.dbl a)) ∧ w = w' := by
  by_cases h : a < 128
  · have h1 : (bits .and .u8 (a : Int) 128 != 0) = false := by rw [and128 a ha, and128_lo a ha h]; rfl
    go_enter Tryd.func81, Tryd.ntmps81
    go_wp2
    go_ret
    exact ⟨ret_int (dbl_lo a h), rfl⟩
  · have h1 : (bits .and .u8 (a : Int) 128 != 0) = true := by rw [and128 a ha, and128_hi a ha (by omega)]; rfl
    go_enter Tryd.func81, Tryd.ntmps81
    go_wp2
    go_ret
    exact ⟨ret_int (dbl_hi a ha h), rfl⟩

theorem mul_pos (b : Nat) (x y : Nat) (hx : x < 256) (hy : y < 256) (x0 : x ≠ 0) (y0 : y ≠ 0) (w : World) (hB : Built w b) :
    Calls Tryd.prog 82 #[.pointer (some ⟨b, 0, none⟩), .int .u8 x, .int .u8 y] w fun e w' => e = .returned (.int .u8 (Gf.tm x y)) ∧ ∃ n, w' = w.drewN n := by
  have c1 := built_log hB x hx x0
  have c2 := built_log hB y hy y0
  have lx := Gf.L_lt x hx
  have ly := Gf.L_lt y hy
  have c3 := built_exp hB (Gf.L x + Gf.L y) (by omega)
  have e1 : ((x : Int) == 0) = false := by simp; omega
  have e2 : ((y : Int) == 0) = false := by simp; omega
  go_enter Tryd.func82, Tryd.ntmps82
  go_wp2
  go_quiet (fail)
  go_wp2
  go_ret
  exact ⟨ret_int (by rw [Gf.tm_log x y hx hy x0 y0]), ⟨nq, rfl⟩⟩

/-- mul -/
theorem mul_any (b : Nat) (x y : Nat) (hx : x < 256) (hy : y < 256) (w : World) (hB : Built w b) :
    Calls Tryd.prog 82 #[.pointer (some ⟨b, 0, none⟩), .int .u8 x, .int .u8 y] w fun e w' => e = .returned (.int .u8 (Gf.tm x y)) ∧ ∃ n, w' = w.drewN n := by
  by_cases x0 : x = 0
  · subst x0
    rw [Gf.tm_zero_left]
    have e1 : (((0 : Nat) : Int) == 0) = true := rfl
    go_enter Tryd.func82, Tryd.ntmps82
    go_wp2
    go_ret
    exact ⟨rfl, ⟨0, rfl⟩⟩
  · by_cases y0 : y = 0
    · subst y0
      rw [Gf.tm_zero_right]
      have e1 : ((x : Int) == 0) = false := by simp; omega
      have e2 : (((0 : Nat) : Int) == 0) = true := rfl
      go_enter Tryd.func82, Tryd.ntmps82
      go_wp2
      go_ret
      exact ⟨rfl, ⟨0, rfl⟩⟩
    · exact mul_pos b x y hx hy x0 y0 w hB

/-- inverse -/
theorem inverse_any (b : Nat) (x : Nat) (hx : x < 256) (x0 : x ≠ 0) (w : World) (hB : Built w b) :
    Calls Tryd.prog 83 #[.pointer (some ⟨b, 0, none⟩), .int .u8 x] w fun e w' => e = .returned (.int .u8 (Gf.iv x)) ∧ ∃ n, w' = w.drewN n := by
  have c1 := built_log hB x hx x0
  have lx := Gf.L_lt x hx
  have c3 := built_exp hB (255 - Gf.L x) (by omega)
  go_enter Tryd.func83, Tryd.ntmps83
  go_wp2
  go_quiet (fail)
  go_wp2
  go_ret
  exact ⟨ret_int rfl, ⟨nq, rfl⟩⟩

end Go.Proofs.YtahnihihfheegaaDoor

namespace Go.Proofs.YtahnihihfheegaaDoor
open Go.RowKit

theorem xor_int (p a : Nat) (hp : p < 256) (ha : a < 256) : bits .xor .u8 (p : Int) (a : Int) = ((p ^^^ a : Nat) : Int) := u8_xor_nat p a hp ha
/-- the product of place i with the other places before j -/
def pnTo (l : List Nat) (i : Nat) : Nat → Nat
  | 0 => 1
  | j + 1 => if i ≠ j then Gf.tm (pnTo l i j) (l.getD i 0 ^^^ l.getD j 0) else pnTo l i j
def scale (l : List Nat) (i : Nat) : Nat := Gf.iv (pnTo l i l.length)
def scalesTo (l : List Nat) (k : Nat) : List Nat := (List.range l.length).map fun i => if i < k then scale l i else 0
def scales (l : List Nat) : List Nat := (List.range l.length).map (scale l)

theorem pnTo_lt (l : List Nat) (hl : ∀ i, l.getD i 0 < 256) (i : Nat) : ∀ j, pnTo l i j < 256
  | 0 => by show 1 < 256; omega
  | j + 1 => by
    unfold pnTo
    split
    · exact Gf.tm_lt _ _ (pnTo_lt l hl i j)
    · exact pnTo_lt l hl i j
theorem xor_ne {a b : Nat} (h : a ≠ b) : a ^^^ b ≠ 0 := fun e => h (by
  have : a ^^^ b ^^^ b = 0 ^^^ b := by rw [e]
  rwa [Nat.xor_assoc, Nat.xor_self, Nat.xor_zero, Nat.zero_xor] at this)
theorem nodup_getD {l : List Nat} (h : l.Nodup) {i j : Nat} (hi : i < l.length) (hj : j < l.length) (hij : i ≠ j) : l.getD i 0 ≠ l.getD j 0 := by
  rw [List.getD_eq_getElem?_getD, List.getD_eq_getElem?_getD, List.getElem?_eq_getElem hi, List.getElem?_eq_getElem hj]
  show l[i] ≠ l[j]
  rcases Nat.lt_or_gt_of_ne hij with h1 | h1
  · exact List.pairwise_iff_getElem.1 h i j hi hj h1
  · exact fun e => List.pairwise_iff_getElem.1 h j i hj hi h1 e.symm
theorem pnTo_pos (l : List Nat) (hl : ∀ i, l.getD i 0 < 256) (hd : l.Nodup) (i : Nat) (hi : i < l.length) : ∀ j, j ≤ l.length → pnTo l i j ≠ 0
  | 0, _ => by show 1 ≠ 0; omega
  | j + 1, hj => by
    unfold pnTo
    split
    · rename_i hij
      exact Gf.tm_pos _ _ (pnTo_lt l hl i j) (Gf.xor_lt (hl i) (hl j)) (pnTo_pos l hl hd i hi j (by omega)) (xor_ne (nodup_getD hd hi (by omega) hij))
    · exact pnTo_pos l hl hd i hi j (by omega)
theorem scalesTo_set (l : List Nat) (k : Nat) (_hk : k < l.length) : (scalesTo l k).set k (scale l k) = scalesTo l (k + 1) := by
  apply List.ext_getElem?
  intro i
  unfold scalesTo
  rw [List.getElem?_set]
  simp only [List.length_map, List.length_range, List.getElem?_map]
  by_cases h : k = i
  · subst h
    rw [if_pos rfl, if_pos (by omega), List.getElem?_range (by omega)]
    simp
  · rw [if_neg h]
    by_cases hi : i < l.length
    · rw [List.getElem?_range hi]
      simp only [Option.map_some]
      by_cases h2 : i < k
      · rw [if_pos h2, if_pos (by omega)]
      · rw [if_neg h2, if_neg (by omega)]
    · rw [List.getElem?_eq_none (by simp; omega)]; rfl
theorem scalesTo_zero (l : List Nat) : scalesTo l 0 = List.replicate l.length 0 := by
  apply List.ext_getElem?
  intro i
  unfold scalesTo
  by_cases hi : i < l.length
  · simp [hi]
  · rw [List.getElem?_eq_none (by simp; omega), List.getElem?_eq_none (by simp; omega)]
theorem scalesTo_all (l : List Nat) : scalesTo l l.length = scales l := by
  unfold scalesTo scales
  apply List.map_congr_left
  intro i hi
  rw [if_pos (List.mem_range.1 hi)]
theorem scalesTo_length (l : List Nat) (k : Nat) : (scalesTo l k).length = l.length := by simp [scalesTo]
theorem scales_length (l : List Nat) : (scales l).length = l.length := by simp [scales]
theorem scales_getD (l : List Nat) (i : Nat) (hi : i < l.length) : (scales l).getD i 0 = scale l i := by
  simp [scales, List.getElem?_map, List.getElem?_range hi]
theorem scales_lt (l : List Nat) : ∀ n ∈ scales l, n < 256 := by
  intro n hn
  unfold scales at hn
  obtain ⟨i, _, rfl⟩ := List.mem_map.1 hn
  exact Gf.iv_lt _

set_option maxRecDepth 100000 in
set_option maxHeartbeats 1000000 in
theorem newLagrange_any (fb : Nat) (b o c : Nat) (l : List Nat) (w : World) (hB : Built w fb) (hl : Bs w (.slice (some ⟨b, o, none⟩) l.length c) l) (hn : l.length ≤ 256) (hd : l.Nodup) :
    Calls Tryd.prog 70 #[.pointer (some ⟨fb, 0, none⟩), .slice (some ⟨b, o, none⟩) l.length c] w fun e w' => ∃ sb, w.heap.size ≤ sb ∧ e = .returned (.agg #[.pointer (some ⟨fb, 0, none⟩), .slice (some ⟨b, o, none⟩) l.length c, .slice (some ⟨sb, 0, none⟩) l.length l.length]) ∧ Own w' sb (scales l) ∧ Below w.heap.size w w' := by
  obtain ⟨n, hnl⟩ : ∃ n, n = l.length := ⟨_, rfl⟩
  have HN := hid hnl
  rw [← hnl] at hl hn ⊢
  clear hnl
  have hmk := mk_u8 n (by omega)
  have hlt := hl.lt
  have HL := hid hlt
  have HD := hid hd
  clear hlt hd
  have hbl : Below w.heap.size w ((w.alloc (Obj.cells #[Value.pointer none, Value.slice none 0 0, Value.slice none 0 0] 99)).alloc (zrow n)) := ((Below.refl _ _).alloc (Nat.le_refl _) _).alloc (by simp) _
  have hown : Own ((w.alloc (Obj.cells #[Value.pointer none, Value.slice none 0 0, Value.slice none 0 0] 99)).alloc (zrow n)) (w.heap.size + 1) (scalesTo l 0) := by
    rw [scalesTo_zero, ← HN.out]
    have := own_zrow (w.alloc (Obj.cells #[Value.pointer none, Value.slice none 0 0, Value.slice none 0 0] 99)) n
    rwa [World.size_alloc] at this
  have hres : ((w.alloc (Obj.cells #[Value.pointer none, Value.slice none 0 0, Value.slice none 0 0] 99)).alloc (zrow n)).heap[w.heap.size]? = some (Obj.cells #[Value.pointer none, Value.slice none 0 0, Value.slice none 0 0] 99) := heap_alloc (heap_new _ _) _
  have Hres := hid hres
  clear hres
  go_enter Tryd.func70, Tryd.ntmps70
  go_wp2
  clear hmk
  go_loopw [16] (fun i wr => ∃ k : Nat, k ≤ n ∧ i = .int .i64 k ∧ Own wr (w.heap.size + 1) (scalesTo l k) ∧ Below w.heap.size w wr ∧ Hid (wr.heap[w.heap.size]? = some (Obj.cells #[Value.pointer none, Value.slice none 0 0, Value.slice none 0 0] 99))) (fun i _ => n - (intOf i).toNat)
  case atStart => exact ⟨0, by omega, rfl, hown, hbl, Hres⟩
  case round =>
    clear hown hbl Hres
    obtain ⟨k, hk, rfl, hown, hbl, Hres⟩ := hrel
    obtain ⟨wo, rfl⟩ : ∃ wo : World, wo = wr := ⟨_, rfl⟩
    have hBo := hB.below hbl hB.lt
    have hlo := hl.below hbl
    by_cases hlt : k < n
    · have ck := hlo.cell k (by rw [← HN.out]; exact hlt)
      have hkl := HL.out k
      generalize hpk : l.getD k 0 = pk at *
      have HPK := hid hpk
      clear hpk
      go_wp2
      go_loopw [8, 9, 10, 23] (fun p _ _ j wr => ∃ m : Nat, m ≤ n ∧ j = .int .i64 m ∧ p = .int .u8 (pnTo l k m) ∧ ∃ q, Hid (wr = wo.drewN q)) (fun _ _ _ j _ => n - (intOf j).toNat)
      case atStart => exact ⟨0, by omega, rfl, rfl, 0, rfl⟩
      case round =>
        obtain ⟨m, hm, rfl, rfl, q, hw⟩ := hrel
        have hw' := hw.out
        subst hw'
        clear hw
        have hBo2 := hBo.drewN q
        have hlo2 := hlo.drewN q
        by_cases hlt2 : m < n
        · have cm := hlo2.cell m (by rw [← HN.out]; exact hlt2)
          have hml := HL.out m
          have hpl := pnTo_lt l HL.out k m
          by_cases hkm : k = m
          · have hb1 : ((k : Int) != (m : Int)) = false := by simp [hkm]
            have hst : pnTo l k (m + 1) = pnTo l k m := by
              show (if k ≠ m then _ else _) = _
              rw [if_neg (by simp [hkm])]
            have HS := hid hst
            clear hst hkm
            go_wp2
            go_roundw
            case rel => exact ⟨m + 1, by omega, by go_num, by rw [HS.out], q, hid rfl⟩
            case measure => simp [intOf]; omega
          · have hb1 : ((k : Int) != (m : Int)) = true := by simp; omega
            have hst : pnTo l k (m + 1) = Gf.tm (pnTo l k m) (pk ^^^ l.getD m 0) := by
              show (if k ≠ m then _ else _) = _
              rw [if_pos hkm, HPK.out]
            have hxi := xor_int pk _ hkl hml
            have hxl := Gf.xor_lt hkl hml
            have HS := hid hst
            clear hst hkm
            generalize l.getD m 0 = pm at *
            generalize pk ^^^ pm = xx at *
            generalize pnTo l k m = pp at *
            go_wp2_with (go_at_call 82; refine (mul_any fb pp xx hpl hxl _ hBo2).mono ?_; rintro e w' ⟨rfl, r, rfl⟩)
            go_roundw
            case rel => exact ⟨m + 1, by omega, by go_num, by rw [HS.out], q + r, hid rfl⟩
            case measure => simp [intOf]; omega
        · obtain rfl : m = n := by omega
          have hpl := pnTo_lt l HL.out k m
          have hpp := pnTo_pos l HL.out HD.out k (by rw [← HN.out]; exact hlt) m (by rw [← HN.out]; omega)
          have hsc : scale l k = Gf.iv (pnTo l k m) := by unfold scale; rw [← HN.out]
          have HSC := hid hsc
          clear hsc
          generalize pnTo l k m = pp at *
          have co := hown.cell k (by rw [scalesTo_length, ← HN.out]; exact hlt)
          have fo := hown.free k
          go_wp2_with (go_at_call 83; refine (inverse_any fb pp hpl hpp _ hBo2).mono ?_; rintro e w' ⟨rfl, r, rfl⟩)
          go_roundw
          case rel =>
            refine ⟨k + 1, by omega, by go_num, ?_, ?_, ?_⟩
            · have h5 := (hown.drewN (q + r)).set k (Gf.iv pp)
              rw [← HSC.out, scalesTo_set l k (by rw [← HN.out]; exact hlt)] at h5
              rw [← HSC.out]
              exact h5
            · exact (bel_drewN hbl _).setCell (by simp) _
            · exact (Below.heap_setCell _ _ _ _ (by simp)).trans Hres.out
          case measure => simp [intOf]; omega
    · obtain rfl : k = n := by omega
      have hres := Hres.out
      have r0 := cell_of_heap hres 0
      have r1 := cell_of_heap hres 1
      have r2 := cell_of_heap hres 2
      have g0 := free_of_heap hres 0
      have g1 := free_of_heap hres 1
      have g2 := free_of_heap hres 2
      clear hres
      go_wp2
      refine bodyPost_ret (v := .agg #[.pointer (some ⟨fb, 0, none⟩), .slice (some ⟨b, o, none⟩) k c, .slice (some ⟨w.heap.size + 1, 0, none⟩) k k]) (by simp [results, Tryd.results70, go_sem, r0, r1, r2]) rfl ⟨w.heap.size + 1, by omega, rfl, ?_, ?_⟩
      · have h5 := hown
        have h6 := scalesTo_all l
        rw [← HN.out] at h6
        rw [h6] at h5
        exact ((h5.setCell (by simp) _).setCell (by simp) _).setCell (by simp) _
      · exact ((hbl.setCell (by simp) _).setCell (by simp) _).setCell (by simp) _
theorem newLagrange_n (fb b o c n : Nat) (l : List Nat) (hnl : n = l.length) (w : World) (hB : Built w fb) (hl : Bs w (.slice (some ⟨b, o, none⟩) n c) l) (hn : n ≤ 256) (hd : l.Nodup) :
    Calls Tryd.prog 70 #[.pointer (some ⟨fb, 0, none⟩), .slice (some ⟨b, o, none⟩) n c] w fun e w' => ∃ sb, w.heap.size ≤ sb ∧ e = .returned (.agg #[.pointer (some ⟨fb, 0, none⟩), .slice (some ⟨b, o, none⟩) n c, .slice (some ⟨sb, 0, none⟩) n n]) ∧ Own w' sb (scales l) ∧ Below w.heap.size w w' := by
  subst hnl
  exact newLagrange_any fb b o c l w hB hl hn hd
end Go.Proofs.YtahnihihfheegaaDoor

namespace Go.Proofs.YtahnihihfheegaaDoor
open Go.RowKit

/-- the product of x with the first k places -/
def pxTo (l : List Nat) (x : Nat) : Nat → Nat
  | 0 => 1
  | k + 1 => Gf.tm (pxTo l x k) (x ^^^ l.getD k 0)
def wt (l sc : List Nat) (x i : Nat) : Nat := Gf.tm (Gf.tm (pxTo l x l.length) (Gf.iv (x ^^^ l.getD i 0))) (sc.getD i 0)
/-- the weights -/
def wts (l sc : List Nat) (x : Nat) : List Nat :=
  if x ∈ l then (List.replicate l.length 0).set (l.idxOf x) 1 else (List.range l.length).map (wt l sc x)
def ints (l : List Nat) : List Int := l.map fun (n : Nat) => (n : Int)
theorem ints_getD (l : List Nat) (i : Nat) : (ints l).getD i 0 = ((l.getD i 0 : Nat) : Int) := by
  unfold ints
  rw [List.getD_eq_getElem?_getD, List.getD_eq_getElem?_getD, List.getElem?_map]
  cases l[i]? <;> rfl
theorem u8_inj : ∀ a : Nat, a < 256 → ∀ b : Nat, b < 256 → ((a : Int).toNat.toUInt8 == (b : Int).toNat.toUInt8) = decide (a = b) := by
  intro a ha b hb
  rw [Bool.eq_iff_iff]
  simp only [Int.toNat_natCast, beq_iff_eq, decide_eq_true_eq]
  constructor
  · intro h
    have := congrArg UInt8.toNat h
    simp at this
    omega
  · intro h; rw [h]
theorem index_ints (x : Nat) (hx : x < 256) : ∀ l : List Nat, (∀ n ∈ l, n < 256) → Lib.indexByte (Lib.bytesOf (ints l)) (x : Int).toNat.toUInt8 = if x ∈ l then ((l.idxOf x : Nat) : Int) else -1
  | [], _ => rfl
  | a :: l, h => by
    have ih := index_ints x hx l (fun n hn => h n (by simp [hn]))
    show (if (a : Int).toNat.toUInt8 == (x : Int).toNat.toUInt8 then (0 : Int) else if Lib.indexByte (Lib.bytesOf (ints l)) (x : Int).toNat.toUInt8 == -1 then -1 else Lib.indexByte (Lib.bytesOf (ints l)) (x : Int).toNat.toUInt8 + 1) = _
    rw [u8_inj a (h a (by simp)) x hx, ih]
    by_cases e : a = x
    · subst e; simp
    · have e' : ¬ x = a := fun h => e h.symm
      by_cases hm : x ∈ l
      · have hne : (((l.idxOf x : Nat) : Int) == -1) = false := by simp
        have he : (a == x) = false := by simp [e]
        simp [e, hm, List.idxOf_cons, hne, he]
      · simp [e, e', hm]

def ixOf (l : List Nat) (x : Nat) : Int := if x ∈ l then ((l.idxOf x : Nat) : Int) else -1
set_option maxRecDepth 100000 in
theorem indexByte_any (b o c : Nat) (l : List Nat) (n x : Nat) (p : Int) (hp : p = ixOf l x) (hx : x < 256) (w : World) (hl : Bs w (.slice (some ⟨b, o, none⟩) n c) l) :
    Calls Tryd.prog 84 #[.slice (some ⟨b, o, none⟩) n c, .int .u8 x] w fun e w' => e = .returned (.int .i64 p) ∧ w = w' := by
  have hnl := hl.len
  have hrun := Lib.run_indexByteSlice (P := Tryd.prog) w b o n c (ints l) (by simp [ints, hnl]) (fun i hi => by rw [ints_getD]; exact hl.cell i (by omega)) x
  have h2 := index_ints x hx l (by obtain ⟨_, _, _, h, _⟩ := hl; exact h)
  rw [h2] at hrun
  unfold ixOf at hp
  rw [← hp] at hrun
  have HRUN := hid hrun
  clear h2 hrun hp hnl
  go_enter Tryd.func84, Tryd.ntmps84
  go_wp2
  rw [run_callFunc_extern Tryd.func92 (by kernel_rfl) (by kernel_rfl) (by kernel_rfl) (e := Extern.BytealgIndexByte.indexByte) (by kernel_rfl), HRUN.out]
  simp only [Result.andThen]
  rw [Oper.upon_value]
  go_wp2
  go_ret
  exact ⟨rfl, rfl⟩

theorem pxTo_lt (l : List Nat) (x : Nat) : ∀ k, pxTo l x k < 256
  | 0 => by show 1 < 256; omega
  | k + 1 => Gf.tm_lt _ _ (pxTo_lt l x k)
def wtsTo (l sc : List Nat) (x k : Nat) : List Nat := (List.range l.length).map fun i => if i < k then wt l sc x i else 0
theorem wtsTo_zero (l sc : List Nat) (x : Nat) : wtsTo l sc x 0 = List.replicate l.length 0 := by
  apply List.ext_getElem?
  intro i
  unfold wtsTo
  by_cases hi : i < l.length
  · simp [hi]
  · rw [List.getElem?_eq_none (by simp; omega), List.getElem?_eq_none (by simp; omega)]
theorem wtsTo_all (l sc : List Nat) (x : Nat) : wtsTo l sc x l.length = (List.range l.length).map (wt l sc x) := by
  unfold wtsTo
  apply List.map_congr_left
  intro i hi
  rw [if_pos (List.mem_range.1 hi)]
theorem wtsTo_length (l sc : List Nat) (x k : Nat) : (wtsTo l sc x k).length = l.length := by simp [wtsTo]
theorem wtsTo_set (l sc : List Nat) (x k : Nat) (_hk : k < l.length) : (wtsTo l sc x k).set k (wt l sc x k) = wtsTo l sc x (k + 1) := by
  apply List.ext_getElem?
  intro i
  unfold wtsTo
  rw [List.getElem?_set]
  simp only [List.length_map, List.length_range, List.getElem?_map]
  by_cases h : k = i
  · subst h
    rw [if_pos rfl, if_pos (by omega), List.getElem?_range (by omega)]
    simp
  · rw [if_neg h]
    by_cases hi : i < l.length
    · rw [List.getElem?_range hi]
      simp only [Option.map_some]
      by_cases h2 : i < k
      · rw [if_pos h2, if_pos (by omega)]
      · rw [if_neg h2, if_neg (by omega)]
    · rw [List.getElem?_eq_none (by simp; omega)]; rfl
theorem wts_length (l sc : List Nat) (x : Nat) : (wts l sc x).length = l.length := by unfold wts; split <;> simp
theorem wts_lt (l sc : List Nat) (x : Nat) : ∀ n ∈ wts l sc x, n < 256 := by
  intro n hn
  unfold wts at hn
  split at hn
  · have := List.mem_or_eq_of_mem_set hn
    rcases this with h | h
    · have := List.eq_of_mem_replicate h; omega
    · omega
  · obtain ⟨i, _, rfl⟩ := List.mem_map.1 hn
    exact Gf.tm_lt _ _ (Gf.tm_lt _ _ (pxTo_lt _ _ _))

set_option maxRecDepth 100000 in
set_option maxHeartbeats 1000000 in
theorem weights_any (fb : Nat) (b o c sb so sc : Nat) (l scl : List Nat) (x : Nat) (hx : x < 256) (w : World) (hB : Built w fb) (hl : Bs w (.slice (some ⟨b, o, none⟩) l.length c) l) (hs : Bs w (.slice (some ⟨sb, so, none⟩) l.length sc) scl) (hn : l.length ≤ 256) :
    Calls Tryd.prog 71 #[.agg #[.pointer (some ⟨fb, 0, none⟩), .slice (some ⟨b, o, none⟩) l.length c, .slice (some ⟨sb, so, none⟩) l.length sc], .int .u8 x] w fun e w' => ∃ ob, w.heap.size ≤ ob ∧ e = .returned (.slice (some ⟨ob, 0, none⟩) l.length l.length) ∧ Own w' ob (wts l scl x) ∧ Below w.heap.size w w' := by
  obtain ⟨n, hnl⟩ : ∃ n, n = l.length := ⟨_, rfl⟩
  have HN := hid hnl
  rw [← hnl] at hl hs hn ⊢
  clear hnl
  have hmk := mk_u8 n (by omega)
  have HL := hid hl.lt
  have HSL := hid hs.lt
  by_cases hm : x ∈ l
  · obtain ⟨p, hp⟩ : ∃ p, p = l.idxOf x := ⟨_, rfl⟩
    have hpn : p < n := by rw [hp, HN.out]; exact List.idxOf_lt_length_of_mem hm
    have hwt : wts l scl x = (List.replicate n 0).set p 1 := by unfold wts; rw [if_pos hm, ← HN.out, hp]
    have hix : (p : Int) = ixOf l x := by unfold ixOf; rw [if_pos hm, hp]
    rw [hwt]
    have HIX := hid hix
    clear hix hwt hp hm hs HL HSL
    have hge : (0 : Int) ≤ (p : Int) := by omega
    have ho := own_zrow (w.alloc (Obj.cells #[Value.pointer (some ⟨fb, 0, none⟩), Value.slice (some ⟨b, o, none⟩) n c, Value.slice (some ⟨sb, so, none⟩) n sc] 99)) n
    rw [World.size_alloc] at ho
    have hc := ho.cell p (by simpa using hpn)
    have hf := ho.free p
    have hb : Below w.heap.size w ((w.alloc (Obj.cells #[Value.pointer (some ⟨fb, 0, none⟩), Value.slice (some ⟨b, o, none⟩) n c, Value.slice (some ⟨sb, so, none⟩) n sc] 99)).alloc (zrow n)) := ((Below.refl _ _).alloc (Nat.le_refl _) _).alloc (by simp) _
    go_enter Tryd.func71, Tryd.ntmps71
    go_wp2_with (go_at_call 84; refine (indexByte_any b o c l n x p HIX.out hx _ ((hl.alloc _).alloc _)).mono ?_; rintro e w' ⟨rfl, rfl⟩)
    go_ret
    exact ⟨w.heap.size + 1, by omega, rfl, ho.set p 1, hb.setCell (by simp) _⟩
  · have hwt : wts l scl x = wtsTo l scl x n := by unfold wts; rw [if_neg hm, HN.out, wtsTo_all]
    have hix : (-1 : Int) = ixOf l x := by unfold ixOf; rw [if_neg hm]
    have hne : ∀ i, i < n → x ≠ l.getD i 0 := fun i hi e => hm (by
      rw [e, List.getD_eq_getElem?_getD, List.getElem?_eq_getElem (by rw [← HN.out]; exact hi)]
      exact List.getElem_mem _)
    rw [hwt]
    have HIX := hid hix
    have HNE := hid hne
    clear hix hwt hm hne
    have ho := own_zrow (w.alloc (Obj.cells #[Value.pointer (some ⟨fb, 0, none⟩), Value.slice (some ⟨b, o, none⟩) n c, Value.slice (some ⟨sb, so, none⟩) n sc] 99)) n
    rw [World.size_alloc, HN.out, ← wtsTo_zero l scl x, ← HN.out] at ho
    have hb : Below w.heap.size w ((w.alloc (Obj.cells #[Value.pointer (some ⟨fb, 0, none⟩), Value.slice (some ⟨b, o, none⟩) n c, Value.slice (some ⟨sb, so, none⟩) n sc] 99)).alloc (zrow n)) := ((Below.refl _ _).alloc (Nat.le_refl _) _).alloc (by simp) _
    have hbox : ((w.alloc (Obj.cells #[Value.pointer (some ⟨fb, 0, none⟩), Value.slice (some ⟨b, o, none⟩) n c, Value.slice (some ⟨sb, so, none⟩) n sc] 99)).alloc (zrow n)).heap[w.heap.size]? = some (Obj.cells #[Value.pointer (some ⟨fb, 0, none⟩), Value.slice (some ⟨b, o, none⟩) n c, Value.slice (some ⟨sb, so, none⟩) n sc] 99) := heap_alloc (heap_new _ _) _
    have HBOX := hid hbox
    clear hbox
    go_enter Tryd.func71, Tryd.ntmps71
    go_wp2_with (go_at_call 84; refine (indexByte_any b o c l n x (-1) HIX.out hx _ ((hl.alloc _).alloc _)).mono ?_; rintro e w' ⟨rfl, rfl⟩)
    generalize hw1 : (w.alloc (Obj.cells #[Value.pointer (some ⟨fb, 0, none⟩), Value.slice (some ⟨b, o, none⟩) n c, Value.slice (some ⟨sb, so, none⟩) n sc] 99)).alloc (zrow n) = w1 at *
    clear hw1
    have hB1 := hB.below hb hB.lt
    have hl1 := hl.below hb
    have hs1 := hs.below hb
    go_loopw [8, 10, 32] (fun p _ j wr => ∃ m : Nat, m ≤ n ∧ j = .int .i64 m ∧ p = .int .u8 (pxTo l x m) ∧ ∃ q, Hid (wr = w1.drewN q)) (fun _ _ j _ => n - (intOf j).toNat)
    case atStart => exact ⟨0, by omega, rfl, rfl, 0, rfl⟩
    case round =>
      obtain ⟨m, hm, rfl, rfl, q, hw⟩ := hrel
      have hw' := hw.out
      subst hw'
      clear hw
      by_cases hlt : m < n
      · have cm := (hl1.drewN q).cell m (by rw [← HN.out]; exact hlt)
        have hml := HL.out m
        have hpl := pxTo_lt l x m
        have hst : pxTo l x (m + 1) = Gf.tm (pxTo l x m) (x ^^^ l.getD m 0) := rfl
        have HS := hid hst
        clear hst
        generalize l.getD m 0 = pm at *
        have hxi := u8_xor_nat x pm hx hml
        have hxl := Gf.xor_lt hx hml
        generalize x ^^^ pm = xx at *
        generalize pxTo l x m = pp at *
        go_wp2_with (go_at_call 82; refine (mul_any fb pp xx hpl hxl _ (hB1.drewN q)).mono ?_; rintro e w' ⟨rfl, r, rfl⟩)
        go_roundw
        case rel => exact ⟨m + 1, by omega, by go_num, by rw [HS.out], q + r, hid rfl⟩
        case measure => simp [intOf]; omega
      · obtain rfl : m = n := by omega
        have hx0 : (w1.drewN q).cell? ⟨w.heap.size, 0, none⟩ = some (Value.pointer (some ⟨fb, 0, none⟩)) := cell_of_heap HBOX.out 0
        have hx1 : (w1.drewN q).cell? ⟨w.heap.size, 1, none⟩ = some (Value.slice (some ⟨b, o, none⟩) m c) := cell_of_heap HBOX.out 1
        have hpx := pxTo_lt l x m
        have hpe : ∀ i, i < m → wt l scl x i = Gf.tm (Gf.tm (pxTo l x m) (Gf.iv (x ^^^ l.getD i 0))) (scl.getD i 0) := fun i _ => by unfold wt; rw [← HN.out]
        have HPE := hid hpe
        clear hpe
        generalize pxTo l x m = pp at *
        go_wp2
        clear hmk hx0 hx1
        go_loopw [11, 12, 46] (fun _ _ j wr => ∃ k : Nat, k ≤ m ∧ j = .int .i64 k ∧ Own wr (w.heap.size + 1) (wtsTo l scl x k) ∧ Below w.heap.size w wr ∧ Hid (wr.heap[w.heap.size]? = some (Obj.cells #[Value.pointer (some ⟨fb, 0, none⟩), Value.slice (some ⟨b, o, none⟩) m c, Value.slice (some ⟨sb, so, none⟩) m sc] 99))) (fun _ _ j _ => m - (intOf j).toNat)
        case atStart => exact ⟨0, by omega, rfl, ho.drewN q, bel_drewN hb q, hid HBOX.out⟩
        case round =>
          clear ho hb HBOX
          obtain ⟨k, hk, rfl, ho, hb, HBOX⟩ := hrel
          have hBr := hB.below hb hB.lt
          by_cases hlt2 : k < m
          · have ck := (hl.below hb).cell k (by rw [← HN.out]; exact hlt2)
            have cs := (hs.below hb).cell k (by rw [← hs.len]; exact hlt2)
            have hx2 : wr.cell? ⟨w.heap.size, 2, none⟩ = some (Value.slice (some ⟨sb, so, none⟩) m sc) := cell_of_heap HBOX.out 2
            have co := ho.cell k (by rw [wtsTo_length, ← HN.out]; exact hlt2)
            have fo := ho.free k
            have hkl := HL.out k
            have hks := HSL.out k
            have hwk := HPE.out k hlt2
            have hne := HNE.out k hlt2
            generalize l.getD k 0 = pk at *
            generalize scl.getD k 0 = sk at *
            have hxi := u8_xor_nat x pk hx hkl
            have hxl := Gf.xor_lt hx hkl
            have hx0 := xor_ne hne
            have hil := Gf.iv_lt (x ^^^ pk)
            have hml := Gf.tm_lt pp (Gf.iv (x ^^^ pk)) hpx
            have HWK := hid hwk
            clear hwk hne
            generalize x ^^^ pk = xx at *
            have HX0 := hid hx0
            clear hx0
            generalize hqq : Gf.tm pp (Gf.iv xx) = qq at *
            have HQQ := hid hqq
            clear hqq
            have hmul2 : ∀ w, Built w fb → Calls Tryd.prog 82 #[.pointer (some ⟨fb, 0, none⟩), .int .u8 pp, .int .u8 (Gf.iv xx)] w fun e w' => e = .returned (.int .u8 qq) ∧ ∃ n, w' = w.drewN n := fun w hw => by
              have := mul_any fb pp (Gf.iv xx) hpx hil w hw
              rwa [HQQ.out] at this
            have HM2 := hid hmul2
            clear hmul2
            go_wp2
            refine region_quiet_tail 18 (by kernel_rfl) (by kernel_rfl) ?_
            simp only [List.take_succ_cons, List.take_zero, List.drop_succ_cons, List.drop_zero]
            repeat (quiet_step ((first | (go_at_call 83; exact Calls.quiet_of (inverse_any fb xx hxl HX0.out _ (hBr.drewN _))) | (go_at_call_of 82 (Value.int .u8 (sk : Int)); exact Calls.quiet_of (mul_any fb qq sk hml hks _ (hBr.drewN _))) | (go_at_call 82; exact Calls.quiet_of (HM2.out _ (hBr.drewN _))))))
            refine wpQuiet_nil ?_
            intro nq
            go_wp2
            refine ⟨⟨k + 1, by omega, by go_num, ?_, ?_, ?_⟩, by simp [intOf]; omega⟩
            · have h5 := (ho.drewN nq).set k (Gf.tm qq sk)
              rw [← wtsTo_set l scl x k (by rw [← HN.out]; exact hlt2), HWK.out]
              exact h5
            · exact (bel_drewN hb _).setCell (by simp) _
            · exact (Below.heap_setCell _ _ _ _ (by simp)).trans HBOX.out
          · obtain rfl : k = m := by omega
            go_wp2
            go_ret
            exact ⟨w.heap.size + 1, by omega, rfl, ho, hb⟩
theorem weights_n (fb : Nat) (b o c sb so sc n : Nat) (l scl : List Nat) (x : Nat) (hnl : n = l.length) (hx : x < 256) (w : World) (hB : Built w fb) (hl : Bs w (.slice (some ⟨b, o, none⟩) n c) l) (hs : Bs w (.slice (some ⟨sb, so, none⟩) n sc) scl) (hn : n ≤ 256) :
    Calls Tryd.prog 71 #[.agg #[.pointer (some ⟨fb, 0, none⟩), .slice (some ⟨b, o, none⟩) n c, .slice (some ⟨sb, so, none⟩) n sc], .int .u8 x] w fun e w' => ∃ ob, w.heap.size ≤ ob ∧ e = .returned (.slice (some ⟨ob, 0, none⟩) n n) ∧ Own w' ob (wts l scl x) ∧ Below w.heap.size w w' := by
  subst hnl
  exact weights_any fb b o c sb so sc l scl x hx w hB hl hs hn
end Go.Proofs.YtahnihihfheegaaDoor

namespace Go.Proofs.YtahnihihfheegaaDoor
open Go.RowKit

/-- the first k bytes from so on have got their multiple -/
def axTo (L : List Nat) (so : Nat) (bl : List Nat) (f : Nat) : Nat → List Nat
  | 0 => L
  | k + 1 => (axTo L so bl f k).set (so + k) ((axTo L so bl f k).getD (so + k) 0 ^^^ Gf.tm f (bl.getD k 0))
theorem axTo_length (L : List Nat) (so : Nat) (bl : List Nat) (f : Nat) : ∀ k, (axTo L so bl f k).length = L.length
  | 0 => rfl
  | k + 1 => by simp [axTo, axTo_length L so bl f k]
theorem axTo_getD (L : List Nat) (so : Nat) (bl : List Nat) (f : Nat) : ∀ k, so + k ≤ L.length → ∀ i, (axTo L so bl f k).getD i 0 = if so ≤ i ∧ i < so + k then L.getD i 0 ^^^ Gf.tm f (bl.getD (i - so) 0) else L.getD i 0
  | 0, _, i => by rw [if_neg (by omega)]; rfl
  | k + 1, hk, i => by
    have ih := axTo_getD L so bl f k (by omega)
    have hlen := axTo_length L so bl f k
    unfold axTo
    rw [List.getD_eq_getElem?_getD, List.getElem?_set]
    by_cases h : so + k = i
    · rw [if_pos h, if_pos (by omega), if_pos (by omega), ← h, ih, if_neg (by omega), show so + k - so = k from by omega]
      rfl
    · rw [if_neg h, ← List.getD_eq_getElem?_getD, ih]
      by_cases h2 : so ≤ i ∧ i < so + k
      · rw [if_pos h2, if_pos (by omega)]
      · rw [if_neg h2, if_neg (by omega)]

set_option maxRecDepth 100000 in
set_option maxHeartbeats 1000000 in
theorem addScaled_any (fb sb so n sc : Nat) (L : List Nat) (ba : Option Addr) (bb bo bn bc : Nat) (bl : List Nat) (f : Nat) (w : World) (hB : Built w fb) (hL : Own w sb L) (hfs : fb ≠ sb) (hso : so + n ≤ L.length) (hba : 0 < n → ba = some ⟨bb, bo, none⟩) (hbn : n ≤ bn) (hbl : bn ≤ 4611686018427387904) (hn : n ≤ 4611686018427387904) (hf : f < 256) (hbl2 : ∀ i, bl.getD i 0 < 256) (hL2 : ∀ i, L.getD i 0 < 256)
    (hrd : ∀ k, k < n → ∀ w', Own w' sb (axTo L so bl f k) → (∀ j, j < w.heap.size → j ≠ sb → w'.heap[j]? = w.heap[j]?) → w'.cell? ⟨bb, bo + k, none⟩ = some (.int .u8 (bl.getD k 0))) :
    Calls Tryd.prog 72 #[.pointer (some ⟨fb, 0, none⟩), .slice (some ⟨sb, so, none⟩) n sc, .slice ba bn bc, .int .u8 f] w fun e w' => e = .returned (.tuple #[]) ∧ Own w' sb (axTo L so bl f n) ∧ Kept sb w w' := by
  have HR := hid hrd
  have HA := hid hba
  have HL2 := hid hL2
  have HB2 := hid hbl2
  clear hrd hba hL2 hbl2
  go_enter Tryd.func72, Tryd.ntmps72
  go_wp2
  go_loopw [11] (fun i wr => ∃ k : Nat, k ≤ n ∧ i = .int .i64 k ∧ Own wr sb (axTo L so bl f k) ∧ Kept sb w wr) (fun i _ => n - (intOf i).toNat)
  case atStart => exact ⟨0, by omega, rfl, hL, Kept.refl _ _⟩
  case round =>
    obtain ⟨k, hk, rfl, hown, hkept⟩ := hrel
    have hBr : Built wr fb := (hkept.block fb hB.lt hfs).trans hB
    by_cases hlt : k < n
    · have ca := HA.out (by omega)
      subst ca
      have cb := HR.out k hlt wr hown hkept.block
      have cs := hown.cell (so + k) (by rw [axTo_length]; omega)
      have fs := hown.free (so + k)
      have lb := HB2.out k
      have ls : (axTo L so bl f k).getD (so + k) 0 < 256 := by
        rw [axTo_getD _ _ _ _ _ (by omega)]
        split
        · exact Gf.xor_lt (HL2.out _) (Gf.tm_lt _ _ hf)
        · exact HL2.out _
      have hst : axTo L so bl f (k + 1) = (axTo L so bl f k).set (so + k) ((axTo L so bl f k).getD (so + k) 0 ^^^ Gf.tm f (bl.getD k 0)) := rfl
      have HS := hid hst
      clear hst
      generalize hz : (axTo L so bl f k).getD (so + k) 0 = z at *
      have HZ := hid hz
      clear hz
      have hx := hid (u8_xor_nat z (Gf.tm f (bl.getD k 0)) ls (Gf.tm_lt _ _ hf))
      generalize bl.getD k 0 = y at *
      have hmul := fun w hB => mul_any fb f y hf lb w hB
      go_wp2
      go_region_with (go_at_call 82; refine (mul_any fb f y hf lb _ (by first | exact hBr | exact hBr.drewN _)).mono ?_; rintro e w' ⟨rfl, r, rfl⟩)
      all_goals
        go_wp2
        go_roundw
        case rel =>
          refine ⟨k + 1, by omega, by go_num, ?_, ?_⟩
          · rw [HS.out, hx.out]
            refine Own.set ?_ _ _
            exact hown
          · refine Kept.setCell (p := ⟨sb, so + k, none⟩) ?_ rfl _
            exact ⟨hkept.os, hkept.tape, hkept.output, hkept.size, hkept.block⟩
        case measure => simp [intOf]; omega
    · obtain rfl : k = n := by omega
      go_wp2
      go_end0
      exact ⟨rfl, hown, hkept⟩
theorem addScaled_bs (fb sb so n sc : Nat) (L : List Nat) (ba : Option Addr) (bc : Nat) (bl : List Nat) (f : Nat) (w : World) (hB : Built w fb) (hL : Own w sb L) (hfs : fb ≠ sb) (hso : so + n ≤ L.length) (hb : Bs w (.slice ba n bc) bl) (ho : 0 < n → Off sb (.slice ba n bc)) (hn : n ≤ 4611686018427387904) (hf : f < 256) (hL2 : ∀ i, L.getD i 0 < 256) :
    Calls Tryd.prog 72 #[.pointer (some ⟨fb, 0, none⟩), .slice (some ⟨sb, so, none⟩) n sc, .slice ba n bc, .int .u8 f] w fun e w' => e = .returned (.tuple #[]) ∧ Own w' sb (axTo L so bl f n) ∧ Kept sb w w' := by
  have hl := hb.len
  rcases hb.addr with ⟨h0, _⟩ | ⟨h0, bb, bo, c, hv⟩
  · have hn0 : n = 0 := by rw [hl, h0]; rfl
    exact addScaled_any fb sb so n sc L ba 0 0 n bc bl f w hB hL hfs hso (fun h => by omega) (Nat.le_refl _) hn hn hf hb.lt hL2 (fun k hk => by omega)
  · simp only [Value.slice.injEq] at hv
    obtain ⟨rfl, _, _⟩ := hv
    refine addScaled_any fb sb so n sc L _ bb bo n bc bl f w hB hL hfs hso (fun _ => rfl) (Nat.le_refl _) hn hn hf hb.lt hL2 (fun k hk w' _ hw' => ?_)
    have hc := hb.cell k (by omega)
    have hbs : bb ≠ sb := ho (by omega)
    have hlt := World.block_lt_of_cell? _ _ hc
    rw [World.cell?_of_block (w := w) (hw' bb hlt hbs)]
    exact hc
end Go.Proofs.YtahnihihfheegaaDoor
